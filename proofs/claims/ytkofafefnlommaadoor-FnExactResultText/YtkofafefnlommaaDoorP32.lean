/- Texts of this claim, one behind the other: IRowText. -/
import Derived.Test.YtkofafefnlommaaDoorP30
import Derived.Test.YtkofafefnlommaaDoorP18
import Derived.Test.YtkofafefnlommaaDoorP11
import Derived.Test.YtkofafefnlommaaDoorP13
import Derived.RangeFuncBox
import Derived.Test.YtkofafefnlommaaDoorP6

/- The contract of impl's RowText. -/
namespace Go.Proofs.YtkofafefnlommaaDoor
open Go.RowKit Go.Shelf

attribute [local go_sem] Oper.semAt_some

theorem keeps_below {W W' : World} (h : Below W.heap.size W W') : KeepsOthers W W' := KeepsOthers.of_grownBy (grown_of_below h) (fun _ _ e _ => by cases e)
theorem row_kept {W W' : World} {row : Option Nat} {lo : Nat} {e : TypeId} {size g n cap : Nat} {xs : List Value} (h : W.ownsRow lo e size (.slice (some ⟨g, 0, none⟩) n cap) n xs) (hg : W.grownBy W' row) (hr : ∀ r, row = some r → ∃ o : Obj, W.heap[r]? = some o ∧ o.isCells = false) : W'.ownsRow lo e size (.slice (some ⟨g, 0, none⟩) n cap) n xs := by
  refine h.kept hg (.inr fun e0 => ?_)
  rcases h.2 with ⟨h', _⟩ | ⟨g', cap', cur, h', _, hc, _⟩
  · simp at h'
  · simp only [Value.slice.injEq, Option.some.injEq, Addr.mk.injEq, and_true, true_and] at h'
    obtain ⟨rfl, rfl⟩ := h'
    obtain ⟨o, ho, hf⟩ := hr g (by simpa [Value.ownBlock] using e0.symm)
    rw [hc] at ho
    cases ho
    cases hf

/-- The texts of a row: its number's, then its values'. -/
theorem rowText_join (d : ByteArray) (l : List V) : l.foldl addText d = ⟨(Lib.join ((d :: l.map valText).map (·.data.toList)) [32]).toArray⟩ := by
  rw [List.map_cons, Lib.join_cons]
  induction l generalizing d with
  | nil => simp [Lib.joinTail]
  | cons v l ih =>
    rw [List.foldl_cons, ih]
    unfold addText
    simp [Lib.joinTail]

set_option maxRecDepth 100000 in
set_option maxHeartbeats 8000000 in
theorem iRowText : CRowText := by
  intro r u w h0 h1 hn hss h hT
  have B0 := below_alloc w (.cells #[.int .i64 r.id, u] 91)
  have T0 := two_new w (.int .i64 r.id) u 91
  obtain ⟨i, l⟩ := r
  simp only at h0 h1 hn hss B0 T0
  have HE : Hid (rowText ⟨i, l⟩ = ⟨(Lib.join (((⟨#[35]⟩ ++ ⟨(Lib.itoa i).toArray⟩) :: l.map valText).map (·.data.toList)) [32]).toArray⟩) := rowText_join _ _
  have HZ : Hid ((rowText ⟨i, l⟩).size ≤ 22 + 12 * l.length) := by
    have h2 := foldText_size l (⟨#[35]⟩ ++ ⟨(Lib.itoa i).toArray⟩)
    have h3 : (Lib.itoa i).length ≤ 21 := Lib.itoa_length_le i h0 h1
    have h4 : (⟨#[35]⟩ ++ ⟨(Lib.itoa i).toArray⟩ : ByteArray).size = 1 + (Lib.itoa i).length := by rw [ByteArray.size_append]; simp [ByteArray.size]
    show (rowText ⟨i, l⟩).size ≤ _
    unfold rowText
    simp only
    omega
  have HN := Lib.hid (fun W hW => iNumText i W h0 h1 hW)
  have hz : (Lib.itoa i).length ≤ 21 := Lib.itoa_length_le i h0 h1
  generalize hl : l.length = m at hn HZ
  obtain ⟨a, cap, rfl, hm, _⟩ := id h
  have HR : Hid (Rd 3 w (.slice a m cap) m (vals l)) := by
    have := h
    unfold R.rd at this
    simp only [hl] at this
    exact this
  have HL := Lib.hid hl
  have HM : Hid (m ≤ maxLen) := by simp only [hl] at hm; exact hm
  have HSS : Hid (∀ k, k < m → (l.getD k V.zero).s.size ≤ maxLen) := fun k hk => by
    have hk' : k < l.length := by omega
    have e : l.getD k V.zero = l[k] := by simp [hk']
    rw [e]
    exact hss _ (List.getElem_mem hk')
  have hz2 : (⟨(Lib.itoa i).toArray⟩ : ByteArray).size ≤ 21 := by simpa [ByteArray.size] using hz
  have HTB := Lib.hid hT
  generalize hq : rowText ⟨i, l⟩ = q at HE HZ ⊢
  generalize (⟨(Lib.itoa i).toArray⟩ : ByteArray) = d at HE HN hz2
  have hno : ¬ 9223372036854775807 < 1 + d.size := by omega
  simp only [hl] at B0 T0 ⊢
  clear h hss hz hq hl hT hm
  refine (callsIn_wide (n := 3)).1 ?_
  refine callsIn_of_wp_marks Tryd.func91 rfl trivial ?_ rfl
  simp only [Tryd.ntmps91, List.size_toArray, List.length_cons, List.length_nil, Nat.reduceAdd, Nat.reduceSub, Array.replicate_succ, Array.replicate_zero, List.push_toArray, List.append_toArray, List.nil_append, List.cons_append]
  gi_wp2_with fail
  refine ⟨trivial, ?_⟩
  gi_at_call 55
  refine (callsIn_wide.2 (HN.out _ (HTB.out.below B0))).mono ?_
  rintro e w1 ⟨rfl, b1⟩
  have B1 := below_then B0 b1 B0.size
  have ba := below_alloc2 w1 (.cells #[.string (⟨#[35]⟩ ++ d)] 9) (.cells #[.slice (some ⟨w1.heap.size, 0, none⟩) 1 1] 64)
  have t1 := ((T0.below b1).below ba).1.2
  have bT := (Boxed.new (w1.alloc (.cells #[.string (⟨#[35]⟩ ++ d)] 9)) 64 (.slice (some ⟨w1.heap.size, 0, none⟩) 1 1)).alloc (.cells #[.slice a m cap] 89)
  have bN := Boxed.new ((w1.alloc (.cells #[.string (⟨#[35]⟩ ++ d)] 9)).alloc (.cells #[.slice (some ⟨w1.heap.size, 0, none⟩) 1 1] 64)) 89 (.slice a m cap)
  have oT := (((own_lit (e := 9) (size := 1) w1 #[.string (⟨#[35]⟩ ++ d)] 1 (by unfold maxLen; omega) rfl).alloc (.cells #[.slice (some ⟨w1.heap.size, 0, none⟩) 1 1] 64)).alloc (.cells #[.slice a m cap] 89)).row
  simp only [World.size_alloc] at bT bN
  have hB0 : Below w.heap.size w (((w1.alloc (.cells #[.string (⟨#[35]⟩ ++ d)] 9)).alloc (.cells #[.slice (some ⟨w1.heap.size, 0, none⟩) 1 1] 64)).alloc (.cells #[.slice a m cap] 89)) := ((B1.alloc B1.size _).alloc (by simp; have := B1.size; omega) _).alloc (by simp; have := B1.size; omega) _
  have hsz : (((w1.alloc (.cells #[.string (⟨#[35]⟩ ++ d)] 9)).alloc (.cells #[.slice (some ⟨w1.heap.size, 0, none⟩) 1 1] 64)).alloc (.cells #[.slice a m cap] 89)).heap.size = w1.heap.size + 3 := by simp
  have hw1 := B1.size
  have HLOW : Hid (w.heap.size ≤ w1.heap.size) := B1.size
  clear b1 T0 B0 HN ba B1
  gi_wp2_with (refine ⟨trivial, ?_⟩; gi_at_call 102; refine (each_in Fence.wide _ trivial rfl _ _ _ _).mono ?_; rintro e w' ⟨rfl, rfl⟩)
  clear t1
  obtain ⟨W0, hW0⟩ : ∃ W0, ((w1.alloc (.cells #[.string (⟨#[35]⟩ ++ d)] 9)).alloc (.cells #[.slice (some ⟨w1.heap.size, 0, none⟩) 1 1] 64)).alloc (.cells #[.slice a m cap] 89) = W0 := ⟨_, rfl⟩
  rw [hW0] at bT bN oT hB0 hsz ⊢
  clear hW0
  generalize hlo : w1.heap.size = lo at *
  refine wpIn_rangeFunc_ownH rfl (by omega) (gf := 106) (lb := #[.pointer (some ⟨lo + 1 + 1, 0, none⟩)]) rfl trivial (enters_of Tryd.func106 (by kernel_rfl) rfl)
    (each_stops Fence.wide _ trivial rfl (by omega) (lo + 1 + 1) m cap a l w W0 HM.out HL.out HR.out hB0 (by omega) bN.cell) belowK_t (belowK_b (by omega)) (Below.refl _ _) (fun _ => rfl)
    (fun (pre : List (Fin m)) W => (∃ g cp, lo ≤ g ∧ Boxed W (lo + 1) 64 (.slice (some ⟨g, 0, none⟩) (pre.length + 1) cp) ∧ W.ownsRow lo 9 1 (.slice (some ⟨g, 0, none⟩) (pre.length + 1) cp) (pre.length + 1) (strs (((⟨#[35]⟩ : ByteArray) ++ d) :: pre.map fun k => valText (l.getD k.1 V.zero)))) ∧ Below w.heap.size w W)
    (fun _ _ _ => False)
    (OwnFrom.and (Own.from (fun s X Y row hs hg hr => by obtain ⟨g, cp, q1, q2, q3⟩ := hs; exact ⟨g, cp, q1, boxed_own (lo + 1) 64 (fun (_ : Unit) => Value.slice (some ⟨g, 0, none⟩) (s.length + 1) cp) () X Y row q2 hg hr, row_kept q3 hg hr⟩) _) (ownFrom_below (Nat.le_refl _) (by omega)))
    (fun _ _ _ _ _ hs _ _ => hs)
    ⟨⟨lo, 1, Nat.le_refl _, bT, oT⟩, hB0⟩
    (fun x a' W => ∃ Bx, (W.cell? ⟨Bx, 0, none⟩ = some (.int .i64 (l.getD x.1 V.zero).ty) ∧ W.cell? ⟨Bx, 1, none⟩ = some (.int .i64 (l.getD x.1 V.zero).n) ∧ W.cell? ⟨Bx, 2, none⟩ = some (.string (l.getD x.1 V.zero).s)) ∧ a' = { tmps := #[.agg #[.int .i64 i, .slice a m cap], .pointer (some ⟨w.heap.size, 0, none⟩), .string ⟨#[]⟩, .pointer (some ⟨lo + 1, 0, none⟩), undef, .pointer (some ⟨Bx, 0, none⟩), .pointer (some ⟨w.heap.size, 0, none⟩), .int .i64 i, .string d, .string (⟨#[35]⟩ ++ d), .slice (some ⟨lo, 0, none⟩) 1 1, .pointer (some ⟨w.heap.size, 1, none⟩), .slice a m cap, .func (.func 106) #[] #[.pointer (some ⟨lo + 1 + 1, 0, none⟩)], .int .i64 (x.1 : Int), (l.getD x.1 V.zero).agg, undef, undef, undef, undef, undef, undef, undef], defers := [] })
    (fun x a' _ X Y row hs hg hr => by obtain ⟨Bx, ⟨h1, h2, h3⟩, h4⟩ := hs; exact ⟨Bx, ⟨cell_kept h1 hg (fun r e => (hr r e).2), cell_kept h2 hg (fun r e => (hr r e).2), cell_kept h3 hg (fun r e => (hr r e).2)⟩, h4⟩)
    ?assign ?body ?done ?stop
  case assign =>
    rintro lp pre ⟨k, hk⟩ W K ⟨⟨g, cp, q1, q2, q3⟩, hB1⟩ hK
    unfold ecs
    simp only at hK ⊢
    generalize hx : l.getD k V.zero = x at hK ⊢
    obtain ⟨t2, n2, s2⟩ := x
    have HK2 := Lib.hid (hK _ (W.alloc (.cells #[.int .i64 t2, .int .i64 n2, .string s2] 29)) ((KeepsOthers.alloc _ _).from _) ((Below.refl _ W).alloc hB1.size _) ⟨⟨g, cp, q1, q2.alloc _, q3.alloc _⟩, hB1.alloc hB1.size _⟩ ⟨W.heap.size, ⟨by simp, by simp, by simp⟩, rfl⟩)
    clear hK
    gi_wp2
    exact HK2.out
  case body =>
    rintro lp pre ⟨k, hk⟩ a' W _ _ ⟨⟨g, cp, q1, q2, q3⟩, hB1⟩ ⟨Bx, ⟨x0, x1, x2⟩, rfl⟩ hpl
    have HV := Lib.hid (fun W hW => iValText (l.getD k V.zero) W (HSS.out k hk) hW)
    have hps : pre.length < m := hpl
    have HLP : Hid ((pre ++ [(⟨k, hk⟩ : Fin m)]).length = pre.length + 1) := by
      show _ = _
      simp
    have HTX : Hid (strs ((⟨#[35]⟩ ++ d) :: (pre ++ [(⟨k, hk⟩ : Fin m)]).map fun k => valText (l.getD k.1 V.zero)) = strs ((⟨#[35]⟩ ++ d) :: pre.map fun k => valText (l.getD k.1 V.zero)) ++ [.string (valText (l.getD k V.zero))]) := by
      show _ = _
      simp [strs]
    simp only at x0 x1 x2
    have HO := Lib.hid (own_of_row q3 q1)
    have HBX : Hid (∀ w2, Below W.heap.size W w2 → ∀ v' w4, w4.ownsRow lo 9 1 v' (pre.length + 1 + 1) (strs ((⟨#[35]⟩ ++ d) :: pre.map fun k => valText (l.getD k.1 V.zero)) ++ [.string (valText (l.getD k V.zero))]) → (w2.alloc (.cells #[.string (valText (l.getD k V.zero))] 9)).grownBy w4 (Value.slice (some ⟨g, 0, none⟩) (pre.length + 1) cp).ownBlock →
        Boxed w4 (lo + 1) 64 (.slice (some ⟨g, 0, none⟩) (pre.length + 1) cp) ∧ Boxed (w4.setCell ⟨lo + 1, 0, none⟩ v') (lo + 1) 64 v' ∧ (w4.setCell ⟨lo + 1, 0, none⟩ v').ownsRow lo 9 1 v' (pre.length + 1 + 1) (strs ((⟨#[35]⟩ ++ d) :: pre.map fun k => valText (l.getD k.1 V.zero)) ++ [.string (valText (l.getD k V.zero))]) ∧ KeepsOthers w2 (w4.setCell ⟨lo + 1, 0, none⟩ v') ∧ Below lo w2 (w4.setCell ⟨lo + 1, 0, none⟩ v')) := fun w2 hb v' w4 o4 g4 =>
      Boxed.appended (v := .slice (some ⟨g, 0, none⟩) (pre.length + 1) cp) ((hb.block _ q2.lt).trans q2) (by decide) ((own_of_row q3 q1).below hb (Nat.le_refl _)).row (by have := q2.lt; have := hb.size; omega) (by omega) o4 g4
    have cT := q2.cell
    have HLO := HLOW
    have HBW := Lib.hid ((Below.refl W.heap.size W).drew)
    have HB1 := Lib.hid hB1
    generalize valText (l.getD k V.zero) = y at HV HTX HBX
    generalize strs ((⟨#[35]⟩ ++ d) :: pre.map fun k => valText (l.getD k.1 V.zero)) = tx at HTX HBX HO
    generalize l.getD k V.zero = x at x0 x1 x2 HV ⊢
    obtain ⟨t2, n2, s2⟩ := x
    simp only at x0 x1 x2
    obtain ⟨BT, hBT⟩ : ∃ BT, lo + 1 = BT := ⟨_, rfl⟩
    rw [hBT] at HBX cT q2 ⊢
    generalize hpp : pre.length = pl at *
    clear hBT q2 q3 q1 hB1 hpl
    gi_wp2
    refine round_held (S := fun _ => True) (by kernel_rfl) (by kernel_rfl) trivial (fun _ => ?_)
    refine wpAnyH_ready (rs := [0, 1]) (by kernel_rfl) (by simp) ?_
    refine AllReadyH.cons rfl (fun K hK => ?_) (AllReadyH.cons rfl (fun K hK => ?_) AllReadyH.nil)
    · go_simp
      refine hK.out _ _ trivial (fun _ => ?_)
      clear hK K
      refine wpAnyH_ready (rs := [1]) (by kernel_rfl) (by simp) ?_
      refine AllReadyH.cons rfl (fun K hK => ?_) AllReadyH.nil
      go_simp
      refine hK.out _ _ trivial (fun _ => ?_)
      clear hK K
      refine wpAnyH_ready (rs := [2]) (by kernel_rfl) (by simp) ?_
      refine AllReadyH.cons rfl (fun K hK => ?_) AllReadyH.nil
      go_simp
      go_at_call 57
      refine (HV.out _ (HTB.out.below (HB1.out.trans (HBW.out.mono HB1.out.size)))).mono ?_
      rintro e w2 ⟨rfl, hb2⟩
      have HB2 := Lib.hid (below_then HBW.out hb2 HBW.out.size)
      have cT2 := (HB2.out.cell (p := ⟨BT, 0, none⟩) (lt_of_cell cT)).trans cT
      clear hb2
      go_wp2_with fail
      refine hK.out _ _ trivial (fun _ => ?_)
      clear hK K
      refine wpAnyH_ready (rs := [3]) (by kernel_rfl) (by simp) ?_
      refine AllReadyH.cons rfl (fun K hK => ?_) AllReadyH.nil
      go_simp
      refine hK.out _ _ trivial (fun _ => ?_)
      clear hK K
      have cT3 := ((below_alloc w2 (.cells #[.string y] 9)).cell (p := ⟨BT, 0, none⟩) (lt_of_cell cT2)).trans cT2
      refine wpAnyH_ready (rs := [4]) (by kernel_rfl) (by simp) ?_
      refine AllReadyH.cons rfl (fun K hK => ?_) AllReadyH.nil
      refine append1_op Tryd.elemStrs (.tmp 16) (.tmp 19) rfl lo _ _ _ _ (.string y) rfl rfl ((HO.out.below HB2.out (Nat.le_refl _)).wide HB2.out.size) rfl (by unfold maxLen; omega) (by omega) ?_
      intro v4 w4 o4 e4
      obtain ⟨g4, cap4, rfl⟩ : ∃ g cp, v4 = .slice (some ⟨g, 0, none⟩) (pl + 1 + 1) cp := by
        obtain ⟨g, cp, e, _⟩ := o4
        exact ⟨g, cp, e⟩
      obtain ⟨y1, y2, y3, y4, y5⟩ := HBX.out w2 HB2.out _ _ o4.row e4.grown
      have cT5 := y1.cell
      have fT5 := y1.frozen
      have HG4 : Hid (lo ≤ g4) := by
        obtain ⟨g, cp, e, h1, _⟩ := o4
        cases e
        exact h1
      clear o4 e4 cT2 cT3
      refine hK.out _ _ trivial (fun _ => ?_)
      clear hK K
      refine wpAnyH_ready (rs := [5]) (by kernel_rfl) (by simp) ?_
      refine AllReadyH.cons rfl (fun K hK => ?_) AllReadyH.nil
      go_simp
      refine hK.out _ _ trivial (fun _ => ?_)
      clear hK K
      refine wpAnyH_done (by kernel_rfl) ?_ _
      show KeepsFrom _ _ _ ∧ _ ∧ _
      exact ⟨((keeps_below HB2.out).trans y4).from _, (HB2.out.mono HB1.out.size).trans (y5.mono HLO.out), ⟨g4, cap4, HG4.out, by rw [HLP.out]; exact y2, by rw [HLP.out, HTX.out]; exact y3⟩, HB1.out.trans ((HB2.out.mono HB1.out.size).trans (y5.mono HLO.out))⟩
    · go_simp
      refine hK.out _ _ trivial (fun _ => ?_)
      clear hK K
      refine wpAnyH_ready (rs := [0, 2]) (by kernel_rfl) (by simp) ?_
      refine AllReadyH.cons rfl (fun K hK => ?_) (AllReadyH.cons rfl (fun K hK => ?_) AllReadyH.nil)
      · go_simp
        refine hK.out _ _ trivial (fun _ => ?_)
        clear hK K
        refine wpAnyH_ready (rs := [2]) (by kernel_rfl) (by simp) ?_
        refine AllReadyH.cons rfl (fun K hK => ?_) AllReadyH.nil
        go_simp
        go_at_call 57
        refine (HV.out _ (HTB.out.below (HB1.out.trans (HBW.out.mono HB1.out.size)))).mono ?_
        rintro e w2 ⟨rfl, hb2⟩
        have HB2 := Lib.hid (below_then HBW.out hb2 HBW.out.size)
        have cT2 := (HB2.out.cell (p := ⟨BT, 0, none⟩) (lt_of_cell cT)).trans cT
        clear hb2
        go_wp2_with fail
        refine hK.out _ _ trivial (fun _ => ?_)
        clear hK K
        refine wpAnyH_ready (rs := [3]) (by kernel_rfl) (by simp) ?_
        refine AllReadyH.cons rfl (fun K hK => ?_) AllReadyH.nil
        go_simp
        refine hK.out _ _ trivial (fun _ => ?_)
        clear hK K
        have cT3 := ((below_alloc w2 (.cells #[.string y] 9)).cell (p := ⟨BT, 0, none⟩) (lt_of_cell cT2)).trans cT2
        refine wpAnyH_ready (rs := [4]) (by kernel_rfl) (by simp) ?_
        refine AllReadyH.cons rfl (fun K hK => ?_) AllReadyH.nil
        refine append1_op Tryd.elemStrs (.tmp 16) (.tmp 19) rfl lo _ _ _ _ (.string y) rfl rfl ((HO.out.below HB2.out (Nat.le_refl _)).wide HB2.out.size) rfl (by unfold maxLen; omega) (by omega) ?_
        intro v4 w4 o4 e4
        obtain ⟨g4, cap4, rfl⟩ : ∃ g cp, v4 = .slice (some ⟨g, 0, none⟩) (pl + 1 + 1) cp := by
          obtain ⟨g, cp, e, _⟩ := o4
          exact ⟨g, cp, e⟩
        obtain ⟨y1, y2, y3, y4, y5⟩ := HBX.out w2 HB2.out _ _ o4.row e4.grown
        have cT5 := y1.cell
        have fT5 := y1.frozen
        have HG4 : Hid (lo ≤ g4) := by
          obtain ⟨g, cp, e, h1, _⟩ := o4
          cases e
          exact h1
        clear o4 e4 cT2 cT3
        refine hK.out _ _ trivial (fun _ => ?_)
        clear hK K
        refine wpAnyH_ready (rs := [5]) (by kernel_rfl) (by simp) ?_
        refine AllReadyH.cons rfl (fun K hK => ?_) AllReadyH.nil
        go_simp
        refine hK.out _ _ trivial (fun _ => ?_)
        clear hK K
        refine wpAnyH_done (by kernel_rfl) ?_ _
        show KeepsFrom _ _ _ ∧ _ ∧ _
        exact ⟨((keeps_below HB2.out).trans y4).from _, (HB2.out.mono HB1.out.size).trans (y5.mono HLO.out), ⟨g4, cap4, HG4.out, by rw [HLP.out]; exact y2, by rw [HLP.out, HTX.out]; exact y3⟩, HB1.out.trans ((HB2.out.mono HB1.out.size).trans (y5.mono HLO.out))⟩
      · go_simp
        go_at_call 57
        refine (HV.out _ (HTB.out.below (HB1.out.trans (HBW.out.mono HB1.out.size)))).mono ?_
        rintro e w2 ⟨rfl, hb2⟩
        have HB2 := Lib.hid (below_then HBW.out hb2 HBW.out.size)
        have cT2 := (HB2.out.cell (p := ⟨BT, 0, none⟩) (lt_of_cell cT)).trans cT
        clear hb2
        go_wp2_with fail
        refine hK.out _ _ trivial (fun _ => ?_)
        clear hK K
        refine wpAnyH_ready (rs := [0, 3]) (by kernel_rfl) (by simp) ?_
        refine AllReadyH.cons rfl (fun K hK => ?_) (AllReadyH.cons rfl (fun K hK => ?_) AllReadyH.nil)
        · go_simp
          refine hK.out _ _ trivial (fun _ => ?_)
          clear hK K
          refine wpAnyH_ready (rs := [3]) (by kernel_rfl) (by simp) ?_
          refine AllReadyH.cons rfl (fun K hK => ?_) AllReadyH.nil
          go_simp
          refine hK.out _ _ trivial (fun _ => ?_)
          clear hK K
          have cT3 := ((below_alloc w2 (.cells #[.string y] 9)).cell (p := ⟨BT, 0, none⟩) (lt_of_cell cT2)).trans cT2
          refine wpAnyH_ready (rs := [4]) (by kernel_rfl) (by simp) ?_
          refine AllReadyH.cons rfl (fun K hK => ?_) AllReadyH.nil
          refine append1_op Tryd.elemStrs (.tmp 16) (.tmp 19) rfl lo _ _ _ _ (.string y) rfl rfl ((HO.out.below HB2.out (Nat.le_refl _)).wide HB2.out.size) rfl (by unfold maxLen; omega) (by omega) ?_
          intro v4 w4 o4 e4
          obtain ⟨g4, cap4, rfl⟩ : ∃ g cp, v4 = .slice (some ⟨g, 0, none⟩) (pl + 1 + 1) cp := by
            obtain ⟨g, cp, e, _⟩ := o4
            exact ⟨g, cp, e⟩
          obtain ⟨y1, y2, y3, y4, y5⟩ := HBX.out w2 HB2.out _ _ o4.row e4.grown
          have cT5 := y1.cell
          have fT5 := y1.frozen
          have HG4 : Hid (lo ≤ g4) := by
            obtain ⟨g, cp, e, h1, _⟩ := o4
            cases e
            exact h1
          clear o4 e4 cT2 cT3
          refine hK.out _ _ trivial (fun _ => ?_)
          clear hK K
          refine wpAnyH_ready (rs := [5]) (by kernel_rfl) (by simp) ?_
          refine AllReadyH.cons rfl (fun K hK => ?_) AllReadyH.nil
          go_simp
          refine hK.out _ _ trivial (fun _ => ?_)
          clear hK K
          refine wpAnyH_done (by kernel_rfl) ?_ _
          show KeepsFrom _ _ _ ∧ _ ∧ _
          exact ⟨((keeps_below HB2.out).trans y4).from _, (HB2.out.mono HB1.out.size).trans (y5.mono HLO.out), ⟨g4, cap4, HG4.out, by rw [HLP.out]; exact y2, by rw [HLP.out, HTX.out]; exact y3⟩, HB1.out.trans ((HB2.out.mono HB1.out.size).trans (y5.mono HLO.out))⟩
        · go_simp
          refine hK.out _ _ trivial (fun _ => ?_)
          clear hK K
          have cT3 := ((below_alloc w2 (.cells #[.string y] 9)).cell (p := ⟨BT, 0, none⟩) (lt_of_cell cT2)).trans cT2
          refine wpAnyH_ready (rs := [0]) (by kernel_rfl) (by simp) ?_
          refine AllReadyH.cons rfl (fun K hK => ?_) AllReadyH.nil
          go_simp
          refine hK.out _ _ trivial (fun _ => ?_)
          clear hK K
          refine wpAnyH_ready (rs := [4]) (by kernel_rfl) (by simp) ?_
          refine AllReadyH.cons rfl (fun K hK => ?_) AllReadyH.nil
          refine append1_op Tryd.elemStrs (.tmp 16) (.tmp 19) rfl lo _ _ _ _ (.string y) rfl rfl ((HO.out.below HB2.out (Nat.le_refl _)).wide HB2.out.size) rfl (by unfold maxLen; omega) (by omega) ?_
          intro v4 w4 o4 e4
          obtain ⟨g4, cap4, rfl⟩ : ∃ g cp, v4 = .slice (some ⟨g, 0, none⟩) (pl + 1 + 1) cp := by
            obtain ⟨g, cp, e, _⟩ := o4
            exact ⟨g, cp, e⟩
          obtain ⟨y1, y2, y3, y4, y5⟩ := HBX.out w2 HB2.out _ _ o4.row e4.grown
          have cT5 := y1.cell
          have fT5 := y1.frozen
          have HG4 : Hid (lo ≤ g4) := by
            obtain ⟨g, cp, e, h1, _⟩ := o4
            cases e
            exact h1
          clear o4 e4 cT2 cT3
          refine hK.out _ _ trivial (fun _ => ?_)
          clear hK K
          refine wpAnyH_ready (rs := [5]) (by kernel_rfl) (by simp) ?_
          refine AllReadyH.cons rfl (fun K hK => ?_) AllReadyH.nil
          go_simp
          refine hK.out _ _ trivial (fun _ => ?_)
          clear hK K
          refine wpAnyH_done (by kernel_rfl) ?_ _
          show KeepsFrom _ _ _ ∧ _ ∧ _
          exact ⟨((keeps_below HB2.out).trans y4).from _, (HB2.out.mono HB1.out.size).trans (y5.mono HLO.out), ⟨g4, cap4, HG4.out, by rw [HLP.out]; exact y2, by rw [HLP.out, HTX.out]; exact y3⟩, HB1.out.trans ((HB2.out.mono HB1.out.size).trans (y5.mono HLO.out))⟩
  case done =>
    rintro D ys W hD rfl ⟨⟨g, cp, q1, q2, q3⟩, hB1⟩ hK
    rw [List.length_finRange] at q2 q3
    have hmm : (List.finRange m).map (fun k => valText (l.getD k.1 V.zero)) = l.map valText := by
      have := congrArg (List.map valText) (fin_map HL.out)
      rw [List.map_map] at this
      exact this
    rw [hmm] at q3
    have hlm : (((⟨#[35]⟩ : ByteArray) ++ d) :: l.map valText).length = m + 1 := by simp [HL.out]
    have HJ : Hid (Calls Tryd.prog 92 #[.slice (some ⟨g, 0, none⟩) (m + 1) cp, .string ⟨#[32]⟩] W fun e w' => e = .returned (.string q) ∧ Below W.heap.size W w') := by
      obtain ⟨b, off, cp', e, r1, r2, r3, r4⟩ := (own_of_row q3 q1).at
      simp only [Value.slice.injEq, Option.some.injEq, Addr.mk.injEq, and_true, true_and] at e
      obtain ⟨⟨rfl, rfl⟩, rfl⟩ := e
      have hlen : (Lib.join ((((⟨#[35]⟩ : ByteArray) ++ d) :: l.map valText).map (·.data.toList)) [32]).length ≤ 140737488355328 := by
        have h5 := HZ.out
        rw [HE.out] at h5
        simp only [ByteArray.size, List.size_toArray] at h5
        omega
      have hj := Tryd.strings_Join g 0 cp (((⟨#[35]⟩ : ByteArray) ++ d) :: l.map valText) ⟨#[32]⟩ W (fun j x hx => r4 j _ (by unfold strs; rw [List.getElem?_map, hx]; rfl)) (q3.lt g rfl).2 (by omega) (by omega) hlen
      rw [hlm] at hj
      show Calls _ _ _ _ _
      rw [HE.out]
      exact hj
    have cT := q2.cell
    have HB1 := Lib.hid hB1
    clear hmm hlm q2 q3 hB1
    gi_wp2_with fail
    refine ⟨trivial, ?_⟩
    gi_at_call 92
    refine (callsIn_wide.2 HJ.out).mono ?_
    rintro e w5 ⟨rfl, b5⟩
    have hK5 : w5.heap[D]? = some (.deferred (some [])) := (b5.block D (Array.getElem?_eq_some_iff.1 hK).1).trans hK
    have HB5 := Lib.hid b5
    clear b5 hK
    gi_wp2
    refine ⟨by simp, .inl ⟨_, _, rfl, run_takeDeferred hK5, ?_⟩⟩
    exact ⟨_, results_tmp rfl _ _ _, rfl, (HB1.out.trans (HB5.out.mono HB1.out.size)).trans (belowK_b (w := w) (Nat.le_refl _) _ D _ _ (by have := hB0.size; omega) hK5 rfl rfl)⟩
  case stop =>
    rintro D c pre W _ _ h _
    exact h.elim

end Go.Proofs.YtkofafefnlommaaDoor
