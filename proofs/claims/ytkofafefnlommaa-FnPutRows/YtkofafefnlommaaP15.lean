/- Texts of this claim, one behind the other: R12, R13w. -/
import Derived.Test.YtkofafefnlommaaP12
import Derived.Test.YtkofafefnlommaaP3
import Derived.Laws.AppendOwn

/- Rows of one's own, where a row's values may be nil; markRowS and heldRowS over them (written by mk_R12.py). -/
namespace Go.Proofs.Ytkofafefnlommaa
open Go.RowKit

/-- As Own, or nil. -/
def OwnN (e : TypeId) (size lo hi : Nat) (w : World) (v : Value) (n : Nat) (xs : List Value) : Prop := (v = .slice none 0 0 ∧ n = 0 ∧ xs = []) ∨ Own e size lo hi w v n xs
theorem OwnN.rd {e size lo hi w v n xs} (h : OwnN e size lo hi w v n xs) : Rd size w v n xs := by
  rcases h with ⟨rfl, rfl, rfl⟩ | h
  · exact ⟨_, _, rfl, Nat.zero_le _, by simp, .inl rfl⟩
  · exact h.rd
theorem OwnN.below {e size lo hi B w w' v n xs} (h : OwnN e size lo hi w v n xs) (hb : Below B w w') (hB : hi ≤ B) : OwnN e size lo hi w' v n xs := h.imp id (fun h => h.below hb hB)
theorem OwnN.wide {e size lo hi lo' hi' w v n xs} (h : OwnN e size lo hi w v n xs) (h1 : lo' ≤ lo) (h2 : hi ≤ hi') : OwnN e size lo' hi' w v n xs := h.imp id (fun h => (h.lower h1).wide h2)
theorem OwnN.within {e size lo hi lo' hi' w w' v n xs} (h : OwnN e size lo hi w v n xs) (hw : Within lo' hi' w w') (hr : hi ≤ lo' ∨ hi' ≤ lo) : OwnN e size lo hi w' v n xs := h.imp id (fun h => h.within hw hr)
theorem OwnN.len {e size lo hi w v n xs} (h : OwnN e size lo hi w v n xs) : xs.length = n * size := by
  rcases h with ⟨rfl, rfl, rfl⟩ | h
  · simp
  · exact h.len
theorem OwnN.sl {e size lo hi w v n xs} (h : OwnN e size lo hi w v n xs) : ∃ a cp, v = .slice a n cp := by
  obtain ⟨a, cp, e, _⟩ := h.rd
  exact ⟨a, cp, e⟩
theorem own_row_none (w : World) (base : Nat) (e : TypeId) (size : Nat) : w.ownsRow base e size (.slice none 0 0) 0 [] := ⟨by simp, .inl ⟨rfl, rfl⟩⟩
theorem OwnN.row {e size lo hi w v n xs} (h : OwnN e size lo hi w v n xs) : w.ownsRow lo e size v n xs := by
  rcases h with ⟨rfl, rfl, rfl⟩ | h
  · exact own_row_none _ _ _ _
  · exact h.row
/-- What is appended to, nil or one's own, is one's own behind it. -/
theorem append_blockN {P : Program} (w : World) (t ty e : TypeId) (z : Value) (size bytes : Nat) (T : ElemT P t e z size bytes) (lo hi : Nat) (v : Value) (n : Nat) (xs : List Value) (hown : OwnN e size lo hi w v n xs) (hlo : lo ≤ w.heap.size)
    (a : Addr) (m c : Nat) (news : List Value) (hl : news.length = m * size) (hnews : ∀ j u, news[j]? = some u → w.cell? (a.add j) = some u) (h1 : ∀ u ∈ news, u.oneCell' = true) (hm : 0 < m)
    (h63 : n + m ≤ maxLen) (hbytes : (n + m) * bytes ≤ 140737488355328) :
    ∃ v' w', (Builtin.append_ #[t, t] ty #[v, .slice (some a) m c]).run P w = .ok v' w' ∧ Own e size lo w'.heap.size w' v' (n + m) (xs ++ news) ∧ Ext w w' v v' := by
  rcases hown with ⟨rfl, rfl, rfl⟩ | hown
  · obtain ⟨i, hi', hz, hs, hb⟩ := T.info
    obtain ⟨v', w', hr, h2, h3, h4⟩ := run_append_own (P := P) w w.heap.size t ty e i z size bytes T.ht hi' hz hs hb T.hzs T.hsz (.slice none 0 0) 0 [] (own_row_none _ _ _ _) a m c news hl hnews h1 h63 hbytes (Nat.le_refl _)
    have hne : v' ≠ .slice none 0 0 := fun e => by have := (h4.1 e).2; omega
    rcases h2.2 with ⟨e, _⟩ | ⟨g, cap, cur, rfl, hb, hr'⟩
    · exact absurd e hne
    · have hlt := (h2.lt g rfl).2
      refine ⟨_, w', hr, Own.lower ⟨g, cap, rfl, hb, hlt, h2⟩ hlo, h3, .inr ⟨g, rfl, hb⟩⟩
  · exact append_block w t ty e z size bytes T lo hi v n xs hown a m c news hl hnews h1 h63 hbytes
theorem append_lawN {P : Program} {t e : TypeId} {z : Value} {size bytes : Nat} (T : ElemT P t e z size bytes) {w : World} {ops : Array Oper} {rest : List Oper} {o : Oper} {a : Act} {Q : Exit → Act → World → Prop} (hgd : o.guard = none) (s x : Operand)
    (ho : o.op = .call { callee := .builtin .append, args := #[s, x], argTypes := #[t, t] })
    (lo hi : Nat) (v : Value) (n : Nat) (xs : List Value) (hs : a.eval s = v) (hown : OwnN e size lo hi w v n xs) (hlo : lo ≤ w.heap.size)
    (b off m c : Nat) (news : List Value) (hx : a.eval x = .slice (some ⟨b, off, none⟩) m c) (hl : news.length = m * size) (hnews : ∀ j u, news[j]? = some u → w.cell? ⟨b, off + j, none⟩ = some u) (h1 : ∀ u ∈ news, u.oneCell' = true) (hm : 0 < m)
    (h63 : n + m ≤ maxLen) (hbytes : (n + m) * bytes ≤ 140737488355328)
    (h : ∀ v' w', Own e size lo w'.heap.size w' v' (n + m) (xs ++ news) → Ext w w' v v' → wpList P ops Q rest (a.put o.dst v') w') : wpList P ops Q (o :: rest) a w := by
  refine wpList_plain hgd fun K hK => ?_
  obtain ⟨v', w', hr, h2, h3⟩ := append_blockN w t o.type e z size bytes T lo hi v n xs hown hlo ⟨b, off, none⟩ m c news hl (fun j u hu => by rw [addr_add]; exact hnews j u hu) h1 hm h63 hbytes
  unfold Oper.wp execOp
  simp only [ho, resolve, invoke, builtin, Sem.run_bind, Sem.run_pure, Result.andThen_ok, List.map_toArray, List.map_cons, List.map_nil, hs, hx, hr]
  exact hK _ _ (h v' w' h2 h3)
/-- append(s, x...) where x has no element. -/
theorem append_block0 {P : Program} (w : World) (t ty e : TypeId) (z : Value) (size bytes : Nat) (T : ElemT P t e z size bytes) (lo hi : Nat) (v : Value) (n : Nat) (xs : List Value) (hown : OwnN e size lo hi w v n xs) (_hlo : lo ≤ w.heap.size)
    (a : Addr) (c : Nat) (h63 : n ≤ maxLen) (hbytes : n * bytes ≤ 140737488355328) :
    ∃ v' w', (Builtin.append_ #[t, t] ty #[v, .slice (some a) 0 c]).run P w = .ok v' w' ∧ OwnN e size lo w'.heap.size w' v' n xs ∧ Ext w w' v v' := by
  rcases hown with ⟨rfl, rfl, rfl⟩ | hown
  · obtain ⟨i, hi', hz, hs, hb⟩ := T.info
    obtain ⟨v', w', hr, h2, h3, h4⟩ := run_append_own (P := P) w w.heap.size t ty e i z size bytes T.ht hi' hz hs hb T.hzs T.hsz (.slice none 0 0) 0 [] (own_row_none _ _ _ _) a 0 c [] (by simp) (fun j u hu => by simp at hu) (fun u hu => by simp at hu) (Nat.zero_le _) (by simp) (Nat.le_refl _)
    have e := h4.2 ⟨rfl, rfl⟩
    subst e
    exact ⟨_, w', hr, .inl ⟨rfl, rfl, rfl⟩, h3, .inl rfl⟩
  · obtain ⟨v', w', h1, h2, h3⟩ := append_block w t ty e z size bytes T lo hi v n xs hown a 0 c [] (by simp) (fun j u hu => by simp at hu) (fun u hu => by simp at hu) (by simpa using h63) (by simpa using hbytes)
    rw [List.append_nil] at h2
    exact ⟨v', w', h1, .inr h2, h3⟩

/-- A slice of Vals: nil and empty, or one's own. -/
def OwnV (lo hi : Nat) (w : World) (u : Value) (l : List V) : Prop := OwnN 76 3 lo hi w u l.length (vals l)
theorem OwnV.rd {lo hi w u} {l : List V} (h : OwnV lo hi w u l) : Rd 3 w u l.length (vals l) := OwnN.rd h
theorem OwnV.below {lo hi B w w' u} {l : List V} (h : OwnV lo hi w u l) (hb : Below B w w') (hB : hi ≤ B) : OwnV lo hi w' u l := OwnN.below h hb hB
theorem OwnV.wide {lo hi lo' hi' w u} {l : List V} (h : OwnV lo hi w u l) (h1 : lo' ≤ lo) (h2 : hi ≤ hi') : OwnV lo' hi' w u l := OwnN.wide h h1 h2
theorem OwnV.within {lo hi lo' hi' w w' u} {l : List V} (h : OwnV lo hi w u l) (hw : Within lo' hi' w w') (hr : hi ≤ lo' ∨ hi' ≤ lo) : OwnV lo hi w' u l := OwnN.within h hw hr
theorem OwnV.other {lo hi w w' u} {l : List V} {row : Option Nat} (h : OwnV lo hi w u l) (hg : w.grownBy w' row) (hne : row = none ∨ row ≠ u.ownBlock) : OwnV lo hi w' u l := by
  rcases h with h | h
  · exact .inl h
  · refine .inr (h.other hg ?_)
    rcases hne with rfl | hne
    · obtain ⟨g, cp, rfl, _⟩ := h
      simp [Value.ownBlock]
    · exact hne
theorem OwnV.block_ne {lo hi lo' hi' w v u n xs} {l : List V} (h : Own 27 2 lo' hi' w v n xs) (k : OwnV lo hi w u l) : v.ownBlock ≠ u.ownBlock := by
  rcases k with ⟨rfl, _⟩ | k
  · obtain ⟨g, cp, rfl, _⟩ := h
    simp [Value.ownBlock]
  · exact Own.blocks_ne h k (by decide)
theorem OwnV.in_ {lo hi w u} {l : List V} (h : OwnV lo hi w u l) {x : Nat} (hx : u.ownBlock = some x) : lo ≤ x ∧ x < hi := by
  rcases h with ⟨rfl, _⟩ | ⟨g, cp, rfl, h1, h2, _⟩
  · simp [Value.ownBlock] at hx
  · simp [Value.ownBlock] at hx
    omega
theorem vals_nil : vals [] = [] := rfl
theorem markValV (u : Value) (lo hi : Nat) (l : List V) (s : Nat) (w : World) (h0 : 0 < s) (hs : s ≤ 1073741824) (hn : l.length ≤ 1073741824) (h : OwnV lo hi w u l) :
    Calls Try.prog 57 #[u, .int .i64 s] w fun e w' => e = .returned (.int .i64 (s + 3 * l.length : Nat)) ∧ OwnV lo hi w' u (vmarks s l.length) ∧ w.grownBy w' u.ownBlock := by
  rcases h with ⟨rfl, hl, _⟩ | h
  · rw [hl]
    go_enter Try.func57, Try.ntmps57
    go_wp2
    go_loopw [1, 5] (fun q i wr => i = .int .i64 0 ∧ q = .int .i64 (s : Nat) ∧ wr = w) (fun _ i _ => 0)
    case atStart => exact ⟨rfl, rfl, rfl⟩
    case round =>
      obtain ⟨rfl, rfl, rfl⟩ := hrel
      go_wp2
      go_ret
      exact ⟨rfl, .inl ⟨rfl, rfl, rfl⟩, grownBy_refl _ _⟩
  · refine (markValM u l.length lo hi l s w h0 hs hn rfl h).mono ?_
    rintro e w' ⟨rfl, h1, h2⟩
    refine ⟨rfl, ?_, h2⟩
    show OwnN _ _ _ _ _ _ _ _
    rw [vmarks_len]
    exact .inr h1

/-- Blocks of slices that lie apart, but for nil ones. -/
def Apart (us : List Value) : Prop := us.Pairwise fun a b => a.ownBlock = none ∨ a.ownBlock ≠ b.ownBlock
theorem apart_ne {l : List P} (h : Apart (l.map (·.2))) {i j : Nat} (hi : i < l.length) (hj : j < l.length) (hne : i ≠ j) : (l.getD i P.zero).2.ownBlock = none ∨ (l.getD i P.zero).2.ownBlock ≠ (l.getD j P.zero).2.ownBlock := by
  have key : ∀ i j, i < j → j < l.length → (l.getD i P.zero).2.ownBlock = none ∨ (l.getD i P.zero).2.ownBlock ≠ (l.getD j P.zero).2.ownBlock := fun i j hij hj => by
    have hi : i < l.length := by omega
    have := List.pairwise_iff_getElem.1 h i j (by simpa using hi) (by simpa using hj) hij
    simpa [hi, hj] using this
  rcases Nat.lt_or_gt_of_ne hne with h1 | h1
  · exact key i j h1 hj
  · rcases key j i h1 hi with h | h
    · by_cases h2 : (l.getD i P.zero).2.ownBlock = none
      · exact .inl h2
      · exact .inr (fun e => h2 (e.trans h))
    · exact .inr (fun e => h e.symm)
theorem rmarks_snd (s : Nat) (ps : List P) : (rmarks s ps).map (·.2) = ps.map (·.2) := by
  induction ps generalizing s with
  | nil => rfl
  | cons p ps ih => simp [rmarks, ih]
theorem rhalf_snd (s : Nat) (ps : List P) (k : Nat) : (rhalf s ps k).map (·.2) = ps.map (·.2) := by
  unfold rhalf
  rw [List.map_append, rmarks_snd, ← List.map_append, List.take_append_drop]

set_option maxHeartbeats 1000000 in
theorem markRowS0 (v : Value) (ps : List P) (lo hi s : Nat) (w : World) (h0 : 0 < s) (hs : s ≤ 67108864) (hn : ps.length ≤ 1048576) (hr : rlen ps ≤ 16777216) (ho : Own 27 2 lo hi w v ps.length (prs ps)) (hin : ∀ p ∈ ps, OwnV lo hi w p.2 p.1.l) (hnd : Apart (ps.map (·.2))) :
    Calls Try.prog 29 #[v, .int .i64 s] w fun e w' => e = .returned (.int .i64 (s + rlen ps : Nat)) ∧ (Own 27 2 lo hi w' v (rmarks s ps).length (prs (rmarks s ps)) ∧ ∀ p ∈ rmarks s ps, OwnV lo hi w' p.2 p.1.l) ∧ Within lo hi w w' := by
  generalize hl : ps.length = n at hn
  rw [hl] at ho
  obtain ⟨g, cap, rfl, hlo, hhi, hown⟩ := ho
  have HL := Lib.hid hl
  have HND := Lib.hid hnd
  have HRL : Hid (∀ k, rlen (ps.take k) ≤ 16777216) := fun k => Nat.le_trans (rlen_take_le ps k) hr
  have hin0 : ∀ j, j < n → OwnV lo hi w ((rhalf s ps 0).getD j P.zero).2 ((rhalf s ps 0).getD j P.zero).1.l := by
    have e : rhalf s ps 0 = ps := by simp [rhalf, rmarks]
    rw [e, ← hl]
    exact all_of_mem (q := fun p : P => OwnV lo hi w p.2 p.1.l) hin
  clear hl hnd hr hin
  go_enter Try.func29, Try.ntmps29
  go_wp2
  go_loopw [1, 5] (fun q i wr => ∃ k : Nat, k ≤ n ∧ i = .int .i64 k ∧ q = .int .i64 (s + rlen (ps.take k) : Nat) ∧ wr.ownsRow lo 27 2 (.slice (some ⟨g, 0, none⟩) n cap) n (prs (rhalf s ps k))
    ∧ (∀ j, j < n → OwnV lo hi wr ((rhalf s ps k).getD j P.zero).2 ((rhalf s ps k).getD j P.zero).1.l) ∧ Within lo hi w wr) (fun _ i _ => n - (intOf i).toNat)
  case atStart => exact ⟨0, Nat.zero_le _, rfl, by simp [rlen], by simpa [rhalf, rmarks] using hown, hin0, Within.refl _ _ _⟩
  case round =>
    obtain ⟨k, hk, rfl, rfl, hownr, hir, hwr⟩ := hrel
    by_cases hkl : k < n
    · have hkp : k < ps.length := by rw [HL.out]; exact hkl
      have HST := Lib.hid (rhalf_set (s := s) hkp)
      have HTK := Lib.hid (rlen_take_succ hkp)
      have hr1 := HRL.out k
      have hr2 := HRL.out (k + 1)
      have HLN : Hid ((rhalf s ps k).length = n) := rhalf_len.trans HL.out
      have hik := hir k hkl
      have hc1 : wr.cell? ⟨g, k * 2 + 1, none⟩ = some (ps.getD k P.zero).2 := by
        rw [← rhalf_get (s := s) hkp]
        exact (hownr.cellAt (k * 2 + 1) (by omega)).trans (prs_sl (by rw [HLN.out]; exact hkl))
      have HNB : Hid (∀ j, j < n → j ≠ k → (ps.getD k P.zero).2.ownBlock = none ∨ (ps.getD k P.zero).2.ownBlock ≠ ((rhalf s ps k).getD j P.zero).2.ownBlock) := fun j hj hjk => by
        rw [← rhalf_get (s := s) hkp]
        exact apart_ne (by rw [rhalf_snd]; exact HND.out) (by rw [HLN.out]; exact hkl) (by rw [HLN.out]; exact hj) (fun e => hjk e.symm)
      have HGK := Lib.hid (rhalf_get (s := s) hkp)
      rw [HGK.out] at hik
      generalize ps.getD k P.zero = p at hik hc1 HST HTK HNB HGK
      obtain ⟨r, u⟩ := p
      simp only at hik hc1 HST HTK HNB
      have hb0 := OwnV.block_ne (own_of_row hownr hlo) hik
      have A1 := hownr.stored (k * 2) (.int .i64 (s + rlen (ps.take k) : Nat))
      obtain ⟨x0, s0⟩ := cellAt_some hownr (k * 2) (by omega)
      have f0 := hownr.frozenAt (k * 2)
      have hik1 := hik.other A1.2 (.inr (fun e => hb0 e))
      have HMV : Hid (Calls Try.prog 57 #[u, .int .i64 (((s + rlen (ps.take k) : Nat) : Int) + 1)] (wr.setCell ⟨g, k * 2, none⟩ (.int .i64 (s + rlen (ps.take k) : Nat))) fun e w' => e = .returned (.int .i64 (s + rlen (ps.take k) + 1 + 3 * r.l.length : Nat)) ∧ OwnV lo hi w' u (vmarks (s + rlen (ps.take k) + 1) r.l.length) ∧ (wr.setCell ⟨g, k * 2, none⟩ (.int .i64 (s + rlen (ps.take k) : Nat))).grownBy w' u.ownBlock) := by
        have := markValV u lo hi r.l (s + rlen (ps.take k) + 1) (wr.setCell ⟨g, k * 2, none⟩ (.int .i64 (s + rlen (ps.take k) : Nat))) (by omega) (by omega) (by rw [HTK.out] at hr2; omega) hik1
        rw [show (((s + rlen (ps.take k) : Nat) : Int) + 1) = ((s + rlen (ps.take k) + 1 : Nat) : Int) by omega]
        exact this
      have HA := Lib.hid A1
      have HI := Lib.hid hir
      have HO := Lib.hid hownr
      have HLEN : Hid (r.l.length ≤ 16777216) := by show r.l.length ≤ 16777216; rw [HTK.out] at hr2; omega
      clear A1 hir hik hik1 hownr hr2
      generalize hm : s + rlen (ps.take k) = m at *
      have HM := Lib.hid hm
      have hm2 : m ≤ 1099511627 := by omega
      clear hm hr1
      go_wp2_with fail
      refine HMV.out.mono ?_
      rintro e w2 ⟨rfl, om, gm⟩
      have hlen := HLEN.out
      have HOM := Lib.hid om
      have HGM := Lib.hid gm
      clear om gm s0 f0 hc1 HMV
      go_wp2
      go_roundw
      case rel =>
        refine ⟨k + 1, by omega, by go_num, by rw [HTK.out]; have := HM.out; go_num, ?_, fun j hj => ?_, ?_⟩
        · rw [← HST.out, prs_set_id (by rw [HLN.out]; exact hkl) (by rw [HGK.out])]
          exact ((own_of_row HA.out.1 hlo).other HGM.out (fun e => hb0 e.symm)).row
        · rw [← HST.out]
          by_cases hjk : j = k
          · subst hjk
            rw [getD_set_eq (by rw [HLN.out]; exact hkl)]
            exact HOM.out
          · rw [getD_set_ne (fun e => hjk e.symm)]
            have o1 := HI.out j hj
            have b1 := OwnV.block_ne (own_of_row HO.out hlo) o1
            exact (o1.other HA.out.2 (.inr (fun e => b1 e))).other HGM.out (HNB.out j hj hjk)
        · refine (hwr.trans (Within.of_grown HA.out.2 (fun x hx => ?_))).trans (Within.of_grown HGM.out (fun x hx => ?_))
          · simp only [Option.some.injEq] at hx
            omega
          · exact HOM.out.in_ hx
      case measure => simp [intOf]; omega
    · obtain rfl : k = n := by omega
      have e : rhalf s ps k = rmarks s ps := by
        unfold rhalf
        rw [← HL.out, List.take_length, List.drop_length, List.append_nil]
      rw [e] at hownr hir
      have HZ : Hid (rlen (ps.take k) = rlen ps) := by
        show rlen (ps.take k) = rlen ps
        rw [← HL.out, List.take_length]
      have HI : Hid (∀ p ∈ rmarks s ps, OwnV lo hi wr p.2 p.1.l) := mem_of_all (d := P.zero) (q := fun p : P => OwnV lo hi wr p.2 p.1.l) (fun j hj => hir j (by rw [rmarks_len, HL.out] at hj; exact hj))
      rw [HZ.out]
      clear hir
      go_wp2
      go_ret
      refine ⟨rfl, ⟨?_, HI.out⟩, hwr⟩
      rw [rmarks_len, HL.out]
      exact ⟨_, _, rfl, hlo, hhi, hownr⟩

/-- Rows of one's own; nil ones and rows with nil values too. -/
def MyRs (lo hi : Nat) (w : World) (v : Value) (ps : List P) : Prop := OwnN 27 2 lo hi w v ps.length (prs ps) ∧ (∀ p ∈ ps, OwnV lo hi w p.2 p.1.l) ∧ Apart (ps.map (·.2))
theorem MyRs.rd {lo hi w v} {ps : List P} (h : MyRs lo hi w v ps) : RdRs w v ps := ⟨h.1.rd, fun p hp => (h.2.1 p hp).rd⟩
theorem MyRs.below {lo hi B w w' v} {ps : List P} (h : MyRs lo hi w v ps) (hb : Below B w w') (hB : hi ≤ B) : MyRs lo hi w' v ps := ⟨h.1.below hb hB, fun p hp => (h.2.1 p hp).below hb hB, h.2.2⟩
theorem MyRs.within {lo hi lo' hi' w w' v} {ps : List P} (h : MyRs lo hi w v ps) (hw : Within lo' hi' w w') (hr : hi ≤ lo' ∨ hi' ≤ lo) : MyRs lo hi w' v ps := ⟨h.1.within hw hr, fun p hp => (h.2.1 p hp).within hw hr, h.2.2⟩
theorem MyRs.wide {lo hi lo' hi' w v} {ps : List P} (h : MyRs lo hi w v ps) (h1 : lo' ≤ lo) (h2 : hi ≤ hi') : MyRs lo' hi' w v ps := ⟨h.1.wide h1 h2, fun p hp => (h.2.1 p hp).wide h1 h2, h.2.2⟩
theorem OwnRs.my {lo hi w v} {ps : List P} (h : OwnRs lo hi w v ps) : MyRs lo hi w v ps := by
  refine ⟨.inr h.1, fun p hp => .inr (h.2.1 p hp), ?_⟩
  have hn := h.2.2
  show List.Pairwise _ _
  unfold List.Nodup at hn
  rw [List.pairwise_map] at hn ⊢
  exact hn.imp (fun h => .inr h)
theorem myRs_nil (lo hi : Nat) (w : World) : MyRs lo hi w (.slice none 0 0) [] := ⟨.inl ⟨rfl, rfl, rfl⟩, fun p hp => (by cases hp), List.Pairwise.nil⟩

theorem markRowsM (v : Value) (ps : List P) (lo hi s : Nat) (w : World) (h0 : 0 < s) (hs : s ≤ 67108864) (hn : ps.length ≤ 1048576) (hr : rlen ps ≤ 16777216) (h : MyRs lo hi w v ps) :
    Calls Try.prog 29 #[v, .int .i64 s] w fun e w' => e = .returned (.int .i64 (s + rlen ps : Nat)) ∧ MyRs lo hi w' v (rmarks s ps) ∧ Within lo hi w w' := by
  obtain ⟨ho, hin, hnd⟩ := h
  rcases ho with ⟨rfl, hl, _⟩ | ho
  · have hp : ps = [] := List.length_eq_zero_iff.1 hl
    subst hp
    go_enter Try.func29, Try.ntmps29
    go_wp2
    go_loopw [1, 5] (fun q i wr => i = .int .i64 0 ∧ q = .int .i64 (s : Nat) ∧ wr = w) (fun _ i _ => 0)
    case atStart => exact ⟨rfl, rfl, rfl⟩
    case round =>
      obtain ⟨rfl, rfl, rfl⟩ := hrel
      go_wp2
      go_ret
      exact ⟨rfl, myRs_nil _ _ _, Within.refl _ _ _⟩
  · refine (markRowS0 v ps lo hi s w h0 hs hn hr ho hin hnd).mono ?_
    rintro e w' ⟨rfl, ⟨h1, h2⟩, h3⟩
    exact ⟨rfl, ⟨.inr h1, h2, by rw [rmarks_snd]; exact hnd⟩, h3⟩

theorem rmarks_get {s : Nat} {ps : List P} {k : Nat} (h : k < ps.length) : ((rmarks s ps).getD k P.zero).1 = ⟨(s + rlen (ps.take k) : Nat), vmarks (s + rlen (ps.take k) + 1) (ps.getD k P.zero).1.l.length⟩ := by
  induction ps generalizing s k with
  | nil => simp at h
  | cons p ps ih =>
    cases k with
    | zero => simp [rmarks, rlen]
    | succ k =>
      have := ih (s := s + 1 + 3 * p.1.l.length) (k := k) (by simpa using h)
      simp only [rmarks, List.getD_cons_succ, List.take_succ_cons, rlen] at this ⊢
      rw [show s + (1 + 3 * p.1.l.length + rlen (ps.take k)) = s + 1 + 3 * p.1.l.length + rlen (ps.take k) by omega]
      exact this

set_option maxHeartbeats 1000000 in
theorem heldRowS (v : Value) (ps : List P) (s : Nat) (w : World) (h0 : 0 < s) (hs : s ≤ 1048576) (hn : ps.length ≤ 1048576) (hr : rlen ps ≤ 16777216) (h : RdRs w v (rmarks s ps)) :
    Calls Try.prog 33 #[v, .int .i64 s] w fun e w' => e = .returned (.int .i64 (s + rlen ps : Nat)) ∧ Below w.heap.size w w' := by
  generalize hl : ps.length = n at hn
  obtain ⟨a, cap, rfl, _, HC⟩ := h.walk ((rmarks_len s ps).trans hl)
  have HG : Hid (∀ k, k < n → ((rmarks s ps).getD k P.zero).1 = ⟨(s + rlen (ps.take k) : Nat), vmarks (s + rlen (ps.take k) + 1) (ps.getD k P.zero).1.l.length⟩ ∧ rlen (ps.take (k + 1)) = rlen (ps.take k) + (1 + 3 * (ps.getD k P.zero).1.l.length)) := fun k hk => ⟨rmarks_get (by omega), rlen_take_succ (by omega)⟩
  have HRL : Hid (∀ k, rlen (ps.take k) ≤ 16777216) := fun k => Nat.le_trans (rlen_take_le ps k) hr
  have HZ : Hid (rlen (ps.take n) = rlen ps) := by
    show _ = _
    rw [← hl, List.take_length]
  clear h hl hr
  go_enter Try.func33, Try.ntmps33
  go_wp2
  go_loopw [1, 5] (fun q i wr => ∃ k : Nat, k ≤ n ∧ i = .int .i64 k ∧ q = .int .i64 (s + rlen (ps.take k) : Nat) ∧ Below w.heap.size w wr) (fun _ i _ => n - (intOf i).toNat)
  case atStart => exact ⟨0, Nat.zero_le _, rfl, by simp [rlen], Below.refl _ _⟩
  case round =>
    obtain ⟨k, hk, rfl, rfl, hbr⟩ := hrel
    by_cases hkl : k < n
    · obtain ⟨b, off, rfl, c0, c1, c2⟩ := HC.out k hkl wr hbr
      obtain ⟨hg1, hg2⟩ := HG.out k hkl
      have hr1 := HRL.out (k + 1)
      rw [hg1] at c0 c2
      rw [hg2] at hr1
      have HG2 := Lib.hid hg2
      generalize ((rmarks s ps).getD k P.zero).2 = u at c1 c2
      generalize (ps.getD k P.zero).1.l.length = q at c0 c2 hr1 HG2
      generalize hm : s + rlen (ps.take k) = m at c0 c2
      have HM := Lib.hid hm
      have hm2 : m ≤ 1099511627 := by omega
      have HV : Hid (Calls Try.prog 58 #[u, .int .i64 ((m : Int) + 1)] wr fun e w' => e = .returned (.int .i64 (m + 1 + 3 * q : Nat)) ∧ Below wr.heap.size wr w') := by
        have e : Rd 3 wr u q (vals (vmarks (m + 1) q)) := by
          have c3 : Rd 3 wr u (vmarks (m + 1) q).length (vals (vmarks (m + 1) q)) := c2
          rw [vmarks_len] at c3
          exact c3
        have := heldValS u q (m + 1) wr (by omega) (by omega) (by omega) e
        rw [show ((m : Int) + 1) = ((m + 1 : Nat) : Int) by omega]
        exact this
      have hmm : ((m : Int) != (m : Int)) = false := by simp
      have hmq : m + 1 + 3 * q ≤ 1099511627776 := by omega
      clear hg1 hg2 hm c2 hr1
      go_wp2_with fail
      refine HV.out.mono ?_
      rintro e w2 ⟨rfl, hb2⟩
      clear HV
      go_wp2
      go_roundw
      case rel => exact ⟨k + 1, by omega, by go_num, by rw [HG2.out]; have := HM.out; go_num, below_then hbr hb2 hbr.size⟩
      case measure => simp [intOf]; omega
    · obtain rfl : k = n := by omega
      rw [HZ.out]
      go_wp2
      go_ret
      exact ⟨rfl, hbr⟩

end Go.Proofs.Ytkofafefnlommaa

/- markRowS and heldRowS over one Row more (written out of R12 by a hand's script). -/
namespace Go.Proofs.Ytkofafefnlommaa
open Go.RowKit

set_option maxHeartbeats 1000000 in
theorem markRowS0w (v : Value) (ps : List P) (lo hi s : Nat) (w : World) (h0 : 0 < s) (hs : s ≤ 67108864) (hn : ps.length ≤ 1048577) (hr : rlen ps ≤ 16777216) (ho : Own 27 2 lo hi w v ps.length (prs ps)) (hin : ∀ p ∈ ps, OwnV lo hi w p.2 p.1.l) (hnd : Apart (ps.map (·.2))) :
    Calls Try.prog 29 #[v, .int .i64 s] w fun e w' => e = .returned (.int .i64 (s + rlen ps : Nat)) ∧ (Own 27 2 lo hi w' v (rmarks s ps).length (prs (rmarks s ps)) ∧ ∀ p ∈ rmarks s ps, OwnV lo hi w' p.2 p.1.l) ∧ Within lo hi w w' := by
  generalize hl : ps.length = n at hn
  rw [hl] at ho
  obtain ⟨g, cap, rfl, hlo, hhi, hown⟩ := ho
  have HL := Lib.hid hl
  have HND := Lib.hid hnd
  have HRL : Hid (∀ k, rlen (ps.take k) ≤ 16777216) := fun k => Nat.le_trans (rlen_take_le ps k) hr
  have hin0 : ∀ j, j < n → OwnV lo hi w ((rhalf s ps 0).getD j P.zero).2 ((rhalf s ps 0).getD j P.zero).1.l := by
    have e : rhalf s ps 0 = ps := by simp [rhalf, rmarks]
    rw [e, ← hl]
    exact all_of_mem (q := fun p : P => OwnV lo hi w p.2 p.1.l) hin
  clear hl hnd hr hin
  go_enter Try.func29, Try.ntmps29
  go_wp2
  go_loopw [1, 5] (fun q i wr => ∃ k : Nat, k ≤ n ∧ i = .int .i64 k ∧ q = .int .i64 (s + rlen (ps.take k) : Nat) ∧ wr.ownsRow lo 27 2 (.slice (some ⟨g, 0, none⟩) n cap) n (prs (rhalf s ps k))
    ∧ (∀ j, j < n → OwnV lo hi wr ((rhalf s ps k).getD j P.zero).2 ((rhalf s ps k).getD j P.zero).1.l) ∧ Within lo hi w wr) (fun _ i _ => n - (intOf i).toNat)
  case atStart => exact ⟨0, Nat.zero_le _, rfl, by simp [rlen], by simpa [rhalf, rmarks] using hown, hin0, Within.refl _ _ _⟩
  case round =>
    obtain ⟨k, hk, rfl, rfl, hownr, hir, hwr⟩ := hrel
    by_cases hkl : k < n
    · have hkp : k < ps.length := by rw [HL.out]; exact hkl
      have HST := Lib.hid (rhalf_set (s := s) hkp)
      have HTK := Lib.hid (rlen_take_succ hkp)
      have hr1 := HRL.out k
      have hr2 := HRL.out (k + 1)
      have HLN : Hid ((rhalf s ps k).length = n) := rhalf_len.trans HL.out
      have hik := hir k hkl
      have hc1 : wr.cell? ⟨g, k * 2 + 1, none⟩ = some (ps.getD k P.zero).2 := by
        rw [← rhalf_get (s := s) hkp]
        exact (hownr.cellAt (k * 2 + 1) (by omega)).trans (prs_sl (by rw [HLN.out]; exact hkl))
      have HNB : Hid (∀ j, j < n → j ≠ k → (ps.getD k P.zero).2.ownBlock = none ∨ (ps.getD k P.zero).2.ownBlock ≠ ((rhalf s ps k).getD j P.zero).2.ownBlock) := fun j hj hjk => by
        rw [← rhalf_get (s := s) hkp]
        exact apart_ne (by rw [rhalf_snd]; exact HND.out) (by rw [HLN.out]; exact hkl) (by rw [HLN.out]; exact hj) (fun e => hjk e.symm)
      have HGK := Lib.hid (rhalf_get (s := s) hkp)
      rw [HGK.out] at hik
      generalize ps.getD k P.zero = p at hik hc1 HST HTK HNB HGK
      obtain ⟨r, u⟩ := p
      simp only at hik hc1 HST HTK HNB
      have hb0 := OwnV.block_ne (own_of_row hownr hlo) hik
      have A1 := hownr.stored (k * 2) (.int .i64 (s + rlen (ps.take k) : Nat))
      obtain ⟨x0, s0⟩ := cellAt_some hownr (k * 2) (by omega)
      have f0 := hownr.frozenAt (k * 2)
      have hik1 := hik.other A1.2 (.inr (fun e => hb0 e))
      have HMV : Hid (Calls Try.prog 57 #[u, .int .i64 (((s + rlen (ps.take k) : Nat) : Int) + 1)] (wr.setCell ⟨g, k * 2, none⟩ (.int .i64 (s + rlen (ps.take k) : Nat))) fun e w' => e = .returned (.int .i64 (s + rlen (ps.take k) + 1 + 3 * r.l.length : Nat)) ∧ OwnV lo hi w' u (vmarks (s + rlen (ps.take k) + 1) r.l.length) ∧ (wr.setCell ⟨g, k * 2, none⟩ (.int .i64 (s + rlen (ps.take k) : Nat))).grownBy w' u.ownBlock) := by
        have := markValV u lo hi r.l (s + rlen (ps.take k) + 1) (wr.setCell ⟨g, k * 2, none⟩ (.int .i64 (s + rlen (ps.take k) : Nat))) (by omega) (by omega) (by rw [HTK.out] at hr2; omega) hik1
        rw [show (((s + rlen (ps.take k) : Nat) : Int) + 1) = ((s + rlen (ps.take k) + 1 : Nat) : Int) by omega]
        exact this
      have HA := Lib.hid A1
      have HI := Lib.hid hir
      have HO := Lib.hid hownr
      have HLEN : Hid (r.l.length ≤ 16777216) := by show r.l.length ≤ 16777216; rw [HTK.out] at hr2; omega
      clear A1 hir hik hik1 hownr hr2
      generalize hm : s + rlen (ps.take k) = m at *
      have HM := Lib.hid hm
      have hm2 : m ≤ 1099511627 := by omega
      clear hm hr1
      go_wp2_with fail
      refine HMV.out.mono ?_
      rintro e w2 ⟨rfl, om, gm⟩
      have hlen := HLEN.out
      have HOM := Lib.hid om
      have HGM := Lib.hid gm
      clear om gm s0 f0 hc1 HMV
      go_wp2
      go_roundw
      case rel =>
        refine ⟨k + 1, by omega, by go_num, by rw [HTK.out]; have := HM.out; go_num, ?_, fun j hj => ?_, ?_⟩
        · rw [← HST.out, prs_set_id (by rw [HLN.out]; exact hkl) (by rw [HGK.out])]
          exact ((own_of_row HA.out.1 hlo).other HGM.out (fun e => hb0 e.symm)).row
        · rw [← HST.out]
          by_cases hjk : j = k
          · subst hjk
            rw [getD_set_eq (by rw [HLN.out]; exact hkl)]
            exact HOM.out
          · rw [getD_set_ne (fun e => hjk e.symm)]
            have o1 := HI.out j hj
            have b1 := OwnV.block_ne (own_of_row HO.out hlo) o1
            exact (o1.other HA.out.2 (.inr (fun e => b1 e))).other HGM.out (HNB.out j hj hjk)
        · refine (hwr.trans (Within.of_grown HA.out.2 (fun x hx => ?_))).trans (Within.of_grown HGM.out (fun x hx => ?_))
          · simp only [Option.some.injEq] at hx
            omega
          · exact HOM.out.in_ hx
      case measure => simp [intOf]; omega
    · obtain rfl : k = n := by omega
      have e : rhalf s ps k = rmarks s ps := by
        unfold rhalf
        rw [← HL.out, List.take_length, List.drop_length, List.append_nil]
      rw [e] at hownr hir
      have HZ : Hid (rlen (ps.take k) = rlen ps) := by
        show rlen (ps.take k) = rlen ps
        rw [← HL.out, List.take_length]
      have HI : Hid (∀ p ∈ rmarks s ps, OwnV lo hi wr p.2 p.1.l) := mem_of_all (d := P.zero) (q := fun p : P => OwnV lo hi wr p.2 p.1.l) (fun j hj => hir j (by rw [rmarks_len, HL.out] at hj; exact hj))
      rw [HZ.out]
      clear hir
      go_wp2
      go_ret
      refine ⟨rfl, ⟨?_, HI.out⟩, hwr⟩
      rw [rmarks_len, HL.out]
      exact ⟨_, _, rfl, hlo, hhi, hownr⟩

theorem markRowsW (v : Value) (ps : List P) (lo hi s : Nat) (w : World) (h0 : 0 < s) (hs : s ≤ 67108864) (hn : ps.length ≤ 1048577) (hr : rlen ps ≤ 16777216) (h : MyRs lo hi w v ps) :
    Calls Try.prog 29 #[v, .int .i64 s] w fun e w' => e = .returned (.int .i64 (s + rlen ps : Nat)) ∧ MyRs lo hi w' v (rmarks s ps) ∧ Within lo hi w w' := by
  obtain ⟨ho, hin, hnd⟩ := h
  rcases ho with ⟨rfl, hl, _⟩ | ho
  · have hp : ps = [] := List.length_eq_zero_iff.1 hl
    subst hp
    go_enter Try.func29, Try.ntmps29
    go_wp2
    go_loopw [1, 5] (fun q i wr => i = .int .i64 0 ∧ q = .int .i64 (s : Nat) ∧ wr = w) (fun _ i _ => 0)
    case atStart => exact ⟨rfl, rfl, rfl⟩
    case round =>
      obtain ⟨rfl, rfl, rfl⟩ := hrel
      go_wp2
      go_ret
      exact ⟨rfl, myRs_nil _ _ _, Within.refl _ _ _⟩
  · refine (markRowS0w v ps lo hi s w h0 hs hn hr ho hin hnd).mono ?_
    rintro e w' ⟨rfl, ⟨h1, h2⟩, h3⟩
    exact ⟨rfl, ⟨.inr h1, h2, by rw [rmarks_snd]; exact hnd⟩, h3⟩

set_option maxHeartbeats 1000000 in
theorem heldRowSw (v : Value) (ps : List P) (s : Nat) (w : World) (h0 : 0 < s) (hs : s ≤ 1048576) (hn : ps.length ≤ 1048577) (hr : rlen ps ≤ 16777216) (h : RdRs w v (rmarks s ps)) :
    Calls Try.prog 33 #[v, .int .i64 s] w fun e w' => e = .returned (.int .i64 (s + rlen ps : Nat)) ∧ Below w.heap.size w w' := by
  generalize hl : ps.length = n at hn
  obtain ⟨a, cap, rfl, _, HC⟩ := h.walk ((rmarks_len s ps).trans hl)
  have HG : Hid (∀ k, k < n → ((rmarks s ps).getD k P.zero).1 = ⟨(s + rlen (ps.take k) : Nat), vmarks (s + rlen (ps.take k) + 1) (ps.getD k P.zero).1.l.length⟩ ∧ rlen (ps.take (k + 1)) = rlen (ps.take k) + (1 + 3 * (ps.getD k P.zero).1.l.length)) := fun k hk => ⟨rmarks_get (by omega), rlen_take_succ (by omega)⟩
  have HRL : Hid (∀ k, rlen (ps.take k) ≤ 16777216) := fun k => Nat.le_trans (rlen_take_le ps k) hr
  have HZ : Hid (rlen (ps.take n) = rlen ps) := by
    show _ = _
    rw [← hl, List.take_length]
  clear h hl hr
  go_enter Try.func33, Try.ntmps33
  go_wp2
  go_loopw [1, 5] (fun q i wr => ∃ k : Nat, k ≤ n ∧ i = .int .i64 k ∧ q = .int .i64 (s + rlen (ps.take k) : Nat) ∧ Below w.heap.size w wr) (fun _ i _ => n - (intOf i).toNat)
  case atStart => exact ⟨0, Nat.zero_le _, rfl, by simp [rlen], Below.refl _ _⟩
  case round =>
    obtain ⟨k, hk, rfl, rfl, hbr⟩ := hrel
    by_cases hkl : k < n
    · obtain ⟨b, off, rfl, c0, c1, c2⟩ := HC.out k hkl wr hbr
      obtain ⟨hg1, hg2⟩ := HG.out k hkl
      have hr1 := HRL.out (k + 1)
      rw [hg1] at c0 c2
      rw [hg2] at hr1
      have HG2 := Lib.hid hg2
      generalize ((rmarks s ps).getD k P.zero).2 = u at c1 c2
      generalize (ps.getD k P.zero).1.l.length = q at c0 c2 hr1 HG2
      generalize hm : s + rlen (ps.take k) = m at c0 c2
      have HM := Lib.hid hm
      have hm2 : m ≤ 1099511627 := by omega
      have HV : Hid (Calls Try.prog 58 #[u, .int .i64 ((m : Int) + 1)] wr fun e w' => e = .returned (.int .i64 (m + 1 + 3 * q : Nat)) ∧ Below wr.heap.size wr w') := by
        have e : Rd 3 wr u q (vals (vmarks (m + 1) q)) := by
          have c3 : Rd 3 wr u (vmarks (m + 1) q).length (vals (vmarks (m + 1) q)) := c2
          rw [vmarks_len] at c3
          exact c3
        have := heldValS u q (m + 1) wr (by omega) (by omega) (by omega) e
        rw [show ((m : Int) + 1) = ((m + 1 : Nat) : Int) by omega]
        exact this
      have hmm : ((m : Int) != (m : Int)) = false := by simp
      have hmq : m + 1 + 3 * q ≤ 1099511627776 := by omega
      clear hg1 hg2 hm c2 hr1
      go_wp2_with fail
      refine HV.out.mono ?_
      rintro e w2 ⟨rfl, hb2⟩
      clear HV
      go_wp2
      go_roundw
      case rel => exact ⟨k + 1, by omega, by go_num, by rw [HG2.out]; have := HM.out; go_num, below_then hbr hb2 hbr.size⟩
      case measure => simp [intOf]; omega
    · obtain rfl : k = n := by omega
      rw [HZ.out]
      go_wp2
      go_ret
      exact ⟨rfl, hbr⟩

end Go.Proofs.Ytkofafefnlommaa
