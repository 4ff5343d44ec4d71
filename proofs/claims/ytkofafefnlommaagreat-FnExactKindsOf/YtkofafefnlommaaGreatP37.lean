/- Texts of this claim, one behind the other: IFirst, I7p. -/
import Derived.Test.YtkofafefnlommaaGreatP29
import Derived.Test.YtkofafefnlommaaGreatP33
import Derived.RangeFuncBox
import Derived.RangeFuncWrites

/- The contract of impl's firstPlaces: a map from each value of a list to the first place where it stands. -/
namespace Go.Proofs.YtkofafefnlommaaGreat
open Go.RowKit Go.Shelf

attribute [local go_sem] Oper.semAt_some

/-- What the map holds behind the rounds xs. -/
def mapOf (d : List V) {m : Nat} (xs : List (Fin m)) : VMap := xs.foldl (fun L x => updL L (d.getD x.1 V.zero) (x.1 : Int)) []
theorem mapOf_snoc (d : List V) {m : Nat} (xs : List (Fin m)) (x : Fin m) : mapOf d (xs ++ [x]) = updL (mapOf d xs) (d.getD x.1 V.zero) (x.1 : Int) := by simp [mapOf]
theorem look_back (d : List V) {m : Nat} (v : V) : ∀ xs : List (Fin m), lookL (xs.foldr (fun x L => updL L (d.getD x.1 V.zero) (x.1 : Int)) []) v = (xs.find? fun x => v.eqB (d.getD x.1 V.zero)).map fun x => (x.1 : Int)
  | [] => rfl
  | x :: xs => by
    rw [List.foldr_cons, look_upd, look_back d v xs, List.find?_cons]
    cases v.eqB (d.getD x.1 V.zero) <;> rfl
theorem find_least {m : Nat} {p : Fin m → Bool} : ∀ {xs : List (Fin m)} {x : Fin m}, xs.Pairwise (· < ·) → xs.find? p = some x → ∀ y ∈ xs, p y = true → x.1 ≤ y.1
  | [], _, _, h, _, _, _ => by cases h
  | a :: xs, x, hp, h, y, hy, hpy => by
    obtain ⟨h1, h2⟩ := List.pairwise_cons.1 hp
    rw [List.find?_cons] at h
    cases ha : p a with
    | true =>
      rw [ha] at h
      cases h
      rcases List.mem_cons.1 hy with rfl | hy
      · exact Nat.le_refl _
      · exact Nat.le_of_lt (h1 y hy)
    | false =>
      rw [ha] at h
      rcases List.mem_cons.1 hy with rfl | hy
      · rw [ha] at hpy; cases hpy
      · exact find_least h2 h y hy hpy
theorem look_first {d : List V} {m : Nat} (hd : d.length = m) (v : V) : lookL (mapOf d (List.finRange m).reverse) v = (inD d v).map fun i => ((i : Nat) : Int) := by
  unfold mapOf
  rw [List.foldl_reverse, look_back]
  cases h : inD d v with
  | none =>
    have hn := inD_none.1 h
    rw [List.find?_eq_none.2]
    · rfl
    · intro x _ hx
      have := hn x.1 (by rw [hd]; exact x.2)
      rw [eqB_comm, hx] at this
      cases this
  | some i =>
    obtain ⟨h1, h2, h3⟩ := inD_some h
    cases hf : (List.finRange m).find? fun x => v.eqB (d.getD x.1 V.zero) with
    | none =>
      have := List.find?_eq_none.1 hf ⟨i, by omega⟩ (List.mem_finRange _)
      rw [h2, eqB_true.2 rfl] at this
      exact absurd rfl this
    | some x =>
      have hle := find_least (List.pairwise_lt_finRange m) hf ⟨i, by omega⟩ (List.mem_finRange _) (by rw [h2]; exact eqB_true.2 rfl)
      have hx := List.find?_some hf
      have hge : ¬ x.1 < i := fun hlt => by
        have := h3 x.1 hlt
        rw [eqB_comm, hx] at this
        cases this
      have : x.1 = i := by simp only at hle; omega
      rw [← this]
      rfl

theorem run_make_map (m : Nat) (w : World) : (Instr.makeMap 161 (some (.int .i64 (m : Int)))).run Tryz.prog w = .ok (.map (some w.heap.size)) (w.alloc (.map #[] 0)) := by
  unfold Instr.makeMap
  have ha : (asInt (.int .i64 (m : Int))).run Tryz.prog w = .ok (m : Int) w := rfl
  simp [run_underlying Tryz.underlying161, ha]

set_option maxRecDepth 100000 in
set_option maxHeartbeats 8000000 in
theorem firstPlaces (u : Value) (d : List V) (w : World) (h : Rd 3 w u d.length (vals d)) :
    Calls Tryz.prog 179 #[u] w fun e w' => ∃ mb es clock L, e = .returned (.map (some mb)) ∧ w.heap.size ≤ mb ∧ w'.heap[mb]? = some (.map es clock) ∧ Ents es L ∧ (∀ v, lookL L v = (inD d v).map fun i => ((i : Nat) : Int)) ∧ Below w.heap.size w w' := by
  generalize hl : d.length = m at h
  obtain ⟨a, cap, rfl, hm, hx⟩ := id h
  have HR := Lib.hid h
  have HL := Lib.hid hl
  have HM := Lib.hid hm
  have HLOOK : Hid (∀ v, lookL (mapOf d (List.finRange m).reverse) v = (inD d v).map fun i => ((i : Nat) : Int)) := fun v => look_first hl v
  unfold maxLen at hm
  clear h hl hx
  have bT := (Boxed.new (w.alloc (.map #[] 0)) 161 (.map (some w.heap.size))).alloc (.cells #[.slice a m cap] 55)
  have bN := Boxed.new ((w.alloc (.map #[] 0)).alloc (.cells #[.map (some w.heap.size)] 161)) 55 (.slice a m cap)
  have hB0 := ((below_alloc w (.map #[] 0)).alloc (by simp) (.cells #[.map (some w.heap.size)] 161)).alloc (by simp; omega) (.cells #[.slice a m cap] 55)
  have hmb : (((w.alloc (.map #[] 0)).alloc (.cells #[.map (some w.heap.size)] 161)).alloc (.cells #[.slice a m cap] 55)).heap[w.heap.size]? = some (.map #[] 0) := by
    rw [Below.heap_alloc _ _ _ (by simp; omega), Below.heap_alloc _ _ _ (by simp)]
    exact World.alloc_heap_new w _
  have hsz : (((w.alloc (.map #[] 0)).alloc (.cells #[.map (some w.heap.size)] 161)).alloc (.cells #[.slice a m cap] 55)).heap.size = w.heap.size + 3 := by simp
  simp only [World.size_alloc] at bT bN
  have hmk := run_make_map m w
  refine (callsIn_wide (n := 3)).1 ?_
  refine callsIn_of_wp_marks Tryz.func179 rfl trivial ?_ rfl
  simp only [Tryz.ntmps179, List.size_toArray, List.length_cons, List.length_nil, Nat.reduceAdd, Nat.reduceSub, Array.replicate_succ, Array.replicate_zero, List.push_toArray, List.append_toArray, List.nil_append, List.cons_append]
  gi_wp2_with (refine ⟨trivial, ?_⟩; gi_at_call 195; refine (back_in Fence.wide _ trivial rfl _ _ _ _).mono ?_; rintro e w' ⟨rfl, rfl⟩)
  obtain ⟨W0, hW0⟩ : ∃ W0, ((w.alloc (.map #[] 0)).alloc (.cells #[.map (some w.heap.size)] 161)).alloc (.cells #[.slice a m cap] 55) = W0 := ⟨_, rfl⟩
  rw [hW0] at bT bN hB0 hmb hsz ⊢
  clear hW0 hmk
  generalize hmbe : w.heap.size = mb at bT bN hmb hsz ⊢
  have HMB := Lib.hid hmbe
  clear hmbe
  refine wpIn_rangeFunc_ownH rfl (by omega) (gf := 208) (lb := #[.pointer (some ⟨mb + 1 + 1, 0, none⟩)]) rfl trivial (enters_of Tryz.func208 (by kernel_rfl) rfl)
    (back_stops Fence.wide _ trivial rfl (by omega) (mb + 1 + 1) m cap a d w W0 HM.out HL.out HR.out hB0 (by omega) bN.cell) keepB_t (keepB_b (by have := HMB.out; omega) (by omega)) (Below.refl _ _) (fun _ => rfl)
    (fun (pre : List (Fin m)) W => ((∃ es clock, W.heap[mb]? = some (.map es clock) ∧ Ents es (mapOf d pre)) ∧ Boxed W (mb + 1) 161 (.map (some mb)) ∧ mb + 2 < W.heap.size) ∧ Below w.heap.size w W)
    (fun _ _ _ => False)
    (OwnFrom.and (fun s X Y row hs hg hr => by
      obtain ⟨⟨es, clock, q1, q2⟩, q3, q4⟩ := hs
      exact ⟨⟨es, clock, (hg.block mb (Array.getElem?_eq_some_iff.1 q1).1 (fun e => by have := (hr mb e.symm).1; omega)).trans q1, q2⟩, q3.kept hg (fun e => by have := (hr (mb + 1) e.symm).1; omega), Nat.lt_of_lt_of_le q4 hg.size⟩) (ownFrom_below (Nat.le_refl _) (by have := HMB.out; omega)))
    (fun _ _ _ _ _ hs _ _ => hs)
    ⟨⟨⟨#[], 0, hmb, rfl⟩, bT, by omega⟩, hB0⟩
    (fun x a' W => ∃ Bx, (W.cell? ⟨Bx, 0, none⟩ = some (.int .i64 (d.getD x.1 V.zero).ty) ∧ W.cell? ⟨Bx, 1, none⟩ = some (.int .i64 (d.getD x.1 V.zero).n) ∧ W.cell? ⟨Bx, 2, none⟩ = some (.string (d.getD x.1 V.zero).s)) ∧ a' = { tmps := #[.slice a m cap, undef, .map none, .pointer (some ⟨mb + 1, 0, none⟩), .int .i64 (x.1 : Int), .pointer (some ⟨Bx, 0, none⟩), .slice a m cap, .int .i64 (m : Int), .map (some mb), .slice a m cap, .func (.func 208) #[] #[.pointer (some ⟨mb + 1 + 1, 0, none⟩)], .int .i64 (x.1 : Int), (d.getD x.1 V.zero).agg, undef, undef, undef, undef], defers := [] })
    (fun x a' _ X Y row hs hg hr => by obtain ⟨Bx, ⟨h1, h2, h3⟩, h4⟩ := hs; exact ⟨Bx, ⟨cell_kept h1 hg (fun r e => (hr r e).2), cell_kept h2 hg (fun r e => (hr r e).2), cell_kept h3 hg (fun r e => (hr r e).2)⟩, h4⟩)
    ?assign ?body ?done ?stop
  case assign =>
    rintro lp pre ⟨k, hk⟩ W K ⟨⟨⟨es, clock, q1, q2⟩, q3, q4⟩, hB1⟩ hK
    unfold bcs
    simp only at hK ⊢
    generalize hx : d.getD k V.zero = x at hK ⊢
    obtain ⟨t2, n2, s2⟩ := x
    have HK2 := Lib.hid (hK _ (W.alloc (.cells #[.int .i64 t2, .int .i64 n2, .string s2] 77)) ((KeepsOthers.alloc _ _).from _) ⟨(Below.refl _ W).alloc hB1.size _, Below.heap_alloc _ _ _ q4⟩ ⟨⟨⟨es, clock, (Below.heap_alloc _ _ _ (Array.getElem?_eq_some_iff.1 q1).1).trans q1, q2⟩, q3.alloc _, by simp; omega⟩, hB1.alloc hB1.size _⟩ ⟨W.heap.size, ⟨by simp, by simp, by simp⟩, rfl⟩)
    clear hK
    gi_wp2
    exact HK2.out
  case body =>
    rintro lp pre ⟨k, hk⟩ a' W _ _ ⟨⟨⟨es, clock, q1, q2⟩, q3, q4⟩, hB1⟩ ⟨Bx, ⟨x0, x1, x2⟩, rfl⟩ hpl
    obtain ⟨es2, clock2, hmu, he2⟩ := run_update_val (d.getD k V.zero) (k : Int) W mb clock es _ q1 q2
    have HE2 : Hid (Ents es2 (mapOf d (pre ++ [(⟨k, hk⟩ : Fin m)]))) := by
      show Ents _ _
      rw [mapOf_snoc]
      exact he2
    have cT := q3.cell
    simp only at x0 x1 x2
    generalize d.getD k V.zero = x at x0 x1 x2 hmu ⊢
    obtain ⟨t2, n2, s2⟩ := x
    simp only at x0 x1 x2 hmu
    have HQ := Lib.hid (And.intro q1 (And.intro q3 hB1))
    have hgp := grownBy_putObj' W mb (.map es2 clock2)
    have HGP := Lib.hid hgp
    have HW0 := Lib.hid hsz
    clear he2 q2 q1 q3 hB1 hgp
    gi_wp2
    have e1 := HMB.out
    have e2 := HW0.out
    have hlt : mb < W.heap.size := (Array.getElem?_eq_some_iff.1 HQ.out.1).1
    have hbm : Below w.heap.size W (W.putObj mb (.map es2 clock2)) := (Below.refl _ W).grown HGP.out (by omega) (fun k e => by cases e; omega)
    exact ⟨KeepsFrom.of_grownBy HGP.out (fun j e => by cases e; omega), ⟨hbm, World.putObj_heap_other (by omega)⟩, ⟨⟨es2, clock2, World.putObj_heap_same hlt, HE2.out⟩, HQ.out.2.1.kept HGP.out (fun e => by cases e), Nat.lt_of_lt_of_le q4 HGP.out.size⟩, HQ.out.2.2.trans hbm⟩
  case done =>
    rintro D ys W hD rfl ⟨⟨⟨es, clock, q1, q2⟩, q3, q4⟩, hB1⟩ hK
    have cT := q3.cell
    have HB1 := Lib.hid hB1
    have HQ1 := Lib.hid q1
    have HQ2 := Lib.hid q2
    clear q1 q2 q3 hB1
    gi_wp2
    refine ⟨by simp, .inl ⟨_, _, rfl, run_takeDeferred hK, ?_⟩⟩
    have e1 := HMB.out
    have hDm : mb ≠ D := by omega
    exact ⟨_, results_tmp rfl _ _ _, mb, es, clock, _, rfl, by omega, (World.putObj_heap_other hDm).trans HQ1.out, HQ2.out, HLOOK.out, HB1.out.trans (belowK_b (w := w) (Nat.le_refl _) _ D _ _ (by have := hB0.size; omega) hK rfl rfl)⟩
  case stop =>
    rintro D c pre W _ _ h _
    exact h.elim

end Go.Proofs.YtkofafefnlommaaGreat

/- The contract of impl's Places. -/
namespace Go.Proofs.YtkofafefnlommaaGreat
open Go.RowKit

theorem filled_len {pre : List Int} {n : Nat} (h : pre.length ≤ n) : (filled .i64 pre n).length = n := by simp [filled, ints]; omega

set_option maxHeartbeats 2000000 in
theorem iPlaces : CPlaces := by
  intro u v d l w _ hn hd h
  have HF := Lib.hid (firstPlaces u d w hd)
  generalize hl : l.length = K at h hn
  obtain ⟨a, cap, rfl, hm, HC⟩ := h.vals hl
  unfold maxLen at hm
  have HL := Lib.hid hl
  have HNO : Hid (∀ k, k < K → inD d (l.getD k V.zero) = none → placesL d l = ([], false)) := fun k hk h1 => places_no (by omega) h1
  have HYES : Hid ((∀ k, k < K → (inD d (l.getD k V.zero)).isSome = true) → placesL d l = (l.map (inI d), true)) := fun h1 => places_yes (fun k hk => h1 k (by omega))
  have HS : Hid (∀ k, k < K → plK d l (k + 1) = plK d l k ++ [inI d (l.getD k V.zero)]) := fun k hk => by
    unfold plK
    exact map_snoc _ _ V.zero _ (by omega)
  have HKL : Hid (∀ k, k ≤ K → (plK d l k).length = k) := fun k hk => by simp [plK]; omega
  have HPK0 : Hid (plK d l 0 = []) := by show _ = _; simp [plK]
  have HPKE : Hid (plK d l K = l.map (inI d)) := by show _ = _; unfold plK; rw [← hl, List.take_length]
  generalize placesL d l = R at HNO HYES
  clear h hl hd
  go_enter Tryz.func156, Tryz.ntmps156
  go_wp2_with fail
  refine HF.out.mono ?_
  rintro e w1 ⟨mb, es, clock, L, rfl, hmb, hob, hen, hlk, b1⟩
  have HLK := Lib.hid hlk
  have HEN := Lib.hid hen
  have hz1 := b1.size
  have hmlt : mb < w1.heap.size := (Array.getElem?_eq_some_iff.1 hob).1
  have HOB := Lib.hid hob
  clear HF hlk hen hob
  go_wp2_with (at_make; refine make_law Tryz.elemInts rfl _ _ rfl .i64 .i64 _ _ K rfl rfl rfl rfl (by omega) (by unfold maxLen; omega) ?_)
  intro w2 hown1 hb2
  have hown0 : Own 3 1 w1.heap.size w2.heap.size w2 (.slice (some ⟨w1.heap.size, 0, none⟩) K K) K (filled .i64 (plK d l 0) K) := by
    have e := made_ints .i64 K
    rw [Nat.mul_one] at e
    rw [HPK0.out, filled_nil, ← e]
    exact hown1
  clear hown1
  generalize hg : w1.heap.size = g at hown0 hb2 hmlt ⊢
  have HG := Lib.hid hg
  clear hg
  go_wp2
  go_loopw [19] (fun i wr => ∃ j : Nat, j ≤ K ∧ i = .int .i64 j ∧ (∀ i, i < j → (inD d (l.getD i V.zero)).isSome = true) ∧ wr.ownsRow g 3 1 (.slice (some ⟨g, 0, none⟩) K K) K (filled .i64 (plK d l j) K) ∧ Below g w1 wr) (fun i _ => K - (intOf i).toNat)
  case atStart => exact ⟨0, Nat.zero_le _, rfl, fun i hi => by omega, hown0.row, hb2⟩
  case round =>
    obtain ⟨j, hj, rfl, hno, hown, hbr⟩ := hrel
    have HK := Lib.hid hno
    clear hown0 hb2 hno
    have hgw := HG.out
    by_cases hlt : j < K
    · obtain ⟨b, off, rfl, p0, p1, p2⟩ := HC.out j hlt
      have bw : Below w.heap.size w wr := b1.trans (hbr.mono (by omega))
      replace p0 := (bw.cell (p := ⟨b, off + j * 3, none⟩) (lt_of_cell p0)).trans p0
      replace p1 := (bw.cell (p := ⟨b, off + j * 3 + 1, none⟩) (lt_of_cell p1)).trans p1
      replace p2 := (bw.cell (p := ⟨b, off + j * 3 + 2, none⟩) (lt_of_cell p2)).trans p2
      have hob2 : wr.heap[mb]? = some (.map es clock) := (hbr.block mb hmlt).trans HOB.out
      have HSJ := Lib.hid (HS.out j hlt)
      have HKJ := Lib.hid (HKL.out j hj)
      have HSET := Lib.hid (fun x => filled_set (k := .i64) (pre := plK d l j) (n := K) x (by rw [HKJ.out]; exact hlt))
      rw [HKJ.out] at HSET
      have HNK := Lib.hid (HNO.out j hlt)
      have HKK : Hid ((inD d (l.getD j V.zero)).isSome = true → ∀ i, i < j + 1 → (inD d (l.getD i V.zero)).isSome = true) := fun h1 i hi => by
        by_cases e : i = j
        · subst e; exact h1
        · exact HK.out i (by omega)
      have HLV := Lib.hid (HLK.out (l.getD j V.zero))
      have HIS : Hid (∀ i, inD d (l.getD j V.zero) = some i → inI d (l.getD j V.zero) = i) := fun i hi => inI_some hi
      have hlu := fun W hW => run_lookup_val (l.getD j V.zero) W mb clock es L hW HEN.out
      generalize inI d (l.getD j V.zero) = z at HSJ HIS
      generalize inD d (l.getD j V.zero) = o at HNK HKK HLV HIS
      rw [HLV.out] at hlu
      generalize l.getD j V.zero = y at p0 p1 p2 hlu
      obtain ⟨t1, n1, s1⟩ := y
      simp only at p0 p1 p2 hlu
      have hlu2 := hlu (wr.alloc (.cells #[.int .i64 t1, .int .i64 n1, .string s1] 77)) ((Below.heap_alloc _ _ _ (Array.getElem?_eq_some_iff.1 hob2).1).trans hob2)
      have hsz := hbr.size
      have hownA := (own_of_row hown (Nat.le_refl _)).alloc (.cells #[.int .i64 t1, .int .i64 n1, .string s1] 77)
      have hbA := hbr.alloc (Nat.le_trans (by omega) hbr.size) (.cells #[.int .i64 t1, .int .i64 n1, .string s1] 77)
      have hvA := held_new wr ⟨t1, n1, s1⟩ 77
      have HROW := Lib.hid hown
      clear hlu hown hob2
      cases o with
      | none =>
        have HR := Lib.hid (HNK.out rfl)
        simp only [Option.map_none, Option.getD_none, Option.isSome_none] at hlu2
        have OL := own_lit (e := 3) (size := 1) (wr.alloc (.cells #[.int .i64 t1, .int .i64 n1, .string s1] 77)) #[] 0 (Nat.zero_le _) rfl
        have BL := Lib.hid (b1.trans ((hbA.alloc (by simp; omega) (.cells #[] 3)).mono (by omega)))
        have OL2 := Lib.hid (OL.lower (lo' := w.heap.size) (by simp; omega))
        clear hownA hbA OL
        go_wp2
        go_ret2
        rw [HR.out]
        exact ⟨_, rfl, by simpa [ints] using OL2.out, BL.out⟩
      | some A =>
        have HK2 := Lib.hid (HKK.out rfl)
        obtain rfl := HIS.out A rfl
        simp only [Option.map_some, Option.getD_some, Option.isSome_some] at hlu2
        obtain ⟨gA, cA, eA, _, _, row⟩ := hownA
        cases eA
        have R := Lib.hid ((HROW.out.stored j (.int .i64 (A : Int))).1.alloc (.cells #[.int .i64 t1, .int .i64 n1, .string s1] 77))
        rw [HSET.out, ← HSJ.out] at R
        obtain ⟨x0, s0⟩ := cellAt_some row j (by omega)
        have f0 := row.frozenAt j
        have hbA2 := Lib.hid ((hbr.setCell (p := ⟨g, j, none⟩) (Nat.le_refl _) (.int .i64 (A : Int))).alloc (by simp [World.setCell]; omega) (.cells #[.int .i64 t1, .int .i64 n1, .string s1] 77))
        obtain ⟨⟨v0, v1, v2⟩, _⟩ := hvA
        simp only at v0 v1 v2
        clear hbA row HNK HKK HIS HLV bw hbr hsz
        go_wp2
        go_roundw
        case rel => exact ⟨j + 1, by omega, by go_num, HK2.out, R.out, hbA2.out⟩
        case measure => simp [intOf]; omega
    · obtain rfl : j = K := by omega
      have HR := Lib.hid (HYES.out HK.out)
      have OO := Lib.hid (own_of_row hown (Nat.le_refl _))
      have HKJ := Lib.hid (HKL.out j hj)
      clear hown
      go_wp2
      go_ret2
      rw [HR.out]
      refine ⟨_, rfl, ?_, b1.trans (hbr.mono (by omega))⟩
      have := OO.out
      rw [filled_all HKJ.out, HPKE.out] at this
      show Own _ _ _ _ _ _ (l.map _).length _
      rw [List.length_map, HL.out]
      exact this.lower (by omega)

end Go.Proofs.YtkofafefnlommaaGreat
