/- The contract of impl's firstPlaces: a map from each value of a list to the first place where it stands. -/
import Derived.Test.YthniakklkepomaaIMap
import Derived.Test.YthniakklkepomaaIBack
import Derived.RangeFuncBox
import Derived.RangeFuncWrites
namespace Go.Proofs.Ythniakklkepomaa
open Go.RowKit Go.Shelf

attribute [local go_sem] Oper.semAt_some

/-- What the map holds behind the rounds xs. -/
def mapOf (d : List V) {m : Nat} (xs : List (Fin m)) : VMap := xs.foldl (fun L x => updL L (d.getD x.1 V.zero) (x.1 : Int)) []
theorem mapOf_snoc (d : List V) {m : Nat} (xs : List (Fin m)) (x : Fin m) : mapOf d (xs ++ [x]) = updL (mapOf d xs) (d.getD x.1 V.zero) (x.1 : Int) := by simp [mapOf]
theorem look_back (d : List V) {m : Nat} (v : V) : ∀ xs : List (Fin m), lookL (xs.foldr (fun x L => updL L (d.getD x.1 V.zero) (x.1 : Int)) []) v = (xs.find? fun x => v.eqB (d.getD x.1 V.zero)).map fun x => (x.1 : Int)
  | [] => rfl
  | x :: xs => by
    rw [List.foldr_cons, look_upd, look_back d v xs, List.find?_cons]
    cases v.eqB (d.getD x.1 V.zero) <;> rfl
theorem find_least {m : Nat} {p : Fin m → Bool} : ∀ {xs : List (Fin m)} {x : Fin m}, xs.Pairwise (· < ·) → xs.find? p = some x → ∀ y ∈ xs, p y = true → x.1 ≤ y.1
  | [], _, _, h, _, _, _ => by cases h
  | a :: xs, x, hp, h, y, hy, hpy => by
    obtain ⟨h1, h2⟩ := List.pairwise_cons.1 hp
    rw [List.find?_cons] at h
    cases ha : p a with
    | true =>
      rw [ha] at h
      cases h
      rcases List.mem_cons.1 hy with rfl | hy
      · exact Nat.le_refl _
      · exact Nat.le_of_lt (h1 y hy)
    | false =>
      rw [ha] at h
      rcases List.mem_cons.1 hy with rfl | hy
      · rw [ha] at hpy; cases hpy
      · exact find_least h2 h y hy hpy
theorem look_first {d : List V} {m : Nat} (hd : d.length = m) (v : V) : lookL (mapOf d (List.finRange m).reverse) v = (inD d v).map fun i => ((i : Nat) : Int) := by
  unfold mapOf
  rw [List.foldl_reverse, look_back]
  cases h : inD d v with
  | none =>
    have hn := inD_none.1 h
    rw [List.find?_eq_none.2]
    · rfl
    · intro x _ hx
      have := hn x.1 (by rw [hd]; exact x.2)
      rw [eqB_comm, hx] at this
      cases this
  | some i =>
    obtain ⟨h1, h2, h3⟩ := inD_some h
    cases hf : (List.finRange m).find? fun x => v.eqB (d.getD x.1 V.zero) with
    | none =>
      have := List.find?_eq_none.1 hf ⟨i, by omega⟩ (List.mem_finRange _)
      rw [h2, eqB_true.2 rfl] at this
      exact absurd rfl this
    | some x =>
      have hle := find_least (List.pairwise_lt_finRange m) hf ⟨i, by omega⟩ (List.mem_finRange _) (by rw [h2]; exact eqB_true.2 rfl)
      have hx := List.find?_some hf
      have hge : ¬ x.1 < i := fun hlt => by
        have := h3 x.1 hlt
        rw [eqB_comm, hx] at this
        cases this
      have : x.1 = i := by simp only at hle; omega
      rw [← this]
      rfl

theorem run_make_map (m : Nat) (w : World) : (Instr.makeMap 75 (some (.int .i64 (m : Int)))).run Try.prog w = .ok (.map (some w.heap.size)) (w.alloc (.map #[] 0)) := by
  unfold Instr.makeMap
  have ha : (asInt (.int .i64 (m : Int))).run Try.prog w = .ok (m : Int) w := rfl
  simp [run_underlying Try.underlying75, ha]

set_option maxRecDepth 100000 in
set_option maxHeartbeats 8000000 in
theorem firstPlaces (u : Value) (d : List V) (w : World) (h : Rd 3 w u d.length (vals d)) :
    Calls Try.prog 77 #[u] w fun e w' => ∃ mb es clock L, e = .returned (.map (some mb)) ∧ w.heap.size ≤ mb ∧ w'.heap[mb]? = some (.map es clock) ∧ Ents es L ∧ (∀ v, lookL L v = (inD d v).map fun i => ((i : Nat) : Int)) ∧ Below w.heap.size w w' := by
  generalize hl : d.length = m at h
  obtain ⟨a, cap, rfl, hm, hx⟩ := id h
  have HR := Lib.hid h
  have HL := Lib.hid hl
  have HM := Lib.hid hm
  have HLOOK : Hid (∀ v, lookL (mapOf d (List.finRange m).reverse) v = (inD d v).map fun i => ((i : Nat) : Int)) := fun v => look_first hl v
  unfold maxLen at hm
  clear h hl hx
  have bT := (Boxed.new (w.alloc (.map #[] 0)) 75 (.map (some w.heap.size))).alloc (.cells #[.slice a m cap] 26)
  have bN := Boxed.new ((w.alloc (.map #[] 0)).alloc (.cells #[.map (some w.heap.size)] 75)) 26 (.slice a m cap)
  have hB0 := ((below_alloc w (.map #[] 0)).alloc (by simp) (.cells #[.map (some w.heap.size)] 75)).alloc (by simp; omega) (.cells #[.slice a m cap] 26)
  have hmb : (((w.alloc (.map #[] 0)).alloc (.cells #[.map (some w.heap.size)] 75)).alloc (.cells #[.slice a m cap] 26)).heap[w.heap.size]? = some (.map #[] 0) := by
    rw [Below.heap_alloc _ _ _ (by simp; omega), Below.heap_alloc _ _ _ (by simp)]
    exact World.alloc_heap_new w _
  have hsz : (((w.alloc (.map #[] 0)).alloc (.cells #[.map (some w.heap.size)] 75)).alloc (.cells #[.slice a m cap] 26)).heap.size = w.heap.size + 3 := by simp
  simp only [World.size_alloc] at bT bN
  have hmk := run_make_map m w
  refine (callsIn_wide (n := 3)).1 ?_
  refine callsIn_of_wp_marks Try.func77 rfl trivial ?_ rfl
  simp only [Try.ntmps77, List.size_toArray, List.length_cons, List.length_nil, Nat.reduceAdd, Nat.reduceSub, Array.replicate_succ, Array.replicate_zero, List.push_toArray, List.append_toArray, List.nil_append, List.cons_append]
  gi_wp2_with (refine ⟨trivial, ?_⟩; gi_at_call 90; refine (back_in Fence.wide _ trivial rfl _ _ _ _).mono ?_; rintro e w' ⟨rfl, rfl⟩)
  obtain ⟨W0, hW0⟩ : ∃ W0, ((w.alloc (.map #[] 0)).alloc (.cells #[.map (some w.heap.size)] 75)).alloc (.cells #[.slice a m cap] 26) = W0 := ⟨_, rfl⟩
  rw [hW0] at bT bN hB0 hmb hsz ⊢
  clear hW0 hmk
  generalize hmbe : w.heap.size = mb at bT bN hmb hsz ⊢
  have HMB := Lib.hid hmbe
  clear hmbe
  refine wpIn_rangeFunc_ownH rfl (by omega) (gf := 103) (lb := #[.pointer (some ⟨mb + 1 + 1, 0, none⟩)]) rfl trivial (enters_of Try.func103 (by kernel_rfl) rfl)
    (back_stops Fence.wide _ trivial rfl (by omega) (mb + 1 + 1) m cap a d w W0 HM.out HL.out HR.out hB0 (by omega) bN.cell) keepB_t (keepB_b (by have := HMB.out; omega) (by omega)) (Below.refl _ _) (fun _ => rfl)
    (fun (pre : List (Fin m)) W => ((∃ es clock, W.heap[mb]? = some (.map es clock) ∧ Ents es (mapOf d pre)) ∧ Boxed W (mb + 1) 75 (.map (some mb)) ∧ mb + 2 < W.heap.size) ∧ Below w.heap.size w W)
    (fun _ _ _ => False)
    (OwnFrom.and (fun s X Y row hs hg hr => by
      obtain ⟨⟨es, clock, q1, q2⟩, q3, q4⟩ := hs
      exact ⟨⟨es, clock, (hg.block mb (Array.getElem?_eq_some_iff.1 q1).1 (fun e => by have := (hr mb e.symm).1; omega)).trans q1, q2⟩, q3.kept hg (fun e => by have := (hr (mb + 1) e.symm).1; omega), Nat.lt_of_lt_of_le q4 hg.size⟩) (ownFrom_below (Nat.le_refl _) (by have := HMB.out; omega)))
    (fun _ _ _ _ _ hs _ _ => hs)
    ⟨⟨⟨#[], 0, hmb, rfl⟩, bT, by omega⟩, hB0⟩
    (fun x a' W => ∃ Bx, (W.cell? ⟨Bx, 0, none⟩ = some (.int .i64 (d.getD x.1 V.zero).ty) ∧ W.cell? ⟨Bx, 1, none⟩ = some (.int .i64 (d.getD x.1 V.zero).n) ∧ W.cell? ⟨Bx, 2, none⟩ = some (.string (d.getD x.1 V.zero).s)) ∧ a' = { tmps := #[.slice a m cap, undef, .map none, .pointer (some ⟨mb + 1, 0, none⟩), .int .i64 (x.1 : Int), .pointer (some ⟨Bx, 0, none⟩), .slice a m cap, .int .i64 (m : Int), .map (some mb), .slice a m cap, .func (.func 103) #[] #[.pointer (some ⟨mb + 1 + 1, 0, none⟩)], .int .i64 (x.1 : Int), (d.getD x.1 V.zero).agg, undef, undef, undef, undef], defers := [] })
    (fun x a' _ X Y row hs hg hr => by obtain ⟨Bx, ⟨h1, h2, h3⟩, h4⟩ := hs; exact ⟨Bx, ⟨cell_kept h1 hg (fun r e => (hr r e).2), cell_kept h2 hg (fun r e => (hr r e).2), cell_kept h3 hg (fun r e => (hr r e).2)⟩, h4⟩)
    ?assign ?body ?done ?stop
  case assign =>
    rintro lp pre ⟨k, hk⟩ W K ⟨⟨⟨es, clock, q1, q2⟩, q3, q4⟩, hB1⟩ hK
    unfold bcs
    simp only at hK ⊢
    generalize hx : d.getD k V.zero = x at hK ⊢
    obtain ⟨t2, n2, s2⟩ := x
    have HK2 := Lib.hid (hK _ (W.alloc (.cells #[.int .i64 t2, .int .i64 n2, .string s2] 41)) ((KeepsOthers.alloc _ _).from _) ⟨(Below.refl _ W).alloc hB1.size _, Below.heap_alloc _ _ _ q4⟩ ⟨⟨⟨es, clock, (Below.heap_alloc _ _ _ (Array.getElem?_eq_some_iff.1 q1).1).trans q1, q2⟩, q3.alloc _, by simp; omega⟩, hB1.alloc hB1.size _⟩ ⟨W.heap.size, ⟨by simp, by simp, by simp⟩, rfl⟩)
    clear hK
    gi_wp2
    exact HK2.out
  case body =>
    rintro lp pre ⟨k, hk⟩ a' W _ _ ⟨⟨⟨es, clock, q1, q2⟩, q3, q4⟩, hB1⟩ ⟨Bx, ⟨x0, x1, x2⟩, rfl⟩ hpl
    obtain ⟨es2, clock2, hmu, he2⟩ := run_update_val (d.getD k V.zero) (k : Int) W mb clock es _ q1 q2
    have HE2 : Hid (Ents es2 (mapOf d (pre ++ [(⟨k, hk⟩ : Fin m)]))) := by
      show Ents _ _
      rw [mapOf_snoc]
      exact he2
    have cT := q3.cell
    simp only at x0 x1 x2
    generalize d.getD k V.zero = x at x0 x1 x2 hmu ⊢
    obtain ⟨t2, n2, s2⟩ := x
    simp only at x0 x1 x2 hmu
    have HQ := Lib.hid (And.intro q1 (And.intro q3 hB1))
    have hgp := grownBy_putObj' W mb (.map es2 clock2)
    have HGP := Lib.hid hgp
    have HW0 := Lib.hid hsz
    clear he2 q2 q1 q3 hB1 hgp
    gi_wp2
    have e1 := HMB.out
    have e2 := HW0.out
    have hlt : mb < W.heap.size := (Array.getElem?_eq_some_iff.1 HQ.out.1).1
    have hbm : Below w.heap.size W (W.putObj mb (.map es2 clock2)) := (Below.refl _ W).grown HGP.out (by omega) (fun k e => by cases e; omega)
    exact ⟨KeepsFrom.of_grownBy HGP.out (fun j e => by cases e; omega), ⟨hbm, World.putObj_heap_other (by omega)⟩, ⟨⟨es2, clock2, World.putObj_heap_same hlt, HE2.out⟩, HQ.out.2.1.kept HGP.out (fun e => by cases e), Nat.lt_of_lt_of_le q4 HGP.out.size⟩, HQ.out.2.2.trans hbm⟩
  case done =>
    rintro D ys W hD rfl ⟨⟨⟨es, clock, q1, q2⟩, q3, q4⟩, hB1⟩ hK
    have cT := q3.cell
    have HB1 := Lib.hid hB1
    have HQ1 := Lib.hid q1
    have HQ2 := Lib.hid q2
    clear q1 q2 q3 hB1
    gi_wp2
    refine ⟨by simp, .inl ⟨_, _, rfl, run_takeDeferred hK, ?_⟩⟩
    have e1 := HMB.out
    have hDm : mb ≠ D := by omega
    exact ⟨_, results_tmp rfl _ _ _, mb, es, clock, _, rfl, by omega, (World.putObj_heap_other hDm).trans HQ1.out, HQ2.out, HLOOK.out, HB1.out.trans (belowK_b (w := w) (Nat.le_refl _) _ D _ _ (by have := hB0.size; omega) hK rfl rfl)⟩
  case stop =>
    rintro D c pre W _ _ h _
    exact h.elim

end Go.Proofs.Ythniakklkepomaa
