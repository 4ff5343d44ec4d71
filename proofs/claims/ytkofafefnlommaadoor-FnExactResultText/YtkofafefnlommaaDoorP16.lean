/- Texts of this claim, one behind the other: IValOk, R4M, S10z, S11, Law4, RowsH. -/
import Derived.Test.YtkofafefnlommaaDoorP15
import Derived.Test.YtkofafefnlommaaDoorP5
import Derived.Test.YtkofafefnlommaaDoorP4
import Derived.Deep.RegionHeld3
import Derived.Test.YtkofafefnlommaaDoorP3

/- The contract of impl's ValOk. -/
namespace Go.Proofs.YtkofafefnlommaaDoor
open Go.RowKit

theorem boxedV {w : World} {t n : Int} {s : ByteArray} {e : TypeId} {W : World} (hb : Below (w.alloc (.cells #[.int .i64 t, .int .i64 n, .string s] e)).heap.size (w.alloc (.cells #[.int .i64 t, .int .i64 n, .string s] e)) W) :
    W.cell? ⟨w.heap.size, 0, none⟩ = some (.int .i64 t) ∧ W.cell? ⟨w.heap.size, 1, none⟩ = some (.int .i64 n) ∧ W.cell? ⟨w.heap.size, 2, none⟩ = some (.string s) := by
  refine ⟨(hb.cell (p := ⟨w.heap.size, 0, none⟩) (by simp)).trans ?_, (hb.cell (p := ⟨w.heap.size, 1, none⟩) (by simp)).trans ?_, (hb.cell (p := ⟨w.heap.size, 2, none⟩) (by simp)).trans ?_⟩ <;> simp

set_option maxHeartbeats 1000000 in
theorem iValOk (v : V) (w : World) (hs : v.s.size ≤ maxLen) : Calls Tryd.prog 85 #[v.agg] w fun e w' => e = .returned (.bool (okV v)) ∧ Below w.heap.size w w' := by
  obtain ⟨t, n, s⟩ := v
  simp only at hs
  have B0 := below_alloc w (.cells #[.int .i64 t, .int .i64 n, .string s] 29)
  have HC := Lib.hid (fun (W : World) => boxedV (w := w) (t := t) (n := n) (s := s) (e := 29) (W := W))
  generalize hw0 : (w.alloc (.cells #[.int .i64 t, .int .i64 n, .string s] 29)) = w0 at B0 HC
  have hB := Below.refl w0.heap.size w0
  have hB' := hB.drew
  have HW := Lib.hid hw0
  clear hw0
  by_cases ht : t = 1
  · subst ht
    have HE : Hid (okV ⟨1, n, s⟩ = (Num.okB n && (s.size == 0))) := if_pos rfl
    have HA := Lib.hid (fun W => iIntVal n W)
    have HO := Lib.hid (fun W => numOk n W)
    have HQ := Lib.hid (fun W => run_eql_val ⟨1, n, s⟩ ⟨1, n, ⟨#[]⟩⟩ W)
    by_cases h0 : s.size = 0
    · have e : V.eqB ⟨1, n, s⟩ ⟨1, n, ⟨#[]⟩⟩ = true := by
        obtain rfl : s = ⟨#[]⟩ := by
          apply ByteArray.ext
          exact Array.eq_empty_of_size_eq_zero h0
        simp [V.eqB]
      rw [e] at HQ
      rw [show (s.size == 0) = true by simpa using h0, Bool.and_true] at HE
      have hq := HQ.out
      clear e h0 HQ
      generalize Num.okB n = r at HE HO
      go_enter Tryd.func85, Tryd.ntmps85
      go_wp2_with fail
      rw [HW.out]
      go_region_held3 (fun W => W.cell? ⟨w.heap.size, 0, none⟩ = some (.int .i64 1) ∧ W.cell? ⟨w.heap.size, 1, none⟩ = some (.int .i64 n) ∧ W.cell? ⟨w.heap.size, 2, none⟩ = some (.string s)) (first | exact HC.out _ hB' | exact HC.out _ hB) (first | (go_at_call 97; (with_reducible refine (HA.out _).mono ?_); rintro e w3 ⟨rfl, hb⟩; replace hB' := below_then hB' hb hB'.size) | (go_at_call 98; (with_reducible refine (HO.out _).mono ?_); rintro e w4 ⟨rfl, rfl⟩))
      all_goals
        go_wp2
        go_ret
        exact ⟨ret_bool HE.out.symm, B0.trans (hB'.mono B0.size)⟩
    · have e : V.eqB ⟨1, n, s⟩ ⟨1, n, ⟨#[]⟩⟩ = false := by
        have : ¬ s.toList = [] := fun e => h0 (size_of_toList e)
        have h1 : (s.toList == []) = false := by simpa using this
        have h2 : (⟨#[]⟩ : ByteArray).toList = [] := by rw [ByteArray.toList_eq]
        simp [V.eqB, h2, this]
      rw [e] at HQ
      rw [show (s.size == 0) = false by simpa using h0, Bool.and_false] at HE
      have hq := HQ.out
      clear e h0 HQ
      go_enter Tryd.func85, Tryd.ntmps85
      go_wp2_with fail
      rw [HW.out]
      refine wp_region_held_drew (S := (fun W => W.cell? ⟨w.heap.size, 0, none⟩ = some (.int .i64 1) ∧ W.cell? ⟨w.heap.size, 1, none⟩ = some (.int .i64 n) ∧ W.cell? ⟨w.heap.size, 2, none⟩ = some (.string s))) (by kernel_rfl) (HC.out _ hB') (fun hHeld => ?_)
      refine takeH (i := 0) (d := some 7) (v := .agg #[.int .i64 1, .int .i64 n, .string s]) rfl rfl (by kernel_rfl) (by kernel_rfl) (by kernel_rfl) (fun _ _ _ h => h) (Or.inl ⟨by rfl, fun W hSw => by obtain ⟨c0, c1, c2⟩ := hSw; go_simp⟩) hHeld ?_
      simp only [put_some, List.set_cons_zero, List.set_cons_succ]
      refine takeH (i := 1) (d := some 8) (v := .pointer (some ⟨w.heap.size, 1, none⟩)) rfl rfl (by kernel_rfl) (by kernel_rfl) (by kernel_rfl) (fun _ _ _ h => h) (Or.inl ⟨by rfl, fun W hSw => by obtain ⟨c0, c1, c2⟩ := hSw; go_simp⟩) hHeld ?_
      simp only [put_some, List.set_cons_zero, List.set_cons_succ]
      refine takeH (i := 2) (d := some 9) (v := .int .i64 n) rfl rfl (by kernel_rfl) (by kernel_rfl) (by kernel_rfl) (fun _ _ _ h => h) (Or.inl ⟨by rfl, fun W hSw => by obtain ⟨c0, c1, c2⟩ := hSw; go_simp⟩) hHeld ?_
      simp only [put_some, List.set_cons_zero, List.set_cons_succ]
      refine wpAnyH_ready (rs := [3]) (by kernel_rfl) (by simp) ?_
      refine AllReadyH.cons rfl (fun K hK => ?_) AllReadyH.nil
      go_simp
      go_at_call 97
      refine (HA.out _).mono ?_
      rintro e w3 ⟨rfl, hb⟩
      replace hB' := below_then hB' hb hB'.size
      go_wp2_with fail
      refine hK.out _ _ (HC.out _ hB') (fun hHeld => ?_)
      clear hK K
      refine takeH (i := 4) (d := some 11) (v := .bool false) rfl rfl (by kernel_rfl) (by kernel_rfl) (by kernel_rfl) (fun _ _ _ h => h) (Or.inl ⟨by rfl, fun W hSw => by obtain ⟨c0, c1, c2⟩ := hSw; go_simp⟩) hHeld ?_
      simp only [put_some, List.set_cons_zero, List.set_cons_succ]
      refine takeH (i := 5) (d := some 12) (v := .bool false) rfl rfl (by kernel_rfl) (by kernel_rfl) (by kernel_rfl) (fun _ _ _ h => h) (Or.inl ⟨by rfl, fun W hSw => by obtain ⟨c0, c1, c2⟩ := hSw; go_simp⟩) hHeld ?_
      simp only [put_some, List.set_cons_zero, List.set_cons_succ]
      refine takeH (i := 6) (d := some 13) (v := undef) rfl rfl (by kernel_rfl) (by kernel_rfl) (by kernel_rfl) (fun _ _ _ h => h) (Or.inr ⟨by rfl, rfl⟩) hHeld ?_
      simp only [put_some, List.set_cons_zero, List.set_cons_succ]
      refine takeH (i := 7) (d := some 14) (v := undef) rfl rfl (by kernel_rfl) (by kernel_rfl) (by kernel_rfl) (fun _ _ _ h => h) (Or.inr ⟨by rfl, rfl⟩) hHeld ?_
      simp only [put_some, List.set_cons_zero, List.set_cons_succ]
      refine takeH (i := 8) (d := some 15) (v := undef) rfl rfl (by kernel_rfl) (by kernel_rfl) (by kernel_rfl) (fun _ _ _ h => h) (Or.inr ⟨by rfl, rfl⟩) hHeld ?_
      simp only [put_some, List.set_cons_zero, List.set_cons_succ]
      refine takeH (i := 9) (d := some 16) (v := .bool false) rfl rfl (by kernel_rfl) (by kernel_rfl) (by kernel_rfl) (fun _ _ _ h => h) (Or.inl ⟨by rfl, fun W hSw => by obtain ⟨c0, c1, c2⟩ := hSw; go_simp⟩) hHeld ?_
      simp only [put_some, List.set_cons_zero, List.set_cons_succ]
      refine takeH (i := 10) (d := some 2) (v := .bool false) rfl rfl (by kernel_rfl) (by kernel_rfl) (by kernel_rfl) (fun _ _ _ h => h) (Or.inl ⟨by rfl, fun W hSw => by obtain ⟨c0, c1, c2⟩ := hSw; go_simp⟩) hHeld ?_
      simp only [put_some, List.set_cons_zero, List.set_cons_succ]
      refine wpAnyH_done (by kernel_rfl) ?_ _
      go_wp2
      go_ret
      exact ⟨ret_bool HE.out.symm, B0.trans (hB'.mono B0.size)⟩
  · have HE : Hid (okV ⟨t, n, s⟩ = (t == 2 && (n == 0 && txtB s))) := if_neg ht
    have ht1 : (t == 1) = false := by simpa using ht
    by_cases ht2 : t = 2
    · subst ht2
      have HA := Lib.hid (fun W => iTextVal s W)
      have HO := Lib.hid (fun W => iTextOk s W hs)
      have HQ := Lib.hid (fun W => run_eql_val ⟨2, n, s⟩ ⟨2, 0, s⟩ W)
      have e : V.eqB ⟨2, n, s⟩ ⟨2, 0, s⟩ = (n == 0) := by simp [V.eqB]
      rw [e] at HQ
      rw [show ((2 : Int) == 2) = true from rfl, Bool.true_and] at HE
      by_cases h0 : n = 0
      · rw [show (n == 0) = true by simpa using h0] at HE HQ
        rw [Bool.true_and] at HE
        have hq := HQ.out
        clear e h0 HQ ht
        generalize txtB s = r at HE HO
        go_enter Tryd.func85, Tryd.ntmps85
        go_wp2_with fail
        rw [HW.out]
        go_region_held3 (fun W => W.cell? ⟨w.heap.size, 0, none⟩ = some (.int .i64 2) ∧ W.cell? ⟨w.heap.size, 1, none⟩ = some (.int .i64 n) ∧ W.cell? ⟨w.heap.size, 2, none⟩ = some (.string s)) (first | exact HC.out _ hB' | exact HC.out _ hB) (first | (go_at_call 99; (with_reducible refine (HA.out _).mono ?_); rintro e w3 ⟨rfl, hb⟩; replace hB' := below_then hB' hb hB'.size) | (go_at_call 100; (with_reducible refine (HO.out _).mono ?_); rintro e w4 ⟨rfl, rfl⟩))
        all_goals
          go_wp2
          go_ret
          exact ⟨ret_bool HE.out.symm, B0.trans (hB'.mono B0.size)⟩
      · rw [show (n == 0) = false by simpa using h0] at HE HQ
        rw [Bool.false_and] at HE
        have hq := HQ.out
        clear e h0 HQ ht
        go_enter Tryd.func85, Tryd.ntmps85
        go_wp2_with fail
        rw [HW.out]
        refine wp_region_held_drew (S := (fun W => W.cell? ⟨w.heap.size, 0, none⟩ = some (.int .i64 2) ∧ W.cell? ⟨w.heap.size, 1, none⟩ = some (.int .i64 n) ∧ W.cell? ⟨w.heap.size, 2, none⟩ = some (.string s))) (by kernel_rfl) (HC.out _ hB') (fun hHeld => ?_)
        refine takeH (i := 0) (d := some 19) (v := .agg #[.int .i64 2, .int .i64 n, .string s]) rfl rfl (by kernel_rfl) (by kernel_rfl) (by kernel_rfl) (fun _ _ _ h => h) (Or.inl ⟨by rfl, fun W hSw => by obtain ⟨c0, c1, c2⟩ := hSw; go_simp⟩) hHeld ?_
        simp only [put_some, List.set_cons_zero, List.set_cons_succ]
        refine takeH (i := 1) (d := some 20) (v := .pointer (some ⟨w.heap.size, 2, none⟩)) rfl rfl (by kernel_rfl) (by kernel_rfl) (by kernel_rfl) (fun _ _ _ h => h) (Or.inl ⟨by rfl, fun W hSw => by obtain ⟨c0, c1, c2⟩ := hSw; go_simp⟩) hHeld ?_
        simp only [put_some, List.set_cons_zero, List.set_cons_succ]
        refine takeH (i := 2) (d := some 21) (v := .string s) rfl rfl (by kernel_rfl) (by kernel_rfl) (by kernel_rfl) (fun _ _ _ h => h) (Or.inl ⟨by rfl, fun W hSw => by obtain ⟨c0, c1, c2⟩ := hSw; go_simp⟩) hHeld ?_
        simp only [put_some, List.set_cons_zero, List.set_cons_succ]
        refine wpAnyH_ready (rs := [3]) (by kernel_rfl) (by simp) ?_
        refine AllReadyH.cons rfl (fun K hK => ?_) AllReadyH.nil
        go_simp
        go_at_call 99
        refine (HA.out _).mono ?_
        rintro e w3 ⟨rfl, hb⟩
        replace hB' := below_then hB' hb hB'.size
        go_wp2_with fail
        refine hK.out _ _ (HC.out _ hB') (fun hHeld => ?_)
        clear hK K
        refine takeH (i := 4) (d := some 23) (v := .bool false) rfl rfl (by kernel_rfl) (by kernel_rfl) (by kernel_rfl) (fun _ _ _ h => h) (Or.inl ⟨by rfl, fun W hSw => by obtain ⟨c0, c1, c2⟩ := hSw; go_simp⟩) hHeld ?_
        simp only [put_some, List.set_cons_zero, List.set_cons_succ]
        refine takeH (i := 5) (d := some 24) (v := .bool false) rfl rfl (by kernel_rfl) (by kernel_rfl) (by kernel_rfl) (fun _ _ _ h => h) (Or.inl ⟨by rfl, fun W hSw => by obtain ⟨c0, c1, c2⟩ := hSw; go_simp⟩) hHeld ?_
        simp only [put_some, List.set_cons_zero, List.set_cons_succ]
        refine takeH (i := 6) (d := some 25) (v := undef) rfl rfl (by kernel_rfl) (by kernel_rfl) (by kernel_rfl) (fun _ _ _ h => h) (Or.inr ⟨by rfl, rfl⟩) hHeld ?_
        simp only [put_some, List.set_cons_zero, List.set_cons_succ]
        refine takeH (i := 7) (d := some 26) (v := undef) rfl rfl (by kernel_rfl) (by kernel_rfl) (by kernel_rfl) (fun _ _ _ h => h) (Or.inr ⟨by rfl, rfl⟩) hHeld ?_
        simp only [put_some, List.set_cons_zero, List.set_cons_succ]
        refine takeH (i := 8) (d := some 27) (v := undef) rfl rfl (by kernel_rfl) (by kernel_rfl) (by kernel_rfl) (fun _ _ _ h => h) (Or.inr ⟨by rfl, rfl⟩) hHeld ?_
        simp only [put_some, List.set_cons_zero, List.set_cons_succ]
        refine takeH (i := 9) (d := some 28) (v := .bool false) rfl rfl (by kernel_rfl) (by kernel_rfl) (by kernel_rfl) (fun _ _ _ h => h) (Or.inl ⟨by rfl, fun W hSw => by obtain ⟨c0, c1, c2⟩ := hSw; go_simp⟩) hHeld ?_
        simp only [put_some, List.set_cons_zero, List.set_cons_succ]
        refine takeH (i := 10) (d := some 2) (v := .bool false) rfl rfl (by kernel_rfl) (by kernel_rfl) (by kernel_rfl) (fun _ _ _ h => h) (Or.inl ⟨by rfl, fun W hSw => by obtain ⟨c0, c1, c2⟩ := hSw; go_simp⟩) hHeld ?_
        simp only [put_some, List.set_cons_zero, List.set_cons_succ]
        refine wpAnyH_done (by kernel_rfl) ?_ _
        go_wp2
        go_ret
        exact ⟨ret_bool HE.out.symm, B0.trans (hB'.mono B0.size)⟩
    · have ht2b : (t == 2) = false := by simpa using ht2
      rw [ht2b, Bool.false_and] at HE
      clear ht ht2 hB hB' HC
      go_enter Tryd.func85, Tryd.ntmps85
      go_wp2
      go_ret
      rw [HW.out]
      exact ⟨ret_bool HE.out.symm, B0⟩

end Go.Proofs.YtkofafefnlommaaDoor

/- The laws' own markRowS. -/
namespace Go.Proofs.YtkofafefnlommaaDoor
open Go.RowKit

theorem prs_id {l : List P} {k : Nat} (h : k < l.length) : (prs l)[k * 2]? = some (.int .i64 (l.getD k P.zero).1.id) := by
  have e : l.getD k P.zero = l[k] := by simp [h]
  rw [e]
  exact prs_get (j := 0) h (by omega)
theorem prs_sl {l : List P} {k : Nat} (h : k < l.length) : (prs l)[k * 2 + 1]? = some (l.getD k P.zero).2 := by
  have e : l.getD k P.zero = l[k] := by simp [h]
  rw [e]
  exact prs_get (j := 1) h (by omega)
theorem set_self {α : Type} {l : List α} {i : Nat} {x : α} (h : l[i]? = some x) : l.set i x = l := by
  obtain ⟨hi, rfl⟩ := List.getElem?_eq_some_iff.1 h
  exact List.set_getElem_self hi
/-- A new number for Row k, its slice as it was. -/
theorem prs_set_id {l : List P} {k : Nat} {p : P} (hk : k < l.length) (hp : p.2 = (l.getD k P.zero).2) : prs (l.set k p) = (prs l).set (k * 2) (.int .i64 p.1.id) := by
  rw [prs_set l k p hk, set_self]
  rw [List.getElem?_set_ne (by omega), prs_sl hk, hp]
theorem getD_set_ne {α : Type} {l : List α} {k j : Nat} {x d : α} (h : k ≠ j) : (l.set k x).getD j d = l.getD j d := by
  rw [List.getD_eq_getElem?_getD, List.getD_eq_getElem?_getD, List.getElem?_set_ne h]
theorem getD_set_eq {α : Type} {l : List α} {k : Nat} {x d : α} (h : k < l.length) : (l.set k x).getD k d = x := by
  rw [List.getD_eq_getElem?_getD, List.getElem?_set_self h]
  rfl
theorem all_of_mem {α : Type} {l : List α} {d : α} {q : α → Prop} (h : ∀ x ∈ l, q x) : ∀ k, k < l.length → q (l.getD k d) := fun k hk => by
  have e : l.getD k d = l[k] := by simp [hk]
  rw [e]
  exact h _ (List.getElem_mem hk)
theorem mem_of_all {α : Type} {l : List α} {d : α} {q : α → Prop} (h : ∀ k, k < l.length → q (l.getD k d)) : ∀ x ∈ l, q x := fun x hx => by
  obtain ⟨k, hk, rfl⟩ := List.getElem_of_mem hx
  have := h k hk
  simpa [hk] using this
theorem nodup_ne {l : List P} (h : (l.map fun p => p.2.ownBlock).Nodup) {i j : Nat} (hi : i < l.length) (hj : j < l.length) (hne : i ≠ j) : (l.getD i P.zero).2.ownBlock ≠ (l.getD j P.zero).2.ownBlock := by
  have key : ∀ i j, i < j → j < l.length → (l.getD i P.zero).2.ownBlock ≠ (l.getD j P.zero).2.ownBlock := fun i j hij hj => by
    have hi : i < l.length := by omega
    have := List.pairwise_iff_getElem.1 h i j (by simpa using hi) (by simpa using hj) hij
    simpa [hi, hj] using this
  rcases Nat.lt_or_gt_of_ne hne with h1 | h1
  · exact key i j h1 hj
  · exact fun e => key j i h1 hi e.symm

/-- How far markRowS counts. -/
def rlen : List P → Nat
  | [] => 0
  | p :: ps => 1 + 3 * p.1.l.length + rlen ps
/-- What markRowS leaves. -/
def rmarks : Nat → List P → List P
  | _, [] => []
  | s, p :: ps => (⟨s, vmarks (s + 1) p.1.l.length⟩, p.2) :: rmarks (s + 1 + 3 * p.1.l.length) ps
theorem rmarks_len (s : Nat) (ps : List P) : (rmarks s ps).length = ps.length := by
  induction ps generalizing s with
  | nil => rfl
  | cons p ps ih => simp [rmarks, ih]
theorem rlen_append (ps qs : List P) : rlen (ps ++ qs) = rlen ps + rlen qs := by
  induction ps with
  | nil => simp [rlen]
  | cons p ps ih => simp only [List.cons_append, rlen, ih]; omega
theorem rmarks_append (s : Nat) (ps qs : List P) : rmarks s (ps ++ qs) = rmarks s ps ++ rmarks (s + rlen ps) qs := by
  induction ps generalizing s with
  | nil => simp [rmarks, rlen]
  | cons p ps ih => simp only [List.cons_append, rmarks, ih, rlen]; rw [show s + 1 + 3 * p.1.l.length + rlen ps = s + (1 + 3 * p.1.l.length + rlen ps) by omega]
/-- After k rounds. -/
def rhalf (s : Nat) (ps : List P) (k : Nat) : List P := rmarks s (ps.take k) ++ ps.drop k
theorem rhalf_len {s : Nat} {ps : List P} {k : Nat} : (rhalf s ps k).length = ps.length := by
  unfold rhalf
  rw [List.length_append, rmarks_len, ← List.length_append, List.take_append_drop]
theorem rhalf_get {s : Nat} {ps : List P} {k : Nat} (h : k < ps.length) : (rhalf s ps k).getD k P.zero = ps.getD k P.zero := by
  unfold rhalf
  have hl : (rmarks s (ps.take k)).length = k := by rw [rmarks_len]; simp; omega
  rw [List.getD_eq_getElem?_getD, List.getElem?_append_right (by omega), hl, Nat.sub_self, List.drop_eq_getElem_cons h]
  simp [h]
theorem rhalf_set {s : Nat} {ps : List P} {k : Nat} (h : k < ps.length) : (rhalf s ps k).set k (⟨(s + rlen (ps.take k) : Nat), vmarks (s + rlen (ps.take k) + 1) (ps.getD k P.zero).1.l.length⟩, (ps.getD k P.zero).2) = rhalf s ps (k + 1) := by
  have hl : (rmarks s (ps.take k)).length = k := by rw [rmarks_len]; simp; omega
  have e : ps.getD k P.zero = ps[k] := by simp [h]
  unfold rhalf
  rw [e, List.set_append_right _ _ (by omega), hl, Nat.sub_self, List.drop_eq_getElem_cons h, List.set_cons_zero, List.take_succ_eq_append_getElem h, rmarks_append, List.append_assoc]
  rfl
theorem rlen_take_succ {ps : List P} {k : Nat} (h : k < ps.length) : rlen (ps.take (k + 1)) = rlen (ps.take k) + (1 + 3 * (ps.getD k P.zero).1.l.length) := by
  have e : ps.getD k P.zero = ps[k] := by simp [h]
  rw [e, List.take_succ_eq_append_getElem h, rlen_append]
  simp [rlen]
theorem rlen_take_le (ps : List P) (k : Nat) : rlen (ps.take k) ≤ rlen ps := by
  conv => rhs; rw [← List.take_append_drop k ps, rlen_append]
  omega
theorem rmarks_blocks (s : Nat) (ps : List P) : (rmarks s ps).map (fun p => p.2.ownBlock) = ps.map fun p => p.2.ownBlock := by
  induction ps generalizing s with
  | nil => rfl
  | cons p ps ih => simp [rmarks, ih]
theorem rhalf_blocks (s : Nat) (ps : List P) (k : Nat) : (rhalf s ps k).map (fun p => p.2.ownBlock) = ps.map fun p => p.2.ownBlock := by
  unfold rhalf
  rw [List.map_append, rmarks_blocks, ← List.map_append, List.take_append_drop]

set_option maxHeartbeats 1000000 in
theorem markRowS (v : Value) (ps : List P) (lo hi s : Nat) (w : World) (h0 : 0 < s) (hs : s ≤ 1048576) (hn : ps.length ≤ 1048576) (hr : rlen ps ≤ 16777216) (h : OwnRs lo hi w v ps) :
    Calls Tryd.prog 50 #[v, .int .i64 s] w fun e w' => e = .returned (.int .i64 (s + rlen ps : Nat)) ∧ OwnRs lo hi w' v (rmarks s ps) ∧ Within lo hi w w' := by
  generalize hl : ps.length = n at hn
  obtain ⟨ho, hin, hnd⟩ := h
  rw [hl] at ho
  obtain ⟨g, cap, rfl, hlo, hhi, hown⟩ := ho
  have HL := Lib.hid hl
  have HND := Lib.hid hnd
  have HRL : Hid (∀ k, rlen (ps.take k) ≤ 16777216) := fun k => Nat.le_trans (rlen_take_le ps k) hr
  have hin0 : ∀ j, j < n → Own 29 3 lo hi w ((rhalf s ps 0).getD j P.zero).2 ((rhalf s ps 0).getD j P.zero).1.l.length (vals ((rhalf s ps 0).getD j P.zero).1.l) := by
    have e : rhalf s ps 0 = ps := by simp [rhalf, rmarks]
    rw [e, ← hl]
    exact all_of_mem (q := fun p : P => Own 29 3 lo hi w p.2 p.1.l.length (vals p.1.l)) hin
  clear hl hnd hr hin
  go_enter Tryd.func50, Tryd.ntmps50
  go_wp2
  go_loopw [1, 5] (fun q i wr => ∃ k : Nat, k ≤ n ∧ i = .int .i64 k ∧ q = .int .i64 (s + rlen (ps.take k) : Nat) ∧ wr.ownsRow lo 91 2 (.slice (some ⟨g, 0, none⟩) n cap) n (prs (rhalf s ps k))
    ∧ (∀ j, j < n → Own 29 3 lo hi wr ((rhalf s ps k).getD j P.zero).2 ((rhalf s ps k).getD j P.zero).1.l.length (vals ((rhalf s ps k).getD j P.zero).1.l)) ∧ Within lo hi w wr) (fun _ i _ => n - (intOf i).toNat)
  case atStart => exact ⟨0, Nat.zero_le _, rfl, by simp [rlen], by simpa [rhalf, rmarks] using hown, hin0, Within.refl _ _ _⟩
  case round =>
    obtain ⟨k, hk, rfl, rfl, hownr, hir, hwr⟩ := hrel
    by_cases hkl : k < n
    · have hkp : k < ps.length := by rw [HL.out]; exact hkl
      have HST := Lib.hid (rhalf_set (s := s) hkp)
      have HTK := Lib.hid (rlen_take_succ hkp)
      have hr1 := HRL.out k
      have hr2 := HRL.out (k + 1)
      have HLN : Hid ((rhalf s ps k).length = n) := rhalf_len.trans HL.out
      have hik := hir k hkl
      have hc1 : wr.cell? ⟨g, k * 2 + 1, none⟩ = some (ps.getD k P.zero).2 := by
        rw [← rhalf_get (s := s) hkp]
        exact (hownr.cellAt (k * 2 + 1) (by omega)).trans (prs_sl (by rw [HLN.out]; exact hkl))
      have HNB : Hid (∀ j, j < n → j ≠ k → (ps.getD k P.zero).2.ownBlock ≠ ((rhalf s ps k).getD j P.zero).2.ownBlock) := fun j hj hjk => by
        rw [← rhalf_get (s := s) hkp]
        exact nodup_ne (by rw [rhalf_blocks]; exact HND.out) (by rw [HLN.out]; exact hkl) (by rw [HLN.out]; exact hj) (fun e => hjk e.symm)
      have HGK := Lib.hid (rhalf_get (s := s) hkp)
      rw [HGK.out] at hik
      generalize ps.getD k P.zero = p at hik hc1 HST HTK HNB HGK
      obtain ⟨r, u⟩ := p
      simp only at hik hc1 HST HTK HNB
      have hb0 := Own.blocks_ne (own_of_row hownr hlo) hik (by decide)
      have A1 := hownr.stored (k * 2) (.int .i64 (s + rlen (ps.take k) : Nat))
      obtain ⟨x0, s0⟩ := cellAt_some hownr (k * 2) (by omega)
      have f0 := hownr.frozenAt (k * 2)
      have hik1 := hik.other A1.2 (fun e => hb0 e)
      have HMV : Hid (Calls Tryd.prog 80 #[u, .int .i64 (((s + rlen (ps.take k) : Nat) : Int) + 1)] (wr.setCell ⟨g, k * 2, none⟩ (.int .i64 (s + rlen (ps.take k) : Nat))) fun e w' => e = .returned (.int .i64 (s + rlen (ps.take k) + 1 + 3 * r.l.length : Nat)) ∧ Own 29 3 lo hi w' u r.l.length (vals (vmarks (s + rlen (ps.take k) + 1) r.l.length)) ∧ (wr.setCell ⟨g, k * 2, none⟩ (.int .i64 (s + rlen (ps.take k) : Nat))).grownBy w' u.ownBlock) := by
        have := markValM u r.l.length lo hi r.l (s + rlen (ps.take k) + 1) (wr.setCell ⟨g, k * 2, none⟩ (.int .i64 (s + rlen (ps.take k) : Nat))) (by omega) (by omega) (by rw [HTK.out] at hr2; omega) rfl hik1
        rw [show (((s + rlen (ps.take k) : Nat) : Int) + 1) = ((s + rlen (ps.take k) + 1 : Nat) : Int) by omega]
        exact this
      have HA := Lib.hid A1
      have HI := Lib.hid hir
      have HO := Lib.hid hownr
      have HLEN : Hid (r.l.length ≤ 16777216) := by show r.l.length ≤ 16777216; rw [HTK.out] at hr2; omega
      clear A1 hir hik hik1 hownr hr2
      generalize hm : s + rlen (ps.take k) = m at *
      have HM := Lib.hid hm
      have hm2 : m ≤ 1099511627 := by omega
      clear hm hr1
      go_wp2_with fail
      refine HMV.out.mono ?_
      rintro e w2 ⟨rfl, om, gm⟩
      have hlen := HLEN.out
      have HOM := Lib.hid om
      have HGM := Lib.hid gm
      clear om gm s0 f0 hc1 HMV
      go_wp2
      go_roundw
      case rel =>
        refine ⟨k + 1, by omega, by go_num, by rw [HTK.out]; have := HM.out; go_num, ?_, fun j hj => ?_, ?_⟩
        · rw [← HST.out, prs_set_id (by rw [HLN.out]; exact hkl) (by rw [HGK.out])]
          exact ((own_of_row HA.out.1 hlo).other HGM.out (fun e => hb0 e.symm)).row
        · rw [← HST.out]
          by_cases hjk : j = k
          · subst hjk
            rw [getD_set_eq (by rw [HLN.out]; exact hkl)]
            simp only [vmarks_len]
            exact HOM.out
          · rw [getD_set_ne (fun e => hjk e.symm)]
            have o1 := HI.out j hj
            have b1 := Own.blocks_ne (own_of_row HO.out hlo) o1 (by decide)
            exact (o1.other HA.out.2 (fun e => b1 e)).other HGM.out (HNB.out j hj hjk)
        · refine (hwr.trans (Within.of_grown HA.out.2 (fun x hx => ?_))).trans (Within.of_grown HGM.out (fun x hx => ?_))
          · simp only [Option.some.injEq] at hx
            omega
          · obtain ⟨g2, cp2, e2, l2, l3, _⟩ := HOM.out
            rw [e2] at hx
            simp [Value.ownBlock] at hx
            omega
      case measure => simp [intOf]; omega
    · obtain rfl : k = n := by omega
      have e : rhalf s ps k = rmarks s ps := by
        unfold rhalf
        rw [← HL.out, List.take_length, List.drop_length, List.append_nil]
      rw [e] at hownr hir
      have HZ : Hid (rlen (ps.take k) = rlen ps) := by
        show rlen (ps.take k) = rlen ps
        rw [← HL.out, List.take_length]
      have HI : Hid (∀ p ∈ rmarks s ps, Own 29 3 lo hi wr p.2 p.1.l.length (vals p.1.l)) := mem_of_all (d := P.zero) (q := fun p : P => Own 29 3 lo hi wr p.2 p.1.l.length (vals p.1.l)) (fun j hj => hir j (by rw [rmarks_len, HL.out] at hj; exact hj))
      rw [HZ.out]
      clear hir
      go_wp2
      go_ret
      refine ⟨rfl, ⟨?_, HI.out, by rw [rmarks_blocks]; exact HND.out⟩, hwr⟩
      rw [rmarks_len, HL.out]
      exact ⟨_, _, rfl, hlo, hhi, hownr⟩

end Go.Proofs.YtkofafefnlommaaDoor

/- The contract of the model's ZoneOf. -/
namespace Go.Proofs.YtkofafefnlommaaDoor
open Go.RowKit

/-- ZoneOf under way: its result's block, and that of z. -/
structure St (w W : World) (z : Zn) : Prop where
  cur : Six W (w.heap.size + 1) z
  res : Six W w.heap.size Zn.zero
  bel : Below w.heap.size w W
theorem St.below {w W W' : World} {z : Zn} (h : St w W z) (hb : Below W.heap.size W W') : St w W' z := ⟨h.cur.below hb, h.res.below hb, below_then h.bel hb h.bel.size⟩
theorem St.lo {w W : World} {z : Zn} (h : St w W z) (v : V) : St w ((((W).setCell ⟨w.heap.size + 1, 0, none⟩ (.int .i64 v.ty)).setCell ⟨w.heap.size + 1, 1, none⟩ (.int .i64 v.n)).setCell ⟨w.heap.size + 1, 2, none⟩ (.string v.s)) ⟨v, z.hi⟩ :=
  ⟨h.cur.setLo v, ((h.res.other (p := ⟨w.heap.size + 1, 0, none⟩) (by simp) (.int .i64 v.ty)).other (p := ⟨w.heap.size + 1, 1, none⟩) (by simp) (.int .i64 v.n)).other (p := ⟨w.heap.size + 1, 2, none⟩) (by simp) (.string v.s), ((h.bel.setCell (p := ⟨w.heap.size + 1, 0, none⟩) (by simp) (.int .i64 v.ty)).setCell (p := ⟨w.heap.size + 1, 1, none⟩) (by simp) (.int .i64 v.n)).setCell (p := ⟨w.heap.size + 1, 2, none⟩) (by simp) (.string v.s)⟩
theorem St.hi {w W : World} {z : Zn} (h : St w W z) (v : V) : St w ((((W).setCell ⟨w.heap.size + 1, 3, none⟩ (.int .i64 v.ty)).setCell ⟨w.heap.size + 1, 4, none⟩ (.int .i64 v.n)).setCell ⟨w.heap.size + 1, 5, none⟩ (.string v.s)) ⟨z.lo, v⟩ :=
  ⟨h.cur.setHi v, ((h.res.other (p := ⟨w.heap.size + 1, 3, none⟩) (by simp) (.int .i64 v.ty)).other (p := ⟨w.heap.size + 1, 4, none⟩) (by simp) (.int .i64 v.n)).other (p := ⟨w.heap.size + 1, 5, none⟩) (by simp) (.string v.s), ((h.bel.setCell (p := ⟨w.heap.size + 1, 3, none⟩) (by simp) (.int .i64 v.ty)).setCell (p := ⟨w.heap.size + 1, 4, none⟩) (by simp) (.int .i64 v.n)).setCell (p := ⟨w.heap.size + 1, 5, none⟩) (by simp) (.string v.s)⟩
/-- The cells of a Val at p, in each later world. -/
def Later3 (w : World) (b o : Nat) (x : V) : Prop := ∀ W, Below w.heap.size w W → W.cell? ⟨b, o, none⟩ = some (.int .i64 x.ty) ∧ W.cell? ⟨b, o + 1, none⟩ = some (.int .i64 x.n) ∧ W.cell? ⟨b, o + 2, none⟩ = some (.string x.s)
theorem later3 {w : World} {b o : Nat} {x : V} (h0 : w.cell? ⟨b, o, none⟩ = some (.int .i64 x.ty)) (h1 : w.cell? ⟨b, o + 1, none⟩ = some (.int .i64 x.n)) (h2 : w.cell? ⟨b, o + 2, none⟩ = some (.string x.s)) : Later3 w b o x :=
  fun _ hb => ⟨(hb.cell (p := ⟨b, o, none⟩) (lt_of_cell h0)).trans h0, (hb.cell (p := ⟨b, o + 1, none⟩) (lt_of_cell h1)).trans h1, (hb.cell (p := ⟨b, o + 2, none⟩) (lt_of_cell h2)).trans h2⟩
theorem zoneL_next {l : List V} {k : Nat} (hk : k < l.length) (h0 : 0 < k) : zoneL (l.take (k + 1)) = ⟨if lessV (l.getD k V.zero) (zoneL (l.take k)).lo = true then l.getD k V.zero else (zoneL (l.take k)).lo, if lessV (zoneL (l.take k)).hi (l.getD k V.zero) = true then l.getD k V.zero else (zoneL (l.take k)).hi⟩ := zoneL_take hk h0

set_option maxHeartbeats 4000000 in
theorem sZoneOf (u : Value) (l : List V) (w : World) (h : Rd 3 w u l.length (vals l)) :
    Calls Tryd.prog 47 #[u] w fun e w' => e = .returned (zoneL l).agg ∧ Below w.heap.size w w' := by
  have HALL : Hid (zoneL l = zoneL (l.take l.length)) := by
    show _ = _
    rw [List.take_length]
  have HSTEP := Lib.hid (fun k (hk : k < l.length) (h0 : 0 < k) => zoneL_next hk h0)
  have HONE := Lib.hid (zoneL_one (l := l))
  have HZERO : Hid (zoneL (l.take 0) = Zn.zero) := by
    show _ = _
    rw [List.take_zero]
    rfl
  generalize hl : l.length = n at h HALL HSTEP HONE
  obtain ⟨a, cap, rfl, hm, HC⟩ := h.vals hl
  unfold maxLen at hm
  rw [HALL.out]
  clear h hl HALL
  have ST : St w ((w.alloc (.cells #[.int .i64 0, .int .i64 0, .string ⟨#[]⟩, .int .i64 0, .int .i64 0, .string ⟨#[]⟩] 106)).alloc (.cells #[.int .i64 0, .int .i64 0, .string ⟨#[]⟩, .int .i64 0, .int .i64 0, .string ⟨#[]⟩] 106)) Zn.zero := by
    refine ⟨?_, (six_new w Zn.zero 106).below (below_alloc _ _), below_alloc2 _ _ _⟩
    have := six_new (w.alloc (.cells #[.int .i64 0, .int .i64 0, .string ⟨#[]⟩, .int .i64 0, .int .i64 0, .string ⟨#[]⟩] 106)) Zn.zero 106
    rw [World.size_alloc] at this
    exact this
  generalize hw0 : ((w.alloc (.cells #[.int .i64 0, .int .i64 0, .string ⟨#[]⟩, .int .i64 0, .int .i64 0, .string ⟨#[]⟩] 106)).alloc (.cells #[.int .i64 0, .int .i64 0, .string ⟨#[]⟩, .int .i64 0, .int .i64 0, .string ⟨#[]⟩] 106)) = w0 at ST
  have HW := Lib.hid hw0
  clear hw0
  go_enter Tryd.func47, Tryd.ntmps47
  go_wp2_with fail
  rw [HW.out]
  go_loopw [4] (fun i wr => ∃ k : Nat, k ≤ n ∧ i = .int .i64 k ∧ St w wr (zoneL (l.take k))) (fun i _ => n - (intOf i).toNat)
  case atStart => exact ⟨0, Nat.zero_le _, rfl, by rw [HZERO.out]; exact ST⟩
  case round =>
    obtain ⟨k, hk, rfl, hst⟩ := hrel
    clear ST HW
    by_cases hlt : k < n
    · obtain ⟨b, off, rfl, p0, p1, p2⟩ := HC.out k hlt
      have HL := Lib.hid (later3 p0 p1 p2)
      clear p0 p1 p2
      by_cases hk0 : k = 0
      · subst hk0
        have HN := Lib.hid (HONE.out (by omega))
        generalize l.getD 0 V.zero = x at HL HN
        generalize zoneL (l.take 0) = z at hst
        obtain ⟨xt, xn, xs⟩ := x
        obtain ⟨⟨a1, b1, s1⟩, ⟨c1, d1, t1⟩⟩ := z
        have S1 := hst
        clear hst HZERO
        go_wp2
        go_quiet (fail)
        have S1q := S1.below (below_drewN wr _ nq)
        generalize wr.drewN nq = w2a at S1q ⊢
        obtain ⟨p0, p1, p2⟩ := HL.out w2a S1q.bel
        have S2 := S1q.lo ⟨xt, xn, xs⟩
        obtain ⟨⟨c0, c1, c2, c3, c4, c5⟩, f0, f1, f2, f3, f4, f5⟩ := S1q.cur
        simp only [Nat.zero_mul, Nat.add_zero] at p0 p1 p2 c0 c1 c2 c3 c4 c5 S2
        generalize hw2 : (((w2a).setCell ⟨w.heap.size + 1, 0, none⟩ (.int .i64 xt)).setCell ⟨w.heap.size + 1, 1, none⟩ (.int .i64 xn)).setCell ⟨w.heap.size + 1, 2, none⟩ (.string xs) = w2 at S2
        have Hw2 := Lib.hid hw2
        clear hw2
        go_wp2
        rw [Hw2.out]
        clear p0 p1 p2 c0 c1 c2 c3 c4 c5 f0 f1 f2 f3 f4 f5
        go_quiet (fail)
        have S2q := S2.below (below_drewN w2 _ nq)
        generalize w2.drewN nq = w3a at S2q ⊢
        obtain ⟨p0, p1, p2⟩ := HL.out w3a S2q.bel
        have S3 := S2q.hi ⟨xt, xn, xs⟩
        obtain ⟨⟨c0, c1, c2, c3, c4, c5⟩, f0, f1, f2, f3, f4, f5⟩ := S2q.cur
        simp only [Nat.zero_mul, Nat.add_zero] at p0 p1 p2 c0 c1 c2 c3 c4 c5 S3
        go_wp2
        go_roundw
        case rel => exact ⟨1, by omega, by go_num, by rw [HN.out]; exact S3⟩
        case measure => simp [intOf]; omega
      · have HN := Lib.hid (HSTEP.out k hlt (by omega))
        generalize l.getD k V.zero = x at HL HN
        generalize zoneL (l.take k) = z at hst HN
        have hb0 : ((k : Int) == 0) = false := by simp; omega
        have HX := Lib.hid (fun W => sLessVal x z.lo W)
        have HY := Lib.hid (fun W => sLessVal z.hi x W)
        cases hx : lessV x z.lo with
        | true =>
          rw [hx] at HN HX
          rw [if_pos rfl] at HN
          cases hy : lessV z.hi x with
          | true =>
            rw [hy] at HN HY
            rw [if_pos rfl] at HN
            obtain ⟨xt, xn, xs⟩ := x
            obtain ⟨⟨a1, b1, s1⟩, ⟨c1, d1, t1⟩⟩ := z
            have S1 := hst
            clear hst hx hy HSTEP HONE HZERO
            simp only at HX HY
            go_wp2
            have HKlo : Hid (∀ W, Below wr.heap.size wr W → W.cell? ⟨b, off + k * 3, none⟩ = some (.int .i64 xt) ∧ W.cell? ⟨b, off + k * 3 + 1, none⟩ = some (.int .i64 xn) ∧ W.cell? ⟨b, off + k * 3 + 2, none⟩ = some (.string xs) ∧ W.cell? ⟨w.heap.size + 1, 0, none⟩ = some (.int .i64 a1) ∧ W.cell? ⟨w.heap.size + 1, 1, none⟩ = some (.int .i64 b1) ∧ W.cell? ⟨w.heap.size + 1, 2, none⟩ = some (.string s1)) := fun W hW =>
              ⟨(HL.out W (S1.below hW).bel).1, (HL.out W (S1.below hW).bel).2.1, (HL.out W (S1.below hW).bel).2.2, (S1.below hW).cur.1.1, (S1.below hW).cur.1.2.1, (S1.below hW).cur.1.2.2.1⟩
            have HSlo := Lib.hid S1
            have hB' := (Below.refl wr.heap.size wr).drew
            clear S1
            go_region_held3 (fun W => W.cell? ⟨b, off + k * 3, none⟩ = some (.int .i64 xt) ∧ W.cell? ⟨b, off + k * 3 + 1, none⟩ = some (.int .i64 xn) ∧ W.cell? ⟨b, off + k * 3 + 2, none⟩ = some (.string xs) ∧ W.cell? ⟨w.heap.size + 1, 0, none⟩ = some (.int .i64 a1) ∧ W.cell? ⟨w.heap.size + 1, 1, none⟩ = some (.int .i64 b1) ∧ W.cell? ⟨w.heap.size + 1, 2, none⟩ = some (.string s1)) (exact HKlo.out _ hB') ((go_at_call 78; (with_reducible refine (HX.out _).mono ?_); rintro e w2 ⟨rfl, hb2⟩; replace hB' := below_then hB' hb2 hB'.size))
            have S2 := HSlo.out.below hB'
            clear HKlo HSlo hB' hb2 HX
            obtain ⟨p0, p1, p2⟩ := HL.out w2 S2.bel
            have S3 := S2.lo ⟨xt, xn, xs⟩
            obtain ⟨⟨c0, c1, c2, c3, c4, c5⟩, f0, f1, f2, f3, f4, f5⟩ := S2.cur
            simp only at p0 p1 p2 c0 c1 c2 c3 c4 c5 S3
            generalize hw3 : (((w2).setCell ⟨w.heap.size + 1, 0, none⟩ (.int .i64 xt)).setCell ⟨w.heap.size + 1, 1, none⟩ (.int .i64 xn)).setCell ⟨w.heap.size + 1, 2, none⟩ (.string xs) = w3 at S3
            have Hw3 := Lib.hid hw3
            clear hw3
            go_wp2
            rw [Hw3.out]
            clear p0 p1 p2 c0 c1 c2 c3 c4 c5 f0 f1 f2 f3 f4 f5
            have HKhi : Hid (∀ W, Below w3.heap.size w3 W → W.cell? ⟨b, off + k * 3, none⟩ = some (.int .i64 xt) ∧ W.cell? ⟨b, off + k * 3 + 1, none⟩ = some (.int .i64 xn) ∧ W.cell? ⟨b, off + k * 3 + 2, none⟩ = some (.string xs) ∧ W.cell? ⟨w.heap.size + 1, 3, none⟩ = some (.int .i64 c1) ∧ W.cell? ⟨w.heap.size + 1, 4, none⟩ = some (.int .i64 d1) ∧ W.cell? ⟨w.heap.size + 1, 5, none⟩ = some (.string t1)) := fun W hW =>
              ⟨(HL.out W (S3.below hW).bel).1, (HL.out W (S3.below hW).bel).2.1, (HL.out W (S3.below hW).bel).2.2, (S3.below hW).cur.1.2.2.2.1, (S3.below hW).cur.1.2.2.2.2.1, (S3.below hW).cur.1.2.2.2.2.2⟩
            have HShi := Lib.hid S3
            have hB' := (Below.refl w3.heap.size w3).drew
            clear S3
            go_region_held3 (fun W => W.cell? ⟨b, off + k * 3, none⟩ = some (.int .i64 xt) ∧ W.cell? ⟨b, off + k * 3 + 1, none⟩ = some (.int .i64 xn) ∧ W.cell? ⟨b, off + k * 3 + 2, none⟩ = some (.string xs) ∧ W.cell? ⟨w.heap.size + 1, 3, none⟩ = some (.int .i64 c1) ∧ W.cell? ⟨w.heap.size + 1, 4, none⟩ = some (.int .i64 d1) ∧ W.cell? ⟨w.heap.size + 1, 5, none⟩ = some (.string t1)) (exact HKhi.out _ hB') ((go_at_call 78; (with_reducible refine (HY.out _).mono ?_); rintro e w4 ⟨rfl, hb2⟩; replace hB' := below_then hB' hb2 hB'.size))
            have S4 := HShi.out.below hB'
            clear HKhi HShi hB' hb2 HY
            obtain ⟨p0, p1, p2⟩ := HL.out w4 S4.bel
            have S5 := S4.hi ⟨xt, xn, xs⟩
            obtain ⟨⟨c0, c1, c2, c3, c4, c5⟩, f0, f1, f2, f3, f4, f5⟩ := S4.cur
            simp only at p0 p1 p2 c0 c1 c2 c3 c4 c5 S5
            go_wp2
            go_roundw
            case rel => exact ⟨k + 1, by omega, by go_num, by rw [HN.out]; exact S5⟩
            case measure => simp [intOf]; omega
          | false =>
            rw [hy] at HN HY
            rw [if_neg Bool.false_ne_true] at HN
            obtain ⟨xt, xn, xs⟩ := x
            obtain ⟨⟨a1, b1, s1⟩, ⟨c1, d1, t1⟩⟩ := z
            have S1 := hst
            clear hst hx hy HSTEP HONE HZERO
            simp only at HX HY
            go_wp2
            have HKlo : Hid (∀ W, Below wr.heap.size wr W → W.cell? ⟨b, off + k * 3, none⟩ = some (.int .i64 xt) ∧ W.cell? ⟨b, off + k * 3 + 1, none⟩ = some (.int .i64 xn) ∧ W.cell? ⟨b, off + k * 3 + 2, none⟩ = some (.string xs) ∧ W.cell? ⟨w.heap.size + 1, 0, none⟩ = some (.int .i64 a1) ∧ W.cell? ⟨w.heap.size + 1, 1, none⟩ = some (.int .i64 b1) ∧ W.cell? ⟨w.heap.size + 1, 2, none⟩ = some (.string s1)) := fun W hW =>
              ⟨(HL.out W (S1.below hW).bel).1, (HL.out W (S1.below hW).bel).2.1, (HL.out W (S1.below hW).bel).2.2, (S1.below hW).cur.1.1, (S1.below hW).cur.1.2.1, (S1.below hW).cur.1.2.2.1⟩
            have HSlo := Lib.hid S1
            have hB' := (Below.refl wr.heap.size wr).drew
            clear S1
            go_region_held3 (fun W => W.cell? ⟨b, off + k * 3, none⟩ = some (.int .i64 xt) ∧ W.cell? ⟨b, off + k * 3 + 1, none⟩ = some (.int .i64 xn) ∧ W.cell? ⟨b, off + k * 3 + 2, none⟩ = some (.string xs) ∧ W.cell? ⟨w.heap.size + 1, 0, none⟩ = some (.int .i64 a1) ∧ W.cell? ⟨w.heap.size + 1, 1, none⟩ = some (.int .i64 b1) ∧ W.cell? ⟨w.heap.size + 1, 2, none⟩ = some (.string s1)) (exact HKlo.out _ hB') ((go_at_call 78; (with_reducible refine (HX.out _).mono ?_); rintro e w2 ⟨rfl, hb2⟩; replace hB' := below_then hB' hb2 hB'.size))
            have S2 := HSlo.out.below hB'
            clear HKlo HSlo hB' hb2 HX
            obtain ⟨p0, p1, p2⟩ := HL.out w2 S2.bel
            have S3 := S2.lo ⟨xt, xn, xs⟩
            obtain ⟨⟨c0, c1, c2, c3, c4, c5⟩, f0, f1, f2, f3, f4, f5⟩ := S2.cur
            simp only at p0 p1 p2 c0 c1 c2 c3 c4 c5 S3
            generalize hw3 : (((w2).setCell ⟨w.heap.size + 1, 0, none⟩ (.int .i64 xt)).setCell ⟨w.heap.size + 1, 1, none⟩ (.int .i64 xn)).setCell ⟨w.heap.size + 1, 2, none⟩ (.string xs) = w3 at S3
            have Hw3 := Lib.hid hw3
            clear hw3
            go_wp2
            rw [Hw3.out]
            clear p0 p1 p2 c0 c1 c2 c3 c4 c5 f0 f1 f2 f3 f4 f5
            have HKhi : Hid (∀ W, Below w3.heap.size w3 W → W.cell? ⟨b, off + k * 3, none⟩ = some (.int .i64 xt) ∧ W.cell? ⟨b, off + k * 3 + 1, none⟩ = some (.int .i64 xn) ∧ W.cell? ⟨b, off + k * 3 + 2, none⟩ = some (.string xs) ∧ W.cell? ⟨w.heap.size + 1, 3, none⟩ = some (.int .i64 c1) ∧ W.cell? ⟨w.heap.size + 1, 4, none⟩ = some (.int .i64 d1) ∧ W.cell? ⟨w.heap.size + 1, 5, none⟩ = some (.string t1)) := fun W hW =>
              ⟨(HL.out W (S3.below hW).bel).1, (HL.out W (S3.below hW).bel).2.1, (HL.out W (S3.below hW).bel).2.2, (S3.below hW).cur.1.2.2.2.1, (S3.below hW).cur.1.2.2.2.2.1, (S3.below hW).cur.1.2.2.2.2.2⟩
            have HShi := Lib.hid S3
            have hB' := (Below.refl w3.heap.size w3).drew
            clear S3
            go_region_held3 (fun W => W.cell? ⟨b, off + k * 3, none⟩ = some (.int .i64 xt) ∧ W.cell? ⟨b, off + k * 3 + 1, none⟩ = some (.int .i64 xn) ∧ W.cell? ⟨b, off + k * 3 + 2, none⟩ = some (.string xs) ∧ W.cell? ⟨w.heap.size + 1, 3, none⟩ = some (.int .i64 c1) ∧ W.cell? ⟨w.heap.size + 1, 4, none⟩ = some (.int .i64 d1) ∧ W.cell? ⟨w.heap.size + 1, 5, none⟩ = some (.string t1)) (exact HKhi.out _ hB') ((go_at_call 78; (with_reducible refine (HY.out _).mono ?_); rintro e w4 ⟨rfl, hb2⟩; replace hB' := below_then hB' hb2 hB'.size))
            have S4 := HShi.out.below hB'
            clear HKhi HShi hB' hb2 HY
            have S5 := S4
            clear S4
            go_wp2
            go_roundw
            case rel => exact ⟨k + 1, by omega, by go_num, by rw [HN.out]; exact S5⟩
            case measure => simp [intOf]; omega
        | false =>
          rw [hx] at HN HX
          rw [if_neg Bool.false_ne_true] at HN
          cases hy : lessV z.hi x with
          | true =>
            rw [hy] at HN HY
            rw [if_pos rfl] at HN
            obtain ⟨xt, xn, xs⟩ := x
            obtain ⟨⟨a1, b1, s1⟩, ⟨c1, d1, t1⟩⟩ := z
            have S1 := hst
            clear hst hx hy HSTEP HONE HZERO
            simp only at HX HY
            go_wp2
            have HKlo : Hid (∀ W, Below wr.heap.size wr W → W.cell? ⟨b, off + k * 3, none⟩ = some (.int .i64 xt) ∧ W.cell? ⟨b, off + k * 3 + 1, none⟩ = some (.int .i64 xn) ∧ W.cell? ⟨b, off + k * 3 + 2, none⟩ = some (.string xs) ∧ W.cell? ⟨w.heap.size + 1, 0, none⟩ = some (.int .i64 a1) ∧ W.cell? ⟨w.heap.size + 1, 1, none⟩ = some (.int .i64 b1) ∧ W.cell? ⟨w.heap.size + 1, 2, none⟩ = some (.string s1)) := fun W hW =>
              ⟨(HL.out W (S1.below hW).bel).1, (HL.out W (S1.below hW).bel).2.1, (HL.out W (S1.below hW).bel).2.2, (S1.below hW).cur.1.1, (S1.below hW).cur.1.2.1, (S1.below hW).cur.1.2.2.1⟩
            have HSlo := Lib.hid S1
            have hB' := (Below.refl wr.heap.size wr).drew
            clear S1
            go_region_held3 (fun W => W.cell? ⟨b, off + k * 3, none⟩ = some (.int .i64 xt) ∧ W.cell? ⟨b, off + k * 3 + 1, none⟩ = some (.int .i64 xn) ∧ W.cell? ⟨b, off + k * 3 + 2, none⟩ = some (.string xs) ∧ W.cell? ⟨w.heap.size + 1, 0, none⟩ = some (.int .i64 a1) ∧ W.cell? ⟨w.heap.size + 1, 1, none⟩ = some (.int .i64 b1) ∧ W.cell? ⟨w.heap.size + 1, 2, none⟩ = some (.string s1)) (exact HKlo.out _ hB') ((go_at_call 78; (with_reducible refine (HX.out _).mono ?_); rintro e w2 ⟨rfl, hb2⟩; replace hB' := below_then hB' hb2 hB'.size))
            have S2 := HSlo.out.below hB'
            clear HKlo HSlo hB' hb2 HX
            have S3 := S2
            clear S2
            go_wp2
            have HKhi : Hid (∀ W, Below w2.heap.size w2 W → W.cell? ⟨b, off + k * 3, none⟩ = some (.int .i64 xt) ∧ W.cell? ⟨b, off + k * 3 + 1, none⟩ = some (.int .i64 xn) ∧ W.cell? ⟨b, off + k * 3 + 2, none⟩ = some (.string xs) ∧ W.cell? ⟨w.heap.size + 1, 3, none⟩ = some (.int .i64 c1) ∧ W.cell? ⟨w.heap.size + 1, 4, none⟩ = some (.int .i64 d1) ∧ W.cell? ⟨w.heap.size + 1, 5, none⟩ = some (.string t1)) := fun W hW =>
              ⟨(HL.out W (S3.below hW).bel).1, (HL.out W (S3.below hW).bel).2.1, (HL.out W (S3.below hW).bel).2.2, (S3.below hW).cur.1.2.2.2.1, (S3.below hW).cur.1.2.2.2.2.1, (S3.below hW).cur.1.2.2.2.2.2⟩
            have HShi := Lib.hid S3
            have hB' := (Below.refl w2.heap.size w2).drew
            clear S3
            go_region_held3 (fun W => W.cell? ⟨b, off + k * 3, none⟩ = some (.int .i64 xt) ∧ W.cell? ⟨b, off + k * 3 + 1, none⟩ = some (.int .i64 xn) ∧ W.cell? ⟨b, off + k * 3 + 2, none⟩ = some (.string xs) ∧ W.cell? ⟨w.heap.size + 1, 3, none⟩ = some (.int .i64 c1) ∧ W.cell? ⟨w.heap.size + 1, 4, none⟩ = some (.int .i64 d1) ∧ W.cell? ⟨w.heap.size + 1, 5, none⟩ = some (.string t1)) (exact HKhi.out _ hB') ((go_at_call 78; (with_reducible refine (HY.out _).mono ?_); rintro e w4 ⟨rfl, hb2⟩; replace hB' := below_then hB' hb2 hB'.size))
            have S4 := HShi.out.below hB'
            clear HKhi HShi hB' hb2 HY
            obtain ⟨p0, p1, p2⟩ := HL.out w4 S4.bel
            have S5 := S4.hi ⟨xt, xn, xs⟩
            obtain ⟨⟨c0, c1, c2, c3, c4, c5⟩, f0, f1, f2, f3, f4, f5⟩ := S4.cur
            simp only at p0 p1 p2 c0 c1 c2 c3 c4 c5 S5
            go_wp2
            go_roundw
            case rel => exact ⟨k + 1, by omega, by go_num, by rw [HN.out]; exact S5⟩
            case measure => simp [intOf]; omega
          | false =>
            rw [hy] at HN HY
            rw [if_neg Bool.false_ne_true] at HN
            obtain ⟨xt, xn, xs⟩ := x
            obtain ⟨⟨a1, b1, s1⟩, ⟨c1, d1, t1⟩⟩ := z
            have S1 := hst
            clear hst hx hy HSTEP HONE HZERO
            simp only at HX HY
            go_wp2
            have HKlo : Hid (∀ W, Below wr.heap.size wr W → W.cell? ⟨b, off + k * 3, none⟩ = some (.int .i64 xt) ∧ W.cell? ⟨b, off + k * 3 + 1, none⟩ = some (.int .i64 xn) ∧ W.cell? ⟨b, off + k * 3 + 2, none⟩ = some (.string xs) ∧ W.cell? ⟨w.heap.size + 1, 0, none⟩ = some (.int .i64 a1) ∧ W.cell? ⟨w.heap.size + 1, 1, none⟩ = some (.int .i64 b1) ∧ W.cell? ⟨w.heap.size + 1, 2, none⟩ = some (.string s1)) := fun W hW =>
              ⟨(HL.out W (S1.below hW).bel).1, (HL.out W (S1.below hW).bel).2.1, (HL.out W (S1.below hW).bel).2.2, (S1.below hW).cur.1.1, (S1.below hW).cur.1.2.1, (S1.below hW).cur.1.2.2.1⟩
            have HSlo := Lib.hid S1
            have hB' := (Below.refl wr.heap.size wr).drew
            clear S1
            go_region_held3 (fun W => W.cell? ⟨b, off + k * 3, none⟩ = some (.int .i64 xt) ∧ W.cell? ⟨b, off + k * 3 + 1, none⟩ = some (.int .i64 xn) ∧ W.cell? ⟨b, off + k * 3 + 2, none⟩ = some (.string xs) ∧ W.cell? ⟨w.heap.size + 1, 0, none⟩ = some (.int .i64 a1) ∧ W.cell? ⟨w.heap.size + 1, 1, none⟩ = some (.int .i64 b1) ∧ W.cell? ⟨w.heap.size + 1, 2, none⟩ = some (.string s1)) (exact HKlo.out _ hB') ((go_at_call 78; (with_reducible refine (HX.out _).mono ?_); rintro e w2 ⟨rfl, hb2⟩; replace hB' := below_then hB' hb2 hB'.size))
            have S2 := HSlo.out.below hB'
            clear HKlo HSlo hB' hb2 HX
            have S3 := S2
            clear S2
            go_wp2
            have HKhi : Hid (∀ W, Below w2.heap.size w2 W → W.cell? ⟨b, off + k * 3, none⟩ = some (.int .i64 xt) ∧ W.cell? ⟨b, off + k * 3 + 1, none⟩ = some (.int .i64 xn) ∧ W.cell? ⟨b, off + k * 3 + 2, none⟩ = some (.string xs) ∧ W.cell? ⟨w.heap.size + 1, 3, none⟩ = some (.int .i64 c1) ∧ W.cell? ⟨w.heap.size + 1, 4, none⟩ = some (.int .i64 d1) ∧ W.cell? ⟨w.heap.size + 1, 5, none⟩ = some (.string t1)) := fun W hW =>
              ⟨(HL.out W (S3.below hW).bel).1, (HL.out W (S3.below hW).bel).2.1, (HL.out W (S3.below hW).bel).2.2, (S3.below hW).cur.1.2.2.2.1, (S3.below hW).cur.1.2.2.2.2.1, (S3.below hW).cur.1.2.2.2.2.2⟩
            have HShi := Lib.hid S3
            have hB' := (Below.refl w2.heap.size w2).drew
            clear S3
            go_region_held3 (fun W => W.cell? ⟨b, off + k * 3, none⟩ = some (.int .i64 xt) ∧ W.cell? ⟨b, off + k * 3 + 1, none⟩ = some (.int .i64 xn) ∧ W.cell? ⟨b, off + k * 3 + 2, none⟩ = some (.string xs) ∧ W.cell? ⟨w.heap.size + 1, 3, none⟩ = some (.int .i64 c1) ∧ W.cell? ⟨w.heap.size + 1, 4, none⟩ = some (.int .i64 d1) ∧ W.cell? ⟨w.heap.size + 1, 5, none⟩ = some (.string t1)) (exact HKhi.out _ hB') ((go_at_call 78; (with_reducible refine (HY.out _).mono ?_); rintro e w4 ⟨rfl, hb2⟩; replace hB' := below_then hB' hb2 hB'.size))
            have S4 := HShi.out.below hB'
            clear HKhi HShi hB' hb2 HY
            have S5 := S4
            clear S4
            go_wp2
            go_roundw
            case rel => exact ⟨k + 1, by omega, by go_num, by rw [HN.out]; exact S5⟩
            case measure => simp [intOf]; omega
    · obtain rfl : k = n := by omega
      generalize hzz : zoneL (l.take k) = z at hst
      have HZZ := Lib.hid hzz
      clear hzz
      obtain ⟨⟨a1, b1, s1⟩, ⟨c1, d1, t1⟩⟩ := z
      obtain ⟨⟨⟨q0, q1, q2, q3, q4, q5⟩, _⟩, ⟨⟨r0, r1, r2, r3, r4, r5⟩, f0, f1, f2, f3, f4, f5⟩, B⟩ := hst
      simp only [Zn.zero, V.zero] at q0 q1 q2 q3 q4 q5 r0 r1 r2 r3 r4 r5
      go_wp2
      refine bodyPost_ret (v := .agg #[.int .i64 a1, .int .i64 b1, .string s1, .int .i64 c1, .int .i64 d1, .string t1]) (by simp [results, Tryd.results47, go_sem, *]) rfl ⟨by rw [HZZ.out], ?_⟩
      exact ((((((B.setCell (by simp) _).setCell (by simp) _).setCell (by simp) _).setCell (by simp) _).setCell (by simp) _).setCell (by simp) _)

end Go.Proofs.YtkofafefnlommaaDoor

/- The model's Holds (written by mk_S11.py). -/
namespace Go.Proofs.YtkofafefnlommaaDoor
open Go.RowKit

end Go.Proofs.YtkofafefnlommaaDoor

/- The exact laws of chapter 4 that do no text, walked; the program's own contracts come as hypotheses. -/
namespace Go.Proofs.YtkofafefnlommaaDoor
open Go.RowKit

def CColumn : Prop := ∀ (u : Value) (ps : List P) (ls : List R) (k : Int) (w : World), ps.length ≤ 1048576 → (∀ p ∈ ps, p.1.l.length ≤ 1048576) → RdRs w u ps → ps.map (·.1) = ls → Calls Tryd.prog 89 #[u, .int .i64 k] w fun e w' => ∃ v', e = .returned v' ∧ Own 29 3 w.heap.size w'.heap.size w' v' (colR ls k).length (vals (colR ls k)) ∧ Below w.heap.size w w'

theorem bulkR_mem {ps : List P} {p : P} (h : p ∈ ps) : p.1.l.length ≤ bulkR ps := by
  induction ps with
  | nil => cases h
  | cons q ps ih =>
    have e : bulkR (q :: ps) = q.1.l.length + bulk q.1.l + bulkR ps := by simp [bulkR]
    rcases List.mem_cons.1 h with rfl | h
    · omega
    · have := ih h
      omega
theorem rlen_le (ps : List P) : rlen ps ≤ 3 * (ps.length + bulkR ps) := by
  induction ps with
  | nil => simp [rlen]
  | cons q ps ih =>
    have e : bulkR (q :: ps) = q.1.l.length + bulk q.1.l + bulkR ps := by simp [bulkR]
    simp only [rlen, List.length_cons]
    omega
theorem rlen_fst {ps qs : List P} (h : qs.map (·.1) = ps.map (·.1)) : rlen qs = rlen ps := by
  induction qs generalizing ps with
  | nil => cases ps with
    | nil => rfl
    | cons => cases h
  | cons q qs ih => cases ps with
    | nil => cases h
    | cons p ps =>
      simp only [List.map_cons, List.cons.injEq] at h
      rw [rlen, rlen, h.1, ih h.2]
theorem len_fst {ps qs : List P} (h : qs.map (·.1) = ps.map (·.1)) : qs.length = ps.length := by simpa using congrArg List.length h
theorem small_fst {ps qs : List P} {N : Nat} (h : qs.map (·.1) = ps.map (·.1)) (hp : ∀ p ∈ ps, p.1.l.length ≤ N) : ∀ q ∈ qs, q.1.l.length ≤ N := by
  intro q hq
  have : q.1 ∈ ps.map (·.1) := by
    rw [← h]
    exact List.mem_map.2 ⟨q, hq, rfl⟩
  obtain ⟨p, hp', e⟩ := List.mem_map.1 this
  rw [← e]
  exact hp p hp'

end Go.Proofs.YtkofafefnlommaaDoor

/- Small facts about lists of Rows, for exact laws. -/
namespace Go.Proofs.YtkofafefnlommaaDoor
open Go.RowKit

theorem rows_small {ps qs : List P} (h : qs.map (·.1) = ps.map (·.1)) (hp : ∀ p ∈ ps, ∀ v ∈ p.1.l, v.s.size ≤ maxLen) : ∀ q ∈ qs, ∀ v ∈ q.1.l, v.s.size ≤ maxLen := by
  intro q hq
  have : q.1 ∈ ps.map (·.1) := by
    rw [← h]
    exact List.mem_map.2 ⟨q, hq, rfl⟩
  obtain ⟨p, hp', e⟩ := List.mem_map.1 this
  rw [← e]
  exact hp p hp'
def rlenR (l : List R) : Nat := (l.map fun r => 1 + 3 * r.l.length).sum
theorem rlen_R (ps : List P) : rlen ps = rlenR (ps.map (·.1)) := by
  induction ps with
  | nil => rfl
  | cons p ps ih =>
    rw [rlen, ih]
    simp [rlenR]
theorem rlenR_filter (f : R → Bool) (l : List R) : rlenR (l.filter f) ≤ rlenR l := by
  induction l with
  | nil => simp
  | cons r l ih =>
    rw [List.filter_cons]
    have e : rlenR (r :: l) = 1 + 3 * r.l.length + rlenR l := by simp [rlenR]
    split
    · have e2 : rlenR (r :: l.filter f) = 1 + 3 * r.l.length + rlenR (l.filter f) := by simp [rlenR]
      omega
    · omega
theorem Blk.within {lo hi : Nat} {W W' : World} {b : Nat} {cs : List Value} (h : Blk W b cs) (hw : Within lo hi W W') (hb : b < lo ∨ hi ≤ b) : Blk W' b cs := fun i x hx =>
  have hk := hw.2.2.2.2 b (lt_of_cell (h i x hx).1) hb
  ⟨(World.cell?_of_block hk).trans (h i x hx).1, (World.frozen?_of_block hk).trans (h i x hx).2⟩


end Go.Proofs.YtkofafefnlommaaDoor
