/- The contract of impl's ValOk. -/
import Derived.Test.YtkofafefnlommaaIVal
import Derived.Test.YtkofafefnlommaaTake
namespace Go.Proofs.Ytkofafefnlommaa
open Go.RowKit

theorem boxedV {w : World} {t n : Int} {s : ByteArray} {e : TypeId} {W : World} (hb : Below (w.alloc (.cells #[.int .i64 t, .int .i64 n, .string s] e)).heap.size (w.alloc (.cells #[.int .i64 t, .int .i64 n, .string s] e)) W) :
    W.cell? ⟨w.heap.size, 0, none⟩ = some (.int .i64 t) ∧ W.cell? ⟨w.heap.size, 1, none⟩ = some (.int .i64 n) ∧ W.cell? ⟨w.heap.size, 2, none⟩ = some (.string s) := by
  refine ⟨(hb.cell (p := ⟨w.heap.size, 0, none⟩) (by simp)).trans ?_, (hb.cell (p := ⟨w.heap.size, 1, none⟩) (by simp)).trans ?_, (hb.cell (p := ⟨w.heap.size, 2, none⟩) (by simp)).trans ?_⟩ <;> simp

set_option maxHeartbeats 1000000 in
theorem iValOk (v : V) (w : World) (hs : v.s.size ≤ maxLen) : Calls Try.prog 83 #[v.agg] w fun e w' => e = .returned (.bool (okV v)) ∧ Below w.heap.size w w' := by
  obtain ⟨t, n, s⟩ := v
  simp only at hs
  have B0 := below_alloc w (.cells #[.int .i64 t, .int .i64 n, .string s] 76)
  have HC := Lib.hid (fun (W : World) => boxedV (w := w) (t := t) (n := n) (s := s) (e := 76) (W := W))
  generalize hw0 : (w.alloc (.cells #[.int .i64 t, .int .i64 n, .string s] 76)) = w0 at B0 HC
  have hB := Below.refl w0.heap.size w0
  have hB' := hB.drew
  have HW := Lib.hid hw0
  clear hw0
  by_cases ht : t = 1
  · subst ht
    have HE : Hid (okV ⟨1, n, s⟩ = (Num.okB n && (s.size == 0))) := if_pos rfl
    have HA := Lib.hid (fun W => iIntVal n W)
    have HO := Lib.hid (fun W => numOk n W)
    have HQ := Lib.hid (fun W => run_eql_val ⟨1, n, s⟩ ⟨1, n, ⟨#[]⟩⟩ W)
    by_cases h0 : s.size = 0
    · have e : V.eqB ⟨1, n, s⟩ ⟨1, n, ⟨#[]⟩⟩ = true := by
        obtain rfl : s = ⟨#[]⟩ := by
          apply ByteArray.ext
          exact Array.eq_empty_of_size_eq_zero h0
        simp [V.eqB]
      rw [e] at HQ
      rw [show (s.size == 0) = true by simpa using h0, Bool.and_true] at HE
      have hq := HQ.out
      clear e h0 HQ
      generalize Num.okB n = r at HE HO
      go_enter Try.func83, Try.ntmps83
      go_wp2_with fail
      rw [HW.out]
      go_region_held3 (fun W => W.cell? ⟨w.heap.size, 0, none⟩ = some (.int .i64 1) ∧ W.cell? ⟨w.heap.size, 1, none⟩ = some (.int .i64 n) ∧ W.cell? ⟨w.heap.size, 2, none⟩ = some (.string s)) (first | exact HC.out _ hB' | exact HC.out _ hB) (first | (go_at_call 89; (with_reducible refine (HA.out _).mono ?_); rintro e w3 ⟨rfl, hb⟩; replace hB' := below_then hB' hb hB'.size) | (go_at_call 90; (with_reducible refine (HO.out _).mono ?_); rintro e w4 ⟨rfl, rfl⟩))
      all_goals
        go_wp2
        go_ret
        exact ⟨ret_bool HE.out.symm, B0.trans (hB'.mono B0.size)⟩
    · have e : V.eqB ⟨1, n, s⟩ ⟨1, n, ⟨#[]⟩⟩ = false := by
        have : ¬ s.toList = [] := fun e => h0 (size_of_toList e)
        have h1 : (s.toList == []) = false := by simpa using this
        have h2 : (⟨#[]⟩ : ByteArray).toList = [] := by rw [ByteArray.toList_eq]
        simp [V.eqB, h2, this]
      rw [e] at HQ
      rw [show (s.size == 0) = false by simpa using h0, Bool.and_false] at HE
      have hq := HQ.out
      clear e h0 HQ
      go_enter Try.func83, Try.ntmps83
      go_wp2_with fail
      rw [HW.out]
      refine wp_region_held_drew (S := (fun W => W.cell? ⟨w.heap.size, 0, none⟩ = some (.int .i64 1) ∧ W.cell? ⟨w.heap.size, 1, none⟩ = some (.int .i64 n) ∧ W.cell? ⟨w.heap.size, 2, none⟩ = some (.string s))) (by kernel_rfl) (HC.out _ hB') (fun hHeld => ?_)
      refine takeH (i := 0) (d := some 7) (v := .agg #[.int .i64 1, .int .i64 n, .string s]) rfl rfl (by kernel_rfl) (by kernel_rfl) (by kernel_rfl) (fun _ _ _ h => h) (Or.inl ⟨by rfl, fun W hSw => by obtain ⟨c0, c1, c2⟩ := hSw; go_simp⟩) hHeld ?_
      simp only [put_some, List.set_cons_zero, List.set_cons_succ]
      refine takeH (i := 1) (d := some 8) (v := .pointer (some ⟨w.heap.size, 1, none⟩)) rfl rfl (by kernel_rfl) (by kernel_rfl) (by kernel_rfl) (fun _ _ _ h => h) (Or.inl ⟨by rfl, fun W hSw => by obtain ⟨c0, c1, c2⟩ := hSw; go_simp⟩) hHeld ?_
      simp only [put_some, List.set_cons_zero, List.set_cons_succ]
      refine takeH (i := 2) (d := some 9) (v := .int .i64 n) rfl rfl (by kernel_rfl) (by kernel_rfl) (by kernel_rfl) (fun _ _ _ h => h) (Or.inl ⟨by rfl, fun W hSw => by obtain ⟨c0, c1, c2⟩ := hSw; go_simp⟩) hHeld ?_
      simp only [put_some, List.set_cons_zero, List.set_cons_succ]
      refine wpAnyH_ready (rs := [3]) (by kernel_rfl) (by simp) ?_
      refine AllReadyH.cons rfl (fun K hK => ?_) AllReadyH.nil
      go_simp
      go_at_call 89
      refine (HA.out _).mono ?_
      rintro e w3 ⟨rfl, hb⟩
      replace hB' := below_then hB' hb hB'.size
      go_wp2_with fail
      refine hK.out _ _ (HC.out _ hB') (fun hHeld => ?_)
      clear hK K
      refine takeH (i := 4) (d := some 11) (v := .bool false) rfl rfl (by kernel_rfl) (by kernel_rfl) (by kernel_rfl) (fun _ _ _ h => h) (Or.inl ⟨by rfl, fun W hSw => by obtain ⟨c0, c1, c2⟩ := hSw; go_simp⟩) hHeld ?_
      simp only [put_some, List.set_cons_zero, List.set_cons_succ]
      refine takeH (i := 5) (d := some 12) (v := .bool false) rfl rfl (by kernel_rfl) (by kernel_rfl) (by kernel_rfl) (fun _ _ _ h => h) (Or.inl ⟨by rfl, fun W hSw => by obtain ⟨c0, c1, c2⟩ := hSw; go_simp⟩) hHeld ?_
      simp only [put_some, List.set_cons_zero, List.set_cons_succ]
      refine takeH (i := 6) (d := some 13) (v := undef) rfl rfl (by kernel_rfl) (by kernel_rfl) (by kernel_rfl) (fun _ _ _ h => h) (Or.inr ⟨by rfl, rfl⟩) hHeld ?_
      simp only [put_some, List.set_cons_zero, List.set_cons_succ]
      refine takeH (i := 7) (d := some 14) (v := undef) rfl rfl (by kernel_rfl) (by kernel_rfl) (by kernel_rfl) (fun _ _ _ h => h) (Or.inr ⟨by rfl, rfl⟩) hHeld ?_
      simp only [put_some, List.set_cons_zero, List.set_cons_succ]
      refine takeH (i := 8) (d := some 15) (v := undef) rfl rfl (by kernel_rfl) (by kernel_rfl) (by kernel_rfl) (fun _ _ _ h => h) (Or.inr ⟨by rfl, rfl⟩) hHeld ?_
      simp only [put_some, List.set_cons_zero, List.set_cons_succ]
      refine takeH (i := 9) (d := some 16) (v := .bool false) rfl rfl (by kernel_rfl) (by kernel_rfl) (by kernel_rfl) (fun _ _ _ h => h) (Or.inl ⟨by rfl, fun W hSw => by obtain ⟨c0, c1, c2⟩ := hSw; go_simp⟩) hHeld ?_
      simp only [put_some, List.set_cons_zero, List.set_cons_succ]
      refine takeH (i := 10) (d := some 2) (v := .bool false) rfl rfl (by kernel_rfl) (by kernel_rfl) (by kernel_rfl) (fun _ _ _ h => h) (Or.inl ⟨by rfl, fun W hSw => by obtain ⟨c0, c1, c2⟩ := hSw; go_simp⟩) hHeld ?_
      simp only [put_some, List.set_cons_zero, List.set_cons_succ]
      refine wpAnyH_done (by kernel_rfl) ?_ _
      go_wp2
      go_ret
      exact ⟨ret_bool HE.out.symm, B0.trans (hB'.mono B0.size)⟩
  · have HE : Hid (okV ⟨t, n, s⟩ = (t == 2 && (n == 0 && txtB s))) := if_neg ht
    have ht1 : (t == 1) = false := by simpa using ht
    by_cases ht2 : t = 2
    · subst ht2
      have HA := Lib.hid (fun W => iTextVal s W)
      have HO := Lib.hid (fun W => iTextOk s W hs)
      have HQ := Lib.hid (fun W => run_eql_val ⟨2, n, s⟩ ⟨2, 0, s⟩ W)
      have e : V.eqB ⟨2, n, s⟩ ⟨2, 0, s⟩ = (n == 0) := by simp [V.eqB]
      rw [e] at HQ
      rw [show ((2 : Int) == 2) = true from rfl, Bool.true_and] at HE
      by_cases h0 : n = 0
      · rw [show (n == 0) = true by simpa using h0] at HE HQ
        rw [Bool.true_and] at HE
        have hq := HQ.out
        clear e h0 HQ ht
        generalize txtB s = r at HE HO
        go_enter Try.func83, Try.ntmps83
        go_wp2_with fail
        rw [HW.out]
        go_region_held3 (fun W => W.cell? ⟨w.heap.size, 0, none⟩ = some (.int .i64 2) ∧ W.cell? ⟨w.heap.size, 1, none⟩ = some (.int .i64 n) ∧ W.cell? ⟨w.heap.size, 2, none⟩ = some (.string s)) (first | exact HC.out _ hB' | exact HC.out _ hB) (first | (go_at_call 91; (with_reducible refine (HA.out _).mono ?_); rintro e w3 ⟨rfl, hb⟩; replace hB' := below_then hB' hb hB'.size) | (go_at_call 92; (with_reducible refine (HO.out _).mono ?_); rintro e w4 ⟨rfl, rfl⟩))
        all_goals
          go_wp2
          go_ret
          exact ⟨ret_bool HE.out.symm, B0.trans (hB'.mono B0.size)⟩
      · rw [show (n == 0) = false by simpa using h0] at HE HQ
        rw [Bool.false_and] at HE
        have hq := HQ.out
        clear e h0 HQ ht
        go_enter Try.func83, Try.ntmps83
        go_wp2_with fail
        rw [HW.out]
        refine wp_region_held_drew (S := (fun W => W.cell? ⟨w.heap.size, 0, none⟩ = some (.int .i64 2) ∧ W.cell? ⟨w.heap.size, 1, none⟩ = some (.int .i64 n) ∧ W.cell? ⟨w.heap.size, 2, none⟩ = some (.string s))) (by kernel_rfl) (HC.out _ hB') (fun hHeld => ?_)
        refine takeH (i := 0) (d := some 19) (v := .agg #[.int .i64 2, .int .i64 n, .string s]) rfl rfl (by kernel_rfl) (by kernel_rfl) (by kernel_rfl) (fun _ _ _ h => h) (Or.inl ⟨by rfl, fun W hSw => by obtain ⟨c0, c1, c2⟩ := hSw; go_simp⟩) hHeld ?_
        simp only [put_some, List.set_cons_zero, List.set_cons_succ]
        refine takeH (i := 1) (d := some 20) (v := .pointer (some ⟨w.heap.size, 2, none⟩)) rfl rfl (by kernel_rfl) (by kernel_rfl) (by kernel_rfl) (fun _ _ _ h => h) (Or.inl ⟨by rfl, fun W hSw => by obtain ⟨c0, c1, c2⟩ := hSw; go_simp⟩) hHeld ?_
        simp only [put_some, List.set_cons_zero, List.set_cons_succ]
        refine takeH (i := 2) (d := some 21) (v := .string s) rfl rfl (by kernel_rfl) (by kernel_rfl) (by kernel_rfl) (fun _ _ _ h => h) (Or.inl ⟨by rfl, fun W hSw => by obtain ⟨c0, c1, c2⟩ := hSw; go_simp⟩) hHeld ?_
        simp only [put_some, List.set_cons_zero, List.set_cons_succ]
        refine wpAnyH_ready (rs := [3]) (by kernel_rfl) (by simp) ?_
        refine AllReadyH.cons rfl (fun K hK => ?_) AllReadyH.nil
        go_simp
        go_at_call 91
        refine (HA.out _).mono ?_
        rintro e w3 ⟨rfl, hb⟩
        replace hB' := below_then hB' hb hB'.size
        go_wp2_with fail
        refine hK.out _ _ (HC.out _ hB') (fun hHeld => ?_)
        clear hK K
        refine takeH (i := 4) (d := some 23) (v := .bool false) rfl rfl (by kernel_rfl) (by kernel_rfl) (by kernel_rfl) (fun _ _ _ h => h) (Or.inl ⟨by rfl, fun W hSw => by obtain ⟨c0, c1, c2⟩ := hSw; go_simp⟩) hHeld ?_
        simp only [put_some, List.set_cons_zero, List.set_cons_succ]
        refine takeH (i := 5) (d := some 24) (v := .bool false) rfl rfl (by kernel_rfl) (by kernel_rfl) (by kernel_rfl) (fun _ _ _ h => h) (Or.inl ⟨by rfl, fun W hSw => by obtain ⟨c0, c1, c2⟩ := hSw; go_simp⟩) hHeld ?_
        simp only [put_some, List.set_cons_zero, List.set_cons_succ]
        refine takeH (i := 6) (d := some 25) (v := undef) rfl rfl (by kernel_rfl) (by kernel_rfl) (by kernel_rfl) (fun _ _ _ h => h) (Or.inr ⟨by rfl, rfl⟩) hHeld ?_
        simp only [put_some, List.set_cons_zero, List.set_cons_succ]
        refine takeH (i := 7) (d := some 26) (v := undef) rfl rfl (by kernel_rfl) (by kernel_rfl) (by kernel_rfl) (fun _ _ _ h => h) (Or.inr ⟨by rfl, rfl⟩) hHeld ?_
        simp only [put_some, List.set_cons_zero, List.set_cons_succ]
        refine takeH (i := 8) (d := some 27) (v := undef) rfl rfl (by kernel_rfl) (by kernel_rfl) (by kernel_rfl) (fun _ _ _ h => h) (Or.inr ⟨by rfl, rfl⟩) hHeld ?_
        simp only [put_some, List.set_cons_zero, List.set_cons_succ]
        refine takeH (i := 9) (d := some 28) (v := .bool false) rfl rfl (by kernel_rfl) (by kernel_rfl) (by kernel_rfl) (fun _ _ _ h => h) (Or.inl ⟨by rfl, fun W hSw => by obtain ⟨c0, c1, c2⟩ := hSw; go_simp⟩) hHeld ?_
        simp only [put_some, List.set_cons_zero, List.set_cons_succ]
        refine takeH (i := 10) (d := some 2) (v := .bool false) rfl rfl (by kernel_rfl) (by kernel_rfl) (by kernel_rfl) (fun _ _ _ h => h) (Or.inl ⟨by rfl, fun W hSw => by obtain ⟨c0, c1, c2⟩ := hSw; go_simp⟩) hHeld ?_
        simp only [put_some, List.set_cons_zero, List.set_cons_succ]
        refine wpAnyH_done (by kernel_rfl) ?_ _
        go_wp2
        go_ret
        exact ⟨ret_bool HE.out.symm, B0.trans (hB'.mono B0.size)⟩
    · have ht2b : (t == 2) = false := by simpa using ht2
      rw [ht2b, Bool.false_and] at HE
      clear ht ht2 hB hB' HC
      go_enter Try.func83, Try.ntmps83
      go_wp2
      go_ret
      rw [HW.out]
      exact ⟨ret_bool HE.out.symm, B0⟩

end Go.Proofs.Ytkofafefnlommaa
