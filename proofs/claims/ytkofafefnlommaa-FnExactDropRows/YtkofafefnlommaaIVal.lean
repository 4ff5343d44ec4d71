/- The contracts of impl's intVal, textVal, textByte, textOk, ValOk. -/
import Derived.Test.YtkofafefnlommaaVOk
import Derived.Deep.RegionHeld3
namespace Go.Proofs.Ytkofafefnlommaa
open Go.RowKit

theorem iIntVal (n : Int) (w : World) : Calls Try.prog 89 #[.int .i64 n] w fun e w' => e = .returned (V.agg ⟨1, n, ⟨#[]⟩⟩) ∧ Below w.heap.size w w' := by
  go_enter Try.func89, Try.ntmps89
  go_wp2
  exact bodyPost_ret (v := .agg #[.int .i64 1, .int .i64 n, .string ⟨#[]⟩]) (by simp [results, Try.results89, go_sem]) rfl ⟨rfl, below_alloc _ _⟩
theorem iTextVal (s : ByteArray) (w : World) : Calls Try.prog 91 #[.string s] w fun e w' => e = .returned (V.agg ⟨2, 0, s⟩) ∧ Below w.heap.size w w' := by
  go_enter Try.func91, Try.ntmps91
  go_wp2
  exact bodyPost_ret (v := .agg #[.int .i64 2, .int .i64 0, .string s]) (by simp [results, Try.results91, go_sem]) rfl ⟨rfl, below_alloc _ _⟩

theorem iTextByte (c : Nat) (w : World) : Calls Try.prog 94 #[.int .u8 c] w fun e w' => e = .returned (.bool (Num.inB c 97 122 || Num.inB c 48 57)) ∧ w = w' := by
  by_cases h1 : 97 ≤ c
  · by_cases h2 : c ≤ 122
    · go_enter Try.func94, Try.ntmps94
      go_wp2
      go_ret
      exact ⟨ret_bool (by unfold Num.inB; rw [Bool.eq_iff_iff]; simp; omega), rfl⟩
    · go_enter Try.func94, Try.ntmps94
      go_wp2
      go_ret
      exact ⟨ret_bool (by unfold Num.inB; rw [Bool.eq_iff_iff]; simp; omega), rfl⟩
  · by_cases h3 : 48 ≤ c
    · go_enter Try.func94, Try.ntmps94
      go_wp2
      go_ret
      exact ⟨ret_bool (by unfold Num.inB; rw [Bool.eq_iff_iff]; simp; omega), rfl⟩
    · go_enter Try.func94, Try.ntmps94
      go_wp2
      go_ret
      exact ⟨ret_bool (by unfold Num.inB; rw [Bool.eq_iff_iff]; simp; omega), rfl⟩

theorem iTextOk (s : ByteArray) (w : World) (hs : s.size ≤ maxLen) : Calls Try.prog 92 #[.string s] w fun e w' => e = .returned (.bool (txtB s)) ∧ w = w' := by
  unfold maxLen at hs
  by_cases h6 : s.size ≤ 6
  · go_enter Try.func92, Try.ntmps92
    go_wp2
    go_loop [9] (fun i => ∃ k : Nat, k ≤ s.size ∧ i = .int .i64 k ∧ ∀ j (hj : j < s.size), j < k → chrB s[j] = true) (fun i => s.size - (intOf i).toNat)
    case atStart => exact ⟨0, Nat.zero_le _, rfl, fun j _ hj => by omega⟩
    case round =>
      obtain ⟨k, hk, rfl, hok⟩ := hrel
      have HOK := Lib.hid hok
      clear hok
      by_cases hlt : k < s.size
      · have HS : Hid (chrB s[k] = true → ∀ j (hj : j < s.size), j < k + 1 → chrB s[j] = true) := fun h j hj hjk => by
          by_cases e : j = k
          · subst e; exact h
          · exact HOK.out j hj (by omega)
        have HN : Hid (chrB s[k] = false → txtB s = false) := txtB_bad hlt
        have HT := Lib.hid (fun W => iTextByte s[k].toNat W)
        have HD : Hid ((Num.inB s[k].toNat 97 122 || Num.inB s[k].toNat 48 57) = chrB s[k]) := rfl
        rw [HD.out] at HT
        cases hc : chrB s[k] with
        | true =>
          have HS2 := Lib.hid (HS.out hc)
          rw [hc] at HT
          clear hc HS HN HD
          go_wp2_with (go_at_call 94; refine (HT.out _).mono ?_; rintro e w' ⟨rfl, rfl⟩)
          go_round
          case rel => exact ⟨k + 1, by omega, by go_num, HS2.out⟩
          case measure => simp [intOf]; omega
        | false =>
          have HN2 := Lib.hid (HN.out hc)
          rw [hc] at HT
          clear hc HS HN HD
          go_wp2_with (go_at_call 94; refine (HT.out _).mono ?_; rintro e w' ⟨rfl, rfl⟩)
          go_ret
          exact ⟨ret_bool HN2.out.symm, rfl⟩
      · obtain rfl : k = s.size := by omega
        have HA : Hid (txtB s = true) := txtB_all h6 (fun j hj => HOK.out j hj hj)
        go_wp2
        go_ret
        exact ⟨ret_bool HA.out.symm, rfl⟩
  · have HA : Hid (txtB s = false) := by
      show txtB s = false
      unfold txtB
      rw [decide_eq_false h6]
      rfl
    go_enter Try.func92, Try.ntmps92
    go_wp2
    go_ret
    exact ⟨ret_bool HA.out.symm, rfl⟩

end Go.Proofs.Ytkofafefnlommaa
