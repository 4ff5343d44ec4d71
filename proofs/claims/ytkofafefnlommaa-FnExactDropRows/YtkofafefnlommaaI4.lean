/- The contracts of impl's ColsOk, SameRow, SameRows, Column. -/
import Derived.Test.YtkofafefnlommaaLaw4
import Derived.Test.YtkofafefnlommaaIVals
namespace Go.Proofs.Ytkofafefnlommaa
open Go.RowKit

theorem inB12 {z : Int} : Num.inB z 1 2 = true ↔ z = 1 ∨ z = 2 := by
  rw [Num.inB_true]
  omega
theorem colsB_len {zs : List Int} (h : zs.length < 1 ∨ 3 < zs.length) : colsB zs = false := by
  unfold colsB
  rw [Bool.and_eq_false_iff]
  right
  rw [← Bool.not_eq_true, Num.inB_true]
  omega

set_option maxHeartbeats 1000000 in
theorem iColsOk : CColsOk := by
  intro u zs w _ h
  generalize hl : zs.length = n at h
  obtain ⟨a, cap, rfl, hm, HC⟩ := h.ints hl
  unfold maxLen at hm
  have HL := Lib.hid hl
  clear h hl
  by_cases h1 : n < 1
  · have HA : Hid (colsB zs = false) := colsB_len (by rw [HL.out]; exact .inl h1)
    go_enter Try.func54, Try.ntmps54
    go_wp2
    go_ret
    exact ⟨ret_bool HA.out.symm, Below.refl _ _⟩
  by_cases h3 : 3 < n
  · have HA : Hid (colsB zs = false) := colsB_len (by rw [HL.out]; exact .inr h3)
    go_enter Try.func54, Try.ntmps54
    go_wp2
    go_ret
    exact ⟨ret_bool HA.out.symm, Below.refl _ _⟩
  go_enter Try.func54, Try.ntmps54
  go_wp2
  go_loop [15] (fun i => ∃ k : Nat, k ≤ n ∧ i = .int .i64 k ∧ ∀ j, j < k → Num.inB (zs.getD j 0) 1 2 = true) (fun i => n - (intOf i).toNat)
  case atStart => exact ⟨0, Nat.zero_le _, rfl, fun j hj => by omega⟩
  case round =>
    obtain ⟨k, hk, rfl, hok⟩ := hrel
    have HOK := Lib.hid hok
    clear hok
    by_cases hlt : k < n
    · obtain ⟨b, off, rfl, hc⟩ := HC.out k hlt
      have HS : Hid (Num.inB (zs.getD k 0) 1 2 = true → ∀ j, j < k + 1 → Num.inB (zs.getD j 0) 1 2 = true) := fun h j hj => by
        by_cases e : j = k
        · subst e; exact h
        · exact HOK.out j (by omega)
      have HN : Hid (Num.inB (zs.getD k 0) 1 2 = false → colsB zs = false) := colsB_no (by rw [HL.out]; exact hlt)
      generalize zs.getD k 0 = z at hc HS HN
      by_cases z1 : z = 1
      · have HS2 := Lib.hid (HS.out (inB12.2 (.inl z1)))
        subst z1
        clear HS HN
        go_wp2
        go_round
        case rel => exact ⟨k + 1, by omega, by go_num, HS2.out⟩
        case measure => simp [intOf]; omega
      by_cases z2 : z = 2
      · have HS2 := Lib.hid (HS.out (inB12.2 (.inr z2)))
        subst z2
        clear HS HN
        go_wp2
        go_round
        case rel => exact ⟨k + 1, by omega, by go_num, HS2.out⟩
        case measure => simp [intOf]; omega
      · have HN2 := Lib.hid (HN.out (by rw [← Bool.not_eq_true, inB12]; omega))
        have e1 : (z != 1) = true := by simpa using z1
        have e2 : (z != 2) = true := by simpa using z2
        clear HS HN z1 z2
        go_wp2
        go_ret
        exact ⟨ret_bool HN2.out.symm, Below.refl _ _⟩
    · obtain rfl : k = n := by omega
      have HA : Hid (colsB zs = true) := by
        show colsB zs = _
        rw [colsB_all (fun j hj => HOK.out j (by rw [← HL.out]; exact hj)), HL.out, Num.inB_true]
        omega
      go_wp2
      go_ret
      exact ⟨ret_bool HA.out.symm, Below.refl _ _⟩

end Go.Proofs.Ytkofafefnlommaa
