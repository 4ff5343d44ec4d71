/- The contracts of chapter 1's functions on plain integers: numOk, l1In, l1Right, ZigZag and ZagZig, of the program and of the model. -/
import Derived.Test.YtoidpibdjijamaaRows
import Derived.Test.YtoidpibdjijamaaNums
import Derived.Test.YtoidpibdjijamaaMem
import Derived.Test.YtoidpibdjijamaaNumOk
import Derived.WalkKit
import Derived.WalkSpells
import Derived.Lib.Hide
namespace Go.Proofs.Ytoidpibdjijamaa
open Go.RowKit

theorem iZigZag (n : Int) (w : World) : Calls Try.prog 77 #[.int .i64 n] w fun e w' => e = .returned (.int .i64 (Num.zig n)) ∧ w = w' := by
  by_cases h : Num.ok n
  · have hb : Num.okB n = true := Num.okB_true.2 h
    by_cases h0 : n < 0
    · have e : Num.zig n = -2 * n - 1 := by simp [Num.zig, h, h0]
      obtain ⟨h1, h2⟩ := h
      have E := Lib.hid e; clear e
      go_enter Try.func77, Try.ntmps77
      go_wp2_with (go_at_call 88; refine (numOk _ _).mono ?_; rintro e w' ⟨rfl, rfl⟩)
      go_ret
      exact ⟨ret_int (by rw [E.out]), rfl⟩
    · have e : Num.zig n = 2 * n := by simp [Num.zig, h, h0]
      obtain ⟨h1, h2⟩ := h
      have E := Lib.hid e; clear e
      go_enter Try.func77, Try.ntmps77
      go_wp2_with (go_at_call 88; refine (numOk _ _).mono ?_; rintro e w' ⟨rfl, rfl⟩)
      go_ret
      exact ⟨ret_int (by rw [E.out]), rfl⟩
  · have hb : Num.okB n = false := Num.okB_false.2 h
    have e : Num.zig n = 0 := by simp only [Num.zig]; exact if_neg h
    have E := Lib.hid e; clear e h
    go_enter Try.func77, Try.ntmps77
    go_wp2_with (go_at_call 88; refine (numOk _ _).mono ?_; rintro e w' ⟨rfl, rfl⟩)
    go_ret
    exact ⟨ret_int (by rw [E.out]), rfl⟩

theorem sZigZag (n : Int) (w : World) : Calls Try.prog 85 #[.int .i64 n] w fun e w' => e = .returned (.int .i64 (Num.zig n)) ∧ w = w' := by
  by_cases h : Num.ok n
  · have hb : Num.okB n = true := Num.okB_true.2 h
    by_cases h0 : n < 0
    · have e : Num.zig n = -2 * n - 1 := by simp [Num.zig, h, h0]
      obtain ⟨h1, h2⟩ := h
      have E := Lib.hid e; clear e
      go_enter Try.func85, Try.ntmps85
      go_wp2_with (go_at_call 84; refine (l1Right _ _).mono ?_; rintro e w' ⟨rfl, rfl⟩)
      go_ret
      exact ⟨ret_int (by rw [E.out]), rfl⟩
    · have e : Num.zig n = 2 * n := by simp [Num.zig, h, h0]
      obtain ⟨h1, h2⟩ := h
      have E := Lib.hid e; clear e
      go_enter Try.func85, Try.ntmps85
      go_wp2_with (go_at_call 84; refine (l1Right _ _).mono ?_; rintro e w' ⟨rfl, rfl⟩)
      go_ret
      exact ⟨ret_int (by rw [E.out]), rfl⟩
  · have hb : Num.okB n = false := Num.okB_false.2 h
    have e : Num.zig n = 0 := by simp only [Num.zig]; exact if_neg h
    have E := Lib.hid e; clear e h
    go_enter Try.func85, Try.ntmps85
    go_wp2_with (go_at_call 84; refine (l1Right _ _).mono ?_; rintro e w' ⟨rfl, rfl⟩)
    go_ret
    exact ⟨ret_int (by rw [E.out]), rfl⟩

theorem zag_odd {n : Int} (h0 : 0 ≤ n) (h : n ≤ 2000000000) (h1 : n % 2 = 1) : Num.zag n = wrap64 (-(n + 1).tdiv 2) := by
  unfold Num.zag; rw [if_pos ⟨h0, h⟩, if_pos h1, Int.tdiv_eq_ediv_of_nonneg (by omega), IntWalk.wrap64_in _ (by omega)]
theorem zag_even {n : Int} (h0 : 0 ≤ n) (h : n ≤ 2000000000) (h1 : ¬ n % 2 = 1) : Num.zag n = n / 2 := by
  unfold Num.zag; rw [if_pos ⟨h0, h⟩, if_neg h1]
theorem zag_no {n : Int} (h : ¬ (0 ≤ n ∧ n ≤ 2000000000)) : Num.zag n = 0 := by unfold Num.zag; rw [if_neg h]

theorem iZagZig (n : Int) (w : World) : Calls Try.prog 121 #[.int .i64 n] w fun e w' => e = .returned (.int .i64 (Num.zag n)) ∧ w = w' := by
  by_cases h : 0 ≤ n ∧ n ≤ 2000000000
  · obtain ⟨h0, h2⟩ := h
    by_cases h1 : n % 2 = 1
    · have E := Lib.hid (zag_odd h0 h2 h1)
      have hb : (n % 2 == 1) = true := by simp [h1]
      go_enter Try.func121, Try.ntmps121
      go_wp2
      go_ret
      exact ⟨ret_int (by rw [E.out]), rfl⟩
    · have E := Lib.hid (zag_even h0 h2 h1)
      have hb : (n % 2 == 1) = false := by simp [h1]
      go_enter Try.func121, Try.ntmps121
      go_wp2
      go_ret
      exact ⟨ret_int (by rw [E.out]), rfl⟩
  · have E := Lib.hid (zag_no h)
    by_cases h0 : n < 0
    · clear h
      go_enter Try.func121, Try.ntmps121
      go_wp2
      go_ret
      exact ⟨ret_int (by rw [E.out]), rfl⟩
    · have h2 : 2000000000 < n := by omega
      clear h
      go_enter Try.func121, Try.ntmps121
      go_wp2
      go_ret
      exact ⟨ret_int (by rw [E.out]), rfl⟩

theorem sZagZig (n : Int) (w : World) : Calls Try.prog 96 #[.int .i64 n] w fun e w' => e = .returned (.int .i64 (Num.zag n)) ∧ w = w' := by
  by_cases h : 0 ≤ n ∧ n ≤ 2000000000
  · have hi : Num.inB n 0 2000000000 = true := Num.inB_true.2 h
    obtain ⟨h0, h2⟩ := h
    by_cases h1 : n % 2 = 1
    · have E := Lib.hid (zag_odd h0 h2 h1)
      have hb : (n % 2 == 1) = true := by simp [h1]
      go_enter Try.func96, Try.ntmps96
      go_wp2_with (go_at_call 66; refine (l1In _ _ _ _).mono ?_; rintro e w' ⟨rfl, rfl⟩)
      go_ret
      exact ⟨ret_int (by rw [E.out]), rfl⟩
    · have E := Lib.hid (zag_even h0 h2 h1)
      have hb : (n % 2 == 1) = false := by simp [h1]
      go_enter Try.func96, Try.ntmps96
      go_wp2_with (go_at_call 66; refine (l1In _ _ _ _).mono ?_; rintro e w' ⟨rfl, rfl⟩)
      go_ret
      exact ⟨ret_int (by rw [E.out]), rfl⟩
  · have hi : Num.inB n 0 2000000000 = false := Num.inB_false.2 h
    have E := Lib.hid (zag_no h)
    clear h
    go_enter Try.func96, Try.ntmps96
    go_wp2_with (go_at_call 66; refine (l1In _ _ _ _).mono ?_; rintro e w' ⟨rfl, rfl⟩)
    go_ret
    exact ⟨ret_int (by rw [E.out]), rfl⟩

end Go.Proofs.Ytoidpibdjijamaa
