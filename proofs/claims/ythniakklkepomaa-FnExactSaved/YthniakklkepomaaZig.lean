/- The contracts of chapter 1's functions on plain integers: numOk, l1In, l1Right, ZigZag and ZagZig, of the program and of the model. -/
import Derived.Test.YthniakklkepomaaRows
import Derived.Test.YthniakklkepomaaNums
import Derived.Test.YthniakklkepomaaMem
import Derived.Test.YthniakklkepomaaNumOk
import Derived.WalkKit
import Derived.WalkSpells
import Derived.Lib.Hide
namespace Go.Proofs.Ythniakklkepomaa
open Go.RowKit

theorem iZigZag (n : Int) (w : World) : Calls Try.prog 73 #[.int .i64 n] w fun e w' => e = .returned (.int .i64 (Num.zig n)) ∧ w = w' := by
  by_cases h : Num.ok n
  · have hb : Num.okB n = true := Num.okB_true.2 h
    by_cases h0 : n < 0
    · have e : Num.zig n = -2 * n - 1 := by simp [Num.zig, h, h0]
      obtain ⟨h1, h2⟩ := h
      have E := Lib.hid e; clear e
      go_enter Try.func73, Try.ntmps73
      go_wp2_with (go_at_call 84; refine (numOk _ _).mono ?_; rintro e w' ⟨rfl, rfl⟩)
      go_ret
      exact ⟨ret_int (by rw [E.out]), rfl⟩
    · have e : Num.zig n = 2 * n := by simp [Num.zig, h, h0]
      obtain ⟨h1, h2⟩ := h
      have E := Lib.hid e; clear e
      go_enter Try.func73, Try.ntmps73
      go_wp2_with (go_at_call 84; refine (numOk _ _).mono ?_; rintro e w' ⟨rfl, rfl⟩)
      go_ret
      exact ⟨ret_int (by rw [E.out]), rfl⟩
  · have hb : Num.okB n = false := Num.okB_false.2 h
    have e : Num.zig n = 0 := by simp only [Num.zig]; exact if_neg h
    have E := Lib.hid e; clear e h
    go_enter Try.func73, Try.ntmps73
    go_wp2_with (go_at_call 84; refine (numOk _ _).mono ?_; rintro e w' ⟨rfl, rfl⟩)
    go_ret
    exact ⟨ret_int (by rw [E.out]), rfl⟩

theorem sZigZag (n : Int) (w : World) : Calls Try.prog 56 #[.int .i64 n] w fun e w' => e = .returned (.int .i64 (Num.zig n)) ∧ w = w' := by
  by_cases h : Num.ok n
  · have hb : Num.okB n = true := Num.okB_true.2 h
    by_cases h0 : n < 0
    · have e : Num.zig n = -2 * n - 1 := by simp [Num.zig, h, h0]
      obtain ⟨h1, h2⟩ := h
      have E := Lib.hid e; clear e
      go_enter Try.func56, Try.ntmps56
      go_wp2_with (go_at_call 55; refine (l1Right _ _).mono ?_; rintro e w' ⟨rfl, rfl⟩)
      go_ret
      exact ⟨ret_int (by rw [E.out]), rfl⟩
    · have e : Num.zig n = 2 * n := by simp [Num.zig, h, h0]
      obtain ⟨h1, h2⟩ := h
      have E := Lib.hid e; clear e
      go_enter Try.func56, Try.ntmps56
      go_wp2_with (go_at_call 55; refine (l1Right _ _).mono ?_; rintro e w' ⟨rfl, rfl⟩)
      go_ret
      exact ⟨ret_int (by rw [E.out]), rfl⟩
  · have hb : Num.okB n = false := Num.okB_false.2 h
    have e : Num.zig n = 0 := by simp only [Num.zig]; exact if_neg h
    have E := Lib.hid e; clear e h
    go_enter Try.func56, Try.ntmps56
    go_wp2_with (go_at_call 55; refine (l1Right _ _).mono ?_; rintro e w' ⟨rfl, rfl⟩)
    go_ret
    exact ⟨ret_int (by rw [E.out]), rfl⟩

theorem zag_odd {n : Int} (h0 : 0 ≤ n) (h : n ≤ 2000000000) (h1 : n % 2 = 1) : Num.zag n = wrap64 (-(n + 1).tdiv 2) := by
  unfold Num.zag; rw [if_pos ⟨h0, h⟩, if_pos h1, Int.tdiv_eq_ediv_of_nonneg (by omega), IntWalk.wrap64_in _ (by omega)]
theorem zag_even {n : Int} (h0 : 0 ≤ n) (h : n ≤ 2000000000) (h1 : ¬ n % 2 = 1) : Num.zag n = n / 2 := by
  unfold Num.zag; rw [if_pos ⟨h0, h⟩, if_neg h1]
theorem zag_no {n : Int} (h : ¬ (0 ≤ n ∧ n ≤ 2000000000)) : Num.zag n = 0 := by unfold Num.zag; rw [if_neg h]

end Go.Proofs.Ythniakklkepomaa
