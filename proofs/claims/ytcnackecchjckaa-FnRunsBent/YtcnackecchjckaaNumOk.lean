/- The contracts of numOk (the program's) and of l1Right (the model's). -/
import Derived.Test.YtcnackecchjckaaIn
import Derived.Test.YtcnackecchjckaaNums
import Derived.Test.YtcnackecchjckaaMem
import Derived.WalkKit
import Derived.WalkSpells
import Derived.Lib.Hide
namespace Go.Proofs.Ytcnackecchjckaa
open Go.RowKit

theorem numOk (n : Int) (w : World) : Calls Try.prog 82 #[.int .i64 n] w fun e w' => e = .returned (.bool (Num.okB n)) ∧ w = w' := by
  by_cases h1 : -1000000000 ≤ n
  · by_cases h2 : n ≤ 1000000000
    · have e : Num.okB n = true := Num.okB_true.2 ⟨h1, h2⟩
      rw [e]
      go_enter Try.func82, Try.ntmps82
      go_wp2
      go_ret
      exact ⟨rfl, rfl⟩
    · have e : Num.okB n = false := Num.okB_false.2 (fun h => h2 h.2)
      rw [e]
      go_enter Try.func82, Try.ntmps82
      go_wp2
      go_ret
      exact ⟨rfl, rfl⟩
  · have e : Num.okB n = false := Num.okB_false.2 (fun h => h1 h.1)
    rw [e]
    go_enter Try.func82, Try.ntmps82
    go_wp2
    go_ret
    exact ⟨rfl, rfl⟩

theorem l1Right (n : Int) (w : World) : Calls Try.prog 79 #[.int .i64 n] w fun e w' => e = .returned (.bool (Num.okB n)) ∧ w = w' := by
  go_enter Try.func79, Try.ntmps79
  go_wp2_with (go_at_call 62; refine (l1In _ _ _ _).mono ?_; rintro e w' ⟨rfl, rfl⟩)
  go_ret
  exact ⟨rfl, rfl⟩

end Go.Proofs.Ytcnackecchjckaa
