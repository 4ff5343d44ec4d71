/- The contracts of numOk (the program's) and of l1Right (the model's). -/
import Derived.Test.YthniakklkepomaaIn
import Derived.Test.YthniakklkepomaaNums
import Derived.Test.YthniakklkepomaaMem
import Derived.WalkKit
import Derived.WalkSpells
import Derived.Lib.Hide
namespace Go.Proofs.Ythniakklkepomaa
open Go.RowKit

theorem numOk (n : Int) (w : World) : Calls Try.prog 84 #[.int .i64 n] w fun e w' => e = .returned (.bool (Num.okB n)) ∧ w = w' := by
  by_cases h1 : -1000000000 ≤ n
  · by_cases h2 : n ≤ 1000000000
    · have e : Num.okB n = true := Num.okB_true.2 ⟨h1, h2⟩
      rw [e]
      go_enter Try.func84, Try.ntmps84
      go_wp2
      go_ret
      exact ⟨rfl, rfl⟩
    · have e : Num.okB n = false := Num.okB_false.2 (fun h => h2 h.2)
      rw [e]
      go_enter Try.func84, Try.ntmps84
      go_wp2
      go_ret
      exact ⟨rfl, rfl⟩
  · have e : Num.okB n = false := Num.okB_false.2 (fun h => h1 h.1)
    rw [e]
    go_enter Try.func84, Try.ntmps84
    go_wp2
    go_ret
    exact ⟨rfl, rfl⟩

theorem l1Right (n : Int) (w : World) : Calls Try.prog 55 #[.int .i64 n] w fun e w' => e = .returned (.bool (Num.okB n)) ∧ w = w' := by
  go_enter Try.func55, Try.ntmps55
  go_wp2_with (go_at_call 37; refine (l1In _ _ _ _).mono ?_; rintro e w' ⟨rfl, rfl⟩)
  go_ret
  exact ⟨rfl, rfl⟩

end Go.Proofs.Ythniakklkepomaa
