/- The contract of the model's l1In. -/
import Derived.Test.YtkofafefnlommaaRows
import Derived.Test.YtkofafefnlommaaNums
import Derived.Test.YtkofafefnlommaaMem
import Derived.WalkKit
import Derived.WalkSpells
import Derived.Lib.Hide
import Derived.OpenShut
namespace Go.Proofs.Ytkofafefnlommaa
open Go.RowKit

theorem bytes_of_wf {zs : List Int} (h : ∀ n ∈ zs, (Lit.int .u8 n).wf = true) : Num.Bytes zs := fun x hx => bounds_u8 (h x hx)

theorem l1In (x a b : Int) (w : World) : Calls Try.prog 71 #[.int .i64 x, .int .i64 a, .int .i64 b] w fun e w' => e = .returned (.bool (Num.inB x a b)) ∧ w = w' := by
  by_cases h1 : a ≤ x
  · by_cases h2 : x ≤ b
    · rw [Num.inB_true.2 ⟨h1, h2⟩]
      go_enter Try.func71, Try.ntmps71
      go_wp2
      go_ret
      exact ⟨rfl, rfl⟩
    · rw [Num.inB_false.2 (fun h => h2 h.2)]
      go_enter Try.func71, Try.ntmps71
      go_wp2
      go_ret
      exact ⟨rfl, rfl⟩
  · rw [Num.inB_false.2 (fun h => h1 h.1)]
    go_enter Try.func71, Try.ntmps71
    go_wp2
    go_ret
    exact ⟨rfl, rfl⟩

end Go.Proofs.Ytkofafefnlommaa
