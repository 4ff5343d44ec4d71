/- The contracts of chapter 1's functions on plain integers: numOk, l1In, l1Right, ZigZag and ZagZig, of the program and of the model. -/
import Derived.Test.YtjakkpjkdboofaaRows
import Derived.Test.YtjakkpjkdboofaaNums
import Derived.Test.YtjakkpjkdboofaaMem
import Derived.Test.YtjakkpjkdboofaaNumOk
import Derived.WalkKit
import Derived.WalkSpells
import Derived.Lib.Hide
namespace Go.Proofs.Ytjakkpjkdboofaa
open Go.RowKit

theorem zag_odd {n : Int} (h0 : 0 ≤ n) (h : n ≤ 2000000000) (h1 : n % 2 = 1) : Num.zag n = wrap64 (-(n + 1).tdiv 2) := by
  unfold Num.zag; rw [if_pos ⟨h0, h⟩, if_pos h1, Int.tdiv_eq_ediv_of_nonneg (by omega), IntWalk.wrap64_in _ (by omega)]
theorem zag_even {n : Int} (h0 : 0 ≤ n) (h : n ≤ 2000000000) (h1 : ¬ n % 2 = 1) : Num.zag n = n / 2 := by
  unfold Num.zag; rw [if_pos ⟨h0, h⟩, if_neg h1]
theorem zag_no {n : Int} (h : ¬ (0 ≤ n ∧ n ≤ 2000000000)) : Num.zag n = 0 := by unfold Num.zag; rw [if_neg h]

end Go.Proofs.Ytjakkpjkdboofaa
