/- The contracts of impl's InDict (with slices.Index) and Picked. -/
import Derived.Test.YthniakklkepomaaLaw7
import Derived.Test.YthniakklkepomaaI5d
namespace Go.Proofs.Ythniakklkepomaa
open Go.RowKit

theorem eqB_comm (x y : V) : x.eqB y = y.eqB x := by
  cases h : y.eqB x with
  | true => exact eqB_true.2 (eqB_true.1 h).symm
  | false => exact eqB_false.2 (fun e => eqB_false.1 h e.symm)

end Go.Proofs.Ythniakklkepomaa
