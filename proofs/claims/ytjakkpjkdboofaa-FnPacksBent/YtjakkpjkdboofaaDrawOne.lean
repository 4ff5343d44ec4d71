/- The contracts of l1Raw, l1Num, l1One. -/
import Derived.Test.YtjakkpjkdboofaaDrawInt
namespace Go.Proofs.Ytjakkpjkdboofaa
open Go.RowKit

/-- From a new cursor on: what was there before is untouched. -/
theorem below_cur {w w1 w2 : World} (hb : Below w.heap.size w w1) (hg : w1.grownBy w2 (some w.heap.size)) : Below w.heap.size w w2 :=
  hb.grown hg hb.size (by simp)

end Go.Proofs.Ytjakkpjkdboofaa
