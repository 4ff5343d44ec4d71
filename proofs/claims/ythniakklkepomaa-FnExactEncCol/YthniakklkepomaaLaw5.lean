/- The exact law of TypeOf, walked; the program's own contract comes as a hypothesis. -/
import Derived.Test.YthniakklkepomaaS5
namespace Go.Proofs.Ythniakklkepomaa
open Go.RowKit

def CTypeOf : Prop := ∀ (v : Value) (l : List V) (w : World), l.length ≤ 1048576 → (∀ v ∈ l, v.s.size ≤ maxLen) → Rd 3 w v l.length (vals l) → Calls Try.prog 53 #[v] w fun e w' => e = .returned (.int .i64 (typeV l)) ∧ Below w.heap.size w w'

end Go.Proofs.Ythniakklkepomaa
