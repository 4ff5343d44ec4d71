/- Chapter 6's exact laws, walked; the program's own contracts come as hypotheses. -/
import Derived.Test.YthniakklkepomaaS6d
import Derived.Test.YthniakklkepomaaBytes
namespace Go.Proofs.Ythniakklkepomaa
open Go.RowKit

def CRuns : Prop := ∀ (u : Value) (l : List V) (w : World), l.length ≤ 1048576 → (∀ v ∈ l, v.s.size ≤ maxLen) → Rd 3 w u l.length (vals l) → Calls Try.prog 60 #[u] w fun e w' => ∃ v', e = .returned v' ∧ Own 57 4 w.heap.size w'.heap.size w' v' (runsL l).length (rus (runsL l)) ∧ Below w.heap.size w w'
def CEncRuns : Prop := ∀ (u : Value) (l : List V) (w : World), l.length ≤ 1048576 → (∀ v ∈ l, v.s.size ≤ maxLen) → Rd 3 w u l.length (vals l) → Calls Try.prog 49 #[u] w fun e w' => ∃ v', e = .returned v' ∧ Own 5 1 w.heap.size w'.heap.size w' v' (encR l).length (ints .u8 (encR l)) ∧ Below w.heap.size w w'
theorem encR_len' (l : List V) : (encR l).length ≤ 773 + l.length := by
  have := encR_len l
  omega

end Go.Proofs.Ythniakklkepomaa
