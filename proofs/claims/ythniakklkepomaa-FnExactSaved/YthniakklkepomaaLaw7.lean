/- Chapter 7's exact laws, walked; the program's own contracts come as hypotheses. -/
import Derived.Test.YthniakklkepomaaS7g
import Derived.Test.YthniakklkepomaaBytes
import Derived.Test.YthniakklkepomaaInts
import Derived.Test.YthniakklkepomaaLaw5b
namespace Go.Proofs.Ythniakklkepomaa
open Go.RowKit

def CDict : Prop := ∀ (u : Value) (l : List V) (w : World), l.length ≤ 1048576 → (∀ v ∈ l, v.s.size ≤ maxLen) → Rd 3 w u l.length (vals l) → Calls Try.prog 62 #[u] w fun e w' => ∃ v', e = .returned v' ∧ Own 41 3 w.heap.size w'.heap.size w' v' (dictL l).length (vals (dictL l)) ∧ Below w.heap.size w w'
def CPlaces : Prop := ∀ (u v : Value) (d l : List V) (w : World), d.length ≤ 1048576 → l.length ≤ 1048576 → Rd 3 w u d.length (vals d) → Rd 3 w v l.length (vals l) → Calls Try.prog 63 #[u, v] w (Unpacked w (placesL d l))
def CEncDict : Prop := ∀ (u : Value) (l : List V) (w : World), l.length ≤ 1048576 → (∀ v ∈ l, v.s.size ≤ maxLen) → Rd 3 w u l.length (vals l) → Calls Try.prog 50 #[u] w fun e w' => ∃ v', e = .returned v' ∧ Own 5 1 w.heap.size w'.heap.size w' v' (encD l).length (ints .u8 (encD l)) ∧ Below w.heap.size w w'
theorem encD_len' (l : List V) : (encD l).length ≤ 1024 + l.length := by
  have := encD_len l
  omega

end Go.Proofs.Ythniakklkepomaa
