/- Chapter 8's exact laws, walked; the program's own contracts come as hypotheses. -/
import Derived.Test.YthniakklkepomaaS8d
import Derived.Test.YthniakklkepomaaBytes
import Derived.Test.YthniakklkepomaaInts
import Derived.Test.YthniakklkepomaaLaw5b
namespace Go.Proofs.Ythniakklkepomaa
open Go.RowKit

def CBase : Prop := ∀ (u : Value) (l : List V) (w : World), l.length ≤ 1048576 → (∀ v ∈ l, v.s.size ≤ maxLen) → Rd 3 w u l.length (vals l) → Calls Try.prog 68 #[u] w fun e w' => e = .returned (.int .i64 (baseL l)) ∧ Below w.heap.size w w'
def COffsets : Prop := ∀ (u : Value) (l : List V) (w : World), l.length ≤ 1048576 → (∀ v ∈ l, v.s.size ≤ maxLen) → Rd 3 w u l.length (vals l) → Calls Try.prog 66 #[u] w fun e w' => ∃ v', e = .returned v' ∧ Own 3 1 w.heap.size w'.heap.size w' v' (offL l).length (ints .i64 (offL l)) ∧ Below w.heap.size w w'
def CEncFrame : Prop := ∀ (u : Value) (l : List V) (w : World), l.length ≤ 1048576 → (∀ v ∈ l, v.s.size ≤ maxLen) → Rd 3 w u l.length (vals l) → Calls Try.prog 51 #[u] w fun e w' => ∃ v', e = .returned v' ∧ Own 5 1 w.heap.size w'.heap.size w' v' (encF l).length (ints .u8 (encF l)) ∧ Below w.heap.size w w'
theorem encF_len' (l : List V) : (encF l).length ≤ 1024 + l.length := by
  have := encF_len l
  omega
theorem sBaseB (u : Value) (l : List V) (w : World) (h : Rd 3 w u l.length (vals l)) :
    Calls Try.prog 48 #[u] w fun e w' => e = .returned (.int .i64 (baseL l)) ∧ Below w.heap.size w w' := by
  refine (sBase u l w h).mono ?_
  rintro e w' ⟨rfl, rfl⟩
  exact ⟨rfl, Below.refl _ _⟩

end Go.Proofs.Ythniakklkepomaa
