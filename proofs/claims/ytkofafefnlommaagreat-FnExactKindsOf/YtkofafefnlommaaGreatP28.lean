/- Texts of this claim, one behind the other: Law9. -/
import Derived.Test.YtkofafefnlommaaGreatP27
import Derived.Test.YtkofafefnlommaaGreatP4

/- Chapter 9's exact laws but DecCol's, walked; the program's own contracts come as hypotheses. -/
namespace Go.Proofs.YtkofafefnlommaaGreat
open Go.RowKit

def CBestKind : Prop := ∀ (u : Value) (l : List V) (w : World), l.length ≤ 1048576 → (∀ v ∈ l, v.s.size ≤ maxLen) → Rd 3 w u l.length (vals l) → Calls Tryz.prog 55 #[u] w fun e w' => e = .returned (.int .i64 (bestL l)) ∧ Below w.heap.size w w'
def CEncCol : Prop := ∀ (u : Value) (l : List V) (w : World), l.length ≤ 1048576 → (∀ v ∈ l, v.s.size ≤ maxLen) → Rd 3 w u l.length (vals l) → Calls Tryz.prog 39 #[u] w fun e w' => ∃ v', e = .returned v' ∧ Own 5 1 w.heap.size w'.heap.size w' v' (encC l).length (ints .u8 (encC l)) ∧ Below w.heap.size w w'
end Go.Proofs.YtkofafefnlommaaGreat
