/- The contract of PutRow, for either side (written by mk_S13p.py). -/
import Derived.Test.YtkofafefnlommaaM13
import Derived.Test.YtkofafefnlommaaRowsJ
import Derived.Test.YtkofafefnlommaaInts
namespace Go.Proofs.Ytkofafefnlommaa
open Go.RowKit

def CPutRow (f : Nat) : Prop := ∀ (v u : Value) (r : R) (ps : List P) (ls : List R) (w : World), ps.length ≤ 1048576 → (∀ p ∈ ps, p.1.l.length ≤ 1048576) → At 2 w v ps.length (prs ps) → (∀ p ∈ ps, AtN 3 w p.2 p.1.l.length (vals p.1.l)) → r.l.length ≤ 1048576 → AtN 3 w u r.l.length (vals r.l) → ps.map (·.1) = ls →
  Calls Try.prog f #[v, r.agg u] w fun e w' => ∃ v', e = .returned v' ∧ ∃ qs, MyRs w.heap.size w'.heap.size w' v' qs ∧ qs.map (·.1) = putL ls r ∧ Below w.heap.size w w'

end Go.Proofs.Ytkofafefnlommaa
