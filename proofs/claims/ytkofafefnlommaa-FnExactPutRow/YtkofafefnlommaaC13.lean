/- Chapter 13: the contracts of RowsOk, DropRows, FindRow, for either side. -/
import Derived.Test.YtkofafefnlommaaM13
import Derived.Test.YtkofafefnlommaaRowsA
import Derived.Test.YtkofafefnlommaaInts
namespace Go.Proofs.Ytkofafefnlommaa
open Go.RowKit

def CRowsOk (f : Nat) : Prop := ∀ (u v : Value) (zs : List Int) (ps : List P) (ls : List R) (w : World), zs.length ≤ 1048576 → Rd 1 w u zs.length (ints .i64 zs) → (∀ p ∈ ps, ∀ v ∈ p.1.l, v.s.size ≤ maxLen) → ps.length ≤ 1048576 → (∀ p ∈ ps, p.1.l.length ≤ 1048576) → RdRs w v ps → ps.map (·.1) = ls →
  Calls Try.prog f #[u, v] w fun e w' => e = .returned (.bool (rowsOkL zs ls)) ∧ Below w.heap.size w w'
def CDropRows (f : Nat) : Prop := ∀ (v u : Value) (zs : List Int) (ps : List P) (ls : List R) (w : World), zs.length ≤ 1048576 → Rd 1 w u zs.length (ints .i64 zs) → ps.length ≤ 1048576 → (∀ p ∈ ps, p.1.l.length ≤ 1048576) → RdRsN w v ps → ps.map (·.1) = ls →
  Calls Try.prog f #[v, u] w fun e w' => ∃ v', e = .returned v' ∧ ∃ qs, MyRs w.heap.size w'.heap.size w' v' qs ∧ qs.map (·.1) = dropL ls zs ∧ Below w.heap.size w w'
def CFindRow (f : Nat) : Prop := ∀ (v : Value) (n : Int) (ps : List P) (ls : List R) (w : World), ps.length ≤ 1048576 → (∀ p ∈ ps, p.1.l.length ≤ 1048576) → RdRsN w v ps → ps.map (·.1) = ls →
  Calls Try.prog f #[v, .int .i64 n] w fun e w' => ∃ u, e = .returned (.tuple #[((findL ls n).getD R.zero).agg u, .bool (findL ls n).isSome]) ∧ OwnV w.heap.size w'.heap.size w' u ((findL ls n).getD R.zero).l ∧ Below w.heap.size w w'


end Go.Proofs.Ytkofafefnlommaa
