/- The exact laws of chapter 4 over single Rows, walked; the program's own contracts come as hypotheses. -/
import Derived.Test.YtkofafefnlommaaLaw4
namespace Go.Proofs.Ytkofafefnlommaa
open Go.RowKit

theorem R.of_own {e lo hi w v n} {r : R} (h : Own e 3 lo hi w v n (vals r.l)) (hn : r.l.length = n) : r.rd w v := by
  subst hn
  exact h.rd

end Go.Proofs.Ytkofafefnlommaa
