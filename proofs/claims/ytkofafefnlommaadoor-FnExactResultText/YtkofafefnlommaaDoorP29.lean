/- Texts of this claim, one behind the other: DSyn. -/
import Derived.Test.YtkofafefnlommaaDoorP27
import Derived.Test.YtkofafefnlommaaDoorP28
import Derived.Stop.LaidErr

/- The library's sentinel ErrSyntax: where the rows lay it, and that it stays. -/
namespace Go.Proofs.YtkofafefnlommaaDoor
open Go.RowKit

theorem starErr : "*" ++ "errors.errorString" = "*errors.errorString" := by decide
end Go.Proofs.YtkofafefnlommaaDoor
