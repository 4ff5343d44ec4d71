/- Texts of this claim, one behind the other: DTab. -/
import Derived.Test.YtkofafefnlommaaDoorP26
import Derived.Lib.LaidTab
import Derived.Stop.LaidErr

/- What the rows' lists of library variables give: the table of powers of ten, and the sentinel ErrSyntax. -/
namespace Go.Proofs.YtkofafefnlommaaDoor
open Go.RowKit

theorem gTab : Tryd.prog.globalNamed "internal/strconv.uint64pow10" = some 0 := by kernel_rfl
theorem gTabType : (Tryd.prog.globals[0]?).map (·.type) = some 171 := by kernel_rfl
theorem tab_of {W : World} {a b : String × DataW Unit} {rest : List (String × DataW Unit)} (h : laidMet Tryd.prog (a :: b :: ("internal/strconv.uint64pow10", Rows.laid_internal_strconv_uint64pow10) :: rest) W) : Tab W :=
  Lib.tabIs_of_head (rest := rest) gTab gTabType Tryd.underlying171 Tryd.underlying163 (by kernel_rfl) (by kernel_rfl) h.tail.tail

end Go.Proofs.YtkofafefnlommaaDoor
