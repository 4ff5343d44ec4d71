/- What the rows' lists of library variables give: the table of powers of ten, and the sentinel ErrSyntax. -/
import Derived.Test.YtfkmbcjhkfecfaaDoorDNum
import Derived.Lib.LaidTab
import Derived.Stop.LaidErr
namespace Go.Proofs.YtfkmbcjhkfecfaaDoor
open Go.RowKit

theorem gTab : Tryd.prog.globalNamed "internal/strconv.uint64pow10" = some 2 := by kernel_rfl
theorem gTabType : (Tryd.prog.globals[2]?).map (·.type) = some 73 := by kernel_rfl
theorem tab_of {W : World} {a b : String × DataW Unit} {rest : List (String × DataW Unit)} (h : laidMet Tryd.prog (a :: b :: ("internal/strconv.uint64pow10", Rows.laid_internal_strconv_uint64pow10) :: rest) W) : Tab W :=
  Lib.tabIs_of_head (rest := rest) gTab gTabType Tryd.underlying73 Tryd.underlying59 (by kernel_rfl) (by kernel_rfl) h.tail.tail

end Go.Proofs.YtfkmbcjhkfecfaaDoor
