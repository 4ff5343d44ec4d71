/- The program's contracts of ValText and ParseVal and the walks of their laws, together. -/
import Derived.Test.YtfkmbcjhkfecfaaDoorLawVT
import Derived.Test.YtfkmbcjhkfecfaaDoorIValT
namespace Go.Proofs.YtfkmbcjhkfecfaaDoor
open Go.RowKit

theorem cValText : CValText := fun v w h ht => iValText v w h ht
theorem cParseVal : CParseVal := fun s w h ht hy => iParseVal s w h ht hy

end Go.Proofs.YtfkmbcjhkfecfaaDoor
