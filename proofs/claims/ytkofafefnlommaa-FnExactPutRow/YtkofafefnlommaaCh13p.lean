/- PutRow's exact law, both sides at hand. -/
import Derived.Test.YtkofafefnlommaaLaw13p
import Derived.Test.YtkofafefnlommaaS13p
import Derived.Test.YtkofafefnlommaaI13q
namespace Go.Proofs.Ytkofafefnlommaa
open Go.RowKit

end Go.Proofs.Ytkofafefnlommaa
