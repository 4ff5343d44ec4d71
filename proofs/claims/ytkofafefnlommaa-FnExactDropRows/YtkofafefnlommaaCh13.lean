/- Chapter 13's exact laws over slices, both sides at hand. -/
import Derived.Test.YtkofafefnlommaaLaw13
import Derived.Test.YtkofafefnlommaaLaw13f
import Derived.Test.YtkofafefnlommaaS13
import Derived.Test.YtkofafefnlommaaS13b
import Derived.Test.YtkofafefnlommaaI13
import Derived.Test.YtkofafefnlommaaI13b
import Derived.Test.YtkofafefnlommaaI13f
namespace Go.Proofs.Ytkofafefnlommaa
open Go.RowKit

end Go.Proofs.Ytkofafefnlommaa
