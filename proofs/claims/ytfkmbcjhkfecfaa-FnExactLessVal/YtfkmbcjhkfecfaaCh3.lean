/- The program's contracts of chapter 3 and the walks of its laws, together. -/
import Derived.Test.YtfkmbcjhkfecfaaLawV
import Derived.Test.YtfkmbcjhkfecfaaIVals
import Derived.Test.YtfkmbcjhkfecfaaIValOk
namespace Go.Proofs.Ytfkmbcjhkfecfaa
open Go.RowKit

theorem cValOk : CValOk := fun v w h => iValOk v w h
theorem cLessVal : CLessVal := fun a b w => iLessVal a b w
theorem cSameVals : CSameVals := fun u v n m l r w h1 h2 h3 h4 h5 h6 => iSameVals u v n m l r w h1 h2 h3 h4 h5 h6
theorem cNumsOf : CNumsOf := fun u n l w h1 h2 h3 => iNumsOf u n l w h1 h2 h3
theorem cTextsOf : CTextsOf := fun u n l w h1 h2 h3 => iTextsOf u n l w h1 h2 h3

end Go.Proofs.Ytfkmbcjhkfecfaa
