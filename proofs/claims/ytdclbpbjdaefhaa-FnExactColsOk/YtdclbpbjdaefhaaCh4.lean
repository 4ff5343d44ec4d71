/- The program's contracts of chapter 4 (but its text) and the walks of its laws, together. -/
import Derived.Test.YtdclbpbjdaefhaaLaw4
import Derived.Test.YtdclbpbjdaefhaaLaw4b
import Derived.Test.YtdclbpbjdaefhaaI4
import Derived.Test.YtdclbpbjdaefhaaI4b
import Derived.Test.YtdclbpbjdaefhaaIFit2
