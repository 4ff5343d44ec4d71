/- The contract of the model's DecFrame. -/
import Derived.Test.YthniakklkepomaaS8r
import Derived.Test.YthniakklkepomaaCut
namespace Go.Proofs.Ythniakklkepomaa
open Go.RowKit

end Go.Proofs.Ythniakklkepomaa
