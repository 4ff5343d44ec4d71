/- The contracts of numOk (the program's) and of l1Right (the model's). -/
import Derived.Test.YtjakkpjkdboofaaIn
import Derived.Test.YtjakkpjkdboofaaNums
import Derived.Test.YtjakkpjkdboofaaMem
import Derived.WalkKit
import Derived.WalkSpells
import Derived.Lib.Hide
namespace Go.Proofs.Ytjakkpjkdboofaa
open Go.RowKit

end Go.Proofs.Ytjakkpjkdboofaa
