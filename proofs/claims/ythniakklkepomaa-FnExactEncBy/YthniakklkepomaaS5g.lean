/- The contract of the model's GetVal. -/
import Derived.Test.YthniakklkepomaaS5
import Derived.Test.YthniakklkepomaaSGet
import Derived.Test.YthniakklkepomaaHeldV
import Derived.Test.YthniakklkepomaaOpLaw
import Derived.Laws.BytesArg
namespace Go.Proofs.Ythniakklkepomaa
open Go.RowKit

/-- GetVal. -/
def getT (zs : List Int) (i : Nat) : V × Int × Bool :=
  if (zs.getD i 0) ≤ (zs.length : Int) - i - 1 ∧ okV ⟨2, 0, strOfNums ((zs.drop (i + 1)).take (zs.getD i 0).toNat)⟩ = true then (⟨2, 0, strOfNums ((zs.drop (i + 1)).take (zs.getD i 0).toNat)⟩, (i : Int) + 1 + zs.getD i 0, true) else (V.zero, 0, false)
def getV (zs : List Int) (i ty : Int) : V × Int × Bool :=
  if ty = 1 then (if (Num.get zs i).2.2 = true then (⟨1, (Num.get zs i).1, ⟨#[]⟩⟩, (Num.get zs i).2.1, true) else (V.zero, 0, false))
  else if ty = 2 ∧ Num.inB i 0 ((zs.length : Int) - 1) = true then getT zs i.toNat else (V.zero, 0, false)
/-- What GetVal returns. -/
def rGet (r : V × Int × Bool) : Value := .tuple #[r.1.agg, .int .i64 r.2.1, .bool r.2.2]

end Go.Proofs.Ythniakklkepomaa
