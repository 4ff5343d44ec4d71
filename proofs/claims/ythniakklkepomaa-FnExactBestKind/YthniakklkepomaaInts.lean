/- The contracts of the laws' own helpers over []int: toIntS, eqIntS, markIntS, heldIntS. -/
import Derived.Test.YthniakklkepomaaMem
namespace Go.Proofs.Ythniakklkepomaa
open Go.RowKit

theorem Try.info3 : (Try.prog.info? 3).map (fun i => (i.zero, i.size, i.bytes)) = some (some (.int .i64 0), 1, 8) := by kernel_rfl

end Go.Proofs.Ythniakklkepomaa
