/- The contract of the model's UnpackBits. -/
import Derived.Test.YthniakklkepomaaSPack
namespace Go.Proofs.Ythniakklkepomaa
open Go.RowKit

/-- What UnpackBits returns. -/
def Unpacked (w : World) (r : List Int × Bool) (e : Ending) (w' : World) : Prop :=
  ∃ v', e = .returned (.tuple #[v', .bool r.2]) ∧ Own 3 1 w.heap.size w'.heap.size w' v' r.1.length (ints .i64 r.1) ∧ Below w.heap.size w w'

theorem unpack_no {zs : List Int} {v k : Int} (h : ¬ ((0 ≤ k ∧ k ≤ 64) ∧ (0 ≤ v ∧ v ≤ 31) ∧ zs.length = (k.toNat * v.toNat + 7) / 8)) : Bit.unpack zs v k = ([], false) := by
  unfold Bit.unpack
  exact if_neg (fun ⟨h1, h2, h3, _⟩ => h ⟨h1, h2, h3⟩)

theorem or_on {X q : Nat} (h : X < 2 ^ q) (hq : q < 31) : bits .or .i64 (X : Int) (wrap64 (2 ^ q)) = ((X + 2 ^ q * 1 : Nat) : Int) := by
  have h2 : 2 ^ q ≤ 2 ^ 30 := Nat.pow_le_pow_right (by omega) (by omega)
  have e : wrap64 ((2 : Int) ^ q) = ((2 ^ q : Nat) : Int) := by
    have e2 : ((2 ^ q : Nat) : Int) = (2 : Int) ^ q := by simp
    rw [← e2]
    unfold wrap64
    omega
  have e3 := Nat.two_pow_add_eq_or_of_lt h 1
  rw [e, i64_or_nat X (2 ^ q) (by omega) (by omega), Nat.or_comm]
  rw [Nat.mul_one] at e3 ⊢
  rw [← e3, Nat.add_comm]
theorem or_off {X : Nat} (h : X < 9223372036854775808) : bits .or .i64 (X : Int) 0 = (X : Int) := by
  have := i64_or_nat X 0 h (by omega)
  rw [Nat.or_zero] at this
  exact this

end Go.Proofs.Ythniakklkepomaa
