/- Texts of this claim, one behind the other: BitsI. -/
import Derived.WalkKit
import Derived.Laws.BitsAllLaws

/- The bitwise operators on int, where both operands are not negative. -/
namespace Go.Proofs.Ytkofafefnlommaa
open Go.RowKit

theorem i64_and_nat (a b : Nat) (ha : a < 9223372036854775808) (hb : b < 9223372036854775808) : bits .and .i64 (a : Int) (b : Int) = ((a &&& b : Nat) : Int) := by
  have hx : a &&& b < 2 ^ 63 := Nat.and_lt_two_pow _ (by omega)
  show IntKind.i64.wrap ((BitVec.ofInt 64 (a : Int) &&& BitVec.ofInt 64 (b : Int)).toNat : Int) = _
  rw [BitVec.toNat_and, ofInt_u64 a (by omega), ofInt_u64 b (by omega), IntWalk.i64_in _ (by omega)]
theorem i64_or_nat (a b : Nat) (ha : a < 9223372036854775808) (hb : b < 9223372036854775808) : bits .or .i64 (a : Int) (b : Int) = ((a ||| b : Nat) : Int) := by
  have hx : a ||| b < 2 ^ 63 := Nat.or_lt_two_pow (by omega) (by omega)
  show IntKind.i64.wrap ((BitVec.ofInt 64 (a : Int) ||| BitVec.ofInt 64 (b : Int)).toNat : Int) = _
  rw [BitVec.toNat_or, ofInt_u64 a (by omega), ofInt_u64 b (by omega), IntWalk.i64_in _ (by omega)]
theorem and_mask (c : Int) (i : Nat) (hi : i < 63) (h0 : 0 ≤ c) (h1 : c < 9223372036854775808) : bits .and .i64 c ((2 ^ i - 1 : Nat) : Int) = c % (2 ^ i : Nat) := by
  obtain ⟨a, rfl⟩ := Int.eq_ofNat_of_zero_le h0
  have h2 : (2 : Nat) ^ i < 2 ^ 63 := Nat.pow_lt_pow_right (by omega) hi
  rw [i64_and_nat a _ (by omega) (by omega), Nat.and_two_pow_sub_one_eq_mod]
  omega
theorem and127 (c : Int) (h0 : 0 ≤ c) (h1 : c < 9223372036854775808) : bits .and .i64 c 127 = c % 128 := and_mask c 7 (by omega) h0 h1
theorem or_join (x y : Int) (i : Nat) (hx0 : 0 ≤ x) (hx1 : x < (2 ^ i : Nat)) (hy0 : 0 ≤ y) (hy1 : y * (2 ^ i : Nat) < 9223372036854775808) (hx2 : x < 9223372036854775808) : bits .or .i64 x (y * (2 ^ i : Nat)) = x + y * (2 ^ i : Nat) := by
  obtain ⟨a, rfl⟩ := Int.eq_ofNat_of_zero_le hx0
  obtain ⟨b, rfl⟩ := Int.eq_ofNat_of_zero_le hy0
  rw [← Int.natCast_mul, i64_or_nat a _ (by omega) (by omega), Nat.or_comm, nat_join i _ _ (Nat.mul_mod_left _ _) (by omega)]
  omega

end Go.Proofs.Ytkofafefnlommaa
