/- The contract of math/bits.Len below 2^31: it returns the number of binary digits. The library's own text is walked. -/
import Derived.Test.YthniakklkepomaaSBits
import Derived.Lib.Strings
import Derived.Lib.Slices
import Derived.Lib.Small
import Derived.Lib.Walk
import Derived.Lib.BitFns
namespace Go.Proofs.Ythniakklkepomaa
open Go.RowKit

theorem bitLen_width (x : Nat) (h : x < 2 ^ 64) : Lib.bitLen x = Bit.width x := by
  induction x using Nat.strongRecOn with
  | _ x ih =>
    by_cases h0 : x = 0
    · subst h0
      rw [Bit.width_zero]
      rfl
    · rw [Lib.bitLen_half x h0 h, Bit.width_pos (by omega), ih (x / 2) (by omega) (by omega), Nat.add_comm]

theorem len8_width (i : Int) (h0 : 0 ≤ i) (h1 : i ≤ 255) : Lib.len8 i = ((Bit.width i.toNat : Nat) : Int) := by
  rw [Lib.len8_of i h0 h1, bitLen_width _ (by omega)]
theorem width_shift (k x : Nat) (h : 2 ^ k ≤ x) (hx : x < 2 ^ 64) : Bit.width x = k + Bit.width (x / 2 ^ k) := by
  have h2 : x / 2 ^ k ≤ x := Nat.div_le_self _ _
  rw [← bitLen_width x hx, ← bitLen_width (x / 2 ^ k) (by omega)]
  exact Lib.bitLen_shift k x h hx
theorem width8 (i : Int) (h0 : 0 ≤ i) (h1 : i ≤ 255) : Bit.width i.toNat ≤ 8 := (Bit.width_le _ 8).2 (by omega)

set_option maxHeartbeats 1000000 in
set_option maxRecDepth 100000 in
theorem bitsLen64 (x : Int) (w : World) (h0 : 0 ≤ x) (h1 : x ≤ 2147483647) :
    Calls Try.prog 102 #[.int .u64 x] w fun e w' => e = .returned (.int .i64 (Bit.width x.toNat)) ∧ w = w' := by
  have c0 : x < 4294967296 := by omega
  by_cases c1 : x < 65536
  · by_cases c2 : x < 256
    · have c3 : x ≤ 255 := by omega
      have H8 := Lib.hid (len8_width x h0 c3)
      have L8 := width8 x h0 c3
      go_enter Try.func102, Try.ntmps102
      go_wp2
      go_ret
      exact ⟨ret_int (by rw [H8.out]; unfold wrap64; omega), rfl⟩
    · have c3 : 0 ≤ x / 256 := by omega
      have c4 : x / 256 ≤ 255 := by omega
      have H8 := Lib.hid (len8_width (x / 256) c3 c4)
      have L8 := width8 (x / 256) c3 c4
      have HS := Lib.hid (width_shift 8 x.toNat (by omega) (by omega))
      have HT : Hid ((x / 256).toNat = x.toNat / 2 ^ 8) := (by omega : (x / 256).toNat = x.toNat / 2 ^ 8)
      go_enter Try.func102, Try.ntmps102
      go_wp2
      go_ret
      exact ⟨ret_int (by rw [H8.out, HS.out, ← HT.out]; unfold wrap64; omega), rfl⟩
  · by_cases c2 : x / 65536 < 256
    · have c3 : 0 ≤ x / 65536 := by omega
      have c4 : x / 65536 ≤ 255 := by omega
      have H8 := Lib.hid (len8_width (x / 65536) c3 c4)
      have L8 := width8 (x / 65536) c3 c4
      have HS := Lib.hid (width_shift 16 x.toNat (by omega) (by omega))
      have HT : Hid ((x / 65536).toNat = x.toNat / 2 ^ 16) := (by omega : (x / 65536).toNat = x.toNat / 2 ^ 16)
      go_enter Try.func102, Try.ntmps102
      go_wp2
      go_ret
      exact ⟨ret_int (by rw [H8.out, HS.out, ← HT.out]; unfold wrap64; omega), rfl⟩
    · have c3 : 0 ≤ x / 65536 / 256 := by omega
      have c4 : x / 65536 / 256 ≤ 255 := by omega
      have H8 := Lib.hid (len8_width (x / 65536 / 256) c3 c4)
      have L8 := width8 (x / 65536 / 256) c3 c4
      have HS := Lib.hid (width_shift 24 x.toNat (by omega) (by omega))
      have HT : Hid ((x / 65536 / 256).toNat = x.toNat / 2 ^ 24) := (by omega : (x / 65536 / 256).toNat = x.toNat / 2 ^ 24)
      go_enter Try.func102, Try.ntmps102
      go_wp2
      go_ret
      exact ⟨ret_int (by rw [H8.out, HS.out, ← HT.out]; unfold wrap64; omega), rfl⟩

theorem bitsLen (x : Int) (w : World) (h0 : 0 ≤ x) (h1 : x ≤ 2147483647) :
    Calls Try.prog 88 #[.int .u64 x] w fun e w' => e = .returned (.int .i64 (Bit.width x.toNat)) ∧ w = w' := by
  go_enter Try.func88, Try.ntmps88
  go_wp2_with (go_at_call 102; refine (bitsLen64 x _ h0 h1).mono ?_; rintro e w' ⟨rfl, rfl⟩)
  go_ret
  exact ⟨rfl, rfl⟩

end Go.Proofs.Ythniakklkepomaa
