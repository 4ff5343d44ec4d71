/- The contracts of impl's WidthOf, WidthFor, widthOk, packOk, packedBytes, BytesFor, BitAt, allWithin, zeroFrom. -/
import Derived.Test.YtoidpibdjijamaaSUnpack
import Derived.Test.YtoidpibdjijamaaILen
namespace Go.Proofs.Ytoidpibdjijamaa
open Go.RowKit

theorem iWidthOf (n : Int) (w : World) : Calls Try.prog 81 #[.int .i64 n] w fun e w' => e = .returned (.int .i64 (Bit.widthI n)) ∧ w = w' := by
  by_cases hlo : n < 0
  · have HW : Hid (Bit.widthI n = 0) := if_neg (by omega)
    go_enter Try.func81, Try.ntmps81
    go_wp2
    go_ret
    exact ⟨ret_int (by rw [HW.out]; rfl), rfl⟩
  · have h0 : 0 ≤ n := by omega
    by_cases hhi : 2147483647 < n
    · have HW : Hid (Bit.widthI n = 0) := if_neg (by omega)
      go_enter Try.func81, Try.ntmps81
      go_wp2
      go_ret
      exact ⟨ret_int (by rw [HW.out]; rfl), rfl⟩
    · have h1 : n ≤ 2147483647 := by omega
      have HW : Hid (Bit.widthI n = Bit.width n.toNat) := if_pos ⟨h0, h1⟩
      go_enter Try.func81, Try.ntmps81
      go_wp2_with (go_at_call 75; refine (bitsLen n _ h0 h1).mono ?_; rintro e w' ⟨rfl, rfl⟩)
      go_ret
      exact ⟨ret_int (by rw [HW.out]), rfl⟩

def wokB (v : Int) : Bool := decide (0 ≤ v ∧ v ≤ 31)
theorem iWidthOk (v : Int) (w : World) : Calls Try.prog 78 #[.int .i64 v] w fun e w' => e = .returned (.bool (wokB v)) ∧ w = w' := by
  by_cases h0 : 0 ≤ v
  · by_cases h1 : v ≤ 31
    · have HB : Hid (wokB v = true) := decide_eq_true ⟨h0, h1⟩
      go_enter Try.func78, Try.ntmps78
      go_wp2
      go_ret
      exact ⟨ret_bool (by rw [HB.out]; try rfl), rfl⟩
    · have HB : Hid (wokB v = false) := decide_eq_false (fun h => h1 h.2)
      go_enter Try.func78, Try.ntmps78
      go_wp2
      go_ret
      exact ⟨ret_bool (by rw [HB.out]; try rfl), rfl⟩
  · have HB : Hid (wokB v = false) := decide_eq_false (fun h => h0 h.1)
    go_enter Try.func78, Try.ntmps78
    go_wp2
    go_ret
    exact ⟨ret_bool (by rw [HB.out]; try rfl), rfl⟩

def pokB (k v : Int) : Bool := decide ((0 ≤ k ∧ k ≤ 64) ∧ 0 ≤ v ∧ v ≤ 31)
theorem iPackOk (k v : Int) (w : World) : Calls Try.prog 93 #[.int .i64 k, .int .i64 v] w fun e w' => e = .returned (.bool (pokB k v)) ∧ w = w' := by
  by_cases h0 : 0 ≤ k
  · by_cases h1 : k ≤ 64
    · have HB : Hid (pokB k v = wokB v) := by
        show pokB k v = wokB v
        unfold pokB wokB
        simp [h0, h1]
      go_enter Try.func93, Try.ntmps93
      go_wp2_with (go_at_call 78; refine (iWidthOk v _).mono ?_; rintro e w' ⟨rfl, rfl⟩)
      go_ret
      exact ⟨ret_bool (by rw [HB.out]; try rfl), rfl⟩
    · have HB : Hid (pokB k v = false) := decide_eq_false (fun h => h1 h.1.2)
      go_enter Try.func93, Try.ntmps93
      go_wp2_with (go_at_call 78; refine (iWidthOk v _).mono ?_; rintro e w' ⟨rfl, rfl⟩)
      go_ret
      exact ⟨ret_bool (by rw [HB.out]; try rfl), rfl⟩
  · have HB : Hid (pokB k v = false) := decide_eq_false (fun h => h0 h.1.1)
    go_enter Try.func93, Try.ntmps93
    go_wp2_with (go_at_call 78; refine (iWidthOk v _).mono ?_; rintro e w' ⟨rfl, rfl⟩)
    go_ret
    exact ⟨ret_bool (by rw [HB.out]; try rfl), rfl⟩

theorem iPackedBytes (a b : Nat) (w : World) (ha : a ≤ 1073741824) (hb : b ≤ 31) :
    Calls Try.prog 80 #[.int .i64 a, .int .i64 b] w fun e w' => e = .returned (.int .i64 ((a * b + 7) / 8 : Nat)) ∧ w = w' := by
  have hm : a * b ≤ 1073741824 * 31 := Nat.mul_le_mul ha hb
  have hmi : (a : Int) * (b : Int) = ((a * b : Nat) : Int) := by simp
  generalize a * b = m at hm hmi
  go_enter Try.func80, Try.ntmps80
  go_wp2
  go_ret
  exact ⟨ret_int (by first | omega | (rw [hmi]; omega)), rfl⟩

theorem u8_table : ∀ z : Fin 256, bits .and .u8 (z.val : Int) 1 = ((z.val % 2 : Nat) : Int) := by decide +kernel
theorem u8_and_one {z : Nat} (h : z < 256) : bits .and .u8 (z : Int) 1 = ((z % 2 : Nat) : Int) := u8_table ⟨z, h⟩
theorem u8_shr_and {z k : Nat} (h : z ≤ 255) : bits .and .u8 ((z : Int) / 2 ^ k) 1 = ((z / 2 ^ k % 2 : Nat) : Int) := by
  have e : (z : Int) / 2 ^ k = ((z / 2 ^ k : Nat) : Int) := by simp
  rw [e, u8_and_one (Nat.lt_of_le_of_lt (Nat.div_le_self _ _) (by omega))]

set_option maxHeartbeats 400000 in
theorem iBitAt (u : Value) (m : Nat) (zs : List Int) (n : Int) (w : World) (h0 : -9223372036854775808 ≤ n) (h1 : n ≤ 9223372036854775807) (hm : zs.length = m) (hb : Num.Bytes zs) (hl : AtN 1 w u m (ints .u8 zs)) :
    Calls Try.prog 95 #[u, .int .i64 n] w fun e w' => e = .returned (.int .i64 (Bit.bitAt zs n)) ∧ w = w' := by
  obtain ⟨a, len, cap, rfl, hle, hc⟩ : ∃ a len cap, u = .slice a len cap ∧ len = m ∧ len ≤ 9223372036854775807 ∧ ∀ i, i < m → ∃ b off, a = some ⟨b, off, none⟩ ∧ w.cell? ⟨b, off + i, none⟩ = some (.int .u8 (zs.getD i 0)) := by
    rcases hl with ⟨rfl, rfl, _⟩ | ⟨b, off, cap, rfl, h1, h2, h3, hc⟩
    · exact ⟨_, _, _, rfl, rfl, by omega, fun i hi => by omega⟩
    · unfold maxLen at h2
      exact ⟨_, _, _, rfl, rfl, by omega, fun i hi => ⟨b, off, rfl, At.cell hc hm hi⟩⟩
  subst hle
  by_cases hneg : n < 0
  · have HB : Hid (Bit.bitAt zs n = 0) := if_pos hneg
    go_enter Try.func95, Try.ntmps95
    go_wp2
    go_ret
    exact ⟨ret_int HB.out.symm, rfl⟩
  · obtain ⟨k, rfl⟩ := Int.eq_ofNat_of_zero_le (by omega : 0 ≤ n)
    by_cases hin : k / 8 < len
    · obtain ⟨b, off, rfl, hcx⟩ := hc.2 (k / 8) hin
      have HB := Lib.hid (Bit.bitAt_in hb (k := k) (by rw [hm]; exact hin))
      have hz := hb (zs.getD (k / 8) 0) (by simp [hm, hin])
      generalize zs.getD (k / 8) 0 = z at hcx HB hz
      obtain ⟨z, rfl⟩ := Int.eq_ofNat_of_zero_le hz.1
      have hz2 : z ≤ 255 := by omega
      have hl2 := hc.1
      clear hc hz hb hm hl
      go_enter Try.func95, Try.ntmps95
      go_wp2
      go_ret
      exact ⟨ret_int (by rw [HB.out, u8_shr_and hz2]; unfold wrap64; simp only [Int.toNat_natCast]; omega), rfl⟩
    · have HB := Lib.hid (Bit.bitAt_out hb (k := k) (by rw [hm]; exact hin))
      have hl2 := hc.1
      clear hc hb hm hl
      go_enter Try.func95, Try.ntmps95
      go_wp2
      go_ret
      exact ⟨ret_int HB.out.symm, rfl⟩

end Go.Proofs.Ytoidpibdjijamaa
