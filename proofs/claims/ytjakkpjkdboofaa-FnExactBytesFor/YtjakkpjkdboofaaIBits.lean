/- The contracts of impl's WidthOf, WidthFor, widthOk, packOk, packedBytes, BytesFor, BitAt, allWithin, zeroFrom. -/
import Derived.Test.YtjakkpjkdboofaaSUnpack
import Derived.Test.YtjakkpjkdboofaaILen
namespace Go.Proofs.Ytjakkpjkdboofaa
open Go.RowKit

theorem iWidthOf (n : Int) (w : World) : Calls Try.prog 18 #[.int .i64 n] w fun e w' => e = .returned (.int .i64 (Bit.widthI n)) ∧ w = w' := by
  by_cases hlo : n < 0
  · have HW : Hid (Bit.widthI n = 0) := if_neg (by omega)
    go_enter Try.func18, Try.ntmps18
    go_wp2
    go_ret
    exact ⟨ret_int (by rw [HW.out]; rfl), rfl⟩
  · have h0 : 0 ≤ n := by omega
    by_cases hhi : 2147483647 < n
    · have HW : Hid (Bit.widthI n = 0) := if_neg (by omega)
      go_enter Try.func18, Try.ntmps18
      go_wp2
      go_ret
      exact ⟨ret_int (by rw [HW.out]; rfl), rfl⟩
    · have h1 : n ≤ 2147483647 := by omega
      have HW : Hid (Bit.widthI n = Bit.width n.toNat) := if_pos ⟨h0, h1⟩
      go_enter Try.func18, Try.ntmps18
      go_wp2_with (go_at_call 47; refine (bitsLen n _ h0 h1).mono ?_; rintro e w' ⟨rfl, rfl⟩)
      go_ret
      exact ⟨ret_int (by rw [HW.out]), rfl⟩

set_option maxHeartbeats 400000 in
theorem iWidthFor (v : Value) (m : Nat) (l : List Int) (w : World) (hm : l.length = m) (hl : AtN 1 w v m (ints .i64 l)) :
    Calls Try.prog 16 #[v] w fun e w' => e = .returned (.int .i64 (Bit.widthFor l)) ∧ w = w' := by
  rcases hl with ⟨rfl, rfl, _⟩ | ⟨b, off, cap, rfl, h1, h2, h3, hc⟩
  · obtain rfl : l = [] := List.length_eq_zero_iff.1 hm
    go_enter Try.func16, Try.ntmps16
    go_wp2
    refine wp_loop_rounds 1 ?_
    rw [rounds_succ]
    go_wp2
    go_ret
    exact ⟨rfl, rfl⟩
  · have HM := Lib.hid hm
    clear hm h3
    unfold maxLen at h2
    go_enter Try.func16, Try.ntmps16
    go_wp2
    go_loop [3, 8] (fun a i => ∃ k : Nat, k ≤ m ∧ i = .int .i64 k ∧ a = .int .i64 (Bit.widthFor (l.take k))) (fun _ i => m - (intOf i).toNat)
    case atStart => exact ⟨0, Nat.zero_le _, rfl, rfl⟩
    case round =>
      obtain ⟨k, hk, rfl, rfl⟩ := hrel
      by_cases hlt : k < m
      · have hcx : w.cell? ⟨b, off + k, none⟩ = some (.int .i64 (l.getD k 0)) := At.cell hc HM.out hlt
        have hts : Hid (Bit.widthFor (l.take (k + 1)) = max (Bit.widthFor (l.take k)) (Bit.widthI (l.getD k 0))) := by
          show Bit.widthFor (l.take (k + 1)) = _
          rw [Bit.take_snoc l k (by rw [HM.out]; exact hlt), Bit.widthFor_snoc]
        have hq := fun (w : World) => iWidthOf (l.getD k 0) w
        have hp31 := Bit.widthFor_le31 (l.take k)
        have hq31 := Bit.widthI_le31 (l.getD k 0)
        generalize Bit.widthI (l.getD k 0) = q at hts hq hq31
        generalize l.getD k 0 = x at hcx hq
        generalize Bit.widthFor (l.take k) = p at hts hp31
        clear hc
        have HQ := Lib.hid hq
        clear hq
        go_wp2_with (go_at_call 18; refine (HQ.out _).mono ?_; rintro e w' ⟨rfl, rfl⟩)
        go_round
        case rel => exact ⟨k + 1, by omega, by go_num, by rw [hts.out]; go_num⟩
        case measure => simp [intOf]; omega
      · obtain rfl : k = m := by omega
        have e : l.take k = l := by rw [← HM.out]; exact List.take_length
        rw [e]
        go_wp2
        go_ret
        exact ⟨rfl, rfl⟩

def wokB (v : Int) : Bool := decide (0 ≤ v ∧ v ≤ 31)
theorem iWidthOk (v : Int) (w : World) : Calls Try.prog 43 #[.int .i64 v] w fun e w' => e = .returned (.bool (wokB v)) ∧ w = w' := by
  by_cases h0 : 0 ≤ v
  · by_cases h1 : v ≤ 31
    · have HB : Hid (wokB v = true) := decide_eq_true ⟨h0, h1⟩
      go_enter Try.func43, Try.ntmps43
      go_wp2
      go_ret
      exact ⟨ret_bool (by rw [HB.out]; try rfl), rfl⟩
    · have HB : Hid (wokB v = false) := decide_eq_false (fun h => h1 h.2)
      go_enter Try.func43, Try.ntmps43
      go_wp2
      go_ret
      exact ⟨ret_bool (by rw [HB.out]; try rfl), rfl⟩
  · have HB : Hid (wokB v = false) := decide_eq_false (fun h => h0 h.1)
    go_enter Try.func43, Try.ntmps43
    go_wp2
    go_ret
    exact ⟨ret_bool (by rw [HB.out]; try rfl), rfl⟩

def pokB (k v : Int) : Bool := decide ((0 ≤ k ∧ k ≤ 64) ∧ 0 ≤ v ∧ v ≤ 31)
theorem iPackOk (k v : Int) (w : World) : Calls Try.prog 48 #[.int .i64 k, .int .i64 v] w fun e w' => e = .returned (.bool (pokB k v)) ∧ w = w' := by
  by_cases h0 : 0 ≤ k
  · by_cases h1 : k ≤ 64
    · have HB : Hid (pokB k v = wokB v) := by
        show pokB k v = wokB v
        unfold pokB wokB
        simp [h0, h1]
      go_enter Try.func48, Try.ntmps48
      go_wp2_with (go_at_call 43; refine (iWidthOk v _).mono ?_; rintro e w' ⟨rfl, rfl⟩)
      go_ret
      exact ⟨ret_bool (by rw [HB.out]; try rfl), rfl⟩
    · have HB : Hid (pokB k v = false) := decide_eq_false (fun h => h1 h.1.2)
      go_enter Try.func48, Try.ntmps48
      go_wp2_with (go_at_call 43; refine (iWidthOk v _).mono ?_; rintro e w' ⟨rfl, rfl⟩)
      go_ret
      exact ⟨ret_bool (by rw [HB.out]; try rfl), rfl⟩
  · have HB : Hid (pokB k v = false) := decide_eq_false (fun h => h0 h.1.1)
    go_enter Try.func48, Try.ntmps48
    go_wp2_with (go_at_call 43; refine (iWidthOk v _).mono ?_; rintro e w' ⟨rfl, rfl⟩)
    go_ret
    exact ⟨ret_bool (by rw [HB.out]; try rfl), rfl⟩

theorem iPackedBytes (a b : Nat) (w : World) (ha : a ≤ 1073741824) (hb : b ≤ 31) :
    Calls Try.prog 45 #[.int .i64 a, .int .i64 b] w fun e w' => e = .returned (.int .i64 ((a * b + 7) / 8 : Nat)) ∧ w = w' := by
  have hm : a * b ≤ 1073741824 * 31 := Nat.mul_le_mul ha hb
  have hmi : (a : Int) * (b : Int) = ((a * b : Nat) : Int) := by simp
  generalize a * b = m at hm hmi
  go_enter Try.func45, Try.ntmps45
  go_wp2
  go_ret
  exact ⟨ret_int (by first | omega | (rw [hmi]; omega)), rfl⟩

theorem iBytesFor (k v : Int) (w : World) : Calls Try.prog 22 #[.int .i64 k, .int .i64 v] w fun e w' => e = .returned (.int .i64 (Bit.bytesFor k v)) ∧ w = w' := by
  by_cases h : (0 ≤ k ∧ k ≤ 64) ∧ 0 ≤ v ∧ v ≤ 31
  · have hb : pokB k v = true := decide_eq_true h
    have HB : Hid (Bit.bytesFor k v = (k * v + 7) / 8) := if_pos h
    obtain ⟨a, rfl⟩ := Int.eq_ofNat_of_zero_le h.1.1
    obtain ⟨b, rfl⟩ := Int.eq_ofNat_of_zero_le h.2.1
    have HC := Lib.hid (iPackedBytes a b w (by omega) (by omega))
    have HE : Hid ((((a * b + 7) / 8 : Nat) : Int) = ((a : Int) * (b : Int) + 7) / 8) := by
      show (((a * b + 7) / 8 : Nat) : Int) = ((a : Int) * (b : Int) + 7) / 8
      simp
    clear h
    go_enter Try.func22, Try.ntmps22
    go_wp2_with (first | (go_at_call 48; refine (iPackOk _ _ _).mono ?_; rintro e w' ⟨rfl, rfl⟩) | (go_at_call 45; refine HC.out.mono ?_; rintro e w' ⟨rfl, rfl⟩))
    go_ret
    exact ⟨ret_int (by rw [HB.out, ← HE.out]; try rfl), rfl⟩
  · have hb : pokB k v = false := decide_eq_false h
    have HB : Hid (Bit.bytesFor k v = 0) := if_neg h
    clear h
    go_enter Try.func22, Try.ntmps22
    go_wp2_with (go_at_call 48; refine (iPackOk _ _ _).mono ?_; rintro e w' ⟨rfl, rfl⟩)
    go_ret
    exact ⟨ret_int HB.out.symm, rfl⟩

theorem u8_table : ∀ z : Fin 256, bits .and .u8 (z.val : Int) 1 = ((z.val % 2 : Nat) : Int) := by decide +kernel
theorem u8_and_one {z : Nat} (h : z < 256) : bits .and .u8 (z : Int) 1 = ((z % 2 : Nat) : Int) := u8_table ⟨z, h⟩
theorem u8_shr_and {z k : Nat} (h : z ≤ 255) : bits .and .u8 ((z : Int) / 2 ^ k) 1 = ((z / 2 ^ k % 2 : Nat) : Int) := by
  have e : (z : Int) / 2 ^ k = ((z / 2 ^ k : Nat) : Int) := by simp
  rw [e, u8_and_one (Nat.lt_of_le_of_lt (Nat.div_le_self _ _) (by omega))]

set_option maxHeartbeats 400000 in
theorem iBitAt (u : Value) (m : Nat) (zs : List Int) (n : Int) (w : World) (h0 : -9223372036854775808 ≤ n) (h1 : n ≤ 9223372036854775807) (hm : zs.length = m) (hb : Num.Bytes zs) (hl : AtN 1 w u m (ints .u8 zs)) :
    Calls Try.prog 20 #[u, .int .i64 n] w fun e w' => e = .returned (.int .i64 (Bit.bitAt zs n)) ∧ w = w' := by
  obtain ⟨a, len, cap, rfl, hle, hc⟩ : ∃ a len cap, u = .slice a len cap ∧ len = m ∧ len ≤ 9223372036854775807 ∧ ∀ i, i < m → ∃ b off, a = some ⟨b, off, none⟩ ∧ w.cell? ⟨b, off + i, none⟩ = some (.int .u8 (zs.getD i 0)) := by
    rcases hl with ⟨rfl, rfl, _⟩ | ⟨b, off, cap, rfl, h1, h2, h3, hc⟩
    · exact ⟨_, _, _, rfl, rfl, by omega, fun i hi => by omega⟩
    · unfold maxLen at h2
      exact ⟨_, _, _, rfl, rfl, by omega, fun i hi => ⟨b, off, rfl, At.cell hc hm hi⟩⟩
  subst hle
  by_cases hneg : n < 0
  · have HB : Hid (Bit.bitAt zs n = 0) := if_pos hneg
    go_enter Try.func20, Try.ntmps20
    go_wp2
    go_ret
    exact ⟨ret_int HB.out.symm, rfl⟩
  · obtain ⟨k, rfl⟩ := Int.eq_ofNat_of_zero_le (by omega : 0 ≤ n)
    by_cases hin : k / 8 < len
    · obtain ⟨b, off, rfl, hcx⟩ := hc.2 (k / 8) hin
      have HB := Lib.hid (Bit.bitAt_in hb (k := k) (by rw [hm]; exact hin))
      have hz := hb (zs.getD (k / 8) 0) (by simp [hm, hin])
      generalize zs.getD (k / 8) 0 = z at hcx HB hz
      obtain ⟨z, rfl⟩ := Int.eq_ofNat_of_zero_le hz.1
      have hz2 : z ≤ 255 := by omega
      have hl2 := hc.1
      clear hc hz hb hm hl
      go_enter Try.func20, Try.ntmps20
      go_wp2
      go_ret
      exact ⟨ret_int (by rw [HB.out, u8_shr_and hz2]; unfold wrap64; simp only [Int.toNat_natCast]; omega), rfl⟩
    · have HB := Lib.hid (Bit.bitAt_out hb (k := k) (by rw [hm]; exact hin))
      have hl2 := hc.1
      clear hc hb hm hl
      go_enter Try.func20, Try.ntmps20
      go_wp2
      go_ret
      exact ⟨ret_int HB.out.symm, rfl⟩

end Go.Proofs.Ytjakkpjkdboofaa
