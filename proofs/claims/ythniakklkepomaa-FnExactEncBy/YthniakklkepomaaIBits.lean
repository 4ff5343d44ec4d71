/- The contracts of impl's WidthOf, WidthFor, widthOk, packOk, packedBytes, BytesFor, BitAt, allWithin, zeroFrom. -/
import Derived.Test.YthniakklkepomaaSUnpack
import Derived.Test.YthniakklkepomaaILen
namespace Go.Proofs.Ythniakklkepomaa
open Go.RowKit

theorem iWidthOf (n : Int) (w : World) : Calls Try.prog 81 #[.int .i64 n] w fun e w' => e = .returned (.int .i64 (Bit.widthI n)) ∧ w = w' := by
  by_cases hlo : n < 0
  · have HW : Hid (Bit.widthI n = 0) := if_neg (by omega)
    go_enter Try.func81, Try.ntmps81
    go_wp2
    go_ret
    exact ⟨ret_int (by rw [HW.out]; rfl), rfl⟩
  · have h0 : 0 ≤ n := by omega
    by_cases hhi : 2147483647 < n
    · have HW : Hid (Bit.widthI n = 0) := if_neg (by omega)
      go_enter Try.func81, Try.ntmps81
      go_wp2
      go_ret
      exact ⟨ret_int (by rw [HW.out]; rfl), rfl⟩
    · have h1 : n ≤ 2147483647 := by omega
      have HW : Hid (Bit.widthI n = Bit.width n.toNat) := if_pos ⟨h0, h1⟩
      go_enter Try.func81, Try.ntmps81
      go_wp2_with (go_at_call 88; refine (bitsLen n _ h0 h1).mono ?_; rintro e w' ⟨rfl, rfl⟩)
      go_ret
      exact ⟨ret_int (by rw [HW.out]), rfl⟩

set_option maxHeartbeats 400000 in
theorem iWidthFor (v : Value) (m : Nat) (l : List Int) (w : World) (hm : l.length = m) (hl : AtN 1 w v m (ints .i64 l)) :
    Calls Try.prog 67 #[v] w fun e w' => e = .returned (.int .i64 (Bit.widthFor l)) ∧ w = w' := by
  rcases hl with ⟨rfl, rfl, _⟩ | ⟨b, off, cap, rfl, h1, h2, h3, hc⟩
  · obtain rfl : l = [] := List.length_eq_zero_iff.1 hm
    go_enter Try.func67, Try.ntmps67
    go_wp2
    refine wp_loop_rounds 1 ?_
    rw [rounds_succ]
    go_wp2
    go_ret
    exact ⟨rfl, rfl⟩
  · have HM := Lib.hid hm
    clear hm h3
    unfold maxLen at h2
    go_enter Try.func67, Try.ntmps67
    go_wp2
    go_loop [3, 8] (fun a i => ∃ k : Nat, k ≤ m ∧ i = .int .i64 k ∧ a = .int .i64 (Bit.widthFor (l.take k))) (fun _ i => m - (intOf i).toNat)
    case atStart => exact ⟨0, Nat.zero_le _, rfl, rfl⟩
    case round =>
      obtain ⟨k, hk, rfl, rfl⟩ := hrel
      by_cases hlt : k < m
      · have hcx : w.cell? ⟨b, off + k, none⟩ = some (.int .i64 (l.getD k 0)) := At.cell hc HM.out hlt
        have hts : Hid (Bit.widthFor (l.take (k + 1)) = max (Bit.widthFor (l.take k)) (Bit.widthI (l.getD k 0))) := by
          show Bit.widthFor (l.take (k + 1)) = _
          rw [Bit.take_snoc l k (by rw [HM.out]; exact hlt), Bit.widthFor_snoc]
        have hq := fun (w : World) => iWidthOf (l.getD k 0) w
        have hp31 := Bit.widthFor_le31 (l.take k)
        have hq31 := Bit.widthI_le31 (l.getD k 0)
        generalize Bit.widthI (l.getD k 0) = q at hts hq hq31
        generalize l.getD k 0 = x at hcx hq
        generalize Bit.widthFor (l.take k) = p at hts hp31
        clear hc
        have HQ := Lib.hid hq
        clear hq
        go_wp2_with (go_at_call 81; refine (HQ.out _).mono ?_; rintro e w' ⟨rfl, rfl⟩)
        go_round
        case rel => exact ⟨k + 1, by omega, by go_num, by rw [hts.out]; go_num⟩
        case measure => simp [intOf]; omega
      · obtain rfl : k = m := by omega
        have e : l.take k = l := by rw [← HM.out]; exact List.take_length
        rw [e]
        go_wp2
        go_ret
        exact ⟨rfl, rfl⟩

def wokB (v : Int) : Bool := decide (0 ≤ v ∧ v ≤ 31)
theorem iWidthOk (v : Int) (w : World) : Calls Try.prog 78 #[.int .i64 v] w fun e w' => e = .returned (.bool (wokB v)) ∧ w = w' := by
  by_cases h0 : 0 ≤ v
  · by_cases h1 : v ≤ 31
    · have HB : Hid (wokB v = true) := decide_eq_true ⟨h0, h1⟩
      go_enter Try.func78, Try.ntmps78
      go_wp2
      go_ret
      exact ⟨ret_bool (by rw [HB.out]; try rfl), rfl⟩
    · have HB : Hid (wokB v = false) := decide_eq_false (fun h => h1 h.2)
      go_enter Try.func78, Try.ntmps78
      go_wp2
      go_ret
      exact ⟨ret_bool (by rw [HB.out]; try rfl), rfl⟩
  · have HB : Hid (wokB v = false) := decide_eq_false (fun h => h0 h.1)
    go_enter Try.func78, Try.ntmps78
    go_wp2
    go_ret
    exact ⟨ret_bool (by rw [HB.out]; try rfl), rfl⟩

def pokB (k v : Int) : Bool := decide ((0 ≤ k ∧ k ≤ 64) ∧ 0 ≤ v ∧ v ≤ 31)
theorem iPackedBytes (a b : Nat) (w : World) (ha : a ≤ 1073741824) (hb : b ≤ 31) :
    Calls Try.prog 80 #[.int .i64 a, .int .i64 b] w fun e w' => e = .returned (.int .i64 ((a * b + 7) / 8 : Nat)) ∧ w = w' := by
  have hm : a * b ≤ 1073741824 * 31 := Nat.mul_le_mul ha hb
  have hmi : (a : Int) * (b : Int) = ((a * b : Nat) : Int) := by simp
  generalize a * b = m at hm hmi
  go_enter Try.func80, Try.ntmps80
  go_wp2
  go_ret
  exact ⟨ret_int (by first | omega | (rw [hmi]; omega)), rfl⟩

theorem u8_table : ∀ z : Fin 256, bits .and .u8 (z.val : Int) 1 = ((z.val % 2 : Nat) : Int) := by decide +kernel
theorem u8_and_one {z : Nat} (h : z < 256) : bits .and .u8 (z : Int) 1 = ((z % 2 : Nat) : Int) := u8_table ⟨z, h⟩
theorem u8_shr_and {z k : Nat} (h : z ≤ 255) : bits .and .u8 ((z : Int) / 2 ^ k) 1 = ((z / 2 ^ k % 2 : Nat) : Int) := by
  have e : (z : Int) / 2 ^ k = ((z / 2 ^ k : Nat) : Int) := by simp
  rw [e, u8_and_one (Nat.lt_of_le_of_lt (Nat.div_le_self _ _) (by omega))]

end Go.Proofs.Ythniakklkepomaa
