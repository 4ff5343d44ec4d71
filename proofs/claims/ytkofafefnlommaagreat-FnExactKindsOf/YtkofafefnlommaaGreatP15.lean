/- Texts of this claim, one behind the other: ILen, IBits, IWith, IPack. -/
import Derived.Test.YtkofafefnlommaaGreatP8
import Derived.Lib.Strings
import Derived.Lib.Slices
import Derived.Lib.Small
import Derived.Lib.Walk
import Derived.Lib.BitFns

/- The contract of math/bits.Len below 2^31: it returns the number of binary digits. The library's own text is walked. -/
namespace Go.Proofs.YtkofafefnlommaaGreat
open Go.RowKit

theorem bitLen_width (x : Nat) (h : x < 2 ^ 64) : Lib.bitLen x = Bit.width x := by
  induction x using Nat.strongRecOn with
  | _ x ih =>
    by_cases h0 : x = 0
    · subst h0
      rw [Bit.width_zero]
      rfl
    · rw [Lib.bitLen_half x h0 h, Bit.width_pos (by omega), ih (x / 2) (by omega) (by omega), Nat.add_comm]

theorem len8_width (i : Int) (h0 : 0 ≤ i) (h1 : i ≤ 255) : Lib.len8 i = ((Bit.width i.toNat : Nat) : Int) := by
  rw [Lib.len8_of i h0 h1, bitLen_width _ (by omega)]
theorem width_shift (k x : Nat) (h : 2 ^ k ≤ x) (hx : x < 2 ^ 64) : Bit.width x = k + Bit.width (x / 2 ^ k) := by
  have h2 : x / 2 ^ k ≤ x := Nat.div_le_self _ _
  rw [← bitLen_width x hx, ← bitLen_width (x / 2 ^ k) (by omega)]
  exact Lib.bitLen_shift k x h hx
theorem width8 (i : Int) (h0 : 0 ≤ i) (h1 : i ≤ 255) : Bit.width i.toNat ≤ 8 := (Bit.width_le _ 8).2 (by omega)

set_option maxHeartbeats 1000000 in
set_option maxRecDepth 100000 in
theorem bitsLen64 (x : Int) (w : World) (h0 : 0 ≤ x) (h1 : x ≤ 2147483647) :
    Calls Tryz.prog 207 #[.int .u64 x] w fun e w' => e = .returned (.int .i64 (Bit.width x.toNat)) ∧ w = w' := by
  have c0 : x < 4294967296 := by omega
  by_cases c1 : x < 65536
  · by_cases c2 : x < 256
    · have c3 : x ≤ 255 := by omega
      have H8 := Lib.hid (len8_width x h0 c3)
      have L8 := width8 x h0 c3
      go_enter Tryz.func207, Tryz.ntmps207
      go_wp2
      go_ret
      exact ⟨ret_int (by rw [H8.out]; unfold wrap64; omega), rfl⟩
    · have c3 : 0 ≤ x / 256 := by omega
      have c4 : x / 256 ≤ 255 := by omega
      have H8 := Lib.hid (len8_width (x / 256) c3 c4)
      have L8 := width8 (x / 256) c3 c4
      have HS := Lib.hid (width_shift 8 x.toNat (by omega) (by omega))
      have HT : Hid ((x / 256).toNat = x.toNat / 2 ^ 8) := (by omega : (x / 256).toNat = x.toNat / 2 ^ 8)
      go_enter Tryz.func207, Tryz.ntmps207
      go_wp2
      go_ret
      exact ⟨ret_int (by rw [H8.out, HS.out, ← HT.out]; unfold wrap64; omega), rfl⟩
  · by_cases c2 : x / 65536 < 256
    · have c3 : 0 ≤ x / 65536 := by omega
      have c4 : x / 65536 ≤ 255 := by omega
      have H8 := Lib.hid (len8_width (x / 65536) c3 c4)
      have L8 := width8 (x / 65536) c3 c4
      have HS := Lib.hid (width_shift 16 x.toNat (by omega) (by omega))
      have HT : Hid ((x / 65536).toNat = x.toNat / 2 ^ 16) := (by omega : (x / 65536).toNat = x.toNat / 2 ^ 16)
      go_enter Tryz.func207, Tryz.ntmps207
      go_wp2
      go_ret
      exact ⟨ret_int (by rw [H8.out, HS.out, ← HT.out]; unfold wrap64; omega), rfl⟩
    · have c3 : 0 ≤ x / 65536 / 256 := by omega
      have c4 : x / 65536 / 256 ≤ 255 := by omega
      have H8 := Lib.hid (len8_width (x / 65536 / 256) c3 c4)
      have L8 := width8 (x / 65536 / 256) c3 c4
      have HS := Lib.hid (width_shift 24 x.toNat (by omega) (by omega))
      have HT : Hid ((x / 65536 / 256).toNat = x.toNat / 2 ^ 24) := (by omega : (x / 65536 / 256).toNat = x.toNat / 2 ^ 24)
      go_enter Tryz.func207, Tryz.ntmps207
      go_wp2
      go_ret
      exact ⟨ret_int (by rw [H8.out, HS.out, ← HT.out]; unfold wrap64; omega), rfl⟩

theorem bitsLen (x : Int) (w : World) (h0 : 0 ≤ x) (h1 : x ≤ 2147483647) :
    Calls Tryz.prog 193 #[.int .u64 x] w fun e w' => e = .returned (.int .i64 (Bit.width x.toNat)) ∧ w = w' := by
  go_enter Tryz.func193, Tryz.ntmps193
  go_wp2_with (go_at_call 207; refine (bitsLen64 x _ h0 h1).mono ?_; rintro e w' ⟨rfl, rfl⟩)
  go_ret
  exact ⟨rfl, rfl⟩

end Go.Proofs.YtkofafefnlommaaGreat

/- The contracts of impl's WidthOf, WidthFor, widthOk, packOk, packedBytes, BytesFor, BitAt, allWithin, zeroFrom. -/
namespace Go.Proofs.YtkofafefnlommaaGreat
open Go.RowKit

theorem iWidthOf (n : Int) (w : World) : Calls Tryz.prog 183 #[.int .i64 n] w fun e w' => e = .returned (.int .i64 (Bit.widthI n)) ∧ w = w' := by
  by_cases hlo : n < 0
  · have HW : Hid (Bit.widthI n = 0) := if_neg (by omega)
    go_enter Tryz.func183, Tryz.ntmps183
    go_wp2
    go_ret
    exact ⟨ret_int (by rw [HW.out]; rfl), rfl⟩
  · have h0 : 0 ≤ n := by omega
    by_cases hhi : 2147483647 < n
    · have HW : Hid (Bit.widthI n = 0) := if_neg (by omega)
      go_enter Tryz.func183, Tryz.ntmps183
      go_wp2
      go_ret
      exact ⟨ret_int (by rw [HW.out]; rfl), rfl⟩
    · have h1 : n ≤ 2147483647 := by omega
      have HW : Hid (Bit.widthI n = Bit.width n.toNat) := if_pos ⟨h0, h1⟩
      go_enter Tryz.func183, Tryz.ntmps183
      go_wp2_with (go_at_call 193; refine (bitsLen n _ h0 h1).mono ?_; rintro e w' ⟨rfl, rfl⟩)
      go_ret
      exact ⟨ret_int (by rw [HW.out]), rfl⟩

set_option maxHeartbeats 400000 in
theorem iWidthFor (v : Value) (m : Nat) (l : List Int) (w : World) (hm : l.length = m) (hl : AtN 1 w v m (ints .i64 l)) :
    Calls Tryz.prog 160 #[v] w fun e w' => e = .returned (.int .i64 (Bit.widthFor l)) ∧ w = w' := by
  rcases hl with ⟨rfl, rfl, _⟩ | ⟨b, off, cap, rfl, h1, h2, h3, hc⟩
  · obtain rfl : l = [] := List.length_eq_zero_iff.1 hm
    go_enter Tryz.func160, Tryz.ntmps160
    go_wp2
    refine wp_loop_rounds 1 ?_
    rw [rounds_succ]
    go_wp2
    go_ret
    exact ⟨rfl, rfl⟩
  · have HM := Lib.hid hm
    clear hm h3
    unfold maxLen at h2
    go_enter Tryz.func160, Tryz.ntmps160
    go_wp2
    go_loop [3, 8] (fun a i => ∃ k : Nat, k ≤ m ∧ i = .int .i64 k ∧ a = .int .i64 (Bit.widthFor (l.take k))) (fun _ i => m - (intOf i).toNat)
    case atStart => exact ⟨0, Nat.zero_le _, rfl, rfl⟩
    case round =>
      obtain ⟨k, hk, rfl, rfl⟩ := hrel
      by_cases hlt : k < m
      · have hcx : w.cell? ⟨b, off + k, none⟩ = some (.int .i64 (l.getD k 0)) := At.cell hc HM.out hlt
        have hts : Hid (Bit.widthFor (l.take (k + 1)) = max (Bit.widthFor (l.take k)) (Bit.widthI (l.getD k 0))) := by
          show Bit.widthFor (l.take (k + 1)) = _
          rw [Bit.take_snoc l k (by rw [HM.out]; exact hlt), Bit.widthFor_snoc]
        have hq := fun (w : World) => iWidthOf (l.getD k 0) w
        have hp31 := Bit.widthFor_le31 (l.take k)
        have hq31 := Bit.widthI_le31 (l.getD k 0)
        generalize Bit.widthI (l.getD k 0) = q at hts hq hq31
        generalize l.getD k 0 = x at hcx hq
        generalize Bit.widthFor (l.take k) = p at hts hp31
        clear hc
        have HQ := Lib.hid hq
        clear hq
        go_wp2_with (go_at_call 183; refine (HQ.out _).mono ?_; rintro e w' ⟨rfl, rfl⟩)
        go_round
        case rel => exact ⟨k + 1, by omega, by go_num, by rw [hts.out]; go_num⟩
        case measure => simp [intOf]; omega
      · obtain rfl : k = m := by omega
        have e : l.take k = l := by rw [← HM.out]; exact List.take_length
        rw [e]
        go_wp2
        go_ret
        exact ⟨rfl, rfl⟩

def wokB (v : Int) : Bool := decide (0 ≤ v ∧ v ≤ 31)
theorem iWidthOk (v : Int) (w : World) : Calls Tryz.prog 180 #[.int .i64 v] w fun e w' => e = .returned (.bool (wokB v)) ∧ w = w' := by
  by_cases h0 : 0 ≤ v
  · by_cases h1 : v ≤ 31
    · have HB : Hid (wokB v = true) := decide_eq_true ⟨h0, h1⟩
      go_enter Tryz.func180, Tryz.ntmps180
      go_wp2
      go_ret
      exact ⟨ret_bool (by rw [HB.out]; try rfl), rfl⟩
    · have HB : Hid (wokB v = false) := decide_eq_false (fun h => h1 h.2)
      go_enter Tryz.func180, Tryz.ntmps180
      go_wp2
      go_ret
      exact ⟨ret_bool (by rw [HB.out]; try rfl), rfl⟩
  · have HB : Hid (wokB v = false) := decide_eq_false (fun h => h0 h.1)
    go_enter Tryz.func180, Tryz.ntmps180
    go_wp2
    go_ret
    exact ⟨ret_bool (by rw [HB.out]; try rfl), rfl⟩

def pokB (k v : Int) : Bool := decide ((0 ≤ k ∧ k ≤ 64) ∧ 0 ≤ v ∧ v ≤ 31)
theorem iPackOk (k v : Int) (w : World) : Calls Tryz.prog 187 #[.int .i64 k, .int .i64 v] w fun e w' => e = .returned (.bool (pokB k v)) ∧ w = w' := by
  by_cases h0 : 0 ≤ k
  · by_cases h1 : k ≤ 64
    · have HB : Hid (pokB k v = wokB v) := by
        show pokB k v = wokB v
        unfold pokB wokB
        simp [h0, h1]
      go_enter Tryz.func187, Tryz.ntmps187
      go_wp2_with (go_at_call 180; refine (iWidthOk v _).mono ?_; rintro e w' ⟨rfl, rfl⟩)
      go_ret
      exact ⟨ret_bool (by rw [HB.out]; try rfl), rfl⟩
    · have HB : Hid (pokB k v = false) := decide_eq_false (fun h => h1 h.1.2)
      go_enter Tryz.func187, Tryz.ntmps187
      go_wp2_with (go_at_call 180; refine (iWidthOk v _).mono ?_; rintro e w' ⟨rfl, rfl⟩)
      go_ret
      exact ⟨ret_bool (by rw [HB.out]; try rfl), rfl⟩
  · have HB : Hid (pokB k v = false) := decide_eq_false (fun h => h0 h.1.1)
    go_enter Tryz.func187, Tryz.ntmps187
    go_wp2_with (go_at_call 180; refine (iWidthOk v _).mono ?_; rintro e w' ⟨rfl, rfl⟩)
    go_ret
    exact ⟨ret_bool (by rw [HB.out]; try rfl), rfl⟩

theorem iPackedBytes (a b : Nat) (w : World) (ha : a ≤ 1073741824) (hb : b ≤ 31) :
    Calls Tryz.prog 182 #[.int .i64 a, .int .i64 b] w fun e w' => e = .returned (.int .i64 ((a * b + 7) / 8 : Nat)) ∧ w = w' := by
  have hm : a * b ≤ 1073741824 * 31 := Nat.mul_le_mul ha hb
  have hmi : (a : Int) * (b : Int) = ((a * b : Nat) : Int) := by simp
  generalize a * b = m at hm hmi
  go_enter Tryz.func182, Tryz.ntmps182
  go_wp2
  go_ret
  exact ⟨ret_int (by first | omega | (rw [hmi]; omega)), rfl⟩

theorem u8_table : ∀ z : Fin 256, bits .and .u8 (z.val : Int) 1 = ((z.val % 2 : Nat) : Int) := by decide +kernel
theorem u8_and_one {z : Nat} (h : z < 256) : bits .and .u8 (z : Int) 1 = ((z % 2 : Nat) : Int) := u8_table ⟨z, h⟩
theorem u8_shr_and {z k : Nat} (h : z ≤ 255) : bits .and .u8 ((z : Int) / 2 ^ k) 1 = ((z / 2 ^ k % 2 : Nat) : Int) := by
  have e : (z : Int) / 2 ^ k = ((z / 2 ^ k : Nat) : Int) := by simp
  rw [e, u8_and_one (Nat.lt_of_le_of_lt (Nat.div_le_self _ _) (by omega))]

set_option maxHeartbeats 400000 in
theorem iBitAt (u : Value) (m : Nat) (zs : List Int) (n : Int) (w : World) (h0 : -9223372036854775808 ≤ n) (h1 : n ≤ 9223372036854775807) (hm : zs.length = m) (hb : Num.Bytes zs) (hl : AtN 1 w u m (ints .u8 zs)) :
    Calls Tryz.prog 189 #[u, .int .i64 n] w fun e w' => e = .returned (.int .i64 (Bit.bitAt zs n)) ∧ w = w' := by
  obtain ⟨a, len, cap, rfl, hle, hc⟩ : ∃ a len cap, u = .slice a len cap ∧ len = m ∧ len ≤ 9223372036854775807 ∧ ∀ i, i < m → ∃ b off, a = some ⟨b, off, none⟩ ∧ w.cell? ⟨b, off + i, none⟩ = some (.int .u8 (zs.getD i 0)) := by
    rcases hl with ⟨rfl, rfl, _⟩ | ⟨b, off, cap, rfl, h1, h2, h3, hc⟩
    · exact ⟨_, _, _, rfl, rfl, by omega, fun i hi => by omega⟩
    · unfold maxLen at h2
      exact ⟨_, _, _, rfl, rfl, by omega, fun i hi => ⟨b, off, rfl, At.cell hc hm hi⟩⟩
  subst hle
  by_cases hneg : n < 0
  · have HB : Hid (Bit.bitAt zs n = 0) := if_pos hneg
    go_enter Tryz.func189, Tryz.ntmps189
    go_wp2
    go_ret
    exact ⟨ret_int HB.out.symm, rfl⟩
  · obtain ⟨k, rfl⟩ := Int.eq_ofNat_of_zero_le (by omega : 0 ≤ n)
    by_cases hin : k / 8 < len
    · obtain ⟨b, off, rfl, hcx⟩ := hc.2 (k / 8) hin
      have HB := Lib.hid (Bit.bitAt_in hb (k := k) (by rw [hm]; exact hin))
      have hz := hb (zs.getD (k / 8) 0) (by simp [hm, hin])
      generalize zs.getD (k / 8) 0 = z at hcx HB hz
      obtain ⟨z, rfl⟩ := Int.eq_ofNat_of_zero_le hz.1
      have hz2 : z ≤ 255 := by omega
      have hl2 := hc.1
      clear hc hz hb hm hl
      go_enter Tryz.func189, Tryz.ntmps189
      go_wp2
      go_ret
      exact ⟨ret_int (by rw [HB.out, u8_shr_and hz2]; unfold wrap64; simp only [Int.toNat_natCast]; omega), rfl⟩
    · have HB := Lib.hid (Bit.bitAt_out hb (k := k) (by rw [hm]; exact hin))
      have hl2 := hc.1
      clear hc hb hm hl
      go_enter Tryz.func189, Tryz.ntmps189
      go_wp2
      go_ret
      exact ⟨ret_int HB.out.symm, rfl⟩

end Go.Proofs.YtkofafefnlommaaGreat

/- The contracts of impl's allWithin and zeroFrom. -/
namespace Go.Proofs.YtkofafefnlommaaGreat
open Go.RowKit

theorem pow31 {b : Nat} (h : b ≤ 31) : (1 : Int) ≤ 2 ^ b ∧ (2 : Int) ^ b ≤ 2147483648 := by
  have h1 : 2 ^ b ≤ 2 ^ 31 := Nat.pow_le_pow_right (by omega) h
  have h2 : 0 < 2 ^ b := Nat.pow_pos (by omega)
  have h3 : ((2 ^ b : Nat) : Int) = (2 : Int) ^ b := by simp
  omega
theorem fitsB_of {l : List Int} {b : Nat} (hb : b ≤ 31) (h : ∀ x ∈ l, 0 ≤ x ∧ x < 2 ^ b) : Bit.fitsB l b = true := Bit.digs_fits h hb
theorem fitsB_not {l : List Int} {b k : Nat} (hk : k < l.length) (h : ¬ (0 ≤ l.getD k 0 ∧ l.getD k 0 < 2 ^ b)) : Bit.fitsB l b = false := by
  cases hf : Bit.fitsB l b with
  | false => rfl
  | true => exact absurd (Bit.fits_digs hf (l.getD k 0) (by simp [hk])) h

set_option maxHeartbeats 400000 in
theorem iAllWithin (u : Value) (m : Nat) (l : List Int) (b : Nat) (w : World) (hb : b ≤ 31) (hm : l.length = m) (hl : AtN 1 w u m (ints .i64 l)) :
    Calls Tryz.prog 181 #[u, .int .i64 b] w fun e w' => e = .returned (.bool (Bit.fitsB l b)) ∧ w = w' := by
  have hp := pow31 hb
  have hw : wrap64 ((2 : Int) ^ b) = 2 ^ b := by unfold wrap64; omega
  rcases hl with ⟨rfl, rfl, _⟩ | ⟨g, off, cap, rfl, h1, h2, h3, hc⟩
  · obtain rfl : l = [] := List.length_eq_zero_iff.1 hm
    have HF : Hid (Bit.fitsB [] b = true) := fitsB_of hb (by simp)
    go_enter Tryz.func181, Tryz.ntmps181
    go_wp2
    refine wp_loop_rounds 1 ?_
    rw [rounds_succ]
    go_wp2
    go_ret
    exact ⟨ret_bool HF.out.symm, rfl⟩
  · have HM := Lib.hid hm
    clear hm h3
    unfold maxLen at h2
    go_enter Tryz.func181, Tryz.ntmps181
    go_wp2
    go_loop [9] (fun i => ∃ k : Nat, k ≤ m ∧ i = .int .i64 k ∧ ∀ x ∈ l.take k, 0 ≤ x ∧ x < (2 : Int) ^ b) (fun i => m - (intOf i).toNat)
    case atStart => exact ⟨0, Nat.zero_le _, rfl, by simp⟩
    case round =>
      obtain ⟨k, hk, rfl, hok⟩ := hrel
      have HOK := Lib.hid hok
      clear hok
      by_cases hlt : k < m
      · have hcx : w.cell? ⟨g, off + k, none⟩ = some (.int .i64 (l.getD k 0)) := At.cell hc HM.out hlt
        have HS : Hid (0 ≤ l.getD k 0 ∧ l.getD k 0 < 2 ^ b → ∀ x ∈ l.take (k + 1), 0 ≤ x ∧ x < (2 : Int) ^ b) := by
          intro h x hx
          rw [Bit.take_snoc l k (by rw [HM.out]; exact hlt)] at hx
          rcases List.mem_append.1 hx with hx | hx
          · exact HOK.out x hx
          · rw [List.mem_singleton.1 hx]; exact h
        have HN : Hid (¬ (0 ≤ l.getD k 0 ∧ l.getD k 0 < 2 ^ b) → Bit.fitsB l b = false) := fitsB_not (by rw [HM.out]; exact hlt)
        generalize l.getD k 0 = x at hcx HS HN
        clear hc
        by_cases hlo : x < 0
        · have HN2 := Lib.hid (HN.out (by omega))
          go_wp2
          go_ret
          exact ⟨ret_bool HN2.out.symm, rfl⟩
        · by_cases hhi : (2 : Int) ^ b ≤ x
          · have HN2 := Lib.hid (HN.out (by omega))
            go_wp2
            go_ret
            exact ⟨ret_bool HN2.out.symm, rfl⟩
          · have HS2 := Lib.hid (HS.out (by omega))
            go_wp2
            go_round
            case rel => exact ⟨k + 1, by omega, by go_num, HS2.out⟩
            case measure => simp [intOf]; omega
      · obtain rfl : k = m := by omega
        have HF : Hid (Bit.fitsB l b = true) := by
          have := HOK.out
          rw [← HM.out, List.take_length] at this
          exact fitsB_of hb this
        go_wp2
        go_ret
        exact ⟨ret_bool HF.out.symm, rfl⟩

/-- The bits from t on are zero. -/
def zeroB (zs : List Int) (t : Nat) : Bool := decide (Bit.val 8 zs < 2 ^ t)

set_option maxHeartbeats 400000 in
theorem iZeroFrom (u : Value) (m : Nat) (zs : List Int) (t : Nat) (w : World) (hmx : m ≤ 1073741824) (ht : t ≤ 8 * m) (hm : zs.length = m) (hby : Num.Bytes zs) (hl : AtN 1 w u m (ints .u8 zs)) :
    Calls Tryz.prog 188 #[u, .int .i64 t] w fun e w' => e = .returned (.bool (zeroB zs t)) ∧ w = w' := by
  obtain ⟨a, cap, rfl⟩ : ∃ a cap, u = .slice a m cap := by
    rcases hl with ⟨rfl, rfl, _⟩ | ⟨b, off, cap, rfl, _⟩
    · exact ⟨_, _, rfl⟩
    · exact ⟨_, _, rfl⟩
  have HV : Hid (Bit.val 8 zs < 2 ^ (8 * m)) := by
    have := Bit.val_lt (Bit.digs_bytes.2 hby)
    rw [hm, Nat.mul_comm] at this
    exact this
  have HBA : Hid (∀ (n : Nat) (W : World), n ≤ 8589934592 → W = w → Calls Tryz.prog 189 #[.slice a m cap, .int .i64 n] W fun e w' => e = .returned (.int .i64 ((Bit.val 8 zs / 2 ^ n % 2 : Nat) : Int)) ∧ W = w') := by
    intro n W hn hW
    subst hW
    have := iBitAt (.slice a m cap) m zs (n : Int) W (by omega) (by omega) hm hby hl
    unfold Bit.bitAt at this
    rw [if_neg (by omega), Int.toNat_natCast] at this
    exact this
  have HZ1 : Hid (Bit.val 8 zs < 2 ^ t → zeroB zs t = true) := fun h => decide_eq_true h
  have HZ0 : Hid (¬ Bit.val 8 zs < 2 ^ t → zeroB zs t = false) := fun h => decide_eq_false h
  generalize Bit.val 8 zs = N at HV HBA HZ1 HZ0
  clear hl hm hby
  obtain ⟨d, hd⟩ : ∃ d, d = 8 * m - t := ⟨_, rfl⟩
  have hde : ((m : Int)) * 8 - (t : Int) = (d : Int) := by omega
  have HD := Lib.hid hd
  have hd2 : t + d ≤ 8 * m := by omega
  have hd3 : 8 * m ≤ t + d := by omega
  clear hd
  go_enter Tryz.func188, Tryz.ntmps188
  go_wp2
  go_loop [11] (fun n => ∃ s : Nat, s ≤ d ∧ n = .int .i64 s ∧ ∀ j, t ≤ j → j < t + s → N / 2 ^ j % 2 = 0) (fun n => d - (intOf n).toNat)
  case atStart => exact ⟨0, Nat.zero_le _, rfl, fun j h1 h2 => by omega⟩
  case round =>
    obtain ⟨s, hs1, rfl, hz⟩ := hrel
    have HZ := Lib.hid hz
    clear hz
    by_cases hls : s < d
    · have hcall := HBA.out (t + s) w (by omega) rfl
      by_cases hbit : N / 2 ^ (t + s) % 2 = 0
      · have HZ2 : Hid (∀ j, t ≤ j → j < t + (s + 1) → N / 2 ^ j % 2 = 0) := by
          intro j h1 h2
          by_cases hj : j = t + s
          · subst hj; exact hbit
          · exact HZ.out j h1 (by omega)
        rw [hbit] at hcall
        have HC := Lib.hid hcall
        clear hcall hbit
        go_wp2_with (go_at_call 189; refine HC.out.mono ?_; rintro e w' ⟨rfl, rfl⟩)
        go_round
        case rel => exact ⟨s + 1, by omega, by go_num, HZ2.out⟩
        case measure => simp [intOf]; omega
      · have HP := Lib.hid (HZ0.out (Bit.ge_of_bit (by omega : t ≤ t + s) hbit))
        have hne2 : (((N / 2 ^ (t + s) % 2 : Nat) : Int) != 0) = true := by
          have : ¬ ((N / 2 ^ (t + s) % 2 : Nat) : Int) = 0 := by omega
          simpa using this
        generalize N / 2 ^ (t + s) % 2 = y at hcall hne2
        have HC := Lib.hid hcall
        clear hcall hbit
        go_wp2_with (go_at_call 189; refine HC.out.mono ?_; rintro e w' ⟨rfl, rfl⟩)
        go_ret
        exact ⟨ret_bool HP.out.symm, rfl⟩
    · obtain rfl : s = d := by omega
      have HP : Hid (zeroB zs t = true) := by
        refine HZ1.out ?_
        rcases Bit.lt_of_bits (8 * m) HV.out (fun j h1 h2 => HZ.out j h1 (by omega)) with h | h
        · exact h
        · omega
      go_wp2
      go_ret
      exact ⟨ret_bool HP.out.symm, rfl⟩

end Go.Proofs.YtkofafefnlommaaGreat

/- The contract of impl's PackBits. -/
namespace Go.Proofs.YtkofafefnlommaaGreat
open Go.RowKit

/-- A bit set in any byte that holds none above it. -/
theorem dig_set {c n X β : Nat} (hX : X < 2 ^ n) (hβ : β ≤ 1) : (Bit.dig 8 c X).set (n / 8) ((X / 2 ^ (n / 8 * 8) + 2 ^ (n % 8) * β : Nat) : Int) = Bit.dig 8 c (X + 2 ^ n * β) := by
  have hq : X / 2 ^ (n / 8 * 8) < 2 ^ (n % 8) := by
    rw [Nat.div_lt_iff_lt_mul (Nat.pow_pos (by omega)), Nat.mul_comm, ← Bit.pow_split]
    exact hX
  have h8 : 2 ^ (n % 8) ≤ 2 ^ 7 := Nat.pow_le_pow_right (by omega) (by omega)
  have hm : 2 ^ (n % 8) * β ≤ 2 ^ (n % 8) * 1 := Nat.mul_le_mul_left _ hβ
  have hm2 : 2 ^ n * β ≤ 2 ^ n * 1 := Nat.mul_le_mul_left _ hβ
  apply List.ext_getElem
  · simp [Bit.dig_len]
  · intro j h1 h2
    rw [List.getElem_set]
    simp only [Bit.dig, List.getElem_map, List.getElem_range]
    have e1 : X + 2 ^ n * β = X + 2 ^ (n / 8 * 8) * (2 ^ (n % 8) * β) := by rw [← Nat.mul_assoc, ← Bit.pow_split]
    split
    next h =>
      subst h
      rw [e1, Nat.add_mul_div_left _ _ (Nat.pow_pos (by omega)), Nat.mod_eq_of_lt (b := 2 ^ 8) (by omega)]
    next h =>
      by_cases hj : j < n / 8
      · rw [e1, Bit.dig_high hj]
      · have hp : 2 ^ (n + 1) ≤ 2 ^ (j * 8) := Nat.pow_le_pow_right (by omega) (by omega)
        rw [Nat.pow_succ] at hp
        rw [Nat.div_eq_of_lt (by omega), Nat.div_eq_of_lt (by omega)]
theorem byte_at {c n X : Nat} (hX : X < 2 ^ n) (hc : n / 8 < c) : (Bit.dig 8 c X).getD (n / 8) 0 = ((X / 2 ^ (n / 8 * 8) : Nat) : Int) ∧ X / 2 ^ (n / 8 * 8) < 2 ^ (n % 8) := by
  have hq : X / 2 ^ (n / 8 * 8) < 2 ^ (n % 8) := by
    rw [Nat.div_lt_iff_lt_mul (Nat.pow_pos (by omega)), Nat.mul_comm, ← Bit.pow_split]
    exact hX
  have h8 : 2 ^ (n % 8) ≤ 2 ^ 7 := Nat.pow_le_pow_right (by omega) (by omega)
  refine ⟨?_, hq⟩
  rw [Bit.dig_get hc, Nat.mod_eq_of_lt (by omega)]
theorem dig_step (c n N : Nat) : Bit.dig 8 c (N % 2 ^ (n + 1)) = (Bit.dig 8 c (N % 2 ^ n)).set (n / 8) ((N % 2 ^ n / 2 ^ (n / 8 * 8) + 2 ^ (n % 8) * (N / 2 ^ n % 2) : Nat) : Int) := by
  rw [dig_set (Nat.mod_lt _ (Nat.pow_pos (by omega))) (by omega), Bit.mod_step]
theorem made_dig (c N : Nat) : (madeCells #[.int .u8 0] c).toList = ints .u8 (Bit.dig 8 c (N % 2 ^ 0)) := by
  have e := made_ints .u8 c
  rw [Nat.mul_one] at e
  refine e.trans ?_
  rw [Nat.pow_zero, Nat.mod_one]
  apply List.ext_getElem
  · simp [ints, Bit.dig_len]
  · intro j h1 h2
    simp [ints, Bit.dig]

theorem or0_table : ∀ y : Fin 256, bits .or .u8 (y.val : Int) 0 = ((y.val : Nat) : Int) := by decide +kernel
theorem or_byte0 {y : Nat} (h : y < 256) : bits .or .u8 (y : Int) 0 = (y : Int) := or0_table ⟨y, h⟩

set_option maxHeartbeats 2000000 in
theorem iPackBits (u : Value) (m : Nat) (l : List Int) (v : Int) (w : World) (hmx : m ≤ 1073741824) (hm : l.length = m) (hl : AtN 1 w u m (ints .i64 l)) :
    Calls Tryz.prog 157 #[u, .int .i64 v] w fun e w' => ∃ v', e = .returned v' ∧ Own 5 1 w.heap.size w'.heap.size w' v' (Bit.pack l v).length (ints .u8 (Bit.pack l v)) ∧ Below w.heap.size w w' := by
  have hown0 := own_lit (e := 5) (size := 1) w #[] 0 (Nat.zero_le _) rfl
  have hb0 := below_alloc w (.cells #[] 5)
  obtain ⟨a, cap, rfl⟩ : ∃ a cap, u = .slice a m cap := by
    rcases hl with ⟨rfl, rfl, _⟩ | ⟨b, off, cap, rfl, _⟩
    · exact ⟨_, _, rfl⟩
    · exact ⟨_, _, rfl⟩
  by_cases hv : 0 ≤ v ∧ v ≤ 31
  · have hwk : wokB v = true := decide_eq_true hv
    obtain ⟨b, rfl⟩ := Int.eq_ofNat_of_zero_le hv.1
    have hb31 : b ≤ 31 := by omega
    have HF := Lib.hid (iAllWithin (.slice a m cap) m l b w hb31 hm hl)
    clear hv
    cases hf : Bit.fitsB l b with
    | false =>
      have HP : Hid (Bit.pack l b = []) := by
        show Bit.pack l b = []
        unfold Bit.pack
        rw [if_neg (by rw [hf]; simp)]
      rw [hf] at HF
      clear hf
      go_enter Tryz.func157, Tryz.ntmps157
      go_wp2_with (first | (go_at_call 180; refine (iWidthOk _ _).mono ?_; rintro e w' ⟨rfl, rfl⟩) | (go_at_call 181; refine HF.out.mono ?_; rintro e w' ⟨rfl, rfl⟩))
      go_ret
      exact ⟨_, rfl, by rw [HP.out]; exact hown0, hb0⟩
    | true =>
      have HP : Hid (Bit.pack l b = Bit.dig 8 ((l.length * b + 7) / 8) (Bit.val b l)) := if_pos hf
      have HD := Lib.hid (Bit.fits_digs hf)
      rw [hf] at HF
      have HC := Lib.hid (iPackedBytes m b w hmx hb31)
      have hmb : m * b ≤ 1073741824 * 31 := Nat.mul_le_mul hmx hb31
      obtain ⟨c, hc⟩ : ∃ c, c = (m * b + 7) / 8 := ⟨_, rfl⟩
      rw [← hc] at HC
      have hc8 : m * b ≤ 8 * c := by omega
      have hcx : c ≤ 4160749568 := by omega
      have HPC : Hid (Bit.pack l b = Bit.dig 8 c (Bit.val b l)) := by
        show Bit.pack l b = _
        rw [HP.out, hm, ← hc]
      clear hf hc HP
      go_enter Tryz.func157, Tryz.ntmps157
      go_wp2_with (first | (go_at_call 180; refine (iWidthOk _ _).mono ?_; rintro e w' ⟨rfl, rfl⟩) | (go_at_call 181; refine HF.out.mono ?_; rintro e w' ⟨rfl, rfl⟩) | (go_at_call 182; refine HC.out.mono ?_; rintro e w' ⟨rfl, rfl⟩) | (at_make; refine make_law Tryz.elemBytes rfl _ _ rfl .i64 .i64 _ _ c rfl rfl rfl rfl (by omega) (by unfold maxLen; omega) ?_))
      intro w1 hown1 hb1
      generalize hg : (Value.slice (some ⟨w.heap.size, 0, none⟩) c c) = o at hown1 ⊢
      rw [made_dig c (Bit.val b l)] at hown1
      rcases hl with ⟨hu, rfl, _⟩ | ⟨gb, off, cap', hu, h1, h2, h3, hcl⟩
      · obtain rfl : l = [] := List.length_eq_zero_iff.1 hm
        have HL : Hid (Bit.pack [] b = Bit.dig 8 c (Bit.val b [] % 2 ^ 0)) := by
          show Bit.pack [] b = _
          rw [HPC.out]
          rfl
        clear hg hu
        go_wp2
        refine wp_loop_rounds 1 ?_
        rw [rounds_succ]
        go_wp2
        go_ret
        refine ⟨_, rfl, ?_, hb1⟩
        rw [HL.out, Bit.dig_len]
        exact hown1
      · obtain ⟨rfl, rfl⟩ : a = some ⟨gb, off, none⟩ ∧ cap = cap' := by simpa using hu
        clear hu
        unfold maxLen at h2
        have HM := Lib.hid hm
        have HCL := Lib.hid hcl
        generalize hN : Bit.val b l = N at HPC hown1
        have HB : Hid (∀ k q, k < m → q < b → N / 2 ^ (k * b + q) % 2 = (l.getD k 0).toNat / 2 ^ q % 2) := fun k q hk hq => by
          rw [← hN]
          exact Bit.val_bit HD.out (by rw [HM.out]; exact hk) hq
        have HX : Hid (∀ k, k < m → 0 ≤ l.getD k 0 ∧ l.getD k 0 < 2 ^ b) := fun k hk => HD.out _ (by simp [HM.out, hk])
        have HL : Hid (N < 2 ^ (m * b)) := by
          have := Bit.val_lt HD.out
          rw [HM.out] at this
          rw [← hN]
          exact this
        have HBT : Hid (∀ k q, k < m → q < b → k * b + q < m * b) := fun k q hk hq => by
          have := Nat.mul_le_mul_right b (show k + 1 ≤ m by omega)
          rw [Nat.succ_mul] at this
          omega
        have HMB := Lib.hid hmb
        have HC8 := Lib.hid hc8
        clear hN hm hcl h3 HD HF HC hmb hc8 hown0 hb0 hwk hg
        go_wp2
        go_loopw [27] (fun i wr => ∃ k t : Nat, k ≤ m ∧ t = k * b ∧ i = .int .i64 k ∧ Own 5 1 w.heap.size wr.heap.size wr o c (ints .u8 (Bit.dig 8 c (N % 2 ^ t))) ∧ Below w.heap.size w wr) (fun i _ => m - (intOf i).toNat)
        case atStart => exact ⟨0, 0, Nat.zero_le _, (Nat.zero_mul _).symm, rfl, hown1, hb1⟩
        case round =>
          obtain ⟨k, t, hk, ht, rfl, hown, hbr⟩ := hrel
          by_cases hlt : k < m
          · have HT := Lib.hid ht
            obtain ⟨hx0, hx1⟩ := HX.out k hlt
            have HBk : Hid (∀ q, q < b → N / 2 ^ (t + q) % 2 = (l.getD k 0).toNat / 2 ^ q % 2) := fun q hq => by rw [HT.out]; exact HB.out k q hlt hq
            have HTb : Hid (∀ q, q < b → t + q < 8 * c) := fun q hq => by rw [HT.out]; exact Nat.lt_of_lt_of_le (HBT.out k q hlt hq) HC8.out
            have hcell := At.cell HCL.out HM.out hlt
            have hcx1 : wr.cell? ⟨gb, off + k, none⟩ = some (.int .i64 (l.getD k 0)) := (hbr.cell (p := ⟨gb, off + k, none⟩) (lt_of_cell hcell)).trans hcell
            generalize l.getD k 0 = x at hx0 hx1 HBk hcell hcx1
            obtain ⟨x, rfl⟩ := Int.eq_ofNat_of_zero_le hx0
            have hx2 : x < 2147483648 := by
              have h3 := Bit.toNat_lt hx1
              have h4 : 2 ^ b ≤ 2 ^ 31 := Nat.pow_le_pow_right (by omega) hb31
              simp only [Int.toNat_natCast] at h3
              omega
            have hmi : (k : Int) * (b : Int) = (t : Int) := by rw [HT.out]; simp
            have ht2 : t ≤ 33285996544 := by
              rw [HT.out]
              exact Nat.le_trans (Nat.mul_le_mul_right b hk) HMB.out
            clear ht hx1 hcell
            go_wp2
            go_loopw [33] (fun j wr => ∃ q s : Nat, q ≤ b ∧ s = t + q ∧ j = .int .i64 q ∧ Own 5 1 w.heap.size wr.heap.size wr o c (ints .u8 (Bit.dig 8 c (N % 2 ^ s))) ∧ Below w.heap.size w wr) (fun j _ => b - (intOf j).toNat)
            case atStart => exact ⟨0, t, Nat.zero_le _, rfl, rfl, hown, hbr⟩
            case round =>
              obtain ⟨q, s, hq, hs, rfl, hown2, hb2⟩ := hrel
              by_cases hlq : q < b
              · have HQ := Lib.hid (HBk.out q hlq)
                rw [← hs, Int.toNat_natCast] at HQ
                have hs8 : s / 8 < c := by have := HTb.out q hlq; omega
                have hs2 : s ≤ 33285996575 := by omega
                have hand := shr_and x q (by omega)
                have HS := Lib.hid hs
                have hsi : (t : Int) + (q : Int) = (s : Int) := by omega
                clear hs hown hbr hcx1
                have hq31 : q < 31 := by omega
                have HST := Lib.hid (dig_step c s N)
                have HY := Lib.hid (byte_at (c := c) (n := s) (X := N % 2 ^ s) (Nat.mod_lt _ (Nat.pow_pos (by omega))) hs8)
                obtain ⟨g, cp, rfl, g1, g2, g3⟩ := hown2
                have hcw : wr.cell? ⟨g, s / 8, none⟩ = some (.int .u8 (N % 2 ^ s / 2 ^ (s / 8 * 8) : Nat)) := (g3.cellAt (s / 8) (by omega)).trans (by rw [ints_get (by rw [Bit.dig_len]; omega), HY.out.1])
                have hfr := g3.frozenAt (s / 8)
                have hy := HY.out.2
                have hr8 : s % 8 < 8 := Nat.mod_lt _ (by omega)
                rw [HQ.out] at HST
                by_cases hbit : x / 2 ^ q % 2 = 1
                · rw [hbit] at hand HST
                  have R := Lib.hid (g3.stored (s / 8) (.int .u8 (N % 2 ^ s / 2 ^ (s / 8 * 8) + 2 ^ (s % 8) * 1 : Nat)))
                  generalize hyy : N % 2 ^ s / 2 ^ (s / 8 * 8) = y at hcw R hy HST
                  have HOR : Hid (bits .or .u8 (y : Int) (2 ^ (s % 8) % 256) = ((y + 2 ^ (s % 8) * 1 : Nat) : Int)) := by
                    have := or_byte hy hr8
                    rw [Nat.mul_one]
                    exact this
                  clear hyy hbit
                  go_wp2
                  go_region
                  go_wp2
                  go_roundw
                  case rel =>
                    rw [HOR.out]
                    refine ⟨q + 1, s + 1, by omega, by rw [HS.out]; rfl, by go_num, ?_, hb2.trans ⟨rfl, rfl, rfl, R.out.2.size, fun j hj => R.out.2.block j (by have := hb2.size; omega) (by simp; omega)⟩⟩
                    rw [HST.out, ints_set]
                    exact (show Own 5 1 w.heap.size _ _ _ _ _ from ⟨g, cp, rfl, g1, (R.out.1.lt g rfl).2, R.out.1⟩ : Own _ _ _ _ _ _ _ _).drew
                  case measure => simp [intOf]; omega
                · have hb0' : x / 2 ^ q % 2 = 0 := by omega
                  rw [hb0'] at hand HST
                  have R := Lib.hid (g3.stored (s / 8) (.int .u8 (N % 2 ^ s / 2 ^ (s / 8 * 8) + 2 ^ (s % 8) * 0 : Nat)))
                  generalize hyy : N % 2 ^ s / 2 ^ (s / 8 * 8) = y at hcw R hy HST
                  have HOR : Hid (bits .or .u8 (y : Int) 0 = ((y + 2 ^ (s % 8) * 0 : Nat) : Int)) := by
                    have h7 : 2 ^ (s % 8) ≤ 2 ^ 7 := Nat.pow_le_pow_right (by omega) (by omega)
                    exact or_byte0 (by omega)
                  clear hyy hbit hb0'
                  go_wp2
                  go_region
                  go_wp2
                  go_roundw
                  case rel =>
                    rw [HOR.out]
                    refine ⟨q + 1, s + 1, by omega, by rw [HS.out]; rfl, by go_num, ?_, hb2.trans ⟨rfl, rfl, rfl, R.out.2.size, fun j hj => R.out.2.block j (by have := hb2.size; omega) (by simp; omega)⟩⟩
                    rw [HST.out, ints_set]
                    exact (show Own 5 1 w.heap.size _ _ _ _ _ from ⟨g, cp, rfl, g1, (R.out.1.lt g rfl).2, R.out.1⟩ : Own _ _ _ _ _ _ _ _).drew
                  case measure => simp [intOf]; omega
              · obtain rfl : q = b := by omega
                have HS := Lib.hid hs
                clear hs hown hbr
                go_wp2
                go_roundw
                case rel => exact ⟨k + 1, s, by omega, by rw [Nat.succ_mul, ← HT.out]; exact HS.out, by go_num, hown2, hb2⟩
                case measure => simp [intOf]; omega
          · obtain rfl : k = m := by omega
            have HE : Hid (Bit.pack l b = Bit.dig 8 c (N % 2 ^ t)) := by
              show Bit.pack l b = _
              rw [HPC.out, ht, Nat.mod_eq_of_lt HL.out]
            clear ht
            go_wp2
            go_ret
            exact ⟨_, rfl, by rw [HE.out, Bit.dig_len]; exact hown, hbr⟩
  · have hwk : wokB v = false := decide_eq_false hv
    have HP : Hid (Bit.pack l v = []) := by
      show Bit.pack l v = []
      unfold Bit.pack
      rw [if_neg (fun h => hv (Bit.fits_true.1 h).2)]
    clear hv
    go_enter Tryz.func157, Tryz.ntmps157
    go_wp2_with (go_at_call 180; refine (iWidthOk _ _).mono ?_; rintro e w' ⟨rfl, rfl⟩)
    go_ret
    exact ⟨_, rfl, by rw [HP.out]; exact hown0, hb0⟩

end Go.Proofs.YtkofafefnlommaaGreat
