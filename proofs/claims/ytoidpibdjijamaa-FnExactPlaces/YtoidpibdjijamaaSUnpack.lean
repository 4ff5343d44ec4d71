/- The contract of the model's UnpackBits. -/
import Derived.Test.YtoidpibdjijamaaSPack
namespace Go.Proofs.Ytoidpibdjijamaa
open Go.RowKit

/-- What UnpackBits returns. -/
def Unpacked (w : World) (r : List Int × Bool) (e : Ending) (w' : World) : Prop :=
  ∃ v', e = .returned (.tuple #[v', .bool r.2]) ∧ Own 3 1 w.heap.size w'.heap.size w' v' r.1.length (ints .i64 r.1) ∧ Below w.heap.size w w'

theorem unpack_no {zs : List Int} {v k : Int} (h : ¬ ((0 ≤ k ∧ k ≤ 64) ∧ (0 ≤ v ∧ v ≤ 31) ∧ zs.length = (k.toNat * v.toNat + 7) / 8)) : Bit.unpack zs v k = ([], false) := by
  unfold Bit.unpack
  exact if_neg (fun ⟨h1, h2, h3, _⟩ => h ⟨h1, h2, h3⟩)

theorem or_on {X q : Nat} (h : X < 2 ^ q) (hq : q < 31) : bits .or .i64 (X : Int) (wrap64 (2 ^ q)) = ((X + 2 ^ q * 1 : Nat) : Int) := by
  have h2 : 2 ^ q ≤ 2 ^ 30 := Nat.pow_le_pow_right (by omega) (by omega)
  have e : wrap64 ((2 : Int) ^ q) = ((2 ^ q : Nat) : Int) := by
    have e2 : ((2 ^ q : Nat) : Int) = (2 : Int) ^ q := by simp
    rw [← e2]
    unfold wrap64
    omega
  have e3 := Nat.two_pow_add_eq_or_of_lt h 1
  rw [e, i64_or_nat X (2 ^ q) (by omega) (by omega), Nat.or_comm]
  rw [Nat.mul_one] at e3 ⊢
  rw [← e3, Nat.add_comm]
theorem or_off {X : Nat} (h : X < 9223372036854775808) : bits .or .i64 (X : Int) 0 = (X : Int) := by
  have := i64_or_nat X 0 h (by omega)
  rw [Nat.or_zero] at this
  exact this

set_option maxHeartbeats 2000000 in
theorem sUnpackBits (u : Value) (m : Nat) (zs : List Int) (v k : Int) (w : World) (hmx : m ≤ 1073741824) (hm : zs.length = m) (hby : Num.Bytes zs) (hl : AtN 1 w u m (ints .u8 zs)) :
    Calls Try.prog 69 #[u, .int .i64 v, .int .i64 k] w (Unpacked w (Bit.unpack zs v k)) := by
  have hown0 := own_lit (e := 3) (size := 1) w #[] 0 (Nat.zero_le _) rfl
  have hb0 := below_alloc w (.cells #[] 3)
  have hl0 := hl.below hb0
  obtain ⟨a, cap, rfl⟩ : ∃ a cap, u = .slice a m cap := by
    rcases hl with ⟨rfl, rfl, _⟩ | ⟨b, off, cap, rfl, _⟩
    · exact ⟨_, _, rfl⟩
    · exact ⟨_, _, rfl⟩
  have HBF := Lib.hid (fun W => sBytesFor k v W)
  by_cases h1 : 0 ≤ k ∧ k ≤ 64
  · have hb1 : Num.inB k 0 64 = true := Num.inB_true.2 h1
    by_cases h2 : 0 ≤ v ∧ v ≤ 31
    · have hb2 : Num.inB v 0 31 = true := Num.inB_true.2 h2
      obtain ⟨K, rfl⟩ := Int.eq_ofNat_of_zero_le h1.1
      obtain ⟨b, rfl⟩ := Int.eq_ofNat_of_zero_le h2.1
      have hK : K ≤ 64 := by omega
      have hb : b ≤ 31 := by omega
      have hkb : K * b ≤ 64 * 31 := Nat.mul_le_mul hK hb
      have hbf : Bit.bytesFor K b = (((K * b + 7) / 8 : Nat) : Int) := by
        unfold Bit.bytesFor
        rw [if_pos ⟨h1, h2⟩]
        simp
      rw [hbf] at HBF
      by_cases h3 : m = (K * b + 7) / 8
      · have hne : (((m : Int)) != (((K * b + 7) / 8 : Nat) : Int)) = false := by rw [h3]; simp
        have hmk : K * b ≤ 8 * m := by omega
        have hm8 : m ≤ 249 := by omega
        have HV : Hid (Bit.val 8 zs < 2 ^ (8 * m)) := by
          have := Bit.val_lt (Bit.digs_bytes.2 hby)
          rw [hm, Nat.mul_comm] at this
          exact this
        have HBA : Hid (∀ (n : Nat) (W : World), n ≤ 1000000 → Below w.heap.size w W → Calls Try.prog 98 #[.slice a m cap, .int .i64 n] W fun e w' => e = .returned (.int .i64 ((Bit.val 8 zs / 2 ^ n % 2 : Nat) : Int)) ∧ W = w') := by
          intro n W hn hW
          have := sBitAt (.slice a m cap) m zs (n : Int) W (by omega) (by omega) hm hby (hl.below hW)
          unfold Bit.bitAt at this
          rw [if_neg (by omega), Int.toNat_natCast] at this
          exact this
        have HP1 : Hid (Bit.val 8 zs < 2 ^ (K * b) → Bit.unpack zs b K = (Bit.dig b K (Bit.val 8 zs), true)) := by
          intro h
          unfold Bit.unpack
          simp only [Int.toNat_natCast]
          rw [if_pos ⟨h1, h2, by rw [hm]; exact h3, h⟩]
        have HP0 : Hid (¬ Bit.val 8 zs < 2 ^ (K * b) → Bit.unpack zs b K = ([], false)) := by
          intro h
          unfold Bit.unpack
          simp only [Int.toNat_natCast]
          exact if_neg (fun k => h k.2.2.2)
        generalize Bit.val 8 zs = N at HV HBA HP1 HP0
        generalize hc : (K * b + 7) / 8 = c at HBF hne
        have H3 := Lib.hid h3
        clear h1 h2 hbf hc hl hl0 hm hby h3
        go_enter Try.func69, Try.ntmps69
        go_wp2_with (first | (go_at_call 66; refine (l1In _ _ _ _).mono ?_; rintro e w' ⟨rfl, rfl⟩) | (go_at_call 97; refine (HBF.out _).mono ?_; rintro e w' ⟨rfl, rfl⟩))
        go_loopw [8, 9] (fun o i wr => ∃ d : Nat, d ≤ K ∧ i = .int .i64 d ∧ Own 3 1 w.heap.size wr.heap.size wr o d (ints .i64 (Bit.dig b d N)) ∧ Below w.heap.size w wr) (fun _ i _ => K - (intOf i).toNat)
        case atStart => exact ⟨0, Nat.zero_le _, rfl, hown0, hb0⟩
        case round =>
          obtain ⟨d, hd, rfl, hown, hbr⟩ := hrel
          by_cases hlt : d < K
          · have hdb : d * b ≤ 64 * 31 := Nat.mul_le_mul (by omega) hb
            have hmi : (d : Int) * (b : Int) = ((d * b : Nat) : Int) := by simp
            have HDS := Lib.hid (Bit.dig_succ b d N)
            have HBQ : Hid (∀ q, N / 2 ^ (d * b) / 2 ^ q % 2 = N / 2 ^ (d * b + q) % 2) := fun q => by rw [Nat.pow_add, Nat.div_div_eq_div_mul]
            generalize hc2 : d * b = t at hdb hmi HDS HBQ
            clear hc2
            generalize hM : N / 2 ^ t = M at HDS HBQ
            clear hM
            go_wp2
            go_loop [10, 11] (fun x j => ∃ q : Nat, q ≤ b ∧ j = .int .i64 q ∧ x = .int .i64 (M % 2 ^ q : Nat)) (fun _ j => b - (intOf j).toNat)
            case atStart => exact ⟨0, Nat.zero_le _, rfl, by simp [Nat.mod_one]⟩
            case round =>
              obtain ⟨q, hq, rfl, rfl⟩ := hrel
              by_cases hlq : q < b
              · have HMS := Lib.hid (Bit.mod_step M q)
                have hlt2 : M % 2 ^ q < 2 ^ q := Nat.mod_lt _ (Nat.pow_pos (by omega))
                have hcall := HBA.out (t + q) wr (by omega) hbr
                rw [← HBQ.out] at hcall
                generalize M % 2 ^ q = X at hlt2 HMS
                by_cases hbit : M / 2 ^ q % 2 = 1
                · rw [hbit] at hcall HMS
                  have HC := Lib.hid hcall
                  clear hcall hbit
                  go_wp2_with (go_at_call 98; refine HC.out.mono ?_; rintro e w' ⟨rfl, rfl⟩)
                  go_round
                  case rel => exact ⟨q + 1, by omega, by go_num, by rw [or_on hlt2 (by omega), HMS.out]⟩
                  case measure => simp [intOf]; omega
                · have hb0' : M / 2 ^ q % 2 = 0 := by omega
                  rw [hb0'] at hcall HMS
                  have HC := Lib.hid hcall
                  clear hcall hbit hb0'
                  go_wp2_with (go_at_call 98; refine HC.out.mono ?_; rintro e w' ⟨rfl, rfl⟩)
                  go_round
                  case rel => exact ⟨q + 1, by omega, by go_num, by rw [or_off (by have : 2 ^ q ≤ 2 ^ 31 := Nat.pow_le_pow_right (by omega) (by omega)
                                                                                   omega), HMS.out, Nat.mul_zero]; rfl⟩
                  case measure => simp [intOf]; omega
              · obtain rfl : q = b := by omega
                generalize M % 2 ^ q = R at HDS ⊢
                go_wp2_with (at_builtin; refine append1_law Try.elemInts rfl _ _ rfl _ _ _ _ _ (.int .i64 R) rfl rfl hown rfl (by unfold maxLen; omega) (by omega) ?_)
                intro v3 w3 o3 e3
                have b3 := hbr.trans (e3.below hown)
                go_wp2
                go_roundw
                case rel =>
                  refine ⟨d + 1, by omega, by go_num, ?_, b3⟩
                  rw [HDS.out, ints_append]
                  exact o3
                case measure => simp [intOf]; omega
          · obtain rfl : d = K := by omega
            have hmi : (d : Int) * (b : Int) = ((d * b : Nat) : Int) := by simp
            generalize hc2 : d * b = t at hkb hmk hmi HP1 HP0
            clear hc2 H3
            go_wp2
            go_loop [12] (fun n => ∃ s : Nat, t ≤ s ∧ s ≤ 8 * m ∧ n = .int .i64 s ∧ ∀ j, t ≤ j → j < s → N / 2 ^ j % 2 = 0) (fun n => 8 * m - (intOf n).toNat)
            case atStart => exact ⟨t, Nat.le_refl _, hmk, by go_num, fun j h1 h2 => by omega⟩
            case round =>
              obtain ⟨s, hs0, hs1, rfl, hz⟩ := hrel
              have HZ := Lib.hid hz
              clear hz
              by_cases hls : s < 8 * m
              · have hcall := HBA.out s wr (by omega) hbr
                by_cases hbit : N / 2 ^ s % 2 = 0
                · have HZ2 : Hid (∀ j, t ≤ j → j < s + 1 → N / 2 ^ j % 2 = 0) := by
                    intro j h1 h2
                    by_cases hj : j = s
                    · subst hj; exact hbit
                    · exact HZ.out j h1 (by omega)
                  rw [hbit] at hcall
                  have HC := Lib.hid hcall
                  clear hcall hbit
                  go_wp2_with (go_at_call 98; refine HC.out.mono ?_; rintro e w' ⟨rfl, rfl⟩)
                  go_round
                  case rel => exact ⟨s + 1, by omega, by omega, by go_num, HZ2.out⟩
                  case measure => simp [intOf]; omega
                · have HP := Lib.hid (HP0.out (Bit.ge_of_bit hs0 hbit))
                  have hne2 : (((N / 2 ^ s % 2 : Nat) : Int) != 0) = true := by
                    have : ¬ ((N / 2 ^ s % 2 : Nat) : Int) = 0 := by omega
                    simpa using this
                  generalize N / 2 ^ s % 2 = y at hcall hne2
                  have HC := Lib.hid hcall
                  have hown5 := own_lit (e := 3) (size := 1) wr #[] 0 (Nat.zero_le _) rfl
                  have hb5 := below_then hbr (below_alloc wr (.cells #[] 3)) hbr.size
                  clear hcall hbit
                  go_wp2_with (go_at_call 98; refine HC.out.mono ?_; rintro e w' ⟨rfl, rfl⟩)
                  go_ret2
                  rw [HP.out]
                  exact ⟨_, rfl, hown5.lower hbr.size, hb5⟩
              · obtain rfl : s = 8 * m := by omega
                have HP : Hid (Bit.unpack zs b d = (Bit.dig b d N, true)) := by
                  refine HP1.out ?_
                  rcases Bit.lt_of_bits (8 * m) HV.out HZ.out with h | h
                  · exact h
                  · omega
                go_wp2
                go_ret2
                rw [HP.out]
                exact ⟨_, rfl, by rw [Bit.dig_len]; exact hown, hbr⟩
      · have hne : (((m : Int)) != (((K * b + 7) / 8 : Nat) : Int)) = true := by
          have : ¬ ((m : Int) = (((K * b + 7) / 8 : Nat) : Int)) := by omega
          simpa using this
        have HP := Lib.hid (unpack_no (zs := zs) (v := (b : Int)) (k := (K : Int)) (fun h => h3 (by simpa [hm] using h.2.2)))
        generalize (K * b + 7) / 8 = c at HBF hne
        clear h1 h2 h3 hbf
        go_enter Try.func69, Try.ntmps69
        go_wp2_with (first | (go_at_call 66; refine (l1In _ _ _ _).mono ?_; rintro e w' ⟨rfl, rfl⟩) | (go_at_call 97; refine (HBF.out _).mono ?_; rintro e w' ⟨rfl, rfl⟩))
        go_ret2
        rw [HP.out]
        exact ⟨_, rfl, hown0, hb0⟩
    · have hb2 : Num.inB v 0 31 = false := Num.inB_false.2 h2
      have HP := Lib.hid (unpack_no (zs := zs) (v := v) (k := k) (fun h => h2 h.2.1))
      clear h1 h2
      go_enter Try.func69, Try.ntmps69
      go_wp2_with (go_at_call 66; refine (l1In _ _ _ _).mono ?_; rintro e w' ⟨rfl, rfl⟩)
      go_ret2
      rw [HP.out]
      exact ⟨_, rfl, hown0, hb0⟩
  · have hb1 : Num.inB k 0 64 = false := Num.inB_false.2 h1
    have HP := Lib.hid (unpack_no (zs := zs) (v := v) (k := k) (fun h => h1 h.1))
    clear h1
    go_enter Try.func69, Try.ntmps69
    go_wp2_with (go_at_call 66; refine (l1In _ _ _ _).mono ?_; rintro e w' ⟨rfl, rfl⟩)
    go_ret2
    rw [HP.out]
    exact ⟨_, rfl, hown0, hb0⟩

end Go.Proofs.Ytoidpibdjijamaa
