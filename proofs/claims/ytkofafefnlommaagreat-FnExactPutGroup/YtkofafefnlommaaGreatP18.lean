/- Texts of this claim, one behind the other: IUnpack. -/
import Derived.Test.YtkofafefnlommaaGreatP15
import Derived.IntWalk
import Derived.Deep.RegionLaw

/- The contract of impl's UnpackBits. -/
namespace Go.Proofs.YtkofafefnlommaaGreat
open Go.RowKit

theorem own_set_same {e lo hi w v n} {xs : List Value} {i : Nat} {x : Value} (h : Own e 1 lo hi w v n xs) (hx : xs[i]? = some x) : Own e 1 lo hi w v n (xs.set i x) := by
  have e : xs.set i x = xs := by
    obtain ⟨hi, rfl⟩ := List.getElem?_eq_some_iff.1 hx
    exact List.set_getElem_self hi
  rw [e]
  exact h
theorem made_filled (K : Nat) : (madeCells #[.int .i64 0] K).toList = filled .i64 [] K := by
  have e := made_ints .i64 K
  rw [Nat.mul_one] at e
  rw [filled_nil]
  exact e

set_option maxHeartbeats 2000000 in
theorem iUnpackBits (u : Value) (m : Nat) (zs : List Int) (v k : Int) (w : World) (hmx : m ≤ 1073741824) (hm : zs.length = m) (hby : Num.Bytes zs) (hl : AtN 1 w u m (ints .u8 zs)) :
    Calls Tryz.prog 167 #[u, .int .i64 v, .int .i64 k] w (Unpacked w (Bit.unpack zs v k)) := by
  have hown0 := own_lit (e := 3) (size := 1) w #[] 0 (Nat.zero_le _) rfl
  have hb0 := below_alloc w (.cells #[] 3)
  obtain ⟨a, cap, rfl⟩ : ∃ a cap, u = .slice a m cap := by
    rcases hl with ⟨rfl, rfl, _⟩ | ⟨b, off, cap, rfl, _⟩
    · exact ⟨_, _, rfl⟩
    · exact ⟨_, _, rfl⟩
  by_cases hv : (0 ≤ k ∧ k ≤ 64) ∧ 0 ≤ v ∧ v ≤ 31
  · have hpk : pokB k v = true := decide_eq_true hv
    obtain ⟨⟨k0, k1⟩, v0, v1⟩ := hv
    obtain ⟨K, rfl⟩ := Int.eq_ofNat_of_zero_le k0
    obtain ⟨b, rfl⟩ := Int.eq_ofNat_of_zero_le v0
    have hK : K ≤ 64 := by omega
    have hb : b ≤ 31 := by omega
    have hkb : K * b ≤ 64 * 31 := Nat.mul_le_mul hK hb
    have HC := Lib.hid (iPackedBytes K b w (by omega) hb)
    have hmi : (K : Int) * (b : Int) = ((K * b : Nat) : Int) := by simp
    by_cases h3 : m = (K * b + 7) / 8
    · have hne : (((m : Int)) != (((K * b + 7) / 8 : Nat) : Int)) = false := by rw [h3]; simp
      have hmk : K * b ≤ 8 * m := by omega
      have hm8 : m ≤ 249 := by omega
      have HZF := Lib.hid (iZeroFrom (.slice a m cap) m zs (K * b) w (by omega) hmk hm hby hl)
      cases hz : zeroB zs (K * b) with
      | false =>
        have HP : Hid (Bit.unpack zs b K = ([], false)) := by
          show Bit.unpack zs b K = ([], false)
          unfold Bit.unpack
          simp only [Int.toNat_natCast]
          exact if_neg (fun h => of_decide_eq_false hz h.2.2.2)
        rw [hz] at HZF
        generalize (K * b + 7) / 8 = c at HC hne
        generalize K * b = t at HZF hmi
        clear h3 hz
        go_enter Tryz.func167, Tryz.ntmps167
        go_wp2_with (first | (go_at_call 187; refine (iPackOk _ _ _).mono ?_; rintro e w' ⟨rfl, rfl⟩) | (go_at_call 182; refine HC.out.mono ?_; rintro e w' ⟨rfl, rfl⟩) | (go_at_call 188; refine HZF.out.mono ?_; rintro e w' ⟨rfl, rfl⟩))
        go_ret2
        rw [HP.out]
        exact ⟨_, rfl, hown0, hb0⟩
      | true =>
        have HP : Hid (Bit.unpack zs b K = (Bit.dig b K (Bit.val 8 zs), true)) := by
          show Bit.unpack zs b K = _
          unfold Bit.unpack
          simp only [Int.toNat_natCast]
          rw [if_pos ⟨by omega, by omega, by rw [hm]; exact h3, of_decide_eq_true hz⟩]
        have HBA : Hid (∀ (n : Nat) (W : World), n ≤ 1000000 → Below w.heap.size w W → Calls Tryz.prog 189 #[.slice a m cap, .int .i64 n] W fun e w' => e = .returned (.int .i64 ((Bit.val 8 zs / 2 ^ n % 2 : Nat) : Int)) ∧ W = w') := by
          intro n W hn hW
          have := iBitAt (.slice a m cap) m zs (n : Int) W (by omega) (by omega) hm hby (hl.below hW)
          unfold Bit.bitAt at this
          rw [if_neg (by omega), Int.toNat_natCast] at this
          exact this
        rw [hz] at HZF
        generalize (K * b + 7) / 8 = c at HC hne
        generalize K * b = t at HZF hmi
        generalize Bit.val 8 zs = N at HP HBA
        clear h3 hz hl hm hby
        go_enter Tryz.func167, Tryz.ntmps167
        go_wp2_with (first | (go_at_call 187; refine (iPackOk _ _ _).mono ?_; rintro e w' ⟨rfl, rfl⟩) | (go_at_call 182; refine HC.out.mono ?_; rintro e w' ⟨rfl, rfl⟩) | (go_at_call 188; refine HZF.out.mono ?_; rintro e w' ⟨rfl, rfl⟩) | (at_make; refine make_law Tryz.elemInts rfl _ _ rfl .i64 .i64 _ _ K rfl rfl rfl rfl (by omega) (by unfold maxLen; omega) ?_))
        intro w1 hown1 hb1
        rw [made_filled] at hown1
        clear HC HZF hne hmi hpk k0 k1 v0 v1
        go_wp2
        generalize hg : (Value.slice (some ⟨w.heap.size, 0, none⟩) K K) = o at hown1 ⊢
        clear hg
        go_loopw [36] (fun i wr => ∃ d : Nat, d ≤ K ∧ i = .int .i64 d ∧ Own 3 1 w.heap.size wr.heap.size wr o K (filled .i64 (Bit.dig b d N) K) ∧ Below w.heap.size w wr) (fun i _ => K - (intOf i).toNat)
        case atStart => exact ⟨0, Nat.zero_le _, rfl, hown1, hb1⟩
        case round =>
          obtain ⟨d, hd, rfl, hown, hbr⟩ := hrel
          by_cases hlt : d < K
          · have hdb : d * b ≤ 64 * 31 := Nat.mul_le_mul (by omega) hb
            have hmi : (d : Int) * (b : Int) = ((d * b : Nat) : Int) := by simp
            have HDS := Lib.hid (Bit.dig_succ b d N)
            have HDL := Lib.hid (Bit.dig_len b d N)
            have HBQ : Hid (∀ q, N / 2 ^ (d * b) / 2 ^ q % 2 = N / 2 ^ (d * b + q) % 2) := fun q => by rw [Nat.pow_add, Nat.div_div_eq_div_mul]
            generalize hc2 : d * b = t at hdb hmi HDS HBQ
            clear hc2
            generalize hM : N / 2 ^ t = M at HDS HBQ
            clear hM
            have HD0 : Hid ((filled .i64 (Bit.dig b d N) K)[d]? = some (.int .i64 0)) := by
              have := filled_get (k := .i64) (pre := Bit.dig b d N) (n := K) (by rw [HDL.out]; exact hlt)
              rw [HDL.out] at this
              exact this
            have HDE : Hid ((filled .i64 (Bit.dig b d N) K).set d (.int .i64 (M % 2 ^ b : Nat)) = filled .i64 (Bit.dig b (d + 1) N) K) := by
              have := filled_set (k := .i64) (pre := Bit.dig b d N) (n := K) ((M % 2 ^ b : Nat) : Int) (by rw [HDL.out]; exact hlt)
              rw [HDL.out] at this
              show _ = _
              rw [HDS.out]
              exact this
            have HFL : Hid ((filled .i64 (Bit.dig b d N) K).length = K) := by
              show (filled .i64 (Bit.dig b d N) K).length = K
              have := hown.len
              rw [Nat.mul_one] at this
              exact this
            generalize filled .i64 (Bit.dig b d N) K = F at hown HD0 HDE HFL
            go_wp2
            go_loopw [40] (fun j wr => ∃ q : Nat, q ≤ b ∧ j = .int .i64 q ∧ Own 3 1 w.heap.size wr.heap.size wr o K (F.set d (.int .i64 (M % 2 ^ q : Nat))) ∧ Below w.heap.size w wr) (fun j _ => b - (intOf j).toNat)
            case atStart => exact ⟨0, Nat.zero_le _, rfl, own_set_same hown (by rw [HD0.out]; simp [Nat.mod_one]), hbr⟩
            case round =>
              obtain ⟨q, hq, rfl, hown2, hb2⟩ := hrel
              by_cases hlq : q < b
              · have HMS := Lib.hid (Bit.mod_step M q)
                have hlt2 : M % 2 ^ q < 2 ^ q := Nat.mod_lt _ (Nat.pow_pos (by omega))
                have hcall : Calls Tryz.prog 189 #[.slice a m cap, .int .i64 (t + q : Nat)] wr.drew fun e' w' => e' = .returned (.int .i64 ((N / 2 ^ (t + q) % 2 : Nat) : Int)) ∧ wr.drew = w' := HBA.out (t + q) wr.drew (by omega) (hb2.trans (below_drewN _ _ 1))
                rw [← HBQ.out] at hcall
                obtain ⟨g, cp, rfl, g1, g2, g3⟩ := hown2
                have hcw : wr.cell? ⟨g, d, none⟩ = some (.int .i64 (M % 2 ^ q : Nat)) := (g3.cellAt d (by omega)).trans (by rw [List.getElem?_set_self (by rw [HFL.out]; exact hlt)])
                have hfr := g3.frozenAt d
                have hsi : (t : Int) + (q : Int) = ((t + q : Nat) : Int) := by simp
                generalize hs : t + q = s at hcall hsi
                have HS := Lib.hid hs
                clear hs hown hbr
                by_cases hbit : M / 2 ^ q % 2 = 1
                · rw [hbit] at hcall HMS
                  have R := Lib.hid (g3.stored d (.int .i64 (M % 2 ^ q + 2 ^ q * 1 : Nat)))
                  generalize M % 2 ^ q = X at hlt2 HMS hcw R
                  have HCL := Lib.hid hcall
                  have HOR := Lib.hid (or_on hlt2 (by omega))
                  clear hcall hbit
                  go_wp2
                  have hwt : IntKind.i64.wrap (t : Int) = (t : Int) := IntWalk.i64_in _ (by omega)
                  have hws : IntKind.i64.wrap (s : Int) = (s : Int) := IntWalk.i64_in _ (by omega)
                  go_region_law (go_simp; go_at_call 189; (with_reducible refine HCL.out.mono ?_); rintro e w' ⟨rfl, rfl⟩)
                  all_goals
                    clear hwt hws
                    go_wp2
                    go_roundw
                    case rel =>
                      rw [HOR.out]
                      refine ⟨q + 1, by omega, by go_num, ?_, hb2.trans ⟨rfl, rfl, rfl, R.out.2.size, fun j hj => R.out.2.block j (by have := hb2.size; omega) (by simp; omega)⟩⟩
                      rw [HMS.out]
                      have h := (show Own 3 1 w.heap.size _ _ _ _ _ from ⟨g, cp, rfl, g1, (R.out.1.lt g rfl).2, R.out.1⟩ : Own _ _ _ _ _ _ _ _).drew
                      rw [List.set_set] at h
                      exact h
                    case measure => simp [intOf]; omega
                · have hb0' : M / 2 ^ q % 2 = 0 := by omega
                  rw [hb0'] at hcall HMS
                  have R := Lib.hid (g3.stored d (.int .i64 (M % 2 ^ q + 2 ^ q * 0 : Nat)))
                  generalize M % 2 ^ q = X at hlt2 HMS hcw R
                  have HCL := Lib.hid hcall
                  have HOR : Hid (bits .or .i64 (X : Int) 0 = ((X + 2 ^ q * 0 : Nat) : Int)) := by
                    have : 2 ^ q ≤ 2 ^ 31 := Nat.pow_le_pow_right (by omega) (by omega)
                    exact or_off (by omega)
                  clear hcall hbit hb0'
                  go_wp2
                  have hwt : IntKind.i64.wrap (t : Int) = (t : Int) := IntWalk.i64_in _ (by omega)
                  have hws : IntKind.i64.wrap (s : Int) = (s : Int) := IntWalk.i64_in _ (by omega)
                  go_region_law (go_simp; go_at_call 189; (with_reducible refine HCL.out.mono ?_); rintro e w' ⟨rfl, rfl⟩)
                  all_goals
                    clear hwt hws
                    go_wp2
                    go_roundw
                    case rel =>
                      rw [HOR.out]
                      refine ⟨q + 1, by omega, by go_num, ?_, hb2.trans ⟨rfl, rfl, rfl, R.out.2.size, fun j hj => R.out.2.block j (by have := hb2.size; omega) (by simp; omega)⟩⟩
                      rw [HMS.out]
                      have h := (show Own 3 1 w.heap.size _ _ _ _ _ from ⟨g, cp, rfl, g1, (R.out.1.lt g rfl).2, R.out.1⟩ : Own _ _ _ _ _ _ _ _).drew
                      rw [List.set_set] at h
                      exact h
                    case measure => simp [intOf]; omega
              · obtain rfl : q = b := by omega
                rw [HDE.out] at hown2
                go_wp2
                go_roundw
                case rel => exact ⟨d + 1, by omega, by go_num, hown2, hb2⟩
                case measure => simp [intOf]; omega
          · obtain rfl : d = K := by omega
            go_wp2
            go_ret2
            rw [HP.out]
            refine ⟨_, rfl, ?_, hbr⟩
            rw [filled_all (Bit.dig_len _ _ _)] at hown
            rw [Bit.dig_len]
            exact hown
    · have hne : (((m : Int)) != (((K * b + 7) / 8 : Nat) : Int)) = true := by
        have : ¬ ((m : Int) = (((K * b + 7) / 8 : Nat) : Int)) := by omega
        simpa using this
      have HP := Lib.hid (unpack_no (zs := zs) (v := (b : Int)) (k := (K : Int)) (fun h => h3 (by simpa [hm] using h.2.2)))
      generalize (K * b + 7) / 8 = c at HC hne
      clear h3
      go_enter Tryz.func167, Tryz.ntmps167
      go_wp2_with (first | (go_at_call 187; refine (iPackOk _ _ _).mono ?_; rintro e w' ⟨rfl, rfl⟩) | (go_at_call 182; refine HC.out.mono ?_; rintro e w' ⟨rfl, rfl⟩))
      go_ret2
      rw [HP.out]
      exact ⟨_, rfl, hown0, hb0⟩
  · have hpk : pokB k v = false := decide_eq_false hv
    have HP := Lib.hid (unpack_no (zs := zs) (v := v) (k := k) (fun h => hv ⟨h.1, h.2.1⟩))
    clear hv
    go_enter Tryz.func167, Tryz.ntmps167
    go_wp2_with (go_at_call 187; refine (iPackOk _ _ _).mono ?_; rintro e w' ⟨rfl, rfl⟩)
    go_ret2
    rw [HP.out]
    exact ⟨_, rfl, hown0, hb0⟩

end Go.Proofs.YtkofafefnlommaaGreat
