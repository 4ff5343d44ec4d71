/- Texts of this claim, one behind the other: SGet, SBits, SPack, SUnpack. -/
import Derived.Test.YtkofafefnlommaaGreatP5
import Derived.Test.YtkofafefnlommaaGreatP2
import Derived.OpenShut
import Derived.Test.YtkofafefnlommaaGreatP1

/- The contract of the model's GetNum. -/
namespace Go.Proofs.YtkofafefnlommaaGreat
open Go.RowKit


theorem rd_or {x c : Int} {k : Nat} (hk : k < 5) (hx0 : 0 ≤ x) (hx1 : x < 128 ^ k) (hc0 : 0 ≤ c) (hc1 : c ≤ 255) :
    bits .or .i64 x (wrap64 (bits .and .i64 c 127 * 2 ^ (7 * k))) = x + c % 128 * 128 ^ k := by
  rw [and127 c hc0 (by omega)]
  have h5 : k = 0 ∨ k = 1 ∨ k = 2 ∨ k = 3 ∨ k = 4 := by omega
  rcases h5 with rfl | rfl | rfl | rfl | rfl <;> simp only [Nat.mul_zero, Nat.reduceMul, Int.reducePow] at hx1 ⊢
  · rw [IntWalk.wrap64_in _ (by omega)]; exact or_join x (c % 128) 0 hx0 (by omega) (by omega) (by omega) (by omega)
  · rw [IntWalk.wrap64_in _ (by omega)]; exact or_join x (c % 128) 7 hx0 (by omega) (by omega) (by omega) (by omega)
  · rw [IntWalk.wrap64_in _ (by omega)]; exact or_join x (c % 128) 14 hx0 (by omega) (by omega) (by omega) (by omega)
  · rw [IntWalk.wrap64_in _ (by omega)]; exact or_join x (c % 128) 21 hx0 (by omega) (by omega) (by omega) (by omega)
  · rw [IntWalk.wrap64_in _ (by omega)]; exact or_join x (c % 128) 28 hx0 (by omega) (by omega) (by omega) (by omega)

set_option maxHeartbeats 1000000 in
theorem sGetNum (v : Value) (n : Nat) (zs : List Int) (i : Int) (w : World) (hn : n ≤ 1152921504606846976) (hz : zs.length = n) (hby : Num.Bytes zs) (h : At 1 w v n (ints .u8 zs)) :
    Calls Tryz.prog 60 #[v, .int .i64 i] w fun e w' => e = .returned (getRes (Num.get zs i)) ∧ w = w' := by
  obtain ⟨b, off, cap, rfl, h1, h2, h3, hc⟩ := h
  have HZ := Lib.hid hz
  clear hz h3
  by_cases hin : 0 ≤ i ∧ i ≤ n
  · have hib : Num.inB i 0 n = true := Num.inB_true.2 hin
    obtain ⟨m, rfl⟩ := Int.eq_ofNat_of_zero_le hin.1
    have hmn : m ≤ n := by omega
    clear hin
    have hmz : m ≤ zs.length := by rw [HZ.out]; omega
    go_enter Tryz.func60, Tryz.ntmps60
    go_wp2_with (go_at_call 61; refine (l1In _ _ _ _).mono ?_; rintro e w' ⟨rfl, rfl⟩)
    go_loop [7, 8] (fun t j => ∃ (k : Nat) (x : Int), k ≤ 5 ∧ k ≤ n - m ∧ j = .int .i64 k ∧ t = .int .i64 x ∧ 0 ≤ x ∧ x < 128 ^ k ∧ Num.rd (5 - k) k x (zs.drop (m + k)) = Num.rd 5 0 0 (zs.drop m)) (fun _ j => 5 - (intOf j).toNat)
    case atStart => exact ⟨0, 0, by omega, by omega, rfl, rfl, by omega, by simp, by simp⟩
    case round =>
      obtain ⟨k, x, hk, hkn, rfl, rfl, hx0, hx1, hrd⟩ := hrel
      by_cases hlt : k < 5 ∧ k < n - m
      · obtain ⟨hl5, hln⟩ := hlt
        have hcx : w.cell? ⟨b, off + (m + k), none⟩ = some (.int .u8 (zs.getD (m + k) 0)) := At.cell hc HZ.out (by omega)
        have hdr := drop_cons (zs := zs) (k := m + k) (by rw [HZ.out]; omega)
        have hcb := hby (zs.getD (m + k) 0) (getD_mem (by rw [HZ.out]; omega))
        rw [hdr, fuel (by omega)] at hrd
        have HR := Lib.hid hrd
        clear hrd hdr hc
        generalize zs.getD (m + k) 0 = c at hcx hcb HR
        obtain ⟨hc0, hc1⟩ := hcb
        have ho := rd_or hl5 hx0 hx1 hc0 hc1
        have hs := rd_sum (c := c) hl5 hx0 hx1
        have HO := Lib.hid ho
        have HS := Lib.hid hs
        clear ho hs
        by_cases h128 : 128 ≤ c
        · go_wp2
          go_round
          case rel =>
            refine ⟨k + 1, _, by omega, by omega, by go_num, rfl, ?_, ?_, ?_⟩
            · rw [HO.out]; exact HS.out.2.1
            · rw [HO.out]; exact HS.out.2.2
            · rw [HO.out, ← HR.out, rd_more h128]; rfl
          case measure => simp [intOf]; omega
        · obtain ⟨y, hy⟩ : ∃ y, x + c % 128 * 128 ^ k = y := ⟨_, rfl⟩
          have ho : bits .or .i64 x (wrap64 (bits .and .i64 c 127 * 2 ^ (7 * k))) = y := HO.out.trans hy
          have hy0 : 0 ≤ y := by rw [← hy]; exact HS.out.2.1
          have HY := Lib.hid hy
          clear hy
          by_cases hcz : c = 0 ∧ 0 < k
          · obtain ⟨hcz, hk0⟩ := hcz
            have hcb : (c == 0) = true := by simp [hcz]
            have HG := Lib.hid (get_none hmz (by rw [← HR.out, hcz, rd_zero hk0]))
            have HCZ := Lib.hid hcz
            clear hcz
            by_cases hyg : 2000000000 < y
            · go_wp2
              go_ret3
              exact ⟨by rw [HG.out]; rfl, rfl⟩
            · go_wp2
              go_ret3
              exact ⟨by rw [HG.out]; rfl, rfl⟩
          · have hrs : Num.rd 5 0 0 (zs.drop m) = some (y, k + 1) := by rw [← HR.out, rd_end (by omega) hcz, HY.out]
            by_cases hyg : 2000000000 < y
            · have HG := Lib.hid (get_great hmz hrs hyg)
              clear hrs hcz
              go_wp2
              go_ret3
              exact ⟨by rw [HG.out]; rfl, rfl⟩
            · have HG := Lib.hid (get_some hmz hrs (by omega))
              clear hrs
              by_cases hc2 : c = 0
              · have hcb : (c == 0) = true := by simp [hc2]
                have hk0 : ¬ 0 < k := fun h => hcz ⟨hc2, h⟩
                have HC2 := Lib.hid hc2
                clear hc2 hcz
                go_wp2_with (go_at_call 88; refine (sZagZig _ _).mono ?_; rintro e w' ⟨rfl, rfl⟩)
                go_ret3
                exact ⟨by rw [HG.out]; simp only [getRes]; go_num, rfl⟩
              · have hcb : (c == 0) = false := by simp [hc2]
                clear hc2 hcz
                go_wp2_with (go_at_call 88; refine (sZagZig _ _).mono ?_; rintro e w' ⟨rfl, rfl⟩)
                go_ret3
                exact ⟨by rw [HG.out]; simp only [getRes]; go_num, rfl⟩
      · have hend : Num.rd 5 0 0 (zs.drop m) = none := by
          rw [← hrd]
          by_cases h5 : k < 5
          · rw [List.drop_eq_nil_of_le (by rw [HZ.out]; omega), rd_nil]
          · rw [show 5 - k = 0 by omega]; rfl
        have HG := Lib.hid (get_none hmz hend)
        clear hend hrd
        by_cases h5 : k < 5
        · have hkk : ¬ k < n - m := fun h => hlt ⟨h5, h⟩
          clear hlt
          go_wp2
          go_ret3
          exact ⟨by rw [HG.out]; rfl, rfl⟩
        · clear hlt
          go_wp2
          go_ret3
          exact ⟨by rw [HG.out]; rfl, rfl⟩
  · have hib : Num.inB i 0 n = false := Num.inB_false.2 hin
    have HG := Lib.hid (get_out (zs := zs) (i := i) (by rw [HZ.out]; exact hin))
    clear hin
    go_enter Tryz.func60, Tryz.ntmps60
    go_wp2_with (go_at_call 61; refine (l1In _ _ _ _).mono ?_; rintro e w' ⟨rfl, rfl⟩)
    go_ret3
    exact ⟨by rw [HG.out]; rfl, rfl⟩

end Go.Proofs.YtkofafefnlommaaGreat

/- The contracts of the model's WidthOf, WidthFor, l2Fits, BytesFor, BitAt. -/
namespace Go.Proofs.YtkofafefnlommaaGreat
open Go.RowKit

theorem tdiv2 (a : Nat) : ((a : Int)).tdiv 2 = ((a / 2 : Nat) : Int) := by
  rw [Int.tdiv_eq_ediv_of_nonneg (by omega)]; omega

theorem and_one (a : Nat) (h : a < 9223372036854775808) : bits .and .i64 (a : Int) 1 = ((a % 2 : Nat) : Int) := by
  have := i64_and_nat a 1 h (by omega)
  rw [Nat.and_one_is_mod] at this
  exact this
theorem shr_and (z k : Nat) (h : z < 9223372036854775808) : bits .and .i64 ((z : Int) / 2 ^ k) 1 = ((z / 2 ^ k % 2 : Nat) : Int) := by
  have e : (z : Int) / 2 ^ k = ((z / 2 ^ k : Nat) : Int) := by simp
  rw [e, and_one _ (Nat.lt_of_le_of_lt (Nat.div_le_self _ _) h)]

set_option maxHeartbeats 400000 in
theorem sWidthOf (n : Int) (w : World) : Calls Tryz.prog 120 #[.int .i64 n] w fun e w' => e = .returned (.int .i64 (Bit.widthI n)) ∧ w = w' := by
  by_cases hin : 0 ≤ n ∧ n ≤ 2147483647
  · have hib : Num.inB n 0 2147483647 = true := Num.inB_true.2 hin
    have HW : Hid (Bit.widthI n = Bit.width n.toNat) := by
      show Bit.widthI n = _
      unfold Bit.widthI
      rw [if_pos hin]
    obtain ⟨u, rfl⟩ := Int.eq_ofNat_of_zero_le hin.1
    rw [Int.toNat_natCast] at HW
    have hu : u ≤ 2147483647 := by omega
    have h31 : Bit.width u ≤ 31 := (Bit.width_le u 31).2 (by omega)
    have HU : Hid (0 + Bit.width u = Bit.width u) := Nat.zero_add _
    revert HW h31 HU
    generalize hQ : Bit.width u = W
    intro HW h31 HU
    have HU2 : Hid (0 + Bit.width u = W) := hQ ▸ HU
    clear hQ hin HU
    go_enter Tryz.func120, Tryz.ntmps120
    go_wp2_with (go_at_call 61; refine (l1In _ _ _ _).mono ?_; rintro e w' ⟨rfl, rfl⟩)
    go_loop [3, 4] (fun a x => ∃ (j v : Nat), a = .int .i64 j ∧ x = .int .i64 v ∧ v ≤ 2147483647 ∧ j + Bit.width v = W) (fun _ x => (intOf x).toNat)
    case atStart => exact ⟨0, u, rfl, rfl, hu, HU2.out⟩
    case round =>
      obtain ⟨j, v, rfl, rfl, hv, hj⟩ := hrel
      have hj31 : j ≤ 31 := by omega
      have HJ := Lib.hid hj
      clear hj
      by_cases h0 : 0 < v
      · go_wp2
        go_round
        case rel => exact ⟨j + 1, v / 2, by go_num, by go_num, by omega, by rw [← HJ.out, Bit.width_pos h0]; omega⟩
        case measure => simp [intOf]; omega
      · obtain rfl : v = 0 := by omega
        go_wp2
        go_ret
        exact ⟨by rw [HW.out, ← HJ.out, Bit.width_zero]; rfl, rfl⟩
  · have hib : Num.inB n 0 2147483647 = false := Num.inB_false.2 hin
    have HW : Hid (Bit.widthI n = 0) := by
      show Bit.widthI n = _
      unfold Bit.widthI
      rw [if_neg hin]
    clear hin
    go_enter Tryz.func120, Tryz.ntmps120
    go_wp2_with (go_at_call 61; refine (l1In _ _ _ _).mono ?_; rintro e w' ⟨rfl, rfl⟩)
    go_ret
    exact ⟨by rw [HW.out]; rfl, rfl⟩

theorem sBytesFor (k v : Int) (w : World) : Calls Tryz.prog 150 #[.int .i64 k, .int .i64 v] w fun e w' => e = .returned (.int .i64 (Bit.bytesFor k v)) ∧ w = w' := by
  by_cases h1 : 0 ≤ k ∧ k ≤ 64
  · have hb1 : Num.inB k 0 64 = true := Num.inB_true.2 h1
    by_cases h2 : 0 ≤ v ∧ v ≤ 31
    · have hb2 : Num.inB v 0 31 = true := Num.inB_true.2 h2
      have HB : Hid (Bit.bytesFor k v = (k * v + 7) / 8) := if_pos ⟨h1, h2⟩
      obtain ⟨a, rfl⟩ := Int.eq_ofNat_of_zero_le h1.1
      obtain ⟨b, rfl⟩ := Int.eq_ofNat_of_zero_le h2.1
      have ha : a ≤ 64 := by omega
      have hb : b ≤ 31 := by omega
      have hm : a * b ≤ 64 * 31 := Nat.mul_le_mul ha hb
      have hmi : (a : Int) * (b : Int) = ((a * b : Nat) : Int) := by simp
      generalize a * b = m at hm hmi
      clear h1 h2
      go_enter Tryz.func150, Tryz.ntmps150
      go_wp2_with (go_at_call 61; refine (l1In _ _ _ _).mono ?_; rintro e w' ⟨rfl, rfl⟩)
      go_ret
      exact ⟨ret_int (by rw [HB.out, hmi]), rfl⟩
    · have hb2 : Num.inB v 0 31 = false := Num.inB_false.2 h2
      have HB : Hid (Bit.bytesFor k v = 0) := if_neg (fun h => h2 h.2)
      clear h1 h2
      go_enter Tryz.func150, Tryz.ntmps150
      go_wp2_with (go_at_call 61; refine (l1In _ _ _ _).mono ?_; rintro e w' ⟨rfl, rfl⟩)
      go_ret
      exact ⟨ret_int HB.out.symm, rfl⟩
  · have hb1 : Num.inB k 0 64 = false := Num.inB_false.2 h1
    have HB : Hid (Bit.bytesFor k v = 0) := if_neg (fun h => h1 h.1)
    clear h1
    go_enter Tryz.func150, Tryz.ntmps150
    go_wp2_with (go_at_call 61; refine (l1In _ _ _ _).mono ?_; rintro e w' ⟨rfl, rfl⟩)
    go_ret
    exact ⟨ret_int HB.out.symm, rfl⟩

set_option maxHeartbeats 400000 in
theorem sWidthFor (v : Value) (m : Nat) (l : List Int) (w : World) (hm : l.length = m) (hl : AtN 1 w v m (ints .i64 l)) :
    Calls Tryz.prog 144 #[v] w fun e w' => e = .returned (.int .i64 (Bit.widthFor l)) ∧ w = w' := by
  rcases hl with ⟨rfl, rfl, _⟩ | ⟨b, off, cap, rfl, h1, h2, h3, hc⟩
  · obtain rfl : l = [] := List.length_eq_zero_iff.1 hm
    go_enter Tryz.func144, Tryz.ntmps144
    go_wp2
    refine wp_loop_rounds 1 ?_
    rw [rounds_succ]
    go_wp2
    go_ret
    exact ⟨rfl, rfl⟩
  · have HM := Lib.hid hm
    clear hm h3
    unfold maxLen at h2
    go_enter Tryz.func144, Tryz.ntmps144
    go_wp2
    go_loop [3, 4] (fun a i => ∃ k : Nat, k ≤ m ∧ i = .int .i64 k ∧ a = .int .i64 (Bit.widthFor (l.take k))) (fun _ i => m - (intOf i).toNat)
    case atStart => exact ⟨0, Nat.zero_le _, rfl, rfl⟩
    case round =>
      obtain ⟨k, hk, rfl, rfl⟩ := hrel
      by_cases hlt : k < m
      · have hcx : w.cell? ⟨b, off + k, none⟩ = some (.int .i64 (l.getD k 0)) := At.cell hc HM.out hlt
        have hts : Hid (Bit.widthFor (l.take (k + 1)) = max (Bit.widthFor (l.take k)) (Bit.widthI (l.getD k 0))) := by
          show Bit.widthFor (l.take (k + 1)) = _
          rw [Bit.take_snoc l k (by rw [HM.out]; exact hlt), Bit.widthFor_snoc]
        have hq := fun (w : World) => sWidthOf (l.getD k 0) w
        have hp31 := Bit.widthFor_le31 (l.take k)
        have hq31 := Bit.widthI_le31 (l.getD k 0)
        generalize Bit.widthI (l.getD k 0) = q at hts hq hq31
        generalize l.getD k 0 = x at hcx hq
        generalize Bit.widthFor (l.take k) = p at hts hp31
        clear hc
        have HQ := Lib.hid hq
        clear hq
        by_cases hgt : p < q
        · go_wp2_with (go_at_call 120; refine (HQ.out _).mono ?_; rintro e w' ⟨rfl, rfl⟩)
          go_round
          case rel => exact ⟨k + 1, by omega, by go_num, by rw [hts.out]; go_num⟩
          case measure => simp [intOf]; omega
        · go_wp2_with (go_at_call 120; refine (HQ.out _).mono ?_; rintro e w' ⟨rfl, rfl⟩)
          go_round
          case rel => exact ⟨k + 1, by omega, by go_num, by rw [hts.out]; go_num⟩
          case measure => simp [intOf]; omega
      · obtain rfl : k = m := by omega
        have e : l.take k = l := by rw [← HM.out]; exact List.take_length
        rw [e]
        go_wp2
        go_ret
        exact ⟨rfl, rfl⟩

theorem sFits_nil (v : Int) (w : World) : Calls Tryz.prog 172 #[.slice none 0 0, .int .i64 v] w fun e w' => e = .returned (.bool (Bit.fitsB [] v)) ∧ w = w' := by
  go_enter Tryz.func172, Tryz.ntmps172
  go_wp2
  refine wp_loop_rounds 1 ?_
  rw [rounds_succ]
  go_wp2_with (go_at_call 61; refine (l1In _ _ _ _).mono ?_; rintro e w' ⟨rfl, rfl⟩)
  go_ret
  exact ⟨ret_bool rfl, rfl⟩

set_option maxHeartbeats 400000 in
theorem sFits (u : Value) (m : Nat) (l : List Int) (v : Int) (w : World) (hm : l.length = m) (hl : AtN 1 w u m (ints .i64 l)) :
    Calls Tryz.prog 172 #[u, .int .i64 v] w fun e w' => e = .returned (.bool (Bit.fitsB l v)) ∧ w = w' := by
  rcases hl with ⟨rfl, rfl, _⟩ | ⟨b, off, cap, rfl, h1, h2, h3, hc⟩
  · obtain rfl : l = [] := List.length_eq_zero_iff.1 hm
    exact sFits_nil v w
  · have HM := Lib.hid hm
    clear hm h3
    unfold maxLen at h2
    go_enter Tryz.func172, Tryz.ntmps172
    go_wp2
    go_loop [5] (fun i => ∃ k : Nat, k ≤ m ∧ i = .int .i64 k ∧ (l.take k).all (fun x => Bit.okB x v) = true) (fun i => m - (intOf i).toNat)
    case atStart => exact ⟨0, Nat.zero_le _, rfl, rfl⟩
    case round =>
      obtain ⟨k, hk, rfl, hok⟩ := hrel
      have HOK := Lib.hid hok
      clear hok
      by_cases hlt : k < m
      · have hcx : w.cell? ⟨b, off + k, none⟩ = some (.int .i64 (l.getD k 0)) := At.cell hc HM.out hlt
        have HS : Hid (Bit.okB (l.getD k 0) v = true → (l.take (k + 1)).all (fun x => Bit.okB x v) = true) := by
          intro h
          rw [Bit.take_snoc l k (by rw [HM.out]; exact hlt), Bit.all_snoc, HOK.out, h]
          rfl
        have HN : Hid (Bit.okB (l.getD k 0) v = false → Bit.fitsB l v = false) := Bit.fits_no (by rw [HM.out]; exact hlt)
        have HW := Lib.hid (fun (w : World) => sWidthOf (l.getD k 0) w)
        generalize l.getD k 0 = x at hcx HS HN HW
        clear hc
        by_cases hin : 0 ≤ x ∧ x ≤ 2147483647
        · have hib : Num.inB x 0 2147483647 = true := Num.inB_true.2 hin
          by_cases hw : (Bit.widthI x : Int) ≤ v
          · have HS2 := Lib.hid (HS.out (Bit.okB_true hin hw))
            clear hin HS HN
            generalize Bit.widthI x = q at hw HW
            go_wp2_with (first | (go_at_call 61; refine (l1In _ _ _ _).mono ?_; rintro e w' ⟨rfl, rfl⟩) | (go_at_call 120; refine (HW.out _).mono ?_; rintro e w' ⟨rfl, rfl⟩))
            go_round
            case rel => exact ⟨k + 1, by omega, by go_num, HS2.out⟩
            case measure => simp [intOf]; omega
          · have HN2 := Lib.hid (HN.out (Bit.okB_wide hw))
            clear hin HS HN
            generalize Bit.widthI x = q at hw HW
            go_wp2_with (first | (go_at_call 61; refine (l1In _ _ _ _).mono ?_; rintro e w' ⟨rfl, rfl⟩) | (go_at_call 120; refine (HW.out _).mono ?_; rintro e w' ⟨rfl, rfl⟩))
            go_ret
            exact ⟨ret_bool HN2.out.symm, rfl⟩
        · have hib : Num.inB x 0 2147483647 = false := Num.inB_false.2 hin
          have HN2 := Lib.hid (HN.out (Bit.okB_out hin))
          clear hin HS HN HW
          go_wp2_with (go_at_call 61; refine (l1In _ _ _ _).mono ?_; rintro e w' ⟨rfl, rfl⟩)
          go_ret
          exact ⟨ret_bool HN2.out.symm, rfl⟩
      · obtain rfl : k = m := by omega
        have HE : Hid (Bit.fitsB l v = Num.inB v 0 31) := by
          show Bit.fitsB l v = Num.inB v 0 31
          have := HOK.out
          rw [← HM.out, List.take_length] at this
          rw [Bit.fitsB_eq, this]
          rfl
        go_wp2_with (go_at_call 61; refine (l1In _ _ _ _).mono ?_; rintro e w' ⟨rfl, rfl⟩)
        go_ret
        exact ⟨ret_bool HE.out.symm, rfl⟩

set_option maxHeartbeats 400000 in
theorem sBitAt (u : Value) (m : Nat) (zs : List Int) (n : Int) (w : World) (h0 : -9223372036854775808 ≤ n) (h1 : n ≤ 9223372036854775807) (hm : zs.length = m) (hb : Num.Bytes zs) (hl : AtN 1 w u m (ints .u8 zs)) :
    Calls Tryz.prog 151 #[u, .int .i64 n] w fun e w' => e = .returned (.int .i64 (Bit.bitAt zs n)) ∧ w = w' := by
  obtain ⟨a, len, cap, rfl, hle, hc⟩ : ∃ a len cap, u = .slice a len cap ∧ len = m ∧ len ≤ 9223372036854775807 ∧ ∀ i, i < m → ∃ b off, a = some ⟨b, off, none⟩ ∧ w.cell? ⟨b, off + i, none⟩ = some (.int .u8 (zs.getD i 0)) := by
    rcases hl with ⟨rfl, rfl, _⟩ | ⟨b, off, cap, rfl, h1, h2, h3, hc⟩
    · exact ⟨_, _, _, rfl, rfl, by omega, fun i hi => by omega⟩
    · unfold maxLen at h2
      exact ⟨_, _, _, rfl, rfl, by omega, fun i hi => ⟨b, off, rfl, At.cell hc hm hi⟩⟩
  subst hle
  by_cases hneg : n < 0
  · have HB : Hid (Bit.bitAt zs n = 0) := if_pos hneg
    go_enter Tryz.func151, Tryz.ntmps151
    go_wp2
    go_ret
    exact ⟨ret_int HB.out.symm, rfl⟩
  · obtain ⟨k, rfl⟩ := Int.eq_ofNat_of_zero_le (by omega : 0 ≤ n)
    by_cases hin : k / 8 < len
    · obtain ⟨b, off, rfl, hcx⟩ := hc.2 (k / 8) hin
      have HB := Lib.hid (Bit.bitAt_in hb (k := k) (by rw [hm]; exact hin))
      have hz := hb (zs.getD (k / 8) 0) (by simp [hm, hin])
      generalize zs.getD (k / 8) 0 = z at hcx HB hz
      obtain ⟨z, rfl⟩ := Int.eq_ofNat_of_zero_le hz.1
      have hz2 : z ≤ 255 := by omega
      have hl2 := hc.1
      clear hc hz hb hm hl
      go_enter Tryz.func151, Tryz.ntmps151
      go_wp2
      go_ret
      exact ⟨ret_int (by rw [HB.out, shr_and z _ (by omega)]; rfl), rfl⟩
    · have HB := Lib.hid (Bit.bitAt_out hb (k := k) (by rw [hm]; exact hin))
      have hl2 := hc.1
      clear hc hb hm hl
      go_enter Tryz.func151, Tryz.ntmps151
      go_wp2
      go_ret
      exact ⟨ret_int HB.out.symm, rfl⟩

end Go.Proofs.YtkofafefnlommaaGreat

/- The contract of the model's PackBits. -/
namespace Go.Proofs.YtkofafefnlommaaGreat
open Go.RowKit

/-- The bits after t of them. -/
def packed (N t : Nat) : List Int := Bit.dig 8 ((t + 7) / 8) (N % 2 ^ t)
theorem packed_len (N t : Nat) : (packed N t).length = (t + 7) / 8 := Bit.dig_len _ _ _
theorem packed_zero (N : Nat) : packed N 0 = [] := rfl
theorem packed_new {N t : Nat} (h : t % 8 = 0) : packed N t ++ [0] = Bit.dig 8 (t / 8 + 1) (N % 2 ^ t) := Bit.pack_new h (Nat.mod_lt _ (Nat.pow_pos (by omega)))
theorem packed_old {N t : Nat} (h : ¬ t % 8 = 0) : packed N t = Bit.dig 8 (t / 8 + 1) (N % 2 ^ t) := by
  unfold packed; rw [show (t + 7) / 8 = t / 8 + 1 by omega]
theorem packed_off {N t : Nat} (h : N / 2 ^ t % 2 = 0) : packed N (t + 1) = Bit.dig 8 (t / 8 + 1) (N % 2 ^ t) := by
  unfold packed; rw [Bit.mod_step, h, Nat.mul_zero, show (t + 1 + 7) / 8 = t / 8 + 1 by omega]
  rfl
theorem packed_on {N t : Nat} (h : N / 2 ^ t % 2 = 1) : packed N (t + 1) = (Bit.dig 8 (t / 8 + 1) (N % 2 ^ t)).set (t / 8) ((N % 2 ^ t / 2 ^ (t / 8 * 8) + 2 ^ (t % 8) : Nat) : Int) := by
  rw [Bit.pack_set (Nat.mod_lt _ (Nat.pow_pos (by omega)))]
  unfold packed
  rw [Bit.mod_step, h, Nat.mul_one, show (t + 1 + 7) / 8 = t / 8 + 1 by omega]

theorem or_table : ∀ r : Fin 8, ∀ y : Fin 128, y.val < 2 ^ r.val → bits .or .u8 (y.val : Int) (2 ^ r.val % 256) = ((y.val + 2 ^ r.val : Nat) : Int) := by decide +kernel
theorem or_byte {y r : Nat} (h : y < 2 ^ r) (hr : r < 8) : bits .or .u8 (y : Int) (2 ^ r % 256) = ((y + 2 ^ r : Nat) : Int) := by
  have h2 : 2 ^ r ≤ 2 ^ 7 := Nat.pow_le_pow_right (by omega) (by omega)
  exact or_table ⟨r, hr⟩ ⟨y, by omega⟩ h
theorem ints_set (k : IntKind) (l : List Int) (i : Nat) (z : Int) : ints k (l.set i z) = (ints k l).set i (.int k z) := by simp [ints, List.map_set]

set_option maxHeartbeats 2000000 in
theorem sPackBits (u : Value) (m : Nat) (l : List Int) (v : Int) (w : World) (hmx : m ≤ 1073741824) (hm : l.length = m) (hl : AtN 1 w u m (ints .i64 l)) :
    Calls Tryz.prog 142 #[u, .int .i64 v] w fun e w' => ∃ v', e = .returned v' ∧ Own 5 1 w.heap.size w'.heap.size w' v' (Bit.pack l v).length (ints .u8 (Bit.pack l v)) ∧ Below w.heap.size w w' := by
  have hown0 := own_lit (e := 5) (size := 1) w #[] 0 (Nat.zero_le _) rfl
  have hb0 := below_alloc w (.cells #[] 5)
  have HF := Lib.hid (sFits u m l v (w.alloc (.cells #[] 5)) hm (hl.below hb0))
  cases hf : Bit.fitsB l v with
  | false =>
    have HP : Hid (Bit.pack l v = []) := by
      show Bit.pack l v = []
      unfold Bit.pack
      rw [if_neg (by rw [hf]; simp)]
    rw [hf] at HF
    clear hf
    go_enter Tryz.func142, Tryz.ntmps142
    go_wp2_with (go_at_call 172; refine HF.out.mono ?_; rintro e w' ⟨rfl, rfl⟩)
    go_ret
    exact ⟨_, rfl, by rw [HP.out]; exact hown0, hb0⟩
  | true =>
    have hft := Bit.fits_true.1 hf
    obtain ⟨b, rfl⟩ := Int.eq_ofNat_of_zero_le hft.2.1
    have hb31 : b ≤ 31 := by omega
    have HP : Hid (Bit.pack l b = Bit.dig 8 ((l.length * b + 7) / 8) (Bit.val b l)) := if_pos hf
    have HD := Lib.hid (Bit.fits_digs hf)
    rw [hf] at HF
    clear hf hft
    go_enter Tryz.func142, Tryz.ntmps142
    go_wp2_with (go_at_call 172; refine HF.out.mono ?_; rintro e w' ⟨rfl, rfl⟩)
    rcases hl with ⟨rfl, rfl, _⟩ | ⟨gb, off, cap, rfl, h1, h2, h3, hc⟩
    · obtain rfl : l = [] := List.length_eq_zero_iff.1 hm
      refine wp_loop_rounds 1 ?_
      rw [rounds_succ]
      go_wp2
      go_ret
      refine ⟨_, rfl, ?_, hb0⟩
      have e : Bit.pack [] (b : Int) = [] := by
        rw [HP.out]
        simp [Bit.dig]
      rw [e]
      exact hown0
    · unfold maxLen at h2
      have HM := Lib.hid hm
      have HC := Lib.hid hc
      generalize hN : Bit.val b l = N at HP
      have HB : Hid (∀ k q, k < m → q < b → N / 2 ^ (k * b + q) % 2 = (l.getD k 0).toNat / 2 ^ q % 2) := fun k q hk hq => by
        rw [← hN]
        exact Bit.val_bit HD.out (by rw [HM.out]; exact hk) hq
      have HX : Hid (∀ k, k < m → 0 ≤ l.getD k 0 ∧ l.getD k 0 < 2 ^ b) := fun k hk => HD.out _ (by simp [HM.out, hk])
      have HL : Hid (N < 2 ^ (m * b)) := by
        have := Bit.val_lt HD.out
        rw [HM.out] at this
        rw [← hN]
        exact this
      clear hN hm hc h3 HD HF
      go_loopw [5, 6, 7] (fun o n i wr => ∃ k t : Nat, k ≤ m ∧ t = k * b ∧ i = .int .i64 k ∧ n = .int .i64 t ∧ Own 5 1 w.heap.size wr.heap.size wr o (packed N t).length (ints .u8 (packed N t)) ∧ Below w.heap.size w wr) (fun _ _ i _ => m - (intOf i).toNat)
      case atStart => exact ⟨0, 0, Nat.zero_le _, (Nat.zero_mul _).symm, rfl, rfl, hown0, hb0⟩
      case round =>
        obtain ⟨k, t, hk, ht, rfl, rfl, hown, hbr⟩ := hrel
        by_cases hlt : k < m
        · have ht2 : t ≤ 31 * 1073741824 := by rw [ht, Nat.mul_comm]; exact Nat.mul_le_mul hb31 (by omega)
          have HT := Lib.hid ht
          obtain ⟨hx0, hx1⟩ := HX.out k hlt
          have HBk : Hid (∀ q, q < b → N / 2 ^ (t + q) % 2 = (l.getD k 0).toNat / 2 ^ q % 2) := fun q hq => by rw [HT.out]; exact HB.out k q hlt hq
          have hcell : Hid (∀ W, Below w.heap.size w W → W.cell? ⟨gb, off + k, none⟩ = some (.int .i64 (l.getD k 0))) := fun W hW => (hW.cell (p := ⟨gb, off + k, none⟩) (lt_of_cell (At.cell HC.out HM.out hlt))).trans (At.cell HC.out HM.out hlt)
          generalize l.getD k 0 = x at hx0 hx1 HBk hcell
          obtain ⟨x, rfl⟩ := Int.eq_ofNat_of_zero_le hx0
          have hx2 : x < 2147483648 := by
            have h3 := Bit.toNat_lt hx1
            have h4 : 2 ^ b ≤ 2 ^ 31 := Nat.pow_le_pow_right (by omega) hb31
            simp only [Int.toNat_natCast] at h3
            omega
          clear ht hx1
          go_wp2
          go_loopw [5, 6, 8] (fun o n j wr => ∃ q s : Nat, q ≤ b ∧ s = t + q ∧ j = .int .i64 q ∧ n = .int .i64 s ∧ Own 5 1 w.heap.size wr.heap.size wr o (packed N s).length (ints .u8 (packed N s)) ∧ Below w.heap.size w wr) (fun _ _ j _ => b - (intOf j).toNat)
          case atStart => exact ⟨0, t, Nat.zero_le _, rfl, rfl, rfl, hown, hbr⟩
          case round =>
            obtain ⟨q, s, hq, hs, rfl, rfl, hown2, hb2⟩ := hrel
            have hs2 : s ≤ 33285996575 := by omega
            by_cases hlq : q < b
            · have HQ := Lib.hid (HBk.out q hlq)
              rw [← hs, Int.toNat_natCast] at HQ
              have hand := shr_and x q (by omega)
              have HS := Lib.hid hs
              clear hs hown hbr
              have hpl := packed_len N s
              have hq31 : q < 31 := by omega
              by_cases hbit : x / 2 ^ q % 2 = 1
              · have hon : (bits .and .i64 ((x : Int) / 2 ^ q) 1 == 1) = true := by rw [hand, hbit]; rfl
                have HOF := Lib.hid (packed_on (HQ.out.trans hbit))
                have HY := Lib.hid (Bit.last_byte (n := s) (X := N % 2 ^ s) (Nat.mod_lt _ (Nat.pow_pos (by omega))))
                clear hand hbit
                by_cases h8 : s % 8 = 0
                · have h8b : ((s : Int) % 8 == 0) = true := by simp; omega
                  have H8 := Lib.hid h8
                  clear h8
                  go_wp2_with (at_builtin; refine append1_law Tryz.elemBytes rfl _ _ rfl _ _ _ _ _ (.int .u8 0) rfl rfl hown2 rfl (by unfold maxLen; omega) (by omega) ?_)
                  intro v3 w3 o3 e3
                  have b3 := hb2.trans (e3.below hown2)
                  have o4 : Own 5 1 w.heap.size w3.heap.size w3 v3 (s / 8 + 1) (ints .u8 (Bit.dig 8 (s / 8 + 1) (N % 2 ^ s))) := by
                    rw [← packed_new H8.out, ints_append, show s / 8 + 1 = (s + 7) / 8 + 1 by have := H8.out; omega]
                    exact o3
                  clear o3 e3
                  have hcx := hcell.out w3 b3
                  have hbX := b3
                  obtain ⟨g, cp, rfl, g1, g2, g3⟩ := o4
                  have hcw : w3.cell? ⟨g, s / 8, none⟩ = some (.int .u8 (N % 2 ^ s / 2 ^ (s / 8 * 8) : Nat)) := (g3.cellAt (s / 8) (by omega)).trans (by rw [ints_get (by rw [Bit.dig_len]; omega), HY.out.1])
                  have hfr := g3.frozenAt (s / 8)
                  have R := Lib.hid (g3.stored (s / 8) (.int .u8 (N % 2 ^ s / 2 ^ (s / 8 * 8) + 2 ^ (s % 8) : Nat)))
                  have hy := HY.out.2
                  generalize hyy : N % 2 ^ s / 2 ^ (s / 8 * 8) = y at hcw R hy
                  have HYY := Lib.hid hyy
                  clear hyy
                  have HOR := Lib.hid (or_byte hy (Nat.mod_lt _ (by omega)))
                  go_wp2
                  go_region
                  go_wp2
                  go_roundw
                  case rel =>
                    rw [HOR.out]
                    refine ⟨q + 1, s + 1, by omega, by rw [HS.out]; rfl, by go_num, by go_num, ?_, hbX.trans ⟨rfl, rfl, rfl, R.out.2.size, fun j hj => R.out.2.block j (by have := hbX.size; omega) (by simp; omega)⟩⟩
                    rw [HOF.out, HYY.out, List.length_set, Bit.dig_len, ints_set]
                    exact (show Own 5 1 w.heap.size _ _ _ _ _ from ⟨g, cp, rfl, g1, (R.out.1.lt g rfl).2, R.out.1⟩ : Own _ _ _ _ _ _ _ _).drew
                  case measure => simp [intOf]; omega
                · have h8b : ((s : Int) % 8 == 0) = false := by simp; omega
                  have H8 := Lib.hid h8
                  clear h8
                  rw [packed_old H8.out, Bit.dig_len] at hown2
                  have hcx := hcell.out _ hb2
                  have hbX := hb2
                  obtain ⟨g, cp, rfl, g1, g2, g3⟩ := hown2
                  have hcw : wr.cell? ⟨g, s / 8, none⟩ = some (.int .u8 (N % 2 ^ s / 2 ^ (s / 8 * 8) : Nat)) := (g3.cellAt (s / 8) (by omega)).trans (by rw [ints_get (by rw [Bit.dig_len]; omega), HY.out.1])
                  have hfr := g3.frozenAt (s / 8)
                  have R := Lib.hid (g3.stored (s / 8) (.int .u8 (N % 2 ^ s / 2 ^ (s / 8 * 8) + 2 ^ (s % 8) : Nat)))
                  have hy := HY.out.2
                  generalize hyy : N % 2 ^ s / 2 ^ (s / 8 * 8) = y at hcw R hy
                  have HYY := Lib.hid hyy
                  clear hyy
                  have HOR := Lib.hid (or_byte hy (Nat.mod_lt _ (by omega)))
                  go_wp2
                  go_region
                  go_wp2
                  go_roundw
                  case rel =>
                    rw [HOR.out]
                    refine ⟨q + 1, s + 1, by omega, by rw [HS.out]; rfl, by go_num, by go_num, ?_, hbX.trans ⟨rfl, rfl, rfl, R.out.2.size, fun j hj => R.out.2.block j (by have := hbX.size; omega) (by simp; omega)⟩⟩
                    rw [HOF.out, HYY.out, List.length_set, Bit.dig_len, ints_set]
                    exact (show Own 5 1 w.heap.size _ _ _ _ _ from ⟨g, cp, rfl, g1, (R.out.1.lt g rfl).2, R.out.1⟩ : Own _ _ _ _ _ _ _ _).drew
                  case measure => simp [intOf]; omega
              · have hb0' : x / 2 ^ q % 2 = 0 := by omega
                have hon : (bits .and .i64 ((x : Int) / 2 ^ q) 1 == 1) = false := by rw [hand, hb0']; rfl
                have HOF := Lib.hid (packed_off (HQ.out.trans hb0'))
                clear hand hbit hb0'
                by_cases h8 : s % 8 = 0
                · have h8b : ((s : Int) % 8 == 0) = true := by simp; omega
                  have H8 := Lib.hid h8
                  clear h8
                  go_wp2_with (at_builtin; refine append1_law Tryz.elemBytes rfl _ _ rfl _ _ _ _ _ (.int .u8 0) rfl rfl hown2 rfl (by unfold maxLen; omega) (by omega) ?_)
                  intro v3 w3 o3 e3
                  have b3 := hb2.trans (e3.below hown2)
                  have o4 : Own 5 1 w.heap.size w3.heap.size w3 v3 (s / 8 + 1) (ints .u8 (Bit.dig 8 (s / 8 + 1) (N % 2 ^ s))) := by
                    rw [← packed_new H8.out, ints_append, show s / 8 + 1 = (s + 7) / 8 + 1 by have := H8.out; omega]
                    exact o3
                  clear o3 e3
                  have hcx := hcell.out w3 b3
                  have hbX := b3
                  go_wp2
                  go_roundw
                  case rel => exact ⟨q + 1, s + 1, by omega, by rw [HS.out]; rfl, by go_num, by go_num, by rw [HOF.out, Bit.dig_len]; exact o4, b3⟩
                  case measure => simp [intOf]; omega
                · have h8b : ((s : Int) % 8 == 0) = false := by simp; omega
                  have H8 := Lib.hid h8
                  clear h8
                  rw [packed_old H8.out, Bit.dig_len] at hown2
                  have hcx := hcell.out _ hb2
                  have hbX := hb2
                  go_wp2
                  go_roundw
                  case rel => exact ⟨q + 1, s + 1, by omega, by rw [HS.out]; rfl, by go_num, by go_num, by rw [HOF.out, Bit.dig_len]; exact hown2, hb2⟩
                  case measure => simp [intOf]; omega
            · obtain rfl : q = b := by omega
              have HS := Lib.hid hs
              clear hs hown hbr
              go_wp2
              go_roundw
              case rel => exact ⟨k + 1, s, by omega, by rw [Nat.succ_mul, ← HT.out]; exact HS.out, by go_num, rfl, hown2, hb2⟩
              case measure => simp [intOf]; omega
        · obtain rfl : k = m := by omega
          have HE : Hid (Bit.pack l b = packed N t) := by
            show Bit.pack l b = packed N t
            rw [HP.out, HM.out, ht]
            unfold packed
            rw [Nat.mod_eq_of_lt HL.out]
          clear ht
          go_wp2
          go_ret
          exact ⟨_, rfl, by rw [HE.out]; exact hown, hbr⟩

end Go.Proofs.YtkofafefnlommaaGreat

/- The contract of the model's UnpackBits. -/
namespace Go.Proofs.YtkofafefnlommaaGreat
open Go.RowKit

/-- What UnpackBits returns. -/
def Unpacked (w : World) (r : List Int × Bool) (e : Ending) (w' : World) : Prop :=
  ∃ v', e = .returned (.tuple #[v', .bool r.2]) ∧ Own 3 1 w.heap.size w'.heap.size w' v' r.1.length (ints .i64 r.1) ∧ Below w.heap.size w w'

theorem unpack_no {zs : List Int} {v k : Int} (h : ¬ ((0 ≤ k ∧ k ≤ 64) ∧ (0 ≤ v ∧ v ≤ 31) ∧ zs.length = (k.toNat * v.toNat + 7) / 8)) : Bit.unpack zs v k = ([], false) := by
  unfold Bit.unpack
  exact if_neg (fun ⟨h1, h2, h3, _⟩ => h ⟨h1, h2, h3⟩)

theorem or_on {X q : Nat} (h : X < 2 ^ q) (hq : q < 31) : bits .or .i64 (X : Int) (wrap64 (2 ^ q)) = ((X + 2 ^ q * 1 : Nat) : Int) := by
  have h2 : 2 ^ q ≤ 2 ^ 30 := Nat.pow_le_pow_right (by omega) (by omega)
  have e : wrap64 ((2 : Int) ^ q) = ((2 ^ q : Nat) : Int) := by
    have e2 : ((2 ^ q : Nat) : Int) = (2 : Int) ^ q := by simp
    rw [← e2]
    unfold wrap64
    omega
  have e3 := Nat.two_pow_add_eq_or_of_lt h 1
  rw [e, i64_or_nat X (2 ^ q) (by omega) (by omega), Nat.or_comm]
  rw [Nat.mul_one] at e3 ⊢
  rw [← e3, Nat.add_comm]
theorem or_off {X : Nat} (h : X < 9223372036854775808) : bits .or .i64 (X : Int) 0 = (X : Int) := by
  have := i64_or_nat X 0 h (by omega)
  rw [Nat.or_zero] at this
  exact this

set_option maxHeartbeats 2000000 in
theorem sUnpackBits (u : Value) (m : Nat) (zs : List Int) (v k : Int) (w : World) (hmx : m ≤ 1073741824) (hm : zs.length = m) (hby : Num.Bytes zs) (hl : AtN 1 w u m (ints .u8 zs)) :
    Calls Tryz.prog 119 #[u, .int .i64 v, .int .i64 k] w (Unpacked w (Bit.unpack zs v k)) := by
  have hown0 := own_lit (e := 3) (size := 1) w #[] 0 (Nat.zero_le _) rfl
  have hb0 := below_alloc w (.cells #[] 3)
  have hl0 := hl.below hb0
  obtain ⟨a, cap, rfl⟩ : ∃ a cap, u = .slice a m cap := by
    rcases hl with ⟨rfl, rfl, _⟩ | ⟨b, off, cap, rfl, _⟩
    · exact ⟨_, _, rfl⟩
    · exact ⟨_, _, rfl⟩
  have HBF := Lib.hid (fun W => sBytesFor k v W)
  by_cases h1 : 0 ≤ k ∧ k ≤ 64
  · have hb1 : Num.inB k 0 64 = true := Num.inB_true.2 h1
    by_cases h2 : 0 ≤ v ∧ v ≤ 31
    · have hb2 : Num.inB v 0 31 = true := Num.inB_true.2 h2
      obtain ⟨K, rfl⟩ := Int.eq_ofNat_of_zero_le h1.1
      obtain ⟨b, rfl⟩ := Int.eq_ofNat_of_zero_le h2.1
      have hK : K ≤ 64 := by omega
      have hb : b ≤ 31 := by omega
      have hkb : K * b ≤ 64 * 31 := Nat.mul_le_mul hK hb
      have hbf : Bit.bytesFor K b = (((K * b + 7) / 8 : Nat) : Int) := by
        unfold Bit.bytesFor
        rw [if_pos ⟨h1, h2⟩]
        simp
      rw [hbf] at HBF
      by_cases h3 : m = (K * b + 7) / 8
      · have hne : (((m : Int)) != (((K * b + 7) / 8 : Nat) : Int)) = false := by rw [h3]; simp
        have hmk : K * b ≤ 8 * m := by omega
        have hm8 : m ≤ 249 := by omega
        have HV : Hid (Bit.val 8 zs < 2 ^ (8 * m)) := by
          have := Bit.val_lt (Bit.digs_bytes.2 hby)
          rw [hm, Nat.mul_comm] at this
          exact this
        have HBA : Hid (∀ (n : Nat) (W : World), n ≤ 1000000 → Below w.heap.size w W → Calls Tryz.prog 151 #[.slice a m cap, .int .i64 n] W fun e w' => e = .returned (.int .i64 ((Bit.val 8 zs / 2 ^ n % 2 : Nat) : Int)) ∧ W = w') := by
          intro n W hn hW
          have := sBitAt (.slice a m cap) m zs (n : Int) W (by omega) (by omega) hm hby (hl.below hW)
          unfold Bit.bitAt at this
          rw [if_neg (by omega), Int.toNat_natCast] at this
          exact this
        have HP1 : Hid (Bit.val 8 zs < 2 ^ (K * b) → Bit.unpack zs b K = (Bit.dig b K (Bit.val 8 zs), true)) := by
          intro h
          unfold Bit.unpack
          simp only [Int.toNat_natCast]
          rw [if_pos ⟨h1, h2, by rw [hm]; exact h3, h⟩]
        have HP0 : Hid (¬ Bit.val 8 zs < 2 ^ (K * b) → Bit.unpack zs b K = ([], false)) := by
          intro h
          unfold Bit.unpack
          simp only [Int.toNat_natCast]
          exact if_neg (fun k => h k.2.2.2)
        generalize Bit.val 8 zs = N at HV HBA HP1 HP0
        generalize hc : (K * b + 7) / 8 = c at HBF hne
        have H3 := Lib.hid h3
        clear h1 h2 hbf hc hl hl0 hm hby h3
        go_enter Tryz.func119, Tryz.ntmps119
        go_wp2_with (first | (go_at_call 61; refine (l1In _ _ _ _).mono ?_; rintro e w' ⟨rfl, rfl⟩) | (go_at_call 150; refine (HBF.out _).mono ?_; rintro e w' ⟨rfl, rfl⟩))
        go_loopw [8, 9] (fun o i wr => ∃ d : Nat, d ≤ K ∧ i = .int .i64 d ∧ Own 3 1 w.heap.size wr.heap.size wr o d (ints .i64 (Bit.dig b d N)) ∧ Below w.heap.size w wr) (fun _ i _ => K - (intOf i).toNat)
        case atStart => exact ⟨0, Nat.zero_le _, rfl, hown0, hb0⟩
        case round =>
          obtain ⟨d, hd, rfl, hown, hbr⟩ := hrel
          by_cases hlt : d < K
          · have hdb : d * b ≤ 64 * 31 := Nat.mul_le_mul (by omega) hb
            have hmi : (d : Int) * (b : Int) = ((d * b : Nat) : Int) := by simp
            have HDS := Lib.hid (Bit.dig_succ b d N)
            have HBQ : Hid (∀ q, N / 2 ^ (d * b) / 2 ^ q % 2 = N / 2 ^ (d * b + q) % 2) := fun q => by rw [Nat.pow_add, Nat.div_div_eq_div_mul]
            generalize hc2 : d * b = t at hdb hmi HDS HBQ
            clear hc2
            generalize hM : N / 2 ^ t = M at HDS HBQ
            clear hM
            go_wp2
            go_loop [10, 11] (fun x j => ∃ q : Nat, q ≤ b ∧ j = .int .i64 q ∧ x = .int .i64 (M % 2 ^ q : Nat)) (fun _ j => b - (intOf j).toNat)
            case atStart => exact ⟨0, Nat.zero_le _, rfl, by simp [Nat.mod_one]⟩
            case round =>
              obtain ⟨q, hq, rfl, rfl⟩ := hrel
              by_cases hlq : q < b
              · have HMS := Lib.hid (Bit.mod_step M q)
                have hlt2 : M % 2 ^ q < 2 ^ q := Nat.mod_lt _ (Nat.pow_pos (by omega))
                have hcall := HBA.out (t + q) wr (by omega) hbr
                rw [← HBQ.out] at hcall
                generalize M % 2 ^ q = X at hlt2 HMS
                by_cases hbit : M / 2 ^ q % 2 = 1
                · rw [hbit] at hcall HMS
                  have HC := Lib.hid hcall
                  clear hcall hbit
                  go_wp2_with (go_at_call 151; refine HC.out.mono ?_; rintro e w' ⟨rfl, rfl⟩)
                  go_round
                  case rel => exact ⟨q + 1, by omega, by go_num, by rw [or_on hlt2 (by omega), HMS.out]⟩
                  case measure => simp [intOf]; omega
                · have hb0' : M / 2 ^ q % 2 = 0 := by omega
                  rw [hb0'] at hcall HMS
                  have HC := Lib.hid hcall
                  clear hcall hbit hb0'
                  go_wp2_with (go_at_call 151; refine HC.out.mono ?_; rintro e w' ⟨rfl, rfl⟩)
                  go_round
                  case rel => exact ⟨q + 1, by omega, by go_num, by rw [or_off (by have : 2 ^ q ≤ 2 ^ 31 := Nat.pow_le_pow_right (by omega) (by omega)
                                                                                   omega), HMS.out, Nat.mul_zero]; rfl⟩
                  case measure => simp [intOf]; omega
              · obtain rfl : q = b := by omega
                generalize M % 2 ^ q = R at HDS ⊢
                go_wp2_with (at_builtin; refine append1_law Tryz.elemInts rfl _ _ rfl _ _ _ _ _ (.int .i64 R) rfl rfl hown rfl (by unfold maxLen; omega) (by omega) ?_)
                intro v3 w3 o3 e3
                have b3 := hbr.trans (e3.below hown)
                go_wp2
                go_roundw
                case rel =>
                  refine ⟨d + 1, by omega, by go_num, ?_, b3⟩
                  rw [HDS.out, ints_append]
                  exact o3
                case measure => simp [intOf]; omega
          · obtain rfl : d = K := by omega
            have hmi : (d : Int) * (b : Int) = ((d * b : Nat) : Int) := by simp
            generalize hc2 : d * b = t at hkb hmk hmi HP1 HP0
            clear hc2 H3
            go_wp2
            go_loop [12] (fun n => ∃ s : Nat, t ≤ s ∧ s ≤ 8 * m ∧ n = .int .i64 s ∧ ∀ j, t ≤ j → j < s → N / 2 ^ j % 2 = 0) (fun n => 8 * m - (intOf n).toNat)
            case atStart => exact ⟨t, Nat.le_refl _, hmk, by go_num, fun j h1 h2 => by omega⟩
            case round =>
              obtain ⟨s, hs0, hs1, rfl, hz⟩ := hrel
              have HZ := Lib.hid hz
              clear hz
              by_cases hls : s < 8 * m
              · have hcall := HBA.out s wr (by omega) hbr
                by_cases hbit : N / 2 ^ s % 2 = 0
                · have HZ2 : Hid (∀ j, t ≤ j → j < s + 1 → N / 2 ^ j % 2 = 0) := by
                    intro j h1 h2
                    by_cases hj : j = s
                    · subst hj; exact hbit
                    · exact HZ.out j h1 (by omega)
                  rw [hbit] at hcall
                  have HC := Lib.hid hcall
                  clear hcall hbit
                  go_wp2_with (go_at_call 151; refine HC.out.mono ?_; rintro e w' ⟨rfl, rfl⟩)
                  go_round
                  case rel => exact ⟨s + 1, by omega, by omega, by go_num, HZ2.out⟩
                  case measure => simp [intOf]; omega
                · have HP := Lib.hid (HP0.out (Bit.ge_of_bit hs0 hbit))
                  have hne2 : (((N / 2 ^ s % 2 : Nat) : Int) != 0) = true := by
                    have : ¬ ((N / 2 ^ s % 2 : Nat) : Int) = 0 := by omega
                    simpa using this
                  generalize N / 2 ^ s % 2 = y at hcall hne2
                  have HC := Lib.hid hcall
                  have hown5 := own_lit (e := 3) (size := 1) wr #[] 0 (Nat.zero_le _) rfl
                  have hb5 := below_then hbr (below_alloc wr (.cells #[] 3)) hbr.size
                  clear hcall hbit
                  go_wp2_with (go_at_call 151; refine HC.out.mono ?_; rintro e w' ⟨rfl, rfl⟩)
                  go_ret2
                  rw [HP.out]
                  exact ⟨_, rfl, hown5.lower hbr.size, hb5⟩
              · obtain rfl : s = 8 * m := by omega
                have HP : Hid (Bit.unpack zs b d = (Bit.dig b d N, true)) := by
                  refine HP1.out ?_
                  rcases Bit.lt_of_bits (8 * m) HV.out HZ.out with h | h
                  · exact h
                  · omega
                go_wp2
                go_ret2
                rw [HP.out]
                exact ⟨_, rfl, by rw [Bit.dig_len]; exact hown, hbr⟩
      · have hne : (((m : Int)) != (((K * b + 7) / 8 : Nat) : Int)) = true := by
          have : ¬ ((m : Int) = (((K * b + 7) / 8 : Nat) : Int)) := by omega
          simpa using this
        have HP := Lib.hid (unpack_no (zs := zs) (v := (b : Int)) (k := (K : Int)) (fun h => h3 (by simpa [hm] using h.2.2)))
        generalize (K * b + 7) / 8 = c at HBF hne
        clear h1 h2 h3 hbf
        go_enter Tryz.func119, Tryz.ntmps119
        go_wp2_with (first | (go_at_call 61; refine (l1In _ _ _ _).mono ?_; rintro e w' ⟨rfl, rfl⟩) | (go_at_call 150; refine (HBF.out _).mono ?_; rintro e w' ⟨rfl, rfl⟩))
        go_ret2
        rw [HP.out]
        exact ⟨_, rfl, hown0, hb0⟩
    · have hb2 : Num.inB v 0 31 = false := Num.inB_false.2 h2
      have HP := Lib.hid (unpack_no (zs := zs) (v := v) (k := k) (fun h => h2 h.2.1))
      clear h1 h2
      go_enter Tryz.func119, Tryz.ntmps119
      go_wp2_with (go_at_call 61; refine (l1In _ _ _ _).mono ?_; rintro e w' ⟨rfl, rfl⟩)
      go_ret2
      rw [HP.out]
      exact ⟨_, rfl, hown0, hb0⟩
  · have hb1 : Num.inB k 0 64 = false := Num.inB_false.2 h1
    have HP := Lib.hid (unpack_no (zs := zs) (v := v) (k := k) (fun h => h1 h.1))
    clear h1
    go_enter Tryz.func119, Tryz.ntmps119
    go_wp2_with (go_at_call 61; refine (l1In _ _ _ _).mono ?_; rintro e w' ⟨rfl, rfl⟩)
    go_ret2
    rw [HP.out]
    exact ⟨_, rfl, hown0, hb0⟩

end Go.Proofs.YtkofafefnlommaaGreat
