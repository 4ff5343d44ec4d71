/- The contracts of the model's WidthOf, WidthFor, l2Fits, BytesFor, BitAt. -/
import Derived.Test.YthniakklkepomaaIn
import Derived.Test.YthniakklkepomaaBits
import Derived.Test.YthniakklkepomaaBitsI
namespace Go.Proofs.Ythniakklkepomaa
open Go.RowKit

theorem tdiv2 (a : Nat) : ((a : Int)).tdiv 2 = ((a / 2 : Nat) : Int) := by
  rw [Int.tdiv_eq_ediv_of_nonneg (by omega)]; omega

theorem and_one (a : Nat) (h : a < 9223372036854775808) : bits .and .i64 (a : Int) 1 = ((a % 2 : Nat) : Int) := by
  have := i64_and_nat a 1 h (by omega)
  rw [Nat.and_one_is_mod] at this
  exact this
theorem shr_and (z k : Nat) (h : z < 9223372036854775808) : bits .and .i64 ((z : Int) / 2 ^ k) 1 = ((z / 2 ^ k % 2 : Nat) : Int) := by
  have e : (z : Int) / 2 ^ k = ((z / 2 ^ k : Nat) : Int) := by simp
  rw [e, and_one _ (Nat.lt_of_le_of_lt (Nat.div_le_self _ _) h)]

set_option maxHeartbeats 400000 in
theorem sWidthOf (n : Int) (w : World) : Calls Try.prog 45 #[.int .i64 n] w fun e w' => e = .returned (.int .i64 (Bit.widthI n)) ∧ w = w' := by
  by_cases hin : 0 ≤ n ∧ n ≤ 2147483647
  · have hib : Num.inB n 0 2147483647 = true := Num.inB_true.2 hin
    have HW : Hid (Bit.widthI n = Bit.width n.toNat) := by
      show Bit.widthI n = _
      unfold Bit.widthI
      rw [if_pos hin]
    obtain ⟨u, rfl⟩ := Int.eq_ofNat_of_zero_le hin.1
    rw [Int.toNat_natCast] at HW
    have hu : u ≤ 2147483647 := by omega
    have h31 : Bit.width u ≤ 31 := (Bit.width_le u 31).2 (by omega)
    have HU : Hid (0 + Bit.width u = Bit.width u) := Nat.zero_add _
    revert HW h31 HU
    generalize hQ : Bit.width u = W
    intro HW h31 HU
    have HU2 : Hid (0 + Bit.width u = W) := hQ ▸ HU
    clear hQ hin HU
    go_enter Try.func45, Try.ntmps45
    go_wp2_with (go_at_call 37; refine (l1In _ _ _ _).mono ?_; rintro e w' ⟨rfl, rfl⟩)
    go_loop [3, 4] (fun a x => ∃ (j v : Nat), a = .int .i64 j ∧ x = .int .i64 v ∧ v ≤ 2147483647 ∧ j + Bit.width v = W) (fun _ x => (intOf x).toNat)
    case atStart => exact ⟨0, u, rfl, rfl, hu, HU2.out⟩
    case round =>
      obtain ⟨j, v, rfl, rfl, hv, hj⟩ := hrel
      have hj31 : j ≤ 31 := by omega
      have HJ := Lib.hid hj
      clear hj
      by_cases h0 : 0 < v
      · go_wp2
        go_round
        case rel => exact ⟨j + 1, v / 2, by go_num, by go_num, by omega, by rw [← HJ.out, Bit.width_pos h0]; omega⟩
        case measure => simp [intOf]; omega
      · obtain rfl : v = 0 := by omega
        go_wp2
        go_ret
        exact ⟨by rw [HW.out, ← HJ.out, Bit.width_zero]; rfl, rfl⟩
  · have hib : Num.inB n 0 2147483647 = false := Num.inB_false.2 hin
    have HW : Hid (Bit.widthI n = 0) := by
      show Bit.widthI n = _
      unfold Bit.widthI
      rw [if_neg hin]
    clear hin
    go_enter Try.func45, Try.ntmps45
    go_wp2_with (go_at_call 37; refine (l1In _ _ _ _).mono ?_; rintro e w' ⟨rfl, rfl⟩)
    go_ret
    exact ⟨by rw [HW.out]; rfl, rfl⟩

set_option maxHeartbeats 400000 in
theorem sWidthFor (v : Value) (m : Nat) (l : List Int) (w : World) (hm : l.length = m) (hl : AtN 1 w v m (ints .i64 l)) :
    Calls Try.prog 47 #[v] w fun e w' => e = .returned (.int .i64 (Bit.widthFor l)) ∧ w = w' := by
  rcases hl with ⟨rfl, rfl, _⟩ | ⟨b, off, cap, rfl, h1, h2, h3, hc⟩
  · obtain rfl : l = [] := List.length_eq_zero_iff.1 hm
    go_enter Try.func47, Try.ntmps47
    go_wp2
    refine wp_loop_rounds 1 ?_
    rw [rounds_succ]
    go_wp2
    go_ret
    exact ⟨rfl, rfl⟩
  · have HM := Lib.hid hm
    clear hm h3
    unfold maxLen at h2
    go_enter Try.func47, Try.ntmps47
    go_wp2
    go_loop [3, 4] (fun a i => ∃ k : Nat, k ≤ m ∧ i = .int .i64 k ∧ a = .int .i64 (Bit.widthFor (l.take k))) (fun _ i => m - (intOf i).toNat)
    case atStart => exact ⟨0, Nat.zero_le _, rfl, rfl⟩
    case round =>
      obtain ⟨k, hk, rfl, rfl⟩ := hrel
      by_cases hlt : k < m
      · have hcx : w.cell? ⟨b, off + k, none⟩ = some (.int .i64 (l.getD k 0)) := At.cell hc HM.out hlt
        have hts : Hid (Bit.widthFor (l.take (k + 1)) = max (Bit.widthFor (l.take k)) (Bit.widthI (l.getD k 0))) := by
          show Bit.widthFor (l.take (k + 1)) = _
          rw [Bit.take_snoc l k (by rw [HM.out]; exact hlt), Bit.widthFor_snoc]
        have hq := fun (w : World) => sWidthOf (l.getD k 0) w
        have hp31 := Bit.widthFor_le31 (l.take k)
        have hq31 := Bit.widthI_le31 (l.getD k 0)
        generalize Bit.widthI (l.getD k 0) = q at hts hq hq31
        generalize l.getD k 0 = x at hcx hq
        generalize Bit.widthFor (l.take k) = p at hts hp31
        clear hc
        have HQ := Lib.hid hq
        clear hq
        by_cases hgt : p < q
        · go_wp2_with (go_at_call 45; refine (HQ.out _).mono ?_; rintro e w' ⟨rfl, rfl⟩)
          go_round
          case rel => exact ⟨k + 1, by omega, by go_num, by rw [hts.out]; go_num⟩
          case measure => simp [intOf]; omega
        · go_wp2_with (go_at_call 45; refine (HQ.out _).mono ?_; rintro e w' ⟨rfl, rfl⟩)
          go_round
          case rel => exact ⟨k + 1, by omega, by go_num, by rw [hts.out]; go_num⟩
          case measure => simp [intOf]; omega
      · obtain rfl : k = m := by omega
        have e : l.take k = l := by rw [← HM.out]; exact List.take_length
        rw [e]
        go_wp2
        go_ret
        exact ⟨rfl, rfl⟩

theorem sFits_nil (v : Int) (w : World) : Calls Try.prog 59 #[.slice none 0 0, .int .i64 v] w fun e w' => e = .returned (.bool (Bit.fitsB [] v)) ∧ w = w' := by
  go_enter Try.func59, Try.ntmps59
  go_wp2
  refine wp_loop_rounds 1 ?_
  rw [rounds_succ]
  go_wp2_with (go_at_call 37; refine (l1In _ _ _ _).mono ?_; rintro e w' ⟨rfl, rfl⟩)
  go_ret
  exact ⟨ret_bool rfl, rfl⟩

set_option maxHeartbeats 400000 in
theorem sFits (u : Value) (m : Nat) (l : List Int) (v : Int) (w : World) (hm : l.length = m) (hl : AtN 1 w u m (ints .i64 l)) :
    Calls Try.prog 59 #[u, .int .i64 v] w fun e w' => e = .returned (.bool (Bit.fitsB l v)) ∧ w = w' := by
  rcases hl with ⟨rfl, rfl, _⟩ | ⟨b, off, cap, rfl, h1, h2, h3, hc⟩
  · obtain rfl : l = [] := List.length_eq_zero_iff.1 hm
    exact sFits_nil v w
  · have HM := Lib.hid hm
    clear hm h3
    unfold maxLen at h2
    go_enter Try.func59, Try.ntmps59
    go_wp2
    go_loop [5] (fun i => ∃ k : Nat, k ≤ m ∧ i = .int .i64 k ∧ (l.take k).all (fun x => Bit.okB x v) = true) (fun i => m - (intOf i).toNat)
    case atStart => exact ⟨0, Nat.zero_le _, rfl, rfl⟩
    case round =>
      obtain ⟨k, hk, rfl, hok⟩ := hrel
      have HOK := Lib.hid hok
      clear hok
      by_cases hlt : k < m
      · have hcx : w.cell? ⟨b, off + k, none⟩ = some (.int .i64 (l.getD k 0)) := At.cell hc HM.out hlt
        have HS : Hid (Bit.okB (l.getD k 0) v = true → (l.take (k + 1)).all (fun x => Bit.okB x v) = true) := by
          intro h
          rw [Bit.take_snoc l k (by rw [HM.out]; exact hlt), Bit.all_snoc, HOK.out, h]
          rfl
        have HN : Hid (Bit.okB (l.getD k 0) v = false → Bit.fitsB l v = false) := Bit.fits_no (by rw [HM.out]; exact hlt)
        have HW := Lib.hid (fun (w : World) => sWidthOf (l.getD k 0) w)
        generalize l.getD k 0 = x at hcx HS HN HW
        clear hc
        by_cases hin : 0 ≤ x ∧ x ≤ 2147483647
        · have hib : Num.inB x 0 2147483647 = true := Num.inB_true.2 hin
          by_cases hw : (Bit.widthI x : Int) ≤ v
          · have HS2 := Lib.hid (HS.out (Bit.okB_true hin hw))
            clear hin HS HN
            generalize Bit.widthI x = q at hw HW
            go_wp2_with (first | (go_at_call 37; refine (l1In _ _ _ _).mono ?_; rintro e w' ⟨rfl, rfl⟩) | (go_at_call 45; refine (HW.out _).mono ?_; rintro e w' ⟨rfl, rfl⟩))
            go_round
            case rel => exact ⟨k + 1, by omega, by go_num, HS2.out⟩
            case measure => simp [intOf]; omega
          · have HN2 := Lib.hid (HN.out (Bit.okB_wide hw))
            clear hin HS HN
            generalize Bit.widthI x = q at hw HW
            go_wp2_with (first | (go_at_call 37; refine (l1In _ _ _ _).mono ?_; rintro e w' ⟨rfl, rfl⟩) | (go_at_call 45; refine (HW.out _).mono ?_; rintro e w' ⟨rfl, rfl⟩))
            go_ret
            exact ⟨ret_bool HN2.out.symm, rfl⟩
        · have hib : Num.inB x 0 2147483647 = false := Num.inB_false.2 hin
          have HN2 := Lib.hid (HN.out (Bit.okB_out hin))
          clear hin HS HN HW
          go_wp2_with (go_at_call 37; refine (l1In _ _ _ _).mono ?_; rintro e w' ⟨rfl, rfl⟩)
          go_ret
          exact ⟨ret_bool HN2.out.symm, rfl⟩
      · obtain rfl : k = m := by omega
        have HE : Hid (Bit.fitsB l v = Num.inB v 0 31) := by
          show Bit.fitsB l v = Num.inB v 0 31
          have := HOK.out
          rw [← HM.out, List.take_length] at this
          rw [Bit.fitsB_eq, this]
          rfl
        go_wp2_with (go_at_call 37; refine (l1In _ _ _ _).mono ?_; rintro e w' ⟨rfl, rfl⟩)
        go_ret
        exact ⟨ret_bool HE.out.symm, rfl⟩

end Go.Proofs.Ythniakklkepomaa
