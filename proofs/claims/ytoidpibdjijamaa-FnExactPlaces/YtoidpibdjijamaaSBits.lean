/- The contracts of the model's WidthOf, WidthFor, l2Fits, BytesFor, BitAt. -/
import Derived.Test.YtoidpibdjijamaaIn
import Derived.Test.YtoidpibdjijamaaBits
import Derived.Test.YtoidpibdjijamaaBitsI
namespace Go.Proofs.Ytoidpibdjijamaa
open Go.RowKit

theorem tdiv2 (a : Nat) : ((a : Int)).tdiv 2 = ((a / 2 : Nat) : Int) := by
  rw [Int.tdiv_eq_ediv_of_nonneg (by omega)]; omega

theorem and_one (a : Nat) (h : a < 9223372036854775808) : bits .and .i64 (a : Int) 1 = ((a % 2 : Nat) : Int) := by
  have := i64_and_nat a 1 h (by omega)
  rw [Nat.and_one_is_mod] at this
  exact this
theorem shr_and (z k : Nat) (h : z < 9223372036854775808) : bits .and .i64 ((z : Int) / 2 ^ k) 1 = ((z / 2 ^ k % 2 : Nat) : Int) := by
  have e : (z : Int) / 2 ^ k = ((z / 2 ^ k : Nat) : Int) := by simp
  rw [e, and_one _ (Nat.lt_of_le_of_lt (Nat.div_le_self _ _) h)]

set_option maxHeartbeats 400000 in
theorem sWidthOf (n : Int) (w : World) : Calls Try.prog 57 #[.int .i64 n] w fun e w' => e = .returned (.int .i64 (Bit.widthI n)) ∧ w = w' := by
  by_cases hin : 0 ≤ n ∧ n ≤ 2147483647
  · have hib : Num.inB n 0 2147483647 = true := Num.inB_true.2 hin
    have HW : Hid (Bit.widthI n = Bit.width n.toNat) := by
      show Bit.widthI n = _
      unfold Bit.widthI
      rw [if_pos hin]
    obtain ⟨u, rfl⟩ := Int.eq_ofNat_of_zero_le hin.1
    rw [Int.toNat_natCast] at HW
    have hu : u ≤ 2147483647 := by omega
    have h31 : Bit.width u ≤ 31 := (Bit.width_le u 31).2 (by omega)
    have HU : Hid (0 + Bit.width u = Bit.width u) := Nat.zero_add _
    revert HW h31 HU
    generalize hQ : Bit.width u = W
    intro HW h31 HU
    have HU2 : Hid (0 + Bit.width u = W) := hQ ▸ HU
    clear hQ hin HU
    go_enter Try.func57, Try.ntmps57
    go_wp2_with (go_at_call 66; refine (l1In _ _ _ _).mono ?_; rintro e w' ⟨rfl, rfl⟩)
    go_loop [3, 4] (fun a x => ∃ (j v : Nat), a = .int .i64 j ∧ x = .int .i64 v ∧ v ≤ 2147483647 ∧ j + Bit.width v = W) (fun _ x => (intOf x).toNat)
    case atStart => exact ⟨0, u, rfl, rfl, hu, HU2.out⟩
    case round =>
      obtain ⟨j, v, rfl, rfl, hv, hj⟩ := hrel
      have hj31 : j ≤ 31 := by omega
      have HJ := Lib.hid hj
      clear hj
      by_cases h0 : 0 < v
      · go_wp2
        go_round
        case rel => exact ⟨j + 1, v / 2, by go_num, by go_num, by omega, by rw [← HJ.out, Bit.width_pos h0]; omega⟩
        case measure => simp [intOf]; omega
      · obtain rfl : v = 0 := by omega
        go_wp2
        go_ret
        exact ⟨by rw [HW.out, ← HJ.out, Bit.width_zero]; rfl, rfl⟩
  · have hib : Num.inB n 0 2147483647 = false := Num.inB_false.2 hin
    have HW : Hid (Bit.widthI n = 0) := by
      show Bit.widthI n = _
      unfold Bit.widthI
      rw [if_neg hin]
    clear hin
    go_enter Try.func57, Try.ntmps57
    go_wp2_with (go_at_call 66; refine (l1In _ _ _ _).mono ?_; rintro e w' ⟨rfl, rfl⟩)
    go_ret
    exact ⟨by rw [HW.out]; rfl, rfl⟩

theorem sBytesFor (k v : Int) (w : World) : Calls Try.prog 97 #[.int .i64 k, .int .i64 v] w fun e w' => e = .returned (.int .i64 (Bit.bytesFor k v)) ∧ w = w' := by
  by_cases h1 : 0 ≤ k ∧ k ≤ 64
  · have hb1 : Num.inB k 0 64 = true := Num.inB_true.2 h1
    by_cases h2 : 0 ≤ v ∧ v ≤ 31
    · have hb2 : Num.inB v 0 31 = true := Num.inB_true.2 h2
      have HB : Hid (Bit.bytesFor k v = (k * v + 7) / 8) := if_pos ⟨h1, h2⟩
      obtain ⟨a, rfl⟩ := Int.eq_ofNat_of_zero_le h1.1
      obtain ⟨b, rfl⟩ := Int.eq_ofNat_of_zero_le h2.1
      have ha : a ≤ 64 := by omega
      have hb : b ≤ 31 := by omega
      have hm : a * b ≤ 64 * 31 := Nat.mul_le_mul ha hb
      have hmi : (a : Int) * (b : Int) = ((a * b : Nat) : Int) := by simp
      generalize a * b = m at hm hmi
      clear h1 h2
      go_enter Try.func97, Try.ntmps97
      go_wp2_with (go_at_call 66; refine (l1In _ _ _ _).mono ?_; rintro e w' ⟨rfl, rfl⟩)
      go_ret
      exact ⟨ret_int (by rw [HB.out, hmi]), rfl⟩
    · have hb2 : Num.inB v 0 31 = false := Num.inB_false.2 h2
      have HB : Hid (Bit.bytesFor k v = 0) := if_neg (fun h => h2 h.2)
      clear h1 h2
      go_enter Try.func97, Try.ntmps97
      go_wp2_with (go_at_call 66; refine (l1In _ _ _ _).mono ?_; rintro e w' ⟨rfl, rfl⟩)
      go_ret
      exact ⟨ret_int HB.out.symm, rfl⟩
  · have hb1 : Num.inB k 0 64 = false := Num.inB_false.2 h1
    have HB : Hid (Bit.bytesFor k v = 0) := if_neg (fun h => h1 h.1)
    clear h1
    go_enter Try.func97, Try.ntmps97
    go_wp2_with (go_at_call 66; refine (l1In _ _ _ _).mono ?_; rintro e w' ⟨rfl, rfl⟩)
    go_ret
    exact ⟨ret_int HB.out.symm, rfl⟩

theorem sFits_nil (v : Int) (w : World) : Calls Try.prog 86 #[.slice none 0 0, .int .i64 v] w fun e w' => e = .returned (.bool (Bit.fitsB [] v)) ∧ w = w' := by
  go_enter Try.func86, Try.ntmps86
  go_wp2
  refine wp_loop_rounds 1 ?_
  rw [rounds_succ]
  go_wp2_with (go_at_call 66; refine (l1In _ _ _ _).mono ?_; rintro e w' ⟨rfl, rfl⟩)
  go_ret
  exact ⟨ret_bool rfl, rfl⟩

set_option maxHeartbeats 400000 in
theorem sFits (u : Value) (m : Nat) (l : List Int) (v : Int) (w : World) (hm : l.length = m) (hl : AtN 1 w u m (ints .i64 l)) :
    Calls Try.prog 86 #[u, .int .i64 v] w fun e w' => e = .returned (.bool (Bit.fitsB l v)) ∧ w = w' := by
  rcases hl with ⟨rfl, rfl, _⟩ | ⟨b, off, cap, rfl, h1, h2, h3, hc⟩
  · obtain rfl : l = [] := List.length_eq_zero_iff.1 hm
    exact sFits_nil v w
  · have HM := Lib.hid hm
    clear hm h3
    unfold maxLen at h2
    go_enter Try.func86, Try.ntmps86
    go_wp2
    go_loop [5] (fun i => ∃ k : Nat, k ≤ m ∧ i = .int .i64 k ∧ (l.take k).all (fun x => Bit.okB x v) = true) (fun i => m - (intOf i).toNat)
    case atStart => exact ⟨0, Nat.zero_le _, rfl, rfl⟩
    case round =>
      obtain ⟨k, hk, rfl, hok⟩ := hrel
      have HOK := Lib.hid hok
      clear hok
      by_cases hlt : k < m
      · have hcx : w.cell? ⟨b, off + k, none⟩ = some (.int .i64 (l.getD k 0)) := At.cell hc HM.out hlt
        have HS : Hid (Bit.okB (l.getD k 0) v = true → (l.take (k + 1)).all (fun x => Bit.okB x v) = true) := by
          intro h
          rw [Bit.take_snoc l k (by rw [HM.out]; exact hlt), Bit.all_snoc, HOK.out, h]
          rfl
        have HN : Hid (Bit.okB (l.getD k 0) v = false → Bit.fitsB l v = false) := Bit.fits_no (by rw [HM.out]; exact hlt)
        have HW := Lib.hid (fun (w : World) => sWidthOf (l.getD k 0) w)
        generalize l.getD k 0 = x at hcx HS HN HW
        clear hc
        by_cases hin : 0 ≤ x ∧ x ≤ 2147483647
        · have hib : Num.inB x 0 2147483647 = true := Num.inB_true.2 hin
          by_cases hw : (Bit.widthI x : Int) ≤ v
          · have HS2 := Lib.hid (HS.out (Bit.okB_true hin hw))
            clear hin HS HN
            generalize Bit.widthI x = q at hw HW
            go_wp2_with (first | (go_at_call 66; refine (l1In _ _ _ _).mono ?_; rintro e w' ⟨rfl, rfl⟩) | (go_at_call 57; refine (HW.out _).mono ?_; rintro e w' ⟨rfl, rfl⟩))
            go_round
            case rel => exact ⟨k + 1, by omega, by go_num, HS2.out⟩
            case measure => simp [intOf]; omega
          · have HN2 := Lib.hid (HN.out (Bit.okB_wide hw))
            clear hin HS HN
            generalize Bit.widthI x = q at hw HW
            go_wp2_with (first | (go_at_call 66; refine (l1In _ _ _ _).mono ?_; rintro e w' ⟨rfl, rfl⟩) | (go_at_call 57; refine (HW.out _).mono ?_; rintro e w' ⟨rfl, rfl⟩))
            go_ret
            exact ⟨ret_bool HN2.out.symm, rfl⟩
        · have hib : Num.inB x 0 2147483647 = false := Num.inB_false.2 hin
          have HN2 := Lib.hid (HN.out (Bit.okB_out hin))
          clear hin HS HN HW
          go_wp2_with (go_at_call 66; refine (l1In _ _ _ _).mono ?_; rintro e w' ⟨rfl, rfl⟩)
          go_ret
          exact ⟨ret_bool HN2.out.symm, rfl⟩
      · obtain rfl : k = m := by omega
        have HE : Hid (Bit.fitsB l v = Num.inB v 0 31) := by
          show Bit.fitsB l v = Num.inB v 0 31
          have := HOK.out
          rw [← HM.out, List.take_length] at this
          rw [Bit.fitsB_eq, this]
          rfl
        go_wp2_with (go_at_call 66; refine (l1In _ _ _ _).mono ?_; rintro e w' ⟨rfl, rfl⟩)
        go_ret
        exact ⟨ret_bool HE.out.symm, rfl⟩

set_option maxHeartbeats 400000 in
theorem sBitAt (u : Value) (m : Nat) (zs : List Int) (n : Int) (w : World) (h0 : -9223372036854775808 ≤ n) (h1 : n ≤ 9223372036854775807) (hm : zs.length = m) (hb : Num.Bytes zs) (hl : AtN 1 w u m (ints .u8 zs)) :
    Calls Try.prog 98 #[u, .int .i64 n] w fun e w' => e = .returned (.int .i64 (Bit.bitAt zs n)) ∧ w = w' := by
  obtain ⟨a, len, cap, rfl, hle, hc⟩ : ∃ a len cap, u = .slice a len cap ∧ len = m ∧ len ≤ 9223372036854775807 ∧ ∀ i, i < m → ∃ b off, a = some ⟨b, off, none⟩ ∧ w.cell? ⟨b, off + i, none⟩ = some (.int .u8 (zs.getD i 0)) := by
    rcases hl with ⟨rfl, rfl, _⟩ | ⟨b, off, cap, rfl, h1, h2, h3, hc⟩
    · exact ⟨_, _, _, rfl, rfl, by omega, fun i hi => by omega⟩
    · unfold maxLen at h2
      exact ⟨_, _, _, rfl, rfl, by omega, fun i hi => ⟨b, off, rfl, At.cell hc hm hi⟩⟩
  subst hle
  by_cases hneg : n < 0
  · have HB : Hid (Bit.bitAt zs n = 0) := if_pos hneg
    go_enter Try.func98, Try.ntmps98
    go_wp2
    go_ret
    exact ⟨ret_int HB.out.symm, rfl⟩
  · obtain ⟨k, rfl⟩ := Int.eq_ofNat_of_zero_le (by omega : 0 ≤ n)
    by_cases hin : k / 8 < len
    · obtain ⟨b, off, rfl, hcx⟩ := hc.2 (k / 8) hin
      have HB := Lib.hid (Bit.bitAt_in hb (k := k) (by rw [hm]; exact hin))
      have hz := hb (zs.getD (k / 8) 0) (by simp [hm, hin])
      generalize zs.getD (k / 8) 0 = z at hcx HB hz
      obtain ⟨z, rfl⟩ := Int.eq_ofNat_of_zero_le hz.1
      have hz2 : z ≤ 255 := by omega
      have hl2 := hc.1
      clear hc hz hb hm hl
      go_enter Try.func98, Try.ntmps98
      go_wp2
      go_ret
      exact ⟨ret_int (by rw [HB.out, shr_and z _ (by omega)]; rfl), rfl⟩
    · have HB := Lib.hid (Bit.bitAt_out hb (k := k) (by rw [hm]; exact hin))
      have hl2 := hc.1
      clear hc hb hm hl
      go_enter Try.func98, Try.ntmps98
      go_wp2
      go_ret
      exact ⟨ret_int HB.out.symm, rfl⟩

end Go.Proofs.Ytoidpibdjijamaa
