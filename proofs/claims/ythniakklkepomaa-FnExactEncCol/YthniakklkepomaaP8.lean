/- Texts of this claim, one behind the other: SGet, SBits, SPack, SUnpack. -/
import Derived.Test.YthniakklkepomaaP5
import Derived.Test.YthniakklkepomaaP2
import Derived.OpenShut
import Derived.Test.YthniakklkepomaaP1

/- The contract of the model's GetNum. -/
namespace Go.Proofs.Ythniakklkepomaa
open Go.RowKit


theorem rd_or {x c : Int} {k : Nat} (hk : k < 5) (hx0 : 0 ≤ x) (hx1 : x < 128 ^ k) (hc0 : 0 ≤ c) (hc1 : c ≤ 255) :
    bits .or .i64 x (wrap64 (bits .and .i64 c 127 * 2 ^ (7 * k))) = x + c % 128 * 128 ^ k := by
  rw [and127 c hc0 (by omega)]
  have h5 : k = 0 ∨ k = 1 ∨ k = 2 ∨ k = 3 ∨ k = 4 := by omega
  rcases h5 with rfl | rfl | rfl | rfl | rfl <;> simp only [Nat.mul_zero, Nat.reduceMul, Int.reducePow] at hx1 ⊢
  · rw [IntWalk.wrap64_in _ (by omega)]; exact or_join x (c % 128) 0 hx0 (by omega) (by omega) (by omega) (by omega)
  · rw [IntWalk.wrap64_in _ (by omega)]; exact or_join x (c % 128) 7 hx0 (by omega) (by omega) (by omega) (by omega)
  · rw [IntWalk.wrap64_in _ (by omega)]; exact or_join x (c % 128) 14 hx0 (by omega) (by omega) (by omega) (by omega)
  · rw [IntWalk.wrap64_in _ (by omega)]; exact or_join x (c % 128) 21 hx0 (by omega) (by omega) (by omega) (by omega)
  · rw [IntWalk.wrap64_in _ (by omega)]; exact or_join x (c % 128) 28 hx0 (by omega) (by omega) (by omega) (by omega)

end Go.Proofs.Ythniakklkepomaa

/- The contracts of the model's WidthOf, WidthFor, l2Fits, BytesFor, BitAt. -/
namespace Go.Proofs.Ythniakklkepomaa
open Go.RowKit

theorem tdiv2 (a : Nat) : ((a : Int)).tdiv 2 = ((a / 2 : Nat) : Int) := by
  rw [Int.tdiv_eq_ediv_of_nonneg (by omega)]; omega

theorem and_one (a : Nat) (h : a < 9223372036854775808) : bits .and .i64 (a : Int) 1 = ((a % 2 : Nat) : Int) := by
  have := i64_and_nat a 1 h (by omega)
  rw [Nat.and_one_is_mod] at this
  exact this
theorem shr_and (z k : Nat) (h : z < 9223372036854775808) : bits .and .i64 ((z : Int) / 2 ^ k) 1 = ((z / 2 ^ k % 2 : Nat) : Int) := by
  have e : (z : Int) / 2 ^ k = ((z / 2 ^ k : Nat) : Int) := by simp
  rw [e, and_one _ (Nat.lt_of_le_of_lt (Nat.div_le_self _ _) h)]

set_option maxHeartbeats 400000 in
theorem sWidthOf (n : Int) (w : World) : Calls Try.prog 45 #[.int .i64 n] w fun e w' => e = .returned (.int .i64 (Bit.widthI n)) ∧ w = w' := by
  by_cases hin : 0 ≤ n ∧ n ≤ 2147483647
  · have hib : Num.inB n 0 2147483647 = true := Num.inB_true.2 hin
    have HW : Hid (Bit.widthI n = Bit.width n.toNat) := by
      show Bit.widthI n = _
      unfold Bit.widthI
      rw [if_pos hin]
    obtain ⟨u, rfl⟩ := Int.eq_ofNat_of_zero_le hin.1
    rw [Int.toNat_natCast] at HW
    have hu : u ≤ 2147483647 := by omega
    have h31 : Bit.width u ≤ 31 := (Bit.width_le u 31).2 (by omega)
    have HU : Hid (0 + Bit.width u = Bit.width u) := Nat.zero_add _
    revert HW h31 HU
    generalize hQ : Bit.width u = W
    intro HW h31 HU
    have HU2 : Hid (0 + Bit.width u = W) := hQ ▸ HU
    clear hQ hin HU
    go_enter Try.func45, Try.ntmps45
    go_wp2_with (go_at_call 37; refine (l1In _ _ _ _).mono ?_; rintro e w' ⟨rfl, rfl⟩)
    go_loop [3, 4] (fun a x => ∃ (j v : Nat), a = .int .i64 j ∧ x = .int .i64 v ∧ v ≤ 2147483647 ∧ j + Bit.width v = W) (fun _ x => (intOf x).toNat)
    case atStart => exact ⟨0, u, rfl, rfl, hu, HU2.out⟩
    case round =>
      obtain ⟨j, v, rfl, rfl, hv, hj⟩ := hrel
      have hj31 : j ≤ 31 := by omega
      have HJ := Lib.hid hj
      clear hj
      by_cases h0 : 0 < v
      · go_wp2
        go_round
        case rel => exact ⟨j + 1, v / 2, by go_num, by go_num, by omega, by rw [← HJ.out, Bit.width_pos h0]; omega⟩
        case measure => simp [intOf]; omega
      · obtain rfl : v = 0 := by omega
        go_wp2
        go_ret
        exact ⟨by rw [HW.out, ← HJ.out, Bit.width_zero]; rfl, rfl⟩
  · have hib : Num.inB n 0 2147483647 = false := Num.inB_false.2 hin
    have HW : Hid (Bit.widthI n = 0) := by
      show Bit.widthI n = _
      unfold Bit.widthI
      rw [if_neg hin]
    clear hin
    go_enter Try.func45, Try.ntmps45
    go_wp2_with (go_at_call 37; refine (l1In _ _ _ _).mono ?_; rintro e w' ⟨rfl, rfl⟩)
    go_ret
    exact ⟨by rw [HW.out]; rfl, rfl⟩

set_option maxHeartbeats 400000 in
theorem sWidthFor (v : Value) (m : Nat) (l : List Int) (w : World) (hm : l.length = m) (hl : AtN 1 w v m (ints .i64 l)) :
    Calls Try.prog 47 #[v] w fun e w' => e = .returned (.int .i64 (Bit.widthFor l)) ∧ w = w' := by
  rcases hl with ⟨rfl, rfl, _⟩ | ⟨b, off, cap, rfl, h1, h2, h3, hc⟩
  · obtain rfl : l = [] := List.length_eq_zero_iff.1 hm
    go_enter Try.func47, Try.ntmps47
    go_wp2
    refine wp_loop_rounds 1 ?_
    rw [rounds_succ]
    go_wp2
    go_ret
    exact ⟨rfl, rfl⟩
  · have HM := Lib.hid hm
    clear hm h3
    unfold maxLen at h2
    go_enter Try.func47, Try.ntmps47
    go_wp2
    go_loop [3, 4] (fun a i => ∃ k : Nat, k ≤ m ∧ i = .int .i64 k ∧ a = .int .i64 (Bit.widthFor (l.take k))) (fun _ i => m - (intOf i).toNat)
    case atStart => exact ⟨0, Nat.zero_le _, rfl, rfl⟩
    case round =>
      obtain ⟨k, hk, rfl, rfl⟩ := hrel
      by_cases hlt : k < m
      · have hcx : w.cell? ⟨b, off + k, none⟩ = some (.int .i64 (l.getD k 0)) := At.cell hc HM.out hlt
        have hts : Hid (Bit.widthFor (l.take (k + 1)) = max (Bit.widthFor (l.take k)) (Bit.widthI (l.getD k 0))) := by
          show Bit.widthFor (l.take (k + 1)) = _
          rw [Bit.take_snoc l k (by rw [HM.out]; exact hlt), Bit.widthFor_snoc]
        have hq := fun (w : World) => sWidthOf (l.getD k 0) w
        have hp31 := Bit.widthFor_le31 (l.take k)
        have hq31 := Bit.widthI_le31 (l.getD k 0)
        generalize Bit.widthI (l.getD k 0) = q at hts hq hq31
        generalize l.getD k 0 = x at hcx hq
        generalize Bit.widthFor (l.take k) = p at hts hp31
        clear hc
        have HQ := Lib.hid hq
        clear hq
        by_cases hgt : p < q
        · go_wp2_with (go_at_call 45; refine (HQ.out _).mono ?_; rintro e w' ⟨rfl, rfl⟩)
          go_round
          case rel => exact ⟨k + 1, by omega, by go_num, by rw [hts.out]; go_num⟩
          case measure => simp [intOf]; omega
        · go_wp2_with (go_at_call 45; refine (HQ.out _).mono ?_; rintro e w' ⟨rfl, rfl⟩)
          go_round
          case rel => exact ⟨k + 1, by omega, by go_num, by rw [hts.out]; go_num⟩
          case measure => simp [intOf]; omega
      · obtain rfl : k = m := by omega
        have e : l.take k = l := by rw [← HM.out]; exact List.take_length
        rw [e]
        go_wp2
        go_ret
        exact ⟨rfl, rfl⟩

theorem sFits_nil (v : Int) (w : World) : Calls Try.prog 59 #[.slice none 0 0, .int .i64 v] w fun e w' => e = .returned (.bool (Bit.fitsB [] v)) ∧ w = w' := by
  go_enter Try.func59, Try.ntmps59
  go_wp2
  refine wp_loop_rounds 1 ?_
  rw [rounds_succ]
  go_wp2_with (go_at_call 37; refine (l1In _ _ _ _).mono ?_; rintro e w' ⟨rfl, rfl⟩)
  go_ret
  exact ⟨ret_bool rfl, rfl⟩

set_option maxHeartbeats 400000 in
theorem sFits (u : Value) (m : Nat) (l : List Int) (v : Int) (w : World) (hm : l.length = m) (hl : AtN 1 w u m (ints .i64 l)) :
    Calls Try.prog 59 #[u, .int .i64 v] w fun e w' => e = .returned (.bool (Bit.fitsB l v)) ∧ w = w' := by
  rcases hl with ⟨rfl, rfl, _⟩ | ⟨b, off, cap, rfl, h1, h2, h3, hc⟩
  · obtain rfl : l = [] := List.length_eq_zero_iff.1 hm
    exact sFits_nil v w
  · have HM := Lib.hid hm
    clear hm h3
    unfold maxLen at h2
    go_enter Try.func59, Try.ntmps59
    go_wp2
    go_loop [5] (fun i => ∃ k : Nat, k ≤ m ∧ i = .int .i64 k ∧ (l.take k).all (fun x => Bit.okB x v) = true) (fun i => m - (intOf i).toNat)
    case atStart => exact ⟨0, Nat.zero_le _, rfl, rfl⟩
    case round =>
      obtain ⟨k, hk, rfl, hok⟩ := hrel
      have HOK := Lib.hid hok
      clear hok
      by_cases hlt : k < m
      · have hcx : w.cell? ⟨b, off + k, none⟩ = some (.int .i64 (l.getD k 0)) := At.cell hc HM.out hlt
        have HS : Hid (Bit.okB (l.getD k 0) v = true → (l.take (k + 1)).all (fun x => Bit.okB x v) = true) := by
          intro h
          rw [Bit.take_snoc l k (by rw [HM.out]; exact hlt), Bit.all_snoc, HOK.out, h]
          rfl
        have HN : Hid (Bit.okB (l.getD k 0) v = false → Bit.fitsB l v = false) := Bit.fits_no (by rw [HM.out]; exact hlt)
        have HW := Lib.hid (fun (w : World) => sWidthOf (l.getD k 0) w)
        generalize l.getD k 0 = x at hcx HS HN HW
        clear hc
        by_cases hin : 0 ≤ x ∧ x ≤ 2147483647
        · have hib : Num.inB x 0 2147483647 = true := Num.inB_true.2 hin
          by_cases hw : (Bit.widthI x : Int) ≤ v
          · have HS2 := Lib.hid (HS.out (Bit.okB_true hin hw))
            clear hin HS HN
            generalize Bit.widthI x = q at hw HW
            go_wp2_with (first | (go_at_call 37; refine (l1In _ _ _ _).mono ?_; rintro e w' ⟨rfl, rfl⟩) | (go_at_call 45; refine (HW.out _).mono ?_; rintro e w' ⟨rfl, rfl⟩))
            go_round
            case rel => exact ⟨k + 1, by omega, by go_num, HS2.out⟩
            case measure => simp [intOf]; omega
          · have HN2 := Lib.hid (HN.out (Bit.okB_wide hw))
            clear hin HS HN
            generalize Bit.widthI x = q at hw HW
            go_wp2_with (first | (go_at_call 37; refine (l1In _ _ _ _).mono ?_; rintro e w' ⟨rfl, rfl⟩) | (go_at_call 45; refine (HW.out _).mono ?_; rintro e w' ⟨rfl, rfl⟩))
            go_ret
            exact ⟨ret_bool HN2.out.symm, rfl⟩
        · have hib : Num.inB x 0 2147483647 = false := Num.inB_false.2 hin
          have HN2 := Lib.hid (HN.out (Bit.okB_out hin))
          clear hin HS HN HW
          go_wp2_with (go_at_call 37; refine (l1In _ _ _ _).mono ?_; rintro e w' ⟨rfl, rfl⟩)
          go_ret
          exact ⟨ret_bool HN2.out.symm, rfl⟩
      · obtain rfl : k = m := by omega
        have HE : Hid (Bit.fitsB l v = Num.inB v 0 31) := by
          show Bit.fitsB l v = Num.inB v 0 31
          have := HOK.out
          rw [← HM.out, List.take_length] at this
          rw [Bit.fitsB_eq, this]
          rfl
        go_wp2_with (go_at_call 37; refine (l1In _ _ _ _).mono ?_; rintro e w' ⟨rfl, rfl⟩)
        go_ret
        exact ⟨ret_bool HE.out.symm, rfl⟩

end Go.Proofs.Ythniakklkepomaa

/- The contract of the model's PackBits. -/
namespace Go.Proofs.Ythniakklkepomaa
open Go.RowKit

/-- The bits after t of them. -/
def packed (N t : Nat) : List Int := Bit.dig 8 ((t + 7) / 8) (N % 2 ^ t)
theorem packed_len (N t : Nat) : (packed N t).length = (t + 7) / 8 := Bit.dig_len _ _ _
theorem packed_zero (N : Nat) : packed N 0 = [] := rfl
theorem packed_new {N t : Nat} (h : t % 8 = 0) : packed N t ++ [0] = Bit.dig 8 (t / 8 + 1) (N % 2 ^ t) := Bit.pack_new h (Nat.mod_lt _ (Nat.pow_pos (by omega)))
theorem packed_old {N t : Nat} (h : ¬ t % 8 = 0) : packed N t = Bit.dig 8 (t / 8 + 1) (N % 2 ^ t) := by
  unfold packed; rw [show (t + 7) / 8 = t / 8 + 1 by omega]
theorem packed_off {N t : Nat} (h : N / 2 ^ t % 2 = 0) : packed N (t + 1) = Bit.dig 8 (t / 8 + 1) (N % 2 ^ t) := by
  unfold packed; rw [Bit.mod_step, h, Nat.mul_zero, show (t + 1 + 7) / 8 = t / 8 + 1 by omega]
  rfl
theorem packed_on {N t : Nat} (h : N / 2 ^ t % 2 = 1) : packed N (t + 1) = (Bit.dig 8 (t / 8 + 1) (N % 2 ^ t)).set (t / 8) ((N % 2 ^ t / 2 ^ (t / 8 * 8) + 2 ^ (t % 8) : Nat) : Int) := by
  rw [Bit.pack_set (Nat.mod_lt _ (Nat.pow_pos (by omega)))]
  unfold packed
  rw [Bit.mod_step, h, Nat.mul_one, show (t + 1 + 7) / 8 = t / 8 + 1 by omega]

theorem or_table : ∀ r : Fin 8, ∀ y : Fin 128, y.val < 2 ^ r.val → bits .or .u8 (y.val : Int) (2 ^ r.val % 256) = ((y.val + 2 ^ r.val : Nat) : Int) := by decide +kernel
theorem or_byte {y r : Nat} (h : y < 2 ^ r) (hr : r < 8) : bits .or .u8 (y : Int) (2 ^ r % 256) = ((y + 2 ^ r : Nat) : Int) := by
  have h2 : 2 ^ r ≤ 2 ^ 7 := Nat.pow_le_pow_right (by omega) (by omega)
  exact or_table ⟨r, hr⟩ ⟨y, by omega⟩ h
theorem ints_set (k : IntKind) (l : List Int) (i : Nat) (z : Int) : ints k (l.set i z) = (ints k l).set i (.int k z) := by simp [ints, List.map_set]

set_option maxHeartbeats 2000000 in
theorem sPackBits (u : Value) (m : Nat) (l : List Int) (v : Int) (w : World) (hmx : m ≤ 1073741824) (hm : l.length = m) (hl : AtN 1 w u m (ints .i64 l)) :
    Calls Try.prog 44 #[u, .int .i64 v] w fun e w' => ∃ v', e = .returned v' ∧ Own 5 1 w.heap.size w'.heap.size w' v' (Bit.pack l v).length (ints .u8 (Bit.pack l v)) ∧ Below w.heap.size w w' := by
  have hown0 := own_lit (e := 5) (size := 1) w #[] 0 (Nat.zero_le _) rfl
  have hb0 := below_alloc w (.cells #[] 5)
  have HF := Lib.hid (sFits u m l v (w.alloc (.cells #[] 5)) hm (hl.below hb0))
  cases hf : Bit.fitsB l v with
  | false =>
    have HP : Hid (Bit.pack l v = []) := by
      show Bit.pack l v = []
      unfold Bit.pack
      rw [if_neg (by rw [hf]; simp)]
    rw [hf] at HF
    clear hf
    go_enter Try.func44, Try.ntmps44
    go_wp2_with (go_at_call 59; refine HF.out.mono ?_; rintro e w' ⟨rfl, rfl⟩)
    go_ret
    exact ⟨_, rfl, by rw [HP.out]; exact hown0, hb0⟩
  | true =>
    have hft := Bit.fits_true.1 hf
    obtain ⟨b, rfl⟩ := Int.eq_ofNat_of_zero_le hft.2.1
    have hb31 : b ≤ 31 := by omega
    have HP : Hid (Bit.pack l b = Bit.dig 8 ((l.length * b + 7) / 8) (Bit.val b l)) := if_pos hf
    have HD := Lib.hid (Bit.fits_digs hf)
    rw [hf] at HF
    clear hf hft
    go_enter Try.func44, Try.ntmps44
    go_wp2_with (go_at_call 59; refine HF.out.mono ?_; rintro e w' ⟨rfl, rfl⟩)
    rcases hl with ⟨rfl, rfl, _⟩ | ⟨gb, off, cap, rfl, h1, h2, h3, hc⟩
    · obtain rfl : l = [] := List.length_eq_zero_iff.1 hm
      refine wp_loop_rounds 1 ?_
      rw [rounds_succ]
      go_wp2
      go_ret
      refine ⟨_, rfl, ?_, hb0⟩
      have e : Bit.pack [] (b : Int) = [] := by
        rw [HP.out]
        simp [Bit.dig]
      rw [e]
      exact hown0
    · unfold maxLen at h2
      have HM := Lib.hid hm
      have HC := Lib.hid hc
      generalize hN : Bit.val b l = N at HP
      have HB : Hid (∀ k q, k < m → q < b → N / 2 ^ (k * b + q) % 2 = (l.getD k 0).toNat / 2 ^ q % 2) := fun k q hk hq => by
        rw [← hN]
        exact Bit.val_bit HD.out (by rw [HM.out]; exact hk) hq
      have HX : Hid (∀ k, k < m → 0 ≤ l.getD k 0 ∧ l.getD k 0 < 2 ^ b) := fun k hk => HD.out _ (by simp [HM.out, hk])
      have HL : Hid (N < 2 ^ (m * b)) := by
        have := Bit.val_lt HD.out
        rw [HM.out] at this
        rw [← hN]
        exact this
      clear hN hm hc h3 HD HF
      go_loopw [5, 6, 7] (fun o n i wr => ∃ k t : Nat, k ≤ m ∧ t = k * b ∧ i = .int .i64 k ∧ n = .int .i64 t ∧ Own 5 1 w.heap.size wr.heap.size wr o (packed N t).length (ints .u8 (packed N t)) ∧ Below w.heap.size w wr) (fun _ _ i _ => m - (intOf i).toNat)
      case atStart => exact ⟨0, 0, Nat.zero_le _, (Nat.zero_mul _).symm, rfl, rfl, hown0, hb0⟩
      case round =>
        obtain ⟨k, t, hk, ht, rfl, rfl, hown, hbr⟩ := hrel
        by_cases hlt : k < m
        · have ht2 : t ≤ 31 * 1073741824 := by rw [ht, Nat.mul_comm]; exact Nat.mul_le_mul hb31 (by omega)
          have HT := Lib.hid ht
          obtain ⟨hx0, hx1⟩ := HX.out k hlt
          have HBk : Hid (∀ q, q < b → N / 2 ^ (t + q) % 2 = (l.getD k 0).toNat / 2 ^ q % 2) := fun q hq => by rw [HT.out]; exact HB.out k q hlt hq
          have hcell : Hid (∀ W, Below w.heap.size w W → W.cell? ⟨gb, off + k, none⟩ = some (.int .i64 (l.getD k 0))) := fun W hW => (hW.cell (p := ⟨gb, off + k, none⟩) (lt_of_cell (At.cell HC.out HM.out hlt))).trans (At.cell HC.out HM.out hlt)
          generalize l.getD k 0 = x at hx0 hx1 HBk hcell
          obtain ⟨x, rfl⟩ := Int.eq_ofNat_of_zero_le hx0
          have hx2 : x < 2147483648 := by
            have h3 := Bit.toNat_lt hx1
            have h4 : 2 ^ b ≤ 2 ^ 31 := Nat.pow_le_pow_right (by omega) hb31
            simp only [Int.toNat_natCast] at h3
            omega
          clear ht hx1
          go_wp2
          go_loopw [5, 6, 8] (fun o n j wr => ∃ q s : Nat, q ≤ b ∧ s = t + q ∧ j = .int .i64 q ∧ n = .int .i64 s ∧ Own 5 1 w.heap.size wr.heap.size wr o (packed N s).length (ints .u8 (packed N s)) ∧ Below w.heap.size w wr) (fun _ _ j _ => b - (intOf j).toNat)
          case atStart => exact ⟨0, t, Nat.zero_le _, rfl, rfl, rfl, hown, hbr⟩
          case round =>
            obtain ⟨q, s, hq, hs, rfl, rfl, hown2, hb2⟩ := hrel
            have hs2 : s ≤ 33285996575 := by omega
            by_cases hlq : q < b
            · have HQ := Lib.hid (HBk.out q hlq)
              rw [← hs, Int.toNat_natCast] at HQ
              have hand := shr_and x q (by omega)
              have HS := Lib.hid hs
              clear hs hown hbr
              have hpl := packed_len N s
              have hq31 : q < 31 := by omega
              by_cases hbit : x / 2 ^ q % 2 = 1
              · have hon : (bits .and .i64 ((x : Int) / 2 ^ q) 1 == 1) = true := by rw [hand, hbit]; rfl
                have HOF := Lib.hid (packed_on (HQ.out.trans hbit))
                have HY := Lib.hid (Bit.last_byte (n := s) (X := N % 2 ^ s) (Nat.mod_lt _ (Nat.pow_pos (by omega))))
                clear hand hbit
                by_cases h8 : s % 8 = 0
                · have h8b : ((s : Int) % 8 == 0) = true := by simp; omega
                  have H8 := Lib.hid h8
                  clear h8
                  go_wp2_with (at_builtin; refine append1_law Try.elemBytes rfl _ _ rfl _ _ _ _ _ (.int .u8 0) rfl rfl hown2 rfl (by unfold maxLen; omega) (by omega) ?_)
                  intro v3 w3 o3 e3
                  have b3 := hb2.trans (e3.below hown2)
                  have o4 : Own 5 1 w.heap.size w3.heap.size w3 v3 (s / 8 + 1) (ints .u8 (Bit.dig 8 (s / 8 + 1) (N % 2 ^ s))) := by
                    rw [← packed_new H8.out, ints_append, show s / 8 + 1 = (s + 7) / 8 + 1 by have := H8.out; omega]
                    exact o3
                  clear o3 e3
                  have hcx := hcell.out w3 b3
                  have hbX := b3
                  obtain ⟨g, cp, rfl, g1, g2, g3⟩ := o4
                  have hcw : w3.cell? ⟨g, s / 8, none⟩ = some (.int .u8 (N % 2 ^ s / 2 ^ (s / 8 * 8) : Nat)) := (g3.cellAt (s / 8) (by omega)).trans (by rw [ints_get (by rw [Bit.dig_len]; omega), HY.out.1])
                  have hfr := g3.frozenAt (s / 8)
                  have R := Lib.hid (g3.stored (s / 8) (.int .u8 (N % 2 ^ s / 2 ^ (s / 8 * 8) + 2 ^ (s % 8) : Nat)))
                  have hy := HY.out.2
                  generalize hyy : N % 2 ^ s / 2 ^ (s / 8 * 8) = y at hcw R hy
                  have HYY := Lib.hid hyy
                  clear hyy
                  have HOR := Lib.hid (or_byte hy (Nat.mod_lt _ (by omega)))
                  go_wp2
                  go_region
                  go_wp2
                  go_roundw
                  case rel =>
                    rw [HOR.out]
                    refine ⟨q + 1, s + 1, by omega, by rw [HS.out]; rfl, by go_num, by go_num, ?_, hbX.trans ⟨rfl, rfl, rfl, R.out.2.size, fun j hj => R.out.2.block j (by have := hbX.size; omega) (by simp; omega)⟩⟩
                    rw [HOF.out, HYY.out, List.length_set, Bit.dig_len, ints_set]
                    exact (show Own 5 1 w.heap.size _ _ _ _ _ from ⟨g, cp, rfl, g1, (R.out.1.lt g rfl).2, R.out.1⟩ : Own _ _ _ _ _ _ _ _).drew
                  case measure => simp [intOf]; omega
                · have h8b : ((s : Int) % 8 == 0) = false := by simp; omega
                  have H8 := Lib.hid h8
                  clear h8
                  rw [packed_old H8.out, Bit.dig_len] at hown2
                  have hcx := hcell.out _ hb2
                  have hbX := hb2
                  obtain ⟨g, cp, rfl, g1, g2, g3⟩ := hown2
                  have hcw : wr.cell? ⟨g, s / 8, none⟩ = some (.int .u8 (N % 2 ^ s / 2 ^ (s / 8 * 8) : Nat)) := (g3.cellAt (s / 8) (by omega)).trans (by rw [ints_get (by rw [Bit.dig_len]; omega), HY.out.1])
                  have hfr := g3.frozenAt (s / 8)
                  have R := Lib.hid (g3.stored (s / 8) (.int .u8 (N % 2 ^ s / 2 ^ (s / 8 * 8) + 2 ^ (s % 8) : Nat)))
                  have hy := HY.out.2
                  generalize hyy : N % 2 ^ s / 2 ^ (s / 8 * 8) = y at hcw R hy
                  have HYY := Lib.hid hyy
                  clear hyy
                  have HOR := Lib.hid (or_byte hy (Nat.mod_lt _ (by omega)))
                  go_wp2
                  go_region
                  go_wp2
                  go_roundw
                  case rel =>
                    rw [HOR.out]
                    refine ⟨q + 1, s + 1, by omega, by rw [HS.out]; rfl, by go_num, by go_num, ?_, hbX.trans ⟨rfl, rfl, rfl, R.out.2.size, fun j hj => R.out.2.block j (by have := hbX.size; omega) (by simp; omega)⟩⟩
                    rw [HOF.out, HYY.out, List.length_set, Bit.dig_len, ints_set]
                    exact (show Own 5 1 w.heap.size _ _ _ _ _ from ⟨g, cp, rfl, g1, (R.out.1.lt g rfl).2, R.out.1⟩ : Own _ _ _ _ _ _ _ _).drew
                  case measure => simp [intOf]; omega
              · have hb0' : x / 2 ^ q % 2 = 0 := by omega
                have hon : (bits .and .i64 ((x : Int) / 2 ^ q) 1 == 1) = false := by rw [hand, hb0']; rfl
                have HOF := Lib.hid (packed_off (HQ.out.trans hb0'))
                clear hand hbit hb0'
                by_cases h8 : s % 8 = 0
                · have h8b : ((s : Int) % 8 == 0) = true := by simp; omega
                  have H8 := Lib.hid h8
                  clear h8
                  go_wp2_with (at_builtin; refine append1_law Try.elemBytes rfl _ _ rfl _ _ _ _ _ (.int .u8 0) rfl rfl hown2 rfl (by unfold maxLen; omega) (by omega) ?_)
                  intro v3 w3 o3 e3
                  have b3 := hb2.trans (e3.below hown2)
                  have o4 : Own 5 1 w.heap.size w3.heap.size w3 v3 (s / 8 + 1) (ints .u8 (Bit.dig 8 (s / 8 + 1) (N % 2 ^ s))) := by
                    rw [← packed_new H8.out, ints_append, show s / 8 + 1 = (s + 7) / 8 + 1 by have := H8.out; omega]
                    exact o3
                  clear o3 e3
                  have hcx := hcell.out w3 b3
                  have hbX := b3
                  go_wp2
                  go_roundw
                  case rel => exact ⟨q + 1, s + 1, by omega, by rw [HS.out]; rfl, by go_num, by go_num, by rw [HOF.out, Bit.dig_len]; exact o4, b3⟩
                  case measure => simp [intOf]; omega
                · have h8b : ((s : Int) % 8 == 0) = false := by simp; omega
                  have H8 := Lib.hid h8
                  clear h8
                  rw [packed_old H8.out, Bit.dig_len] at hown2
                  have hcx := hcell.out _ hb2
                  have hbX := hb2
                  go_wp2
                  go_roundw
                  case rel => exact ⟨q + 1, s + 1, by omega, by rw [HS.out]; rfl, by go_num, by go_num, by rw [HOF.out, Bit.dig_len]; exact hown2, hb2⟩
                  case measure => simp [intOf]; omega
            · obtain rfl : q = b := by omega
              have HS := Lib.hid hs
              clear hs hown hbr
              go_wp2
              go_roundw
              case rel => exact ⟨k + 1, s, by omega, by rw [Nat.succ_mul, ← HT.out]; exact HS.out, by go_num, rfl, hown2, hb2⟩
              case measure => simp [intOf]; omega
        · obtain rfl : k = m := by omega
          have HE : Hid (Bit.pack l b = packed N t) := by
            show Bit.pack l b = packed N t
            rw [HP.out, HM.out, ht]
            unfold packed
            rw [Nat.mod_eq_of_lt HL.out]
          clear ht
          go_wp2
          go_ret
          exact ⟨_, rfl, by rw [HE.out]; exact hown, hbr⟩

end Go.Proofs.Ythniakklkepomaa

/- The contract of the model's UnpackBits. -/
namespace Go.Proofs.Ythniakklkepomaa
open Go.RowKit

/-- What UnpackBits returns. -/
def Unpacked (w : World) (r : List Int × Bool) (e : Ending) (w' : World) : Prop :=
  ∃ v', e = .returned (.tuple #[v', .bool r.2]) ∧ Own 3 1 w.heap.size w'.heap.size w' v' r.1.length (ints .i64 r.1) ∧ Below w.heap.size w w'

theorem unpack_no {zs : List Int} {v k : Int} (h : ¬ ((0 ≤ k ∧ k ≤ 64) ∧ (0 ≤ v ∧ v ≤ 31) ∧ zs.length = (k.toNat * v.toNat + 7) / 8)) : Bit.unpack zs v k = ([], false) := by
  unfold Bit.unpack
  exact if_neg (fun ⟨h1, h2, h3, _⟩ => h ⟨h1, h2, h3⟩)

theorem or_on {X q : Nat} (h : X < 2 ^ q) (hq : q < 31) : bits .or .i64 (X : Int) (wrap64 (2 ^ q)) = ((X + 2 ^ q * 1 : Nat) : Int) := by
  have h2 : 2 ^ q ≤ 2 ^ 30 := Nat.pow_le_pow_right (by omega) (by omega)
  have e : wrap64 ((2 : Int) ^ q) = ((2 ^ q : Nat) : Int) := by
    have e2 : ((2 ^ q : Nat) : Int) = (2 : Int) ^ q := by simp
    rw [← e2]
    unfold wrap64
    omega
  have e3 := Nat.two_pow_add_eq_or_of_lt h 1
  rw [e, i64_or_nat X (2 ^ q) (by omega) (by omega), Nat.or_comm]
  rw [Nat.mul_one] at e3 ⊢
  rw [← e3, Nat.add_comm]
theorem or_off {X : Nat} (h : X < 9223372036854775808) : bits .or .i64 (X : Int) 0 = (X : Int) := by
  have := i64_or_nat X 0 h (by omega)
  rw [Nat.or_zero] at this
  exact this

end Go.Proofs.Ythniakklkepomaa
