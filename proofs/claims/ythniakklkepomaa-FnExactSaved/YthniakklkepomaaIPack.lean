/- The contract of impl's PackBits. -/
import Derived.Test.YthniakklkepomaaIWith
namespace Go.Proofs.Ythniakklkepomaa
open Go.RowKit

/-- A bit set in any byte that holds none above it. -/
theorem dig_set {c n X β : Nat} (hX : X < 2 ^ n) (hβ : β ≤ 1) : (Bit.dig 8 c X).set (n / 8) ((X / 2 ^ (n / 8 * 8) + 2 ^ (n % 8) * β : Nat) : Int) = Bit.dig 8 c (X + 2 ^ n * β) := by
  have hq : X / 2 ^ (n / 8 * 8) < 2 ^ (n % 8) := by
    rw [Nat.div_lt_iff_lt_mul (Nat.pow_pos (by omega)), Nat.mul_comm, ← Bit.pow_split]
    exact hX
  have h8 : 2 ^ (n % 8) ≤ 2 ^ 7 := Nat.pow_le_pow_right (by omega) (by omega)
  have hm : 2 ^ (n % 8) * β ≤ 2 ^ (n % 8) * 1 := Nat.mul_le_mul_left _ hβ
  have hm2 : 2 ^ n * β ≤ 2 ^ n * 1 := Nat.mul_le_mul_left _ hβ
  apply List.ext_getElem
  · simp [Bit.dig_len]
  · intro j h1 h2
    rw [List.getElem_set]
    simp only [Bit.dig, List.getElem_map, List.getElem_range]
    have e1 : X + 2 ^ n * β = X + 2 ^ (n / 8 * 8) * (2 ^ (n % 8) * β) := by rw [← Nat.mul_assoc, ← Bit.pow_split]
    split
    next h =>
      subst h
      rw [e1, Nat.add_mul_div_left _ _ (Nat.pow_pos (by omega)), Nat.mod_eq_of_lt (b := 2 ^ 8) (by omega)]
    next h =>
      by_cases hj : j < n / 8
      · rw [e1, Bit.dig_high hj]
      · have hp : 2 ^ (n + 1) ≤ 2 ^ (j * 8) := Nat.pow_le_pow_right (by omega) (by omega)
        rw [Nat.pow_succ] at hp
        rw [Nat.div_eq_of_lt (by omega), Nat.div_eq_of_lt (by omega)]
theorem byte_at {c n X : Nat} (hX : X < 2 ^ n) (hc : n / 8 < c) : (Bit.dig 8 c X).getD (n / 8) 0 = ((X / 2 ^ (n / 8 * 8) : Nat) : Int) ∧ X / 2 ^ (n / 8 * 8) < 2 ^ (n % 8) := by
  have hq : X / 2 ^ (n / 8 * 8) < 2 ^ (n % 8) := by
    rw [Nat.div_lt_iff_lt_mul (Nat.pow_pos (by omega)), Nat.mul_comm, ← Bit.pow_split]
    exact hX
  have h8 : 2 ^ (n % 8) ≤ 2 ^ 7 := Nat.pow_le_pow_right (by omega) (by omega)
  refine ⟨?_, hq⟩
  rw [Bit.dig_get hc, Nat.mod_eq_of_lt (by omega)]
theorem dig_step (c n N : Nat) : Bit.dig 8 c (N % 2 ^ (n + 1)) = (Bit.dig 8 c (N % 2 ^ n)).set (n / 8) ((N % 2 ^ n / 2 ^ (n / 8 * 8) + 2 ^ (n % 8) * (N / 2 ^ n % 2) : Nat) : Int) := by
  rw [dig_set (Nat.mod_lt _ (Nat.pow_pos (by omega))) (by omega), Bit.mod_step]
theorem made_dig (c N : Nat) : (madeCells #[.int .u8 0] c).toList = ints .u8 (Bit.dig 8 c (N % 2 ^ 0)) := by
  have e := made_ints .u8 c
  rw [Nat.mul_one] at e
  refine e.trans ?_
  rw [Nat.pow_zero, Nat.mod_one]
  apply List.ext_getElem
  · simp [ints, Bit.dig_len]
  · intro j h1 h2
    simp [ints, Bit.dig]

theorem or0_table : ∀ y : Fin 256, bits .or .u8 (y.val : Int) 0 = ((y.val : Nat) : Int) := by decide +kernel
theorem or_byte0 {y : Nat} (h : y < 256) : bits .or .u8 (y : Int) 0 = (y : Int) := or0_table ⟨y, h⟩

set_option maxHeartbeats 2000000 in
theorem iPackBits (u : Value) (m : Nat) (l : List Int) (v : Int) (w : World) (hmx : m ≤ 1073741824) (hm : l.length = m) (hl : AtN 1 w u m (ints .i64 l)) :
    Calls Try.prog 64 #[u, .int .i64 v] w fun e w' => ∃ v', e = .returned v' ∧ Own 5 1 w.heap.size w'.heap.size w' v' (Bit.pack l v).length (ints .u8 (Bit.pack l v)) ∧ Below w.heap.size w w' := by
  have hown0 := own_lit (e := 5) (size := 1) w #[] 0 (Nat.zero_le _) rfl
  have hb0 := below_alloc w (.cells #[] 5)
  obtain ⟨a, cap, rfl⟩ : ∃ a cap, u = .slice a m cap := by
    rcases hl with ⟨rfl, rfl, _⟩ | ⟨b, off, cap, rfl, _⟩
    · exact ⟨_, _, rfl⟩
    · exact ⟨_, _, rfl⟩
  by_cases hv : 0 ≤ v ∧ v ≤ 31
  · have hwk : wokB v = true := decide_eq_true hv
    obtain ⟨b, rfl⟩ := Int.eq_ofNat_of_zero_le hv.1
    have hb31 : b ≤ 31 := by omega
    have HF := Lib.hid (iAllWithin (.slice a m cap) m l b w hb31 hm hl)
    clear hv
    cases hf : Bit.fitsB l b with
    | false =>
      have HP : Hid (Bit.pack l b = []) := by
        show Bit.pack l b = []
        unfold Bit.pack
        rw [if_neg (by rw [hf]; simp)]
      rw [hf] at HF
      clear hf
      go_enter Try.func64, Try.ntmps64
      go_wp2_with (first | (go_at_call 78; refine (iWidthOk _ _).mono ?_; rintro e w' ⟨rfl, rfl⟩) | (go_at_call 79; refine HF.out.mono ?_; rintro e w' ⟨rfl, rfl⟩))
      go_ret
      exact ⟨_, rfl, by rw [HP.out]; exact hown0, hb0⟩
    | true =>
      have HP : Hid (Bit.pack l b = Bit.dig 8 ((l.length * b + 7) / 8) (Bit.val b l)) := if_pos hf
      have HD := Lib.hid (Bit.fits_digs hf)
      rw [hf] at HF
      have HC := Lib.hid (iPackedBytes m b w hmx hb31)
      have hmb : m * b ≤ 1073741824 * 31 := Nat.mul_le_mul hmx hb31
      obtain ⟨c, hc⟩ : ∃ c, c = (m * b + 7) / 8 := ⟨_, rfl⟩
      rw [← hc] at HC
      have hc8 : m * b ≤ 8 * c := by omega
      have hcx : c ≤ 4160749568 := by omega
      have HPC : Hid (Bit.pack l b = Bit.dig 8 c (Bit.val b l)) := by
        show Bit.pack l b = _
        rw [HP.out, hm, ← hc]
      clear hf hc HP
      go_enter Try.func64, Try.ntmps64
      go_wp2_with (first | (go_at_call 78; refine (iWidthOk _ _).mono ?_; rintro e w' ⟨rfl, rfl⟩) | (go_at_call 79; refine HF.out.mono ?_; rintro e w' ⟨rfl, rfl⟩) | (go_at_call 80; refine HC.out.mono ?_; rintro e w' ⟨rfl, rfl⟩) | (at_make; refine make_law Try.elemBytes rfl _ _ rfl .i64 .i64 _ _ c rfl rfl rfl rfl (by omega) (by unfold maxLen; omega) ?_))
      intro w1 hown1 hb1
      generalize hg : (Value.slice (some ⟨w.heap.size, 0, none⟩) c c) = o at hown1 ⊢
      rw [made_dig c (Bit.val b l)] at hown1
      rcases hl with ⟨hu, rfl, _⟩ | ⟨gb, off, cap', hu, h1, h2, h3, hcl⟩
      · obtain rfl : l = [] := List.length_eq_zero_iff.1 hm
        have HL : Hid (Bit.pack [] b = Bit.dig 8 c (Bit.val b [] % 2 ^ 0)) := by
          show Bit.pack [] b = _
          rw [HPC.out]
          rfl
        clear hg hu
        go_wp2
        refine wp_loop_rounds 1 ?_
        rw [rounds_succ]
        go_wp2
        go_ret
        refine ⟨_, rfl, ?_, hb1⟩
        rw [HL.out, Bit.dig_len]
        exact hown1
      · obtain ⟨rfl, rfl⟩ : a = some ⟨gb, off, none⟩ ∧ cap = cap' := by simpa using hu
        clear hu
        unfold maxLen at h2
        have HM := Lib.hid hm
        have HCL := Lib.hid hcl
        generalize hN : Bit.val b l = N at HPC hown1
        have HB : Hid (∀ k q, k < m → q < b → N / 2 ^ (k * b + q) % 2 = (l.getD k 0).toNat / 2 ^ q % 2) := fun k q hk hq => by
          rw [← hN]
          exact Bit.val_bit HD.out (by rw [HM.out]; exact hk) hq
        have HX : Hid (∀ k, k < m → 0 ≤ l.getD k 0 ∧ l.getD k 0 < 2 ^ b) := fun k hk => HD.out _ (by simp [HM.out, hk])
        have HL : Hid (N < 2 ^ (m * b)) := by
          have := Bit.val_lt HD.out
          rw [HM.out] at this
          rw [← hN]
          exact this
        have HBT : Hid (∀ k q, k < m → q < b → k * b + q < m * b) := fun k q hk hq => by
          have := Nat.mul_le_mul_right b (show k + 1 ≤ m by omega)
          rw [Nat.succ_mul] at this
          omega
        have HMB := Lib.hid hmb
        have HC8 := Lib.hid hc8
        clear hN hm hcl h3 HD HF HC hmb hc8 hown0 hb0 hwk hg
        go_wp2
        go_loopw [27] (fun i wr => ∃ k t : Nat, k ≤ m ∧ t = k * b ∧ i = .int .i64 k ∧ Own 5 1 w.heap.size wr.heap.size wr o c (ints .u8 (Bit.dig 8 c (N % 2 ^ t))) ∧ Below w.heap.size w wr) (fun i _ => m - (intOf i).toNat)
        case atStart => exact ⟨0, 0, Nat.zero_le _, (Nat.zero_mul _).symm, rfl, hown1, hb1⟩
        case round =>
          obtain ⟨k, t, hk, ht, rfl, hown, hbr⟩ := hrel
          by_cases hlt : k < m
          · have HT := Lib.hid ht
            obtain ⟨hx0, hx1⟩ := HX.out k hlt
            have HBk : Hid (∀ q, q < b → N / 2 ^ (t + q) % 2 = (l.getD k 0).toNat / 2 ^ q % 2) := fun q hq => by rw [HT.out]; exact HB.out k q hlt hq
            have HTb : Hid (∀ q, q < b → t + q < 8 * c) := fun q hq => by rw [HT.out]; exact Nat.lt_of_lt_of_le (HBT.out k q hlt hq) HC8.out
            have hcell := At.cell HCL.out HM.out hlt
            have hcx1 : wr.cell? ⟨gb, off + k, none⟩ = some (.int .i64 (l.getD k 0)) := (hbr.cell (p := ⟨gb, off + k, none⟩) (lt_of_cell hcell)).trans hcell
            generalize l.getD k 0 = x at hx0 hx1 HBk hcell hcx1
            obtain ⟨x, rfl⟩ := Int.eq_ofNat_of_zero_le hx0
            have hx2 : x < 2147483648 := by
              have h3 := Bit.toNat_lt hx1
              have h4 : 2 ^ b ≤ 2 ^ 31 := Nat.pow_le_pow_right (by omega) hb31
              simp only [Int.toNat_natCast] at h3
              omega
            have hmi : (k : Int) * (b : Int) = (t : Int) := by rw [HT.out]; simp
            have ht2 : t ≤ 33285996544 := by
              rw [HT.out]
              exact Nat.le_trans (Nat.mul_le_mul_right b hk) HMB.out
            clear ht hx1 hcell
            go_wp2
            go_loopw [33] (fun j wr => ∃ q s : Nat, q ≤ b ∧ s = t + q ∧ j = .int .i64 q ∧ Own 5 1 w.heap.size wr.heap.size wr o c (ints .u8 (Bit.dig 8 c (N % 2 ^ s))) ∧ Below w.heap.size w wr) (fun j _ => b - (intOf j).toNat)
            case atStart => exact ⟨0, t, Nat.zero_le _, rfl, rfl, hown, hbr⟩
            case round =>
              obtain ⟨q, s, hq, hs, rfl, hown2, hb2⟩ := hrel
              by_cases hlq : q < b
              · have HQ := Lib.hid (HBk.out q hlq)
                rw [← hs, Int.toNat_natCast] at HQ
                have hs8 : s / 8 < c := by have := HTb.out q hlq; omega
                have hs2 : s ≤ 33285996575 := by omega
                have hand := shr_and x q (by omega)
                have HS := Lib.hid hs
                have hsi : (t : Int) + (q : Int) = (s : Int) := by omega
                clear hs hown hbr hcx1
                have hq31 : q < 31 := by omega
                have HST := Lib.hid (dig_step c s N)
                have HY := Lib.hid (byte_at (c := c) (n := s) (X := N % 2 ^ s) (Nat.mod_lt _ (Nat.pow_pos (by omega))) hs8)
                obtain ⟨g, cp, rfl, g1, g2, g3⟩ := hown2
                have hcw : wr.cell? ⟨g, s / 8, none⟩ = some (.int .u8 (N % 2 ^ s / 2 ^ (s / 8 * 8) : Nat)) := (g3.cellAt (s / 8) (by omega)).trans (by rw [ints_get (by rw [Bit.dig_len]; omega), HY.out.1])
                have hfr := g3.frozenAt (s / 8)
                have hy := HY.out.2
                have hr8 : s % 8 < 8 := Nat.mod_lt _ (by omega)
                rw [HQ.out] at HST
                by_cases hbit : x / 2 ^ q % 2 = 1
                · rw [hbit] at hand HST
                  have R := Lib.hid (g3.stored (s / 8) (.int .u8 (N % 2 ^ s / 2 ^ (s / 8 * 8) + 2 ^ (s % 8) * 1 : Nat)))
                  generalize hyy : N % 2 ^ s / 2 ^ (s / 8 * 8) = y at hcw R hy HST
                  have HOR : Hid (bits .or .u8 (y : Int) (2 ^ (s % 8) % 256) = ((y + 2 ^ (s % 8) * 1 : Nat) : Int)) := by
                    have := or_byte hy hr8
                    rw [Nat.mul_one]
                    exact this
                  clear hyy hbit
                  go_wp2
                  go_region
                  go_wp2
                  go_roundw
                  case rel =>
                    rw [HOR.out]
                    refine ⟨q + 1, s + 1, by omega, by rw [HS.out]; rfl, by go_num, ?_, hb2.trans ⟨rfl, rfl, rfl, R.out.2.size, fun j hj => R.out.2.block j (by have := hb2.size; omega) (by simp; omega)⟩⟩
                    rw [HST.out, ints_set]
                    exact (show Own 5 1 w.heap.size _ _ _ _ _ from ⟨g, cp, rfl, g1, (R.out.1.lt g rfl).2, R.out.1⟩ : Own _ _ _ _ _ _ _ _).drew
                  case measure => simp [intOf]; omega
                · have hb0' : x / 2 ^ q % 2 = 0 := by omega
                  rw [hb0'] at hand HST
                  have R := Lib.hid (g3.stored (s / 8) (.int .u8 (N % 2 ^ s / 2 ^ (s / 8 * 8) + 2 ^ (s % 8) * 0 : Nat)))
                  generalize hyy : N % 2 ^ s / 2 ^ (s / 8 * 8) = y at hcw R hy HST
                  have HOR : Hid (bits .or .u8 (y : Int) 0 = ((y + 2 ^ (s % 8) * 0 : Nat) : Int)) := by
                    have h7 : 2 ^ (s % 8) ≤ 2 ^ 7 := Nat.pow_le_pow_right (by omega) (by omega)
                    exact or_byte0 (by omega)
                  clear hyy hbit hb0'
                  go_wp2
                  go_region
                  go_wp2
                  go_roundw
                  case rel =>
                    rw [HOR.out]
                    refine ⟨q + 1, s + 1, by omega, by rw [HS.out]; rfl, by go_num, ?_, hb2.trans ⟨rfl, rfl, rfl, R.out.2.size, fun j hj => R.out.2.block j (by have := hb2.size; omega) (by simp; omega)⟩⟩
                    rw [HST.out, ints_set]
                    exact (show Own 5 1 w.heap.size _ _ _ _ _ from ⟨g, cp, rfl, g1, (R.out.1.lt g rfl).2, R.out.1⟩ : Own _ _ _ _ _ _ _ _).drew
                  case measure => simp [intOf]; omega
              · obtain rfl : q = b := by omega
                have HS := Lib.hid hs
                clear hs hown hbr
                go_wp2
                go_roundw
                case rel => exact ⟨k + 1, s, by omega, by rw [Nat.succ_mul, ← HT.out]; exact HS.out, by go_num, hown2, hb2⟩
                case measure => simp [intOf]; omega
          · obtain rfl : k = m := by omega
            have HE : Hid (Bit.pack l b = Bit.dig 8 c (N % 2 ^ t)) := by
              show Bit.pack l b = _
              rw [HPC.out, ht, Nat.mod_eq_of_lt HL.out]
            clear ht
            go_wp2
            go_ret
            exact ⟨_, rfl, by rw [HE.out, Bit.dig_len]; exact hown, hbr⟩
  · have hwk : wokB v = false := decide_eq_false hv
    have HP : Hid (Bit.pack l v = []) := by
      show Bit.pack l v = []
      unfold Bit.pack
      rw [if_neg (fun h => hv (Bit.fits_true.1 h).2)]
    clear hv
    go_enter Try.func64, Try.ntmps64
    go_wp2_with (go_at_call 78; refine (iWidthOk _ _).mono ?_; rintro e w' ⟨rfl, rfl⟩)
    go_ret
    exact ⟨_, rfl, by rw [HP.out]; exact hown0, hb0⟩

end Go.Proofs.Ythniakklkepomaa
