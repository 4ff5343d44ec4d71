/- The contracts of the program's readGroups and GetNum, and of the model's GetNum. -/
import Derived.Test.YtoidpibdjijamaaZig
import Derived.Test.YtoidpibdjijamaaBytes
namespace Go.Proofs.Ytoidpibdjijamaa
open Go.RowKit

/-- What readGroups returns. -/
def rdRes : Option (Int × Nat) → Value
  | some (u, k) => .tuple #[.int .i64 u, .int .i64 k]
  | none => .tuple #[.int .i64 0, .int .i64 0]

theorem drop_cons {zs : List Int} {k : Nat} (h : k < zs.length) : zs.drop k = zs.getD k 0 :: zs.drop (k + 1) := by
  rw [List.drop_eq_getElem_cons h]; simp [h]
theorem getD_mem {zs : List Int} {k : Nat} (h : k < zs.length) : zs.getD k 0 ∈ zs := by
  simp [h]

theorem rd_sum {x c : Int} {k : Nat} (hk : k < 5) (hx0 : 0 ≤ x) (hx1 : x < 128 ^ k) :
    wrap64 (x + wrap64 (c % 128 * 2 ^ (7 * k))) = x + c % 128 * 128 ^ k ∧ 0 ≤ x + c % 128 * 128 ^ k ∧ x + c % 128 * 128 ^ k < 128 ^ (k + 1) := by
  have h5 : k = 0 ∨ k = 1 ∨ k = 2 ∨ k = 3 ∨ k = 4 := by omega
  rcases h5 with rfl | rfl | rfl | rfl | rfl <;> simp only [Nat.mul_zero, Nat.reduceMul, Nat.reduceAdd, Nat.zero_add, Int.reducePow, Int.pow_zero, Int.mul_one] at hx1 ⊢ <;>
    (first | rw [IntWalk.wrap64_in (c % 128) (by omega)] | rw [IntWalk.wrap64_in (c % 128 * _) (by omega)]) <;> (rw [IntWalk.wrap64_in _ (by omega)]; omega)

theorem rd_more {f i : Nat} {u c : Int} {r : List Int} (h : 128 ≤ c) : Num.rd (f + 1) i u (c :: r) = Num.rd f (i + 1) (u + c % 128 * 128 ^ i) r := by
  simp only [Num.rd]; rw [if_pos h]
theorem rd_zero {f i : Nat} {u : Int} {r : List Int} (h : 0 < i) : Num.rd (f + 1) i u (0 :: r) = none := by
  simp only [Num.rd]; rw [if_neg (by omega), if_pos (by simp [h])]
theorem rd_end {f i : Nat} {u c : Int} {r : List Int} (h : c < 128) (h2 : ¬ (c = 0 ∧ 0 < i)) : Num.rd (f + 1) i u (c :: r) = some (u + c % 128 * 128 ^ i, i + 1) := by
  simp only [Num.rd]; rw [if_neg (by omega), if_neg h2]
theorem rd_nil {f i : Nat} {u : Int} : Num.rd f i u [] = none := by cases f <;> rfl
theorem fuel {k : Nat} (h : k < 5) : 5 - k = (5 - (k + 1)) + 1 := by omega


set_option maxHeartbeats 400000 in
theorem readGroups (v : Value) (n : Nat) (zs : List Int) (w : World) (hz : zs.length = n) (hby : Num.Bytes zs) (h : At 1 w v n (ints .u8 zs)) :
    Calls Try.prog 120 #[v] w fun e w' => e = .returned (rdRes (Num.rd 5 0 0 zs)) ∧ w = w' := by
  obtain ⟨b, off, cap, rfl, h1, h2, h3, hc⟩ := h
  have HZ := Lib.hid hz
  clear hz h3
  unfold maxLen at h2
  by_cases h5 : n ≤ 5
  · go_enter Try.func120, Try.ntmps120
    go_wp2

    go_loop [4, 13] (fun t i => ∃ (k : Nat) (x : Int), k ≤ n ∧ i = .int .i64 k ∧ t = .int .i64 x ∧ 0 ≤ x ∧ x < 128 ^ k ∧ Num.rd (5 - k) k x (zs.drop k) = Num.rd 5 0 0 zs) (fun _ i => n - (intOf i).toNat)
    case atStart => exact ⟨0, 0, Nat.zero_le _, rfl, rfl, by omega, by simp, by simp⟩
    case round =>
      obtain ⟨k, x, hk, rfl, rfl, hx0, hx1, hrd⟩ := hrel
      by_cases hlt : k < n
      · have hcx : w.cell? ⟨b, off + k, none⟩ = some (.int .u8 (zs.getD k 0)) := At.cell hc HZ.out (by omega)
        have hdr := drop_cons (zs := zs) (k := k) (by rw [HZ.out]; omega)
        have hcb := hby (zs.getD k 0) (getD_mem (by rw [HZ.out]; omega))
        rw [hdr, fuel (by omega)] at hrd
        have HR := Lib.hid hrd
        clear hrd hdr hc
        generalize zs.getD k 0 = c at hcx hcb HR
        obtain ⟨hc0, hc1⟩ := hcb
        have hs := rd_sum (c := c) (by omega) hx0 hx1
        have HS := Lib.hid hs
        clear hs
        by_cases h128 : 128 ≤ c
        · go_wp2
          go_round
          case rel =>
            refine ⟨k + 1, _, by omega, by go_num, rfl, ?_, ?_, ?_⟩
            · rw [HS.out.1]; exact HS.out.2.1
            · rw [HS.out.1]; exact HS.out.2.2
            · rw [HS.out.1, ← HR.out, rd_more h128]
          case measure => simp [intOf]; omega
        · by_cases hcz : c = 0
          · subst hcz
            by_cases hk0 : 0 < k
            · go_wp2
              go_ret2
              exact ⟨by rw [← HR.out, rd_zero hk0]; rfl, rfl⟩
            · have hkz : decide ((0 : Int) < (k : Int)) = false := by simp; omega
              go_wp2
              go_ret2
              refine ⟨?_, rfl⟩
              rw [← HR.out, rd_end (by omega) (by omega)]
              have hkz' : k = 0 := by omega
              have hx2 : x < 1 := by rw [hkz'] at hx1; simpa using hx1
              have hwx : wrap64 x = x := IntWalk.wrap64_in _ (by omega)
              simp [rdRes, hwx]
          · have hcb : (c == 0) = false := by simp [hcz]
            go_wp2
            go_ret2
            refine ⟨?_, rfl⟩
            rw [← HR.out, rd_end (by omega) (by omega)]
            simp only [rdRes, ← HS.out.1]
            rfl
      · obtain rfl : k = n := by omega
        go_wp2
        go_ret2
        refine ⟨?_, rfl⟩
        rw [← hrd]
        rw [List.drop_eq_nil_of_le (by rw [HZ.out]; exact Nat.le_refl _), rd_nil]
        rfl

  · go_enter Try.func120, Try.ntmps120
    go_wp2

    go_loop [4, 13] (fun t i => ∃ (k : Nat) (x : Int), k ≤ 5 ∧ i = .int .i64 k ∧ t = .int .i64 x ∧ 0 ≤ x ∧ x < 128 ^ k ∧ Num.rd (5 - k) k x (zs.drop k) = Num.rd 5 0 0 zs) (fun _ i => 5 - (intOf i).toNat)
    case atStart => exact ⟨0, 0, Nat.zero_le _, rfl, rfl, by omega, by simp, by simp⟩
    case round =>
      obtain ⟨k, x, hk, rfl, rfl, hx0, hx1, hrd⟩ := hrel
      by_cases hlt : k < 5
      · have hcx : w.cell? ⟨b, off + k, none⟩ = some (.int .u8 (zs.getD k 0)) := At.cell hc HZ.out (by omega)
        have hdr := drop_cons (zs := zs) (k := k) (by rw [HZ.out]; omega)
        have hcb := hby (zs.getD k 0) (getD_mem (by rw [HZ.out]; omega))
        rw [hdr, fuel (by omega)] at hrd
        have HR := Lib.hid hrd
        clear hrd hdr hc
        generalize zs.getD k 0 = c at hcx hcb HR
        obtain ⟨hc0, hc1⟩ := hcb
        have hs := rd_sum (c := c) (by omega) hx0 hx1
        have HS := Lib.hid hs
        clear hs
        by_cases h128 : 128 ≤ c
        · go_wp2
          go_round
          case rel =>
            refine ⟨k + 1, _, by omega, by go_num, rfl, ?_, ?_, ?_⟩
            · rw [HS.out.1]; exact HS.out.2.1
            · rw [HS.out.1]; exact HS.out.2.2
            · rw [HS.out.1, ← HR.out, rd_more h128]
          case measure => simp [intOf]; omega
        · by_cases hcz : c = 0
          · subst hcz
            by_cases hk0 : 0 < k
            · go_wp2
              go_ret2
              exact ⟨by rw [← HR.out, rd_zero hk0]; rfl, rfl⟩
            · have hkz : decide ((0 : Int) < (k : Int)) = false := by simp; omega
              go_wp2
              go_ret2
              refine ⟨?_, rfl⟩
              rw [← HR.out, rd_end (by omega) (by omega)]
              have hkz' : k = 0 := by omega
              have hx2 : x < 1 := by rw [hkz'] at hx1; simpa using hx1
              have hwx : wrap64 x = x := IntWalk.wrap64_in _ (by omega)
              simp [rdRes, hwx]
          · have hcb : (c == 0) = false := by simp [hcz]
            go_wp2
            go_ret2
            refine ⟨?_, rfl⟩
            rw [← HR.out, rd_end (by omega) (by omega)]
            simp only [rdRes, ← HS.out.1]
            rfl
      · obtain rfl : k = 5 := by omega
        go_wp2
        go_ret2
        refine ⟨?_, rfl⟩
        rw [← hrd]
        simp only [Nat.sub_self, Num.rd]
        rfl


/-- What GetNum returns. -/
def getRes (r : Int × Int × Bool) : Value := .tuple #[.int .i64 r.1, .int .i64 r.2.1, .bool r.2.2]

theorem At.drop {k : IntKind} {w : World} {b off n cap m : Nat} {zs : List Int} (hz : zs.length = n) (hm : m ≤ n) (hn : n ≤ cap) (hc : cap ≤ maxLen) (h : ∀ j u, (ints k zs)[j]? = some u → w.cell? ⟨b, off + j, none⟩ = some u) :
    At 1 w (.slice (some ⟨b, off + m, none⟩) (n - m) (cap - m)) (n - m) (ints k (zs.drop m)) := by
  refine ⟨b, off + m, cap - m, rfl, by omega, by unfold maxLen at hc ⊢; omega, by simp [ints]; omega, fun j u hu => ?_⟩
  have := h (m + j) u (by simpa [ints, List.getElem?_drop] using hu)
  rw [Nat.add_assoc]
  exact this

theorem get_out {zs : List Int} {i : Int} (h : ¬ (0 ≤ i ∧ i ≤ zs.length)) : Num.get zs i = (0, 0, false) := by unfold Num.get; rw [if_neg h]
theorem get_end {zs : List Int} {i : Int} (h0 : 0 ≤ i) (h : (zs.length : Int) ≤ i) : Num.get zs i = (0, 0, false) := by
  unfold Num.get
  by_cases h2 : 0 ≤ i ∧ i ≤ zs.length
  · rw [if_pos h2, List.drop_eq_nil_of_le (by omega), rd_nil]
  · rw [if_neg h2]
theorem get_some {zs : List Int} {i : Nat} {u : Int} {k : Nat} (h : i ≤ zs.length) (hr : Num.rd 5 0 0 (zs.drop i) = some (u, k)) (hu : u ≤ 2000000000) : Num.get zs i = (Num.zag u, (i : Int) + k, true) := by
  unfold Num.get; rw [if_pos (by omega), Int.toNat_natCast, hr]; simp only; rw [if_pos hu]
theorem get_great {zs : List Int} {i : Nat} {u : Int} {k : Nat} (h : i ≤ zs.length) (hr : Num.rd 5 0 0 (zs.drop i) = some (u, k)) (hu : 2000000000 < u) : Num.get zs i = (0, 0, false) := by
  unfold Num.get; rw [if_pos (by omega), Int.toNat_natCast, hr]; simp only; rw [if_neg (by omega)]
theorem get_none {zs : List Int} {i : Nat} (h : i ≤ zs.length) (hr : Num.rd 5 0 0 (zs.drop i) = none) : Num.get zs i = (0, 0, false) := by
  unfold Num.get; rw [if_pos (by omega), Int.toNat_natCast, hr]

set_option maxHeartbeats 400000 in
theorem iGetNum (v : Value) (n : Nat) (zs : List Int) (i : Int) (w : World) (hn : n ≤ 1152921504606846976) (hz : zs.length = n) (hby : Num.Bytes zs) (h : At 1 w v n (ints .u8 zs)) :
    Calls Try.prog 91 #[v, .int .i64 i] w fun e w' => e = .returned (getRes (Num.get zs i)) ∧ w = w' := by
  obtain ⟨b, off, cap, rfl, h1, h2, h3, hc⟩ := h
  have HZ := Lib.hid hz
  clear hz h3
  by_cases hneg : i < 0
  · have HG := Lib.hid (get_out (zs := zs) (i := i) (by omega))
    go_enter Try.func91, Try.ntmps91
    go_wp2
    go_ret3
    exact ⟨by rw [HG.out]; rfl, rfl⟩
  · obtain ⟨m, rfl⟩ := Int.eq_ofNat_of_zero_le (by omega : 0 ≤ i)
    by_cases hge : n ≤ m
    · have HG := Lib.hid (get_end (zs := zs) (i := m) (by omega) (by rw [HZ.out]; omega))
      go_enter Try.func91, Try.ntmps91
      go_wp2
      go_ret3
      exact ⟨by rw [HG.out]; rfl, rfl⟩
    · have hat := At.drop (m := m) HZ.out (by omega) h1 h2 hc
      have hbd : Num.Bytes (zs.drop m) := fun x hx => hby x (List.mem_of_mem_drop hx)
      have hld : (zs.drop m).length = n - m := by rw [List.length_drop, HZ.out]
      have HLD := Lib.hid hld
      have HB := Lib.hid hbd
      clear hld hbd hc hby
      have hmz : m ≤ zs.length := by rw [HZ.out]; omega
      unfold maxLen at h2
      cases hr : Num.rd 5 0 0 (zs.drop m) with
      | none =>
        have HG := Lib.hid (get_none hmz hr)
        have HR := Lib.hid hr
        clear hr hmz
        go_enter Try.func91, Try.ntmps91
        go_wp2_with (go_at_call 120; refine (readGroups _ (n - m) (zs.drop m) _ HLD.out HB.out hat).mono ?_; rw [HR.out]; simp only [rdRes]; rintro e w' ⟨rfl, rfl⟩)
        go_ret3
        exact ⟨by rw [HG.out]; rfl, rfl⟩
      | some p =>
        obtain ⟨u, k⟩ := p
        have hb := Num.rd_bd hr HB.out (by omega)
        rw [HLD.out] at hb
        have hk0 : ((k : Int) == 0) = false := by simp; omega
        by_cases hu : u ≤ 2000000000
        · have HG := Lib.hid (get_some hmz hr hu)
          have HR := Lib.hid hr
          clear hr hmz
          obtain ⟨hb1, hb2, hb3, hb4⟩ := hb
          go_enter Try.func91, Try.ntmps91
          go_wp2_with (first | (go_at_call 120; refine (readGroups _ (n - m) (zs.drop m) _ HLD.out HB.out hat).mono ?_; rw [HR.out]; simp only [rdRes]; rintro e w' ⟨rfl, rfl⟩) | (go_at_call 121; refine (iZagZig _ _).mono ?_; rintro e w' ⟨rfl, rfl⟩))
          go_ret3
          exact ⟨by rw [HG.out]; rfl, rfl⟩
        · have HG := Lib.hid (get_great hmz hr (by omega))
          have HR := Lib.hid hr
          clear hr hmz
          obtain ⟨hb1, hb2, hb3, hb4⟩ := hb
          go_enter Try.func91, Try.ntmps91
          go_wp2_with (go_at_call 120; refine (readGroups _ (n - m) (zs.drop m) _ HLD.out HB.out hat).mono ?_; rw [HR.out]; simp only [rdRes]; rintro e w' ⟨rfl, rfl⟩)
          go_ret3
          exact ⟨by rw [HG.out]; rfl, rfl⟩

end Go.Proofs.Ytoidpibdjijamaa
