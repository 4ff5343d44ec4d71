/- The contract of the model's GetNum. -/
import Derived.Test.YtoidpibdjijamaaGet
import Derived.Test.YtoidpibdjijamaaBitsI
import Derived.OpenShut
namespace Go.Proofs.Ytoidpibdjijamaa
open Go.RowKit


theorem rd_or {x c : Int} {k : Nat} (hk : k < 5) (hx0 : 0 ≤ x) (hx1 : x < 128 ^ k) (hc0 : 0 ≤ c) (hc1 : c ≤ 255) :
    bits .or .i64 x (wrap64 (bits .and .i64 c 127 * 2 ^ (7 * k))) = x + c % 128 * 128 ^ k := by
  rw [and127 c hc0 (by omega)]
  have h5 : k = 0 ∨ k = 1 ∨ k = 2 ∨ k = 3 ∨ k = 4 := by omega
  rcases h5 with rfl | rfl | rfl | rfl | rfl <;> simp only [Nat.mul_zero, Nat.reduceMul, Int.reducePow] at hx1 ⊢
  · rw [IntWalk.wrap64_in _ (by omega)]; exact or_join x (c % 128) 0 hx0 (by omega) (by omega) (by omega) (by omega)
  · rw [IntWalk.wrap64_in _ (by omega)]; exact or_join x (c % 128) 7 hx0 (by omega) (by omega) (by omega) (by omega)
  · rw [IntWalk.wrap64_in _ (by omega)]; exact or_join x (c % 128) 14 hx0 (by omega) (by omega) (by omega) (by omega)
  · rw [IntWalk.wrap64_in _ (by omega)]; exact or_join x (c % 128) 21 hx0 (by omega) (by omega) (by omega) (by omega)
  · rw [IntWalk.wrap64_in _ (by omega)]; exact or_join x (c % 128) 28 hx0 (by omega) (by omega) (by omega) (by omega)

set_option maxHeartbeats 1000000 in
theorem sGetNum (v : Value) (n : Nat) (zs : List Int) (i : Int) (w : World) (hn : n ≤ 1152921504606846976) (hz : zs.length = n) (hby : Num.Bytes zs) (h : At 1 w v n (ints .u8 zs)) :
    Calls Try.prog 67 #[v, .int .i64 i] w fun e w' => e = .returned (getRes (Num.get zs i)) ∧ w = w' := by
  obtain ⟨b, off, cap, rfl, h1, h2, h3, hc⟩ := h
  have HZ := Lib.hid hz
  clear hz h3
  by_cases hin : 0 ≤ i ∧ i ≤ n
  · have hib : Num.inB i 0 n = true := Num.inB_true.2 hin
    obtain ⟨m, rfl⟩ := Int.eq_ofNat_of_zero_le hin.1
    have hmn : m ≤ n := by omega
    clear hin
    have hmz : m ≤ zs.length := by rw [HZ.out]; omega
    go_enter Try.func67, Try.ntmps67
    go_wp2_with (go_at_call 66; refine (l1In _ _ _ _).mono ?_; rintro e w' ⟨rfl, rfl⟩)
    go_loop [7, 8] (fun t j => ∃ (k : Nat) (x : Int), k ≤ 5 ∧ k ≤ n - m ∧ j = .int .i64 k ∧ t = .int .i64 x ∧ 0 ≤ x ∧ x < 128 ^ k ∧ Num.rd (5 - k) k x (zs.drop (m + k)) = Num.rd 5 0 0 (zs.drop m)) (fun _ j => 5 - (intOf j).toNat)
    case atStart => exact ⟨0, 0, by omega, by omega, rfl, rfl, by omega, by simp, by simp⟩
    case round =>
      obtain ⟨k, x, hk, hkn, rfl, rfl, hx0, hx1, hrd⟩ := hrel
      by_cases hlt : k < 5 ∧ k < n - m
      · obtain ⟨hl5, hln⟩ := hlt
        have hcx : w.cell? ⟨b, off + (m + k), none⟩ = some (.int .u8 (zs.getD (m + k) 0)) := At.cell hc HZ.out (by omega)
        have hdr := drop_cons (zs := zs) (k := m + k) (by rw [HZ.out]; omega)
        have hcb := hby (zs.getD (m + k) 0) (getD_mem (by rw [HZ.out]; omega))
        rw [hdr, fuel (by omega)] at hrd
        have HR := Lib.hid hrd
        clear hrd hdr hc
        generalize zs.getD (m + k) 0 = c at hcx hcb HR
        obtain ⟨hc0, hc1⟩ := hcb
        have ho := rd_or hl5 hx0 hx1 hc0 hc1
        have hs := rd_sum (c := c) hl5 hx0 hx1
        have HO := Lib.hid ho
        have HS := Lib.hid hs
        clear ho hs
        by_cases h128 : 128 ≤ c
        · go_wp2
          go_round
          case rel =>
            refine ⟨k + 1, _, by omega, by omega, by go_num, rfl, ?_, ?_, ?_⟩
            · rw [HO.out]; exact HS.out.2.1
            · rw [HO.out]; exact HS.out.2.2
            · rw [HO.out, ← HR.out, rd_more h128]; rfl
          case measure => simp [intOf]; omega
        · obtain ⟨y, hy⟩ : ∃ y, x + c % 128 * 128 ^ k = y := ⟨_, rfl⟩
          have ho : bits .or .i64 x (wrap64 (bits .and .i64 c 127 * 2 ^ (7 * k))) = y := HO.out.trans hy
          have hy0 : 0 ≤ y := by rw [← hy]; exact HS.out.2.1
          have HY := Lib.hid hy
          clear hy
          by_cases hcz : c = 0 ∧ 0 < k
          · obtain ⟨hcz, hk0⟩ := hcz
            have hcb : (c == 0) = true := by simp [hcz]
            have HG := Lib.hid (get_none hmz (by rw [← HR.out, hcz, rd_zero hk0]))
            have HCZ := Lib.hid hcz
            clear hcz
            by_cases hyg : 2000000000 < y
            · go_wp2
              go_ret3
              exact ⟨by rw [HG.out]; rfl, rfl⟩
            · go_wp2
              go_ret3
              exact ⟨by rw [HG.out]; rfl, rfl⟩
          · have hrs : Num.rd 5 0 0 (zs.drop m) = some (y, k + 1) := by rw [← HR.out, rd_end (by omega) hcz, HY.out]
            by_cases hyg : 2000000000 < y
            · have HG := Lib.hid (get_great hmz hrs hyg)
              clear hrs hcz
              go_wp2
              go_ret3
              exact ⟨by rw [HG.out]; rfl, rfl⟩
            · have HG := Lib.hid (get_some hmz hrs (by omega))
              clear hrs
              by_cases hc2 : c = 0
              · have hcb : (c == 0) = true := by simp [hc2]
                have hk0 : ¬ 0 < k := fun h => hcz ⟨hc2, h⟩
                have HC2 := Lib.hid hc2
                clear hc2 hcz
                go_wp2_with (go_at_call 96; refine (sZagZig _ _).mono ?_; rintro e w' ⟨rfl, rfl⟩)
                go_ret3
                exact ⟨by rw [HG.out]; simp only [getRes]; go_num, rfl⟩
              · have hcb : (c == 0) = false := by simp [hc2]
                clear hc2 hcz
                go_wp2_with (go_at_call 96; refine (sZagZig _ _).mono ?_; rintro e w' ⟨rfl, rfl⟩)
                go_ret3
                exact ⟨by rw [HG.out]; simp only [getRes]; go_num, rfl⟩
      · have hend : Num.rd 5 0 0 (zs.drop m) = none := by
          rw [← hrd]
          by_cases h5 : k < 5
          · rw [List.drop_eq_nil_of_le (by rw [HZ.out]; omega), rd_nil]
          · rw [show 5 - k = 0 by omega]; rfl
        have HG := Lib.hid (get_none hmz hend)
        clear hend hrd
        by_cases h5 : k < 5
        · have hkk : ¬ k < n - m := fun h => hlt ⟨h5, h⟩
          clear hlt
          go_wp2
          go_ret3
          exact ⟨by rw [HG.out]; rfl, rfl⟩
        · clear hlt
          go_wp2
          go_ret3
          exact ⟨by rw [HG.out]; rfl, rfl⟩
  · have hib : Num.inB i 0 n = false := Num.inB_false.2 hin
    have HG := Lib.hid (get_out (zs := zs) (i := i) (by rw [HZ.out]; exact hin))
    clear hin
    go_enter Try.func67, Try.ntmps67
    go_wp2_with (go_at_call 66; refine (l1In _ _ _ _).mono ?_; rintro e w' ⟨rfl, rfl⟩)
    go_ret3
    exact ⟨by rw [HG.out]; rfl, rfl⟩

end Go.Proofs.Ytoidpibdjijamaa
