/- The law FnNumsBent, walked. -/
import Derived.Test.YthbnnjajgfgnoaaDrawGet
import Derived.Deep.RegionHeld3
namespace Go.Proofs.Ythbnnjajgfgnoaa
open Go.RowKit

set_option maxHeartbeats 1000000 in
theorem lawNumsBent (c : Code) (w : World) (h : c.len ≤ 1048576 → c.In w) :
    Calls Try.prog 4 #[.slice c.a c.len c.cap] w fun e w' => e = .returned (.bool true) ∧ Below w.heap.size w w' := by
  by_cases hbig : 1048576 < c.len
  · go_enter Try.func4, Try.ntmps4
    go_wp2_with (go_at_call 12; refine (big_yes _ _ _ _ hbig).mono ?_; rintro e w' ⟨rfl, rfl⟩)
    go_ret
    exact ⟨rfl, Below.refl _ _⟩
  · have hin := h (by omega)
    clear h
    go_enter Try.func4, Try.ntmps4
    go_wp2_with fail
    refine (big_no _ _ _ _ (by omega)).mono ?_
    rintro e w' ⟨rfl, rfl⟩
    go_wp2_with fail
    refine (drawGetNum c _ hin).mono ?_
    rintro e w1 ⟨v, zs, i, rfl, hby, hzl, ob, b1⟩
    obtain ⟨r1, r2, r3, hr⟩ : ∃ r1 r2 r3, Num.get zs i = (r1, r2, r3) := ⟨_, _, _, rfl⟩
    have HR := Lib.hid hr
    clear hr
    obtain ⟨n, hn⟩ : ∃ n, zs.length = n := ⟨_, rfl⟩
    rw [hn] at ob hzl
    have HN := Lib.hid hn
    clear hn
    obtain ⟨gv, cv, rfl⟩ := ob.shape
    have e1 : (r1 != r1) = false := by simp
    have e2 : (r2 != r2) = false := by simp
    have e3 : (r3 != r3) = false := by simp
    go_wp2_with fail
    refine (iGetNum _ n zs i _ (by omega) HN.out hby ob.at).mono ?_
    rw [HR.out]
    simp only [getRes]
    rintro e w' ⟨rfl, rfl⟩
    go_wp2_with fail
    refine (sGetNum _ n zs i _ (by omega) HN.out hby ob.at).mono ?_
    rw [HR.out]
    simp only [getRes]
    rintro e w' ⟨rfl, rfl⟩
    go_wp2_with fail
    refine (drawZagZig c _ (hin.below b1)).mono ?_
    rintro e w2 ⟨z, rfl, b2⟩
    have ob2 := ob.below b2 (Nat.le_refl _)
    have B2 := below_then b1 b2 b1.size
    have z2 := b2.size
    clear ob b2 b1
    go_wp2_with fail
    refine (drawZigZag c _ (hin.below B2)).mono ?_
    rintro e w3 ⟨y, rfl, b3⟩
    have ob3 := ob2.below b3 z2
    have B3 := below_then B2 b3 B2.size
    have z3 := b3.size
    clear ob2 b3 B2
    have hzz : (Num.zag z != Num.zag z) = false := by simp
    have hyy : (Num.zig y != Num.zig y) = false := by simp
    cases r3 with
    | false =>
      go_wp2_with (first | (go_at_call 19; refine (iZagZig _ _).mono ?_; rintro e w' ⟨rfl, rfl⟩) | (go_at_call 25; refine (sZagZig _ _).mono ?_; rintro e w' ⟨rfl, rfl⟩) | (go_at_call 20; refine (iZigZag _ _).mono ?_; rintro e w' ⟨rfl, rfl⟩) | (go_at_call 26; refine (sZigZag _ _).mono ?_; rintro e w' ⟨rfl, rfl⟩))
      go_quiet (fail)
      go_wp2
      go_ret
      exact ⟨rfl, B3.trans (below_drewN _ _ _)⟩
    | true =>
      obtain ⟨hi0, hi1, hin2, hn1, hok, hput⟩ := Num.put_get hby HR.out
      obtain ⟨m, rfl⟩ := Int.eq_ofNat_of_zero_le hi0
      obtain ⟨k, rfl⟩ := Int.eq_ofNat_of_zero_le (by omega : 0 ≤ r2)
      rw [Int.toNat_natCast, Int.toNat_natCast] at hput
      have HP := Lib.hid hput
      have hm : m ≤ n := by have := HN.out; omega
      have hk : k ≤ n := by have := HN.out; omega
      clear hput hi0 hi1 hin2 hn1 hok
      have hcv : n ≤ cv ∧ cv ≤ 9223372036854775807 := by
        obtain ⟨b', o', c', he, a1, a2, _⟩ := ob3.at
        simp at he
        unfold maxLen at a2
        omega
      obtain ⟨hcv1, hcv2⟩ := hcv
      have hmc : (m : Int) ≤ (cv : Int) := by omega
      have hkc : (k : Int) ≤ (cv : Int) := by omega
      have T1 := (ob3.take hm).at
      have T2 := (ob3.take hk).at
      rw [show (ints .u8 zs).take (m * 1) = ints .u8 (zs.take m) by simp [ints]] at T1
      rw [show (ints .u8 zs).take (k * 1) = ints .u8 (zs.take k) by simp [ints]] at T2
      have hbd : Below w3.heap.size w3 w3.drew := (Below.refl _ _).drew
      replace T1 := T1.below hbd
      replace T2 := T2.below hbd
      have HL1 : Hid ((zs.take m).length = m) := by
        have := HN.out
        show (zs.take m).length = m
        rw [List.length_take]; omega
      have HL2 : Hid ((zs.take k).length = k) := by
        have := HN.out
        show (zs.take k).length = k
        rw [List.length_take]; omega
      have B4 := B3.drew
      clear B3 ob3
      go_wp2_with (first | (go_at_call 19; refine (iZagZig _ _).mono ?_; rintro e w' ⟨rfl, rfl⟩) | (go_at_call 25; refine (sZagZig _ _).mono ?_; rintro e w' ⟨rfl, rfl⟩) | (go_at_call 20; refine (iZigZag _ _).mono ?_; rintro e w' ⟨rfl, rfl⟩) | (go_at_call 26; refine (sZigZag _ _).mono ?_; rintro e w' ⟨rfl, rfl⟩))
      go_region_held3 (fun _ => True) (exact trivial) (first | (go_at_call 14; refine (iPutNum _ m (zs.take m) r1 _ (by omega) HL1.out (.inr T1)).mono ?_; rintro e w5 ⟨p, rfl, op, b5⟩; rw [HP.out, HL2.out] at op; have T3 := T2.below b5; have B5 := below_then B4 b5 B4.size) | (go_at_call 15; refine (same _ _ k (zs.take k) _ HL2.out op.at T3).mono ?_; rintro e w6 ⟨rfl, b6⟩; have B6 := below_then B5 b6 B5.size))
      all_goals
        go_wp2
        go_ret
        exact ⟨rfl, B6⟩

end Go.Proofs.Ythbnnjajgfgnoaa
