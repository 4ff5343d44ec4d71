/- Texts of this claim, one behind the other: S11m, Law4, I4, ZS11m, Law11z, I10z, I4b, I11z, M12. -/
import Derived.Test.YtafoldpmodipaaaP15
import Derived.Test.YtafoldpmodipaaaP3
import Derived.Test.YtafoldpmodipaaaP16
import Derived.Deep.RegionHeld3
import Derived.Test.YtafoldpmodipaaaP14

/- The model's MayHold and l11MayNot (written by mk_S11m.py). -/
namespace Go.Proofs.Ytafoldpmodipaaa
open Go.RowKit

/-- What MayHold says, and l11MayNot. -/
def MaT (zs : List Zn) (t : T) : Prop := ∀ (Q : Nat → Prop) (u vu : Value) (w : World), RdT Q w t u → Rd 6 w vu zs.length (zns zs) →
    Calls Try.prog 31 #[t.agg u, vu] w fun e w' => e = .returned (.bool (T.may zs t)) ∧ Below w.heap.size w w'
def NmT (zs : List Zn) (t : T) : Prop := ∀ (Q : Nat → Prop) (u vu : Value) (w : World), RdT Q w t u → Rd 6 w vu zs.length (zns zs) →
    Calls Try.prog 73 #[t.agg u, vu] w fun e w' => e = .returned (.bool (T.nmay zs t)) ∧ Below w.heap.size w w'

set_option maxHeartbeats 8000000 in
theorem sMayStep (zs : List Zn) (t : T) (ih : ∀ x ∈ t.l, MaT zs x ∧ NmT zs x) : MaT zs t := by
  intro Q u vu w h hv
  have HD1 := Lib.hid (T.may_1 (zs := zs) (t := t))
  have HD2 := Lib.hid (T.may_2 (zs := zs) (t := t))
  have HD3 := Lib.hid (T.may_3 (zs := zs) (t := t))
  have HD4 := Lib.hid (T.may_4 (zs := zs) (t := t))
  have HD5 := Lib.hid (T.may_5 (zs := zs) (t := t))
  have HD0 := Lib.hid (T.may_no (zs := zs) (t := t))
  have HI := Lib.hid (fun q (hq : q < t.l.length) Q' u' W (hr : RdT Q' W (t.l.getD q T.zero) u') (hW : Below w.heap.size w W) => (ih _ (kid_mem hq)).1 Q' u' vu W hr (hv.below hW))
  have HJ := Lib.hid (fun q (hq : q < t.l.length) Q' u' W (hr : RdT Q' W (t.l.getD q T.zero) u') (hW : Below w.heap.size w W) => (ih _ (kid_mem hq)).2 Q' u' vu W hr (hv.below hW))
  have HAT := Lib.hid (fun (h : ∀ q, q < t.l.length → T.may zs (t.l.getD q T.zero) = true) => all_of h)
  have HAF := Lib.hid (fun q (hq : q < t.l.length) (h : T.may zs (t.l.getD q T.zero) = false) => all_not hq h)
  have HYT := Lib.hid (fun q (hq : q < t.l.length) (h : T.may zs (t.l.getD q T.zero) = true) => any_of hq h)
  have HYF := Lib.hid (fun (h : ∀ q, q < t.l.length → T.may zs (t.l.getD q T.zero) = false) => any_not h)
  generalize hl : t.l.length = n at HD5 HI HJ HAT HAF HYT HYF
  obtain ⟨a, cap, rfl, hle, HC⟩ := h.kids hl
  generalize hm : zs.length = m at hv HD2
  obtain ⟨va, vcap, rfl, hvm, HVC⟩ := hv.zones hm
  unfold maxLen at hle hvm
  generalize T.may zs t = res at HD1 HD2 HD3 HD4 HD5 HD0 ⊢
  clear h hl ih hm hv
  obtain ⟨k, c, o, ⟨vt, vn, vs⟩, l⟩ := t
  simp only [T.agg, T.kind, T.col, T.op, T.v, T.l] at HD1 HD2 HD3 HD4 HD5 HD0 HI HJ HAT HAF HYT HYF HC ⊢
  have B0 := below_alloc w (.cells #[.int .i64 k, .int .i64 c, .int .i64 o, .int .i64 vt, .int .i64 vn, .string vs, .slice a n cap] 46)
  have C0 := blk_new w [.int .i64 k, .int .i64 c, .int .i64 o, .int .i64 vt, .int .i64 vn, .string vs, .slice a n cap] 46
  generalize hw0 : w.alloc (.cells #[.int .i64 k, .int .i64 c, .int .i64 o, .int .i64 vt, .int .i64 vn, .string vs, .slice a n cap] 46) = w0 at B0 C0
  have HW0 := Lib.hid hw0
  clear hw0
  have HK : Hid (∀ W, Below w0.heap.size w0 W → W.cell? ⟨w.heap.size, 0, none⟩ = some (.int .i64 k) ∧ W.cell? ⟨w.heap.size, 1, none⟩ = some (.int .i64 c) ∧ W.cell? ⟨w.heap.size, 2, none⟩ = some (.int .i64 o) ∧ W.cell? ⟨w.heap.size, 3, none⟩ = some (.int .i64 vt) ∧ W.cell? ⟨w.heap.size, 4, none⟩ = some (.int .i64 vn) ∧ W.cell? ⟨w.heap.size, 5, none⟩ = some (.string vs) ∧ W.cell? ⟨w.heap.size, 6, none⟩ = some (.slice a n cap)) := fun W hW => ⟨(C0.below hW 0 _ rfl).1, (C0.below hW 1 _ rfl).1, (C0.below hW 2 _ rfl).1, (C0.below hW 3 _ rfl).1, (C0.below hW 4 _ rfl).1, (C0.below hW 5 _ rfl).1, (C0.below hW 6 _ rfl).1⟩
  have HB0 := Lib.hid (Below.refl w0.heap.size w0)
  clear C0
  by_cases k1 : k = 1
  · have HE := Lib.hid (HD1.out k1)
    subst k1
    clear HD1 HD2 HD3 HD4 HD5 HD0 HI HJ HAT HAF HYT HYF HC HVC HK HB0
    go_enter Try.func31, Try.ntmps31
    go_wp2
    rw [HW0.out]
    go_ret
    exact ⟨ret_bool HE.out.symm, B0⟩
  by_cases k2 : k = 2
  · have HE := Lib.hid (HD2.out k2)
    subst k2
    clear HD1 HD2 HD3 HD4 HD5 HD0 HI HJ HAT HAF HYT HYF HC k1
    have HIN : Hid (∀ W, Calls Try.prog 67 #[.int .i64 c, .int .i64 0, .int .i64 ((m : Int) - 1)] W fun e w' => e = .returned (.bool (Num.inB c 0 ((m : Int) - 1))) ∧ w' = W) := fun W => (l1In c 0 _ W).mono (fun _ _ h => ⟨h.1, h.2.symm⟩)
    cases hin : Num.inB c 0 ((m : Int) - 1) with
    | false =>
      rw [hin] at HE HIN
      clear hin HVC
      go_enter Try.func31, Try.ntmps31
      go_wp2
      rw [HW0.out]
      obtain ⟨p0, p1, p2, p3, p4, p5, p6⟩ := HK.out w0 HB0.out
      go_quiet ((go_at_call 67; exact Calls.quiet_of_same (HIN.out _)))
      go_wp2
      go_ret
      exact ⟨ret_bool (by rw [HE.out]; rfl), B0.trans (below_drewN _ _ _)⟩
    | true =>
      obtain ⟨hc0, hc1⟩ := Num.inB_true.1 hin
      rw [hin] at HE HIN
      obtain ⟨X, rfl⟩ := Int.eq_ofNat_of_zero_le hc0
      have hX : X < m := by omega
      rw [Int.toNat_natCast] at HE
      have HEL := Lib.hid (HVC.out X hX)
      obtain ⟨vb, voff, hva, _⟩ := HEL.out w (Below.refl _ _)
      subst hva
      clear HVC hin hc0 hc1
      have HH := Lib.hid (fun W => sMayHold1 o (zs.getD X Zn.zero) ⟨vt, vn, vs⟩ W)
      generalize mayB o (zs.getD X Zn.zero) ⟨vt, vn, vs⟩ = r at HE HH
      generalize zs.getD X Zn.zero = x at HEL HH
      obtain ⟨⟨a1, a2, a3⟩, ⟨a4, a5, a6⟩⟩ := x
      have HKK : Hid (∀ W, Below w0.heap.size w0 W → W.cell? ⟨w.heap.size, 0, none⟩ = some (.int .i64 2) ∧ W.cell? ⟨w.heap.size, 1, none⟩ = some (.int .i64 (X : Int)) ∧ W.cell? ⟨w.heap.size, 2, none⟩ = some (.int .i64 o) ∧ W.cell? ⟨w.heap.size, 3, none⟩ = some (.int .i64 vt) ∧ W.cell? ⟨w.heap.size, 4, none⟩ = some (.int .i64 vn) ∧ W.cell? ⟨w.heap.size, 5, none⟩ = some (.string vs) ∧ W.cell? ⟨w.heap.size, 6, none⟩ = some (.slice a n cap) ∧ W.cell? ⟨vb, voff + X * 6, none⟩ = some (.int .i64 a1) ∧ W.cell? ⟨vb, voff + X * 6 + 1, none⟩ = some (.int .i64 a2) ∧ W.cell? ⟨vb, voff + X * 6 + 2, none⟩ = some (.string a3) ∧ W.cell? ⟨vb, voff + X * 6 + 3, none⟩ = some (.int .i64 a4) ∧ W.cell? ⟨vb, voff + X * 6 + 4, none⟩ = some (.int .i64 a5) ∧ W.cell? ⟨vb, voff + X * 6 + 5, none⟩ = some (.string a6)) := fun W hW => by
        have h1 := HK.out W hW
        obtain ⟨vb', voff', e, h2⟩ := HEL.out W (below_then B0 hW B0.size)
        simp only [Option.some.injEq, Addr.mk.injEq, and_true] at e
        obtain ⟨rfl, rfl⟩ := e
        exact ⟨h1.1, h1.2.1, h1.2.2.1, h1.2.2.2.1, h1.2.2.2.2.1, h1.2.2.2.2.2.1, h1.2.2.2.2.2.2, h2⟩
      have hB' := HB0.out.drew
      have hXI : (X : Int) < (m : Int) := by omega
      have hwm : IntKind.i64.wrap ((m : Int) - 1) = (m : Int) - 1 := IntWalk.i64_in _ (by omega)
      clear HK HEL HB0
      go_enter Try.func31, Try.ntmps31
      go_wp2
      rw [HW0.out]
      go_region_held3 (fun W => W.cell? ⟨w.heap.size, 0, none⟩ = some (.int .i64 2) ∧ W.cell? ⟨w.heap.size, 1, none⟩ = some (.int .i64 (X : Int)) ∧ W.cell? ⟨w.heap.size, 2, none⟩ = some (.int .i64 o) ∧ W.cell? ⟨w.heap.size, 3, none⟩ = some (.int .i64 vt) ∧ W.cell? ⟨w.heap.size, 4, none⟩ = some (.int .i64 vn) ∧ W.cell? ⟨w.heap.size, 5, none⟩ = some (.string vs) ∧ W.cell? ⟨w.heap.size, 6, none⟩ = some (.slice a n cap) ∧ W.cell? ⟨vb, voff + X * 6, none⟩ = some (.int .i64 a1) ∧ W.cell? ⟨vb, voff + X * 6 + 1, none⟩ = some (.int .i64 a2) ∧ W.cell? ⟨vb, voff + X * 6 + 2, none⟩ = some (.string a3) ∧ W.cell? ⟨vb, voff + X * 6 + 3, none⟩ = some (.int .i64 a4) ∧ W.cell? ⟨vb, voff + X * 6 + 4, none⟩ = some (.int .i64 a5) ∧ W.cell? ⟨vb, voff + X * 6 + 5, none⟩ = some (.string a6)) (exact HKK.out _ hB') (first | (go_at_call 67; (with_reducible refine (HIN.out _).mono ?_); rintro e w2 ⟨rfl, rfl⟩) | (go_at_call 72; (with_reducible refine (HH.out _).mono ?_); rintro e w2 ⟨rfl, hb2⟩; replace hB' := below_then hB' hb2 hB'.size))
      all_goals
        have B2 := below_then B0 hB' B0.size
        go_wp2
        go_ret
        exact ⟨ret_bool (by rw [HE.out]; rfl), B2⟩
  by_cases k3 : k = 3
  · have HE := Lib.hid (HD3.out k3)
    subst k3
    clear HD1 HD2 HD3 HD4 HD5 HD0 HJ HYT HYF HVC k1 k2
    go_enter Try.func31, Try.ntmps31
    go_wp2
    rw [HW0.out]
    go_loopw [5] (fun i wr => ∃ q : Nat, q ≤ n ∧ i = .int .i64 q ∧ (∀ j, j < q → T.may zs (l.getD j T.zero) = true) ∧ Below w0.heap.size w0 wr) (fun i _ => n - (intOf i).toNat)
    case atStart => exact ⟨0, Nat.zero_le _, rfl, fun j hj => by omega, HB0.out⟩
    case round =>
      obtain ⟨q, hq, rfl, hpre, hbr⟩ := hrel
      have HPRE := Lib.hid hpre
      clear hpre
      obtain ⟨p0, p1, p2, p3, p4, p5, p6⟩ := HK.out wr hbr
      by_cases hlt : q < n
      · obtain ⟨b, off, u', rfl, hr, c0, c1, c2, c3, c4, c5, c6⟩ := HC.out q hlt wr (below_then B0 hbr B0.size)
        have HX := Lib.hid (HI.out q hlt _ u' wr hr (below_then B0 hbr B0.size))
        have HNX : Hid (T.may zs (l.getD q T.zero) = false → res = false) := fun e => HE.out.trans (HAF.out q hlt e)
        have HSX : Hid (T.may zs (l.getD q T.zero) = true → ∀ j, j < q + 1 → T.may zs (l.getD j T.zero) = true) := fun e j hj => by
          by_cases hjq : j = q
          · subst hjq; exact e
          · exact HPRE.out j (by omega)
        generalize T.may zs (l.getD q T.zero) = r at HX HNX HSX
        generalize l.getD q T.zero = x at c0 c1 c2 c3 c4 c5 HX
        obtain ⟨xk, xc, xo, ⟨xt, xn, xs⟩, xl⟩ := x
        simp only at c0 c1 c2 c3 c4 c5 HX
        clear hr HPRE HI
        cases r with
        | false =>
          have HN2 := Lib.hid (HNX.out rfl)
          go_wp2_with fail
          refine HX.out.mono ?_
          rintro e w2 ⟨rfl, b2⟩
          have B2 := below_then (below_then B0 hbr B0.size) b2 (by have := B0.size; have := hbr.size; omega)
          go_wp2
          go_ret
          exact ⟨ret_bool HN2.out.symm, B2⟩
        | true =>
          have HS2 := Lib.hid (HSX.out rfl)
          go_wp2_with fail
          refine HX.out.mono ?_
          rintro e w2 ⟨rfl, b2⟩
          have B2 := below_then hbr b2 hbr.size
          clear HX HNX HSX b2 hbr p0 p1 p2 p3 p4 p5 p6 c0 c1 c2 c3 c4 c5 c6
          go_wp2
          go_roundw
          case rel => exact ⟨q + 1, by omega, by go_num, HS2.out, B2⟩
          case measure => simp [intOf]; omega
      · obtain rfl : q = n := by omega
        have HE2 : Hid (res = true) := HE.out.trans (HAT.out (fun j hj => HPRE.out j hj))
        go_wp2
        go_ret
        exact ⟨ret_bool HE2.out.symm, below_then B0 hbr B0.size⟩

  by_cases k4 : k = 4
  · have HE := Lib.hid (HD4.out k4)
    subst k4
    clear HD1 HD2 HD3 HD4 HD5 HD0 HJ HAT HAF HVC k1 k2 k3
    go_enter Try.func31, Try.ntmps31
    go_wp2
    rw [HW0.out]
    go_loopw [6] (fun i wr => ∃ q : Nat, q ≤ n ∧ i = .int .i64 q ∧ (∀ j, j < q → T.may zs (l.getD j T.zero) = false) ∧ Below w0.heap.size w0 wr) (fun i _ => n - (intOf i).toNat)
    case atStart => exact ⟨0, Nat.zero_le _, rfl, fun j hj => by omega, HB0.out⟩
    case round =>
      obtain ⟨q, hq, rfl, hpre, hbr⟩ := hrel
      have HPRE := Lib.hid hpre
      clear hpre
      obtain ⟨p0, p1, p2, p3, p4, p5, p6⟩ := HK.out wr hbr
      by_cases hlt : q < n
      · obtain ⟨b, off, u', rfl, hr, c0, c1, c2, c3, c4, c5, c6⟩ := HC.out q hlt wr (below_then B0 hbr B0.size)
        have HX := Lib.hid (HI.out q hlt _ u' wr hr (below_then B0 hbr B0.size))
        have HNX : Hid (T.may zs (l.getD q T.zero) = true → res = true) := fun e => HE.out.trans (HYT.out q hlt e)
        have HSX : Hid (T.may zs (l.getD q T.zero) = false → ∀ j, j < q + 1 → T.may zs (l.getD j T.zero) = false) := fun e j hj => by
          by_cases hjq : j = q
          · subst hjq; exact e
          · exact HPRE.out j (by omega)
        generalize T.may zs (l.getD q T.zero) = r at HX HNX HSX
        generalize l.getD q T.zero = x at c0 c1 c2 c3 c4 c5 HX
        obtain ⟨xk, xc, xo, ⟨xt, xn, xs⟩, xl⟩ := x
        simp only at c0 c1 c2 c3 c4 c5 HX
        clear hr HPRE HI
        cases r with
        | true =>
          have HN2 := Lib.hid (HNX.out rfl)
          go_wp2_with fail
          refine HX.out.mono ?_
          rintro e w2 ⟨rfl, b2⟩
          have B2 := below_then (below_then B0 hbr B0.size) b2 (by have := B0.size; have := hbr.size; omega)
          go_wp2
          go_ret
          exact ⟨ret_bool HN2.out.symm, B2⟩
        | false =>
          have HS2 := Lib.hid (HSX.out rfl)
          go_wp2_with fail
          refine HX.out.mono ?_
          rintro e w2 ⟨rfl, b2⟩
          have B2 := below_then hbr b2 hbr.size
          clear HX HNX HSX b2 hbr p0 p1 p2 p3 p4 p5 p6 c0 c1 c2 c3 c4 c5 c6
          go_wp2
          go_roundw
          case rel => exact ⟨q + 1, by omega, by go_num, HS2.out, B2⟩
          case measure => simp [intOf]; omega
      · obtain rfl : q = n := by omega
        have HE2 : Hid (res = false) := HE.out.trans (HYF.out (fun j hj => HPRE.out j hj))
        go_wp2
        go_ret
        exact ⟨ret_bool HE2.out.symm, below_then B0 hbr B0.size⟩

  by_cases k5 : k = 5
  · have HE := Lib.hid (HD5.out k5)
    subst k5
    clear HD1 HD2 HD3 HD4 HD5 HD0 HI HAT HAF HYT HYF HVC k1 k2 k3 k4
    by_cases hn : n = 0
    · subst hn
      clear HJ HC HK
      go_enter Try.func31, Try.ntmps31
      go_wp2
      rw [HW0.out]
      go_ret
      exact ⟨ret_bool (by rw [HE.out]; rfl), B0⟩
    · have hn0 : ((n : Int) == 0) = false := by simp [hn]
      have hn1 : (n == 0) = false := by simp [hn]
      have hni : (0 : Int) < (n : Int) := by omega
      rw [hn1, Bool.false_or] at HE
      clear hn1
      obtain ⟨b, off, u', rfl, hr, c0, c1, c2, c3, c4, c5, c6⟩ := HC.out 0 (by omega) (w.alloc (.cells #[.int .i64 5, .int .i64 c, .int .i64 o, .int .i64 vt, .int .i64 vn, .string vs, .slice a n cap] 46)) (below_alloc _ _)
      have HX := Lib.hid (HJ.out 0 (by omega) _ u' w0 (by rw [← HW0.out]; exact hr) B0)
      generalize T.nmay zs (l.getD 0 T.zero) = r at HX HE
      generalize l.getD 0 T.zero = x at c0 c1 c2 c3 c4 c5 HX
      obtain ⟨xk, xc, xo, ⟨xt, xn, xs⟩, xl⟩ := x
      simp only [Nat.zero_mul, Nat.add_zero] at c0 c1 c2 c3 c4 c5 c6 HX
      clear hr HJ HC HK hn
      go_enter Try.func31, Try.ntmps31
      go_wp2_with fail
      rw [HW0.out]
      refine HX.out.mono ?_
      rintro e w2 ⟨rfl, b2⟩
      have B2 := below_then B0 b2 B0.size
      go_wp2
      go_ret
      exact ⟨ret_bool HE.out.symm, B2⟩
  have HE := Lib.hid (HD0.out k1 k2 k3 k4 k5)
  have j1 : (k == 1) = false := by simp [k1]
  have j2 : (k == 2) = false := by simp [k2]
  have j3 : (k == 3) = false := by simp [k3]
  have j4 : (k == 4) = false := by simp [k4]
  have j5 : (k == 5) = false := by simp [k5]
  clear HD1 HD2 HD3 HD4 HD5 HD0 HI HJ HAT HAF HYT HYF HC HVC HK HB0 k1 k2 k3 k4 k5
  go_enter Try.func31, Try.ntmps31
  go_wp2
  rw [HW0.out]
  go_ret
  exact ⟨ret_bool HE.out.symm, B0⟩

set_option maxHeartbeats 8000000 in
theorem sNotStep (zs : List Zn) (t : T) (ih : ∀ x ∈ t.l, MaT zs x ∧ NmT zs x) : NmT zs t := by
  intro Q u vu w h hv
  have HD1 := Lib.hid (T.nmay_1 (zs := zs) (t := t))
  have HD2 := Lib.hid (T.nmay_2 (zs := zs) (t := t))
  have HD3 := Lib.hid (T.nmay_3 (zs := zs) (t := t))
  have HD4 := Lib.hid (T.nmay_4 (zs := zs) (t := t))
  have HD5 := Lib.hid (T.nmay_5 (zs := zs) (t := t))
  have HD0 := Lib.hid (T.nmay_no (zs := zs) (t := t))
  have HI := Lib.hid (fun q (hq : q < t.l.length) Q' u' W (hr : RdT Q' W (t.l.getD q T.zero) u') (hW : Below w.heap.size w W) => (ih _ (kid_mem hq)).2 Q' u' vu W hr (hv.below hW))
  have HJ := Lib.hid (fun q (hq : q < t.l.length) Q' u' W (hr : RdT Q' W (t.l.getD q T.zero) u') (hW : Below w.heap.size w W) => (ih _ (kid_mem hq)).1 Q' u' vu W hr (hv.below hW))
  have HAT := Lib.hid (fun (h : ∀ q, q < t.l.length → T.nmay zs (t.l.getD q T.zero) = true) => all_of h)
  have HAF := Lib.hid (fun q (hq : q < t.l.length) (h : T.nmay zs (t.l.getD q T.zero) = false) => all_not hq h)
  have HYT := Lib.hid (fun q (hq : q < t.l.length) (h : T.nmay zs (t.l.getD q T.zero) = true) => any_of hq h)
  have HYF := Lib.hid (fun (h : ∀ q, q < t.l.length → T.nmay zs (t.l.getD q T.zero) = false) => any_not h)
  generalize hl : t.l.length = n at HD5 HI HJ HAT HAF HYT HYF
  obtain ⟨a, cap, rfl, hle, HC⟩ := h.kids hl
  generalize hm : zs.length = m at hv HD2
  obtain ⟨va, vcap, rfl, hvm, HVC⟩ := hv.zones hm
  unfold maxLen at hle hvm
  generalize T.nmay zs t = res at HD1 HD2 HD3 HD4 HD5 HD0 ⊢
  clear h hl ih hm hv
  obtain ⟨k, c, o, ⟨vt, vn, vs⟩, l⟩ := t
  simp only [T.agg, T.kind, T.col, T.op, T.v, T.l] at HD1 HD2 HD3 HD4 HD5 HD0 HI HJ HAT HAF HYT HYF HC ⊢
  have B0 := below_alloc w (.cells #[.int .i64 k, .int .i64 c, .int .i64 o, .int .i64 vt, .int .i64 vn, .string vs, .slice a n cap] 46)
  have C0 := blk_new w [.int .i64 k, .int .i64 c, .int .i64 o, .int .i64 vt, .int .i64 vn, .string vs, .slice a n cap] 46
  generalize hw0 : w.alloc (.cells #[.int .i64 k, .int .i64 c, .int .i64 o, .int .i64 vt, .int .i64 vn, .string vs, .slice a n cap] 46) = w0 at B0 C0
  have HW0 := Lib.hid hw0
  clear hw0
  have HK : Hid (∀ W, Below w0.heap.size w0 W → W.cell? ⟨w.heap.size, 0, none⟩ = some (.int .i64 k) ∧ W.cell? ⟨w.heap.size, 1, none⟩ = some (.int .i64 c) ∧ W.cell? ⟨w.heap.size, 2, none⟩ = some (.int .i64 o) ∧ W.cell? ⟨w.heap.size, 3, none⟩ = some (.int .i64 vt) ∧ W.cell? ⟨w.heap.size, 4, none⟩ = some (.int .i64 vn) ∧ W.cell? ⟨w.heap.size, 5, none⟩ = some (.string vs) ∧ W.cell? ⟨w.heap.size, 6, none⟩ = some (.slice a n cap)) := fun W hW => ⟨(C0.below hW 0 _ rfl).1, (C0.below hW 1 _ rfl).1, (C0.below hW 2 _ rfl).1, (C0.below hW 3 _ rfl).1, (C0.below hW 4 _ rfl).1, (C0.below hW 5 _ rfl).1, (C0.below hW 6 _ rfl).1⟩
  have HB0 := Lib.hid (Below.refl w0.heap.size w0)
  clear C0
  by_cases k1 : k = 1
  · have HE := Lib.hid (HD1.out k1)
    subst k1
    clear HD1 HD2 HD3 HD4 HD5 HD0 HI HJ HAT HAF HYT HYF HC HVC HK HB0
    go_enter Try.func73, Try.ntmps73
    go_wp2
    rw [HW0.out]
    go_ret
    exact ⟨ret_bool HE.out.symm, B0⟩
  by_cases k2 : k = 2
  · have HE := Lib.hid (HD2.out k2)
    subst k2
    clear HD1 HD2 HD3 HD4 HD5 HD0 HI HJ HAT HAF HYT HYF HC k1
    have HIN : Hid (∀ W, Calls Try.prog 67 #[.int .i64 c, .int .i64 0, .int .i64 ((m : Int) - 1)] W fun e w' => e = .returned (.bool (Num.inB c 0 ((m : Int) - 1))) ∧ w' = W) := fun W => (l1In c 0 _ W).mono (fun _ _ h => ⟨h.1, h.2.symm⟩)
    cases hin : Num.inB c 0 ((m : Int) - 1) with
    | false =>
      rw [hin] at HE HIN
      clear hin HVC
      go_enter Try.func73, Try.ntmps73
      go_wp2
      rw [HW0.out]
      obtain ⟨p0, p1, p2, p3, p4, p5, p6⟩ := HK.out w0 HB0.out
      go_quiet ((go_at_call 67; exact Calls.quiet_of_same (HIN.out _)))
      go_wp2
      go_ret
      exact ⟨ret_bool (by rw [HE.out]; rfl), B0.trans (below_drewN _ _ _)⟩
    | true =>
      obtain ⟨hc0, hc1⟩ := Num.inB_true.1 hin
      rw [hin] at HE HIN
      obtain ⟨X, rfl⟩ := Int.eq_ofNat_of_zero_le hc0
      have hX : X < m := by omega
      rw [Int.toNat_natCast] at HE
      have HEL := Lib.hid (HVC.out X hX)
      obtain ⟨vb, voff, hva, _⟩ := HEL.out w (Below.refl _ _)
      subst hva
      clear HVC hin hc0 hc1
      have HOP := Lib.hid (fun W => sOpposite o W)
      have HH := Lib.hid (fun W => sMayHold1 (oppI o) (zs.getD X Zn.zero) ⟨vt, vn, vs⟩ W)
      generalize oppI o = oo at HOP HH HE
      generalize mayB oo (zs.getD X Zn.zero) ⟨vt, vn, vs⟩ = r at HE HH
      generalize zs.getD X Zn.zero = x at HEL HH
      obtain ⟨⟨a1, a2, a3⟩, ⟨a4, a5, a6⟩⟩ := x
      have HKK : Hid (∀ W, Below w0.heap.size w0 W → W.cell? ⟨w.heap.size, 0, none⟩ = some (.int .i64 2) ∧ W.cell? ⟨w.heap.size, 1, none⟩ = some (.int .i64 (X : Int)) ∧ W.cell? ⟨w.heap.size, 2, none⟩ = some (.int .i64 o) ∧ W.cell? ⟨w.heap.size, 3, none⟩ = some (.int .i64 vt) ∧ W.cell? ⟨w.heap.size, 4, none⟩ = some (.int .i64 vn) ∧ W.cell? ⟨w.heap.size, 5, none⟩ = some (.string vs) ∧ W.cell? ⟨w.heap.size, 6, none⟩ = some (.slice a n cap) ∧ W.cell? ⟨vb, voff + X * 6, none⟩ = some (.int .i64 a1) ∧ W.cell? ⟨vb, voff + X * 6 + 1, none⟩ = some (.int .i64 a2) ∧ W.cell? ⟨vb, voff + X * 6 + 2, none⟩ = some (.string a3) ∧ W.cell? ⟨vb, voff + X * 6 + 3, none⟩ = some (.int .i64 a4) ∧ W.cell? ⟨vb, voff + X * 6 + 4, none⟩ = some (.int .i64 a5) ∧ W.cell? ⟨vb, voff + X * 6 + 5, none⟩ = some (.string a6)) := fun W hW => by
        have h1 := HK.out W hW
        obtain ⟨vb', voff', e, h2⟩ := HEL.out W (below_then B0 hW B0.size)
        simp only [Option.some.injEq, Addr.mk.injEq, and_true] at e
        obtain ⟨rfl, rfl⟩ := e
        exact ⟨h1.1, h1.2.1, h1.2.2.1, h1.2.2.2.1, h1.2.2.2.2.1, h1.2.2.2.2.2.1, h1.2.2.2.2.2.2, h2⟩
      have hB' := HB0.out.drew
      have hXI : (X : Int) < (m : Int) := by omega
      have hwm : IntKind.i64.wrap ((m : Int) - 1) = (m : Int) - 1 := IntWalk.i64_in _ (by omega)
      clear HK HEL HB0
      go_enter Try.func73, Try.ntmps73
      go_wp2
      rw [HW0.out]
      go_region_held3 (fun W => W.cell? ⟨w.heap.size, 0, none⟩ = some (.int .i64 2) ∧ W.cell? ⟨w.heap.size, 1, none⟩ = some (.int .i64 (X : Int)) ∧ W.cell? ⟨w.heap.size, 2, none⟩ = some (.int .i64 o) ∧ W.cell? ⟨w.heap.size, 3, none⟩ = some (.int .i64 vt) ∧ W.cell? ⟨w.heap.size, 4, none⟩ = some (.int .i64 vn) ∧ W.cell? ⟨w.heap.size, 5, none⟩ = some (.string vs) ∧ W.cell? ⟨w.heap.size, 6, none⟩ = some (.slice a n cap) ∧ W.cell? ⟨vb, voff + X * 6, none⟩ = some (.int .i64 a1) ∧ W.cell? ⟨vb, voff + X * 6 + 1, none⟩ = some (.int .i64 a2) ∧ W.cell? ⟨vb, voff + X * 6 + 2, none⟩ = some (.string a3) ∧ W.cell? ⟨vb, voff + X * 6 + 3, none⟩ = some (.int .i64 a4) ∧ W.cell? ⟨vb, voff + X * 6 + 4, none⟩ = some (.int .i64 a5) ∧ W.cell? ⟨vb, voff + X * 6 + 5, none⟩ = some (.string a6)) (exact HKK.out _ hB') (first | (go_at_call 67; (with_reducible refine (HIN.out _).mono ?_); rintro e w2 ⟨rfl, rfl⟩) | (go_at_call 107; (with_reducible refine (HOP.out _).mono ?_); rintro e w2 ⟨rfl, hb2⟩; replace hB' := below_then hB' hb2 hB'.size) | (go_at_call 72; (with_reducible refine (HH.out _).mono ?_); rintro e w2 ⟨rfl, hb2⟩; replace hB' := below_then hB' hb2 hB'.size))
      all_goals
        have B2 := below_then B0 hB' B0.size
        go_wp2
        go_ret
        exact ⟨ret_bool (by rw [HE.out]; rfl), B2⟩
  by_cases k3 : k = 3
  · have HE := Lib.hid (HD3.out k3)
    subst k3
    clear HD1 HD2 HD3 HD4 HD5 HD0 HJ HAT HAF HVC k1 k2
    go_enter Try.func73, Try.ntmps73
    go_wp2
    rw [HW0.out]
    go_loopw [5] (fun i wr => ∃ q : Nat, q ≤ n ∧ i = .int .i64 q ∧ (∀ j, j < q → T.nmay zs (l.getD j T.zero) = false) ∧ Below w0.heap.size w0 wr) (fun i _ => n - (intOf i).toNat)
    case atStart => exact ⟨0, Nat.zero_le _, rfl, fun j hj => by omega, HB0.out⟩
    case round =>
      obtain ⟨q, hq, rfl, hpre, hbr⟩ := hrel
      have HPRE := Lib.hid hpre
      clear hpre
      obtain ⟨p0, p1, p2, p3, p4, p5, p6⟩ := HK.out wr hbr
      by_cases hlt : q < n
      · obtain ⟨b, off, u', rfl, hr, c0, c1, c2, c3, c4, c5, c6⟩ := HC.out q hlt wr (below_then B0 hbr B0.size)
        have HX := Lib.hid (HI.out q hlt _ u' wr hr (below_then B0 hbr B0.size))
        have HNX : Hid (T.nmay zs (l.getD q T.zero) = true → res = true) := fun e => HE.out.trans (HYT.out q hlt e)
        have HSX : Hid (T.nmay zs (l.getD q T.zero) = false → ∀ j, j < q + 1 → T.nmay zs (l.getD j T.zero) = false) := fun e j hj => by
          by_cases hjq : j = q
          · subst hjq; exact e
          · exact HPRE.out j (by omega)
        generalize T.nmay zs (l.getD q T.zero) = r at HX HNX HSX
        generalize l.getD q T.zero = x at c0 c1 c2 c3 c4 c5 HX
        obtain ⟨xk, xc, xo, ⟨xt, xn, xs⟩, xl⟩ := x
        simp only at c0 c1 c2 c3 c4 c5 HX
        clear hr HPRE HI
        cases r with
        | true =>
          have HN2 := Lib.hid (HNX.out rfl)
          go_wp2_with fail
          refine HX.out.mono ?_
          rintro e w2 ⟨rfl, b2⟩
          have B2 := below_then (below_then B0 hbr B0.size) b2 (by have := B0.size; have := hbr.size; omega)
          go_wp2
          go_ret
          exact ⟨ret_bool HN2.out.symm, B2⟩
        | false =>
          have HS2 := Lib.hid (HSX.out rfl)
          go_wp2_with fail
          refine HX.out.mono ?_
          rintro e w2 ⟨rfl, b2⟩
          have B2 := below_then hbr b2 hbr.size
          clear HX HNX HSX b2 hbr p0 p1 p2 p3 p4 p5 p6 c0 c1 c2 c3 c4 c5 c6
          go_wp2
          go_roundw
          case rel => exact ⟨q + 1, by omega, by go_num, HS2.out, B2⟩
          case measure => simp [intOf]; omega
      · obtain rfl : q = n := by omega
        have HE2 : Hid (res = false) := HE.out.trans (HYF.out (fun j hj => HPRE.out j hj))
        go_wp2
        go_ret
        exact ⟨ret_bool HE2.out.symm, below_then B0 hbr B0.size⟩

  by_cases k4 : k = 4
  · have HE := Lib.hid (HD4.out k4)
    subst k4
    clear HD1 HD2 HD3 HD4 HD5 HD0 HJ HYT HYF HVC k1 k2 k3
    go_enter Try.func73, Try.ntmps73
    go_wp2
    rw [HW0.out]
    go_loopw [6] (fun i wr => ∃ q : Nat, q ≤ n ∧ i = .int .i64 q ∧ (∀ j, j < q → T.nmay zs (l.getD j T.zero) = true) ∧ Below w0.heap.size w0 wr) (fun i _ => n - (intOf i).toNat)
    case atStart => exact ⟨0, Nat.zero_le _, rfl, fun j hj => by omega, HB0.out⟩
    case round =>
      obtain ⟨q, hq, rfl, hpre, hbr⟩ := hrel
      have HPRE := Lib.hid hpre
      clear hpre
      obtain ⟨p0, p1, p2, p3, p4, p5, p6⟩ := HK.out wr hbr
      by_cases hlt : q < n
      · obtain ⟨b, off, u', rfl, hr, c0, c1, c2, c3, c4, c5, c6⟩ := HC.out q hlt wr (below_then B0 hbr B0.size)
        have HX := Lib.hid (HI.out q hlt _ u' wr hr (below_then B0 hbr B0.size))
        have HNX : Hid (T.nmay zs (l.getD q T.zero) = false → res = false) := fun e => HE.out.trans (HAF.out q hlt e)
        have HSX : Hid (T.nmay zs (l.getD q T.zero) = true → ∀ j, j < q + 1 → T.nmay zs (l.getD j T.zero) = true) := fun e j hj => by
          by_cases hjq : j = q
          · subst hjq; exact e
          · exact HPRE.out j (by omega)
        generalize T.nmay zs (l.getD q T.zero) = r at HX HNX HSX
        generalize l.getD q T.zero = x at c0 c1 c2 c3 c4 c5 HX
        obtain ⟨xk, xc, xo, ⟨xt, xn, xs⟩, xl⟩ := x
        simp only at c0 c1 c2 c3 c4 c5 HX
        clear hr HPRE HI
        cases r with
        | false =>
          have HN2 := Lib.hid (HNX.out rfl)
          go_wp2_with fail
          refine HX.out.mono ?_
          rintro e w2 ⟨rfl, b2⟩
          have B2 := below_then (below_then B0 hbr B0.size) b2 (by have := B0.size; have := hbr.size; omega)
          go_wp2
          go_ret
          exact ⟨ret_bool HN2.out.symm, B2⟩
        | true =>
          have HS2 := Lib.hid (HSX.out rfl)
          go_wp2_with fail
          refine HX.out.mono ?_
          rintro e w2 ⟨rfl, b2⟩
          have B2 := below_then hbr b2 hbr.size
          clear HX HNX HSX b2 hbr p0 p1 p2 p3 p4 p5 p6 c0 c1 c2 c3 c4 c5 c6
          go_wp2
          go_roundw
          case rel => exact ⟨q + 1, by omega, by go_num, HS2.out, B2⟩
          case measure => simp [intOf]; omega
      · obtain rfl : q = n := by omega
        have HE2 : Hid (res = true) := HE.out.trans (HAT.out (fun j hj => HPRE.out j hj))
        go_wp2
        go_ret
        exact ⟨ret_bool HE2.out.symm, below_then B0 hbr B0.size⟩

  by_cases k5 : k = 5
  · have HE := Lib.hid (HD5.out k5)
    subst k5
    clear HD1 HD2 HD3 HD4 HD5 HD0 HI HAT HAF HYT HYF HVC k1 k2 k3 k4
    by_cases hn : n = 0
    · subst hn
      clear HJ HC HK
      go_enter Try.func73, Try.ntmps73
      go_wp2
      rw [HW0.out]
      go_ret
      exact ⟨ret_bool (by rw [HE.out]; rfl), B0⟩
    · have hn0 : ((n : Int) == 0) = false := by simp [hn]
      have hn1 : (n == 0) = false := by simp [hn]
      have hni : (0 : Int) < (n : Int) := by omega
      rw [hn1, Bool.false_or] at HE
      clear hn1
      obtain ⟨b, off, u', rfl, hr, c0, c1, c2, c3, c4, c5, c6⟩ := HC.out 0 (by omega) (w.alloc (.cells #[.int .i64 5, .int .i64 c, .int .i64 o, .int .i64 vt, .int .i64 vn, .string vs, .slice a n cap] 46)) (below_alloc _ _)
      have HX := Lib.hid (HJ.out 0 (by omega) _ u' w0 (by rw [← HW0.out]; exact hr) B0)
      generalize T.may zs (l.getD 0 T.zero) = r at HX HE
      generalize l.getD 0 T.zero = x at c0 c1 c2 c3 c4 c5 HX
      obtain ⟨xk, xc, xo, ⟨xt, xn, xs⟩, xl⟩ := x
      simp only [Nat.zero_mul, Nat.add_zero] at c0 c1 c2 c3 c4 c5 c6 HX
      clear hr HJ HC HK hn
      go_enter Try.func73, Try.ntmps73
      go_wp2_with fail
      rw [HW0.out]
      refine HX.out.mono ?_
      rintro e w2 ⟨rfl, b2⟩
      have B2 := below_then B0 b2 B0.size
      go_wp2
      go_ret
      exact ⟨ret_bool HE.out.symm, B2⟩
  have HE := Lib.hid (HD0.out k1 k2 k3 k4 k5)
  have j1 : (k == 1) = false := by simp [k1]
  have j2 : (k == 2) = false := by simp [k2]
  have j3 : (k == 3) = false := by simp [k3]
  have j4 : (k == 4) = false := by simp [k4]
  have j5 : (k == 5) = false := by simp [k5]
  clear HD1 HD2 HD3 HD4 HD5 HD0 HI HJ HAT HAF HYT HYF HC HVC HK HB0 k1 k2 k3 k4 k5
  go_enter Try.func73, Try.ntmps73
  go_wp2
  rw [HW0.out]
  go_ret
  exact ⟨ret_bool HE.out.symm, B0⟩

theorem sMay (zs : List Zn) : ∀ t : T, MaT zs t ∧ NmT zs t := T.induct (fun t ih => ⟨sMayStep zs t ih, sNotStep zs t ih⟩)
theorem sMayHold (zs : List Zn) (t : T) : MaT zs t := (sMay zs t).1

end Go.Proofs.Ytafoldpmodipaaa

/- The exact laws of chapter 4 that do no text, walked; the program's own contracts come as hypotheses. -/
namespace Go.Proofs.Ytafoldpmodipaaa
open Go.RowKit

def CColsOk : Prop := ∀ (u : Value) (zs : List Int) (w : World), zs.length ≤ 1048576 → Rd 1 w u zs.length (ints .i64 zs) → Calls Try.prog 62 #[u] w fun e w' => e = .returned (.bool (colsB zs)) ∧ Below w.heap.size w w'
def CSameRow : Prop := ∀ (r q : R) (u v : Value) (w : World), r.l.length ≤ 1048576 → q.l.length ≤ 1048576 → r.rd w u → q.rd w v → Calls Try.prog 78 #[r.agg u, q.agg v] w fun e w' => e = .returned (.bool (r.eqB q)) ∧ Below w.heap.size w w'
def CSameRows : Prop := ∀ (u v : Value) (ps qs : List P) (ls rs : List R) (w : World), ps.length ≤ 1048576 → qs.length ≤ 1048576 → (∀ p ∈ ps, p.1.l.length ≤ 1048576) → (∀ p ∈ qs, p.1.l.length ≤ 1048576) → RdRs w u ps → RdRs w v qs → ps.map (·.1) = ls → qs.map (·.1) = rs → Calls Try.prog 36 #[u, v] w fun e w' => e = .returned (.bool (sameR ls rs)) ∧ Below w.heap.size w w'
def CColumn : Prop := ∀ (u : Value) (ps : List P) (ls : List R) (k : Int) (w : World), ps.length ≤ 1048576 → (∀ p ∈ ps, p.1.l.length ≤ 1048576) → RdRs w u ps → ps.map (·.1) = ls → Calls Try.prog 60 #[u, .int .i64 k] w fun e w' => ∃ v', e = .returned v' ∧ Own 30 3 w.heap.size w'.heap.size w' v' (colR ls k).length (vals (colR ls k)) ∧ Below w.heap.size w w'

theorem sSameRows' (u v : Value) (ps qs : List P) (ls rs : List R) (w : World) (hu : RdRs w u ps) (hv : RdRs w v qs) (h1 : ps.map (·.1) = ls) (h2 : qs.map (·.1) = rs) :
    Calls Try.prog 34 #[u, v] w fun e w' => e = .returned (.bool (sameR ls rs)) ∧ Below w.heap.size w w' := by
  subst h1 h2
  exact sSameRows u v ps qs w hu hv
theorem sColumn' (u : Value) (ps : List P) (ls : List R) (k : Int) (w : World) (hn : ps.length ≤ 1048576) (h : RdRs w u ps) (h1 : ps.map (·.1) = ls) :
    Calls Try.prog 75 #[u, .int .i64 k] w fun e w' => ∃ v', e = .returned v' ∧ Own 30 3 w.heap.size w'.heap.size w' v' (colR ls k).length (vals (colR ls k)) ∧ Below w.heap.size w w' := by
  subst h1
  exact sColumn u ps k w hn h
theorem bulkR_mem {ps : List P} {p : P} (h : p ∈ ps) : p.1.l.length ≤ bulkR ps := by
  induction ps with
  | nil => cases h
  | cons q ps ih =>
    have e : bulkR (q :: ps) = q.1.l.length + bulk q.1.l + bulkR ps := by simp [bulkR]
    rcases List.mem_cons.1 h with rfl | h
    · omega
    · have := ih h
      omega
theorem rlen_le (ps : List P) : rlen ps ≤ 3 * (ps.length + bulkR ps) := by
  induction ps with
  | nil => simp [rlen]
  | cons q ps ih =>
    have e : bulkR (q :: ps) = q.1.l.length + bulk q.1.l + bulkR ps := by simp [bulkR]
    simp only [rlen, List.length_cons]
    omega
theorem rlen_fst {ps qs : List P} (h : qs.map (·.1) = ps.map (·.1)) : rlen qs = rlen ps := by
  induction qs generalizing ps with
  | nil => cases ps with
    | nil => rfl
    | cons => cases h
  | cons q qs ih => cases ps with
    | nil => cases h
    | cons p ps =>
      simp only [List.map_cons, List.cons.injEq] at h
      rw [rlen, rlen, h.1, ih h.2]
theorem len_fst {ps qs : List P} (h : qs.map (·.1) = ps.map (·.1)) : qs.length = ps.length := by simpa using congrArg List.length h
theorem small_fst {ps qs : List P} {N : Nat} (h : qs.map (·.1) = ps.map (·.1)) (hp : ∀ p ∈ ps, p.1.l.length ≤ N) : ∀ q ∈ qs, q.1.l.length ≤ N := by
  intro q hq
  have : q.1 ∈ ps.map (·.1) := by
    rw [← h]
    exact List.mem_map.2 ⟨q, hq, rfl⟩
  obtain ⟨p, hp', e⟩ := List.mem_map.1 this
  rw [← e]
  exact hp p hp'

end Go.Proofs.Ytafoldpmodipaaa

/- The contracts of impl's ColsOk, SameRow, SameRows, Column. -/
namespace Go.Proofs.Ytafoldpmodipaaa
open Go.RowKit

theorem inB12 {z : Int} : Num.inB z 1 2 = true ↔ z = 1 ∨ z = 2 := by
  rw [Num.inB_true]
  omega
theorem colsB_len {zs : List Int} (h : zs.length < 1 ∨ 3 < zs.length) : colsB zs = false := by
  unfold colsB
  rw [Bool.and_eq_false_iff]
  right
  rw [← Bool.not_eq_true, Num.inB_true]
  omega

set_option maxHeartbeats 1000000 in
theorem iColsOk : CColsOk := by
  intro u zs w _ h
  generalize hl : zs.length = n at h
  obtain ⟨a, cap, rfl, hm, HC⟩ := h.ints hl
  unfold maxLen at hm
  have HL := Lib.hid hl
  clear h hl
  by_cases h1 : n < 1
  · have HA : Hid (colsB zs = false) := colsB_len (by rw [HL.out]; exact .inl h1)
    go_enter Try.func62, Try.ntmps62
    go_wp2
    go_ret
    exact ⟨ret_bool HA.out.symm, Below.refl _ _⟩
  by_cases h3 : 3 < n
  · have HA : Hid (colsB zs = false) := colsB_len (by rw [HL.out]; exact .inr h3)
    go_enter Try.func62, Try.ntmps62
    go_wp2
    go_ret
    exact ⟨ret_bool HA.out.symm, Below.refl _ _⟩
  go_enter Try.func62, Try.ntmps62
  go_wp2
  go_loop [15] (fun i => ∃ k : Nat, k ≤ n ∧ i = .int .i64 k ∧ ∀ j, j < k → Num.inB (zs.getD j 0) 1 2 = true) (fun i => n - (intOf i).toNat)
  case atStart => exact ⟨0, Nat.zero_le _, rfl, fun j hj => by omega⟩
  case round =>
    obtain ⟨k, hk, rfl, hok⟩ := hrel
    have HOK := Lib.hid hok
    clear hok
    by_cases hlt : k < n
    · obtain ⟨b, off, rfl, hc⟩ := HC.out k hlt
      have HS : Hid (Num.inB (zs.getD k 0) 1 2 = true → ∀ j, j < k + 1 → Num.inB (zs.getD j 0) 1 2 = true) := fun h j hj => by
        by_cases e : j = k
        · subst e; exact h
        · exact HOK.out j (by omega)
      have HN : Hid (Num.inB (zs.getD k 0) 1 2 = false → colsB zs = false) := colsB_no (by rw [HL.out]; exact hlt)
      generalize zs.getD k 0 = z at hc HS HN
      by_cases z1 : z = 1
      · have HS2 := Lib.hid (HS.out (inB12.2 (.inl z1)))
        subst z1
        clear HS HN
        go_wp2
        go_round
        case rel => exact ⟨k + 1, by omega, by go_num, HS2.out⟩
        case measure => simp [intOf]; omega
      by_cases z2 : z = 2
      · have HS2 := Lib.hid (HS.out (inB12.2 (.inr z2)))
        subst z2
        clear HS HN
        go_wp2
        go_round
        case rel => exact ⟨k + 1, by omega, by go_num, HS2.out⟩
        case measure => simp [intOf]; omega
      · have HN2 := Lib.hid (HN.out (by rw [← Bool.not_eq_true, inB12]; omega))
        have e1 : (z != 1) = true := by simpa using z1
        have e2 : (z != 2) = true := by simpa using z2
        clear HS HN z1 z2
        go_wp2
        go_ret
        exact ⟨ret_bool HN2.out.symm, Below.refl _ _⟩
    · obtain rfl : k = n := by omega
      have HA : Hid (colsB zs = true) := by
        show colsB zs = _
        rw [colsB_all (fun j hj => HOK.out j (by rw [← HL.out]; exact hj)), HL.out, Num.inB_true]
        omega
      go_wp2
      go_ret
      exact ⟨ret_bool HA.out.symm, Below.refl _ _⟩

theorem iSameRow : CSameRow := by
  intro r q u v w _ _ hu hv
  have B0 := below_alloc2 w (.cells #[.int .i64 r.id, u] 71) (.cells #[.int .i64 q.id, v] 71)
  have HF := Lib.hid (iSameValsR u v r.l.length q.l.length r.l q.l _ rfl rfl (hu.below B0) (hv.below B0))
  have HE : Hid (r.eqB q = (r.id == q.id && sameV r.l q.l)) := rfl
  obtain ⟨a1, c1, rfl, _, _⟩ := hu
  obtain ⟨a2, c2, rfl, _, _⟩ := hv
  obtain ⟨i, l⟩ := r
  obtain ⟨j, m⟩ := q
  simp only at HF HE B0
  generalize sameV l m = z at HF HE
  generalize R.eqB ⟨i, l⟩ ⟨j, m⟩ = p at HE ⊢
  generalize l.length = n1 at *
  generalize m.length = n2 at *
  cases hi : (i == j) with
  | true =>
    rw [hi, Bool.true_and] at HE
    go_enter Try.func78, Try.ntmps78
    go_wp2_with fail
    refine HF.out.mono ?_
    rintro e w1 ⟨rfl, b1⟩
    have B1 := below_then B0 b1 B0.size
    clear b1
    go_wp2
    go_ret
    exact ⟨ret_bool HE.out.symm, B1⟩
  | false =>
    rw [hi, Bool.false_and] at HE
    go_enter Try.func78, Try.ntmps78
    go_wp2
    go_ret
    exact ⟨ret_bool HE.out.symm, B0⟩

set_option maxHeartbeats 1000000 in
theorem iEqualRows (u v : Value) (ps qs : List P) (w : World) (h1 : ∀ p ∈ ps, p.1.l.length ≤ 1048576) (h2 : ∀ p ∈ qs, p.1.l.length ≤ 1048576) (hu : RdRs w u ps) (hv : RdRs w v qs) :
    Calls Try.prog 77 #[u, v, .func (.func 78) #[] #[]] w fun e w' => e = .returned (.bool (sameR (ps.map (·.1)) (qs.map (·.1)))) ∧ Below w.heap.size w w' := by
  generalize hl : ps.length = n
  generalize hr : qs.length = m
  obtain ⟨a1, c1, rfl, hm1, HC1⟩ := hu.walk hl
  obtain ⟨a2, c2, rfl, hm2, HC2⟩ := hv.walk hr
  unfold maxLen at hm1 hm2
  have HE : Hid (∀ k, ((ps.map (·.1)).getD k R.zero) = (ps.getD k P.zero).1 ∧ ((qs.map (·.1)).getD k R.zero) = (qs.getD k P.zero).1) := fun k => ⟨(getD_fst ps k).symm, (getD_fst qs k).symm⟩
  have hl' : (ps.map (·.1)).length = n := by simpa using hl
  have hr' : (qs.map (·.1)).length = m := by simpa using hr
  have HB1 : Hid (∀ k, k < n → (ps.getD k P.zero).1.l.length ≤ 1048576) := fun k hk => by
    have hk' : k < ps.length := by omega
    have e : ps.getD k P.zero = ps[k] := by simp [hk']
    rw [e]
    exact h1 _ (List.getElem_mem hk')
  have HB2 : Hid (∀ k, k < m → (qs.getD k P.zero).1.l.length ≤ 1048576) := fun k hk => by
    have hk' : k < qs.length := by omega
    have e : qs.getD k P.zero = qs[k] := by simp [hk']
    rw [e]
    exact h2 _ (List.getElem_mem hk')
  clear hu hv hl hr h1 h2
  generalize ps.map (·.1) = l at HE hl' ⊢
  generalize qs.map (·.1) = r at HE hr' ⊢
  by_cases hnm : n = m
  · subst hnm
    have hne : ((n : Int) != (n : Int)) = false := by simp
    have HL := Lib.hid hl'
    have HR := Lib.hid hr'
    clear hl' hr'
    go_enter Try.func77, Try.ntmps77
    go_wp2
    go_loopw [17] (fun i wr => ∃ k : Nat, k ≤ n ∧ i = .int .i64 k ∧ (∀ j, j < k → (l.getD j R.zero).eqB (r.getD j R.zero) = true) ∧ Below w.heap.size w wr) (fun i _ => n - (intOf i).toNat)
    case atStart => exact ⟨0, Nat.zero_le _, rfl, fun j hj => by omega, Below.refl _ _⟩
    case round =>
      obtain ⟨k, hk, rfl, hok, hbr⟩ := hrel
      have HOK := Lib.hid hok
      clear hok
      by_cases hlt : k < n
      · obtain ⟨b1, o1, rfl, p0, p1, pr⟩ := HC1.out k hlt wr hbr
        obtain ⟨b2, o2, rfl, q0, q1, qr⟩ := HC2.out k hlt wr hbr
        have HS : Hid ((l.getD k R.zero).eqB (r.getD k R.zero) = true → ∀ j, j < k + 1 → (l.getD j R.zero).eqB (r.getD j R.zero) = true) := fun h j hj => by
          by_cases e : j = k
          · subst e; exact h
          · exact HOK.out j (by omega)
        have HN : Hid ((l.getD k R.zero).eqB (r.getD k R.zero) = false → sameR l r = false) := all2_no R.zero R.zero (by rw [HL.out]; exact hlt) (by rw [HL.out, HR.out])
        rw [(HE.out k).1, (HE.out k).2] at HS HN
        have HX := Lib.hid (fun W (hW : Below wr.heap.size wr W) => iSameRow (ps.getD k P.zero).1 (qs.getD k P.zero).1 (ps.getD k P.zero).2 (qs.getD k P.zero).2 W (HB1.out k hlt) (HB2.out k hlt) (pr.below hW) (qr.below hW))
        generalize ps.getD k P.zero = x at p0 p1 pr HS HN HX
        generalize qs.getD k P.zero = y at q0 q1 qr HS HN HX
        obtain ⟨⟨xi, xl⟩, xu⟩ := x
        obtain ⟨⟨yi, yl⟩, yu⟩ := y
        simp only at p0 p1 q0 q1 HS HN HX
        obtain ⟨xa, xc, hxu, _, _⟩ := pr
        obtain ⟨ya, yc, hyu, _, _⟩ := qr
        simp only at hxu hyu
        subst hxu hyu
        have ba := below_alloc wr (.cells #[.int .i64 xi, .slice xa xl.length xc] 71)
        have bb := below_alloc2 wr (.cells #[.int .i64 xi, .slice xa xl.length xc] 71) (.cells #[.int .i64 yi, .slice ya yl.length yc] 71)
        replace q0 := (ba.cell (p := ⟨b2, o2 + k * 2, none⟩) (lt_of_cell q0)).trans q0
        replace q1 := (ba.cell (p := ⟨b2, o2 + k * 2 + 1, none⟩) (lt_of_cell q1)).trans q1
        have HY := Lib.hid (HX.out _ bb)
        have HB := Lib.hid bb
        clear ba bb HX
        generalize xl.length = n1 at *
        generalize yl.length = n2 at *
        cases he : R.eqB ⟨xi, xl⟩ ⟨yi, yl⟩ with
        | true =>
          have HS2 := Lib.hid (HS.out he)
          rw [he] at HY
          clear he HS HN
          go_wp2_with fail
          refine HY.out.mono ?_
          rintro e w2 ⟨rfl, hb2⟩
          have hB' := below_then HB.out hb2 HB.out.size
          clear hb2 HY p0 p1 q0 q1
          go_wp2
          go_roundw
          case rel => exact ⟨k + 1, by omega, by go_num, HS2.out, below_then hbr hB' hbr.size⟩
          case measure => simp [intOf]; omega
        | false =>
          have HN2 := Lib.hid (HN.out he)
          rw [he] at HY
          clear he HS HN
          go_wp2_with fail
          refine HY.out.mono ?_
          rintro e w2 ⟨rfl, hb2⟩
          have hB' := below_then HB.out hb2 HB.out.size
          clear hb2 HY p0 p1 q0 q1
          go_wp2
          go_ret
          exact ⟨ret_bool HN2.out.symm, below_then hbr hB' hbr.size⟩
      · obtain rfl : k = n := by omega
        have HA : Hid (sameR l r = true) := all2_all R.zero R.zero (by rw [HL.out, HR.out]) (fun j hj => HOK.out j (by rw [← HL.out]; exact hj))
        go_wp2
        go_ret
        exact ⟨ret_bool HA.out.symm, hbr⟩
  · have hne : ((n : Int) != (m : Int)) = true := by simp; omega
    have HA : Hid (sameR l r = false) := all2_len (by omega)
    clear hl' hr'
    go_enter Try.func77, Try.ntmps77
    go_wp2
    go_ret
    exact ⟨ret_bool HA.out.symm, Below.refl _ _⟩

theorem iSameRows : CSameRows := by
  intro u v ps qs ls rs w _ _ h1 h2 hu hv e1 e2
  subst e1 e2
  have HF := Lib.hid (iEqualRows u v ps qs w h1 h2 hu hv)
  obtain ⟨⟨a1, c1, rfl, _, _⟩, _⟩ := hu
  obtain ⟨⟨a2, c2, rfl, _, _⟩, _⟩ := hv
  generalize sameR (ps.map (·.1)) (qs.map (·.1)) = z at HF ⊢
  generalize ps.length = n1 at *
  generalize qs.length = n2 at *
  go_enter Try.func36, Try.ntmps36
  go_wp2_with fail
  refine HF.out.mono ?_
  rintro e w1 ⟨rfl, b1⟩
  go_wp2
  go_ret
  exact ⟨rfl, b1⟩

end Go.Proofs.Ytafoldpmodipaaa

/- The laws' own markZoneS and heldZoneS (written by mk_ZS11m.py). -/
namespace Go.Proofs.Ytafoldpmodipaaa
open Go.RowKit

theorem zns_set (l : List Zn) (k : Nat) (x : Zn) (hk : k < l.length) : zns (l.set k x) = ((((((zns l).set (k * 6) (.int .i64 x.lo.ty)).set (k * 6 + 1) (.int .i64 x.lo.n)).set (k * 6 + 2) (.string x.lo.s)).set (k * 6 + 3) (.int .i64 x.hi.ty)).set (k * 6 + 4) (.int .i64 x.hi.n)).set (k * 6 + 5) (.string x.hi.s) := by
  have hl := zns_len l
  apply List.ext_getElem?
  intro i
  unfold zns at hl ⊢
  rw [flat_set Zn.cs 6 (fun _ => rfl) l k x hk i]
  simp only [List.getElem?_set, List.length_set]
  by_cases h5 : k * 6 + 5 = i
  · subst h5
    rw [if_pos (by omega), if_pos rfl, if_pos (by omega), show k * 6 + 5 - k * 6 = 5 by omega]
    rfl
  · by_cases h4 : k * 6 + 4 = i
    · subst h4
      rw [if_pos (by omega), if_neg (by omega), if_pos rfl, if_pos (by omega), show k * 6 + 4 - k * 6 = 4 by omega]
      rfl
    · by_cases h3 : k * 6 + 3 = i
      · subst h3
        rw [if_pos (by omega), if_neg (by omega), if_neg (by omega), if_pos rfl, if_pos (by omega), show k * 6 + 3 - k * 6 = 3 by omega]
        rfl
      · by_cases h2 : k * 6 + 2 = i
        · subst h2
          rw [if_pos (by omega), if_neg (by omega), if_neg (by omega), if_neg (by omega), if_pos rfl, if_pos (by omega), show k * 6 + 2 - k * 6 = 2 by omega]
          rfl
        · by_cases h1 : k * 6 + 1 = i
          · subst h1
            rw [if_pos (by omega), if_neg (by omega), if_neg (by omega), if_neg (by omega), if_neg (by omega), if_pos rfl, if_pos (by omega), show k * 6 + 1 - k * 6 = 1 by omega]
            rfl
          · by_cases h0 : k * 6 = i
            · subst h0
              rw [if_pos (by omega), if_neg (by omega), if_neg (by omega), if_neg (by omega), if_neg (by omega), if_neg (by omega), if_pos rfl, if_pos (by omega), Nat.sub_self]
              rfl
            · rw [if_neg (by omega), if_neg h5, if_neg h4, if_neg h3, if_neg h2, if_neg h1, if_neg h0]
/-- What markZoneS leaves. -/
def zmark (m : Nat) : Zn := ⟨⟨m, (m : Int) + 1, mtext (m + 2)⟩, ⟨(m : Int) + 3, (m : Int) + 4, mtext (m + 5)⟩⟩
def zmarks (s n : Nat) : List Zn := (List.range n).map fun j => zmark (s + 6 * j)
theorem zmarks_len (s n : Nat) : (zmarks s n).length = n := by simp [zmarks]
theorem zmarks_get {s n k : Nat} (h : k < n) : (zmarks s n).getD k Zn.zero = zmark (s + 6 * k) := by simp [zmarks, h]
theorem zmarks_set {s k m : Nat} {l : List Zn} (h : k < l.length) (hm : s + 6 * k = m) : (zmarks s k ++ l.drop k).set k (zmark m) = zmarks s (k + 1) ++ l.drop (k + 1) := by
  subst hm
  rw [List.set_append_right _ _ (by rw [zmarks_len]; exact Nat.le_refl _), zmarks_len, Nat.sub_self, List.drop_eq_getElem_cons h, List.set_cons_zero]
  unfold zmarks
  rw [List.range_succ, List.map_append, List.append_assoc]
  rfl

end Go.Proofs.Ytafoldpmodipaaa

/- The exact law of Zones, walked; the program's own contract comes as a hypothesis (written by mk_Law11z.py). -/
namespace Go.Proofs.Ytafoldpmodipaaa
open Go.RowKit

def CZones : Prop := ∀ (u : Value) (ps : List P) (ls : List R) (w : World), ps.length ≤ 1048576 → (∀ p ∈ ps, p.1.l.length ≤ 1048576) → RdRs w u ps → ps.map (·.1) = ls → Calls Try.prog 26 #[u] w fun e w' => ∃ v', e = .returned v' ∧ Own 97 6 w.heap.size w'.heap.size w' v' (zonesL ls).length (zns (zonesL ls)) ∧ Below w.heap.size w w'
theorem zonesL_le {ps : List P} {N : Nat} (h : ∀ p ∈ ps, p.1.l.length ≤ N) : (zonesL (ps.map (·.1))).length ≤ N := by
  cases ps with
  | nil => exact Nat.zero_le _
  | cons p ps =>
    show (zonesK (p.1 :: ps.map (·.1)) p.1.l.length).length ≤ N
    rw [zonesK_len]
    exact h p List.mem_cons_self
theorem sZones' (u : Value) (ps : List P) (ls : List R) (w : World) (hn : ps.length ≤ 1048576) (hq : ∀ p ∈ ps, p.1.l.length ≤ 1048576) (h : RdRs w u ps) (h1 : ps.map (·.1) = ls) :
    Calls Try.prog 32 #[u] w fun e w' => ∃ v', e = .returned v' ∧ Own 97 6 w.heap.size w'.heap.size w' v' (zonesL ls).length (zns (zonesL ls)) ∧ Below w.heap.size w w' := by
  subst h1
  exact sZones u ps w hn hq h

end Go.Proofs.Ytafoldpmodipaaa

/- The contract of the program's ZoneOf (written by mk_I10z.py). -/
namespace Go.Proofs.Ytafoldpmodipaaa
open Go.RowKit

/-- The zone after k rounds. -/
def zoneP (l : List V) (k : Nat) : Zn := (l.take k).foldl stepZ ⟨l.getD 0 V.zero, l.getD 0 V.zero⟩
theorem zoneP_next {l : List V} {k : Nat} (hk : k < l.length) : zoneP l (k + 1) = ⟨if lessV (l.getD k V.zero) (zoneP l k).lo = true then l.getD k V.zero else (zoneP l k).lo, if lessV (zoneP l k).hi (l.getD k V.zero) = true then l.getD k V.zero else (zoneP l k).hi⟩ := by
  have e : l.getD k V.zero = l[k] := by simp [hk]
  rw [e]
  unfold zoneP
  rw [List.take_succ_eq_append_getElem hk, List.foldl_append]
  rfl
theorem zoneP_all {l : List V} (h : 0 < l.length) : zoneP l l.length = zoneL l := by
  cases l with
  | nil => simp at h
  | cons x l =>
    unfold zoneP
    rw [List.take_length]
    show (x :: l).foldl stepZ ⟨x, x⟩ = l.foldl stepZ ⟨x, x⟩
    rw [List.foldl_cons, stepZ_self]

set_option maxHeartbeats 4000000 in
theorem iZoneOf (u : Value) (l : List V) (w : World) (h : Rd 3 w u l.length (vals l)) :
    Calls Try.prog 59 #[u] w fun e w' => e = .returned (zoneL l).agg ∧ Below w.heap.size w w' := by
  have HALL : Hid (0 < l.length → zoneP l l.length = zoneL l) := zoneP_all
  have HNIL : Hid (l.length = 0 → zoneL l = Zn.zero) := fun h0 => by rw [List.eq_nil_of_length_eq_zero h0]; rfl
  have HSTEP := Lib.hid (fun k (hk : k < l.length) => zoneP_next hk)
  have HZERO : Hid (zoneP l 0 = ⟨l.getD 0 V.zero, l.getD 0 V.zero⟩) := by
    show _ = _
    unfold zoneP
    rw [List.take_zero]
    rfl
  generalize hl : l.length = n at h HALL HSTEP HNIL
  obtain ⟨a, cap, rfl, hm, HC⟩ := h.vals hl
  unfold maxLen at hm
  clear h hl
  by_cases hn : n = 0
  · subst hn
    rw [HNIL.out rfl]
    clear HALL HNIL HSTEP HZERO HC
    go_enter Try.func59, Try.ntmps59
    go_wp2
    exact bodyPost_ret (v := .agg #[.int .i64 0, .int .i64 0, .string ⟨#[]⟩, .int .i64 0, .int .i64 0, .string ⟨#[]⟩]) (by simp [results, Try.results59, go_sem]) rfl ⟨rfl, below_alloc _ _⟩
  · have hb0 : ((n : Int) == 0) = false := by simp; omega
    rw [← HALL.out (by omega)]
    clear HALL HNIL
    obtain ⟨b0, off0, rfl, p0, p1, p2⟩ := HC.out 0 (by omega)
    have HL0 := Lib.hid (later3 p0 p1 p2)
    generalize l.getD 0 V.zero = x at HL0 HZERO p0 p1 p2
    obtain ⟨xt, xn, xs⟩ := x
    simp only [Nat.zero_mul, Nat.add_zero] at p0 p1 p2
    have B0 := below_alloc w (.cells #[.int .i64 0, .int .i64 0, .string ⟨#[]⟩, .int .i64 0, .int .i64 0, .string ⟨#[]⟩] 97)
    have R0 := six_new w Zn.zero 97
    simp only [Zn.zero, V.zero] at R0
    have HSZ : Hid ((w.alloc (.cells #[.int .i64 0, .int .i64 0, .string ⟨#[]⟩, .int .i64 0, .int .i64 0, .string ⟨#[]⟩] 97)).heap.size = w.heap.size + 1) := World.size_alloc _ _
    generalize hw0 : w.alloc (.cells #[.int .i64 0, .int .i64 0, .string ⟨#[]⟩, .int .i64 0, .int .i64 0, .string ⟨#[]⟩] 97) = w0 at B0 R0 HSZ
    have HW := Lib.hid hw0
    clear hw0
    replace p0 := (B0.cell (p := ⟨b0, off0, none⟩) (lt_of_cell p0)).trans p0
    replace p1 := (B0.cell (p := ⟨b0, off0 + 1, none⟩) (lt_of_cell p1)).trans p1
    replace p2 := (B0.cell (p := ⟨b0, off0 + 2, none⟩) (lt_of_cell p2)).trans p2
    have B1 := below_alloc w0 (.cells #[.int .i64 0, .int .i64 0, .string ⟨#[]⟩, .int .i64 0, .int .i64 0, .string ⟨#[]⟩] 97)
    have r0 := (B1.cell (p := ⟨b0, off0, none⟩) (lt_of_cell p0)).trans p0
    have r1 := (B1.cell (p := ⟨b0, off0 + 1, none⟩) (lt_of_cell p1)).trans p1
    have r2 := (B1.cell (p := ⟨b0, off0 + 2, none⟩) (lt_of_cell p2)).trans p2
    have hn0 : 0 < n := by omega
    have hn1 : (0 : Int) < (n : Int) := by omega
    go_enter Try.func59, Try.ntmps59
    go_wp2
    rw [HW.out]
    go_region
    have ST : St w (w0.alloc (.cells #[.int .i64 xt, .int .i64 xn, .string xs, .int .i64 xt, .int .i64 xn, .string xs] 97)).drew ⟨⟨xt, xn, xs⟩, ⟨xt, xn, xs⟩⟩ := by
      have C := six_new w0 ⟨⟨xt, xn, xs⟩, ⟨xt, xn, xs⟩⟩ 97
      rw [HSZ.out] at C
      have B2 := below_alloc w0 (.cells #[.int .i64 xt, .int .i64 xn, .string xs, .int .i64 xt, .int .i64 xn, .string xs] 97)
      exact ⟨C.below (Below.refl _ _).drew, (Six.below (z := Zn.zero) R0 B2).below (Below.refl _ _).drew, below_then (below_then B0 B2 B0.size) (Below.refl _ _).drew (by have := B0.size; have := B2.size; omega)⟩
    generalize (w0.alloc (.cells #[.int .i64 xt, .int .i64 xn, .string xs, .int .i64 xt, .int .i64 xn, .string xs] 97)).drew = w1 at ST ⊢
    rw [HSZ.out]
    clear p0 p1 p2 r0 r1 r2 B0 B1 R0 HW HL0 HSZ hn0 hn1
    rw [← HZERO.out] at ST
    go_wp2
    go_loopw [19] (fun i wr => ∃ k : Nat, k ≤ n ∧ i = .int .i64 k ∧ St w wr (zoneP l k)) (fun i _ => n - (intOf i).toNat)
    case atStart => exact ⟨0, Nat.zero_le _, rfl, ST⟩
    case round =>
      obtain ⟨k, hk, rfl, hst⟩ := hrel
      clear ST HZERO
      by_cases hlt : k < n
      · obtain ⟨b, off, hbo, p0, p1, p2⟩ := HC.out k hlt
        simp only [Option.some.injEq, Addr.mk.injEq, and_true] at hbo
        obtain ⟨rfl, rfl⟩ := hbo
        have HL := Lib.hid (later3 p0 p1 p2)
        clear p0 p1 p2
        have HN := Lib.hid (HSTEP.out k hlt)
        generalize l.getD k V.zero = x at HL HN
        generalize zoneP l k = z at hst HN
        clear HSTEP HC
        have HX := Lib.hid (fun W => iLessVal x z.lo W)
        have HY := Lib.hid (fun W => iLessVal z.hi x W)
        cases hx : lessV x z.lo with
        | true =>
          rw [hx] at HN HX
          rw [if_pos rfl] at HN
          cases hy : lessV z.hi x with
          | true =>
            rw [hy] at HN HY
            rw [if_pos rfl] at HN
            obtain ⟨xt, xn, xs⟩ := x
            obtain ⟨⟨a1, b1, s1⟩, ⟨c1, d1, t1⟩⟩ := z
            clear hx hy
            simp only at HX HY
            obtain ⟨p0, p1, p2⟩ := HL.out wr hst.bel
            have S1 := hst.below (below_alloc wr (.cells #[.int .i64 xt, .int .i64 xn, .string xs] 30))
            have HVw1 := held_new wr ⟨xt, xn, xs⟩ 30
            simp only at p0 p1 p2 HVw1
            generalize hw1 : wr.alloc (.cells #[.int .i64 xt, .int .i64 xn, .string xs] 30) = w1 at S1 HVw1
            have HW1 := Lib.hid hw1
            generalize hqq : wr.heap.size = q at HVw1
            have HQQ := Lib.hid hqq
            have hq : w.heap.size + 1 < q := by
              rw [← hqq]
              exact lt_of_cell hst.cur.1.1
            have hq1 : ¬ (q = w.heap.size + 1) := by omega
            have hq2 : ¬ (w.heap.size + 1 = q) := by omega
            obtain ⟨⟨c0, c1, c2, c3, c4, c5⟩, _⟩ := (hst.below (below_alloc wr (.cells #[.int .i64 xt, .int .i64 xn, .string xs] 30))).cur
            simp only at c0 c1 c2 c3 c4 c5
            clear hst hw1 hqq hq
            go_wp2_with fail
            rw [HW1.out, HQQ.out]
            clear c0 c1 c2 c3 c4 c5 p0 p1 p2
            refine (HX.out _).mono ?_
            rintro e w2 ⟨rfl, b2⟩
            have S2 := S1.below b2
            have HVw2 := HVw1.below b2
            clear S1 HVw1 b2 HX
            have S3 := S2.lo ⟨xt, xn, xs⟩
            have HVw3 := ((HVw2.other (p := ⟨w.heap.size + 1, 0, none⟩) (fun e => hq2 e) (.int .i64 xt)).other (p := ⟨w.heap.size + 1, 1, none⟩) (fun e => hq2 e) (.int .i64 xn)).other (p := ⟨w.heap.size + 1, 2, none⟩) (fun e => hq2 e) (.string xs)
            obtain ⟨⟨c0, c1, c2, c3, c4, c5⟩, f0, f1, f2, f3, f4, f5⟩ := S2.cur
            obtain ⟨⟨p0, p1, p2⟩, _⟩ := HVw2
            simp only at p0 p1 p2 c0 c1 c2 c3 c4 c5
            simp only at S3
            generalize hw3 : (((w2).setCell ⟨w.heap.size + 1, 0, none⟩ (.int .i64 xt)).setCell ⟨w.heap.size + 1, 1, none⟩ (.int .i64 xn)).setCell ⟨w.heap.size + 1, 2, none⟩ (.string xs) = w3 at S3 HVw3
            have HW3 := Lib.hid hw3
            clear hw3
            go_wp2_with fail
            rw [HW3.out]
            clear c0 c1 c2 c3 c4 c5 f0 f1 f2 f3 f4 f5 p0 p1 p2
            refine (HY.out _).mono ?_
            rintro e w4 ⟨rfl, b2⟩
            have S4 := S3.below b2
            have HVw4 := HVw3.below b2
            clear S3 HVw3 b2 HY
            have S5 := S4.hi ⟨xt, xn, xs⟩
            obtain ⟨⟨c0, c1, c2, c3, c4, c5⟩, f0, f1, f2, f3, f4, f5⟩ := S4.cur
            obtain ⟨⟨p0, p1, p2⟩, _⟩ := HVw4
            simp only at p0 p1 p2 c0 c1 c2 c3 c4 c5
            simp only at S5
            go_wp2
            go_roundw
            case rel => exact ⟨k + 1, by omega, by go_num, by rw [HN.out]; exact S5⟩
            case measure => simp [intOf]; omega
          | false =>
            rw [hy] at HN HY
            rw [if_neg Bool.false_ne_true] at HN
            obtain ⟨xt, xn, xs⟩ := x
            obtain ⟨⟨a1, b1, s1⟩, ⟨c1, d1, t1⟩⟩ := z
            clear hx hy
            simp only at HX HY
            obtain ⟨p0, p1, p2⟩ := HL.out wr hst.bel
            have S1 := hst.below (below_alloc wr (.cells #[.int .i64 xt, .int .i64 xn, .string xs] 30))
            have HVw1 := held_new wr ⟨xt, xn, xs⟩ 30
            simp only at p0 p1 p2 HVw1
            generalize hw1 : wr.alloc (.cells #[.int .i64 xt, .int .i64 xn, .string xs] 30) = w1 at S1 HVw1
            have HW1 := Lib.hid hw1
            generalize hqq : wr.heap.size = q at HVw1
            have HQQ := Lib.hid hqq
            have hq : w.heap.size + 1 < q := by
              rw [← hqq]
              exact lt_of_cell hst.cur.1.1
            have hq1 : ¬ (q = w.heap.size + 1) := by omega
            have hq2 : ¬ (w.heap.size + 1 = q) := by omega
            obtain ⟨⟨c0, c1, c2, c3, c4, c5⟩, _⟩ := (hst.below (below_alloc wr (.cells #[.int .i64 xt, .int .i64 xn, .string xs] 30))).cur
            simp only at c0 c1 c2 c3 c4 c5
            clear hst hw1 hqq hq
            go_wp2_with fail
            rw [HW1.out, HQQ.out]
            clear c0 c1 c2 c3 c4 c5 p0 p1 p2
            refine (HX.out _).mono ?_
            rintro e w2 ⟨rfl, b2⟩
            have S2 := S1.below b2
            have HVw2 := HVw1.below b2
            clear S1 HVw1 b2 HX
            have S3 := S2.lo ⟨xt, xn, xs⟩
            have HVw3 := ((HVw2.other (p := ⟨w.heap.size + 1, 0, none⟩) (fun e => hq2 e) (.int .i64 xt)).other (p := ⟨w.heap.size + 1, 1, none⟩) (fun e => hq2 e) (.int .i64 xn)).other (p := ⟨w.heap.size + 1, 2, none⟩) (fun e => hq2 e) (.string xs)
            obtain ⟨⟨c0, c1, c2, c3, c4, c5⟩, f0, f1, f2, f3, f4, f5⟩ := S2.cur
            obtain ⟨⟨p0, p1, p2⟩, _⟩ := HVw2
            simp only at p0 p1 p2 c0 c1 c2 c3 c4 c5
            simp only at S3
            generalize hw3 : (((w2).setCell ⟨w.heap.size + 1, 0, none⟩ (.int .i64 xt)).setCell ⟨w.heap.size + 1, 1, none⟩ (.int .i64 xn)).setCell ⟨w.heap.size + 1, 2, none⟩ (.string xs) = w3 at S3 HVw3
            have HW3 := Lib.hid hw3
            clear hw3
            go_wp2_with fail
            rw [HW3.out]
            clear c0 c1 c2 c3 c4 c5 f0 f1 f2 f3 f4 f5 p0 p1 p2
            refine (HY.out _).mono ?_
            rintro e w4 ⟨rfl, b2⟩
            have S4 := S3.below b2
            have HVw4 := HVw3.below b2
            clear S3 HVw3 b2 HY
            have S5 := S4
            clear S4
            go_wp2
            go_roundw
            case rel => exact ⟨k + 1, by omega, by go_num, by rw [HN.out]; exact S5⟩
            case measure => simp [intOf]; omega
        | false =>
          rw [hx] at HN HX
          rw [if_neg Bool.false_ne_true] at HN
          cases hy : lessV z.hi x with
          | true =>
            rw [hy] at HN HY
            rw [if_pos rfl] at HN
            obtain ⟨xt, xn, xs⟩ := x
            obtain ⟨⟨a1, b1, s1⟩, ⟨c1, d1, t1⟩⟩ := z
            clear hx hy
            simp only at HX HY
            obtain ⟨p0, p1, p2⟩ := HL.out wr hst.bel
            have S1 := hst.below (below_alloc wr (.cells #[.int .i64 xt, .int .i64 xn, .string xs] 30))
            have HVw1 := held_new wr ⟨xt, xn, xs⟩ 30
            simp only at p0 p1 p2 HVw1
            generalize hw1 : wr.alloc (.cells #[.int .i64 xt, .int .i64 xn, .string xs] 30) = w1 at S1 HVw1
            have HW1 := Lib.hid hw1
            generalize hqq : wr.heap.size = q at HVw1
            have HQQ := Lib.hid hqq
            have hq : w.heap.size + 1 < q := by
              rw [← hqq]
              exact lt_of_cell hst.cur.1.1
            have hq1 : ¬ (q = w.heap.size + 1) := by omega
            have hq2 : ¬ (w.heap.size + 1 = q) := by omega
            obtain ⟨⟨c0, c1, c2, c3, c4, c5⟩, _⟩ := (hst.below (below_alloc wr (.cells #[.int .i64 xt, .int .i64 xn, .string xs] 30))).cur
            simp only at c0 c1 c2 c3 c4 c5
            clear hst hw1 hqq hq
            go_wp2_with fail
            rw [HW1.out, HQQ.out]
            clear c0 c1 c2 c3 c4 c5 p0 p1 p2
            refine (HX.out _).mono ?_
            rintro e w2 ⟨rfl, b2⟩
            have S2 := S1.below b2
            have HVw2 := HVw1.below b2
            clear S1 HVw1 b2 HX
            have HVk := HVw2
            obtain ⟨⟨c0, c1, c2, c3, c4, c5⟩, f0, f1, f2, f3, f4, f5⟩ := S2.cur
            obtain ⟨⟨p0, p1, p2⟩, _⟩ := HVw2
            simp only at p0 p1 p2 c0 c1 c2 c3 c4 c5
            go_wp2_with fail
            clear c0 c1 c2 c3 c4 c5 f0 f1 f2 f3 f4 f5 p0 p1 p2
            have HVw2 := HVk
            clear HVk
            refine (HY.out _).mono ?_
            rintro e w4 ⟨rfl, b2⟩
            have S4 := S2.below b2
            have HVw4 := HVw2.below b2
            clear S2 HVw2 b2 HY
            have S5 := S4.hi ⟨xt, xn, xs⟩
            obtain ⟨⟨c0, c1, c2, c3, c4, c5⟩, f0, f1, f2, f3, f4, f5⟩ := S4.cur
            obtain ⟨⟨p0, p1, p2⟩, _⟩ := HVw4
            simp only at p0 p1 p2 c0 c1 c2 c3 c4 c5
            simp only at S5
            go_wp2
            go_roundw
            case rel => exact ⟨k + 1, by omega, by go_num, by rw [HN.out]; exact S5⟩
            case measure => simp [intOf]; omega
          | false =>
            rw [hy] at HN HY
            rw [if_neg Bool.false_ne_true] at HN
            obtain ⟨xt, xn, xs⟩ := x
            obtain ⟨⟨a1, b1, s1⟩, ⟨c1, d1, t1⟩⟩ := z
            clear hx hy
            simp only at HX HY
            obtain ⟨p0, p1, p2⟩ := HL.out wr hst.bel
            have S1 := hst.below (below_alloc wr (.cells #[.int .i64 xt, .int .i64 xn, .string xs] 30))
            have HVw1 := held_new wr ⟨xt, xn, xs⟩ 30
            simp only at p0 p1 p2 HVw1
            generalize hw1 : wr.alloc (.cells #[.int .i64 xt, .int .i64 xn, .string xs] 30) = w1 at S1 HVw1
            have HW1 := Lib.hid hw1
            generalize hqq : wr.heap.size = q at HVw1
            have HQQ := Lib.hid hqq
            have hq : w.heap.size + 1 < q := by
              rw [← hqq]
              exact lt_of_cell hst.cur.1.1
            have hq1 : ¬ (q = w.heap.size + 1) := by omega
            have hq2 : ¬ (w.heap.size + 1 = q) := by omega
            obtain ⟨⟨c0, c1, c2, c3, c4, c5⟩, _⟩ := (hst.below (below_alloc wr (.cells #[.int .i64 xt, .int .i64 xn, .string xs] 30))).cur
            simp only at c0 c1 c2 c3 c4 c5
            clear hst hw1 hqq hq
            go_wp2_with fail
            rw [HW1.out, HQQ.out]
            clear c0 c1 c2 c3 c4 c5 p0 p1 p2
            refine (HX.out _).mono ?_
            rintro e w2 ⟨rfl, b2⟩
            have S2 := S1.below b2
            have HVw2 := HVw1.below b2
            clear S1 HVw1 b2 HX
            have HVk := HVw2
            obtain ⟨⟨c0, c1, c2, c3, c4, c5⟩, f0, f1, f2, f3, f4, f5⟩ := S2.cur
            obtain ⟨⟨p0, p1, p2⟩, _⟩ := HVw2
            simp only at p0 p1 p2 c0 c1 c2 c3 c4 c5
            go_wp2_with fail
            clear c0 c1 c2 c3 c4 c5 f0 f1 f2 f3 f4 f5 p0 p1 p2
            have HVw2 := HVk
            clear HVk
            refine (HY.out _).mono ?_
            rintro e w4 ⟨rfl, b2⟩
            have S4 := S2.below b2
            have HVw4 := HVw2.below b2
            clear S2 HVw2 b2 HY
            have S5 := S4
            clear S4
            go_wp2
            go_roundw
            case rel => exact ⟨k + 1, by omega, by go_num, by rw [HN.out]; exact S5⟩
            case measure => simp [intOf]; omega
      · obtain rfl : k = n := by omega
        generalize hzz : zoneP l k = z at hst
        have HZZ := Lib.hid hzz
        clear hzz
        obtain ⟨⟨a1, b1, s1⟩, ⟨c1, d1, t1⟩⟩ := z
        obtain ⟨⟨⟨q0, q1, q2, q3, q4, q5⟩, _⟩, ⟨⟨r0, r1, r2, r3, r4, r5⟩, f0, f1, f2, f3, f4, f5⟩, B⟩ := hst
        simp only [Zn.zero, V.zero] at q0 q1 q2 q3 q4 q5 r0 r1 r2 r3 r4 r5
        go_wp2
        refine bodyPost_ret (v := .agg #[.int .i64 a1, .int .i64 b1, .string s1, .int .i64 c1, .int .i64 d1, .string t1]) (by simp [results, Try.results59, go_sem, *]) rfl ⟨by rw [HZZ.out], ?_⟩
        exact ((((((B.setCell (by simp) _).setCell (by simp) _).setCell (by simp) _).setCell (by simp) _).setCell (by simp) _).setCell (by simp) _)

end Go.Proofs.Ytafoldpmodipaaa

/- The contract of impl's Column. -/
namespace Go.Proofs.Ytafoldpmodipaaa
open Go.RowKit

set_option maxHeartbeats 1000000 in
theorem iColumn : CColumn := by
  intro u ps ls k w hn _ h hls
  subst hls
  have hown0 := own_lit (e := 30) (size := 3) w #[] 0 (Nat.zero_le _) rfl
  have hb0 := below_alloc w (.cells #[] 30)
  generalize hl : ps.length = n at hn
  obtain ⟨a, cap, rfl, _, HC⟩ := h.walk hl
  have hl' : (ps.map (·.1)).length = n := by simpa using hl
  have HE : Hid (∀ j, ((ps.map (·.1)).getD j R.zero) = (ps.getD j P.zero).1) := fun j => (getD_fst ps j).symm
  clear h hl
  generalize ps.map (·.1) = l at HE hl' ⊢
  have HL := Lib.hid hl'
  have HT : Hid (∀ j, j < n → colR (l.take (j + 1)) k = colR (l.take j) k ++ (if Num.inB k 0 (((ps.getD j P.zero).1.l.length : Int) - 1) = true then (ps.getD j P.zero).1.l[k.toNat]? else none).toList) := fun j hj => by
    have hj' : j < l.length := by omega
    rw [List.take_succ_eq_append_getElem hj', colR_snoc, ← HE.out j]
    simp [hj']
  have HLE : Hid (∀ j, j ≤ n → (colR (l.take j) k).length ≤ j) := fun j hj => Nat.le_trans (colR_le _ _) (by simp; omega)
  clear hl'
  go_enter Try.func60, Try.ntmps60
  go_wp2
  go_loopw [5, 11] (fun o i wr => ∃ j : Nat, j ≤ n ∧ i = .int .i64 j ∧ Own 30 3 w.heap.size wr.heap.size wr o (colR (l.take j) k).length (vals (colR (l.take j) k)) ∧ Below w.heap.size w wr) (fun _ i _ => n - (intOf i).toNat)
  case atStart => exact ⟨0, Nat.zero_le _, rfl, hown0, hb0⟩
  case round =>
    obtain ⟨j, hj, rfl, hown, hbr⟩ := hrel
    by_cases hlt : j < n
    · obtain ⟨b, off, rfl, c0, c1, hr⟩ := HC.out j hlt wr hbr
      have HTJ := Lib.hid (HT.out j hlt)
      have hcl := HLE.out j (by omega)
      generalize ps.getD j P.zero = p at c0 c1 hr HTJ
      obtain ⟨⟨i, rl⟩, ru⟩ := p
      simp only at c0 c1 HTJ
      obtain ⟨a', cap', hu, hmx, hx⟩ := hr
      simp only at hu hmx hx
      subst hu
      have ba := below_alloc wr (.cells #[.int .i64 i, .slice a' rl.length cap'] 71)
      have bt := below_then hbr ba hbr.size
      have hown2 := (hown.below ba (Nat.le_refl _)).wide ba.size
      unfold maxLen at hmx
      by_cases k0 : k < 0
      · have hin : Num.inB k 0 ((rl.length : Int) - 1) = false := by rw [← Bool.not_eq_true, Num.inB_true]; omega
        rw [hin, if_neg (by simp), Option.toList_none, List.append_nil] at HTJ
        clear hin hx hown ba
        generalize rl.length = m at *
        go_wp2
        go_roundw
        case rel => exact ⟨j + 1, by omega, by go_num, by rw [HTJ.out]; exact hown2, bt⟩
        case measure => simp [intOf]; omega
      by_cases k1 : k < (rl.length : Int)
      · have hin : Num.inB k 0 ((rl.length : Int) - 1) = true := by rw [Num.inB_true]; omega
        rw [hin] at HTJ
        obtain ⟨K, rfl⟩ := Int.eq_ofNat_of_zero_le (show 0 ≤ k by omega)
        have hK : K < rl.length := by omega
        rw [if_pos rfl, Int.toNat_natCast, List.getElem?_eq_getElem hK, Option.toList_some] at HTJ
        obtain ⟨b', o', rfl, hc⟩ : ∃ b off, a' = some ⟨b, off, none⟩ ∧ ∀ j u, (vals rl)[j]? = some u → wr.cell? ⟨b, off + j, none⟩ = some u := by
          rcases hx.2 with h0 | h0
          · omega
          · exact h0
        obtain ⟨d0, d1, d2⟩ := cells3 hc hK
        replace d0 := (ba.cell (p := ⟨b', o' + K * 3, none⟩) (lt_of_cell d0)).trans d0
        replace d1 := (ba.cell (p := ⟨b', o' + K * 3 + 1, none⟩) (lt_of_cell d1)).trans d1
        replace d2 := (ba.cell (p := ⟨b', o' + K * 3 + 2, none⟩) (lt_of_cell d2)).trans d2
        have y0 : (wr.alloc (.cells #[.int .i64 i, .slice (some ⟨b', o', none⟩) rl.length cap'] 71)).cell? ⟨wr.heap.size, 1, none⟩ = some (.slice (some ⟨b', o', none⟩) rl.length cap') := by simp
        generalize rl[K] = x at d0 d1 d2 HTJ
        have HVA : Hid (vals (colR (l.take j) K) ++ x.cs = vals (colR (l.take j) K ++ [x])) := by
          show _ = _
          simp [vals]
        have HLN : Hid ((colR (l.take j) K ++ [x]).length = (colR (l.take j) K).length + 1) := by
          show _ = _
          simp
        clear hin hx hc hown ba
        generalize rl.length = m at *
        generalize colR (l.take j) K = C at *
        generalize C.length = c at *
        obtain ⟨xt, xn, xs⟩ := x
        simp only at d0 d1 d2
        go_wp2_with (at_builtin; refine appendV_law Try.elemVals rfl _ _ rfl _ _ _ _ _ ⟨xt, xn, xs⟩ rfl hown2 (by show Value.slice (some ⟨wr.heap.size + 1, 0, none⟩) 1 1 = _; rw [World.size_alloc]) (by unfold maxLen; omega) (by omega) ?_)
        intro v3 w3 o3 e3
        have b3 := bt.trans (e3.below hown2)
        rw [HVA.out] at o3
        have O3 := Lib.hid o3
        clear o3 e3 hown2 d0 d1 d2 c0 c1
        go_wp2
        go_roundw
        case rel => exact ⟨j + 1, by omega, by go_num, by rw [HTJ.out, HLN.out]; exact O3.out, b3⟩
        case measure => simp [intOf]; omega
      · have hin : Num.inB k 0 ((rl.length : Int) - 1) = false := by rw [← Bool.not_eq_true, Num.inB_true]; omega
        rw [hin, if_neg (by simp), Option.toList_none, List.append_nil] at HTJ
        clear hin hx hown ba
        generalize rl.length = m at *
        go_wp2
        go_roundw
        case rel => exact ⟨j + 1, by omega, by go_num, by rw [HTJ.out]; exact hown2, bt⟩
        case measure => simp [intOf]; omega
    · obtain rfl : j = n := by omega
      rw [← HL.out, List.take_length] at hown
      go_wp2
      go_ret
      exact ⟨_, rfl, hown, hbr⟩

end Go.Proofs.Ytafoldpmodipaaa

/- The contract of impl's Zones. -/
namespace Go.Proofs.Ytafoldpmodipaaa
open Go.RowKit

set_option maxHeartbeats 4000000 in
theorem iZones : CZones := by
  intro u ps ls w hn hq h hls
  subst hls
  have hown0 := own_lit (e := 97) (size := 6) w #[] 0 (Nat.zero_le _) rfl
  have hb0 := below_alloc w (.cells #[] 97)
  cases ps with
  | nil =>
    obtain ⟨⟨a, cap, rfl, _, _⟩, _⟩ := h
    simp only [List.map_nil, zonesL, List.length_nil]
    go_enter Try.func26, Try.ntmps26
    go_wp2
    go_ret
    exact ⟨_, rfl, hown0, hb0⟩
  | cons p ps =>
    have HRD := Lib.hid (fun W (hW : Below w.heap.size w W) => h.below hW)
    have HCL := Lib.hid (fun (k : Int) W (hW : Below w.heap.size w W) => iColumn u (p :: ps) _ k W hn hq (h.below hW) rfl)
    have HQ : Hid (p.1.l.length ≤ 1048576) := hq p List.mem_cons_self
    generalize hl : (p :: ps).length = n at *
    obtain ⟨a, cap, rfl, hle, HC⟩ := h.walk hl
    have hpos : 0 < n := by rw [← hl]; simp
    have HC0 := Lib.hid (fun W hW => HC.out 0 hpos W hW)
    have hz : zonesL ((p :: ps).map (·.1)) = zonesK ((p :: ps).map (·.1)) p.1.l.length := rfl
    rw [hz, zonesK_len]
    simp only [List.getD_cons_zero] at HC0
    generalize (p :: ps).map (·.1) = rs at HCL ⊢
    have hn0 : ((n : Int) == 0) = false := by simp; omega
    have hni : (0 : Int) < (n : Int) := by omega
    have hm := HQ.out
    obtain ⟨r, ru⟩ := p
    simp only at HC0 HQ hm ⊢
    obtain ⟨b, off, hb, _, _, hr⟩ := HC0.out w (Below.refl _ _)
    subst hb
    obtain ⟨ra, rcap, hru, _, _⟩ := hr
    subst hru
    have HCC : Hid (∀ W, Below w.heap.size w W → W.cell? ⟨b, off + 1, none⟩ = some (.slice ra r.l.length rcap)) := fun W hW => by
      obtain ⟨b', off', e, _, h2, _⟩ := HC0.out W hW
      simp only [Option.some.injEq, Addr.mk.injEq, and_true] at e
      obtain ⟨rfl, rfl⟩ := e
      simpa using h2
    generalize r.l.length = m at *
    clear h HRD HC HC0 hq hz hn HQ
    have hc0 := HCC.out _ hb0
    go_enter Try.func26, Try.ntmps26
    go_wp2
    go_loopw [3, 4, 15] (fun o _ i wr => ∃ q : Nat, q ≤ m ∧ i = .int .i64 q ∧ Own 97 6 w.heap.size wr.heap.size wr o q (zns (zonesK rs q)) ∧ Below w.heap.size w wr) (fun _ _ i _ => m - (intOf i).toNat)
    case atStart => exact ⟨0, Nat.zero_le _, rfl, hown0, hb0⟩
    case round =>
      obtain ⟨q, hq, rfl, hown, hbr⟩ := hrel
      by_cases hlt : q < m
      · have HVA : Hid (zns (zonesK rs q) ++ Zn.cs (zoneL (colR rs (q : Int))) = zns (zonesK rs (q + 1))) := by
          show _ = _
          rw [zonesK_succ]
          simp [zns]
        have HX := Lib.hid (HCL.out (q : Int) wr hbr)
        have HZ := Lib.hid (fun v' W hW => iZoneOf v' (colR rs (q : Int)) W hW)
        generalize colR rs (q : Int) = cl at HX HZ HVA
        have hown' := hown
        obtain ⟨ob, oc, ho, _⟩ := hown'
        subst ho
        go_wp2_with fail
        refine HX.out.mono ?_
        rintro e w2 ⟨v2, rfl, o2, b2⟩
        have B2 := below_then hbr b2 hbr.size
        have O2 := (hown.below b2 (Nat.le_refl _)).wide b2.size
        have HZ2 := Lib.hid (HZ.out v2 w2 o2.rd)
        clear HX HZ o2 b2 hown
        generalize zoneL cl = z at HZ2 HVA
        go_wp2_with fail
        refine HZ2.out.mono ?_
        rintro e w3 ⟨rfl, b3⟩
        have B3 := below_then B2 b3 B2.size
        have O3 := (O2.below b3 (Nat.le_refl _)).wide b3.size
        obtain ⟨⟨a1, a2, a3⟩, ⟨a4, a5, a6⟩⟩ := z
        clear HZ2 O2 b3 B2
        go_wp2_with (at_builtin; refine appendZ_law Try.elemZones rfl _ _ rfl _ _ _ _ _ ⟨⟨a1, a2, a3⟩, ⟨a4, a5, a6⟩⟩ rfl O3 rfl (by unfold maxLen; omega) (by omega) ?_)
        intro v4 w4 o4 e4
        have B4 := B3.trans (e4.below O3)
        rw [HVA.out] at o4
        have O4 := Lib.hid o4
        clear o4 e4 O3
        go_wp2
        go_roundw
        case rel => exact ⟨q + 1, by omega, by go_num, O4.out, B4⟩
        case measure => simp [intOf]; omega
      · obtain rfl : q = m := by omega
        go_wp2
        go_ret
        exact ⟨_, rfl, hown, hbr⟩

end Go.Proofs.Ytafoldpmodipaaa

/- Plain mathematics of chapter 12: queries and their results. -/
namespace Go.Proofs.Ytafoldpmodipaaa
open Go.RowKit

/-- A Query. -/
structure Qu where
  kind : Int
  t : T
  col : Int
  out : List Int
/-- A Result. -/
structure Rs where
  rows : List R
  n : Int
  has : Bool
  v : V
def Rs.zero : Rs := ⟨[], 0, false, V.zero⟩
abbrev Qu.agg (q : Qu) (u o : Value) : Value := .agg #[.int .i64 q.kind, .int .i64 q.t.kind, .int .i64 q.t.col, .int .i64 q.t.op, .int .i64 q.t.v.ty, .int .i64 q.t.v.n, .string q.t.v.s, u, .int .i64 q.col, o]
abbrev Rs.agg (r : Rs) (u : Value) : Value := .agg #[u, .int .i64 r.n, .bool r.has, .int .i64 r.v.ty, .int .i64 r.v.n, .string r.v.s]
def Qu.cs (q : Qu) (u o : Value) : List Value := [.int .i64 q.kind, .int .i64 q.t.kind, .int .i64 q.t.col, .int .i64 q.t.op, .int .i64 q.t.v.ty, .int .i64 q.t.v.n, .string q.t.v.s, u, .int .i64 q.col, o]
def Rs.cs (r : Rs) (u : Value) : List Value := [u, .int .i64 r.n, .bool r.has, .int .i64 r.v.ty, .int .i64 r.v.n, .string r.v.s]

/-- Meant. -/
def meantL (t : T) (l : List R) : List R := l.filter fun r => t.holds r.l
theorem meantL_snoc (t : T) (l : List R) (r : R) : meantL t (l ++ [r]) = if t.holds r.l = true then meantL t l ++ [r] else meantL t l := by
  unfold meantL
  rw [List.filter_append]
  cases h : t.holds r.l with
  | true => simp [h]
  | false => simp [h]
theorem meantL_len (t : T) (l : List R) : (meantL t l).length ≤ l.length := List.length_filter_le _ _
theorem meantL_mem {t : T} {l : List R} {r : R} (h : r ∈ meantL t l) : r ∈ l ∧ t.holds r.l = true := by
  unfold meantL at h
  simpa using h
theorem meantL_self (t : T) (l : List R) : meantL t (meantL t l) = meantL t l := by
  unfold meantL
  rw [List.filter_filter]
  simp
/-- The value at a place, if there is one. -/
def atL (l : List V) (k : Int) : Option V := if Num.inB k 0 ((l.length : Int) - 1) = true then l[k.toNat]? else none
theorem atL_yes {l : List V} {k : Int} (h : 0 ≤ k ∧ k < l.length) : atL l k = some (l.getD k.toNat V.zero) := by
  unfold atL
  rw [if_pos (Num.inB_true.2 (by omega)), List.getElem?_eq_getElem (by omega), getDe l V.zero (by omega)]
theorem atL_no {l : List V} {k : Int} (h : ¬ (0 ≤ k ∧ k < l.length)) : atL l k = none := by
  unfold atL
  rw [if_neg (by rw [Num.inB_true]; omega)]
/-- The values of a row that a query returns. -/
def cutL (l : List V) (cols : List Int) : List V := cols.filterMap (atL l)
theorem cutL_snoc (l : List V) (cols : List Int) (k : Int) : cutL l (cols ++ [k]) = cutL l cols ++ (atL l k).toList := by
  unfold cutL
  rw [List.filterMap_append]
  congr 1
theorem cutL_len (l : List V) (cols : List Int) : (cutL l cols).length ≤ cols.length := List.length_filterMap_le _ _
def cutR (r : R) (cols : List Int) : R := ⟨r.id, cutL r.l cols⟩
theorem colR_snoc' (l : List R) (r : R) (k : Int) : colR (l ++ [r]) k = colR l k ++ (atL r.l k).toList := colR_snoc l r k
def wr64 (x : Int) : Int := IntKind.i64.wrap x
/-- The sum of numbers, as 64 bits hold it. -/
def sumL (l : List V) : Int := l.foldl (fun a v => wr64 (a + v.n)) 0
theorem sumL_snoc (l : List V) (v : V) : sumL (l ++ [v]) = wr64 (sumL l + v.n) := by
  unfold sumL
  rw [List.foldl_append]
  rfl
theorem wr64_in {x : Int} (h : -9223372036854775808 ≤ x ∧ x ≤ 9223372036854775807) : wr64 x = x := IntWalk.i64_in _ (by omega)
theorem wr64_bd (x : Int) : -9223372036854775808 ≤ wr64 x ∧ wr64 x ≤ 9223372036854775807 := by
  unfold wr64
  rw [IntKind.wrap_i64]
  omega
theorem sumL_bd (l : List V) : -9223372036854775808 ≤ sumL l ∧ sumL l ≤ 9223372036854775807 := by
  rcases List.eq_nil_or_concat l with rfl | ⟨l', v, rfl⟩
  · decide
  · rw [List.concat_eq_append, sumL_snoc]
    exact wr64_bd _

/-- Answer. -/
def ansL (q : Qu) (l : List R) : Rs :=
  if q.kind = 1 then ⟨(meantL q.t l).map (fun r => cutR r q.out), 0, false, V.zero⟩
  else if q.kind = 2 then ⟨[], ((meantL q.t l).length : Int), false, V.zero⟩
  else if q.kind = 3 then ⟨[], sumL (colR (meantL q.t l) q.col), false, V.zero⟩
  else if q.kind = 4 then ⟨[], 0, decide (0 < (colR (meantL q.t l) q.col).length), (zoneL (colR (meantL q.t l) q.col)).lo⟩
  else if q.kind = 5 then ⟨[], 0, decide (0 < (colR (meantL q.t l) q.col).length), (zoneL (colR (meantL q.t l) q.col)).hi⟩
  else Rs.zero
/-- What a single row gives. -/
def ofL (q : Qu) (r : R) : Rs :=
  if q.kind = 1 then ⟨[cutR r q.out], 0, false, V.zero⟩
  else if q.kind = 2 then ⟨[], 1, false, V.zero⟩
  else if q.kind = 3 then ⟨[], ((atL r.l q.col).getD V.zero).n, false, V.zero⟩
  else ⟨[], 0, (atL r.l q.col).isSome, (atL r.l q.col).getD V.zero⟩
/-- One result extended by another. -/
def addL (k : Int) (a b : Rs) : Rs :=
  if k = 1 then ⟨a.rows ++ b.rows, a.n, a.has, a.v⟩
  else if k = 2 ∨ k = 3 then ⟨a.rows, wr64 (a.n + b.n), a.has, a.v⟩
  else if k = 4 then (if (b.has && (!a.has || lessV b.v a.v)) = true then ⟨a.rows, a.n, true, b.v⟩ else a)
  else (if (b.has && (!a.has || lessV a.v b.v)) = true then ⟨a.rows, a.n, true, b.v⟩ else a)
theorem zone_lo_snoc (l : List V) (v : V) : (zoneL (l ++ [v])).lo = if decide (0 < l.length) = false ∨ lessV v (zoneL l).lo = true then v else (zoneL l).lo := by
  cases l with
  | nil => rfl
  | cons x l =>
    rw [zoneL_step _ _ (by simp)]
    show (if lessV v (zoneL (x :: l)).lo = true then v else (zoneL (x :: l)).lo) = _
    simp
theorem zone_hi_snoc (l : List V) (v : V) : (zoneL (l ++ [v])).hi = if decide (0 < l.length) = false ∨ lessV (zoneL l).hi v = true then v else (zoneL l).hi := by
  cases l with
  | nil => rfl
  | cons x l =>
    rw [zoneL_step _ _ (by simp)]
    show (if lessV (zoneL (x :: l)).hi v = true then v else (zoneL (x :: l)).hi) = _
    simp
theorem ansL_no {q : Qu} {l : List R} (h : ¬ (1 ≤ q.kind ∧ q.kind ≤ 5)) : ansL q l = Rs.zero := by
  unfold ansL
  rw [if_neg (by omega), if_neg (by omega), if_neg (by omega), if_neg (by omega), if_neg (by omega)]
theorem kinds5 {k : Int} (h : 1 ≤ k ∧ k ≤ 5) : k = 1 ∨ k = 2 ∨ k = 3 ∨ k = 4 ∨ k = 5 := by omega
theorem ansL_nil {q : Qu} : ansL q [] = Rs.zero := by
  unfold ansL
  split
  · rfl
  split
  · rfl
  split
  · rfl
  split
  · rfl
  split <;> rfl
theorem ansL_skip {q : Qu} {l : List R} {r : R} (h : q.t.holds r.l = false) : ansL q (l ++ [r]) = ansL q l := by
  have e : meantL q.t (l ++ [r]) = meantL q.t l := by rw [meantL_snoc, if_neg (by simp [h])]
  unfold ansL
  rw [e]
theorem ansL_take {q : Qu} {l : List R} {r : R} (hk : 1 ≤ q.kind ∧ q.kind ≤ 5) (hl : l.length < 4611686018427387904) (h : q.t.holds r.l = true) : ansL q (l ++ [r]) = addL q.kind (ansL q l) (ofL q r) := by
  have e : meantL q.t (l ++ [r]) = meantL q.t l ++ [r] := by rw [meantL_snoc, if_pos h]
  have hm := meantL_len q.t l
  rcases kinds5 hk with k | k | k | k | k
  · simp [ansL, addL, ofL, k, e]
  · simp only [ansL, addL, ofL, k, e]
    simp
    rw [wr64_in (by omega)]
  · simp only [ansL, addL, ofL, k, e, colR_snoc']
    cases ha : atL r.l q.col with
    | none =>
      have := sumL_bd (colR (meantL q.t l) q.col)
      simp [V.zero, wr64_in this]
    | some v => simp [sumL_snoc]
  · simp only [ansL, addL, ofL, k, e, colR_snoc']
    cases ha : atL r.l q.col with
    | none => simp
    | some v =>
      simp [zone_lo_snoc]
      by_cases h0 : colR (meantL q.t l) q.col = []
      · simp [h0]
      · simp [h0]
        split <;> simp_all [List.length_pos_iff]
  · simp only [ansL, addL, ofL, k, e, colR_snoc']
    cases ha : atL r.l q.col with
    | none => simp
    | some v =>
      simp [zone_hi_snoc]
      by_cases h0 : colR (meantL q.t l) q.col = []
      · simp [h0]
      · simp [h0]
        split <;> simp_all [List.length_pos_iff]

/-- Joined, as the document has it. -/
def hasL (r : Rs) : List V := if r.has = true then [r.v] else []
def joinL (k : Int) (a b : Rs) : Rs :=
  if k = 1 then ⟨a.rows ++ b.rows, 0, false, V.zero⟩
  else if k = 2 ∨ k = 3 then ⟨[], wr64 (a.n + b.n), false, V.zero⟩
  else if k = 4 then ⟨[], 0, a.has || b.has, (zoneL (hasL a ++ hasL b)).lo⟩
  else if k = 5 then ⟨[], 0, a.has || b.has, (zoneL (hasL a ++ hasL b)).hi⟩
  else Rs.zero
theorem joinL_add {k : Int} {a b : Rs} (hk : 1 ≤ k ∧ k ≤ 5) (ha : -9223372036854775808 ≤ a.n ∧ a.n ≤ 9223372036854775807) : joinL k a b = addL k (addL k Rs.zero a) b := by
  rcases kinds5 hk with rfl | rfl | rfl | rfl | rfl
  · simp [joinL, addL, Rs.zero]
  · simp [joinL, addL, Rs.zero, wr64_in ha]
  · simp [joinL, addL, Rs.zero, wr64_in ha]
  · cases h1 : a.has <;> cases h2 : b.has <;> simp [joinL, addL, Rs.zero, hasL, h1, h2, zoneL, stepZ] <;> first | rfl | (split <;> simp_all)
  · cases h1 : a.has <;> cases h2 : b.has <;> simp [joinL, addL, Rs.zero, hasL, h1, h2, zoneL, stepZ] <;> first | rfl | (split <;> simp_all)

end Go.Proofs.Ytafoldpmodipaaa
