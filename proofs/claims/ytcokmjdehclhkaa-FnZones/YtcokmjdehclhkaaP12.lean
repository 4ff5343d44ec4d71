/- Texts of this claim, one behind the other: I10z, Law10, Law10m. -/
import Derived.Test.YtcokmjdehclhkaaP11
import Derived.Test.YtcokmjdehclhkaaP7

/- The contract of the program's ZoneOf (written by mk_I10z.py). -/
namespace Go.Proofs.Ytcokmjdehclhkaa
open Go.RowKit

/-- The zone after k rounds. -/
def zoneP (l : List V) (k : Nat) : Zn := (l.take k).foldl stepZ ⟨l.getD 0 V.zero, l.getD 0 V.zero⟩
theorem zoneP_next {l : List V} {k : Nat} (hk : k < l.length) : zoneP l (k + 1) = ⟨if lessV (l.getD k V.zero) (zoneP l k).lo = true then l.getD k V.zero else (zoneP l k).lo, if lessV (zoneP l k).hi (l.getD k V.zero) = true then l.getD k V.zero else (zoneP l k).hi⟩ := by
  have e : l.getD k V.zero = l[k] := by simp [hk]
  rw [e]
  unfold zoneP
  rw [List.take_succ_eq_append_getElem hk, List.foldl_append]
  rfl
theorem zoneP_all {l : List V} (h : 0 < l.length) : zoneP l l.length = zoneL l := by
  cases l with
  | nil => simp at h
  | cons x l =>
    unfold zoneP
    rw [List.take_length]
    show (x :: l).foldl stepZ ⟨x, x⟩ = l.foldl stepZ ⟨x, x⟩
    rw [List.foldl_cons, stepZ_self]

set_option maxHeartbeats 4000000 in
theorem iZoneOf (u : Value) (l : List V) (w : World) (h : Rd 3 w u l.length (vals l)) :
    Calls Try.prog 14 #[u] w fun e w' => e = .returned (zoneL l).agg ∧ Below w.heap.size w w' := by
  have HALL : Hid (0 < l.length → zoneP l l.length = zoneL l) := zoneP_all
  have HNIL : Hid (l.length = 0 → zoneL l = Zn.zero) := fun h0 => by rw [List.eq_nil_of_length_eq_zero h0]; rfl
  have HSTEP := Lib.hid (fun k (hk : k < l.length) => zoneP_next hk)
  have HZERO : Hid (zoneP l 0 = ⟨l.getD 0 V.zero, l.getD 0 V.zero⟩) := by
    show _ = _
    unfold zoneP
    rw [List.take_zero]
    rfl
  generalize hl : l.length = n at h HALL HSTEP HNIL
  obtain ⟨a, cap, rfl, hm, HC⟩ := h.vals hl
  unfold maxLen at hm
  clear h hl
  by_cases hn : n = 0
  · subst hn
    rw [HNIL.out rfl]
    clear HALL HNIL HSTEP HZERO HC
    go_enter Try.func14, Try.ntmps14
    go_wp2
    exact bodyPost_ret (v := .agg #[.int .i64 0, .int .i64 0, .string ⟨#[]⟩, .int .i64 0, .int .i64 0, .string ⟨#[]⟩]) (by simp [results, Try.results14, go_sem]) rfl ⟨rfl, below_alloc _ _⟩
  · have hb0 : ((n : Int) == 0) = false := by simp; omega
    rw [← HALL.out (by omega)]
    clear HALL HNIL
    obtain ⟨b0, off0, rfl, p0, p1, p2⟩ := HC.out 0 (by omega)
    have HL0 := Lib.hid (later3 p0 p1 p2)
    generalize l.getD 0 V.zero = x at HL0 HZERO p0 p1 p2
    obtain ⟨xt, xn, xs⟩ := x
    simp only [Nat.zero_mul, Nat.add_zero] at p0 p1 p2
    have B0 := below_alloc w (.cells #[.int .i64 0, .int .i64 0, .string ⟨#[]⟩, .int .i64 0, .int .i64 0, .string ⟨#[]⟩] 29)
    have R0 := six_new w Zn.zero 29
    simp only [Zn.zero, V.zero] at R0
    have HSZ : Hid ((w.alloc (.cells #[.int .i64 0, .int .i64 0, .string ⟨#[]⟩, .int .i64 0, .int .i64 0, .string ⟨#[]⟩] 29)).heap.size = w.heap.size + 1) := World.size_alloc _ _
    generalize hw0 : w.alloc (.cells #[.int .i64 0, .int .i64 0, .string ⟨#[]⟩, .int .i64 0, .int .i64 0, .string ⟨#[]⟩] 29) = w0 at B0 R0 HSZ
    have HW := Lib.hid hw0
    clear hw0
    replace p0 := (B0.cell (p := ⟨b0, off0, none⟩) (lt_of_cell p0)).trans p0
    replace p1 := (B0.cell (p := ⟨b0, off0 + 1, none⟩) (lt_of_cell p1)).trans p1
    replace p2 := (B0.cell (p := ⟨b0, off0 + 2, none⟩) (lt_of_cell p2)).trans p2
    have B1 := below_alloc w0 (.cells #[.int .i64 0, .int .i64 0, .string ⟨#[]⟩, .int .i64 0, .int .i64 0, .string ⟨#[]⟩] 29)
    have r0 := (B1.cell (p := ⟨b0, off0, none⟩) (lt_of_cell p0)).trans p0
    have r1 := (B1.cell (p := ⟨b0, off0 + 1, none⟩) (lt_of_cell p1)).trans p1
    have r2 := (B1.cell (p := ⟨b0, off0 + 2, none⟩) (lt_of_cell p2)).trans p2
    have hn0 : 0 < n := by omega
    have hn1 : (0 : Int) < (n : Int) := by omega
    go_enter Try.func14, Try.ntmps14
    go_wp2
    rw [HW.out]
    go_region
    have ST : St w (w0.alloc (.cells #[.int .i64 xt, .int .i64 xn, .string xs, .int .i64 xt, .int .i64 xn, .string xs] 29)).drew ⟨⟨xt, xn, xs⟩, ⟨xt, xn, xs⟩⟩ := by
      have C := six_new w0 ⟨⟨xt, xn, xs⟩, ⟨xt, xn, xs⟩⟩ 29
      rw [HSZ.out] at C
      have B2 := below_alloc w0 (.cells #[.int .i64 xt, .int .i64 xn, .string xs, .int .i64 xt, .int .i64 xn, .string xs] 29)
      exact ⟨C.below (Below.refl _ _).drew, (Six.below (z := Zn.zero) R0 B2).below (Below.refl _ _).drew, below_then (below_then B0 B2 B0.size) (Below.refl _ _).drew (by have := B0.size; have := B2.size; omega)⟩
    generalize (w0.alloc (.cells #[.int .i64 xt, .int .i64 xn, .string xs, .int .i64 xt, .int .i64 xn, .string xs] 29)).drew = w1 at ST ⊢
    rw [HSZ.out]
    clear p0 p1 p2 r0 r1 r2 B0 B1 R0 HW HL0 HSZ hn0 hn1
    rw [← HZERO.out] at ST
    go_wp2
    go_loopw [19] (fun i wr => ∃ k : Nat, k ≤ n ∧ i = .int .i64 k ∧ St w wr (zoneP l k)) (fun i _ => n - (intOf i).toNat)
    case atStart => exact ⟨0, Nat.zero_le _, rfl, ST⟩
    case round =>
      obtain ⟨k, hk, rfl, hst⟩ := hrel
      clear ST HZERO
      by_cases hlt : k < n
      · obtain ⟨b, off, hbo, p0, p1, p2⟩ := HC.out k hlt
        simp only [Option.some.injEq, Addr.mk.injEq, and_true] at hbo
        obtain ⟨rfl, rfl⟩ := hbo
        have HL := Lib.hid (later3 p0 p1 p2)
        clear p0 p1 p2
        have HN := Lib.hid (HSTEP.out k hlt)
        generalize l.getD k V.zero = x at HL HN
        generalize zoneP l k = z at hst HN
        clear HSTEP HC
        have HX := Lib.hid (fun W => iLessVal x z.lo W)
        have HY := Lib.hid (fun W => iLessVal z.hi x W)
        cases hx : lessV x z.lo with
        | true =>
          rw [hx] at HN HX
          rw [if_pos rfl] at HN
          cases hy : lessV z.hi x with
          | true =>
            rw [hy] at HN HY
            rw [if_pos rfl] at HN
            obtain ⟨xt, xn, xs⟩ := x
            obtain ⟨⟨a1, b1, s1⟩, ⟨c1, d1, t1⟩⟩ := z
            clear hx hy
            simp only at HX HY
            obtain ⟨p0, p1, p2⟩ := HL.out wr hst.bel
            have S1 := hst.below (below_alloc wr (.cells #[.int .i64 xt, .int .i64 xn, .string xs] 27))
            have HVw1 := held_new wr ⟨xt, xn, xs⟩ 27
            simp only at p0 p1 p2 HVw1
            generalize hw1 : wr.alloc (.cells #[.int .i64 xt, .int .i64 xn, .string xs] 27) = w1 at S1 HVw1
            have HW1 := Lib.hid hw1
            generalize hqq : wr.heap.size = q at HVw1
            have HQQ := Lib.hid hqq
            have hq : w.heap.size + 1 < q := by
              rw [← hqq]
              exact lt_of_cell hst.cur.1.1
            have hq1 : ¬ (q = w.heap.size + 1) := by omega
            have hq2 : ¬ (w.heap.size + 1 = q) := by omega
            obtain ⟨⟨c0, c1, c2, c3, c4, c5⟩, _⟩ := (hst.below (below_alloc wr (.cells #[.int .i64 xt, .int .i64 xn, .string xs] 27))).cur
            simp only at c0 c1 c2 c3 c4 c5
            clear hst hw1 hqq hq
            go_wp2_with fail
            rw [HW1.out, HQQ.out]
            clear c0 c1 c2 c3 c4 c5 p0 p1 p2
            refine (HX.out _).mono ?_
            rintro e w2 ⟨rfl, b2⟩
            have S2 := S1.below b2
            have HVw2 := HVw1.below b2
            clear S1 HVw1 b2 HX
            have S3 := S2.lo ⟨xt, xn, xs⟩
            have HVw3 := ((HVw2.other (p := ⟨w.heap.size + 1, 0, none⟩) (fun e => hq2 e) (.int .i64 xt)).other (p := ⟨w.heap.size + 1, 1, none⟩) (fun e => hq2 e) (.int .i64 xn)).other (p := ⟨w.heap.size + 1, 2, none⟩) (fun e => hq2 e) (.string xs)
            obtain ⟨⟨c0, c1, c2, c3, c4, c5⟩, f0, f1, f2, f3, f4, f5⟩ := S2.cur
            obtain ⟨⟨p0, p1, p2⟩, _⟩ := HVw2
            simp only at p0 p1 p2 c0 c1 c2 c3 c4 c5
            simp only at S3
            generalize hw3 : (((w2).setCell ⟨w.heap.size + 1, 0, none⟩ (.int .i64 xt)).setCell ⟨w.heap.size + 1, 1, none⟩ (.int .i64 xn)).setCell ⟨w.heap.size + 1, 2, none⟩ (.string xs) = w3 at S3 HVw3
            have HW3 := Lib.hid hw3
            clear hw3
            go_wp2_with fail
            rw [HW3.out]
            clear c0 c1 c2 c3 c4 c5 f0 f1 f2 f3 f4 f5 p0 p1 p2
            refine (HY.out _).mono ?_
            rintro e w4 ⟨rfl, b2⟩
            have S4 := S3.below b2
            have HVw4 := HVw3.below b2
            clear S3 HVw3 b2 HY
            have S5 := S4.hi ⟨xt, xn, xs⟩
            obtain ⟨⟨c0, c1, c2, c3, c4, c5⟩, f0, f1, f2, f3, f4, f5⟩ := S4.cur
            obtain ⟨⟨p0, p1, p2⟩, _⟩ := HVw4
            simp only at p0 p1 p2 c0 c1 c2 c3 c4 c5
            simp only at S5
            go_wp2
            go_roundw
            case rel => exact ⟨k + 1, by omega, by go_num, by rw [HN.out]; exact S5⟩
            case measure => simp [intOf]; omega
          | false =>
            rw [hy] at HN HY
            rw [if_neg Bool.false_ne_true] at HN
            obtain ⟨xt, xn, xs⟩ := x
            obtain ⟨⟨a1, b1, s1⟩, ⟨c1, d1, t1⟩⟩ := z
            clear hx hy
            simp only at HX HY
            obtain ⟨p0, p1, p2⟩ := HL.out wr hst.bel
            have S1 := hst.below (below_alloc wr (.cells #[.int .i64 xt, .int .i64 xn, .string xs] 27))
            have HVw1 := held_new wr ⟨xt, xn, xs⟩ 27
            simp only at p0 p1 p2 HVw1
            generalize hw1 : wr.alloc (.cells #[.int .i64 xt, .int .i64 xn, .string xs] 27) = w1 at S1 HVw1
            have HW1 := Lib.hid hw1
            generalize hqq : wr.heap.size = q at HVw1
            have HQQ := Lib.hid hqq
            have hq : w.heap.size + 1 < q := by
              rw [← hqq]
              exact lt_of_cell hst.cur.1.1
            have hq1 : ¬ (q = w.heap.size + 1) := by omega
            have hq2 : ¬ (w.heap.size + 1 = q) := by omega
            obtain ⟨⟨c0, c1, c2, c3, c4, c5⟩, _⟩ := (hst.below (below_alloc wr (.cells #[.int .i64 xt, .int .i64 xn, .string xs] 27))).cur
            simp only at c0 c1 c2 c3 c4 c5
            clear hst hw1 hqq hq
            go_wp2_with fail
            rw [HW1.out, HQQ.out]
            clear c0 c1 c2 c3 c4 c5 p0 p1 p2
            refine (HX.out _).mono ?_
            rintro e w2 ⟨rfl, b2⟩
            have S2 := S1.below b2
            have HVw2 := HVw1.below b2
            clear S1 HVw1 b2 HX
            have S3 := S2.lo ⟨xt, xn, xs⟩
            have HVw3 := ((HVw2.other (p := ⟨w.heap.size + 1, 0, none⟩) (fun e => hq2 e) (.int .i64 xt)).other (p := ⟨w.heap.size + 1, 1, none⟩) (fun e => hq2 e) (.int .i64 xn)).other (p := ⟨w.heap.size + 1, 2, none⟩) (fun e => hq2 e) (.string xs)
            obtain ⟨⟨c0, c1, c2, c3, c4, c5⟩, f0, f1, f2, f3, f4, f5⟩ := S2.cur
            obtain ⟨⟨p0, p1, p2⟩, _⟩ := HVw2
            simp only at p0 p1 p2 c0 c1 c2 c3 c4 c5
            simp only at S3
            generalize hw3 : (((w2).setCell ⟨w.heap.size + 1, 0, none⟩ (.int .i64 xt)).setCell ⟨w.heap.size + 1, 1, none⟩ (.int .i64 xn)).setCell ⟨w.heap.size + 1, 2, none⟩ (.string xs) = w3 at S3 HVw3
            have HW3 := Lib.hid hw3
            clear hw3
            go_wp2_with fail
            rw [HW3.out]
            clear c0 c1 c2 c3 c4 c5 f0 f1 f2 f3 f4 f5 p0 p1 p2
            refine (HY.out _).mono ?_
            rintro e w4 ⟨rfl, b2⟩
            have S4 := S3.below b2
            have HVw4 := HVw3.below b2
            clear S3 HVw3 b2 HY
            have S5 := S4
            clear S4
            go_wp2
            go_roundw
            case rel => exact ⟨k + 1, by omega, by go_num, by rw [HN.out]; exact S5⟩
            case measure => simp [intOf]; omega
        | false =>
          rw [hx] at HN HX
          rw [if_neg Bool.false_ne_true] at HN
          cases hy : lessV z.hi x with
          | true =>
            rw [hy] at HN HY
            rw [if_pos rfl] at HN
            obtain ⟨xt, xn, xs⟩ := x
            obtain ⟨⟨a1, b1, s1⟩, ⟨c1, d1, t1⟩⟩ := z
            clear hx hy
            simp only at HX HY
            obtain ⟨p0, p1, p2⟩ := HL.out wr hst.bel
            have S1 := hst.below (below_alloc wr (.cells #[.int .i64 xt, .int .i64 xn, .string xs] 27))
            have HVw1 := held_new wr ⟨xt, xn, xs⟩ 27
            simp only at p0 p1 p2 HVw1
            generalize hw1 : wr.alloc (.cells #[.int .i64 xt, .int .i64 xn, .string xs] 27) = w1 at S1 HVw1
            have HW1 := Lib.hid hw1
            generalize hqq : wr.heap.size = q at HVw1
            have HQQ := Lib.hid hqq
            have hq : w.heap.size + 1 < q := by
              rw [← hqq]
              exact lt_of_cell hst.cur.1.1
            have hq1 : ¬ (q = w.heap.size + 1) := by omega
            have hq2 : ¬ (w.heap.size + 1 = q) := by omega
            obtain ⟨⟨c0, c1, c2, c3, c4, c5⟩, _⟩ := (hst.below (below_alloc wr (.cells #[.int .i64 xt, .int .i64 xn, .string xs] 27))).cur
            simp only at c0 c1 c2 c3 c4 c5
            clear hst hw1 hqq hq
            go_wp2_with fail
            rw [HW1.out, HQQ.out]
            clear c0 c1 c2 c3 c4 c5 p0 p1 p2
            refine (HX.out _).mono ?_
            rintro e w2 ⟨rfl, b2⟩
            have S2 := S1.below b2
            have HVw2 := HVw1.below b2
            clear S1 HVw1 b2 HX
            have HVk := HVw2
            obtain ⟨⟨c0, c1, c2, c3, c4, c5⟩, f0, f1, f2, f3, f4, f5⟩ := S2.cur
            obtain ⟨⟨p0, p1, p2⟩, _⟩ := HVw2
            simp only at p0 p1 p2 c0 c1 c2 c3 c4 c5
            go_wp2_with fail
            clear c0 c1 c2 c3 c4 c5 f0 f1 f2 f3 f4 f5 p0 p1 p2
            have HVw2 := HVk
            clear HVk
            refine (HY.out _).mono ?_
            rintro e w4 ⟨rfl, b2⟩
            have S4 := S2.below b2
            have HVw4 := HVw2.below b2
            clear S2 HVw2 b2 HY
            have S5 := S4.hi ⟨xt, xn, xs⟩
            obtain ⟨⟨c0, c1, c2, c3, c4, c5⟩, f0, f1, f2, f3, f4, f5⟩ := S4.cur
            obtain ⟨⟨p0, p1, p2⟩, _⟩ := HVw4
            simp only at p0 p1 p2 c0 c1 c2 c3 c4 c5
            simp only at S5
            go_wp2
            go_roundw
            case rel => exact ⟨k + 1, by omega, by go_num, by rw [HN.out]; exact S5⟩
            case measure => simp [intOf]; omega
          | false =>
            rw [hy] at HN HY
            rw [if_neg Bool.false_ne_true] at HN
            obtain ⟨xt, xn, xs⟩ := x
            obtain ⟨⟨a1, b1, s1⟩, ⟨c1, d1, t1⟩⟩ := z
            clear hx hy
            simp only at HX HY
            obtain ⟨p0, p1, p2⟩ := HL.out wr hst.bel
            have S1 := hst.below (below_alloc wr (.cells #[.int .i64 xt, .int .i64 xn, .string xs] 27))
            have HVw1 := held_new wr ⟨xt, xn, xs⟩ 27
            simp only at p0 p1 p2 HVw1
            generalize hw1 : wr.alloc (.cells #[.int .i64 xt, .int .i64 xn, .string xs] 27) = w1 at S1 HVw1
            have HW1 := Lib.hid hw1
            generalize hqq : wr.heap.size = q at HVw1
            have HQQ := Lib.hid hqq
            have hq : w.heap.size + 1 < q := by
              rw [← hqq]
              exact lt_of_cell hst.cur.1.1
            have hq1 : ¬ (q = w.heap.size + 1) := by omega
            have hq2 : ¬ (w.heap.size + 1 = q) := by omega
            obtain ⟨⟨c0, c1, c2, c3, c4, c5⟩, _⟩ := (hst.below (below_alloc wr (.cells #[.int .i64 xt, .int .i64 xn, .string xs] 27))).cur
            simp only at c0 c1 c2 c3 c4 c5
            clear hst hw1 hqq hq
            go_wp2_with fail
            rw [HW1.out, HQQ.out]
            clear c0 c1 c2 c3 c4 c5 p0 p1 p2
            refine (HX.out _).mono ?_
            rintro e w2 ⟨rfl, b2⟩
            have S2 := S1.below b2
            have HVw2 := HVw1.below b2
            clear S1 HVw1 b2 HX
            have HVk := HVw2
            obtain ⟨⟨c0, c1, c2, c3, c4, c5⟩, f0, f1, f2, f3, f4, f5⟩ := S2.cur
            obtain ⟨⟨p0, p1, p2⟩, _⟩ := HVw2
            simp only at p0 p1 p2 c0 c1 c2 c3 c4 c5
            go_wp2_with fail
            clear c0 c1 c2 c3 c4 c5 f0 f1 f2 f3 f4 f5 p0 p1 p2
            have HVw2 := HVk
            clear HVk
            refine (HY.out _).mono ?_
            rintro e w4 ⟨rfl, b2⟩
            have S4 := S2.below b2
            have HVw4 := HVw2.below b2
            clear S2 HVw2 b2 HY
            have S5 := S4
            clear S4
            go_wp2
            go_roundw
            case rel => exact ⟨k + 1, by omega, by go_num, by rw [HN.out]; exact S5⟩
            case measure => simp [intOf]; omega
      · obtain rfl : k = n := by omega
        generalize hzz : zoneP l k = z at hst
        have HZZ := Lib.hid hzz
        clear hzz
        obtain ⟨⟨a1, b1, s1⟩, ⟨c1, d1, t1⟩⟩ := z
        obtain ⟨⟨⟨q0, q1, q2, q3, q4, q5⟩, _⟩, ⟨⟨r0, r1, r2, r3, r4, r5⟩, f0, f1, f2, f3, f4, f5⟩, B⟩ := hst
        simp only [Zn.zero, V.zero] at q0 q1 q2 q3 q4 q5 r0 r1 r2 r3 r4 r5
        go_wp2
        refine bodyPost_ret (v := .agg #[.int .i64 a1, .int .i64 b1, .string s1, .int .i64 c1, .int .i64 d1, .string t1]) (by simp [results, Try.results14, go_sem, *]) rfl ⟨by rw [HZZ.out], ?_⟩
        exact ((((((B.setCell (by simp) _).setCell (by simp) _).setCell (by simp) _).setCell (by simp) _).setCell (by simp) _).setCell (by simp) _)

end Go.Proofs.Ytcokmjdehclhkaa

/- Chapter 10's exact laws but MayHold1's, walked (written by mk_Law10.py). -/
namespace Go.Proofs.Ytcokmjdehclhkaa
open Go.RowKit

theorem lawOpposite (op : Int) (w : World) : Calls Try.prog 8 #[.int .i64 op] w fun e w' => e = .returned (.bool true) ∧ Below w.heap.size w w' := by
  have HS := Lib.hid (fun W => sOpposite op W)
  have HI := Lib.hid (fun W => iOpposite op W)
  have hq : (oppI op != oppI op) = false := by simp
  generalize oppI op = z at HS HI hq
  go_enter Try.func8, Try.ntmps8
  go_wp2_with fail
  refine (HS.out _).mono ?_
  rintro e w1 ⟨rfl, b1⟩
  go_wp2_with fail
  refine (HI.out _).mono ?_
  rintro e w2 ⟨rfl, b2⟩
  have B2 := below_then b1 b2 b1.size
  go_wp2
  go_ret
  exact ⟨rfl, B2⟩

theorem lawOpText (op : Int) (w : World) : Calls Try.prog 9 #[.int .i64 op] w fun e w' => e = .returned (.bool true) ∧ Below w.heap.size w w' := by
  have HS := Lib.hid (fun W => sOpText op W)
  have HI := Lib.hid (fun W => iOpText op W)
  have hq : ((opT op).toList == (opT op).toList) = true := by simp
  generalize opT op = z at HS HI hq
  go_enter Try.func9, Try.ntmps9
  go_wp2_with fail
  refine (HS.out _).mono ?_
  rintro e w1 ⟨rfl, b1⟩
  go_wp2_with fail
  refine (HI.out _).mono ?_
  rintro e w2 ⟨rfl, b2⟩
  have B2 := below_then b1 b2 b1.size
  go_wp2
  go_ret
  exact ⟨rfl, B2⟩

set_option maxHeartbeats 4000000 in
theorem lawHolds1 (op : Int) (x y : V) (w : World) (hs : x.s.size ≤ maxLen) (ks : y.s.size ≤ maxLen) : Calls Try.prog 6 #[.int .i64 op, x.agg, y.agg] w fun e w' => e = .returned (.bool true) ∧ Below w.heap.size w w' := by
  have HSZ := Lib.hid (fun W => szVal x 1048576 W (by omega) (by omega) hs)
  have HSU : Hid (∀ z W, 0 ≤ z → z ≤ 1048576 → Calls Try.prog 32 #[y.agg, .int .i64 z] W fun e w' => ∃ r, e = .returned (.int .i64 r) ∧ Below W.heap.size W w') := fun z W h0 h1 => (szVal y z W h0 h1 ks).mono fun e w' h => ⟨_, h.1, h.2⟩
  have HS := Lib.hid (fun W => sHolds1 op x y W)
  have HI := Lib.hid (fun W => iHolds1 op x y W)
  have hqq : ∀ b : Bool, (b != b) = false := fun b => by simp
  have hz1 : szV x 1048576 ≤ 1048576 := szV_le (by omega)
  generalize holdsB op x y = r at HS HI
  generalize szV x 1048576 = z at HSZ hz1
  have hqr := hqq r
  obtain ⟨t1, n1, s1⟩ := x
  obtain ⟨t2, n2, s2⟩ := y
  have B0 := below_alloc2 w (.cells #[.int .i64 t1, .int .i64 n1, .string s1] 48) (.cells #[.int .i64 t2, .int .i64 n2, .string s2] 48)
  have C0 := (held_new w ⟨t1, n1, s1⟩ 48).below (below_alloc _ (.cells #[.int .i64 t2, .int .i64 n2, .string s2] 48))
  have C1 := held_new (w.alloc (.cells #[.int .i64 t1, .int .i64 n1, .string s1] 48)) ⟨t2, n2, s2⟩ 48
  rw [World.size_alloc] at C1
  clear hs ks hqq
  generalize hw0 : ((w.alloc (.cells #[.int .i64 t1, .int .i64 n1, .string s1] 48)).alloc (.cells #[.int .i64 t2, .int .i64 n2, .string s2] 48)) = w0 at B0 C0 C1
  have HW := Lib.hid hw0
  clear hw0
  go_enter Try.func6, Try.ntmps6
  go_wp2_with fail
  refine (HSZ.out _).mono ?_
  rintro e w1 ⟨rfl, b1⟩
  have B1 : Below w0.heap.size w0 w1 := by
    have := b1
    rw [← HW.out]
    exact this
  clear b1
  by_cases hz : z < 0
  · go_wp2
    go_ret
    exact ⟨rfl, B0.trans (B1.mono B0.size)⟩
  · obtain ⟨⟨p0, p1, p2⟩, _⟩ := C1.below B1
    simp only at p0 p1 p2
    go_wp2_with fail
    refine (HSU.out z _ (by omega) hz1).mono ?_
    rintro e w2 ⟨r2, rfl, b2⟩
    have B2 := below_then B1 b2 B1.size
    clear b2 p0 p1 p2 B1
    by_cases hz2 : r2 < 0
    · go_wp2
      go_ret
      exact ⟨rfl, B0.trans (B2.mono B0.size)⟩
    · have HC : Hid (∀ W, Below w0.heap.size w0 W → W.cell? ⟨w.heap.size, 0, none⟩ = some (.int .i64 t1) ∧ W.cell? ⟨w.heap.size, 1, none⟩ = some (.int .i64 n1) ∧ W.cell? ⟨w.heap.size, 2, none⟩ = some (.string s1) ∧ W.cell? ⟨w.heap.size + 1, 0, none⟩ = some (.int .i64 t2) ∧ W.cell? ⟨w.heap.size + 1, 1, none⟩ = some (.int .i64 n2) ∧ W.cell? ⟨w.heap.size + 1, 2, none⟩ = some (.string s2)) := fun W h =>
        ⟨(C0.below h).1.1, (C0.below h).1.2.1, (C0.below h).1.2.2, (C1.below h).1.1, (C1.below h).1.2.1, (C1.below h).1.2.2⟩
      have HTA := Lib.hid (fun (t : Int) (n : Int) (s : ByteArray) W => toVal ⟨t, n, s⟩ W)
      skip
      have hB := B2
      have hB' := B2.drew
      clear C0 C1 B2 HSZ HSU
      go_wp2_with fail
      go_region_held3 (fun W => W.cell? ⟨w.heap.size, 0, none⟩ = some (.int .i64 t1) ∧ W.cell? ⟨w.heap.size, 1, none⟩ = some (.int .i64 n1) ∧ W.cell? ⟨w.heap.size, 2, none⟩ = some (.string s1) ∧ W.cell? ⟨w.heap.size + 1, 0, none⟩ = some (.int .i64 t2) ∧ W.cell? ⟨w.heap.size + 1, 1, none⟩ = some (.int .i64 n2) ∧ W.cell? ⟨w.heap.size + 1, 2, none⟩ = some (.string s2)) (first | exact HC.out _ hB' | exact HC.out _ hB) (first | (go_at_call 33; (with_reducible refine (HTA.out _ _ _ _).mono ?_); rintro e w3 ⟨rfl, hb⟩; replace hB' := below_then hB' hb hB'.size) | (go_at_call 27; (with_reducible refine (HS.out _).mono ?_); rintro e w3 ⟨rfl, hb⟩; replace hB' := below_then hB' hb hB'.size))
      all_goals
        clear hB
        have hB := hB'
        replace hB' := hB'.drew
        go_wp2_with fail
        go_region_held3 (fun W => W.cell? ⟨w.heap.size, 0, none⟩ = some (.int .i64 t1) ∧ W.cell? ⟨w.heap.size, 1, none⟩ = some (.int .i64 n1) ∧ W.cell? ⟨w.heap.size, 2, none⟩ = some (.string s1) ∧ W.cell? ⟨w.heap.size + 1, 0, none⟩ = some (.int .i64 t2) ∧ W.cell? ⟨w.heap.size + 1, 1, none⟩ = some (.int .i64 n2) ∧ W.cell? ⟨w.heap.size + 1, 2, none⟩ = some (.string s2)) (first | exact HC.out _ hB' | exact HC.out _ hB) (first | (go_at_call 33; (with_reducible refine (HTA.out _ _ _ _).mono ?_); rintro e w3 ⟨rfl, hb⟩; replace hB' := below_then hB' hb hB'.size) | (go_at_call 21; (with_reducible refine (HI.out _).mono ?_); rintro e w3 ⟨rfl, hb⟩; replace hB' := below_then hB' hb hB'.size))
        all_goals
          go_wp2
          go_ret
          exact ⟨rfl, B0.trans (hB'.mono B0.size)⟩

set_option maxHeartbeats 4000000 in
theorem lawInZone (x : Zn) (y : V) (w : World) (hs : x.lo.s.size ≤ maxLen) (hs2 : x.hi.s.size ≤ maxLen) (ks : y.s.size ≤ maxLen) : Calls Try.prog 10 #[x.agg, y.agg] w fun e w' => e = .returned (.bool true) ∧ Below w.heap.size w w' := by
  have HSZ := Lib.hid (fun W => szZone x 1048576 W (by omega) (by omega) hs hs2)
  have HSU : Hid (∀ z W, 0 ≤ z → z ≤ 1048576 → Calls Try.prog 32 #[y.agg, .int .i64 z] W fun e w' => ∃ r, e = .returned (.int .i64 r) ∧ Below W.heap.size W w') := fun z W h0 h1 => (szVal y z W h0 h1 ks).mono fun e w' h => ⟨_, h.1, h.2⟩
  have HS := Lib.hid (fun W => sInZone x y W)
  have HI := Lib.hid (fun W => iInZone x y W)
  have hqq : ∀ b : Bool, (b != b) = false := fun b => by simp
  have hz1 : szZ x 1048576 ≤ 1048576 := szZ_le (by omega)
  generalize inZB x y = r at HS HI
  generalize szZ x 1048576 = z at HSZ hz1
  have hqr := hqq r
  obtain ⟨⟨a, b, s⟩, ⟨c, d, t⟩⟩ := x
  obtain ⟨t2, n2, s2⟩ := y
  have B0 := below_alloc2 w (.cells #[.int .i64 a, .int .i64 b, .string s, .int .i64 c, .int .i64 d, .string t] 53) (.cells #[.int .i64 t2, .int .i64 n2, .string s2] 48)
  have C0 := (six_new w ⟨⟨a, b, s⟩, ⟨c, d, t⟩⟩ 53).below (below_alloc _ (.cells #[.int .i64 t2, .int .i64 n2, .string s2] 48))
  have C1 := held_new (w.alloc (.cells #[.int .i64 a, .int .i64 b, .string s, .int .i64 c, .int .i64 d, .string t] 53)) ⟨t2, n2, s2⟩ 48
  rw [World.size_alloc] at C1
  clear hs hs2 ks hqq
  generalize hw0 : ((w.alloc (.cells #[.int .i64 a, .int .i64 b, .string s, .int .i64 c, .int .i64 d, .string t] 53)).alloc (.cells #[.int .i64 t2, .int .i64 n2, .string s2] 48)) = w0 at B0 C0 C1
  have HW := Lib.hid hw0
  clear hw0
  go_enter Try.func10, Try.ntmps10
  go_wp2_with fail
  refine (HSZ.out _).mono ?_
  rintro e w1 ⟨rfl, b1⟩
  have B1 : Below w0.heap.size w0 w1 := by
    have := b1
    rw [← HW.out]
    exact this
  clear b1
  by_cases hz : z < 0
  · go_wp2
    go_ret
    exact ⟨rfl, B0.trans (B1.mono B0.size)⟩
  · obtain ⟨⟨p0, p1, p2⟩, _⟩ := C1.below B1
    simp only at p0 p1 p2
    go_wp2_with fail
    refine (HSU.out z _ (by omega) hz1).mono ?_
    rintro e w2 ⟨r2, rfl, b2⟩
    have B2 := below_then B1 b2 B1.size
    clear b2 p0 p1 p2 B1
    by_cases hz2 : r2 < 0
    · go_wp2
      go_ret
      exact ⟨rfl, B0.trans (B2.mono B0.size)⟩
    · have HC : Hid (∀ W, Below w0.heap.size w0 W → W.cell? ⟨w.heap.size, 0, none⟩ = some (.int .i64 a) ∧ W.cell? ⟨w.heap.size, 1, none⟩ = some (.int .i64 b) ∧ W.cell? ⟨w.heap.size, 2, none⟩ = some (.string s) ∧ W.cell? ⟨w.heap.size, 3, none⟩ = some (.int .i64 c) ∧ W.cell? ⟨w.heap.size, 4, none⟩ = some (.int .i64 d) ∧ W.cell? ⟨w.heap.size, 5, none⟩ = some (.string t) ∧ W.cell? ⟨w.heap.size + 1, 0, none⟩ = some (.int .i64 t2) ∧ W.cell? ⟨w.heap.size + 1, 1, none⟩ = some (.int .i64 n2) ∧ W.cell? ⟨w.heap.size + 1, 2, none⟩ = some (.string s2)) := fun W h =>
        ⟨(C0.below h).1.1, (C0.below h).1.2.1, (C0.below h).1.2.2.1, (C0.below h).1.2.2.2.1, (C0.below h).1.2.2.2.2.1, (C0.below h).1.2.2.2.2.2, (C1.below h).1.1, (C1.below h).1.2.1, (C1.below h).1.2.2⟩
      have HTA := Lib.hid (fun (t : Int) (n : Int) (s : ByteArray) W => toVal ⟨t, n, s⟩ W)
      have HTZ := Lib.hid (fun (a b : Int) (s : ByteArray) (c d : Int) (t : ByteArray) W => toZone ⟨⟨a, b, s⟩, ⟨c, d, t⟩⟩ W)
      have hB := B2
      have hB' := B2.drew
      clear C0 C1 B2 HSZ HSU
      go_wp2_with fail
      go_region_held3 (fun W => W.cell? ⟨w.heap.size, 0, none⟩ = some (.int .i64 a) ∧ W.cell? ⟨w.heap.size, 1, none⟩ = some (.int .i64 b) ∧ W.cell? ⟨w.heap.size, 2, none⟩ = some (.string s) ∧ W.cell? ⟨w.heap.size, 3, none⟩ = some (.int .i64 c) ∧ W.cell? ⟨w.heap.size, 4, none⟩ = some (.int .i64 d) ∧ W.cell? ⟨w.heap.size, 5, none⟩ = some (.string t) ∧ W.cell? ⟨w.heap.size + 1, 0, none⟩ = some (.int .i64 t2) ∧ W.cell? ⟨w.heap.size + 1, 1, none⟩ = some (.int .i64 n2) ∧ W.cell? ⟨w.heap.size + 1, 2, none⟩ = some (.string s2)) (first | exact HC.out _ hB' | exact HC.out _ hB) (first | (go_at_call 35; (with_reducible refine (HTZ.out _ _ _ _ _ _ _).mono ?_); rintro e w3 ⟨rfl, hb⟩; replace hB' := below_then hB' hb hB'.size) | (go_at_call 33; (with_reducible refine (HTA.out _ _ _ _).mono ?_); rintro e w3 ⟨rfl, hb⟩; replace hB' := below_then hB' hb hB'.size) | (go_at_call 20; (with_reducible refine (HS.out _).mono ?_); rintro e w3 ⟨rfl, hb⟩; replace hB' := below_then hB' hb hB'.size))
      all_goals
        clear hB
        have hB := hB'
        replace hB' := hB'.drew
        go_wp2_with fail
        go_region_held3 (fun W => W.cell? ⟨w.heap.size, 0, none⟩ = some (.int .i64 a) ∧ W.cell? ⟨w.heap.size, 1, none⟩ = some (.int .i64 b) ∧ W.cell? ⟨w.heap.size, 2, none⟩ = some (.string s) ∧ W.cell? ⟨w.heap.size, 3, none⟩ = some (.int .i64 c) ∧ W.cell? ⟨w.heap.size, 4, none⟩ = some (.int .i64 d) ∧ W.cell? ⟨w.heap.size, 5, none⟩ = some (.string t) ∧ W.cell? ⟨w.heap.size + 1, 0, none⟩ = some (.int .i64 t2) ∧ W.cell? ⟨w.heap.size + 1, 1, none⟩ = some (.int .i64 n2) ∧ W.cell? ⟨w.heap.size + 1, 2, none⟩ = some (.string s2)) (first | exact HC.out _ hB' | exact HC.out _ hB) (first | (go_at_call 35; (with_reducible refine (HTZ.out _ _ _ _ _ _ _).mono ?_); rintro e w3 ⟨rfl, hb⟩; replace hB' := below_then hB' hb hB'.size) | (go_at_call 33; (with_reducible refine (HTA.out _ _ _ _).mono ?_); rintro e w3 ⟨rfl, hb⟩; replace hB' := below_then hB' hb hB'.size) | (go_at_call 19; (with_reducible refine (HI.out _).mono ?_); rintro e w3 ⟨rfl, hb⟩; replace hB' := below_then hB' hb hB'.size))
        all_goals
          go_wp2
          go_ret
          exact ⟨rfl, B0.trans (hB'.mono B0.size)⟩

set_option maxHeartbeats 2000000 in
theorem lawZoneOf (b0 : Option Addr) (lenb capb : Nat) (l : List V) (w : World) (hlb : lenb ≤ maxLen) (hsb : ∀ v ∈ l, v.s.size ≤ maxLen) (hzb : l.length = lenb) (hbB : ArgS 3 w b0 lenb (vals l)) :
    Calls Try.prog 5 #[.slice b0 lenb capb] w fun e w' => e = .returned (.bool true) ∧ Below w.heap.size w w' := by
  have HL := Lib.hid hzb
  have HSS := Lib.hid hsb
  have HS := Lib.hid (fun v W (o : Rd 3 W v lenb (vals l)) => sZoneOf v l W (by rw [hzb]; exact o))
  have HI := Lib.hid (fun v W (o : Rd 3 W v lenb (vals l)) => iZoneOf v l W (by rw [hzb]; exact o))
  generalize zoneL l = z at HS HI
  have HE := Lib.hid (fun W => eqZone z W)
  obtain ⟨⟨a, b, s⟩, ⟨c, d, t⟩⟩ := z
  clear hsb hzb
  go_enter Try.func5, Try.ntmps5
  have bt := Below.refl w.heap.size w
  go_wp2_with fail
  refine (szValS b0 lenb capb l 1048576 w (by omega) (by omega) hlb HSS.out HL.out hbB).mono ?_
  rintro e w1 ⟨rb, rfl, hrb, hb⟩
  replace bt := below_then bt hb (by omega)
  clear hb
  by_cases hnb : rb < 0
  · go_wp2
    go_ret
    exact ⟨rfl, bt⟩
  have hbb : lenb ≤ 1048576 := by omega
  clear hrb
  go_wp2_with fail
  refine (toValS b0 lenb capb l w1 (by omega) HL.out (hbB.below bt)).mono ?_
  rintro e w2 ⟨v2, rfl, o2, b2⟩
  have B2 := below_then bt b2 bt.size
  have H2 := Lib.hid (HS.out v2 w2 o2.rd)
  clear bt b2 o2 HS
  go_wp2_with fail
  refine H2.out.mono ?_
  rintro e w3 ⟨rfl, b3⟩
  have B3 := below_then B2 b3 B2.size
  have C4 := six_new w3 ⟨⟨a, b, s⟩, ⟨c, d, t⟩⟩ 29
  have B4 := below_then B3 (below_alloc w3 (.cells #[.int .i64 a, .int .i64 b, .string s, .int .i64 c, .int .i64 d, .string t] 29)) B3.size
  simp only at C4
  generalize hw4 : w3.alloc (.cells #[.int .i64 a, .int .i64 b, .string s, .int .i64 c, .int .i64 d, .string t] 29) = w4 at C4 B4
  have HW4 := Lib.hid hw4
  clear hw4 B2 b3 B3 H2
  go_wp2_with fail
  rw [HW4.out]
  refine (toValS b0 lenb capb l w4 (by omega) HL.out (hbB.below B4)).mono ?_
  rintro e w5 ⟨v5, rfl, o5, b5⟩
  have B5 := below_then B4 b5 B4.size
  have C5 := C4.below b5
  have H5 := Lib.hid (HI.out v5 w5 o5.rd)
  clear C4 b5 B4 HI
  go_wp2_with fail
  refine H5.out.mono ?_
  rintro e w6 ⟨rfl, b6⟩
  have B6 := below_then B5 b6 B5.size
  have C6 := C5.below b6
  have O6 := (o5.below b6 (Nat.le_refl _)).wide b6.size
  have D7 := six_new w6 ⟨⟨a, b, s⟩, ⟨c, d, t⟩⟩ 29
  have A7 := below_alloc w6 (.cells #[.int .i64 a, .int .i64 b, .string s, .int .i64 c, .int .i64 d, .string t] 29)
  have B7 := below_then B6 A7 B6.size
  have C7 := C6.below A7
  have O7 := (O6.below A7 (Nat.le_refl _)).wide A7.size
  simp only at D7
  obtain ⟨⟨c0, c1, c2, c3, c4, c5⟩, _⟩ := C7
  obtain ⟨⟨d0, d1, d2, d3, d4, d5⟩, _⟩ := D7
  simp only at c0 c1 c2 c3 c4 c5 d0 d1 d2 d3 d4 d5
  generalize hw7 : w6.alloc (.cells #[.int .i64 a, .int .i64 b, .string s, .int .i64 c, .int .i64 d, .string t] 29) = w7 at A7 B7 O7
  have HW7 := Lib.hid hw7
  clear hw7 C5 C6 O6 o5 B5 b6 B6 H5 A7
  obtain ⟨b8, c8, hv8⟩ : ∃ g cap, v5 = .slice (some ⟨g, 0, none⟩) lenb cap := by
    obtain ⟨g, cap, e, _⟩ := O7
    exact ⟨g, cap, e⟩
  subst hv8
  go_wp2_with fail
  rw [HW7.out]
  refine (HE.out _).mono ?_
  rintro e w8 ⟨rfl, b9⟩
  have B8 := below_then B7 b9 B7.size
  have O8 := (O7.below b9 (Nat.le_refl _)).wide b9.size
  clear c0 c1 c2 c3 c4 c5 d0 d1 d2 d3 d4 d5 O7 B7 b9 HE
  go_wp2_with fail
  refine (toValS b0 lenb capb l w8 (by omega) HL.out (hbB.below B8)).mono ?_
  rintro e w9 ⟨v9, rfl, o9, b10⟩
  have B9 := below_then B8 b10 B8.size
  have O9 := (O8.below b10 (Nat.le_refl _)).wide b10.size
  have HQ := Lib.hid (eqValS _ v9 lenb l w9 HL.out O9.at o9.at)
  clear O8 b10 B8 o9 O9
  go_wp2_with fail
  refine HQ.out.mono ?_
  rintro e w10 ⟨rfl, b11⟩
  have B10 := below_then B9 b11 B9.size
  clear b11 B9 HQ
  go_wp2
  go_ret
  exact ⟨rfl, B10⟩

end Go.Proofs.Ytcokmjdehclhkaa

/- The exact law of MayHold1, walked (written by mk_Law10.py). -/
namespace Go.Proofs.Ytcokmjdehclhkaa
open Go.RowKit

set_option maxHeartbeats 4000000 in
theorem lawMayHold1 (op : Int) (x : Zn) (y : V) (w : World) (hs : x.lo.s.size ≤ maxLen) (hs2 : x.hi.s.size ≤ maxLen) (ks : y.s.size ≤ maxLen) : Calls Try.prog 7 #[.int .i64 op, x.agg, y.agg] w fun e w' => e = .returned (.bool true) ∧ Below w.heap.size w w' := by
  have HSZ := Lib.hid (fun W => szZone x 1048576 W (by omega) (by omega) hs hs2)
  have HSU : Hid (∀ z W, 0 ≤ z → z ≤ 1048576 → Calls Try.prog 32 #[y.agg, .int .i64 z] W fun e w' => ∃ r, e = .returned (.int .i64 r) ∧ Below W.heap.size W w') := fun z W h0 h1 => (szVal y z W h0 h1 ks).mono fun e w' h => ⟨_, h.1, h.2⟩
  have HS := Lib.hid (fun W => sMayHold1 op x y W)
  have HI := Lib.hid (fun W => iMayHold1 op x y W)
  have hqq : ∀ b : Bool, (b != b) = false := fun b => by simp
  have hz1 : szZ x 1048576 ≤ 1048576 := szZ_le (by omega)
  generalize mayB op x y = r at HS HI
  generalize szZ x 1048576 = z at HSZ hz1
  have hqr := hqq r
  obtain ⟨⟨a, b, s⟩, ⟨c, d, t⟩⟩ := x
  obtain ⟨t2, n2, s2⟩ := y
  have B0 := below_alloc2 w (.cells #[.int .i64 a, .int .i64 b, .string s, .int .i64 c, .int .i64 d, .string t] 53) (.cells #[.int .i64 t2, .int .i64 n2, .string s2] 48)
  have C0 := (six_new w ⟨⟨a, b, s⟩, ⟨c, d, t⟩⟩ 53).below (below_alloc _ (.cells #[.int .i64 t2, .int .i64 n2, .string s2] 48))
  have C1 := held_new (w.alloc (.cells #[.int .i64 a, .int .i64 b, .string s, .int .i64 c, .int .i64 d, .string t] 53)) ⟨t2, n2, s2⟩ 48
  rw [World.size_alloc] at C1
  clear hs hs2 ks hqq
  generalize hw0 : ((w.alloc (.cells #[.int .i64 a, .int .i64 b, .string s, .int .i64 c, .int .i64 d, .string t] 53)).alloc (.cells #[.int .i64 t2, .int .i64 n2, .string s2] 48)) = w0 at B0 C0 C1
  have HW := Lib.hid hw0
  clear hw0
  go_enter Try.func7, Try.ntmps7
  go_wp2_with fail
  refine (HSZ.out _).mono ?_
  rintro e w1 ⟨rfl, b1⟩
  have B1 : Below w0.heap.size w0 w1 := by
    have := b1
    rw [← HW.out]
    exact this
  clear b1
  by_cases hz : z < 0
  · go_wp2
    go_ret
    exact ⟨rfl, B0.trans (B1.mono B0.size)⟩
  · obtain ⟨⟨p0, p1, p2⟩, _⟩ := C1.below B1
    simp only at p0 p1 p2
    go_wp2_with fail
    refine (HSU.out z _ (by omega) hz1).mono ?_
    rintro e w2 ⟨r2, rfl, b2⟩
    have B2 := below_then B1 b2 B1.size
    clear b2 p0 p1 p2 B1
    by_cases hz2 : r2 < 0
    · go_wp2
      go_ret
      exact ⟨rfl, B0.trans (B2.mono B0.size)⟩
    · have HC : Hid (∀ W, Below w0.heap.size w0 W → W.cell? ⟨w.heap.size, 0, none⟩ = some (.int .i64 a) ∧ W.cell? ⟨w.heap.size, 1, none⟩ = some (.int .i64 b) ∧ W.cell? ⟨w.heap.size, 2, none⟩ = some (.string s) ∧ W.cell? ⟨w.heap.size, 3, none⟩ = some (.int .i64 c) ∧ W.cell? ⟨w.heap.size, 4, none⟩ = some (.int .i64 d) ∧ W.cell? ⟨w.heap.size, 5, none⟩ = some (.string t) ∧ W.cell? ⟨w.heap.size + 1, 0, none⟩ = some (.int .i64 t2) ∧ W.cell? ⟨w.heap.size + 1, 1, none⟩ = some (.int .i64 n2) ∧ W.cell? ⟨w.heap.size + 1, 2, none⟩ = some (.string s2)) := fun W h =>
        ⟨(C0.below h).1.1, (C0.below h).1.2.1, (C0.below h).1.2.2.1, (C0.below h).1.2.2.2.1, (C0.below h).1.2.2.2.2.1, (C0.below h).1.2.2.2.2.2, (C1.below h).1.1, (C1.below h).1.2.1, (C1.below h).1.2.2⟩
      have HTA := Lib.hid (fun (t : Int) (n : Int) (s : ByteArray) W => toVal ⟨t, n, s⟩ W)
      have HTZ := Lib.hid (fun (a b : Int) (s : ByteArray) (c d : Int) (t : ByteArray) W => toZone ⟨⟨a, b, s⟩, ⟨c, d, t⟩⟩ W)
      have hB := B2
      have hB' := B2.drew
      clear C0 C1 B2 HSZ HSU
      go_wp2_with fail
      go_region_held3 (fun W => W.cell? ⟨w.heap.size, 0, none⟩ = some (.int .i64 a) ∧ W.cell? ⟨w.heap.size, 1, none⟩ = some (.int .i64 b) ∧ W.cell? ⟨w.heap.size, 2, none⟩ = some (.string s) ∧ W.cell? ⟨w.heap.size, 3, none⟩ = some (.int .i64 c) ∧ W.cell? ⟨w.heap.size, 4, none⟩ = some (.int .i64 d) ∧ W.cell? ⟨w.heap.size, 5, none⟩ = some (.string t) ∧ W.cell? ⟨w.heap.size + 1, 0, none⟩ = some (.int .i64 t2) ∧ W.cell? ⟨w.heap.size + 1, 1, none⟩ = some (.int .i64 n2) ∧ W.cell? ⟨w.heap.size + 1, 2, none⟩ = some (.string s2)) (first | exact HC.out _ hB' | exact HC.out _ hB) (first | (go_at_call 35; (with_reducible refine (HTZ.out _ _ _ _ _ _ _).mono ?_); rintro e w3 ⟨rfl, hb⟩; replace hB' := below_then hB' hb hB'.size) | (go_at_call 33; (with_reducible refine (HTA.out _ _ _ _).mono ?_); rintro e w3 ⟨rfl, hb⟩; replace hB' := below_then hB' hb hB'.size) | (go_at_call 18; (with_reducible refine (HS.out _).mono ?_); rintro e w3 ⟨rfl, hb⟩; replace hB' := below_then hB' hb hB'.size))
      all_goals
        clear hB
        have hB := hB'
        replace hB' := hB'.drew
        go_wp2_with fail
        go_region_held3 (fun W => W.cell? ⟨w.heap.size, 0, none⟩ = some (.int .i64 a) ∧ W.cell? ⟨w.heap.size, 1, none⟩ = some (.int .i64 b) ∧ W.cell? ⟨w.heap.size, 2, none⟩ = some (.string s) ∧ W.cell? ⟨w.heap.size, 3, none⟩ = some (.int .i64 c) ∧ W.cell? ⟨w.heap.size, 4, none⟩ = some (.int .i64 d) ∧ W.cell? ⟨w.heap.size, 5, none⟩ = some (.string t) ∧ W.cell? ⟨w.heap.size + 1, 0, none⟩ = some (.int .i64 t2) ∧ W.cell? ⟨w.heap.size + 1, 1, none⟩ = some (.int .i64 n2) ∧ W.cell? ⟨w.heap.size + 1, 2, none⟩ = some (.string s2)) (first | exact HC.out _ hB' | exact HC.out _ hB) (first | (go_at_call 35; (with_reducible refine (HTZ.out _ _ _ _ _ _ _).mono ?_); rintro e w3 ⟨rfl, hb⟩; replace hB' := below_then hB' hb hB'.size) | (go_at_call 33; (with_reducible refine (HTA.out _ _ _ _).mono ?_); rintro e w3 ⟨rfl, hb⟩; replace hB' := below_then hB' hb hB'.size) | (go_at_call 17; (with_reducible refine (HI.out _).mono ?_); rintro e w3 ⟨rfl, hb⟩; replace hB' := below_then hB' hb hB'.size))
        all_goals
          go_wp2
          go_ret
          exact ⟨rfl, B0.trans (hB'.mono B0.size)⟩

end Go.Proofs.Ytcokmjdehclhkaa
