/- Texts of this claim, one behind the other: S10z, S11, M12, J12, J12l, J12m, Law4, RowsH. -/
import Derived.Test.YtkofafefnlommaaDoorP12
import Derived.Test.YtkofafefnlommaaDoorP3
import Derived.Deep.RegionHeld3
import Derived.Test.YtkofafefnlommaaDoorP2
import Derived.Test.YtkofafefnlommaaDoorP4

/- The contract of the model's ZoneOf. -/
namespace Go.Proofs.YtkofafefnlommaaDoor
open Go.RowKit

/-- ZoneOf under way: its result's block, and that of z. -/
structure St (w W : World) (z : Zn) : Prop where
  cur : Six W (w.heap.size + 1) z
  res : Six W w.heap.size Zn.zero
  bel : Below w.heap.size w W
theorem St.below {w W W' : World} {z : Zn} (h : St w W z) (hb : Below W.heap.size W W') : St w W' z := ⟨h.cur.below hb, h.res.below hb, below_then h.bel hb h.bel.size⟩
theorem St.lo {w W : World} {z : Zn} (h : St w W z) (v : V) : St w ((((W).setCell ⟨w.heap.size + 1, 0, none⟩ (.int .i64 v.ty)).setCell ⟨w.heap.size + 1, 1, none⟩ (.int .i64 v.n)).setCell ⟨w.heap.size + 1, 2, none⟩ (.string v.s)) ⟨v, z.hi⟩ :=
  ⟨h.cur.setLo v, ((h.res.other (p := ⟨w.heap.size + 1, 0, none⟩) (by simp) (.int .i64 v.ty)).other (p := ⟨w.heap.size + 1, 1, none⟩) (by simp) (.int .i64 v.n)).other (p := ⟨w.heap.size + 1, 2, none⟩) (by simp) (.string v.s), ((h.bel.setCell (p := ⟨w.heap.size + 1, 0, none⟩) (by simp) (.int .i64 v.ty)).setCell (p := ⟨w.heap.size + 1, 1, none⟩) (by simp) (.int .i64 v.n)).setCell (p := ⟨w.heap.size + 1, 2, none⟩) (by simp) (.string v.s)⟩
theorem St.hi {w W : World} {z : Zn} (h : St w W z) (v : V) : St w ((((W).setCell ⟨w.heap.size + 1, 3, none⟩ (.int .i64 v.ty)).setCell ⟨w.heap.size + 1, 4, none⟩ (.int .i64 v.n)).setCell ⟨w.heap.size + 1, 5, none⟩ (.string v.s)) ⟨z.lo, v⟩ :=
  ⟨h.cur.setHi v, ((h.res.other (p := ⟨w.heap.size + 1, 3, none⟩) (by simp) (.int .i64 v.ty)).other (p := ⟨w.heap.size + 1, 4, none⟩) (by simp) (.int .i64 v.n)).other (p := ⟨w.heap.size + 1, 5, none⟩) (by simp) (.string v.s), ((h.bel.setCell (p := ⟨w.heap.size + 1, 3, none⟩) (by simp) (.int .i64 v.ty)).setCell (p := ⟨w.heap.size + 1, 4, none⟩) (by simp) (.int .i64 v.n)).setCell (p := ⟨w.heap.size + 1, 5, none⟩) (by simp) (.string v.s)⟩
/-- The cells of a Val at p, in each later world. -/
def Later3 (w : World) (b o : Nat) (x : V) : Prop := ∀ W, Below w.heap.size w W → W.cell? ⟨b, o, none⟩ = some (.int .i64 x.ty) ∧ W.cell? ⟨b, o + 1, none⟩ = some (.int .i64 x.n) ∧ W.cell? ⟨b, o + 2, none⟩ = some (.string x.s)
theorem later3 {w : World} {b o : Nat} {x : V} (h0 : w.cell? ⟨b, o, none⟩ = some (.int .i64 x.ty)) (h1 : w.cell? ⟨b, o + 1, none⟩ = some (.int .i64 x.n)) (h2 : w.cell? ⟨b, o + 2, none⟩ = some (.string x.s)) : Later3 w b o x :=
  fun _ hb => ⟨(hb.cell (p := ⟨b, o, none⟩) (lt_of_cell h0)).trans h0, (hb.cell (p := ⟨b, o + 1, none⟩) (lt_of_cell h1)).trans h1, (hb.cell (p := ⟨b, o + 2, none⟩) (lt_of_cell h2)).trans h2⟩
theorem zoneL_next {l : List V} {k : Nat} (hk : k < l.length) (h0 : 0 < k) : zoneL (l.take (k + 1)) = ⟨if lessV (l.getD k V.zero) (zoneL (l.take k)).lo = true then l.getD k V.zero else (zoneL (l.take k)).lo, if lessV (zoneL (l.take k)).hi (l.getD k V.zero) = true then l.getD k V.zero else (zoneL (l.take k)).hi⟩ := zoneL_take hk h0

set_option maxHeartbeats 4000000 in
theorem sZoneOf (u : Value) (l : List V) (w : World) (h : Rd 3 w u l.length (vals l)) :
    Calls Tryd.prog 47 #[u] w fun e w' => e = .returned (zoneL l).agg ∧ Below w.heap.size w w' := by
  have HALL : Hid (zoneL l = zoneL (l.take l.length)) := by
    show _ = _
    rw [List.take_length]
  have HSTEP := Lib.hid (fun k (hk : k < l.length) (h0 : 0 < k) => zoneL_next hk h0)
  have HONE := Lib.hid (zoneL_one (l := l))
  have HZERO : Hid (zoneL (l.take 0) = Zn.zero) := by
    show _ = _
    rw [List.take_zero]
    rfl
  generalize hl : l.length = n at h HALL HSTEP HONE
  obtain ⟨a, cap, rfl, hm, HC⟩ := h.vals hl
  unfold maxLen at hm
  rw [HALL.out]
  clear h hl HALL
  have ST : St w ((w.alloc (.cells #[.int .i64 0, .int .i64 0, .string ⟨#[]⟩, .int .i64 0, .int .i64 0, .string ⟨#[]⟩] 106)).alloc (.cells #[.int .i64 0, .int .i64 0, .string ⟨#[]⟩, .int .i64 0, .int .i64 0, .string ⟨#[]⟩] 106)) Zn.zero := by
    refine ⟨?_, (six_new w Zn.zero 106).below (below_alloc _ _), below_alloc2 _ _ _⟩
    have := six_new (w.alloc (.cells #[.int .i64 0, .int .i64 0, .string ⟨#[]⟩, .int .i64 0, .int .i64 0, .string ⟨#[]⟩] 106)) Zn.zero 106
    rw [World.size_alloc] at this
    exact this
  generalize hw0 : ((w.alloc (.cells #[.int .i64 0, .int .i64 0, .string ⟨#[]⟩, .int .i64 0, .int .i64 0, .string ⟨#[]⟩] 106)).alloc (.cells #[.int .i64 0, .int .i64 0, .string ⟨#[]⟩, .int .i64 0, .int .i64 0, .string ⟨#[]⟩] 106)) = w0 at ST
  have HW := Lib.hid hw0
  clear hw0
  go_enter Tryd.func47, Tryd.ntmps47
  go_wp2_with fail
  rw [HW.out]
  go_loopw [4] (fun i wr => ∃ k : Nat, k ≤ n ∧ i = .int .i64 k ∧ St w wr (zoneL (l.take k))) (fun i _ => n - (intOf i).toNat)
  case atStart => exact ⟨0, Nat.zero_le _, rfl, by rw [HZERO.out]; exact ST⟩
  case round =>
    obtain ⟨k, hk, rfl, hst⟩ := hrel
    clear ST HW
    by_cases hlt : k < n
    · obtain ⟨b, off, rfl, p0, p1, p2⟩ := HC.out k hlt
      have HL := Lib.hid (later3 p0 p1 p2)
      clear p0 p1 p2
      by_cases hk0 : k = 0
      · subst hk0
        have HN := Lib.hid (HONE.out (by omega))
        generalize l.getD 0 V.zero = x at HL HN
        generalize zoneL (l.take 0) = z at hst
        obtain ⟨xt, xn, xs⟩ := x
        obtain ⟨⟨a1, b1, s1⟩, ⟨c1, d1, t1⟩⟩ := z
        have S1 := hst
        clear hst HZERO
        go_wp2
        go_quiet (fail)
        have S1q := S1.below (below_drewN wr _ nq)
        generalize wr.drewN nq = w2a at S1q ⊢
        obtain ⟨p0, p1, p2⟩ := HL.out w2a S1q.bel
        have S2 := S1q.lo ⟨xt, xn, xs⟩
        obtain ⟨⟨c0, c1, c2, c3, c4, c5⟩, f0, f1, f2, f3, f4, f5⟩ := S1q.cur
        simp only [Nat.zero_mul, Nat.add_zero] at p0 p1 p2 c0 c1 c2 c3 c4 c5 S2
        generalize hw2 : (((w2a).setCell ⟨w.heap.size + 1, 0, none⟩ (.int .i64 xt)).setCell ⟨w.heap.size + 1, 1, none⟩ (.int .i64 xn)).setCell ⟨w.heap.size + 1, 2, none⟩ (.string xs) = w2 at S2
        have Hw2 := Lib.hid hw2
        clear hw2
        go_wp2
        rw [Hw2.out]
        clear p0 p1 p2 c0 c1 c2 c3 c4 c5 f0 f1 f2 f3 f4 f5
        go_quiet (fail)
        have S2q := S2.below (below_drewN w2 _ nq)
        generalize w2.drewN nq = w3a at S2q ⊢
        obtain ⟨p0, p1, p2⟩ := HL.out w3a S2q.bel
        have S3 := S2q.hi ⟨xt, xn, xs⟩
        obtain ⟨⟨c0, c1, c2, c3, c4, c5⟩, f0, f1, f2, f3, f4, f5⟩ := S2q.cur
        simp only [Nat.zero_mul, Nat.add_zero] at p0 p1 p2 c0 c1 c2 c3 c4 c5 S3
        go_wp2
        go_roundw
        case rel => exact ⟨1, by omega, by go_num, by rw [HN.out]; exact S3⟩
        case measure => simp [intOf]; omega
      · have HN := Lib.hid (HSTEP.out k hlt (by omega))
        generalize l.getD k V.zero = x at HL HN
        generalize zoneL (l.take k) = z at hst HN
        have hb0 : ((k : Int) == 0) = false := by simp; omega
        have HX := Lib.hid (fun W => sLessVal x z.lo W)
        have HY := Lib.hid (fun W => sLessVal z.hi x W)
        cases hx : lessV x z.lo with
        | true =>
          rw [hx] at HN HX
          rw [if_pos rfl] at HN
          cases hy : lessV z.hi x with
          | true =>
            rw [hy] at HN HY
            rw [if_pos rfl] at HN
            obtain ⟨xt, xn, xs⟩ := x
            obtain ⟨⟨a1, b1, s1⟩, ⟨c1, d1, t1⟩⟩ := z
            have S1 := hst
            clear hst hx hy HSTEP HONE HZERO
            simp only at HX HY
            go_wp2
            have HKlo : Hid (∀ W, Below wr.heap.size wr W → W.cell? ⟨b, off + k * 3, none⟩ = some (.int .i64 xt) ∧ W.cell? ⟨b, off + k * 3 + 1, none⟩ = some (.int .i64 xn) ∧ W.cell? ⟨b, off + k * 3 + 2, none⟩ = some (.string xs) ∧ W.cell? ⟨w.heap.size + 1, 0, none⟩ = some (.int .i64 a1) ∧ W.cell? ⟨w.heap.size + 1, 1, none⟩ = some (.int .i64 b1) ∧ W.cell? ⟨w.heap.size + 1, 2, none⟩ = some (.string s1)) := fun W hW =>
              ⟨(HL.out W (S1.below hW).bel).1, (HL.out W (S1.below hW).bel).2.1, (HL.out W (S1.below hW).bel).2.2, (S1.below hW).cur.1.1, (S1.below hW).cur.1.2.1, (S1.below hW).cur.1.2.2.1⟩
            have HSlo := Lib.hid S1
            have hB' := (Below.refl wr.heap.size wr).drew
            clear S1
            go_region_held3 (fun W => W.cell? ⟨b, off + k * 3, none⟩ = some (.int .i64 xt) ∧ W.cell? ⟨b, off + k * 3 + 1, none⟩ = some (.int .i64 xn) ∧ W.cell? ⟨b, off + k * 3 + 2, none⟩ = some (.string xs) ∧ W.cell? ⟨w.heap.size + 1, 0, none⟩ = some (.int .i64 a1) ∧ W.cell? ⟨w.heap.size + 1, 1, none⟩ = some (.int .i64 b1) ∧ W.cell? ⟨w.heap.size + 1, 2, none⟩ = some (.string s1)) (exact HKlo.out _ hB') ((go_at_call 78; (with_reducible refine (HX.out _).mono ?_); rintro e w2 ⟨rfl, hb2⟩; replace hB' := below_then hB' hb2 hB'.size))
            have S2 := HSlo.out.below hB'
            clear HKlo HSlo hB' hb2 HX
            obtain ⟨p0, p1, p2⟩ := HL.out w2 S2.bel
            have S3 := S2.lo ⟨xt, xn, xs⟩
            obtain ⟨⟨c0, c1, c2, c3, c4, c5⟩, f0, f1, f2, f3, f4, f5⟩ := S2.cur
            simp only at p0 p1 p2 c0 c1 c2 c3 c4 c5 S3
            generalize hw3 : (((w2).setCell ⟨w.heap.size + 1, 0, none⟩ (.int .i64 xt)).setCell ⟨w.heap.size + 1, 1, none⟩ (.int .i64 xn)).setCell ⟨w.heap.size + 1, 2, none⟩ (.string xs) = w3 at S3
            have Hw3 := Lib.hid hw3
            clear hw3
            go_wp2
            rw [Hw3.out]
            clear p0 p1 p2 c0 c1 c2 c3 c4 c5 f0 f1 f2 f3 f4 f5
            have HKhi : Hid (∀ W, Below w3.heap.size w3 W → W.cell? ⟨b, off + k * 3, none⟩ = some (.int .i64 xt) ∧ W.cell? ⟨b, off + k * 3 + 1, none⟩ = some (.int .i64 xn) ∧ W.cell? ⟨b, off + k * 3 + 2, none⟩ = some (.string xs) ∧ W.cell? ⟨w.heap.size + 1, 3, none⟩ = some (.int .i64 c1) ∧ W.cell? ⟨w.heap.size + 1, 4, none⟩ = some (.int .i64 d1) ∧ W.cell? ⟨w.heap.size + 1, 5, none⟩ = some (.string t1)) := fun W hW =>
              ⟨(HL.out W (S3.below hW).bel).1, (HL.out W (S3.below hW).bel).2.1, (HL.out W (S3.below hW).bel).2.2, (S3.below hW).cur.1.2.2.2.1, (S3.below hW).cur.1.2.2.2.2.1, (S3.below hW).cur.1.2.2.2.2.2⟩
            have HShi := Lib.hid S3
            have hB' := (Below.refl w3.heap.size w3).drew
            clear S3
            go_region_held3 (fun W => W.cell? ⟨b, off + k * 3, none⟩ = some (.int .i64 xt) ∧ W.cell? ⟨b, off + k * 3 + 1, none⟩ = some (.int .i64 xn) ∧ W.cell? ⟨b, off + k * 3 + 2, none⟩ = some (.string xs) ∧ W.cell? ⟨w.heap.size + 1, 3, none⟩ = some (.int .i64 c1) ∧ W.cell? ⟨w.heap.size + 1, 4, none⟩ = some (.int .i64 d1) ∧ W.cell? ⟨w.heap.size + 1, 5, none⟩ = some (.string t1)) (exact HKhi.out _ hB') ((go_at_call 78; (with_reducible refine (HY.out _).mono ?_); rintro e w4 ⟨rfl, hb2⟩; replace hB' := below_then hB' hb2 hB'.size))
            have S4 := HShi.out.below hB'
            clear HKhi HShi hB' hb2 HY
            obtain ⟨p0, p1, p2⟩ := HL.out w4 S4.bel
            have S5 := S4.hi ⟨xt, xn, xs⟩
            obtain ⟨⟨c0, c1, c2, c3, c4, c5⟩, f0, f1, f2, f3, f4, f5⟩ := S4.cur
            simp only at p0 p1 p2 c0 c1 c2 c3 c4 c5 S5
            go_wp2
            go_roundw
            case rel => exact ⟨k + 1, by omega, by go_num, by rw [HN.out]; exact S5⟩
            case measure => simp [intOf]; omega
          | false =>
            rw [hy] at HN HY
            rw [if_neg Bool.false_ne_true] at HN
            obtain ⟨xt, xn, xs⟩ := x
            obtain ⟨⟨a1, b1, s1⟩, ⟨c1, d1, t1⟩⟩ := z
            have S1 := hst
            clear hst hx hy HSTEP HONE HZERO
            simp only at HX HY
            go_wp2
            have HKlo : Hid (∀ W, Below wr.heap.size wr W → W.cell? ⟨b, off + k * 3, none⟩ = some (.int .i64 xt) ∧ W.cell? ⟨b, off + k * 3 + 1, none⟩ = some (.int .i64 xn) ∧ W.cell? ⟨b, off + k * 3 + 2, none⟩ = some (.string xs) ∧ W.cell? ⟨w.heap.size + 1, 0, none⟩ = some (.int .i64 a1) ∧ W.cell? ⟨w.heap.size + 1, 1, none⟩ = some (.int .i64 b1) ∧ W.cell? ⟨w.heap.size + 1, 2, none⟩ = some (.string s1)) := fun W hW =>
              ⟨(HL.out W (S1.below hW).bel).1, (HL.out W (S1.below hW).bel).2.1, (HL.out W (S1.below hW).bel).2.2, (S1.below hW).cur.1.1, (S1.below hW).cur.1.2.1, (S1.below hW).cur.1.2.2.1⟩
            have HSlo := Lib.hid S1
            have hB' := (Below.refl wr.heap.size wr).drew
            clear S1
            go_region_held3 (fun W => W.cell? ⟨b, off + k * 3, none⟩ = some (.int .i64 xt) ∧ W.cell? ⟨b, off + k * 3 + 1, none⟩ = some (.int .i64 xn) ∧ W.cell? ⟨b, off + k * 3 + 2, none⟩ = some (.string xs) ∧ W.cell? ⟨w.heap.size + 1, 0, none⟩ = some (.int .i64 a1) ∧ W.cell? ⟨w.heap.size + 1, 1, none⟩ = some (.int .i64 b1) ∧ W.cell? ⟨w.heap.size + 1, 2, none⟩ = some (.string s1)) (exact HKlo.out _ hB') ((go_at_call 78; (with_reducible refine (HX.out _).mono ?_); rintro e w2 ⟨rfl, hb2⟩; replace hB' := below_then hB' hb2 hB'.size))
            have S2 := HSlo.out.below hB'
            clear HKlo HSlo hB' hb2 HX
            obtain ⟨p0, p1, p2⟩ := HL.out w2 S2.bel
            have S3 := S2.lo ⟨xt, xn, xs⟩
            obtain ⟨⟨c0, c1, c2, c3, c4, c5⟩, f0, f1, f2, f3, f4, f5⟩ := S2.cur
            simp only at p0 p1 p2 c0 c1 c2 c3 c4 c5 S3
            generalize hw3 : (((w2).setCell ⟨w.heap.size + 1, 0, none⟩ (.int .i64 xt)).setCell ⟨w.heap.size + 1, 1, none⟩ (.int .i64 xn)).setCell ⟨w.heap.size + 1, 2, none⟩ (.string xs) = w3 at S3
            have Hw3 := Lib.hid hw3
            clear hw3
            go_wp2
            rw [Hw3.out]
            clear p0 p1 p2 c0 c1 c2 c3 c4 c5 f0 f1 f2 f3 f4 f5
            have HKhi : Hid (∀ W, Below w3.heap.size w3 W → W.cell? ⟨b, off + k * 3, none⟩ = some (.int .i64 xt) ∧ W.cell? ⟨b, off + k * 3 + 1, none⟩ = some (.int .i64 xn) ∧ W.cell? ⟨b, off + k * 3 + 2, none⟩ = some (.string xs) ∧ W.cell? ⟨w.heap.size + 1, 3, none⟩ = some (.int .i64 c1) ∧ W.cell? ⟨w.heap.size + 1, 4, none⟩ = some (.int .i64 d1) ∧ W.cell? ⟨w.heap.size + 1, 5, none⟩ = some (.string t1)) := fun W hW =>
              ⟨(HL.out W (S3.below hW).bel).1, (HL.out W (S3.below hW).bel).2.1, (HL.out W (S3.below hW).bel).2.2, (S3.below hW).cur.1.2.2.2.1, (S3.below hW).cur.1.2.2.2.2.1, (S3.below hW).cur.1.2.2.2.2.2⟩
            have HShi := Lib.hid S3
            have hB' := (Below.refl w3.heap.size w3).drew
            clear S3
            go_region_held3 (fun W => W.cell? ⟨b, off + k * 3, none⟩ = some (.int .i64 xt) ∧ W.cell? ⟨b, off + k * 3 + 1, none⟩ = some (.int .i64 xn) ∧ W.cell? ⟨b, off + k * 3 + 2, none⟩ = some (.string xs) ∧ W.cell? ⟨w.heap.size + 1, 3, none⟩ = some (.int .i64 c1) ∧ W.cell? ⟨w.heap.size + 1, 4, none⟩ = some (.int .i64 d1) ∧ W.cell? ⟨w.heap.size + 1, 5, none⟩ = some (.string t1)) (exact HKhi.out _ hB') ((go_at_call 78; (with_reducible refine (HY.out _).mono ?_); rintro e w4 ⟨rfl, hb2⟩; replace hB' := below_then hB' hb2 hB'.size))
            have S4 := HShi.out.below hB'
            clear HKhi HShi hB' hb2 HY
            have S5 := S4
            clear S4
            go_wp2
            go_roundw
            case rel => exact ⟨k + 1, by omega, by go_num, by rw [HN.out]; exact S5⟩
            case measure => simp [intOf]; omega
        | false =>
          rw [hx] at HN HX
          rw [if_neg Bool.false_ne_true] at HN
          cases hy : lessV z.hi x with
          | true =>
            rw [hy] at HN HY
            rw [if_pos rfl] at HN
            obtain ⟨xt, xn, xs⟩ := x
            obtain ⟨⟨a1, b1, s1⟩, ⟨c1, d1, t1⟩⟩ := z
            have S1 := hst
            clear hst hx hy HSTEP HONE HZERO
            simp only at HX HY
            go_wp2
            have HKlo : Hid (∀ W, Below wr.heap.size wr W → W.cell? ⟨b, off + k * 3, none⟩ = some (.int .i64 xt) ∧ W.cell? ⟨b, off + k * 3 + 1, none⟩ = some (.int .i64 xn) ∧ W.cell? ⟨b, off + k * 3 + 2, none⟩ = some (.string xs) ∧ W.cell? ⟨w.heap.size + 1, 0, none⟩ = some (.int .i64 a1) ∧ W.cell? ⟨w.heap.size + 1, 1, none⟩ = some (.int .i64 b1) ∧ W.cell? ⟨w.heap.size + 1, 2, none⟩ = some (.string s1)) := fun W hW =>
              ⟨(HL.out W (S1.below hW).bel).1, (HL.out W (S1.below hW).bel).2.1, (HL.out W (S1.below hW).bel).2.2, (S1.below hW).cur.1.1, (S1.below hW).cur.1.2.1, (S1.below hW).cur.1.2.2.1⟩
            have HSlo := Lib.hid S1
            have hB' := (Below.refl wr.heap.size wr).drew
            clear S1
            go_region_held3 (fun W => W.cell? ⟨b, off + k * 3, none⟩ = some (.int .i64 xt) ∧ W.cell? ⟨b, off + k * 3 + 1, none⟩ = some (.int .i64 xn) ∧ W.cell? ⟨b, off + k * 3 + 2, none⟩ = some (.string xs) ∧ W.cell? ⟨w.heap.size + 1, 0, none⟩ = some (.int .i64 a1) ∧ W.cell? ⟨w.heap.size + 1, 1, none⟩ = some (.int .i64 b1) ∧ W.cell? ⟨w.heap.size + 1, 2, none⟩ = some (.string s1)) (exact HKlo.out _ hB') ((go_at_call 78; (with_reducible refine (HX.out _).mono ?_); rintro e w2 ⟨rfl, hb2⟩; replace hB' := below_then hB' hb2 hB'.size))
            have S2 := HSlo.out.below hB'
            clear HKlo HSlo hB' hb2 HX
            have S3 := S2
            clear S2
            go_wp2
            have HKhi : Hid (∀ W, Below w2.heap.size w2 W → W.cell? ⟨b, off + k * 3, none⟩ = some (.int .i64 xt) ∧ W.cell? ⟨b, off + k * 3 + 1, none⟩ = some (.int .i64 xn) ∧ W.cell? ⟨b, off + k * 3 + 2, none⟩ = some (.string xs) ∧ W.cell? ⟨w.heap.size + 1, 3, none⟩ = some (.int .i64 c1) ∧ W.cell? ⟨w.heap.size + 1, 4, none⟩ = some (.int .i64 d1) ∧ W.cell? ⟨w.heap.size + 1, 5, none⟩ = some (.string t1)) := fun W hW =>
              ⟨(HL.out W (S3.below hW).bel).1, (HL.out W (S3.below hW).bel).2.1, (HL.out W (S3.below hW).bel).2.2, (S3.below hW).cur.1.2.2.2.1, (S3.below hW).cur.1.2.2.2.2.1, (S3.below hW).cur.1.2.2.2.2.2⟩
            have HShi := Lib.hid S3
            have hB' := (Below.refl w2.heap.size w2).drew
            clear S3
            go_region_held3 (fun W => W.cell? ⟨b, off + k * 3, none⟩ = some (.int .i64 xt) ∧ W.cell? ⟨b, off + k * 3 + 1, none⟩ = some (.int .i64 xn) ∧ W.cell? ⟨b, off + k * 3 + 2, none⟩ = some (.string xs) ∧ W.cell? ⟨w.heap.size + 1, 3, none⟩ = some (.int .i64 c1) ∧ W.cell? ⟨w.heap.size + 1, 4, none⟩ = some (.int .i64 d1) ∧ W.cell? ⟨w.heap.size + 1, 5, none⟩ = some (.string t1)) (exact HKhi.out _ hB') ((go_at_call 78; (with_reducible refine (HY.out _).mono ?_); rintro e w4 ⟨rfl, hb2⟩; replace hB' := below_then hB' hb2 hB'.size))
            have S4 := HShi.out.below hB'
            clear HKhi HShi hB' hb2 HY
            obtain ⟨p0, p1, p2⟩ := HL.out w4 S4.bel
            have S5 := S4.hi ⟨xt, xn, xs⟩
            obtain ⟨⟨c0, c1, c2, c3, c4, c5⟩, f0, f1, f2, f3, f4, f5⟩ := S4.cur
            simp only at p0 p1 p2 c0 c1 c2 c3 c4 c5 S5
            go_wp2
            go_roundw
            case rel => exact ⟨k + 1, by omega, by go_num, by rw [HN.out]; exact S5⟩
            case measure => simp [intOf]; omega
          | false =>
            rw [hy] at HN HY
            rw [if_neg Bool.false_ne_true] at HN
            obtain ⟨xt, xn, xs⟩ := x
            obtain ⟨⟨a1, b1, s1⟩, ⟨c1, d1, t1⟩⟩ := z
            have S1 := hst
            clear hst hx hy HSTEP HONE HZERO
            simp only at HX HY
            go_wp2
            have HKlo : Hid (∀ W, Below wr.heap.size wr W → W.cell? ⟨b, off + k * 3, none⟩ = some (.int .i64 xt) ∧ W.cell? ⟨b, off + k * 3 + 1, none⟩ = some (.int .i64 xn) ∧ W.cell? ⟨b, off + k * 3 + 2, none⟩ = some (.string xs) ∧ W.cell? ⟨w.heap.size + 1, 0, none⟩ = some (.int .i64 a1) ∧ W.cell? ⟨w.heap.size + 1, 1, none⟩ = some (.int .i64 b1) ∧ W.cell? ⟨w.heap.size + 1, 2, none⟩ = some (.string s1)) := fun W hW =>
              ⟨(HL.out W (S1.below hW).bel).1, (HL.out W (S1.below hW).bel).2.1, (HL.out W (S1.below hW).bel).2.2, (S1.below hW).cur.1.1, (S1.below hW).cur.1.2.1, (S1.below hW).cur.1.2.2.1⟩
            have HSlo := Lib.hid S1
            have hB' := (Below.refl wr.heap.size wr).drew
            clear S1
            go_region_held3 (fun W => W.cell? ⟨b, off + k * 3, none⟩ = some (.int .i64 xt) ∧ W.cell? ⟨b, off + k * 3 + 1, none⟩ = some (.int .i64 xn) ∧ W.cell? ⟨b, off + k * 3 + 2, none⟩ = some (.string xs) ∧ W.cell? ⟨w.heap.size + 1, 0, none⟩ = some (.int .i64 a1) ∧ W.cell? ⟨w.heap.size + 1, 1, none⟩ = some (.int .i64 b1) ∧ W.cell? ⟨w.heap.size + 1, 2, none⟩ = some (.string s1)) (exact HKlo.out _ hB') ((go_at_call 78; (with_reducible refine (HX.out _).mono ?_); rintro e w2 ⟨rfl, hb2⟩; replace hB' := below_then hB' hb2 hB'.size))
            have S2 := HSlo.out.below hB'
            clear HKlo HSlo hB' hb2 HX
            have S3 := S2
            clear S2
            go_wp2
            have HKhi : Hid (∀ W, Below w2.heap.size w2 W → W.cell? ⟨b, off + k * 3, none⟩ = some (.int .i64 xt) ∧ W.cell? ⟨b, off + k * 3 + 1, none⟩ = some (.int .i64 xn) ∧ W.cell? ⟨b, off + k * 3 + 2, none⟩ = some (.string xs) ∧ W.cell? ⟨w.heap.size + 1, 3, none⟩ = some (.int .i64 c1) ∧ W.cell? ⟨w.heap.size + 1, 4, none⟩ = some (.int .i64 d1) ∧ W.cell? ⟨w.heap.size + 1, 5, none⟩ = some (.string t1)) := fun W hW =>
              ⟨(HL.out W (S3.below hW).bel).1, (HL.out W (S3.below hW).bel).2.1, (HL.out W (S3.below hW).bel).2.2, (S3.below hW).cur.1.2.2.2.1, (S3.below hW).cur.1.2.2.2.2.1, (S3.below hW).cur.1.2.2.2.2.2⟩
            have HShi := Lib.hid S3
            have hB' := (Below.refl w2.heap.size w2).drew
            clear S3
            go_region_held3 (fun W => W.cell? ⟨b, off + k * 3, none⟩ = some (.int .i64 xt) ∧ W.cell? ⟨b, off + k * 3 + 1, none⟩ = some (.int .i64 xn) ∧ W.cell? ⟨b, off + k * 3 + 2, none⟩ = some (.string xs) ∧ W.cell? ⟨w.heap.size + 1, 3, none⟩ = some (.int .i64 c1) ∧ W.cell? ⟨w.heap.size + 1, 4, none⟩ = some (.int .i64 d1) ∧ W.cell? ⟨w.heap.size + 1, 5, none⟩ = some (.string t1)) (exact HKhi.out _ hB') ((go_at_call 78; (with_reducible refine (HY.out _).mono ?_); rintro e w4 ⟨rfl, hb2⟩; replace hB' := below_then hB' hb2 hB'.size))
            have S4 := HShi.out.below hB'
            clear HKhi HShi hB' hb2 HY
            have S5 := S4
            clear S4
            go_wp2
            go_roundw
            case rel => exact ⟨k + 1, by omega, by go_num, by rw [HN.out]; exact S5⟩
            case measure => simp [intOf]; omega
    · obtain rfl : k = n := by omega
      generalize hzz : zoneL (l.take k) = z at hst
      have HZZ := Lib.hid hzz
      clear hzz
      obtain ⟨⟨a1, b1, s1⟩, ⟨c1, d1, t1⟩⟩ := z
      obtain ⟨⟨⟨q0, q1, q2, q3, q4, q5⟩, _⟩, ⟨⟨r0, r1, r2, r3, r4, r5⟩, f0, f1, f2, f3, f4, f5⟩, B⟩ := hst
      simp only [Zn.zero, V.zero] at q0 q1 q2 q3 q4 q5 r0 r1 r2 r3 r4 r5
      go_wp2
      refine bodyPost_ret (v := .agg #[.int .i64 a1, .int .i64 b1, .string s1, .int .i64 c1, .int .i64 d1, .string t1]) (by simp [results, Tryd.results47, go_sem, *]) rfl ⟨by rw [HZZ.out], ?_⟩
      exact ((((((B.setCell (by simp) _).setCell (by simp) _).setCell (by simp) _).setCell (by simp) _).setCell (by simp) _).setCell (by simp) _)

end Go.Proofs.YtkofafefnlommaaDoor

/- The model's Holds (written by mk_S11.py). -/
namespace Go.Proofs.YtkofafefnlommaaDoor
open Go.RowKit

end Go.Proofs.YtkofafefnlommaaDoor

/- Plain mathematics of chapter 12: queries and their results. -/
namespace Go.Proofs.YtkofafefnlommaaDoor
open Go.RowKit

/-- A Query. -/
structure Qu where
  kind : Int
  t : T
  col : Int
  out : List Int
/-- A Result. -/
structure Rs where
  rows : List R
  n : Int
  has : Bool
  v : V
def Rs.zero : Rs := ⟨[], 0, false, V.zero⟩
abbrev Qu.agg (q : Qu) (u o : Value) : Value := .agg #[.int .i64 q.kind, .int .i64 q.t.kind, .int .i64 q.t.col, .int .i64 q.t.op, .int .i64 q.t.v.ty, .int .i64 q.t.v.n, .string q.t.v.s, u, .int .i64 q.col, o]
abbrev Rs.agg (r : Rs) (u : Value) : Value := .agg #[u, .int .i64 r.n, .bool r.has, .int .i64 r.v.ty, .int .i64 r.v.n, .string r.v.s]
def Qu.cs (q : Qu) (u o : Value) : List Value := [.int .i64 q.kind, .int .i64 q.t.kind, .int .i64 q.t.col, .int .i64 q.t.op, .int .i64 q.t.v.ty, .int .i64 q.t.v.n, .string q.t.v.s, u, .int .i64 q.col, o]
def Rs.cs (r : Rs) (u : Value) : List Value := [u, .int .i64 r.n, .bool r.has, .int .i64 r.v.ty, .int .i64 r.v.n, .string r.v.s]

/-- Meant. -/
def meantL (t : T) (l : List R) : List R := l.filter fun r => t.holds r.l
theorem meantL_snoc (t : T) (l : List R) (r : R) : meantL t (l ++ [r]) = if t.holds r.l = true then meantL t l ++ [r] else meantL t l := by
  unfold meantL
  rw [List.filter_append]
  cases h : t.holds r.l with
  | true => simp [h]
  | false => simp [h]
theorem meantL_len (t : T) (l : List R) : (meantL t l).length ≤ l.length := List.length_filter_le _ _
theorem meantL_mem {t : T} {l : List R} {r : R} (h : r ∈ meantL t l) : r ∈ l ∧ t.holds r.l = true := by
  unfold meantL at h
  simpa using h
theorem meantL_self (t : T) (l : List R) : meantL t (meantL t l) = meantL t l := by
  unfold meantL
  rw [List.filter_filter]
  simp
/-- The value at a place, if there is one. -/
def atL (l : List V) (k : Int) : Option V := if Num.inB k 0 ((l.length : Int) - 1) = true then l[k.toNat]? else none
theorem atL_yes {l : List V} {k : Int} (h : 0 ≤ k ∧ k < l.length) : atL l k = some (l.getD k.toNat V.zero) := by
  unfold atL
  rw [if_pos (Num.inB_true.2 (by omega)), List.getElem?_eq_getElem (by omega), getDe l V.zero (by omega)]
theorem atL_no {l : List V} {k : Int} (h : ¬ (0 ≤ k ∧ k < l.length)) : atL l k = none := by
  unfold atL
  rw [if_neg (by rw [Num.inB_true]; omega)]
/-- The values of a row that a query returns. -/
def cutL (l : List V) (cols : List Int) : List V := cols.filterMap (atL l)
theorem cutL_snoc (l : List V) (cols : List Int) (k : Int) : cutL l (cols ++ [k]) = cutL l cols ++ (atL l k).toList := by
  unfold cutL
  rw [List.filterMap_append]
  congr 1
theorem cutL_len (l : List V) (cols : List Int) : (cutL l cols).length ≤ cols.length := List.length_filterMap_le _ _
def cutR (r : R) (cols : List Int) : R := ⟨r.id, cutL r.l cols⟩
theorem colR_snoc' (l : List R) (r : R) (k : Int) : colR (l ++ [r]) k = colR l k ++ (atL r.l k).toList := colR_snoc l r k
def wr64 (x : Int) : Int := IntKind.i64.wrap x
/-- The sum of numbers, as 64 bits hold it. -/
def sumL (l : List V) : Int := l.foldl (fun a v => wr64 (a + v.n)) 0
theorem sumL_snoc (l : List V) (v : V) : sumL (l ++ [v]) = wr64 (sumL l + v.n) := by
  unfold sumL
  rw [List.foldl_append]
  rfl
theorem wr64_in {x : Int} (h : -9223372036854775808 ≤ x ∧ x ≤ 9223372036854775807) : wr64 x = x := IntWalk.i64_in _ (by omega)
theorem wr64_bd (x : Int) : -9223372036854775808 ≤ wr64 x ∧ wr64 x ≤ 9223372036854775807 := by
  unfold wr64
  rw [IntKind.wrap_i64]
  omega
theorem sumL_bd (l : List V) : -9223372036854775808 ≤ sumL l ∧ sumL l ≤ 9223372036854775807 := by
  rcases List.eq_nil_or_concat l with rfl | ⟨l', v, rfl⟩
  · decide
  · rw [List.concat_eq_append, sumL_snoc]
    exact wr64_bd _

/-- Answer. -/
def ansL (q : Qu) (l : List R) : Rs :=
  if q.kind = 1 then ⟨(meantL q.t l).map (fun r => cutR r q.out), 0, false, V.zero⟩
  else if q.kind = 2 then ⟨[], ((meantL q.t l).length : Int), false, V.zero⟩
  else if q.kind = 3 then ⟨[], sumL (colR (meantL q.t l) q.col), false, V.zero⟩
  else if q.kind = 4 then ⟨[], 0, decide (0 < (colR (meantL q.t l) q.col).length), (zoneL (colR (meantL q.t l) q.col)).lo⟩
  else if q.kind = 5 then ⟨[], 0, decide (0 < (colR (meantL q.t l) q.col).length), (zoneL (colR (meantL q.t l) q.col)).hi⟩
  else Rs.zero
/-- What a single row gives. -/
def ofL (q : Qu) (r : R) : Rs :=
  if q.kind = 1 then ⟨[cutR r q.out], 0, false, V.zero⟩
  else if q.kind = 2 then ⟨[], 1, false, V.zero⟩
  else if q.kind = 3 then ⟨[], ((atL r.l q.col).getD V.zero).n, false, V.zero⟩
  else ⟨[], 0, (atL r.l q.col).isSome, (atL r.l q.col).getD V.zero⟩
/-- One result extended by another. -/
def addL (k : Int) (a b : Rs) : Rs :=
  if k = 1 then ⟨a.rows ++ b.rows, a.n, a.has, a.v⟩
  else if k = 2 ∨ k = 3 then ⟨a.rows, wr64 (a.n + b.n), a.has, a.v⟩
  else if k = 4 then (if (b.has && (!a.has || lessV b.v a.v)) = true then ⟨a.rows, a.n, true, b.v⟩ else a)
  else (if (b.has && (!a.has || lessV a.v b.v)) = true then ⟨a.rows, a.n, true, b.v⟩ else a)
theorem zone_lo_snoc (l : List V) (v : V) : (zoneL (l ++ [v])).lo = if decide (0 < l.length) = false ∨ lessV v (zoneL l).lo = true then v else (zoneL l).lo := by
  cases l with
  | nil => rfl
  | cons x l =>
    rw [zoneL_step _ _ (by simp)]
    show (if lessV v (zoneL (x :: l)).lo = true then v else (zoneL (x :: l)).lo) = _
    simp
theorem zone_hi_snoc (l : List V) (v : V) : (zoneL (l ++ [v])).hi = if decide (0 < l.length) = false ∨ lessV (zoneL l).hi v = true then v else (zoneL l).hi := by
  cases l with
  | nil => rfl
  | cons x l =>
    rw [zoneL_step _ _ (by simp)]
    show (if lessV (zoneL (x :: l)).hi v = true then v else (zoneL (x :: l)).hi) = _
    simp
theorem ansL_no {q : Qu} {l : List R} (h : ¬ (1 ≤ q.kind ∧ q.kind ≤ 5)) : ansL q l = Rs.zero := by
  unfold ansL
  rw [if_neg (by omega), if_neg (by omega), if_neg (by omega), if_neg (by omega), if_neg (by omega)]
theorem kinds5 {k : Int} (h : 1 ≤ k ∧ k ≤ 5) : k = 1 ∨ k = 2 ∨ k = 3 ∨ k = 4 ∨ k = 5 := by omega
theorem ansL_nil {q : Qu} : ansL q [] = Rs.zero := by
  unfold ansL
  split
  · rfl
  split
  · rfl
  split
  · rfl
  split
  · rfl
  split <;> rfl
theorem ansL_skip {q : Qu} {l : List R} {r : R} (h : q.t.holds r.l = false) : ansL q (l ++ [r]) = ansL q l := by
  have e : meantL q.t (l ++ [r]) = meantL q.t l := by rw [meantL_snoc, if_neg (by simp [h])]
  unfold ansL
  rw [e]
theorem ansL_take {q : Qu} {l : List R} {r : R} (hk : 1 ≤ q.kind ∧ q.kind ≤ 5) (hl : l.length < 4611686018427387904) (h : q.t.holds r.l = true) : ansL q (l ++ [r]) = addL q.kind (ansL q l) (ofL q r) := by
  have e : meantL q.t (l ++ [r]) = meantL q.t l ++ [r] := by rw [meantL_snoc, if_pos h]
  have hm := meantL_len q.t l
  rcases kinds5 hk with k | k | k | k | k
  · simp [ansL, addL, ofL, k, e]
  · simp only [ansL, addL, ofL, k, e]
    simp
    rw [wr64_in (by omega)]
  · simp only [ansL, addL, ofL, k, e, colR_snoc']
    cases ha : atL r.l q.col with
    | none =>
      have := sumL_bd (colR (meantL q.t l) q.col)
      simp [V.zero, wr64_in this]
    | some v => simp [sumL_snoc]
  · simp only [ansL, addL, ofL, k, e, colR_snoc']
    cases ha : atL r.l q.col with
    | none => simp
    | some v =>
      simp [zone_lo_snoc]
      by_cases h0 : colR (meantL q.t l) q.col = []
      · simp [h0]
      · simp [h0]
        split <;> simp_all [List.length_pos_iff]
  · simp only [ansL, addL, ofL, k, e, colR_snoc']
    cases ha : atL r.l q.col with
    | none => simp
    | some v =>
      simp [zone_hi_snoc]
      by_cases h0 : colR (meantL q.t l) q.col = []
      · simp [h0]
      · simp [h0]
        split <;> simp_all [List.length_pos_iff]

/-- Joined, as the document has it. -/
def hasL (r : Rs) : List V := if r.has = true then [r.v] else []
def joinL (k : Int) (a b : Rs) : Rs :=
  if k = 1 then ⟨a.rows ++ b.rows, 0, false, V.zero⟩
  else if k = 2 ∨ k = 3 then ⟨[], wr64 (a.n + b.n), false, V.zero⟩
  else if k = 4 then ⟨[], 0, a.has || b.has, (zoneL (hasL a ++ hasL b)).lo⟩
  else if k = 5 then ⟨[], 0, a.has || b.has, (zoneL (hasL a ++ hasL b)).hi⟩
  else Rs.zero
theorem joinL_add {k : Int} {a b : Rs} (hk : 1 ≤ k ∧ k ≤ 5) (ha : -9223372036854775808 ≤ a.n ∧ a.n ≤ 9223372036854775807) : joinL k a b = addL k (addL k Rs.zero a) b := by
  rcases kinds5 hk with rfl | rfl | rfl | rfl | rfl
  · simp [joinL, addL, Rs.zero]
  · simp [joinL, addL, Rs.zero, wr64_in ha]
  · simp [joinL, addL, Rs.zero, wr64_in ha]
  · cases h1 : a.has <;> cases h2 : b.has <;> simp [joinL, addL, Rs.zero, hasL, h1, h2, zoneL, stepZ] <;> first | rfl | (split <;> simp_all)
  · cases h1 : a.has <;> cases h2 : b.has <;> simp [joinL, addL, Rs.zero, hasL, h1, h2, zoneL, stepZ] <;> first | rfl | (split <;> simp_all)

end Go.Proofs.YtkofafefnlommaaDoor

/- The program's addNum, keepLeast, keepMost (written by mk_J12.py). -/
namespace Go.Proofs.YtkofafefnlommaaDoor
open Go.RowKit

/-- Of what stood at w, no block but q and row has been written. -/
structure On (q : Nat) (row : Option Nat) (w w' : World) : Prop where
  os : w'.os = w.os
  tape : w'.tape = w.tape
  output : w'.output = w.output
  size : w.heap.size ≤ w'.heap.size
  block : ∀ b, b < w.heap.size → b ≠ q → some b ≠ row → w'.heap[b]? = w.heap[b]?
theorem On.refl (q : Nat) (row : Option Nat) (w : World) : On q row w w := ⟨rfl, rfl, rfl, Nat.le_refl _, fun _ _ _ _ => rfl⟩
theorem On.below {q : Nat} {row : Option Nat} {w w1 w2 : World} (h : On q row w w1) (hb : Below w1.heap.size w1 w2) : On q row w w2 :=
  ⟨hb.os.trans h.os, hb.tape.trans h.tape, hb.output.trans h.output, Nat.le_trans h.size hb.size, fun b h1 h2 h3 => (hb.block b (Nat.lt_of_lt_of_le h1 h.size)).trans (h.block b h1 h2 h3)⟩
theorem On.set {q : Nat} {row : Option Nat} {w w1 : World} (h : On q row w w1) (j : Nat) (x : Value) : On q row w (w1.setCell ⟨q, j, none⟩ x) :=
  ⟨h.os, h.tape, h.output, by simpa [World.setCell] using h.size, fun b h1 h2 h3 => (Below.heap_setCell _ _ _ _ (fun e => h2 (by simpa using e))).trans (h.block b h1 h2 h3)⟩
theorem On.lt {q lo : Nat} {row : Option Nat} {w w' : World} (h : On q row w w') (hlo : lo ≤ w.heap.size) (hq : lo ≤ q) (hr : ∀ b, row = some b → lo ≤ b) : Below lo w w' :=
  ⟨h.os, h.tape, h.output, h.size, fun b hb => h.block b (by omega) (by omega) (fun e => by have := hr b e.symm; omega)⟩

set_option maxRecDepth 100000 in
set_option maxHeartbeats 2000000 in
theorem iAddNum (q : Nat) (r b : Rs) (u : Value) (ba : Option Addr) (bn bc : Nat) (w : World) (hq : Blk w q (r.cs u)) :
    Calls Tryd.prog 67 #[.pointer (some ⟨q, 0, none⟩), .agg #[.slice ba bn bc, .int .i64 b.n, .bool b.has, .int .i64 b.v.ty, .int .i64 b.v.n, .string b.v.s]] w fun e w' => e = .returned (.tuple #[]) ∧ Blk w' q ((addL 2 r b).cs u) ∧ On q none w w' := by
  have hlt : q < w.heap.size := Blk.lt hq
  obtain ⟨rr, n, h, ⟨vt, vn, vs⟩⟩ := r
  obtain ⟨br, m, mh, ⟨mt, mn, ms⟩⟩ := b
  simp only [Rs.cs] at hq
  dsimp only
  have A1 := below_alloc w (.cells #[.slice ba bn bc, .int .i64 m, .bool mh, .int .i64 mt, .int .i64 mn, .string ms] 50)
  have C1 := blk_new w [.slice ba bn bc, .int .i64 m, .bool mh, .int .i64 mt, .int .i64 mn, .string ms] 50
  have Q1 := hq.below A1
  have O1 := (On.refl q none w).below A1
  generalize hw1 : w.alloc (.cells #[.slice ba bn bc, .int .i64 m, .bool mh, .int .i64 mt, .int .i64 mn, .string ms] 50) = w1 at A1 C1 Q1 O1
  have HW1 := Lib.hid hw1
  generalize hpp : w.heap.size = p at C1 hlt A1
  have HPP := Lib.hid hpp
  clear hw1 hpp hq
  have BD := (Below.refl w1.heap.size w1).drew
  have CD := C1.below BD
  have QD := Q1.below BD
  have OD := O1.below BD
  clear C1 Q1 O1 BD
  go_enter Tryd.func67, Tryd.ntmps67
  go_wp2
  rw [HW1.out]
  try rw [HPP.out]
  refine wp_region_held_drew (S := fun W => W.cell? ⟨p, 0, none⟩ = some (.slice ba bn bc) ∧ W.cell? ⟨p, 1, none⟩ = some (.int .i64 m) ∧ W.cell? ⟨p, 2, none⟩ = some (.bool mh) ∧ W.cell? ⟨p, 3, none⟩ = some (.int .i64 mt) ∧ W.cell? ⟨p, 4, none⟩ = some (.int .i64 mn) ∧ W.cell? ⟨p, 5, none⟩ = some (.string ms)) (by kernel_rfl) ⟨(CD 0 _ rfl).1, (CD 1 _ rfl).1, (CD 2 _ rfl).1, (CD 3 _ rfl).1, (CD 4 _ rfl).1, (CD 5 _ rfl).1⟩ (fun hH => ?_)
  generalize w1.drew = wd at QD CD OD hH ⊢
  refine takeH (i := 0) (d := some 4) (v := .pointer (some ⟨q, 0, none⟩)) rfl rfl (by kernel_rfl) (by kernel_rfl) (by kernel_rfl) (fun _ _ _ h => h) (Or.inl ⟨by rfl, fun W hSw => by obtain ⟨s0, s1, s2, s3, s4, s5⟩ := hSw; go_simp⟩) hH ?_
  try simp only [put_some, List.set_cons_zero, List.set_cons_succ]
  refine takeH (i := 1) (d := some 5) (v := .pointer (some ⟨q, 0, none⟩)) rfl rfl (by kernel_rfl) (by kernel_rfl) (by kernel_rfl) (fun _ _ _ h => h) (Or.inl ⟨by rfl, fun W hSw => by obtain ⟨s0, s1, s2, s3, s4, s5⟩ := hSw; go_simp⟩) hH ?_
  try simp only [put_some, List.set_cons_zero, List.set_cons_succ]
  refine takeH (i := 2) (d := some 6) (v := .pointer (some ⟨q, 1, none⟩)) rfl rfl (by kernel_rfl) (by kernel_rfl) (by kernel_rfl) (fun _ _ _ h => h) (Or.inl ⟨by rfl, fun W hSw => by obtain ⟨s0, s1, s2, s3, s4, s5⟩ := hSw; go_simp⟩) hH ?_
  try simp only [put_some, List.set_cons_zero, List.set_cons_succ]
  refine takeH (i := 4) (d := some 8) (v := .pointer (some ⟨p, 1, none⟩)) rfl rfl (by kernel_rfl) (by kernel_rfl) (by kernel_rfl) (fun _ _ _ h => h) (Or.inl ⟨by rfl, fun W hSw => by obtain ⟨s0, s1, s2, s3, s4, s5⟩ := hSw; go_simp⟩) hH ?_
  try simp only [put_some, List.set_cons_zero, List.set_cons_succ]
  refine takeH (i := 5) (d := some 9) (v := .int .i64 m) rfl rfl (by kernel_rfl) (by kernel_rfl) (by kernel_rfl) (fun _ _ _ h => h) (Or.inl ⟨by rfl, fun W hSw => by obtain ⟨s0, s1, s2, s3, s4, s5⟩ := hSw; go_simp⟩) hH ?_
  try simp only [put_some, List.set_cons_zero, List.set_cons_succ]
  refine wpAnyH_ready (rs := [3]) (by kernel_rfl) (by simp) ?_
  refine AllReadyH.cons rfl (fun K hK => ?_) AllReadyH.nil
  obtain ⟨c1, f1⟩ := QD 1 _ rfl
  go_simp
  refine hK.out _ _ hH (fun hH => ?_)
  clear hK K
  refine takeH (i := 6) (d := some 10) (v := .int .i64 (IntKind.i64.wrap (n + m))) rfl rfl (by kernel_rfl) (by kernel_rfl) (by kernel_rfl) (fun _ _ _ h => h) (Or.inl ⟨by rfl, fun W hSw => by obtain ⟨s0, s1, s2, s3, s4, s5⟩ := hSw; go_simp⟩) hH ?_
  try simp only [put_some, List.set_cons_zero, List.set_cons_succ]
  refine takeH (i := 7) (d := some 11) (v := .pointer (some ⟨q, 0, none⟩)) rfl rfl (by kernel_rfl) (by kernel_rfl) (by kernel_rfl) (fun _ _ _ h => h) (Or.inl ⟨by rfl, fun W hSw => by obtain ⟨s0, s1, s2, s3, s4, s5⟩ := hSw; go_simp⟩) hH ?_
  try simp only [put_some, List.set_cons_zero, List.set_cons_succ]
  refine takeH (i := 8) (d := some 12) (v := .pointer (some ⟨q, 1, none⟩)) rfl rfl (by kernel_rfl) (by kernel_rfl) (by kernel_rfl) (fun _ _ _ h => h) (Or.inl ⟨by rfl, fun W hSw => by obtain ⟨s0, s1, s2, s3, s4, s5⟩ := hSw; go_simp⟩) hH ?_
  try simp only [put_some, List.set_cons_zero, List.set_cons_succ]
  refine wpAnyH_ready (rs := [9]) (by kernel_rfl) (by simp) ?_
  refine AllReadyH.cons rfl (fun K hK => ?_) AllReadyH.nil
  go_simp
  refine hK.out _ _ ?_ (fun hH => ?_)
  · exact ⟨((CD.other (by simp; omega) _) 0 _ rfl).1, ((CD.other (by simp; omega) _) 1 _ rfl).1, ((CD.other (by simp; omega) _) 2 _ rfl).1, ((CD.other (by simp; omega) _) 3 _ rfl).1, ((CD.other (by simp; omega) _) 4 _ rfl).1, ((CD.other (by simp; omega) _) 5 _ rfl).1⟩
  clear hK K
  refine wpAnyH_done (by kernel_rfl) ?_ _
  go_wp2
  go_end0
  exact ⟨rfl, QD.set 1 _, OD.set 1 _⟩

end Go.Proofs.YtkofafefnlommaaDoor

/- The program's keepLeast (written by mk_J12.py). -/
namespace Go.Proofs.YtkofafefnlommaaDoor
open Go.RowKit

set_option maxRecDepth 100000 in
set_option maxHeartbeats 2000000 in
theorem iKeepLeast (q : Nat) (r b : Rs) (u : Value) (ba : Option Addr) (bn bc : Nat) (w : World) (hq : Blk w q (r.cs u)) :
    Calls Tryd.prog 73 #[.pointer (some ⟨q, 0, none⟩), .agg #[.slice ba bn bc, .int .i64 b.n, .bool b.has, .int .i64 b.v.ty, .int .i64 b.v.n, .string b.v.s]] w fun e w' => e = .returned (.tuple #[]) ∧ Blk w' q ((addL 4 r b).cs u) ∧ On q none w w' := by
  have hlt : q < w.heap.size := Blk.lt hq
  obtain ⟨rr, n, h, ⟨vt, vn, vs⟩⟩ := r
  obtain ⟨br, m, mh, ⟨mt, mn, ms⟩⟩ := b
  simp only [Rs.cs] at hq
  dsimp only
  have A1 := below_alloc w (.cells #[.slice ba bn bc, .int .i64 m, .bool mh, .int .i64 mt, .int .i64 mn, .string ms] 50)
  have C1 := blk_new w [.slice ba bn bc, .int .i64 m, .bool mh, .int .i64 mt, .int .i64 mn, .string ms] 50
  have Q1 := hq.below A1
  have O1 := (On.refl q none w).below A1
  generalize hw1 : w.alloc (.cells #[.slice ba bn bc, .int .i64 m, .bool mh, .int .i64 mt, .int .i64 mn, .string ms] 50) = w1 at A1 C1 Q1 O1
  have HW1 := Lib.hid hw1
  generalize hpp : w.heap.size = p at C1 hlt A1
  have HPP := Lib.hid hpp
  clear hw1 hpp hq
  cases mh with
  | false =>
    have HCS : Hid ((addL 4 ⟨rr, n, h, ⟨vt, vn, vs⟩⟩ ⟨br, m, false, ⟨mt, mn, ms⟩⟩).cs u = [u, .int .i64 n, .bool h, .int .i64 vt, .int .i64 vn, .string vs]) := by show _ = _; simp [addL, Rs.cs]
    go_enter Tryd.func73, Tryd.ntmps73
    go_wp2
    rw [HW1.out]
    try rw [HPP.out]
    have BDd := (Below.refl w1.heap.size w1).drew
    have Cd := C1.below BDd
    have Qd := Q1.below BDd
    have Od := O1.below BDd
    clear C1 Q1 O1 BDd
    refine wp_region_held_drew (S := fun W => W.cell? ⟨p, 0, none⟩ = some (.slice ba bn bc) ∧ W.cell? ⟨p, 1, none⟩ = some (.int .i64 m) ∧ W.cell? ⟨p, 2, none⟩ = some (.bool false) ∧ W.cell? ⟨p, 3, none⟩ = some (.int .i64 mt) ∧ W.cell? ⟨p, 4, none⟩ = some (.int .i64 mn) ∧ W.cell? ⟨p, 5, none⟩ = some (.string ms) ∧ W.cell? ⟨q, 0, none⟩ = some (u) ∧ W.cell? ⟨q, 1, none⟩ = some (.int .i64 n) ∧ W.cell? ⟨q, 2, none⟩ = some (.bool h) ∧ W.cell? ⟨q, 3, none⟩ = some (.int .i64 vt) ∧ W.cell? ⟨q, 4, none⟩ = some (.int .i64 vn) ∧ W.cell? ⟨q, 5, none⟩ = some (.string vs)) (by kernel_rfl) ⟨(Cd 0 _ rfl).1, (Cd 1 _ rfl).1, (Cd 2 _ rfl).1, (Cd 3 _ rfl).1, (Cd 4 _ rfl).1, (Cd 5 _ rfl).1, (Qd 0 _ rfl).1, (Qd 1 _ rfl).1, (Qd 2 _ rfl).1, (Qd 3 _ rfl).1, (Qd 4 _ rfl).1, (Qd 5 _ rfl).1⟩ (fun hH => ?_)
    generalize w1.drew = wd at Qd Cd Od hH ⊢
    refine takeH (i := 0) (d := some 4) (v := .pointer (some ⟨p, 2, none⟩)) rfl rfl (by kernel_rfl) (by kernel_rfl) (by kernel_rfl) (fun _ _ _ h => h) (Or.inl ⟨by rfl, fun W hSw => by obtain ⟨s0, s1, s2, s3, s4, s5, s6, s7, s8, s9, s10, s11⟩ := hSw; go_simp⟩) hH ?_
    try simp only [put_some, List.set_cons_zero, List.set_cons_succ]
    refine takeH (i := 1) (d := some 5) (v := .bool false) rfl rfl (by kernel_rfl) (by kernel_rfl) (by kernel_rfl) (fun _ _ _ h => h) (Or.inl ⟨by rfl, fun W hSw => by obtain ⟨s0, s1, s2, s3, s4, s5, s6, s7, s8, s9, s10, s11⟩ := hSw; go_simp⟩) hH ?_
    try simp only [put_some, List.set_cons_zero, List.set_cons_succ]
    refine takeH (i := 2) (d := some 6) (v := .bool false) rfl rfl (by kernel_rfl) (by kernel_rfl) (by kernel_rfl) (fun _ _ _ h => h) (Or.inl ⟨by rfl, fun W hSw => by obtain ⟨s0, s1, s2, s3, s4, s5, s6, s7, s8, s9, s10, s11⟩ := hSw; go_simp⟩) hH ?_
    try simp only [put_some, List.set_cons_zero, List.set_cons_succ]
    refine takeH (i := 3) (d := some 7) (v := undef) rfl rfl (by kernel_rfl) (by kernel_rfl) (by kernel_rfl) (fun _ _ _ h => h) (Or.inr ⟨by rfl, rfl⟩) hH ?_
    try simp only [put_some, List.set_cons_zero, List.set_cons_succ]
    refine takeH (i := 4) (d := some 8) (v := undef) rfl rfl (by kernel_rfl) (by kernel_rfl) (by kernel_rfl) (fun _ _ _ h => h) (Or.inr ⟨by rfl, rfl⟩) hH ?_
    try simp only [put_some, List.set_cons_zero, List.set_cons_succ]
    refine takeH (i := 5) (d := some 9) (v := undef) rfl rfl (by kernel_rfl) (by kernel_rfl) (by kernel_rfl) (fun _ _ _ h => h) (Or.inr ⟨by rfl, rfl⟩) hH ?_
    try simp only [put_some, List.set_cons_zero, List.set_cons_succ]
    refine takeH (i := 6) (d := some 10) (v := undef) rfl rfl (by kernel_rfl) (by kernel_rfl) (by kernel_rfl) (fun _ _ _ h => h) (Or.inr ⟨by rfl, rfl⟩) hH ?_
    try simp only [put_some, List.set_cons_zero, List.set_cons_succ]
    refine takeH (i := 7) (d := some 11) (v := undef) rfl rfl (by kernel_rfl) (by kernel_rfl) (by kernel_rfl) (fun _ _ _ h => h) (Or.inr ⟨by rfl, rfl⟩) hH ?_
    try simp only [put_some, List.set_cons_zero, List.set_cons_succ]
    refine takeH (i := 8) (d := some 12) (v := undef) rfl rfl (by kernel_rfl) (by kernel_rfl) (by kernel_rfl) (fun _ _ _ h => h) (Or.inr ⟨by rfl, rfl⟩) hH ?_
    try simp only [put_some, List.set_cons_zero, List.set_cons_succ]
    refine takeH (i := 9) (d := some 13) (v := undef) rfl rfl (by kernel_rfl) (by kernel_rfl) (by kernel_rfl) (fun _ _ _ h => h) (Or.inr ⟨by rfl, rfl⟩) hH ?_
    try simp only [put_some, List.set_cons_zero, List.set_cons_succ]
    refine takeH (i := 10) (d := some 14) (v := undef) rfl rfl (by kernel_rfl) (by kernel_rfl) (by kernel_rfl) (fun _ _ _ h => h) (Or.inr ⟨by rfl, rfl⟩) hH ?_
    try simp only [put_some, List.set_cons_zero, List.set_cons_succ]
    refine takeH (i := 11) (d := some 15) (v := undef) rfl rfl (by kernel_rfl) (by kernel_rfl) (by kernel_rfl) (fun _ _ _ h => h) (Or.inr ⟨by rfl, rfl⟩) hH ?_
    try simp only [put_some, List.set_cons_zero, List.set_cons_succ]
    refine takeH (i := 12) (d := some 16) (v := undef) rfl rfl (by kernel_rfl) (by kernel_rfl) (by kernel_rfl) (fun _ _ _ h => h) (Or.inr ⟨by rfl, rfl⟩) hH ?_
    try simp only [put_some, List.set_cons_zero, List.set_cons_succ]
    refine takeH (i := 13) (d := some 17) (v := undef) rfl rfl (by kernel_rfl) (by kernel_rfl) (by kernel_rfl) (fun _ _ _ h => h) (Or.inr ⟨by rfl, rfl⟩) hH ?_
    try simp only [put_some, List.set_cons_zero, List.set_cons_succ]
    refine takeH (i := 14) (d := some 18) (v := undef) rfl rfl (by kernel_rfl) (by kernel_rfl) (by kernel_rfl) (fun _ _ _ h => h) (Or.inr ⟨by rfl, rfl⟩) hH ?_
    try simp only [put_some, List.set_cons_zero, List.set_cons_succ]
    refine wpAnyH_ready (rs := [15]) (by kernel_rfl) (by simp) ?_
    refine AllReadyH.cons rfl (fun K hK => ?_) AllReadyH.nil
    go_simp
    refine hK.out _ _ hH (fun hH => ?_)
    clear hK K
    refine takeH (i := 16) (d := some 20) (v := undef) rfl rfl (by kernel_rfl) (by kernel_rfl) (by kernel_rfl) (fun _ _ _ h => h) (Or.inr ⟨by rfl, rfl⟩) hH ?_
    try simp only [put_some, List.set_cons_zero, List.set_cons_succ]
    refine takeH (i := 17) (d := some 21) (v := .bool false) rfl rfl (by kernel_rfl) (by kernel_rfl) (by kernel_rfl) (fun _ _ _ h => h) (Or.inl ⟨by rfl, fun W hSw => by obtain ⟨s0, s1, s2, s3, s4, s5, s6, s7, s8, s9, s10, s11⟩ := hSw; go_simp⟩) hH ?_
    try simp only [put_some, List.set_cons_zero, List.set_cons_succ]
    refine wpAnyH_done (by kernel_rfl) ?_ _
    go_wp2
    go_end0
    exact ⟨rfl, by rw [HCS.out]; exact Qd, Od⟩
  | true =>
    cases h with
    | false =>
      have HCS : Hid ((addL 4 ⟨rr, n, false, ⟨vt, vn, vs⟩⟩ ⟨br, m, true, ⟨mt, mn, ms⟩⟩).cs u = [u, .int .i64 n, .bool true, .int .i64 mt, .int .i64 mn, .string ms]) := by show _ = _; simp [addL, Rs.cs]
      go_enter Tryd.func73, Tryd.ntmps73
      go_wp2
      rw [HW1.out]
      try rw [HPP.out]
      have BDd := (Below.refl w1.heap.size w1).drew
      have Cd := C1.below BDd
      have Qd := Q1.below BDd
      have Od := O1.below BDd
      clear C1 Q1 O1 BDd
      refine wp_region_held_drew (S := fun W => W.cell? ⟨p, 0, none⟩ = some (.slice ba bn bc) ∧ W.cell? ⟨p, 1, none⟩ = some (.int .i64 m) ∧ W.cell? ⟨p, 2, none⟩ = some (.bool true) ∧ W.cell? ⟨p, 3, none⟩ = some (.int .i64 mt) ∧ W.cell? ⟨p, 4, none⟩ = some (.int .i64 mn) ∧ W.cell? ⟨p, 5, none⟩ = some (.string ms) ∧ W.cell? ⟨q, 0, none⟩ = some (u) ∧ W.cell? ⟨q, 1, none⟩ = some (.int .i64 n) ∧ W.cell? ⟨q, 2, none⟩ = some (.bool false) ∧ W.cell? ⟨q, 3, none⟩ = some (.int .i64 vt) ∧ W.cell? ⟨q, 4, none⟩ = some (.int .i64 vn) ∧ W.cell? ⟨q, 5, none⟩ = some (.string vs)) (by kernel_rfl) ⟨(Cd 0 _ rfl).1, (Cd 1 _ rfl).1, (Cd 2 _ rfl).1, (Cd 3 _ rfl).1, (Cd 4 _ rfl).1, (Cd 5 _ rfl).1, (Qd 0 _ rfl).1, (Qd 1 _ rfl).1, (Qd 2 _ rfl).1, (Qd 3 _ rfl).1, (Qd 4 _ rfl).1, (Qd 5 _ rfl).1⟩ (fun hH => ?_)
      generalize w1.drew = wd at Qd Cd Od hH ⊢
      refine takeH (i := 0) (d := some 4) (v := .pointer (some ⟨p, 2, none⟩)) rfl rfl (by kernel_rfl) (by kernel_rfl) (by kernel_rfl) (fun _ _ _ h => h) (Or.inl ⟨by rfl, fun W hSw => by obtain ⟨s0, s1, s2, s3, s4, s5, s6, s7, s8, s9, s10, s11⟩ := hSw; go_simp⟩) hH ?_
      try simp only [put_some, List.set_cons_zero, List.set_cons_succ]
      refine takeH (i := 1) (d := some 5) (v := .bool true) rfl rfl (by kernel_rfl) (by kernel_rfl) (by kernel_rfl) (fun _ _ _ h => h) (Or.inl ⟨by rfl, fun W hSw => by obtain ⟨s0, s1, s2, s3, s4, s5, s6, s7, s8, s9, s10, s11⟩ := hSw; go_simp⟩) hH ?_
      try simp only [put_some, List.set_cons_zero, List.set_cons_succ]
      refine takeH (i := 2) (d := some 6) (v := .bool true) rfl rfl (by kernel_rfl) (by kernel_rfl) (by kernel_rfl) (fun _ _ _ h => h) (Or.inl ⟨by rfl, fun W hSw => by obtain ⟨s0, s1, s2, s3, s4, s5, s6, s7, s8, s9, s10, s11⟩ := hSw; go_simp⟩) hH ?_
      try simp only [put_some, List.set_cons_zero, List.set_cons_succ]
      refine takeH (i := 3) (d := some 7) (v := .pointer (some ⟨q, 0, none⟩)) rfl rfl (by kernel_rfl) (by kernel_rfl) (by kernel_rfl) (fun _ _ _ h => h) (Or.inl ⟨by rfl, fun W hSw => by obtain ⟨s0, s1, s2, s3, s4, s5, s6, s7, s8, s9, s10, s11⟩ := hSw; go_simp⟩) hH ?_
      try simp only [put_some, List.set_cons_zero, List.set_cons_succ]
      refine takeH (i := 4) (d := some 8) (v := .pointer (some ⟨q, 0, none⟩)) rfl rfl (by kernel_rfl) (by kernel_rfl) (by kernel_rfl) (fun _ _ _ h => h) (Or.inl ⟨by rfl, fun W hSw => by obtain ⟨s0, s1, s2, s3, s4, s5, s6, s7, s8, s9, s10, s11⟩ := hSw; go_simp⟩) hH ?_
      try simp only [put_some, List.set_cons_zero, List.set_cons_succ]
      refine takeH (i := 5) (d := some 9) (v := .pointer (some ⟨q, 2, none⟩)) rfl rfl (by kernel_rfl) (by kernel_rfl) (by kernel_rfl) (fun _ _ _ h => h) (Or.inl ⟨by rfl, fun W hSw => by obtain ⟨s0, s1, s2, s3, s4, s5, s6, s7, s8, s9, s10, s11⟩ := hSw; go_simp⟩) hH ?_
      try simp only [put_some, List.set_cons_zero, List.set_cons_succ]
      refine takeH (i := 6) (d := some 10) (v := .bool false) rfl rfl (by kernel_rfl) (by kernel_rfl) (by kernel_rfl) (fun _ _ _ h => h) (Or.inl ⟨by rfl, fun W hSw => by obtain ⟨s0, s1, s2, s3, s4, s5, s6, s7, s8, s9, s10, s11⟩ := hSw; go_simp⟩) hH ?_
      try simp only [put_some, List.set_cons_zero, List.set_cons_succ]
      refine takeH (i := 7) (d := some 11) (v := .bool true) rfl rfl (by kernel_rfl) (by kernel_rfl) (by kernel_rfl) (fun _ _ _ h => h) (Or.inl ⟨by rfl, fun W hSw => by obtain ⟨s0, s1, s2, s3, s4, s5, s6, s7, s8, s9, s10, s11⟩ := hSw; go_simp⟩) hH ?_
      try simp only [put_some, List.set_cons_zero, List.set_cons_succ]
      refine takeH (i := 8) (d := some 12) (v := .bool true) rfl rfl (by kernel_rfl) (by kernel_rfl) (by kernel_rfl) (fun _ _ _ h => h) (Or.inl ⟨by rfl, fun W hSw => by obtain ⟨s0, s1, s2, s3, s4, s5, s6, s7, s8, s9, s10, s11⟩ := hSw; go_simp⟩) hH ?_
      try simp only [put_some, List.set_cons_zero, List.set_cons_succ]
      refine takeH (i := 9) (d := some 13) (v := undef) rfl rfl (by kernel_rfl) (by kernel_rfl) (by kernel_rfl) (fun _ _ _ h => h) (Or.inr ⟨by rfl, rfl⟩) hH ?_
      try simp only [put_some, List.set_cons_zero, List.set_cons_succ]
      refine takeH (i := 10) (d := some 14) (v := undef) rfl rfl (by kernel_rfl) (by kernel_rfl) (by kernel_rfl) (fun _ _ _ h => h) (Or.inr ⟨by rfl, rfl⟩) hH ?_
      try simp only [put_some, List.set_cons_zero, List.set_cons_succ]
      refine takeH (i := 11) (d := some 15) (v := undef) rfl rfl (by kernel_rfl) (by kernel_rfl) (by kernel_rfl) (fun _ _ _ h => h) (Or.inr ⟨by rfl, rfl⟩) hH ?_
      try simp only [put_some, List.set_cons_zero, List.set_cons_succ]
      refine takeH (i := 12) (d := some 16) (v := undef) rfl rfl (by kernel_rfl) (by kernel_rfl) (by kernel_rfl) (fun _ _ _ h => h) (Or.inr ⟨by rfl, rfl⟩) hH ?_
      try simp only [put_some, List.set_cons_zero, List.set_cons_succ]
      refine takeH (i := 13) (d := some 17) (v := undef) rfl rfl (by kernel_rfl) (by kernel_rfl) (by kernel_rfl) (fun _ _ _ h => h) (Or.inr ⟨by rfl, rfl⟩) hH ?_
      try simp only [put_some, List.set_cons_zero, List.set_cons_succ]
      refine takeH (i := 14) (d := some 18) (v := undef) rfl rfl (by kernel_rfl) (by kernel_rfl) (by kernel_rfl) (fun _ _ _ h => h) (Or.inr ⟨by rfl, rfl⟩) hH ?_
      try simp only [put_some, List.set_cons_zero, List.set_cons_succ]
      refine wpAnyH_ready (rs := [15]) (by kernel_rfl) (by simp) ?_
      refine AllReadyH.cons rfl (fun K hK => ?_) AllReadyH.nil
      go_simp
      refine hK.out _ _ hH (fun hH => ?_)
      clear hK K
      refine takeH (i := 16) (d := some 20) (v := .bool true) rfl rfl (by kernel_rfl) (by kernel_rfl) (by kernel_rfl) (fun _ _ _ h => h) (Or.inl ⟨by rfl, fun W hSw => by obtain ⟨s0, s1, s2, s3, s4, s5, s6, s7, s8, s9, s10, s11⟩ := hSw; go_simp⟩) hH ?_
      try simp only [put_some, List.set_cons_zero, List.set_cons_succ]
      refine takeH (i := 17) (d := some 21) (v := .bool true) rfl rfl (by kernel_rfl) (by kernel_rfl) (by kernel_rfl) (fun _ _ _ h => h) (Or.inl ⟨by rfl, fun W hSw => by obtain ⟨s0, s1, s2, s3, s4, s5, s6, s7, s8, s9, s10, s11⟩ := hSw; go_simp⟩) hH ?_
      try simp only [put_some, List.set_cons_zero, List.set_cons_succ]
      refine wpAnyH_done (by kernel_rfl) ?_ _
      go_wp2
      have BDe := (Below.refl wd.heap.size wd).drew
      have Ce := Cd.below BDe
      have Qe := Qd.below BDe
      have Oe := Od.below BDe
      clear Cd Qd Od BDe
      refine wp_region_held_drew (S := fun W => W.cell? ⟨p, 0, none⟩ = some (.slice ba bn bc) ∧ W.cell? ⟨p, 1, none⟩ = some (.int .i64 m) ∧ W.cell? ⟨p, 2, none⟩ = some (.bool true) ∧ W.cell? ⟨p, 3, none⟩ = some (.int .i64 mt) ∧ W.cell? ⟨p, 4, none⟩ = some (.int .i64 mn) ∧ W.cell? ⟨p, 5, none⟩ = some (.string ms)) (by kernel_rfl) ⟨(Ce 0 _ rfl).1, (Ce 1 _ rfl).1, (Ce 2 _ rfl).1, (Ce 3 _ rfl).1, (Ce 4 _ rfl).1, (Ce 5 _ rfl).1⟩ (fun hH => ?_)
      generalize wd.drew = we at Qe Ce Oe hH ⊢
      refine takeH (i := 0) (d := some 22) (v := .pointer (some ⟨q, 0, none⟩)) rfl rfl (by kernel_rfl) (by kernel_rfl) (by kernel_rfl) (fun _ _ _ h => h) (Or.inl ⟨by rfl, fun W hSw => by obtain ⟨s0, s1, s2, s3, s4, s5⟩ := hSw; go_simp⟩) hH ?_
      try simp only [put_some, List.set_cons_zero, List.set_cons_succ]
      refine takeH (i := 1) (d := some 23) (v := .pointer (some ⟨q, 0, none⟩)) rfl rfl (by kernel_rfl) (by kernel_rfl) (by kernel_rfl) (fun _ _ _ h => h) (Or.inl ⟨by rfl, fun W hSw => by obtain ⟨s0, s1, s2, s3, s4, s5⟩ := hSw; go_simp⟩) hH ?_
      try simp only [put_some, List.set_cons_zero, List.set_cons_succ]
      refine takeH (i := 2) (d := some 24) (v := .pointer (some ⟨p, 3, none⟩)) rfl rfl (by kernel_rfl) (by kernel_rfl) (by kernel_rfl) (fun _ _ _ h => h) (Or.inl ⟨by rfl, fun W hSw => by obtain ⟨s0, s1, s2, s3, s4, s5⟩ := hSw; go_simp⟩) hH ?_
      try simp only [put_some, List.set_cons_zero, List.set_cons_succ]
      refine takeH (i := 3) (d := some 25) (v := .agg #[.int .i64 mt, .int .i64 mn, .string ms]) rfl rfl (by kernel_rfl) (by kernel_rfl) (by kernel_rfl) (fun _ _ _ h => h) (Or.inl ⟨by rfl, fun W hSw => by obtain ⟨s0, s1, s2, s3, s4, s5⟩ := hSw; go_simp⟩) hH ?_
      try simp only [put_some, List.set_cons_zero, List.set_cons_succ]
      refine takeH (i := 4) (d := some 26) (v := .pointer (some ⟨q, 0, none⟩)) rfl rfl (by kernel_rfl) (by kernel_rfl) (by kernel_rfl) (fun _ _ _ h => h) (Or.inl ⟨by rfl, fun W hSw => by obtain ⟨s0, s1, s2, s3, s4, s5⟩ := hSw; go_simp⟩) hH ?_
      try simp only [put_some, List.set_cons_zero, List.set_cons_succ]
      refine takeH (i := 5) (d := some 27) (v := .pointer (some ⟨q, 2, none⟩)) rfl rfl (by kernel_rfl) (by kernel_rfl) (by kernel_rfl) (fun _ _ _ h => h) (Or.inl ⟨by rfl, fun W hSw => by obtain ⟨s0, s1, s2, s3, s4, s5⟩ := hSw; go_simp⟩) hH ?_
      try simp only [put_some, List.set_cons_zero, List.set_cons_succ]
      refine wpAnyH_ready (rs := [6]) (by kernel_rfl) (by simp) ?_
      refine AllReadyH.cons rfl (fun K hK => ?_) AllReadyH.nil
      obtain ⟨c2, f2⟩ := Qe 2 _ rfl
      go_simp
      refine hK.out _ _ ?_ (fun hH => ?_)
      · exact ⟨((Ce.other (p := ⟨q, 2, none⟩) (by show q ≠ p; omega) _) 0 _ rfl).1, ((Ce.other (p := ⟨q, 2, none⟩) (by show q ≠ p; omega) _) 1 _ rfl).1, ((Ce.other (p := ⟨q, 2, none⟩) (by show q ≠ p; omega) _) 2 _ rfl).1, ((Ce.other (p := ⟨q, 2, none⟩) (by show q ≠ p; omega) _) 3 _ rfl).1, ((Ce.other (p := ⟨q, 2, none⟩) (by show q ≠ p; omega) _) 4 _ rfl).1, ((Ce.other (p := ⟨q, 2, none⟩) (by show q ≠ p; omega) _) 5 _ rfl).1⟩
      clear hK K c2 f2
      refine takeH (i := 7) (d := some 28) (v := .pointer (some ⟨q, 0, none⟩)) rfl rfl (by kernel_rfl) (by kernel_rfl) (by kernel_rfl) (fun _ _ _ h => h) (Or.inl ⟨by rfl, fun W hSw => by obtain ⟨s0, s1, s2, s3, s4, s5⟩ := hSw; go_simp⟩) hH ?_
      try simp only [put_some, List.set_cons_zero, List.set_cons_succ]
      refine takeH (i := 8) (d := some 29) (v := .pointer (some ⟨q, 3, none⟩)) rfl rfl (by kernel_rfl) (by kernel_rfl) (by kernel_rfl) (fun _ _ _ h => h) (Or.inl ⟨by rfl, fun W hSw => by obtain ⟨s0, s1, s2, s3, s4, s5⟩ := hSw; go_simp⟩) hH ?_
      try simp only [put_some, List.set_cons_zero, List.set_cons_succ]
      refine wpAnyH_ready (rs := [9]) (by kernel_rfl) (by simp) ?_
      refine AllReadyH.cons rfl (fun K hK => ?_) AllReadyH.nil
      have Qf := Qe.set 2 (.bool true)
      obtain ⟨c3, f3⟩ := Qf 3 _ rfl
      obtain ⟨c4, f4⟩ := Qf 4 _ rfl
      obtain ⟨c5, f5⟩ := Qf 5 _ rfl
      go_simp
      refine hK.out _ _ ?_ (fun hH => ?_)
      · exact ⟨(((((Ce.other (p := ⟨q, 2, none⟩) (by show q ≠ p; omega) _).other (p := ⟨q, 3, none⟩) (by show q ≠ p; omega) _).other (p := ⟨q, 4, none⟩) (by show q ≠ p; omega) _).other (p := ⟨q, 5, none⟩) (by show q ≠ p; omega) _) 0 _ rfl).1, (((((Ce.other (p := ⟨q, 2, none⟩) (by show q ≠ p; omega) _).other (p := ⟨q, 3, none⟩) (by show q ≠ p; omega) _).other (p := ⟨q, 4, none⟩) (by show q ≠ p; omega) _).other (p := ⟨q, 5, none⟩) (by show q ≠ p; omega) _) 1 _ rfl).1, (((((Ce.other (p := ⟨q, 2, none⟩) (by show q ≠ p; omega) _).other (p := ⟨q, 3, none⟩) (by show q ≠ p; omega) _).other (p := ⟨q, 4, none⟩) (by show q ≠ p; omega) _).other (p := ⟨q, 5, none⟩) (by show q ≠ p; omega) _) 2 _ rfl).1, (((((Ce.other (p := ⟨q, 2, none⟩) (by show q ≠ p; omega) _).other (p := ⟨q, 3, none⟩) (by show q ≠ p; omega) _).other (p := ⟨q, 4, none⟩) (by show q ≠ p; omega) _).other (p := ⟨q, 5, none⟩) (by show q ≠ p; omega) _) 3 _ rfl).1, (((((Ce.other (p := ⟨q, 2, none⟩) (by show q ≠ p; omega) _).other (p := ⟨q, 3, none⟩) (by show q ≠ p; omega) _).other (p := ⟨q, 4, none⟩) (by show q ≠ p; omega) _).other (p := ⟨q, 5, none⟩) (by show q ≠ p; omega) _) 4 _ rfl).1, (((((Ce.other (p := ⟨q, 2, none⟩) (by show q ≠ p; omega) _).other (p := ⟨q, 3, none⟩) (by show q ≠ p; omega) _).other (p := ⟨q, 4, none⟩) (by show q ≠ p; omega) _).other (p := ⟨q, 5, none⟩) (by show q ≠ p; omega) _) 5 _ rfl).1⟩
      clear hK K c3 f3 c4 f4 c5 f5 Qf
      refine wpAnyH_done (by kernel_rfl) ?_ _
      go_wp2
      go_end0
      exact ⟨rfl, by rw [HCS.out]; exact (((Qe.set 2 _).set 3 _).set 4 _).set 5 _, (((Oe.set 2 _).set 3 _).set 4 _).set 5 _⟩
    | true =>
      have HKP : Hid (∀ W, Below w1.heap.size w1 W → W.cell? ⟨p, 0, none⟩ = some (.slice ba bn bc) ∧ W.cell? ⟨p, 1, none⟩ = some (.int .i64 m) ∧ W.cell? ⟨p, 2, none⟩ = some (.bool true) ∧ W.cell? ⟨p, 3, none⟩ = some (.int .i64 mt) ∧ W.cell? ⟨p, 4, none⟩ = some (.int .i64 mn) ∧ W.cell? ⟨p, 5, none⟩ = some (.string ms) ∧ W.cell? ⟨q, 0, none⟩ = some (u) ∧ W.cell? ⟨q, 1, none⟩ = some (.int .i64 n) ∧ W.cell? ⟨q, 2, none⟩ = some (.bool true) ∧ W.cell? ⟨q, 3, none⟩ = some (.int .i64 vt) ∧ W.cell? ⟨q, 4, none⟩ = some (.int .i64 vn) ∧ W.cell? ⟨q, 5, none⟩ = some (.string vs)) := fun W h => ⟨((C1.below h) 0 _ rfl).1, ((C1.below h) 1 _ rfl).1, ((C1.below h) 2 _ rfl).1, ((C1.below h) 3 _ rfl).1, ((C1.below h) 4 _ rfl).1, ((C1.below h) 5 _ rfl).1, ((Q1.below h) 0 _ rfl).1, ((Q1.below h) 1 _ rfl).1, ((Q1.below h) 2 _ rfl).1, ((Q1.below h) 3 _ rfl).1, ((Q1.below h) 4 _ rfl).1, ((Q1.below h) 5 _ rfl).1⟩
      have HIL := Lib.hid (fun W => iLessVal ⟨mt, mn, ms⟩ ⟨vt, vn, vs⟩ W)
      cases hlv : lessV ⟨mt, mn, ms⟩ ⟨vt, vn, vs⟩ with
      | false =>
        have HLV := Lib.hid hlv
        rw [hlv] at HIL
        clear hlv
        have HCS : Hid ((addL 4 ⟨rr, n, true, ⟨vt, vn, vs⟩⟩ ⟨br, m, true, ⟨mt, mn, ms⟩⟩).cs u = [u, .int .i64 n, .bool true, .int .i64 vt, .int .i64 vn, .string vs]) := by show _ = _; simp [addL, Rs.cs, HLV.out]
        go_enter Tryd.func73, Tryd.ntmps73
        go_wp2
        rw [HW1.out]
        try rw [HPP.out]
        have hB' := (Below.refl w1.heap.size w1).drew
        go_region_held3 (fun W => W.cell? ⟨p, 0, none⟩ = some (.slice ba bn bc) ∧ W.cell? ⟨p, 1, none⟩ = some (.int .i64 m) ∧ W.cell? ⟨p, 2, none⟩ = some (.bool true) ∧ W.cell? ⟨p, 3, none⟩ = some (.int .i64 mt) ∧ W.cell? ⟨p, 4, none⟩ = some (.int .i64 mn) ∧ W.cell? ⟨p, 5, none⟩ = some (.string ms) ∧ W.cell? ⟨q, 0, none⟩ = some (u) ∧ W.cell? ⟨q, 1, none⟩ = some (.int .i64 n) ∧ W.cell? ⟨q, 2, none⟩ = some (.bool true) ∧ W.cell? ⟨q, 3, none⟩ = some (.int .i64 vt) ∧ W.cell? ⟨q, 4, none⟩ = some (.int .i64 vn) ∧ W.cell? ⟨q, 5, none⟩ = some (.string vs)) (exact HKP.out _ hB') ((go_at_call 93; (with_reducible refine (HIL.out _).mono ?_); rintro e wX ⟨rfl, hb⟩; replace hB' := below_then hB' hb hB'.size))
        all_goals
          clear HIL HKP
          have Cx := C1.below hB'
          have Qx := Q1.below hB'
          have Ox := O1.below hB'
          clear C1 Q1 O1 hB'
          go_wp2
          go_end0
          exact ⟨rfl, by rw [HCS.out]; exact Qx, Ox⟩
      | true =>
        have HLV := Lib.hid hlv
        rw [hlv] at HIL
        clear hlv
        have HCS : Hid ((addL 4 ⟨rr, n, true, ⟨vt, vn, vs⟩⟩ ⟨br, m, true, ⟨mt, mn, ms⟩⟩).cs u = [u, .int .i64 n, .bool true, .int .i64 mt, .int .i64 mn, .string ms]) := by show _ = _; simp [addL, Rs.cs, HLV.out]
        go_enter Tryd.func73, Tryd.ntmps73
        go_wp2
        rw [HW1.out]
        try rw [HPP.out]
        have hB' := (Below.refl w1.heap.size w1).drew
        go_region_held3 (fun W => W.cell? ⟨p, 0, none⟩ = some (.slice ba bn bc) ∧ W.cell? ⟨p, 1, none⟩ = some (.int .i64 m) ∧ W.cell? ⟨p, 2, none⟩ = some (.bool true) ∧ W.cell? ⟨p, 3, none⟩ = some (.int .i64 mt) ∧ W.cell? ⟨p, 4, none⟩ = some (.int .i64 mn) ∧ W.cell? ⟨p, 5, none⟩ = some (.string ms) ∧ W.cell? ⟨q, 0, none⟩ = some (u) ∧ W.cell? ⟨q, 1, none⟩ = some (.int .i64 n) ∧ W.cell? ⟨q, 2, none⟩ = some (.bool true) ∧ W.cell? ⟨q, 3, none⟩ = some (.int .i64 vt) ∧ W.cell? ⟨q, 4, none⟩ = some (.int .i64 vn) ∧ W.cell? ⟨q, 5, none⟩ = some (.string vs)) (exact HKP.out _ hB') ((go_at_call 93; (with_reducible refine (HIL.out _).mono ?_); rintro e wX ⟨rfl, hb⟩; replace hB' := below_then hB' hb hB'.size))
        all_goals
          clear HIL HKP
          have Cx := C1.below hB'
          have Qx := Q1.below hB'
          have Ox := O1.below hB'
          clear C1 Q1 O1 hB'
          go_wp2
          have BDe := (Below.refl wX.heap.size wX).drew
          have Ce := Cx.below BDe
          have Qe := Qx.below BDe
          have Oe := Ox.below BDe
          clear Cx Qx Ox BDe
          refine wp_region_held_drew (S := fun W => W.cell? ⟨p, 0, none⟩ = some (.slice ba bn bc) ∧ W.cell? ⟨p, 1, none⟩ = some (.int .i64 m) ∧ W.cell? ⟨p, 2, none⟩ = some (.bool true) ∧ W.cell? ⟨p, 3, none⟩ = some (.int .i64 mt) ∧ W.cell? ⟨p, 4, none⟩ = some (.int .i64 mn) ∧ W.cell? ⟨p, 5, none⟩ = some (.string ms)) (by kernel_rfl) ⟨(Ce 0 _ rfl).1, (Ce 1 _ rfl).1, (Ce 2 _ rfl).1, (Ce 3 _ rfl).1, (Ce 4 _ rfl).1, (Ce 5 _ rfl).1⟩ (fun hH => ?_)
          generalize wX.drew = we at Qe Ce Oe hH ⊢
          refine takeH (i := 0) (d := some 22) (v := .pointer (some ⟨q, 0, none⟩)) rfl rfl (by kernel_rfl) (by kernel_rfl) (by kernel_rfl) (fun _ _ _ h => h) (Or.inl ⟨by rfl, fun W hSw => by obtain ⟨s0, s1, s2, s3, s4, s5⟩ := hSw; go_simp⟩) hH ?_
          try simp only [put_some, List.set_cons_zero, List.set_cons_succ]
          refine takeH (i := 1) (d := some 23) (v := .pointer (some ⟨q, 0, none⟩)) rfl rfl (by kernel_rfl) (by kernel_rfl) (by kernel_rfl) (fun _ _ _ h => h) (Or.inl ⟨by rfl, fun W hSw => by obtain ⟨s0, s1, s2, s3, s4, s5⟩ := hSw; go_simp⟩) hH ?_
          try simp only [put_some, List.set_cons_zero, List.set_cons_succ]
          refine takeH (i := 2) (d := some 24) (v := .pointer (some ⟨p, 3, none⟩)) rfl rfl (by kernel_rfl) (by kernel_rfl) (by kernel_rfl) (fun _ _ _ h => h) (Or.inl ⟨by rfl, fun W hSw => by obtain ⟨s0, s1, s2, s3, s4, s5⟩ := hSw; go_simp⟩) hH ?_
          try simp only [put_some, List.set_cons_zero, List.set_cons_succ]
          refine takeH (i := 3) (d := some 25) (v := .agg #[.int .i64 mt, .int .i64 mn, .string ms]) rfl rfl (by kernel_rfl) (by kernel_rfl) (by kernel_rfl) (fun _ _ _ h => h) (Or.inl ⟨by rfl, fun W hSw => by obtain ⟨s0, s1, s2, s3, s4, s5⟩ := hSw; go_simp⟩) hH ?_
          try simp only [put_some, List.set_cons_zero, List.set_cons_succ]
          refine takeH (i := 4) (d := some 26) (v := .pointer (some ⟨q, 0, none⟩)) rfl rfl (by kernel_rfl) (by kernel_rfl) (by kernel_rfl) (fun _ _ _ h => h) (Or.inl ⟨by rfl, fun W hSw => by obtain ⟨s0, s1, s2, s3, s4, s5⟩ := hSw; go_simp⟩) hH ?_
          try simp only [put_some, List.set_cons_zero, List.set_cons_succ]
          refine takeH (i := 5) (d := some 27) (v := .pointer (some ⟨q, 2, none⟩)) rfl rfl (by kernel_rfl) (by kernel_rfl) (by kernel_rfl) (fun _ _ _ h => h) (Or.inl ⟨by rfl, fun W hSw => by obtain ⟨s0, s1, s2, s3, s4, s5⟩ := hSw; go_simp⟩) hH ?_
          try simp only [put_some, List.set_cons_zero, List.set_cons_succ]
          refine wpAnyH_ready (rs := [6]) (by kernel_rfl) (by simp) ?_
          refine AllReadyH.cons rfl (fun K hK => ?_) AllReadyH.nil
          obtain ⟨c2, f2⟩ := Qe 2 _ rfl
          go_simp
          refine hK.out _ _ ?_ (fun hH => ?_)
          · exact ⟨((Ce.other (p := ⟨q, 2, none⟩) (by show q ≠ p; omega) _) 0 _ rfl).1, ((Ce.other (p := ⟨q, 2, none⟩) (by show q ≠ p; omega) _) 1 _ rfl).1, ((Ce.other (p := ⟨q, 2, none⟩) (by show q ≠ p; omega) _) 2 _ rfl).1, ((Ce.other (p := ⟨q, 2, none⟩) (by show q ≠ p; omega) _) 3 _ rfl).1, ((Ce.other (p := ⟨q, 2, none⟩) (by show q ≠ p; omega) _) 4 _ rfl).1, ((Ce.other (p := ⟨q, 2, none⟩) (by show q ≠ p; omega) _) 5 _ rfl).1⟩
          clear hK K c2 f2
          refine takeH (i := 7) (d := some 28) (v := .pointer (some ⟨q, 0, none⟩)) rfl rfl (by kernel_rfl) (by kernel_rfl) (by kernel_rfl) (fun _ _ _ h => h) (Or.inl ⟨by rfl, fun W hSw => by obtain ⟨s0, s1, s2, s3, s4, s5⟩ := hSw; go_simp⟩) hH ?_
          try simp only [put_some, List.set_cons_zero, List.set_cons_succ]
          refine takeH (i := 8) (d := some 29) (v := .pointer (some ⟨q, 3, none⟩)) rfl rfl (by kernel_rfl) (by kernel_rfl) (by kernel_rfl) (fun _ _ _ h => h) (Or.inl ⟨by rfl, fun W hSw => by obtain ⟨s0, s1, s2, s3, s4, s5⟩ := hSw; go_simp⟩) hH ?_
          try simp only [put_some, List.set_cons_zero, List.set_cons_succ]
          refine wpAnyH_ready (rs := [9]) (by kernel_rfl) (by simp) ?_
          refine AllReadyH.cons rfl (fun K hK => ?_) AllReadyH.nil
          have Qf := Qe.set 2 (.bool true)
          obtain ⟨c3, f3⟩ := Qf 3 _ rfl
          obtain ⟨c4, f4⟩ := Qf 4 _ rfl
          obtain ⟨c5, f5⟩ := Qf 5 _ rfl
          go_simp
          refine hK.out _ _ ?_ (fun hH => ?_)
          · exact ⟨(((((Ce.other (p := ⟨q, 2, none⟩) (by show q ≠ p; omega) _).other (p := ⟨q, 3, none⟩) (by show q ≠ p; omega) _).other (p := ⟨q, 4, none⟩) (by show q ≠ p; omega) _).other (p := ⟨q, 5, none⟩) (by show q ≠ p; omega) _) 0 _ rfl).1, (((((Ce.other (p := ⟨q, 2, none⟩) (by show q ≠ p; omega) _).other (p := ⟨q, 3, none⟩) (by show q ≠ p; omega) _).other (p := ⟨q, 4, none⟩) (by show q ≠ p; omega) _).other (p := ⟨q, 5, none⟩) (by show q ≠ p; omega) _) 1 _ rfl).1, (((((Ce.other (p := ⟨q, 2, none⟩) (by show q ≠ p; omega) _).other (p := ⟨q, 3, none⟩) (by show q ≠ p; omega) _).other (p := ⟨q, 4, none⟩) (by show q ≠ p; omega) _).other (p := ⟨q, 5, none⟩) (by show q ≠ p; omega) _) 2 _ rfl).1, (((((Ce.other (p := ⟨q, 2, none⟩) (by show q ≠ p; omega) _).other (p := ⟨q, 3, none⟩) (by show q ≠ p; omega) _).other (p := ⟨q, 4, none⟩) (by show q ≠ p; omega) _).other (p := ⟨q, 5, none⟩) (by show q ≠ p; omega) _) 3 _ rfl).1, (((((Ce.other (p := ⟨q, 2, none⟩) (by show q ≠ p; omega) _).other (p := ⟨q, 3, none⟩) (by show q ≠ p; omega) _).other (p := ⟨q, 4, none⟩) (by show q ≠ p; omega) _).other (p := ⟨q, 5, none⟩) (by show q ≠ p; omega) _) 4 _ rfl).1, (((((Ce.other (p := ⟨q, 2, none⟩) (by show q ≠ p; omega) _).other (p := ⟨q, 3, none⟩) (by show q ≠ p; omega) _).other (p := ⟨q, 4, none⟩) (by show q ≠ p; omega) _).other (p := ⟨q, 5, none⟩) (by show q ≠ p; omega) _) 5 _ rfl).1⟩
          clear hK K c3 f3 c4 f4 c5 f5 Qf
          refine wpAnyH_done (by kernel_rfl) ?_ _
          go_wp2
          go_end0
          exact ⟨rfl, by rw [HCS.out]; exact (((Qe.set 2 _).set 3 _).set 4 _).set 5 _, (((Oe.set 2 _).set 3 _).set 4 _).set 5 _⟩

end Go.Proofs.YtkofafefnlommaaDoor

/- The program's keepMost (written by mk_J12.py). -/
namespace Go.Proofs.YtkofafefnlommaaDoor
open Go.RowKit

set_option maxRecDepth 100000 in
set_option maxHeartbeats 2000000 in
theorem iKeepMost (q : Nat) (r b : Rs) (u : Value) (ba : Option Addr) (bn bc : Nat) (w : World) (hq : Blk w q (r.cs u)) :
    Calls Tryd.prog 75 #[.pointer (some ⟨q, 0, none⟩), .agg #[.slice ba bn bc, .int .i64 b.n, .bool b.has, .int .i64 b.v.ty, .int .i64 b.v.n, .string b.v.s]] w fun e w' => e = .returned (.tuple #[]) ∧ Blk w' q ((addL 5 r b).cs u) ∧ On q none w w' := by
  have hlt : q < w.heap.size := Blk.lt hq
  obtain ⟨rr, n, h, ⟨vt, vn, vs⟩⟩ := r
  obtain ⟨br, m, mh, ⟨mt, mn, ms⟩⟩ := b
  simp only [Rs.cs] at hq
  dsimp only
  have A1 := below_alloc w (.cells #[.slice ba bn bc, .int .i64 m, .bool mh, .int .i64 mt, .int .i64 mn, .string ms] 50)
  have C1 := blk_new w [.slice ba bn bc, .int .i64 m, .bool mh, .int .i64 mt, .int .i64 mn, .string ms] 50
  have Q1 := hq.below A1
  have O1 := (On.refl q none w).below A1
  generalize hw1 : w.alloc (.cells #[.slice ba bn bc, .int .i64 m, .bool mh, .int .i64 mt, .int .i64 mn, .string ms] 50) = w1 at A1 C1 Q1 O1
  have HW1 := Lib.hid hw1
  generalize hpp : w.heap.size = p at C1 hlt A1
  have HPP := Lib.hid hpp
  clear hw1 hpp hq
  cases mh with
  | false =>
    have HCS : Hid ((addL 5 ⟨rr, n, h, ⟨vt, vn, vs⟩⟩ ⟨br, m, false, ⟨mt, mn, ms⟩⟩).cs u = [u, .int .i64 n, .bool h, .int .i64 vt, .int .i64 vn, .string vs]) := by show _ = _; simp [addL, Rs.cs]
    go_enter Tryd.func75, Tryd.ntmps75
    go_wp2
    rw [HW1.out]
    try rw [HPP.out]
    have BDd := (Below.refl w1.heap.size w1).drew
    have Cd := C1.below BDd
    have Qd := Q1.below BDd
    have Od := O1.below BDd
    clear C1 Q1 O1 BDd
    refine wp_region_held_drew (S := fun W => W.cell? ⟨p, 0, none⟩ = some (.slice ba bn bc) ∧ W.cell? ⟨p, 1, none⟩ = some (.int .i64 m) ∧ W.cell? ⟨p, 2, none⟩ = some (.bool false) ∧ W.cell? ⟨p, 3, none⟩ = some (.int .i64 mt) ∧ W.cell? ⟨p, 4, none⟩ = some (.int .i64 mn) ∧ W.cell? ⟨p, 5, none⟩ = some (.string ms) ∧ W.cell? ⟨q, 0, none⟩ = some (u) ∧ W.cell? ⟨q, 1, none⟩ = some (.int .i64 n) ∧ W.cell? ⟨q, 2, none⟩ = some (.bool h) ∧ W.cell? ⟨q, 3, none⟩ = some (.int .i64 vt) ∧ W.cell? ⟨q, 4, none⟩ = some (.int .i64 vn) ∧ W.cell? ⟨q, 5, none⟩ = some (.string vs)) (by kernel_rfl) ⟨(Cd 0 _ rfl).1, (Cd 1 _ rfl).1, (Cd 2 _ rfl).1, (Cd 3 _ rfl).1, (Cd 4 _ rfl).1, (Cd 5 _ rfl).1, (Qd 0 _ rfl).1, (Qd 1 _ rfl).1, (Qd 2 _ rfl).1, (Qd 3 _ rfl).1, (Qd 4 _ rfl).1, (Qd 5 _ rfl).1⟩ (fun hH => ?_)
    generalize w1.drew = wd at Qd Cd Od hH ⊢
    refine takeH (i := 0) (d := some 4) (v := .pointer (some ⟨p, 2, none⟩)) rfl rfl (by kernel_rfl) (by kernel_rfl) (by kernel_rfl) (fun _ _ _ h => h) (Or.inl ⟨by rfl, fun W hSw => by obtain ⟨s0, s1, s2, s3, s4, s5, s6, s7, s8, s9, s10, s11⟩ := hSw; go_simp⟩) hH ?_
    try simp only [put_some, List.set_cons_zero, List.set_cons_succ]
    refine takeH (i := 1) (d := some 5) (v := .bool false) rfl rfl (by kernel_rfl) (by kernel_rfl) (by kernel_rfl) (fun _ _ _ h => h) (Or.inl ⟨by rfl, fun W hSw => by obtain ⟨s0, s1, s2, s3, s4, s5, s6, s7, s8, s9, s10, s11⟩ := hSw; go_simp⟩) hH ?_
    try simp only [put_some, List.set_cons_zero, List.set_cons_succ]
    refine takeH (i := 2) (d := some 6) (v := .bool false) rfl rfl (by kernel_rfl) (by kernel_rfl) (by kernel_rfl) (fun _ _ _ h => h) (Or.inl ⟨by rfl, fun W hSw => by obtain ⟨s0, s1, s2, s3, s4, s5, s6, s7, s8, s9, s10, s11⟩ := hSw; go_simp⟩) hH ?_
    try simp only [put_some, List.set_cons_zero, List.set_cons_succ]
    refine takeH (i := 3) (d := some 7) (v := undef) rfl rfl (by kernel_rfl) (by kernel_rfl) (by kernel_rfl) (fun _ _ _ h => h) (Or.inr ⟨by rfl, rfl⟩) hH ?_
    try simp only [put_some, List.set_cons_zero, List.set_cons_succ]
    refine takeH (i := 4) (d := some 8) (v := undef) rfl rfl (by kernel_rfl) (by kernel_rfl) (by kernel_rfl) (fun _ _ _ h => h) (Or.inr ⟨by rfl, rfl⟩) hH ?_
    try simp only [put_some, List.set_cons_zero, List.set_cons_succ]
    refine takeH (i := 5) (d := some 9) (v := undef) rfl rfl (by kernel_rfl) (by kernel_rfl) (by kernel_rfl) (fun _ _ _ h => h) (Or.inr ⟨by rfl, rfl⟩) hH ?_
    try simp only [put_some, List.set_cons_zero, List.set_cons_succ]
    refine takeH (i := 6) (d := some 10) (v := undef) rfl rfl (by kernel_rfl) (by kernel_rfl) (by kernel_rfl) (fun _ _ _ h => h) (Or.inr ⟨by rfl, rfl⟩) hH ?_
    try simp only [put_some, List.set_cons_zero, List.set_cons_succ]
    refine takeH (i := 7) (d := some 11) (v := undef) rfl rfl (by kernel_rfl) (by kernel_rfl) (by kernel_rfl) (fun _ _ _ h => h) (Or.inr ⟨by rfl, rfl⟩) hH ?_
    try simp only [put_some, List.set_cons_zero, List.set_cons_succ]
    refine takeH (i := 8) (d := some 12) (v := undef) rfl rfl (by kernel_rfl) (by kernel_rfl) (by kernel_rfl) (fun _ _ _ h => h) (Or.inr ⟨by rfl, rfl⟩) hH ?_
    try simp only [put_some, List.set_cons_zero, List.set_cons_succ]
    refine takeH (i := 9) (d := some 13) (v := undef) rfl rfl (by kernel_rfl) (by kernel_rfl) (by kernel_rfl) (fun _ _ _ h => h) (Or.inr ⟨by rfl, rfl⟩) hH ?_
    try simp only [put_some, List.set_cons_zero, List.set_cons_succ]
    refine takeH (i := 10) (d := some 14) (v := undef) rfl rfl (by kernel_rfl) (by kernel_rfl) (by kernel_rfl) (fun _ _ _ h => h) (Or.inr ⟨by rfl, rfl⟩) hH ?_
    try simp only [put_some, List.set_cons_zero, List.set_cons_succ]
    refine takeH (i := 11) (d := some 15) (v := undef) rfl rfl (by kernel_rfl) (by kernel_rfl) (by kernel_rfl) (fun _ _ _ h => h) (Or.inr ⟨by rfl, rfl⟩) hH ?_
    try simp only [put_some, List.set_cons_zero, List.set_cons_succ]
    refine takeH (i := 12) (d := some 16) (v := undef) rfl rfl (by kernel_rfl) (by kernel_rfl) (by kernel_rfl) (fun _ _ _ h => h) (Or.inr ⟨by rfl, rfl⟩) hH ?_
    try simp only [put_some, List.set_cons_zero, List.set_cons_succ]
    refine takeH (i := 13) (d := some 17) (v := undef) rfl rfl (by kernel_rfl) (by kernel_rfl) (by kernel_rfl) (fun _ _ _ h => h) (Or.inr ⟨by rfl, rfl⟩) hH ?_
    try simp only [put_some, List.set_cons_zero, List.set_cons_succ]
    refine takeH (i := 14) (d := some 18) (v := undef) rfl rfl (by kernel_rfl) (by kernel_rfl) (by kernel_rfl) (fun _ _ _ h => h) (Or.inr ⟨by rfl, rfl⟩) hH ?_
    try simp only [put_some, List.set_cons_zero, List.set_cons_succ]
    refine wpAnyH_ready (rs := [15]) (by kernel_rfl) (by simp) ?_
    refine AllReadyH.cons rfl (fun K hK => ?_) AllReadyH.nil
    go_simp
    refine hK.out _ _ hH (fun hH => ?_)
    clear hK K
    refine takeH (i := 16) (d := some 20) (v := undef) rfl rfl (by kernel_rfl) (by kernel_rfl) (by kernel_rfl) (fun _ _ _ h => h) (Or.inr ⟨by rfl, rfl⟩) hH ?_
    try simp only [put_some, List.set_cons_zero, List.set_cons_succ]
    refine takeH (i := 17) (d := some 21) (v := .bool false) rfl rfl (by kernel_rfl) (by kernel_rfl) (by kernel_rfl) (fun _ _ _ h => h) (Or.inl ⟨by rfl, fun W hSw => by obtain ⟨s0, s1, s2, s3, s4, s5, s6, s7, s8, s9, s10, s11⟩ := hSw; go_simp⟩) hH ?_
    try simp only [put_some, List.set_cons_zero, List.set_cons_succ]
    refine wpAnyH_done (by kernel_rfl) ?_ _
    go_wp2
    go_end0
    exact ⟨rfl, by rw [HCS.out]; exact Qd, Od⟩
  | true =>
    cases h with
    | false =>
      have HCS : Hid ((addL 5 ⟨rr, n, false, ⟨vt, vn, vs⟩⟩ ⟨br, m, true, ⟨mt, mn, ms⟩⟩).cs u = [u, .int .i64 n, .bool true, .int .i64 mt, .int .i64 mn, .string ms]) := by show _ = _; simp [addL, Rs.cs]
      go_enter Tryd.func75, Tryd.ntmps75
      go_wp2
      rw [HW1.out]
      try rw [HPP.out]
      have BDd := (Below.refl w1.heap.size w1).drew
      have Cd := C1.below BDd
      have Qd := Q1.below BDd
      have Od := O1.below BDd
      clear C1 Q1 O1 BDd
      refine wp_region_held_drew (S := fun W => W.cell? ⟨p, 0, none⟩ = some (.slice ba bn bc) ∧ W.cell? ⟨p, 1, none⟩ = some (.int .i64 m) ∧ W.cell? ⟨p, 2, none⟩ = some (.bool true) ∧ W.cell? ⟨p, 3, none⟩ = some (.int .i64 mt) ∧ W.cell? ⟨p, 4, none⟩ = some (.int .i64 mn) ∧ W.cell? ⟨p, 5, none⟩ = some (.string ms) ∧ W.cell? ⟨q, 0, none⟩ = some (u) ∧ W.cell? ⟨q, 1, none⟩ = some (.int .i64 n) ∧ W.cell? ⟨q, 2, none⟩ = some (.bool false) ∧ W.cell? ⟨q, 3, none⟩ = some (.int .i64 vt) ∧ W.cell? ⟨q, 4, none⟩ = some (.int .i64 vn) ∧ W.cell? ⟨q, 5, none⟩ = some (.string vs)) (by kernel_rfl) ⟨(Cd 0 _ rfl).1, (Cd 1 _ rfl).1, (Cd 2 _ rfl).1, (Cd 3 _ rfl).1, (Cd 4 _ rfl).1, (Cd 5 _ rfl).1, (Qd 0 _ rfl).1, (Qd 1 _ rfl).1, (Qd 2 _ rfl).1, (Qd 3 _ rfl).1, (Qd 4 _ rfl).1, (Qd 5 _ rfl).1⟩ (fun hH => ?_)
      generalize w1.drew = wd at Qd Cd Od hH ⊢
      refine takeH (i := 0) (d := some 4) (v := .pointer (some ⟨p, 2, none⟩)) rfl rfl (by kernel_rfl) (by kernel_rfl) (by kernel_rfl) (fun _ _ _ h => h) (Or.inl ⟨by rfl, fun W hSw => by obtain ⟨s0, s1, s2, s3, s4, s5, s6, s7, s8, s9, s10, s11⟩ := hSw; go_simp⟩) hH ?_
      try simp only [put_some, List.set_cons_zero, List.set_cons_succ]
      refine takeH (i := 1) (d := some 5) (v := .bool true) rfl rfl (by kernel_rfl) (by kernel_rfl) (by kernel_rfl) (fun _ _ _ h => h) (Or.inl ⟨by rfl, fun W hSw => by obtain ⟨s0, s1, s2, s3, s4, s5, s6, s7, s8, s9, s10, s11⟩ := hSw; go_simp⟩) hH ?_
      try simp only [put_some, List.set_cons_zero, List.set_cons_succ]
      refine takeH (i := 2) (d := some 6) (v := .bool true) rfl rfl (by kernel_rfl) (by kernel_rfl) (by kernel_rfl) (fun _ _ _ h => h) (Or.inl ⟨by rfl, fun W hSw => by obtain ⟨s0, s1, s2, s3, s4, s5, s6, s7, s8, s9, s10, s11⟩ := hSw; go_simp⟩) hH ?_
      try simp only [put_some, List.set_cons_zero, List.set_cons_succ]
      refine takeH (i := 3) (d := some 7) (v := .pointer (some ⟨q, 0, none⟩)) rfl rfl (by kernel_rfl) (by kernel_rfl) (by kernel_rfl) (fun _ _ _ h => h) (Or.inl ⟨by rfl, fun W hSw => by obtain ⟨s0, s1, s2, s3, s4, s5, s6, s7, s8, s9, s10, s11⟩ := hSw; go_simp⟩) hH ?_
      try simp only [put_some, List.set_cons_zero, List.set_cons_succ]
      refine takeH (i := 4) (d := some 8) (v := .pointer (some ⟨q, 0, none⟩)) rfl rfl (by kernel_rfl) (by kernel_rfl) (by kernel_rfl) (fun _ _ _ h => h) (Or.inl ⟨by rfl, fun W hSw => by obtain ⟨s0, s1, s2, s3, s4, s5, s6, s7, s8, s9, s10, s11⟩ := hSw; go_simp⟩) hH ?_
      try simp only [put_some, List.set_cons_zero, List.set_cons_succ]
      refine takeH (i := 5) (d := some 9) (v := .pointer (some ⟨q, 2, none⟩)) rfl rfl (by kernel_rfl) (by kernel_rfl) (by kernel_rfl) (fun _ _ _ h => h) (Or.inl ⟨by rfl, fun W hSw => by obtain ⟨s0, s1, s2, s3, s4, s5, s6, s7, s8, s9, s10, s11⟩ := hSw; go_simp⟩) hH ?_
      try simp only [put_some, List.set_cons_zero, List.set_cons_succ]
      refine takeH (i := 6) (d := some 10) (v := .bool false) rfl rfl (by kernel_rfl) (by kernel_rfl) (by kernel_rfl) (fun _ _ _ h => h) (Or.inl ⟨by rfl, fun W hSw => by obtain ⟨s0, s1, s2, s3, s4, s5, s6, s7, s8, s9, s10, s11⟩ := hSw; go_simp⟩) hH ?_
      try simp only [put_some, List.set_cons_zero, List.set_cons_succ]
      refine takeH (i := 7) (d := some 11) (v := .bool true) rfl rfl (by kernel_rfl) (by kernel_rfl) (by kernel_rfl) (fun _ _ _ h => h) (Or.inl ⟨by rfl, fun W hSw => by obtain ⟨s0, s1, s2, s3, s4, s5, s6, s7, s8, s9, s10, s11⟩ := hSw; go_simp⟩) hH ?_
      try simp only [put_some, List.set_cons_zero, List.set_cons_succ]
      refine takeH (i := 8) (d := some 12) (v := .bool true) rfl rfl (by kernel_rfl) (by kernel_rfl) (by kernel_rfl) (fun _ _ _ h => h) (Or.inl ⟨by rfl, fun W hSw => by obtain ⟨s0, s1, s2, s3, s4, s5, s6, s7, s8, s9, s10, s11⟩ := hSw; go_simp⟩) hH ?_
      try simp only [put_some, List.set_cons_zero, List.set_cons_succ]
      refine takeH (i := 9) (d := some 13) (v := undef) rfl rfl (by kernel_rfl) (by kernel_rfl) (by kernel_rfl) (fun _ _ _ h => h) (Or.inr ⟨by rfl, rfl⟩) hH ?_
      try simp only [put_some, List.set_cons_zero, List.set_cons_succ]
      refine takeH (i := 10) (d := some 14) (v := undef) rfl rfl (by kernel_rfl) (by kernel_rfl) (by kernel_rfl) (fun _ _ _ h => h) (Or.inr ⟨by rfl, rfl⟩) hH ?_
      try simp only [put_some, List.set_cons_zero, List.set_cons_succ]
      refine takeH (i := 11) (d := some 15) (v := undef) rfl rfl (by kernel_rfl) (by kernel_rfl) (by kernel_rfl) (fun _ _ _ h => h) (Or.inr ⟨by rfl, rfl⟩) hH ?_
      try simp only [put_some, List.set_cons_zero, List.set_cons_succ]
      refine takeH (i := 12) (d := some 16) (v := undef) rfl rfl (by kernel_rfl) (by kernel_rfl) (by kernel_rfl) (fun _ _ _ h => h) (Or.inr ⟨by rfl, rfl⟩) hH ?_
      try simp only [put_some, List.set_cons_zero, List.set_cons_succ]
      refine takeH (i := 13) (d := some 17) (v := undef) rfl rfl (by kernel_rfl) (by kernel_rfl) (by kernel_rfl) (fun _ _ _ h => h) (Or.inr ⟨by rfl, rfl⟩) hH ?_
      try simp only [put_some, List.set_cons_zero, List.set_cons_succ]
      refine takeH (i := 14) (d := some 18) (v := undef) rfl rfl (by kernel_rfl) (by kernel_rfl) (by kernel_rfl) (fun _ _ _ h => h) (Or.inr ⟨by rfl, rfl⟩) hH ?_
      try simp only [put_some, List.set_cons_zero, List.set_cons_succ]
      refine wpAnyH_ready (rs := [15]) (by kernel_rfl) (by simp) ?_
      refine AllReadyH.cons rfl (fun K hK => ?_) AllReadyH.nil
      go_simp
      refine hK.out _ _ hH (fun hH => ?_)
      clear hK K
      refine takeH (i := 16) (d := some 20) (v := .bool true) rfl rfl (by kernel_rfl) (by kernel_rfl) (by kernel_rfl) (fun _ _ _ h => h) (Or.inl ⟨by rfl, fun W hSw => by obtain ⟨s0, s1, s2, s3, s4, s5, s6, s7, s8, s9, s10, s11⟩ := hSw; go_simp⟩) hH ?_
      try simp only [put_some, List.set_cons_zero, List.set_cons_succ]
      refine takeH (i := 17) (d := some 21) (v := .bool true) rfl rfl (by kernel_rfl) (by kernel_rfl) (by kernel_rfl) (fun _ _ _ h => h) (Or.inl ⟨by rfl, fun W hSw => by obtain ⟨s0, s1, s2, s3, s4, s5, s6, s7, s8, s9, s10, s11⟩ := hSw; go_simp⟩) hH ?_
      try simp only [put_some, List.set_cons_zero, List.set_cons_succ]
      refine wpAnyH_done (by kernel_rfl) ?_ _
      go_wp2
      have BDe := (Below.refl wd.heap.size wd).drew
      have Ce := Cd.below BDe
      have Qe := Qd.below BDe
      have Oe := Od.below BDe
      clear Cd Qd Od BDe
      refine wp_region_held_drew (S := fun W => W.cell? ⟨p, 0, none⟩ = some (.slice ba bn bc) ∧ W.cell? ⟨p, 1, none⟩ = some (.int .i64 m) ∧ W.cell? ⟨p, 2, none⟩ = some (.bool true) ∧ W.cell? ⟨p, 3, none⟩ = some (.int .i64 mt) ∧ W.cell? ⟨p, 4, none⟩ = some (.int .i64 mn) ∧ W.cell? ⟨p, 5, none⟩ = some (.string ms)) (by kernel_rfl) ⟨(Ce 0 _ rfl).1, (Ce 1 _ rfl).1, (Ce 2 _ rfl).1, (Ce 3 _ rfl).1, (Ce 4 _ rfl).1, (Ce 5 _ rfl).1⟩ (fun hH => ?_)
      generalize wd.drew = we at Qe Ce Oe hH ⊢
      refine takeH (i := 0) (d := some 22) (v := .pointer (some ⟨q, 0, none⟩)) rfl rfl (by kernel_rfl) (by kernel_rfl) (by kernel_rfl) (fun _ _ _ h => h) (Or.inl ⟨by rfl, fun W hSw => by obtain ⟨s0, s1, s2, s3, s4, s5⟩ := hSw; go_simp⟩) hH ?_
      try simp only [put_some, List.set_cons_zero, List.set_cons_succ]
      refine takeH (i := 1) (d := some 23) (v := .pointer (some ⟨q, 0, none⟩)) rfl rfl (by kernel_rfl) (by kernel_rfl) (by kernel_rfl) (fun _ _ _ h => h) (Or.inl ⟨by rfl, fun W hSw => by obtain ⟨s0, s1, s2, s3, s4, s5⟩ := hSw; go_simp⟩) hH ?_
      try simp only [put_some, List.set_cons_zero, List.set_cons_succ]
      refine takeH (i := 2) (d := some 24) (v := .pointer (some ⟨p, 3, none⟩)) rfl rfl (by kernel_rfl) (by kernel_rfl) (by kernel_rfl) (fun _ _ _ h => h) (Or.inl ⟨by rfl, fun W hSw => by obtain ⟨s0, s1, s2, s3, s4, s5⟩ := hSw; go_simp⟩) hH ?_
      try simp only [put_some, List.set_cons_zero, List.set_cons_succ]
      refine takeH (i := 3) (d := some 25) (v := .agg #[.int .i64 mt, .int .i64 mn, .string ms]) rfl rfl (by kernel_rfl) (by kernel_rfl) (by kernel_rfl) (fun _ _ _ h => h) (Or.inl ⟨by rfl, fun W hSw => by obtain ⟨s0, s1, s2, s3, s4, s5⟩ := hSw; go_simp⟩) hH ?_
      try simp only [put_some, List.set_cons_zero, List.set_cons_succ]
      refine takeH (i := 4) (d := some 26) (v := .pointer (some ⟨q, 0, none⟩)) rfl rfl (by kernel_rfl) (by kernel_rfl) (by kernel_rfl) (fun _ _ _ h => h) (Or.inl ⟨by rfl, fun W hSw => by obtain ⟨s0, s1, s2, s3, s4, s5⟩ := hSw; go_simp⟩) hH ?_
      try simp only [put_some, List.set_cons_zero, List.set_cons_succ]
      refine takeH (i := 5) (d := some 27) (v := .pointer (some ⟨q, 2, none⟩)) rfl rfl (by kernel_rfl) (by kernel_rfl) (by kernel_rfl) (fun _ _ _ h => h) (Or.inl ⟨by rfl, fun W hSw => by obtain ⟨s0, s1, s2, s3, s4, s5⟩ := hSw; go_simp⟩) hH ?_
      try simp only [put_some, List.set_cons_zero, List.set_cons_succ]
      refine wpAnyH_ready (rs := [6]) (by kernel_rfl) (by simp) ?_
      refine AllReadyH.cons rfl (fun K hK => ?_) AllReadyH.nil
      obtain ⟨c2, f2⟩ := Qe 2 _ rfl
      go_simp
      refine hK.out _ _ ?_ (fun hH => ?_)
      · exact ⟨((Ce.other (p := ⟨q, 2, none⟩) (by show q ≠ p; omega) _) 0 _ rfl).1, ((Ce.other (p := ⟨q, 2, none⟩) (by show q ≠ p; omega) _) 1 _ rfl).1, ((Ce.other (p := ⟨q, 2, none⟩) (by show q ≠ p; omega) _) 2 _ rfl).1, ((Ce.other (p := ⟨q, 2, none⟩) (by show q ≠ p; omega) _) 3 _ rfl).1, ((Ce.other (p := ⟨q, 2, none⟩) (by show q ≠ p; omega) _) 4 _ rfl).1, ((Ce.other (p := ⟨q, 2, none⟩) (by show q ≠ p; omega) _) 5 _ rfl).1⟩
      clear hK K c2 f2
      refine takeH (i := 7) (d := some 28) (v := .pointer (some ⟨q, 0, none⟩)) rfl rfl (by kernel_rfl) (by kernel_rfl) (by kernel_rfl) (fun _ _ _ h => h) (Or.inl ⟨by rfl, fun W hSw => by obtain ⟨s0, s1, s2, s3, s4, s5⟩ := hSw; go_simp⟩) hH ?_
      try simp only [put_some, List.set_cons_zero, List.set_cons_succ]
      refine takeH (i := 8) (d := some 29) (v := .pointer (some ⟨q, 3, none⟩)) rfl rfl (by kernel_rfl) (by kernel_rfl) (by kernel_rfl) (fun _ _ _ h => h) (Or.inl ⟨by rfl, fun W hSw => by obtain ⟨s0, s1, s2, s3, s4, s5⟩ := hSw; go_simp⟩) hH ?_
      try simp only [put_some, List.set_cons_zero, List.set_cons_succ]
      refine wpAnyH_ready (rs := [9]) (by kernel_rfl) (by simp) ?_
      refine AllReadyH.cons rfl (fun K hK => ?_) AllReadyH.nil
      have Qf := Qe.set 2 (.bool true)
      obtain ⟨c3, f3⟩ := Qf 3 _ rfl
      obtain ⟨c4, f4⟩ := Qf 4 _ rfl
      obtain ⟨c5, f5⟩ := Qf 5 _ rfl
      go_simp
      refine hK.out _ _ ?_ (fun hH => ?_)
      · exact ⟨(((((Ce.other (p := ⟨q, 2, none⟩) (by show q ≠ p; omega) _).other (p := ⟨q, 3, none⟩) (by show q ≠ p; omega) _).other (p := ⟨q, 4, none⟩) (by show q ≠ p; omega) _).other (p := ⟨q, 5, none⟩) (by show q ≠ p; omega) _) 0 _ rfl).1, (((((Ce.other (p := ⟨q, 2, none⟩) (by show q ≠ p; omega) _).other (p := ⟨q, 3, none⟩) (by show q ≠ p; omega) _).other (p := ⟨q, 4, none⟩) (by show q ≠ p; omega) _).other (p := ⟨q, 5, none⟩) (by show q ≠ p; omega) _) 1 _ rfl).1, (((((Ce.other (p := ⟨q, 2, none⟩) (by show q ≠ p; omega) _).other (p := ⟨q, 3, none⟩) (by show q ≠ p; omega) _).other (p := ⟨q, 4, none⟩) (by show q ≠ p; omega) _).other (p := ⟨q, 5, none⟩) (by show q ≠ p; omega) _) 2 _ rfl).1, (((((Ce.other (p := ⟨q, 2, none⟩) (by show q ≠ p; omega) _).other (p := ⟨q, 3, none⟩) (by show q ≠ p; omega) _).other (p := ⟨q, 4, none⟩) (by show q ≠ p; omega) _).other (p := ⟨q, 5, none⟩) (by show q ≠ p; omega) _) 3 _ rfl).1, (((((Ce.other (p := ⟨q, 2, none⟩) (by show q ≠ p; omega) _).other (p := ⟨q, 3, none⟩) (by show q ≠ p; omega) _).other (p := ⟨q, 4, none⟩) (by show q ≠ p; omega) _).other (p := ⟨q, 5, none⟩) (by show q ≠ p; omega) _) 4 _ rfl).1, (((((Ce.other (p := ⟨q, 2, none⟩) (by show q ≠ p; omega) _).other (p := ⟨q, 3, none⟩) (by show q ≠ p; omega) _).other (p := ⟨q, 4, none⟩) (by show q ≠ p; omega) _).other (p := ⟨q, 5, none⟩) (by show q ≠ p; omega) _) 5 _ rfl).1⟩
      clear hK K c3 f3 c4 f4 c5 f5 Qf
      refine wpAnyH_done (by kernel_rfl) ?_ _
      go_wp2
      go_end0
      exact ⟨rfl, by rw [HCS.out]; exact (((Qe.set 2 _).set 3 _).set 4 _).set 5 _, (((Oe.set 2 _).set 3 _).set 4 _).set 5 _⟩
    | true =>
      have HKP : Hid (∀ W, Below w1.heap.size w1 W → W.cell? ⟨p, 0, none⟩ = some (.slice ba bn bc) ∧ W.cell? ⟨p, 1, none⟩ = some (.int .i64 m) ∧ W.cell? ⟨p, 2, none⟩ = some (.bool true) ∧ W.cell? ⟨p, 3, none⟩ = some (.int .i64 mt) ∧ W.cell? ⟨p, 4, none⟩ = some (.int .i64 mn) ∧ W.cell? ⟨p, 5, none⟩ = some (.string ms) ∧ W.cell? ⟨q, 0, none⟩ = some (u) ∧ W.cell? ⟨q, 1, none⟩ = some (.int .i64 n) ∧ W.cell? ⟨q, 2, none⟩ = some (.bool true) ∧ W.cell? ⟨q, 3, none⟩ = some (.int .i64 vt) ∧ W.cell? ⟨q, 4, none⟩ = some (.int .i64 vn) ∧ W.cell? ⟨q, 5, none⟩ = some (.string vs)) := fun W h => ⟨((C1.below h) 0 _ rfl).1, ((C1.below h) 1 _ rfl).1, ((C1.below h) 2 _ rfl).1, ((C1.below h) 3 _ rfl).1, ((C1.below h) 4 _ rfl).1, ((C1.below h) 5 _ rfl).1, ((Q1.below h) 0 _ rfl).1, ((Q1.below h) 1 _ rfl).1, ((Q1.below h) 2 _ rfl).1, ((Q1.below h) 3 _ rfl).1, ((Q1.below h) 4 _ rfl).1, ((Q1.below h) 5 _ rfl).1⟩
      have HIL := Lib.hid (fun W => iLessVal ⟨vt, vn, vs⟩ ⟨mt, mn, ms⟩ W)
      cases hlv : lessV ⟨vt, vn, vs⟩ ⟨mt, mn, ms⟩ with
      | false =>
        have HLV := Lib.hid hlv
        rw [hlv] at HIL
        clear hlv
        have HCS : Hid ((addL 5 ⟨rr, n, true, ⟨vt, vn, vs⟩⟩ ⟨br, m, true, ⟨mt, mn, ms⟩⟩).cs u = [u, .int .i64 n, .bool true, .int .i64 vt, .int .i64 vn, .string vs]) := by show _ = _; simp [addL, Rs.cs, HLV.out]
        go_enter Tryd.func75, Tryd.ntmps75
        go_wp2
        rw [HW1.out]
        try rw [HPP.out]
        have hB' := (Below.refl w1.heap.size w1).drew
        go_region_held3 (fun W => W.cell? ⟨p, 0, none⟩ = some (.slice ba bn bc) ∧ W.cell? ⟨p, 1, none⟩ = some (.int .i64 m) ∧ W.cell? ⟨p, 2, none⟩ = some (.bool true) ∧ W.cell? ⟨p, 3, none⟩ = some (.int .i64 mt) ∧ W.cell? ⟨p, 4, none⟩ = some (.int .i64 mn) ∧ W.cell? ⟨p, 5, none⟩ = some (.string ms) ∧ W.cell? ⟨q, 0, none⟩ = some (u) ∧ W.cell? ⟨q, 1, none⟩ = some (.int .i64 n) ∧ W.cell? ⟨q, 2, none⟩ = some (.bool true) ∧ W.cell? ⟨q, 3, none⟩ = some (.int .i64 vt) ∧ W.cell? ⟨q, 4, none⟩ = some (.int .i64 vn) ∧ W.cell? ⟨q, 5, none⟩ = some (.string vs)) (exact HKP.out _ hB') ((go_at_call 93; (with_reducible refine (HIL.out _).mono ?_); rintro e wX ⟨rfl, hb⟩; replace hB' := below_then hB' hb hB'.size))
        all_goals
          clear HIL HKP
          have Cx := C1.below hB'
          have Qx := Q1.below hB'
          have Ox := O1.below hB'
          clear C1 Q1 O1 hB'
          go_wp2
          go_end0
          exact ⟨rfl, by rw [HCS.out]; exact Qx, Ox⟩
      | true =>
        have HLV := Lib.hid hlv
        rw [hlv] at HIL
        clear hlv
        have HCS : Hid ((addL 5 ⟨rr, n, true, ⟨vt, vn, vs⟩⟩ ⟨br, m, true, ⟨mt, mn, ms⟩⟩).cs u = [u, .int .i64 n, .bool true, .int .i64 mt, .int .i64 mn, .string ms]) := by show _ = _; simp [addL, Rs.cs, HLV.out]
        go_enter Tryd.func75, Tryd.ntmps75
        go_wp2
        rw [HW1.out]
        try rw [HPP.out]
        have hB' := (Below.refl w1.heap.size w1).drew
        go_region_held3 (fun W => W.cell? ⟨p, 0, none⟩ = some (.slice ba bn bc) ∧ W.cell? ⟨p, 1, none⟩ = some (.int .i64 m) ∧ W.cell? ⟨p, 2, none⟩ = some (.bool true) ∧ W.cell? ⟨p, 3, none⟩ = some (.int .i64 mt) ∧ W.cell? ⟨p, 4, none⟩ = some (.int .i64 mn) ∧ W.cell? ⟨p, 5, none⟩ = some (.string ms) ∧ W.cell? ⟨q, 0, none⟩ = some (u) ∧ W.cell? ⟨q, 1, none⟩ = some (.int .i64 n) ∧ W.cell? ⟨q, 2, none⟩ = some (.bool true) ∧ W.cell? ⟨q, 3, none⟩ = some (.int .i64 vt) ∧ W.cell? ⟨q, 4, none⟩ = some (.int .i64 vn) ∧ W.cell? ⟨q, 5, none⟩ = some (.string vs)) (exact HKP.out _ hB') ((go_at_call 93; (with_reducible refine (HIL.out _).mono ?_); rintro e wX ⟨rfl, hb⟩; replace hB' := below_then hB' hb hB'.size))
        all_goals
          clear HIL HKP
          have Cx := C1.below hB'
          have Qx := Q1.below hB'
          have Ox := O1.below hB'
          clear C1 Q1 O1 hB'
          go_wp2
          have BDe := (Below.refl wX.heap.size wX).drew
          have Ce := Cx.below BDe
          have Qe := Qx.below BDe
          have Oe := Ox.below BDe
          clear Cx Qx Ox BDe
          refine wp_region_held_drew (S := fun W => W.cell? ⟨p, 0, none⟩ = some (.slice ba bn bc) ∧ W.cell? ⟨p, 1, none⟩ = some (.int .i64 m) ∧ W.cell? ⟨p, 2, none⟩ = some (.bool true) ∧ W.cell? ⟨p, 3, none⟩ = some (.int .i64 mt) ∧ W.cell? ⟨p, 4, none⟩ = some (.int .i64 mn) ∧ W.cell? ⟨p, 5, none⟩ = some (.string ms)) (by kernel_rfl) ⟨(Ce 0 _ rfl).1, (Ce 1 _ rfl).1, (Ce 2 _ rfl).1, (Ce 3 _ rfl).1, (Ce 4 _ rfl).1, (Ce 5 _ rfl).1⟩ (fun hH => ?_)
          generalize wX.drew = we at Qe Ce Oe hH ⊢
          refine takeH (i := 0) (d := some 22) (v := .pointer (some ⟨q, 0, none⟩)) rfl rfl (by kernel_rfl) (by kernel_rfl) (by kernel_rfl) (fun _ _ _ h => h) (Or.inl ⟨by rfl, fun W hSw => by obtain ⟨s0, s1, s2, s3, s4, s5⟩ := hSw; go_simp⟩) hH ?_
          try simp only [put_some, List.set_cons_zero, List.set_cons_succ]
          refine takeH (i := 1) (d := some 23) (v := .pointer (some ⟨q, 0, none⟩)) rfl rfl (by kernel_rfl) (by kernel_rfl) (by kernel_rfl) (fun _ _ _ h => h) (Or.inl ⟨by rfl, fun W hSw => by obtain ⟨s0, s1, s2, s3, s4, s5⟩ := hSw; go_simp⟩) hH ?_
          try simp only [put_some, List.set_cons_zero, List.set_cons_succ]
          refine takeH (i := 2) (d := some 24) (v := .pointer (some ⟨p, 3, none⟩)) rfl rfl (by kernel_rfl) (by kernel_rfl) (by kernel_rfl) (fun _ _ _ h => h) (Or.inl ⟨by rfl, fun W hSw => by obtain ⟨s0, s1, s2, s3, s4, s5⟩ := hSw; go_simp⟩) hH ?_
          try simp only [put_some, List.set_cons_zero, List.set_cons_succ]
          refine takeH (i := 3) (d := some 25) (v := .agg #[.int .i64 mt, .int .i64 mn, .string ms]) rfl rfl (by kernel_rfl) (by kernel_rfl) (by kernel_rfl) (fun _ _ _ h => h) (Or.inl ⟨by rfl, fun W hSw => by obtain ⟨s0, s1, s2, s3, s4, s5⟩ := hSw; go_simp⟩) hH ?_
          try simp only [put_some, List.set_cons_zero, List.set_cons_succ]
          refine takeH (i := 4) (d := some 26) (v := .pointer (some ⟨q, 0, none⟩)) rfl rfl (by kernel_rfl) (by kernel_rfl) (by kernel_rfl) (fun _ _ _ h => h) (Or.inl ⟨by rfl, fun W hSw => by obtain ⟨s0, s1, s2, s3, s4, s5⟩ := hSw; go_simp⟩) hH ?_
          try simp only [put_some, List.set_cons_zero, List.set_cons_succ]
          refine takeH (i := 5) (d := some 27) (v := .pointer (some ⟨q, 2, none⟩)) rfl rfl (by kernel_rfl) (by kernel_rfl) (by kernel_rfl) (fun _ _ _ h => h) (Or.inl ⟨by rfl, fun W hSw => by obtain ⟨s0, s1, s2, s3, s4, s5⟩ := hSw; go_simp⟩) hH ?_
          try simp only [put_some, List.set_cons_zero, List.set_cons_succ]
          refine wpAnyH_ready (rs := [6]) (by kernel_rfl) (by simp) ?_
          refine AllReadyH.cons rfl (fun K hK => ?_) AllReadyH.nil
          obtain ⟨c2, f2⟩ := Qe 2 _ rfl
          go_simp
          refine hK.out _ _ ?_ (fun hH => ?_)
          · exact ⟨((Ce.other (p := ⟨q, 2, none⟩) (by show q ≠ p; omega) _) 0 _ rfl).1, ((Ce.other (p := ⟨q, 2, none⟩) (by show q ≠ p; omega) _) 1 _ rfl).1, ((Ce.other (p := ⟨q, 2, none⟩) (by show q ≠ p; omega) _) 2 _ rfl).1, ((Ce.other (p := ⟨q, 2, none⟩) (by show q ≠ p; omega) _) 3 _ rfl).1, ((Ce.other (p := ⟨q, 2, none⟩) (by show q ≠ p; omega) _) 4 _ rfl).1, ((Ce.other (p := ⟨q, 2, none⟩) (by show q ≠ p; omega) _) 5 _ rfl).1⟩
          clear hK K c2 f2
          refine takeH (i := 7) (d := some 28) (v := .pointer (some ⟨q, 0, none⟩)) rfl rfl (by kernel_rfl) (by kernel_rfl) (by kernel_rfl) (fun _ _ _ h => h) (Or.inl ⟨by rfl, fun W hSw => by obtain ⟨s0, s1, s2, s3, s4, s5⟩ := hSw; go_simp⟩) hH ?_
          try simp only [put_some, List.set_cons_zero, List.set_cons_succ]
          refine takeH (i := 8) (d := some 29) (v := .pointer (some ⟨q, 3, none⟩)) rfl rfl (by kernel_rfl) (by kernel_rfl) (by kernel_rfl) (fun _ _ _ h => h) (Or.inl ⟨by rfl, fun W hSw => by obtain ⟨s0, s1, s2, s3, s4, s5⟩ := hSw; go_simp⟩) hH ?_
          try simp only [put_some, List.set_cons_zero, List.set_cons_succ]
          refine wpAnyH_ready (rs := [9]) (by kernel_rfl) (by simp) ?_
          refine AllReadyH.cons rfl (fun K hK => ?_) AllReadyH.nil
          have Qf := Qe.set 2 (.bool true)
          obtain ⟨c3, f3⟩ := Qf 3 _ rfl
          obtain ⟨c4, f4⟩ := Qf 4 _ rfl
          obtain ⟨c5, f5⟩ := Qf 5 _ rfl
          go_simp
          refine hK.out _ _ ?_ (fun hH => ?_)
          · exact ⟨(((((Ce.other (p := ⟨q, 2, none⟩) (by show q ≠ p; omega) _).other (p := ⟨q, 3, none⟩) (by show q ≠ p; omega) _).other (p := ⟨q, 4, none⟩) (by show q ≠ p; omega) _).other (p := ⟨q, 5, none⟩) (by show q ≠ p; omega) _) 0 _ rfl).1, (((((Ce.other (p := ⟨q, 2, none⟩) (by show q ≠ p; omega) _).other (p := ⟨q, 3, none⟩) (by show q ≠ p; omega) _).other (p := ⟨q, 4, none⟩) (by show q ≠ p; omega) _).other (p := ⟨q, 5, none⟩) (by show q ≠ p; omega) _) 1 _ rfl).1, (((((Ce.other (p := ⟨q, 2, none⟩) (by show q ≠ p; omega) _).other (p := ⟨q, 3, none⟩) (by show q ≠ p; omega) _).other (p := ⟨q, 4, none⟩) (by show q ≠ p; omega) _).other (p := ⟨q, 5, none⟩) (by show q ≠ p; omega) _) 2 _ rfl).1, (((((Ce.other (p := ⟨q, 2, none⟩) (by show q ≠ p; omega) _).other (p := ⟨q, 3, none⟩) (by show q ≠ p; omega) _).other (p := ⟨q, 4, none⟩) (by show q ≠ p; omega) _).other (p := ⟨q, 5, none⟩) (by show q ≠ p; omega) _) 3 _ rfl).1, (((((Ce.other (p := ⟨q, 2, none⟩) (by show q ≠ p; omega) _).other (p := ⟨q, 3, none⟩) (by show q ≠ p; omega) _).other (p := ⟨q, 4, none⟩) (by show q ≠ p; omega) _).other (p := ⟨q, 5, none⟩) (by show q ≠ p; omega) _) 4 _ rfl).1, (((((Ce.other (p := ⟨q, 2, none⟩) (by show q ≠ p; omega) _).other (p := ⟨q, 3, none⟩) (by show q ≠ p; omega) _).other (p := ⟨q, 4, none⟩) (by show q ≠ p; omega) _).other (p := ⟨q, 5, none⟩) (by show q ≠ p; omega) _) 5 _ rfl).1⟩
          clear hK K c3 f3 c4 f4 c5 f5 Qf
          refine wpAnyH_done (by kernel_rfl) ?_ _
          go_wp2
          go_end0
          exact ⟨rfl, by rw [HCS.out]; exact (((Qe.set 2 _).set 3 _).set 4 _).set 5 _, (((Oe.set 2 _).set 3 _).set 4 _).set 5 _⟩

end Go.Proofs.YtkofafefnlommaaDoor

/- The exact laws of chapter 4 that do no text, walked; the program's own contracts come as hypotheses. -/
namespace Go.Proofs.YtkofafefnlommaaDoor
open Go.RowKit

def CColumn : Prop := ∀ (u : Value) (ps : List P) (ls : List R) (k : Int) (w : World), ps.length ≤ 1048576 → (∀ p ∈ ps, p.1.l.length ≤ 1048576) → RdRs w u ps → ps.map (·.1) = ls → Calls Tryd.prog 89 #[u, .int .i64 k] w fun e w' => ∃ v', e = .returned v' ∧ Own 29 3 w.heap.size w'.heap.size w' v' (colR ls k).length (vals (colR ls k)) ∧ Below w.heap.size w w'

theorem bulkR_mem {ps : List P} {p : P} (h : p ∈ ps) : p.1.l.length ≤ bulkR ps := by
  induction ps with
  | nil => cases h
  | cons q ps ih =>
    have e : bulkR (q :: ps) = q.1.l.length + bulk q.1.l + bulkR ps := by simp [bulkR]
    rcases List.mem_cons.1 h with rfl | h
    · omega
    · have := ih h
      omega
theorem rlen_le (ps : List P) : rlen ps ≤ 3 * (ps.length + bulkR ps) := by
  induction ps with
  | nil => simp [rlen]
  | cons q ps ih =>
    have e : bulkR (q :: ps) = q.1.l.length + bulk q.1.l + bulkR ps := by simp [bulkR]
    simp only [rlen, List.length_cons]
    omega
theorem rlen_fst {ps qs : List P} (h : qs.map (·.1) = ps.map (·.1)) : rlen qs = rlen ps := by
  induction qs generalizing ps with
  | nil => cases ps with
    | nil => rfl
    | cons => cases h
  | cons q qs ih => cases ps with
    | nil => cases h
    | cons p ps =>
      simp only [List.map_cons, List.cons.injEq] at h
      rw [rlen, rlen, h.1, ih h.2]
theorem len_fst {ps qs : List P} (h : qs.map (·.1) = ps.map (·.1)) : qs.length = ps.length := by simpa using congrArg List.length h
theorem small_fst {ps qs : List P} {N : Nat} (h : qs.map (·.1) = ps.map (·.1)) (hp : ∀ p ∈ ps, p.1.l.length ≤ N) : ∀ q ∈ qs, q.1.l.length ≤ N := by
  intro q hq
  have : q.1 ∈ ps.map (·.1) := by
    rw [← h]
    exact List.mem_map.2 ⟨q, hq, rfl⟩
  obtain ⟨p, hp', e⟩ := List.mem_map.1 this
  rw [← e]
  exact hp p hp'

end Go.Proofs.YtkofafefnlommaaDoor

/- Small facts about lists of Rows, for exact laws. -/
namespace Go.Proofs.YtkofafefnlommaaDoor
open Go.RowKit

theorem rows_small {ps qs : List P} (h : qs.map (·.1) = ps.map (·.1)) (hp : ∀ p ∈ ps, ∀ v ∈ p.1.l, v.s.size ≤ maxLen) : ∀ q ∈ qs, ∀ v ∈ q.1.l, v.s.size ≤ maxLen := by
  intro q hq
  have : q.1 ∈ ps.map (·.1) := by
    rw [← h]
    exact List.mem_map.2 ⟨q, hq, rfl⟩
  obtain ⟨p, hp', e⟩ := List.mem_map.1 this
  rw [← e]
  exact hp p hp'
def rlenR (l : List R) : Nat := (l.map fun r => 1 + 3 * r.l.length).sum
theorem rlen_R (ps : List P) : rlen ps = rlenR (ps.map (·.1)) := by
  induction ps with
  | nil => rfl
  | cons p ps ih =>
    rw [rlen, ih]
    simp [rlenR]
theorem rlenR_filter (f : R → Bool) (l : List R) : rlenR (l.filter f) ≤ rlenR l := by
  induction l with
  | nil => simp
  | cons r l ih =>
    rw [List.filter_cons]
    have e : rlenR (r :: l) = 1 + 3 * r.l.length + rlenR l := by simp [rlenR]
    split
    · have e2 : rlenR (r :: l.filter f) = 1 + 3 * r.l.length + rlenR (l.filter f) := by simp [rlenR]
      omega
    · omega
theorem Blk.within {lo hi : Nat} {W W' : World} {b : Nat} {cs : List Value} (h : Blk W b cs) (hw : Within lo hi W W') (hb : b < lo ∨ hi ≤ b) : Blk W' b cs := fun i x hx =>
  have hk := hw.2.2.2.2 b (lt_of_cell (h i x hx).1) hb
  ⟨(World.cell?_of_block hk).trans (h i x hx).1, (World.frozen?_of_block hk).trans (h i x hx).2⟩


end Go.Proofs.YtkofafefnlommaaDoor
