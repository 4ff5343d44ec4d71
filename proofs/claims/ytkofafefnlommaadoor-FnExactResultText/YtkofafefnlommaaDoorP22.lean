/- Texts of this claim, one behind the other: H11b, O12, H11c, O12b, O12c. -/
import Derived.Test.YtkofafefnlommaaDoorP21
import Derived.Test.YtkofafefnlommaaDoorP8
import Derived.Test.YtkofafefnlommaaDoorP7
import Derived.Test.YtkofafefnlommaaDoorP14
import Derived.Test.YtkofafefnlommaaDoorP15
import Derived.Test.YtkofafefnlommaaDoorP16

/- The laws' own eqPred, eqPredS, toPred, toPredS (written by mk_H11b.py). -/
namespace Go.Proofs.YtkofafefnlommaaDoor
open Go.RowKit

/-- What eqPred says. -/
def EqT (t : T) : Prop := ∀ (Q1 Q2 : Nat → Prop) (u1 u2 : Value) (w : World), RdT Q1 w t u1 → RdT Q2 w t u2 →
  Calls Tryd.prog 10 #[t.agg u1, t.agg u2] w fun e w' => e = .returned (.bool true) ∧ Below w.heap.size w w'

set_option maxHeartbeats 1000000 in
theorem eqPredS (t : T) (ih : ∀ x ∈ t.l, EqT x) {Q1 Q2 : Nat → Prop} (u1 u2 : Value) (w : World) (h1 : RdT Q1 w t u1) (h2 : RdT Q2 w t u2) :
    Calls Tryd.prog 37 #[u1, u2] w fun e w' => e = .returned (.bool true) ∧ Below w.heap.size w w' := by
  have HI := Lib.hid (fun k (hk : k < t.l.length) => ih _ (kid_mem hk))
  generalize hl : t.l.length = n at HI
  obtain ⟨a1, cap1, rfl, hle, HC1⟩ := h1.kids hl
  obtain ⟨a2, cap2, rfl, _, HC2⟩ := h2.kids hl
  unfold maxLen at hle
  have hne : ((n : Int) != (n : Int)) = false := by simp
  clear h1 h2 hl ih
  go_enter Tryd.func37, Tryd.ntmps37
  go_wp2
  go_loopw [5] (fun i wr => ∃ k : Nat, k ≤ n ∧ i = .int .i64 k ∧ Below w.heap.size w wr) (fun i _ => n - (intOf i).toNat)
  case atStart => exact ⟨0, Nat.zero_le _, rfl, Below.refl _ _⟩
  case round =>
    obtain ⟨k, hk, rfl, hbr⟩ := hrel
    by_cases hlt : k < n
    · obtain ⟨b1, o1, u1', rfl, r1, p0, p1, p2, p3, p4, p5, p6⟩ := HC1.out k hlt wr hbr
      obtain ⟨b2, o2, u2', rfl, r2, q0, q1, q2, q3, q4, q5, q6⟩ := HC2.out k hlt wr hbr
      have HE := Lib.hid (fun W (hW : Below wr.heap.size wr W) => HI.out k hlt _ _ u1' u2' W (r1.below hW) (r2.below hW))
      clear r1 r2
      generalize t.l.getD k T.zero = x at p0 p1 p2 p3 p4 p5 q0 q1 q2 q3 q4 q5 HE
      obtain ⟨xk, xc, xo, ⟨xt, xn, xs⟩, xl⟩ := x
      simp only [T.agg, T.kind, T.col, T.op, T.v] at p0 p1 p2 p3 p4 p5 q0 q1 q2 q3 q4 q5 HE
      have HK : Hid (∀ W, Below wr.heap.size wr W → W.cell? ⟨b1, o1 + k * 7, none⟩ = some (.int .i64 xk) ∧ W.cell? ⟨b1, o1 + k * 7 + 1, none⟩ = some (.int .i64 xc) ∧ W.cell? ⟨b1, o1 + k * 7 + 2, none⟩ = some (.int .i64 xo) ∧ W.cell? ⟨b1, o1 + k * 7 + 3, none⟩ = some (.int .i64 xt) ∧ W.cell? ⟨b1, o1 + k * 7 + 4, none⟩ = some (.int .i64 xn) ∧ W.cell? ⟨b1, o1 + k * 7 + 5, none⟩ = some (.string xs) ∧ W.cell? ⟨b1, o1 + k * 7 + 6, none⟩ = some (u1') ∧ W.cell? ⟨b2, o2 + k * 7, none⟩ = some (.int .i64 xk) ∧ W.cell? ⟨b2, o2 + k * 7 + 1, none⟩ = some (.int .i64 xc) ∧ W.cell? ⟨b2, o2 + k * 7 + 2, none⟩ = some (.int .i64 xo) ∧ W.cell? ⟨b2, o2 + k * 7 + 3, none⟩ = some (.int .i64 xt) ∧ W.cell? ⟨b2, o2 + k * 7 + 4, none⟩ = some (.int .i64 xn) ∧ W.cell? ⟨b2, o2 + k * 7 + 5, none⟩ = some (.string xs) ∧ W.cell? ⟨b2, o2 + k * 7 + 6, none⟩ = some (u2')) := fun W h =>
        ⟨(h.cell (p := ⟨b1, o1 + k * 7, none⟩) (lt_of_cell p0)).trans p0, (h.cell (p := ⟨b1, o1 + k * 7 + 1, none⟩) (lt_of_cell p1)).trans p1, (h.cell (p := ⟨b1, o1 + k * 7 + 2, none⟩) (lt_of_cell p2)).trans p2, (h.cell (p := ⟨b1, o1 + k * 7 + 3, none⟩) (lt_of_cell p3)).trans p3, (h.cell (p := ⟨b1, o1 + k * 7 + 4, none⟩) (lt_of_cell p4)).trans p4, (h.cell (p := ⟨b1, o1 + k * 7 + 5, none⟩) (lt_of_cell p5)).trans p5, (h.cell (p := ⟨b1, o1 + k * 7 + 6, none⟩) (lt_of_cell p6)).trans p6, (h.cell (p := ⟨b2, o2 + k * 7, none⟩) (lt_of_cell q0)).trans q0, (h.cell (p := ⟨b2, o2 + k * 7 + 1, none⟩) (lt_of_cell q1)).trans q1, (h.cell (p := ⟨b2, o2 + k * 7 + 2, none⟩) (lt_of_cell q2)).trans q2, (h.cell (p := ⟨b2, o2 + k * 7 + 3, none⟩) (lt_of_cell q3)).trans q3, (h.cell (p := ⟨b2, o2 + k * 7 + 4, none⟩) (lt_of_cell q4)).trans q4, (h.cell (p := ⟨b2, o2 + k * 7 + 5, none⟩) (lt_of_cell q5)).trans q5, (h.cell (p := ⟨b2, o2 + k * 7 + 6, none⟩) (lt_of_cell q6)).trans q6⟩
      have hB' := (Below.refl wr.heap.size wr).drew
      clear p0 p1 p2 p3 p4 p5 p6 q0 q1 q2 q3 q4 q5 q6
      go_wp2
      go_region_held3 (fun W => W.cell? ⟨b1, o1 + k * 7, none⟩ = some (.int .i64 xk) ∧ W.cell? ⟨b1, o1 + k * 7 + 1, none⟩ = some (.int .i64 xc) ∧ W.cell? ⟨b1, o1 + k * 7 + 2, none⟩ = some (.int .i64 xo) ∧ W.cell? ⟨b1, o1 + k * 7 + 3, none⟩ = some (.int .i64 xt) ∧ W.cell? ⟨b1, o1 + k * 7 + 4, none⟩ = some (.int .i64 xn) ∧ W.cell? ⟨b1, o1 + k * 7 + 5, none⟩ = some (.string xs) ∧ W.cell? ⟨b1, o1 + k * 7 + 6, none⟩ = some (u1') ∧ W.cell? ⟨b2, o2 + k * 7, none⟩ = some (.int .i64 xk) ∧ W.cell? ⟨b2, o2 + k * 7 + 1, none⟩ = some (.int .i64 xc) ∧ W.cell? ⟨b2, o2 + k * 7 + 2, none⟩ = some (.int .i64 xo) ∧ W.cell? ⟨b2, o2 + k * 7 + 3, none⟩ = some (.int .i64 xt) ∧ W.cell? ⟨b2, o2 + k * 7 + 4, none⟩ = some (.int .i64 xn) ∧ W.cell? ⟨b2, o2 + k * 7 + 5, none⟩ = some (.string xs) ∧ W.cell? ⟨b2, o2 + k * 7 + 6, none⟩ = some (u2')) (exact HK.out _ hB') ((go_at_call 10; (with_reducible refine (HE.out _ hB').mono ?_); rintro e w2 ⟨rfl, hb2⟩; replace hB' := below_then hB' hb2 hB'.size))
      all_goals
        go_wp2
        go_roundw
        case rel => exact ⟨k + 1, by omega, by go_num, below_then hbr hB' hbr.size⟩
        case measure => simp [intOf]; omega
    · go_wp2
      go_ret
      exact ⟨rfl, hbr⟩

set_option maxHeartbeats 1000000 in
theorem eqPred : ∀ t : T, EqT t := by
  refine T.induct (fun t ih => ?_)
  intro Q1 Q2 u1 u2 w h1 h2
  have B0 := below_alloc2 w (.cells (t.cs u1).toArray 32) (.cells (t.cs u2).toArray 32)
  have C0 := (blk_new w (t.cs u1) 32).below (below_alloc _ (.cells (t.cs u2).toArray 32))
  have C1 := blk_new (w.alloc (.cells (t.cs u1).toArray 32)) (t.cs u2) 32
  rw [World.size_alloc] at C1
  have HV := Lib.hid (fun W => eqVal t.v W)
  have HS := Lib.hid (fun W (hW : Below w.heap.size w W) => eqPredS t ih u1 u2 W (h1.below hW) (h2.below hW))
  clear h1 h2 ih
  obtain ⟨k, c, o, ⟨vt, vn, vs⟩, l⟩ := t
  simp only [T.kind, T.col, T.op, T.v, T.cs] at HV B0 C0 C1 ⊢
  have hk : (k != k) = false := by simp
  have hc : (c != c) = false := by simp
  have ho : (o != o) = false := by simp
  go_enter Tryd.func10, Tryd.ntmps10
  go_wp2_with fail
  refine (HV.out _).mono ?_
  rintro e w1 ⟨rfl, b1⟩
  have B1 := below_then B0 b1 B0.size
  have c6 := (C0.below b1 6 _ rfl).1
  have d6 := (C1.below b1 6 _ rfl).1
  clear b1 HV C0 C1 B0
  go_wp2_with fail
  refine (HS.out _ B1).mono ?_
  rintro e w2 ⟨rfl, b2⟩
  have B2 := below_then B1 b2 B1.size
  clear b2 HS c6 d6
  go_wp2
  go_ret
  exact ⟨rfl, B2⟩

theorem RdT.setOther {Q : Nat → Prop} {w : World} {t : T} {u : Value} (h : RdT Q w t u) {p : Addr} (hp : ∀ b, Q b → b ≠ p.block) (x : Value) : RdT Q (w.setCell p x) t u :=
  RdT.keep (fun _ h => h) (fun b hb o y hy => (World.cell?_setCell_other _ _ _ _ (fun e => hp b hb (by rw [e]))).trans hy) t u h
theorem Tryd.elemPreds : ElemT Tryd.prog 30 32 (T.zero.agg (.slice none 0 0)) 7 80 := ⟨Tryd.underlying30, info_parts (by kernel_rfl), rfl, by decide⟩
/-- Seven cells stored from place p on. -/
def put7 (xs : List Value) (p : Nat) (ys : List Value) : List Value := (((((((xs.set p (ys.getD 0 undef)).set (p + 1) (ys.getD 1 undef)).set (p + 2) (ys.getD 2 undef)).set (p + 3) (ys.getD 3 undef)).set (p + 4) (ys.getD 4 undef)).set (p + 5) (ys.getD 5 undef)).set (p + 6) (ys.getD 6 undef))
theorem put7_len (xs : List Value) (p : Nat) (ys : List Value) : (put7 xs p ys).length = xs.length := by simp [put7]
theorem put7_out {xs ys : List Value} {p q : Nat} (h : q < p ∨ p + 7 ≤ q) : (put7 xs p ys)[q]? = xs[q]? := by
  unfold put7
  simp only [List.getElem?_set]
  repeat rw [if_neg (by omega)]
theorem put7_in {xs ys : List Value} {p i : Nat} (hl : p + 7 ≤ xs.length) (hy : ys.length = 7) (hi : i < 7) : (put7 xs p ys)[p + i]? = ys[i]? := by
  have hyi : ys[i]? = some (ys.getD i undef) := by
    have : i < ys.length := by omega
    simp [this]
  rw [hyi]
  unfold put7
  simp only [List.getElem?_set, List.length_set]
  have h7 : i = 0 ∨ i = 1 ∨ i = 2 ∨ i = 3 ∨ i = 4 ∨ i = 5 ∨ i = 6 := by omega
  rcases h7 with rfl | rfl | rfl | rfl | rfl | rfl | rfl
  · rw [if_neg (by omega)]; rw [if_neg (by omega)]; rw [if_neg (by omega)]; rw [if_neg (by omega)]; rw [if_neg (by omega)]; rw [if_neg (by omega)]; rw [if_pos (by omega), if_pos (by omega)]
  · rw [if_neg (by omega)]; rw [if_neg (by omega)]; rw [if_neg (by omega)]; rw [if_neg (by omega)]; rw [if_neg (by omega)]; rw [if_pos (by omega), if_pos (by omega)]
  · rw [if_neg (by omega)]; rw [if_neg (by omega)]; rw [if_neg (by omega)]; rw [if_neg (by omega)]; rw [if_pos (by omega), if_pos (by omega)]
  · rw [if_neg (by omega)]; rw [if_neg (by omega)]; rw [if_neg (by omega)]; rw [if_pos (by omega), if_pos (by omega)]
  · rw [if_neg (by omega)]; rw [if_neg (by omega)]; rw [if_pos (by omega), if_pos (by omega)]
  · rw [if_neg (by omega)]; rw [if_pos (by omega), if_pos (by omega)]
  · rw [if_pos (by omega), if_pos (by omega)]
theorem T.cs_len (t : T) (u : Value) : (t.cs u).length = 7 := rfl

/-- Blocks of cells from lo on, none of them frozen. -/
def PQ (lo : Nat) (w : World) (b : Nat) : Prop := lo ≤ b ∧ b < w.heap.size ∧ Plain w b
theorem RdT.pbelow {lo lo' : Nat} {w w' : World} {t : T} {u : Value} (h : RdT (PQ lo w) w t u) (hb : Below w.heap.size w w') (hlo : lo' ≤ lo) : RdT (PQ lo' w') w' t u :=
  (h.below hb).mono (fun _ hq => ⟨Nat.le_trans hlo hq.1, Nat.lt_of_lt_of_le hq.2.1 hb.size, hq.2.2.below hb⟩)
theorem RdT.pset {lo : Nat} {w : World} {t : T} {u : Value} (h : RdT (PQ lo w) w t u) {p : Addr} (hp : p.block < lo) (x : Value) : RdT (PQ lo (w.setCell p x)) (w.setCell p x) t u :=
  (h.setOther (fun _ hb e => by have := hb.1; omega) x).mono (fun _ hq => ⟨hq.1, by simpa [World.setCell] using hq.2.1, hq.2.2.setCell p x⟩)
theorem RdT.plow {lo lo' : Nat} {w : World} {t : T} {u : Value} (h : RdT (PQ lo w) w t u) (hlo : lo' ≤ lo) : RdT (PQ lo' w) w t u := h.mono (fun _ hq => ⟨Nat.le_trans hlo hq.1, hq.2⟩)
/-- What toPred says. -/
def ToT (t : T) : Prop := ∀ (Q : Nat → Prop) (u : Value) (w : World), t.bulk ≤ 1073741824 → RdT Q w t u →
  Calls Tryd.prog 8 #[t.agg u] w fun e w' => ∃ u', e = .returned (t.agg u') ∧ RdT (PQ w.heap.size w') w' t u' ∧ Below w.heap.size w w'

set_option maxHeartbeats 4000000 in
theorem toPredS (t : T) (ih : ∀ x ∈ t.l, ToT x) {Q : Nat → Prop} (u : Value) (w : World) (hb : t.bulk ≤ 1073741825) (h : RdT Q w t u) :
    Calls Tryd.prog 31 #[u] w fun e w' => ∃ u', e = .returned u' ∧ RdT (PQ w.heap.size w') w' t u' ∧ Below w.heap.size w w' := by
  have HI := Lib.hid (fun k (hk : k < t.l.length) => ih _ (kid_mem hk))
  have HBK : Hid (∀ k, k < t.l.length → (t.l.getD k T.zero).bulk ≤ 1073741824) := fun k hk => by
    have := T.bulk_child (kid_mem hk)
    omega
  have hln : t.l.length ≤ 1073741824 := by
    have h1 := T.bulks_length t.l
    have h2 := T.bulk_def t
    omega
  generalize hl : t.l.length = n at HI HBK hln
  obtain ⟨a, cap, rfl, hle, HC⟩ := h.kids hl
  have HL := Lib.hid hl
  clear h hl ih hb
  go_enter Tryd.func31, Tryd.ntmps31
  go_wp2_with (at_make; refine make_law Tryd.elemPreds rfl _ _ rfl .i64 .i64 _ _ n rfl rfl rfl rfl (by omega) (by unfold maxLen; omega) ?_)
  intro w1 hown hb1
  obtain ⟨xs0, hxl, hblk⟩ : ∃ xs : List Value, xs.length = n * 7 ∧ Blk w1 w.heap.size xs := by
    have r := hown.row
    refine ⟨_, r.1, fun i x hx => ⟨(r.cellAt i ?_).trans hx, r.frozenAt i⟩⟩
    have := (List.getElem?_eq_some_iff.1 hx).1
    rw [r.1] at this
    exact this
  have hg1 : w.heap.size < w1.heap.size := by
    obtain ⟨g, cp, e, _, h2, _⟩ := hown
    simp only [Value.slice.injEq, Option.some.injEq, Addr.mk.injEq, and_true] at e
    omega
  have hpl := plain_own hown rfl
  clear hown
  go_wp2
  go_loopw [4] (fun i wr => ∃ (k : Nat) (xs : List Value), k ≤ n ∧ i = .int .i64 k ∧ xs.length = n * 7 ∧ Blk wr w.heap.size xs ∧ w.heap.size < wr.heap.size ∧ Plain wr w.heap.size ∧ Below w.heap.size w wr ∧
    ∀ j, j < k → ∃ u', (∀ i x, ((t.l.getD j T.zero).cs u')[i]? = some x → xs[j * 7 + i]? = some x) ∧ RdT (PQ (w.heap.size + 1) wr) wr (t.l.getD j T.zero) u') (fun i _ => n - (intOf i).toNat)
  case atStart => exact ⟨0, xs0, Nat.zero_le _, rfl, hxl, hblk, hg1, hpl, hb1, fun j hj => by omega⟩
  case round =>
    obtain ⟨k, xs, hk, rfl, hxk, hB, hgr, hplr, hbr, hpre⟩ := hrel
    have HPL := Lib.hid hplr
    have HPRE := Lib.hid hpre
    have HB := Lib.hid hB
    clear hpre hB hblk hxl hb1 hg1 hpl hplr
    by_cases hlt : k < n
    · obtain ⟨b, off, u', rfl, hr, c0, c1, c2, c3, c4, c5, c6⟩ := HC.out k hlt wr hbr
      have HX := Lib.hid (HI.out k hlt _ u' wr (HBK.out k hlt) hr)
      have HXE : Hid (∃ y, y = t.l.getD k T.zero) := ⟨_, rfl⟩
      clear hr
      generalize hx : t.l.getD k T.zero = x at c0 c1 c2 c3 c4 c5 HX
      have HXX := Lib.hid hx
      clear hx HXE
      obtain ⟨xk, xc, xo, ⟨xt, xn, xs'⟩, xl⟩ := x
      simp only [T.agg, T.kind, T.col, T.op, T.v] at c0 c1 c2 c3 c4 c5 HX
      go_wp2_with fail
      refine HX.out.mono ?_
      rintro e w2 ⟨v, rfl, hv, b2⟩
      have B2 := Lib.hid (below_then hbr b2 hbr.size)
      obtain ⟨va, vc, hvs, _⟩ := RdT_def.1 hv
      have HV := Lib.hid hv
      generalize (T.mk xk xc xo ⟨xt, xn, xs'⟩ xl).l.length = vn at hvs
      subst hvs
      have HG2 : Hid (w.heap.size < w2.heap.size) := Nat.lt_of_lt_of_le hgr b2.size
      have Blk2 := HB.out.below b2
      have HB2 := Lib.hid Blk2
      have HGS := Lib.hid b2
      have cc : ∀ i, i < 7 → ∃ y, xs[k * 7 + i]? = some y := fun i hi => ⟨_, List.getElem?_eq_getElem (by omega)⟩
      obtain ⟨y0, hy0⟩ := cc 0 (by omega)
      obtain ⟨y1, hy1⟩ := cc 1 (by omega)
      obtain ⟨y2, hy2⟩ := cc 2 (by omega)
      obtain ⟨y3, hy3⟩ := cc 3 (by omega)
      obtain ⟨y4, hy4⟩ := cc 4 (by omega)
      obtain ⟨y5, hy5⟩ := cc 5 (by omega)
      obtain ⟨y6, hy6⟩ := cc 6 (by omega)
      obtain ⟨e0, f0⟩ := Blk2 _ _ hy0
      obtain ⟨e1, f1⟩ := Blk2 _ _ hy1
      obtain ⟨e2, f2⟩ := Blk2 _ _ hy2
      obtain ⟨e3, f3⟩ := Blk2 _ _ hy3
      obtain ⟨e4, f4⟩ := Blk2 _ _ hy4
      obtain ⟨e5, f5⟩ := Blk2 _ _ hy5
      obtain ⟨e6, f6⟩ := Blk2 _ _ hy6
      simp only [Nat.add_zero] at e0 f0
      clear Blk2 cc hv b2 HX c0 c1 c2 c3 c4 c5 c6 hy0 hy1 hy2 hy3 hy4 hy5 hy6
      have FIN : Hid (∃ xs2 : List Value, xs2.length = n * 7 ∧ Blk (((((((w2.setCell ⟨w.heap.size, k * 7, none⟩ (.int .i64 xk)).setCell ⟨w.heap.size, k * 7 + 1, none⟩ (.int .i64 xc)).setCell ⟨w.heap.size, k * 7 + 2, none⟩ (.int .i64 xo)).setCell ⟨w.heap.size, k * 7 + 3, none⟩ (.int .i64 xt)).setCell ⟨w.heap.size, k * 7 + 4, none⟩ (.int .i64 xn)).setCell ⟨w.heap.size, k * 7 + 5, none⟩ (.string xs')).setCell ⟨w.heap.size, k * 7 + 6, none⟩ (.slice va vn vc)) w.heap.size xs2 ∧
          ∀ j, j < k + 1 → ∃ u', (∀ i x, ((t.l.getD j T.zero).cs u')[i]? = some x → xs2[j * 7 + i]? = some x) ∧ RdT (PQ (w.heap.size + 1) (((((((w2.setCell ⟨w.heap.size, k * 7, none⟩ (.int .i64 xk)).setCell ⟨w.heap.size, k * 7 + 1, none⟩ (.int .i64 xc)).setCell ⟨w.heap.size, k * 7 + 2, none⟩ (.int .i64 xo)).setCell ⟨w.heap.size, k * 7 + 3, none⟩ (.int .i64 xt)).setCell ⟨w.heap.size, k * 7 + 4, none⟩ (.int .i64 xn)).setCell ⟨w.heap.size, k * 7 + 5, none⟩ (.string xs')).setCell ⟨w.heap.size, k * 7 + 6, none⟩ (.slice va vn vc))) (((((((w2.setCell ⟨w.heap.size, k * 7, none⟩ (.int .i64 xk)).setCell ⟨w.heap.size, k * 7 + 1, none⟩ (.int .i64 xc)).setCell ⟨w.heap.size, k * 7 + 2, none⟩ (.int .i64 xo)).setCell ⟨w.heap.size, k * 7 + 3, none⟩ (.int .i64 xt)).setCell ⟨w.heap.size, k * 7 + 4, none⟩ (.int .i64 xn)).setCell ⟨w.heap.size, k * 7 + 5, none⟩ (.string xs')).setCell ⟨w.heap.size, k * 7 + 6, none⟩ (.slice va vn vc)) (t.l.getD j T.zero) u') := by
        refine ⟨put7 xs (k * 7) ((T.mk xk xc xo ⟨xt, xn, xs'⟩ xl).cs (.slice va vn vc)), (put7_len _ _ _).trans hxk, ((((((HB2.out.set _ _).set _ _).set _ _).set _ _).set _ _).set _ _).set _ _, fun j hj => ?_⟩
        have hso : ∀ {t : T} {u : Value}, RdT (PQ (w.heap.size + 1) w2) w2 t u → RdT (PQ (w.heap.size + 1) (((((((w2.setCell ⟨w.heap.size, k * 7, none⟩ (.int .i64 xk)).setCell ⟨w.heap.size, k * 7 + 1, none⟩ (.int .i64 xc)).setCell ⟨w.heap.size, k * 7 + 2, none⟩ (.int .i64 xo)).setCell ⟨w.heap.size, k * 7 + 3, none⟩ (.int .i64 xt)).setCell ⟨w.heap.size, k * 7 + 4, none⟩ (.int .i64 xn)).setCell ⟨w.heap.size, k * 7 + 5, none⟩ (.string xs')).setCell ⟨w.heap.size, k * 7 + 6, none⟩ (.slice va vn vc))) (((((((w2.setCell ⟨w.heap.size, k * 7, none⟩ (.int .i64 xk)).setCell ⟨w.heap.size, k * 7 + 1, none⟩ (.int .i64 xc)).setCell ⟨w.heap.size, k * 7 + 2, none⟩ (.int .i64 xo)).setCell ⟨w.heap.size, k * 7 + 3, none⟩ (.int .i64 xt)).setCell ⟨w.heap.size, k * 7 + 4, none⟩ (.int .i64 xn)).setCell ⟨w.heap.size, k * 7 + 5, none⟩ (.string xs')).setCell ⟨w.heap.size, k * 7 + 6, none⟩ (.slice va vn vc)) t u := fun h =>
          ((((((h.pset (by simp) _).pset (by simp) _).pset (by simp) _).pset (by simp) _).pset (by simp) _).pset (by simp) _).pset (by simp) _
        by_cases hjk : j = k
        · subst hjk
          refine ⟨.slice va vn vc, fun i x hx => ?_, hso ?_⟩
          · rw [HXX.out] at hx
            have hi : i < 7 := (List.getElem?_eq_some_iff.1 hx).1
            rw [put7_in (by omega) (T.cs_len _ _) hi]
            exact hx
          · rw [HXX.out]
            exact HV.out.plow (by omega)
        · obtain ⟨u', h1, h2⟩ := HPRE.out j (by omega)
          refine ⟨u', fun i x hx => ?_, hso (h2.pbelow HGS.out (Nat.le_refl _))⟩
          have hi : i < 7 := (List.getElem?_eq_some_iff.1 hx).1
          rw [put7_out (by omega)]
          exact h1 i x hx
      go_wp2
      go_roundw
      case rel =>
        obtain ⟨xs2, h1, h2, h3⟩ := FIN.out
        exact ⟨k + 1, xs2, by omega, by go_num, h1, h2, by simpa using HG2.out, (((((((HPL.out.below HGS.out).setCell _ _).setCell _ _).setCell _ _).setCell _ _).setCell _ _).setCell _ _).setCell _ _, ((((((B2.out.setCell (by simp) _).setCell (by simp) _).setCell (by simp) _).setCell (by simp) _).setCell (by simp) _).setCell (by simp) _).setCell (by simp) _, h3⟩
      case measure => simp [intOf]; omega
    · obtain rfl : k = n := by omega
      go_wp2
      go_ret
      refine ⟨_, rfl, ?_, hbr⟩
      rw [RdT_def, HL.out]
      refine ⟨_, _, rfl, hle, .inr ⟨_, _, rfl, ⟨Nat.le_refl _, hgr, HPL.out⟩, ?_⟩⟩
      rw [RdTs_iff, HL.out]
      intro j hj
      obtain ⟨u', h1, h2⟩ := HPRE.out j hj
      refine ⟨u', fun i x hx => ?_, h2.plow (by omega)⟩
      rw [Nat.zero_add]
      exact (HB.out _ _ (h1 i x hx)).1

end Go.Proofs.YtkofafefnlommaaDoor

/- Trees of Preds that lie in blocks of one's own, each block for itself. -/
namespace Go.Proofs.YtkofafefnlommaaDoor
open Go.RowKit

/-- The cells of Preds, each with its slice of operands. -/
def kcs : List T → List Value → List Value
  | t :: r, u :: us => t.cs u ++ kcs r us
  | _, _ => []
theorem kcs_len : ∀ {l : List T} {us : List Value}, us.length = l.length → (kcs l us).length = l.length * 7
  | [], us, _ => by cases us <;> rfl
  | t :: r, [], h => by simp at h
  | t :: r, u :: us, h => by
    rw [kcs, List.length_append, kcs_len (by simpa using h), T.cs_len, List.length_cons]
    omega
theorem kcs_append : ∀ {a : List T} {x : List Value} (b : List T) (y : List Value), x.length = a.length → kcs (a ++ b) (x ++ y) = kcs a x ++ kcs b y
  | [], [], b, y, _ => by simp [kcs]
  | [], _ :: _, b, y, h => by simp at h
  | t :: a, [], b, y, h => by simp at h
  | t :: a, u :: x, b, y, h => by
    rw [List.cons_append, List.cons_append, kcs, kcs, kcs_append b y (by simpa using h), List.append_assoc]

mutual
/-- In blocks from lo on and below hi, each for itself, memory reads as t; none of them is frozen. (A slice without elements may lie anywhere.) -/
def OwnT (lo hi : Nat) (w : World) : T → Value → Prop
  | .mk _ _ _ _ l, u => (l = [] ∧ ∃ a cap, u = .slice a 0 cap) ∨ ∃ g cap us, u = .slice (some ⟨g, 0, none⟩) l.length cap ∧ l.length ≤ maxLen ∧ lo ≤ g ∧ g < hi ∧ Plain w g ∧ us.length = l.length ∧ Blk w g (kcs l us) ∧ OwnTs g lo hi w l us
/-- The same of each tree of a list, in blocks other than g. -/
def OwnTs (g lo hi : Nat) (w : World) : List T → List Value → Prop
  | [], us => us = []
  | t :: r, us => ∃ u us' a m, us = u :: us' ∧ lo ≤ a ∧ a ≤ m ∧ m ≤ hi ∧ (g < a ∨ m ≤ g) ∧ OwnT a m w t u ∧ OwnTs g m hi w r us'
end
theorem OwnT_def {lo hi : Nat} {w : World} {t : T} {u : Value} : OwnT lo hi w t u ↔ (t.l = [] ∧ ∃ a cap, u = .slice a 0 cap) ∨ ∃ g cap us, u = .slice (some ⟨g, 0, none⟩) t.l.length cap ∧ t.l.length ≤ maxLen ∧ lo ≤ g ∧ g < hi ∧ Plain w g ∧ us.length = t.l.length ∧ Blk w g (kcs t.l us) ∧ OwnTs g lo hi w t.l us := by
  obtain ⟨k, c, o, v, l⟩ := t
  rw [OwnT]
  exact Iff.rfl
theorem OwnTs_cons {g lo hi : Nat} {w : World} {t : T} {r : List T} {us : List Value} : OwnTs g lo hi w (t :: r) us ↔ ∃ u us' a m, us = u :: us' ∧ lo ≤ a ∧ a ≤ m ∧ m ≤ hi ∧ (g < a ∨ m ≤ g) ∧ OwnT a m w t u ∧ OwnTs g m hi w r us' := by
  rw [OwnTs]
theorem OwnTs_nil {g lo hi : Nat} {w : World} {us : List Value} : OwnTs g lo hi w [] us ↔ us = [] := by
  rw [OwnTs]
theorem OwnTs.len {g hi : Nat} {w : World} : ∀ {l : List T} {us : List Value} {lo : Nat}, OwnTs g lo hi w l us → us.length = l.length
  | [], us, lo, h => by rw [OwnTs_nil.1 h]; rfl
  | t :: r, us, lo, h => by
    obtain ⟨u, us', a, m, rfl, _, _, _, _, _, h⟩ := OwnTs_cons.1 h
    simp [h.len]
theorem OwnTs.le {g lo hi : Nat} {w : World} {t : T} {r : List T} {us : List Value} (h : OwnTs g lo hi w (t :: r) us) : lo ≤ hi := by
  obtain ⟨u, us', a, m, rfl, _, _, _, _, _, h⟩ := OwnTs_cons.1 h
  omega
theorem blk_of {w w' : World} {b : Nat} {cs : List Value} (h : Blk w b cs) (hb : w'.heap[b]? = w.heap[b]?) : Blk w' b cs := fun i x hx =>
  ⟨(World.cell?_of_block hb).trans (h i x hx).1, (World.frozen?_of_block hb).trans (h i x hx).2⟩
/-- The lists' part of a fact about trees. -/
theorem OwnTs.lift {w w' : World} {g : Nat} : ∀ {l : List T} {us : List Value} {lo hi lo' hi' : Nat} (_ : ∀ t ∈ l, ∀ (a m : Nat) (u : Value), lo ≤ a → m ≤ hi → (g < a ∨ m ≤ g) → OwnT a m w t u → OwnT a m w' t u) (_ : lo' ≤ lo) (_ : hi ≤ hi'), OwnTs g lo hi w l us → OwnTs g lo' hi' w' l us
  | [], us, lo, hi, lo', hi', _, _, _, h => OwnTs_nil.2 (OwnTs_nil.1 h)
  | t :: r, us, lo, hi, lo', hi', f, h1, h2, h => by
    obtain ⟨u, us', a, m, rfl, ha, hm, hh, hg, ht, h⟩ := OwnTs_cons.1 h
    refine OwnTs_cons.2 ⟨u, us', a, m, rfl, by omega, hm, by omega, hg, f t List.mem_cons_self a m u ha hh hg ht, ?_⟩
    exact OwnTs.lift (fun t ht a' m' u ha' hm' hg' => f t (List.mem_cons_of_mem _ ht) a' m' u (by omega) hm' hg') (Nat.le_refl _) h2 h
theorem OwnT.keep {w w' : World} : ∀ (t : T) (lo hi : Nat) (u : Value), (∀ b, lo ≤ b → b < hi → w'.heap[b]? = w.heap[b]?) → OwnT lo hi w t u → OwnT lo hi w' t u := by
  refine T.induct (fun t ih lo hi u hw h => ?_)
  rw [OwnT_def] at h ⊢
  refine h.imp id ?_
  rintro ⟨g, cap, us, rfl, hn, hlo, hhi, hp, hl, hb, hs⟩
  exact ⟨g, cap, us, rfl, hn, hlo, hhi, hp.of (hw g hlo hhi), hl, blk_of hb (hw g hlo hhi), OwnTs.lift (fun x hx a m u ha hm _ h => ih x hx a m u (fun b h1 h2 => hw b (by omega) (by omega)) h) (Nat.le_refl _) (Nat.le_refl _) hs⟩
theorem OwnTs.keep {w w' : World} {g lo hi lo' hi' : Nat} {l : List T} {us : List Value} (h : OwnTs g lo hi w l us) (hw : ∀ b, lo ≤ b → b < hi → b ≠ g → w'.heap[b]? = w.heap[b]?) (h1 : lo' ≤ lo) (h2 : hi ≤ hi') : OwnTs g lo' hi' w' l us :=
  OwnTs.lift (fun t _ a m u ha hm hg h => OwnT.keep t a m u (fun b h1 h2 => hw b (by omega) (by omega) (by omega)) h) h1 h2 h
theorem OwnT.wide {w : World} {t : T} {u : Value} {lo hi lo' hi' : Nat} (h : OwnT lo hi w t u) (h1 : lo' ≤ lo) (h2 : hi ≤ hi') : OwnT lo' hi' w t u := by
  rw [OwnT_def] at h ⊢
  refine h.imp id ?_
  rintro ⟨g, cap, us, rfl, hn, hlo, hhi, hp, hl, hb, hs⟩
  exact ⟨g, cap, us, rfl, hn, by omega, by omega, hp, hl, hb, hs.keep (fun _ _ _ _ => rfl) h1 h2⟩
theorem OwnT.below {w w' : World} {t : T} {u : Value} {lo hi B : Nat} (h : OwnT lo hi w t u) (hb : Below B w w') (hB : hi ≤ B) : OwnT lo hi w' t u :=
  OwnT.keep t lo hi u (fun b _ h2 => hb.block b (by omega)) h
theorem OwnT.within {w w' : World} {t : T} {u : Value} {lo hi lo' hi' : Nat} (h : OwnT lo hi w t u) (hs : hi ≤ w.heap.size) (hw : Within lo' hi' w w') (hd : hi ≤ lo' ∨ hi' ≤ lo) : OwnT lo hi w' t u :=
  OwnT.keep t lo hi u (fun b h1 h2 => hw.2.2.2.2 b (by omega) (by omega)) h
theorem OwnTs.append {w : World} {g : Nat} : ∀ {a : List T} {x : List Value} {b : List T} {y : List Value} {lo m hi : Nat}, OwnTs g lo m w a x → OwnTs g m hi w b y → lo ≤ m → m ≤ hi → OwnTs g lo hi w (a ++ b) (x ++ y)
  | [], x, b, y, lo, m, hi, h, k, h1, h2 => by
    rw [OwnTs_nil.1 h]
    exact k.keep (fun _ _ _ _ => rfl) h1 (Nat.le_refl _)
  | t :: a, x, b, y, lo, m, hi, h, k, h1, h2 => by
    obtain ⟨u, us', p, q, rfl, hp, hq, hm, hg, ht, h⟩ := OwnTs_cons.1 h
    refine OwnTs_cons.2 ⟨u, us' ++ y, p, q, rfl, hp, hq, by omega, hg, ht, ?_⟩
    exact OwnTs.append h k (by omega) h2
theorem OwnTs.snoc {w : World} {g lo m a hi : Nat} {l : List T} {us : List Value} {t : T} {u : Value} (h : OwnTs g lo m w l us) (h0 : lo ≤ m) (h1 : m ≤ a) (h2 : a ≤ hi) (hg : g < a ∨ hi ≤ g) (ht : OwnT a hi w t u) : OwnTs g lo hi w (l ++ [t]) (us ++ [u]) :=
  h.append (OwnTs_cons.2 ⟨u, [], a, hi, rfl, h1, h2, Nat.le_refl _, hg, ht, OwnTs_nil.2 rfl⟩) h0 (by omega)
/-- Such a tree reads as one in blocks that are not frozen. -/
theorem OwnTs.rds {w : World} {g : Nat} {Q : Nat → Prop} : ∀ {l : List T} {us : List Value} {lo hi : Nat} (_ : ∀ t ∈ l, ∀ (a m : Nat) (u : Value), lo ≤ a → m ≤ hi → OwnT a m w t u → RdT Q w t u) {b off : Nat} (_ : ∀ i x, (kcs l us)[i]? = some x → w.cell? ⟨b, off + i, none⟩ = some x), OwnTs g lo hi w l us → RdTs Q w l b off
  | [], us, lo, hi, _, b, off, _, h => by rw [RdTs]; trivial
  | t :: r, us, lo, hi, f, b, off, hc, h => by
    obtain ⟨u, us', a, m, rfl, ha, hm, hh, hg, ht, h⟩ := OwnTs_cons.1 h
    rw [RdTs]
    refine ⟨⟨u, fun i x hx => hc i x ?_, f t List.mem_cons_self a m u ha hh ht⟩, ?_⟩
    · rw [kcs, List.getElem?_append_left (List.getElem?_eq_some_iff.1 hx).1]
      exact hx
    · refine OwnTs.rds (fun t ht a' m' u ha' hm' => f t (List.mem_cons_of_mem _ ht) a' m' u (by omega) hm') (fun i x hx => ?_) h
      rw [Nat.add_assoc]
      refine hc (7 + i) x ?_
      rw [kcs, List.getElem?_append_right (by rw [T.cs_len]; omega), T.cs_len, Nat.add_sub_cancel_left]
      exact hx
theorem OwnT.rdQ {w : World} {Q : Nat → Prop} : ∀ (t : T) (lo hi : Nat) (u : Value), (∀ b, lo ≤ b → b < hi → Plain w b → Q b) → OwnT lo hi w t u → RdT Q w t u := by
  refine T.induct (fun t ih lo hi u hQ h => ?_)
  rw [OwnT_def] at h
  rw [RdT_def]
  rcases h with ⟨hl, a, cap, rfl⟩ | ⟨g, cap, us, rfl, hn, hlo, hhi, hp, hl, hb, hs⟩
  · exact ⟨a, cap, by rw [hl]; rfl, by rw [hl]; exact Nat.zero_le _, .inl (by rw [hl]; rfl)⟩
  · refine ⟨_, cap, rfl, hn, .inr ⟨g, 0, rfl, hQ g hlo hhi hp, ?_⟩⟩
    exact OwnTs.rds (fun x hx a m u ha hm h => ih x hx a m u (fun b h1 h2 h3 => hQ b (by omega) (by omega) h3) h) (fun i x hx => by rw [Nat.zero_add]; exact (hb i x hx).1) hs
theorem OwnT.rd {w : World} {t : T} {u : Value} {lo hi : Nat} (h : OwnT lo hi w t u) (hs : hi ≤ w.heap.size) : RdT (PQ lo w) w t u :=
  OwnT.rdQ t lo hi u (fun _ h1 h2 h3 => ⟨h1, by omega, h3⟩) h

mutual
/-- How far markPredS counts over a tree's operands. -/
def T.ml : T → Nat | .mk _ _ _ _ l => T.mls l
def T.mls : List T → Nat | [] => 0 | t :: r => 6 + T.ml t + T.mls r
end
mutual
/-- What markPredS leaves of a tree, whose own number is s. -/
def T.mk6 : T → Nat → T | .mk _ _ _ _ l, s => .mk (s : Nat) (s + 1 : Nat) (s + 2 : Nat) ⟨(s + 3 : Nat), (s + 4 : Nat), mtext (s + 5)⟩ (T.mks l (s + 6))
def T.mks : List T → Nat → List T | [], _ => [] | t :: r, s => T.mk6 t s :: T.mks r (s + 6 + T.ml t)
end
theorem T.mls_append : ∀ a b : List T, T.mls (a ++ b) = T.mls a + T.mls b
  | [], b => by simp [T.mls]
  | t :: a, b => by
    rw [List.cons_append, T.mls, T.mls, T.mls_append a b]
    omega
theorem T.mks_append : ∀ (a b : List T) (s : Nat), T.mks (a ++ b) s = T.mks a s ++ T.mks b (s + T.mls a)
  | [], b, s => by simp [T.mls, T.mks]
  | t :: a, b, s => by
    rw [List.cons_append, T.mks, T.mks, T.mls, T.mks_append a b, List.cons_append]
    congr 3
    omega
theorem T.mks_len : ∀ (a : List T) (s : Nat), (T.mks a s).length = a.length
  | [], s => by rw [T.mks]
  | t :: a, s => by rw [T.mks, List.length_cons, List.length_cons, T.mks_len a]
theorem T.ml_def (t : T) : t.ml = T.mls t.l := by
  obtain ⟨k, c, o, v, l⟩ := t
  rw [T.ml]
  rfl
theorem T.mk6_def (t : T) (s : Nat) : t.mk6 s = .mk (s : Nat) (s + 1 : Nat) (s + 2 : Nat) ⟨(s + 3 : Nat), (s + 4 : Nat), mtext (s + 5)⟩ (T.mks t.l (s + 6)) := by
  obtain ⟨k, c, o, v, l⟩ := t
  rw [T.mk6]
  rfl
theorem T.mls_le_bulks (n : Nat) : ∀ l : List T, T.bulks l < n → T.mls l ≤ 6 * T.bulks l := by
  induction n with
  | zero => intro l h; omega
  | succ n ih =>
    intro l
    induction l with
    | nil => intro _; rw [T.mls]; exact Nat.zero_le _
    | cons t r ihr =>
      intro h
      have e : T.bulks (t :: r) = t.bulk + T.bulks r := by rw [T.bulks]
      have e2 := T.bulk_def t
      have h1 := ih t.l (by omega)
      have h2 := ihr (by omega)
      rw [T.mls, T.ml_def]
      omega
theorem T.mls_le (l : List T) : T.mls l ≤ 6 * T.bulks l := T.mls_le_bulks _ l (Nat.lt_succ_self _)

end Go.Proofs.YtkofafefnlommaaDoor

/- The laws' own toPred (written by mk_H11c.py). -/
namespace Go.Proofs.YtkofafefnlommaaDoor
open Go.RowKit

/-- What lies from block lo on stays. -/
def Keeps (lo : Nat) (w W : World) : Prop := ∀ b o x, lo ≤ b → w.cell? ⟨b, o, none⟩ = some x → W.cell? ⟨b, o, none⟩ = some x
theorem Keeps.refl (lo : Nat) (w : World) : Keeps lo w w := fun _ _ _ _ h => h
theorem Keeps.set {lo : Nat} {w W : World} (h : Keeps lo w W) {g : Nat} (hg : g < lo) (j : Nat) (y : Value) : Keeps lo w (W.setCell ⟨g, j, none⟩ y) := fun b o x hb hx =>
  (World.cell?_setCell_other _ _ _ _ (fun e => by injection e with e1; omega)).trans (h b o x hb hx)

set_option maxHeartbeats 4000000 in
theorem toPred : ∀ t : T, ToT t := by
  refine T.induct (fun t ih => ?_)
  intro Q u w hbk h
  have HS := Lib.hid (fun W (hW : Below w.heap.size w W) => toPredS t ih u W (by omega) (h.below hW))
  have HSH := Lib.hid (fun (Q' : Nat → Prop) W u' (hr : RdT Q' W t u') => (RdT_def.1 hr))
  have HT := Lib.hid (fun W => toVal t.v W)
  clear h ih hbk
  generalize hln : t.l.length = ln at HSH
  clear hln
  generalize ht : t = t0 at HS HSH ⊢
  have HTT := Lib.hid ht
  clear ht
  obtain ⟨k, c, o, ⟨vt, vn, vs⟩, l⟩ := t
  have HA : Hid (∀ u', t0.agg u' = .agg #[.int .i64 k, .int .i64 c, .int .i64 o, .int .i64 vt, .int .i64 vn, .string vs, u']) := fun u' => by
    rw [← HTT.out]
    rfl
  rw [HA.out]
  simp only [T.v] at HT
  clear HTT
  have B0 := below_alloc3 w (.cells #[.int .i64 k, .int .i64 c, .int .i64 o, .int .i64 vt, .int .i64 vn, .string vs, u] 26) (.cells #[.int .i64 0, .int .i64 0, .int .i64 0, .int .i64 0, .int .i64 0, .string ⟨#[]⟩, .slice none 0 0] 32) (.cells #[.int .i64 k, .int .i64 c, .int .i64 o, .int .i64 0, .int .i64 0, .string ⟨#[]⟩, .slice none 0 0] 32)
  have C0 := ((blk_new w [.int .i64 k, .int .i64 c, .int .i64 o, .int .i64 vt, .int .i64 vn, .string vs, u] 26).below (below_alloc _ (.cells #[.int .i64 0, .int .i64 0, .int .i64 0, .int .i64 0, .int .i64 0, .string ⟨#[]⟩, .slice none 0 0] 32))).below (below_alloc _ (.cells #[.int .i64 k, .int .i64 c, .int .i64 o, .int .i64 0, .int .i64 0, .string ⟨#[]⟩, .slice none 0 0] 32))
  have C1 := (blk_new (w.alloc (.cells #[.int .i64 k, .int .i64 c, .int .i64 o, .int .i64 vt, .int .i64 vn, .string vs, u] 26)) [.int .i64 0, .int .i64 0, .int .i64 0, .int .i64 0, .int .i64 0, .string ⟨#[]⟩, .slice none 0 0] 32).below (below_alloc _ (.cells #[.int .i64 k, .int .i64 c, .int .i64 o, .int .i64 0, .int .i64 0, .string ⟨#[]⟩, .slice none 0 0] 32))
  have C2 := blk_new ((w.alloc (.cells #[.int .i64 k, .int .i64 c, .int .i64 o, .int .i64 vt, .int .i64 vn, .string vs, u] 26)).alloc (.cells #[.int .i64 0, .int .i64 0, .int .i64 0, .int .i64 0, .int .i64 0, .string ⟨#[]⟩, .slice none 0 0] 32)) [.int .i64 k, .int .i64 c, .int .i64 o, .int .i64 0, .int .i64 0, .string ⟨#[]⟩, .slice none 0 0] 32
  rw [World.size_alloc] at C1
  rw [World.size_alloc, World.size_alloc] at C2
  have HSZ : Hid ((((w.alloc (.cells #[.int .i64 k, .int .i64 c, .int .i64 o, .int .i64 vt, .int .i64 vn, .string vs, u] 26)).alloc (.cells #[.int .i64 0, .int .i64 0, .int .i64 0, .int .i64 0, .int .i64 0, .string ⟨#[]⟩, .slice none 0 0] 32)).alloc (.cells #[.int .i64 k, .int .i64 c, .int .i64 o, .int .i64 0, .int .i64 0, .string ⟨#[]⟩, .slice none 0 0] 32)).heap.size = w.heap.size + 3) := by
    show _ = _
    rw [World.size_alloc, World.size_alloc, World.size_alloc]
  generalize hw0 : ((w.alloc (.cells #[.int .i64 k, .int .i64 c, .int .i64 o, .int .i64 vt, .int .i64 vn, .string vs, u] 26)).alloc (.cells #[.int .i64 0, .int .i64 0, .int .i64 0, .int .i64 0, .int .i64 0, .string ⟨#[]⟩, .slice none 0 0] 32)).alloc (.cells #[.int .i64 k, .int .i64 c, .int .i64 o, .int .i64 0, .int .i64 0, .string ⟨#[]⟩, .slice none 0 0] 32) = w0 at B0 C0 C1 C2 HSZ
  have HW0 := Lib.hid hw0
  clear hw0
  go_enter Tryd.func8, Tryd.ntmps8
  go_wp2_with fail
  rw [HW0.out]
  refine (HT.out _).mono ?_
  rintro e w1 ⟨rfl, b1⟩
  have B1 := below_then B0 b1 B0.size
  have hs1 := b1.size
  rw [HSZ.out] at hs1
  replace C0 := C0.below b1
  replace C1 := C1.below b1
  replace C2 := C2.below b1
  have D2 := ((C2.set 3 (.int .i64 vt)).set 4 (.int .i64 vn)).set 5 (.string vs)
  have D1 := ((C1.other (p := ⟨w.heap.size + 1 + 1, 3, none⟩) (by simp) (.int .i64 vt)).other (p := ⟨w.heap.size + 1 + 1, 4, none⟩) (by simp) (.int .i64 vn)).other (p := ⟨w.heap.size + 1 + 1, 5, none⟩) (by simp) (.string vs)
  have B2 := ((B1.setCell (p := ⟨w.heap.size + 1 + 1, 3, none⟩) (by simp; omega) (.int .i64 vt)).setCell (p := ⟨w.heap.size + 1 + 1, 4, none⟩) (by simp; omega) (.int .i64 vn)).setCell (p := ⟨w.heap.size + 1 + 1, 5, none⟩) (by simp; omega) (.string vs)
  have c6 := (C0 6 _ rfl).1
  have e3 := (C2 3 _ rfl).1
  have e4 := (C2 4 _ rfl).1
  have e5 := (C2 5 _ rfl).1
  have f3 := (C2 3 _ rfl).2
  have f4 := (C2 4 _ rfl).2
  have f5 := (C2 5 _ rfl).2
  have hs2 : w.heap.size + 3 ≤ (((w1.setCell ⟨w.heap.size + 1 + 1, 3, none⟩ (.int .i64 vt)).setCell ⟨w.heap.size + 1 + 1, 4, none⟩ (.int .i64 vn)).setCell ⟨w.heap.size + 1 + 1, 5, none⟩ (.string vs)).heap.size := by simpa using hs1
  generalize hw2 : ((w1.setCell ⟨w.heap.size + 1 + 1, 3, none⟩ (.int .i64 vt)).setCell ⟨w.heap.size + 1 + 1, 4, none⟩ (.int .i64 vn)).setCell ⟨w.heap.size + 1 + 1, 5, none⟩ (.string vs) = w2 at D1 D2 B2 hs2
  have HW2 := Lib.hid hw2
  clear hw2 b1 HT C0 C1 C2 B0 B1
  go_wp2_with fail
  rw [HW2.out]
  refine (HS.out _ B2).mono ?_
  rintro e w3 ⟨v, rfl, hv, b3⟩
  obtain ⟨va, vc, hvs, _⟩ := HSH.out _ _ _ hv
  subst hvs
  have B3 := below_then B2 b3 B2.size
  replace D1 := D1.below b3
  replace D2 := D2.below b3
  have HV := Lib.hid (hv.plow (lo' := w.heap.size + 3) (by omega))
  simp only [List.set_cons_succ, List.set_cons_zero] at D2
  obtain ⟨d0, g0⟩ := D2 0 _ rfl
  obtain ⟨d1, g1⟩ := D2 1 _ rfl
  obtain ⟨d2, g2⟩ := D2 2 _ rfl
  obtain ⟨d3, g3⟩ := D2 3 _ rfl
  obtain ⟨d4, g4⟩ := D2 4 _ rfl
  obtain ⟨d5, g5⟩ := D2 5 _ rfl
  obtain ⟨d6, g6⟩ := D2 6 _ rfl
  obtain ⟨m0, n0⟩ := D1 0 _ rfl
  obtain ⟨m1, n1⟩ := D1 1 _ rfl
  obtain ⟨m2, n2⟩ := D1 2 _ rfl
  obtain ⟨m3, n3⟩ := D1 3 _ rfl
  obtain ⟨m4, n4⟩ := D1 4 _ rfl
  obtain ⟨m5, n5⟩ := D1 5 _ rfl
  obtain ⟨m6, n6⟩ := D1 6 _ rfl
  clear D1 D2 hv b3 B2 HS HSH c6 e3 e4 e5 f3 f4 f5 hs2 HW2 HW0
  go_wp2
  refine bodyPost_ret (v := .agg #[.int .i64 k, .int .i64 c, .int .i64 o, .int .i64 vt, .int .i64 vn, .string vs, .slice va ln vc]) (by simp [results, Tryd.results8, go_sem, *]) rfl ⟨_, by rw [HA.out], ((((((((HV.out.pset (by simp) _).pset (by simp) _).pset (by simp) _).pset (by simp) _).pset (by simp) _).pset (by simp) _).pset (by simp) _).pset (by simp) _).plow (by omega), ?_⟩
  · exact (((((((B3.setCell (by simp; omega) _).setCell (by simp) _).setCell (by simp) _).setCell (by simp) _).setCell (by simp) _).setCell (by simp) _).setCell (by simp) _).setCell (by simp) _

end Go.Proofs.YtkofafefnlommaaDoor

/- The laws' own toPredS and toPred: what they make is a tree of one's own (written by mk_O12b.py). -/
namespace Go.Proofs.YtkofafefnlommaaDoor
open Go.RowKit

theorem OwnT.sl {lo hi : Nat} {w : World} {t : T} {u : Value} (h : OwnT lo hi w t u) : ∃ a cp, u = .slice a t.l.length cp := by
  rw [OwnT_def] at h
  rcases h with ⟨hl, a, cap, rfl⟩ | ⟨g, cap, us, rfl, _⟩
  · exact ⟨a, cap, by rw [hl]; rfl⟩
  · exact ⟨_, cap, rfl⟩
theorem OwnT.setLow {lo hi : Nat} {w : World} {t : T} {u : Value} (h : OwnT lo hi w t u) {p : Addr} (hp : p.block < lo) (x : Value) : OwnT lo hi (w.setCell p x) t u :=
  OwnT.keep t lo hi u (fun b h1 _ => Below.heap_setCell _ _ _ _ (fun e => by omega)) h
theorem kcs_one (x : T) (v : Value) : kcs [x] [v] = x.cs v := by simp [kcs]
theorem own_step {g k : Nat} {wr w2 W2 : World} {l : List T} {xs us : List Value} {x : T} {v : Value} (hkt : k < l.length) (hx : l.getD k T.zero = x) (hus : us.length = k) (hks : ∀ (i : Nat) (y : Value), (kcs (l.take k) us)[i]? = some y → xs[i]? = some y)
    (hos : OwnTs g (g + 1) wr.heap.size wr (l.take k) us) (hgr : g < wr.heap.size) (hxk : xs.length = l.length * 7) (b2 : Below wr.heap.size wr w2) (hW : ∀ b, b ≠ g → W2.heap[b]? = w2.heap[b]?) (hs : W2.heap.size = w2.heap.size) (hv : OwnT wr.heap.size w2.heap.size w2 x v) :
    (us ++ [v]).length = k + 1 ∧ (∀ (i : Nat) (y : Value), (kcs (l.take (k + 1)) (us ++ [v]))[i]? = some y → (put7 xs (k * 7) (x.cs v))[i]? = some y) ∧ OwnTs g (g + 1) W2.heap.size W2 (l.take (k + 1)) (us ++ [v]) := by
  have htk : l.take (k + 1) = l.take k ++ [x] := by
    rw [List.take_succ_eq_append_getElem hkt, ← hx, getDe l T.zero hkt]
  have hlt2 : us.length = (l.take k).length := by rw [hus, List.length_take, Nat.min_eq_left (Nat.le_of_lt hkt)]
  have hkl : (kcs (l.take k) us).length = k * 7 := by rw [kcs_len hlt2, ← hlt2, hus]
  refine ⟨by rw [List.length_append, hus]; rfl, fun i y hy => ?_, ?_⟩
  · rw [htk, kcs_append _ _ hlt2] at hy
    by_cases hi : i < k * 7
    · rw [List.getElem?_append_left (by omega)] at hy
      rw [put7_out (by omega)]
      exact hks i y hy
    · rw [List.getElem?_append_right (by omega), hkl, kcs_one] at hy
      have hi7 : i - k * 7 < 7 := (List.getElem?_eq_some_iff.1 hy).1
      have e : i = k * 7 + (i - k * 7) := by omega
      rw [e, put7_in (by omega) (T.cs_len _ _) hi7]
      exact hy
  · have h2 := b2.size
    rw [htk, hs]
    refine OwnTs.snoc (m := wr.heap.size) (a := wr.heap.size) (hos.keep (fun b h1 h2 h3 => (hW b h3).trans (b2.block b h2)) (Nat.le_refl _) (Nat.le_refl _)) (by omega) (Nat.le_refl _) h2 (.inl hgr) ?_
    exact OwnT.keep _ _ _ _ (fun b h1 h2 => hW b (by omega)) hv

/-- What toPred says. -/
def ToO (t : T) : Prop := ∀ (Q : Nat → Prop) (u : Value) (w : World), t.bulk ≤ 1073741824 → RdT Q w t u →
  Calls Tryd.prog 8 #[t.agg u] w fun e w' => ∃ u', e = .returned (t.agg u') ∧ OwnT w.heap.size w'.heap.size w' t u' ∧ Below w.heap.size w w'

set_option maxHeartbeats 1000000 in
theorem toPredSO (t : T) (ih : ∀ x ∈ t.l, ToO x) {Q : Nat → Prop} (u : Value) (w : World) (hb : t.bulk ≤ 1073741825) (h : RdT Q w t u) :
    Calls Tryd.prog 31 #[u] w fun e w' => ∃ u', e = .returned u' ∧ OwnT w.heap.size w'.heap.size w' t u' ∧ Below w.heap.size w w' := by
  have HI := Lib.hid (fun k (hk : k < t.l.length) => ih _ (kid_mem hk))
  have HBK : Hid (∀ k, k < t.l.length → (t.l.getD k T.zero).bulk ≤ 1073741824) := fun k hk => by
    have := T.bulk_child (kid_mem hk)
    omega
  have hln : t.l.length ≤ 1073741824 := by
    have h1 := T.bulks_length t.l
    have h2 := T.bulk_def t
    omega
  generalize hl : t.l.length = n at HI HBK hln
  obtain ⟨a, cap, rfl, hle, HC⟩ := h.kids hl
  have HL := Lib.hid hl
  clear h hl ih hb
  go_enter Tryd.func31, Tryd.ntmps31
  go_wp2_with (at_make; refine make_law Tryd.elemPreds rfl _ _ rfl .i64 .i64 _ _ n rfl rfl rfl rfl (by omega) (by unfold maxLen; omega) ?_)
  intro w1 hown hb1
  obtain ⟨xs0, hxl, hblk⟩ : ∃ xs : List Value, xs.length = n * 7 ∧ Blk w1 w.heap.size xs := by
    have r := hown.row
    refine ⟨_, r.1, fun i x hx => ⟨(r.cellAt i ?_).trans hx, r.frozenAt i⟩⟩
    have := (List.getElem?_eq_some_iff.1 hx).1
    rw [r.1] at this
    exact this
  have hg1 : w.heap.size < w1.heap.size := by
    obtain ⟨g, cp, e, _, h2, _⟩ := hown
    simp only [Value.slice.injEq, Option.some.injEq, Addr.mk.injEq, and_true] at e
    omega
  have hpl := plain_own hown rfl
  clear hown
  go_wp2
  go_loopw [4] (fun i wr => ∃ (k : Nat) (xs us : List Value), k ≤ n ∧ i = .int .i64 k ∧ xs.length = n * 7 ∧ Blk wr w.heap.size xs ∧ w.heap.size < wr.heap.size ∧ Plain wr w.heap.size ∧ Below w.heap.size w wr ∧
    us.length = k ∧ (∀ (i : Nat) (x : Value), (kcs (t.l.take k) us)[i]? = some x → xs[i]? = some x) ∧ OwnTs w.heap.size (w.heap.size + 1) wr.heap.size wr (t.l.take k) us) (fun i _ => n - (intOf i).toNat)
  case atStart => exact ⟨0, xs0, [], Nat.zero_le _, rfl, hxl, hblk, hg1, hpl, hb1, rfl, fun i x h => (by simp [kcs] at h), OwnTs_nil.2 rfl⟩
  case round =>
    obtain ⟨k, xs, us, hk, rfl, hxk, hB, hgr, hplr, hbr, hus, hks, hos⟩ := hrel
    have hpre := And.intro hus (And.intro hks hos)
    have HPL := Lib.hid hplr
    have HPRE := Lib.hid hpre
    have HB := Lib.hid hB
    clear hpre hus hks hos hB hblk hxl hb1 hg1 hpl hplr
    by_cases hlt : k < n
    · obtain ⟨b, off, u', rfl, hr, c0, c1, c2, c3, c4, c5, c6⟩ := HC.out k hlt wr hbr
      have HX := Lib.hid (HI.out k hlt _ u' wr (HBK.out k hlt) hr)
      have HXE : Hid (∃ y, y = t.l.getD k T.zero) := ⟨_, rfl⟩
      clear hr
      generalize hx : t.l.getD k T.zero = x at c0 c1 c2 c3 c4 c5 HX
      have HXX := Lib.hid hx
      clear hx HXE
      obtain ⟨xk, xc, xo, ⟨xt, xn, xs'⟩, xl⟩ := x
      simp only [T.agg, T.kind, T.col, T.op, T.v] at c0 c1 c2 c3 c4 c5 HX
      go_wp2_with fail
      refine HX.out.mono ?_
      rintro e w2 ⟨v, rfl, hv, b2⟩
      have B2 := Lib.hid (below_then hbr b2 hbr.size)
      obtain ⟨va, vc, hvs⟩ : ∃ a cp, v = .slice a (T.mk xk xc xo ⟨xt, xn, xs'⟩ xl).l.length cp := hv.sl
      have HV := Lib.hid hv
      generalize (T.mk xk xc xo ⟨xt, xn, xs'⟩ xl).l.length = vn at hvs
      subst hvs
      have HG2 : Hid (w.heap.size < w2.heap.size) := Nat.lt_of_lt_of_le hgr b2.size
      have Blk2 := HB.out.below b2
      have HB2 := Lib.hid Blk2
      have HGS := Lib.hid b2
      have cc : ∀ i, i < 7 → ∃ y, xs[k * 7 + i]? = some y := fun i hi => ⟨_, List.getElem?_eq_getElem (by omega)⟩
      obtain ⟨y0, hy0⟩ := cc 0 (by omega)
      obtain ⟨y1, hy1⟩ := cc 1 (by omega)
      obtain ⟨y2, hy2⟩ := cc 2 (by omega)
      obtain ⟨y3, hy3⟩ := cc 3 (by omega)
      obtain ⟨y4, hy4⟩ := cc 4 (by omega)
      obtain ⟨y5, hy5⟩ := cc 5 (by omega)
      obtain ⟨y6, hy6⟩ := cc 6 (by omega)
      obtain ⟨e0, f0⟩ := Blk2 _ _ hy0
      obtain ⟨e1, f1⟩ := Blk2 _ _ hy1
      obtain ⟨e2, f2⟩ := Blk2 _ _ hy2
      obtain ⟨e3, f3⟩ := Blk2 _ _ hy3
      obtain ⟨e4, f4⟩ := Blk2 _ _ hy4
      obtain ⟨e5, f5⟩ := Blk2 _ _ hy5
      obtain ⟨e6, f6⟩ := Blk2 _ _ hy6
      simp only [Nat.add_zero] at e0 f0
      clear Blk2 cc hv b2 HX c0 c1 c2 c3 c4 c5 c6 hy0 hy1 hy2 hy3 hy4 hy5 hy6
      have HSZ2 : Hid ((((((((w2.setCell ⟨w.heap.size, k * 7, none⟩ (.int .i64 xk)).setCell ⟨w.heap.size, k * 7 + 1, none⟩ (.int .i64 xc)).setCell ⟨w.heap.size, k * 7 + 2, none⟩ (.int .i64 xo)).setCell ⟨w.heap.size, k * 7 + 3, none⟩ (.int .i64 xt)).setCell ⟨w.heap.size, k * 7 + 4, none⟩ (.int .i64 xn)).setCell ⟨w.heap.size, k * 7 + 5, none⟩ (.string xs')).setCell ⟨w.heap.size, k * 7 + 6, none⟩ (.slice va vn vc)).heap.size = w2.heap.size) := by
        show _ = _
        simp [World.setCell]
      have HKP : Hid (∀ b, b ≠ w.heap.size → (((((((w2.setCell ⟨w.heap.size, k * 7, none⟩ (.int .i64 xk)).setCell ⟨w.heap.size, k * 7 + 1, none⟩ (.int .i64 xc)).setCell ⟨w.heap.size, k * 7 + 2, none⟩ (.int .i64 xo)).setCell ⟨w.heap.size, k * 7 + 3, none⟩ (.int .i64 xt)).setCell ⟨w.heap.size, k * 7 + 4, none⟩ (.int .i64 xn)).setCell ⟨w.heap.size, k * 7 + 5, none⟩ (.string xs')).setCell ⟨w.heap.size, k * 7 + 6, none⟩ (.slice va vn vc)).heap[b]? = w2.heap[b]?) := fun b hb => ((Below.heap_setCell _ _ _ _ hb).trans ((Below.heap_setCell _ _ _ _ hb).trans ((Below.heap_setCell _ _ _ _ hb).trans ((Below.heap_setCell _ _ _ _ hb).trans ((Below.heap_setCell _ _ _ _ hb).trans ((Below.heap_setCell _ _ _ _ hb).trans (Below.heap_setCell _ _ _ _ hb)))))))
      have HWR : Hid (w.heap.size < wr.heap.size) := hgr
      have FIN : Hid (∃ xs2 us2 : List Value, xs2.length = n * 7 ∧ us2.length = k + 1 ∧ Blk (((((((w2.setCell ⟨w.heap.size, k * 7, none⟩ (.int .i64 xk)).setCell ⟨w.heap.size, k * 7 + 1, none⟩ (.int .i64 xc)).setCell ⟨w.heap.size, k * 7 + 2, none⟩ (.int .i64 xo)).setCell ⟨w.heap.size, k * 7 + 3, none⟩ (.int .i64 xt)).setCell ⟨w.heap.size, k * 7 + 4, none⟩ (.int .i64 xn)).setCell ⟨w.heap.size, k * 7 + 5, none⟩ (.string xs')).setCell ⟨w.heap.size, k * 7 + 6, none⟩ (.slice va vn vc)) w.heap.size xs2 ∧
          (∀ (i : Nat) (x : Value), (kcs (t.l.take (k + 1)) us2)[i]? = some x → xs2[i]? = some x) ∧ OwnTs w.heap.size (w.heap.size + 1) (((((((w2.setCell ⟨w.heap.size, k * 7, none⟩ (.int .i64 xk)).setCell ⟨w.heap.size, k * 7 + 1, none⟩ (.int .i64 xc)).setCell ⟨w.heap.size, k * 7 + 2, none⟩ (.int .i64 xo)).setCell ⟨w.heap.size, k * 7 + 3, none⟩ (.int .i64 xt)).setCell ⟨w.heap.size, k * 7 + 4, none⟩ (.int .i64 xn)).setCell ⟨w.heap.size, k * 7 + 5, none⟩ (.string xs')).setCell ⟨w.heap.size, k * 7 + 6, none⟩ (.slice va vn vc)).heap.size (((((((w2.setCell ⟨w.heap.size, k * 7, none⟩ (.int .i64 xk)).setCell ⟨w.heap.size, k * 7 + 1, none⟩ (.int .i64 xc)).setCell ⟨w.heap.size, k * 7 + 2, none⟩ (.int .i64 xo)).setCell ⟨w.heap.size, k * 7 + 3, none⟩ (.int .i64 xt)).setCell ⟨w.heap.size, k * 7 + 4, none⟩ (.int .i64 xn)).setCell ⟨w.heap.size, k * 7 + 5, none⟩ (.string xs')).setCell ⟨w.heap.size, k * 7 + 6, none⟩ (.slice va vn vc)) (t.l.take (k + 1)) us2) := by
        obtain ⟨hus, hks, hos⟩ := HPRE.out
        obtain ⟨h1, h2, h3⟩ := own_step (v := .slice va vn vc) (by rw [HL.out]; exact hlt) HXX.out hus hks hos HWR.out (by rw [HL.out]; exact hxk) HGS.out HKP.out HSZ2.out HV.out
        exact ⟨put7 xs (k * 7) ((T.mk xk xc xo ⟨xt, xn, xs'⟩ xl).cs (.slice va vn vc)), us ++ [.slice va vn vc], (put7_len _ _ _).trans hxk, h1, ((((((HB2.out.set _ _).set _ _).set _ _).set _ _).set _ _).set _ _).set _ _, h2, h3⟩
      clear HSZ2 HKP HWR
      go_wp2
      go_roundw
      case rel =>
        obtain ⟨xs2, us2, h1, h0, h2, h3, h4⟩ := FIN.out
        exact ⟨k + 1, xs2, us2, by omega, by go_num, h1, h2, by simpa using HG2.out, (((((((HPL.out.below HGS.out).setCell _ _).setCell _ _).setCell _ _).setCell _ _).setCell _ _).setCell _ _).setCell _ _, ((((((B2.out.setCell (by simp) _).setCell (by simp) _).setCell (by simp) _).setCell (by simp) _).setCell (by simp) _).setCell (by simp) _).setCell (by simp) _, h0, h3, h4⟩
      case measure => simp [intOf]; omega
    · obtain rfl : k = n := by omega
      go_wp2
      go_ret
      refine ⟨_, rfl, ?_, hbr⟩
      obtain ⟨hus, hks, hos⟩ := HPRE.out
      have htk : t.l.take k = t.l := by rw [← HL.out, List.take_length]
      rw [htk] at hks hos
      rw [OwnT_def, HL.out]
      exact .inr ⟨_, _, us, rfl, hle, Nat.le_refl _, hgr, HPL.out, hus, fun i x hx => HB.out i x (hks i x hx), hos.keep (fun _ _ _ _ => rfl) (by omega) (Nat.le_refl _)⟩

set_option maxHeartbeats 1000000 in
theorem toPredO : ∀ t : T, ToO t := by
  refine T.induct (fun t ih => ?_)
  intro Q u w hbk h
  have HS := Lib.hid (fun W (hW : Below w.heap.size w W) => toPredSO t ih u W (by omega) (h.below hW))
  have HSH := Lib.hid (fun (lo hi : Nat) W u' (hr : OwnT lo hi W t u') => hr.sl)
  have HT := Lib.hid (fun W => toVal t.v W)
  clear h ih hbk
  generalize hln : t.l.length = ln at HSH
  clear hln
  generalize ht : t = t0 at HS HSH ⊢
  have HTT := Lib.hid ht
  clear ht
  obtain ⟨k, c, o, ⟨vt, vn, vs⟩, l⟩ := t
  have HA : Hid (∀ u', t0.agg u' = .agg #[.int .i64 k, .int .i64 c, .int .i64 o, .int .i64 vt, .int .i64 vn, .string vs, u']) := fun u' => by
    rw [← HTT.out]
    rfl
  rw [HA.out]
  simp only [T.v] at HT
  clear HTT
  have B0 := below_alloc3 w (.cells #[.int .i64 k, .int .i64 c, .int .i64 o, .int .i64 vt, .int .i64 vn, .string vs, u] 26) (.cells #[.int .i64 0, .int .i64 0, .int .i64 0, .int .i64 0, .int .i64 0, .string ⟨#[]⟩, .slice none 0 0] 32) (.cells #[.int .i64 k, .int .i64 c, .int .i64 o, .int .i64 0, .int .i64 0, .string ⟨#[]⟩, .slice none 0 0] 32)
  have C0 := ((blk_new w [.int .i64 k, .int .i64 c, .int .i64 o, .int .i64 vt, .int .i64 vn, .string vs, u] 26).below (below_alloc _ (.cells #[.int .i64 0, .int .i64 0, .int .i64 0, .int .i64 0, .int .i64 0, .string ⟨#[]⟩, .slice none 0 0] 32))).below (below_alloc _ (.cells #[.int .i64 k, .int .i64 c, .int .i64 o, .int .i64 0, .int .i64 0, .string ⟨#[]⟩, .slice none 0 0] 32))
  have C1 := (blk_new (w.alloc (.cells #[.int .i64 k, .int .i64 c, .int .i64 o, .int .i64 vt, .int .i64 vn, .string vs, u] 26)) [.int .i64 0, .int .i64 0, .int .i64 0, .int .i64 0, .int .i64 0, .string ⟨#[]⟩, .slice none 0 0] 32).below (below_alloc _ (.cells #[.int .i64 k, .int .i64 c, .int .i64 o, .int .i64 0, .int .i64 0, .string ⟨#[]⟩, .slice none 0 0] 32))
  have C2 := blk_new ((w.alloc (.cells #[.int .i64 k, .int .i64 c, .int .i64 o, .int .i64 vt, .int .i64 vn, .string vs, u] 26)).alloc (.cells #[.int .i64 0, .int .i64 0, .int .i64 0, .int .i64 0, .int .i64 0, .string ⟨#[]⟩, .slice none 0 0] 32)) [.int .i64 k, .int .i64 c, .int .i64 o, .int .i64 0, .int .i64 0, .string ⟨#[]⟩, .slice none 0 0] 32
  rw [World.size_alloc] at C1
  rw [World.size_alloc, World.size_alloc] at C2
  have HSZ : Hid ((((w.alloc (.cells #[.int .i64 k, .int .i64 c, .int .i64 o, .int .i64 vt, .int .i64 vn, .string vs, u] 26)).alloc (.cells #[.int .i64 0, .int .i64 0, .int .i64 0, .int .i64 0, .int .i64 0, .string ⟨#[]⟩, .slice none 0 0] 32)).alloc (.cells #[.int .i64 k, .int .i64 c, .int .i64 o, .int .i64 0, .int .i64 0, .string ⟨#[]⟩, .slice none 0 0] 32)).heap.size = w.heap.size + 3) := by
    show _ = _
    rw [World.size_alloc, World.size_alloc, World.size_alloc]
  generalize hw0 : ((w.alloc (.cells #[.int .i64 k, .int .i64 c, .int .i64 o, .int .i64 vt, .int .i64 vn, .string vs, u] 26)).alloc (.cells #[.int .i64 0, .int .i64 0, .int .i64 0, .int .i64 0, .int .i64 0, .string ⟨#[]⟩, .slice none 0 0] 32)).alloc (.cells #[.int .i64 k, .int .i64 c, .int .i64 o, .int .i64 0, .int .i64 0, .string ⟨#[]⟩, .slice none 0 0] 32) = w0 at B0 C0 C1 C2 HSZ
  have HW0 := Lib.hid hw0
  clear hw0
  go_enter Tryd.func8, Tryd.ntmps8
  go_wp2_with fail
  rw [HW0.out]
  refine (HT.out _).mono ?_
  rintro e w1 ⟨rfl, b1⟩
  have B1 := below_then B0 b1 B0.size
  have hs1 := b1.size
  rw [HSZ.out] at hs1
  replace C0 := C0.below b1
  replace C1 := C1.below b1
  replace C2 := C2.below b1
  have D2 := ((C2.set 3 (.int .i64 vt)).set 4 (.int .i64 vn)).set 5 (.string vs)
  have D1 := ((C1.other (p := ⟨w.heap.size + 1 + 1, 3, none⟩) (by simp) (.int .i64 vt)).other (p := ⟨w.heap.size + 1 + 1, 4, none⟩) (by simp) (.int .i64 vn)).other (p := ⟨w.heap.size + 1 + 1, 5, none⟩) (by simp) (.string vs)
  have B2 := ((B1.setCell (p := ⟨w.heap.size + 1 + 1, 3, none⟩) (by simp; omega) (.int .i64 vt)).setCell (p := ⟨w.heap.size + 1 + 1, 4, none⟩) (by simp; omega) (.int .i64 vn)).setCell (p := ⟨w.heap.size + 1 + 1, 5, none⟩) (by simp; omega) (.string vs)
  have c6 := (C0 6 _ rfl).1
  have e3 := (C2 3 _ rfl).1
  have e4 := (C2 4 _ rfl).1
  have e5 := (C2 5 _ rfl).1
  have f3 := (C2 3 _ rfl).2
  have f4 := (C2 4 _ rfl).2
  have f5 := (C2 5 _ rfl).2
  have hs2 : w.heap.size + 3 ≤ (((w1.setCell ⟨w.heap.size + 1 + 1, 3, none⟩ (.int .i64 vt)).setCell ⟨w.heap.size + 1 + 1, 4, none⟩ (.int .i64 vn)).setCell ⟨w.heap.size + 1 + 1, 5, none⟩ (.string vs)).heap.size := by simpa using hs1
  generalize hw2 : ((w1.setCell ⟨w.heap.size + 1 + 1, 3, none⟩ (.int .i64 vt)).setCell ⟨w.heap.size + 1 + 1, 4, none⟩ (.int .i64 vn)).setCell ⟨w.heap.size + 1 + 1, 5, none⟩ (.string vs) = w2 at D1 D2 B2 hs2
  have HW2 := Lib.hid hw2
  clear hw2 b1 HT C0 C1 C2 B0 B1
  go_wp2_with fail
  rw [HW2.out]
  refine (HS.out _ B2).mono ?_
  rintro e w3 ⟨v, rfl, hv, b3⟩
  obtain ⟨va, vc, hvs⟩ := HSH.out _ _ _ _ hv
  subst hvs
  have B3 := below_then B2 b3 B2.size
  replace D1 := D1.below b3
  replace D2 := D2.below b3
  have HV := Lib.hid (hv.wide (lo' := w.heap.size + 3) (by omega) (Nat.le_refl _))
  simp only [List.set_cons_succ, List.set_cons_zero] at D2
  obtain ⟨d0, g0⟩ := D2 0 _ rfl
  obtain ⟨d1, g1⟩ := D2 1 _ rfl
  obtain ⟨d2, g2⟩ := D2 2 _ rfl
  obtain ⟨d3, g3⟩ := D2 3 _ rfl
  obtain ⟨d4, g4⟩ := D2 4 _ rfl
  obtain ⟨d5, g5⟩ := D2 5 _ rfl
  obtain ⟨d6, g6⟩ := D2 6 _ rfl
  obtain ⟨m0, n0⟩ := D1 0 _ rfl
  obtain ⟨m1, n1⟩ := D1 1 _ rfl
  obtain ⟨m2, n2⟩ := D1 2 _ rfl
  obtain ⟨m3, n3⟩ := D1 3 _ rfl
  obtain ⟨m4, n4⟩ := D1 4 _ rfl
  obtain ⟨m5, n5⟩ := D1 5 _ rfl
  obtain ⟨m6, n6⟩ := D1 6 _ rfl
  clear D1 D2 hv b3 B2 HS HSH c6 e3 e4 e5 f3 f4 f5 hs2 HW2 HW0
  go_wp2
  refine bodyPost_ret (v := .agg #[.int .i64 k, .int .i64 c, .int .i64 o, .int .i64 vt, .int .i64 vn, .string vs, .slice va ln vc]) (by simp [results, Tryd.results8, go_sem, *]) rfl ⟨_, by rw [HA.out], ((((((((HV.out.setLow (by simp) _).setLow (by simp) _).setLow (by simp) _).setLow (by simp) _).setLow (by simp) _).setLow (by simp) _).setLow (by simp) _).setLow (by simp) _).wide (by omega) (by simp), ?_⟩
  · exact (((((((B3.setCell (by simp; omega) _).setCell (by simp) _).setCell (by simp) _).setCell (by simp) _).setCell (by simp) _).setCell (by simp) _).setCell (by simp) _).setCell (by simp) _

end Go.Proofs.YtkofafefnlommaaDoor

/- The laws' own markPredS and markPred, over a tree of one's own. -/
namespace Go.Proofs.YtkofafefnlommaaDoor
open Go.RowKit

theorem set6 {A rest : List Value} {n : Nat} (hA : A.length = n) (a0 a1 a2 a3 a4 a5 a6 b0 b1 b2 b3 b4 b5 : Value) :
    ((((((A ++ ([a0, a1, a2, a3, a4, a5, a6] ++ rest)).set n b0).set (n + 1) b1).set (n + 2) b2).set (n + 3) b3).set (n + 4) b4).set (n + 5) b5 = A ++ ([b0, b1, b2, b3, b4, b5, a6] ++ rest) := by
  subst hA
  rw [List.set_append_right _ _ (Nat.le_refl _), Nat.sub_self, List.set_append_right _ _ (by omega), Nat.add_sub_cancel_left, List.set_append_right _ _ (by omega), Nat.add_sub_cancel_left,
    List.set_append_right _ _ (by omega), Nat.add_sub_cancel_left, List.set_append_right _ _ (by omega), Nat.add_sub_cancel_left, List.set_append_right _ _ (by omega), Nat.add_sub_cancel_left]
  rfl
theorem get7 {A rest : List Value} {n : Nat} (hA : A.length = n) (L : List Value) {i : Nat} (hi : i < L.length) : (A ++ (L ++ rest))[n + i]? = L[i]? := by
  subst hA
  rw [List.getElem?_append_right (by omega), Nat.add_sub_cancel_left, List.getElem?_append_left hi]
theorem OwnT.same {lo hi : Nat} {w : World} {t t' : T} {u : Value} (h : OwnT lo hi w t u) (e : t'.l = t.l) : OwnT lo hi w t' u := by
  rw [OwnT_def] at h ⊢
  rw [e]
  exact h
theorem Within.wide {lo hi lo' hi' : Nat} {w w' : World} (h : Within lo hi w w') (h1 : lo' ≤ lo) (h2 : hi ≤ hi') : Within lo' hi' w w' :=
  ⟨h.1, h.2.1, h.2.2.1, h.2.2.2.1, fun b hb hr => h.2.2.2.2 b hb (by omega)⟩
theorem Within.set {lo hi : Nat} {w w' : World} (h : Within lo hi w w') {g : Nat} (h1 : lo ≤ g) (h2 : g < hi) (j : Nat) (x : Value) : Within lo hi w (w'.setCell ⟨g, j, none⟩ x) :=
  ⟨h.1, h.2.1, h.2.2.1, by simpa [World.setCell] using h.2.2.2.1, fun b hb hr => (Below.heap_setCell _ _ _ _ (fun e => by simp at e; omega)).trans (h.2.2.2.2 b hb hr)⟩
theorem Within.on {lo hi : Nat} {w w' w'' : World} (h : Within lo hi w w') (hb : Below w'.heap.size w' w'') : Within lo hi w w'' :=
  ⟨hb.os.trans h.1, hb.tape.trans h.2.1, hb.output.trans h.2.2.1, Nat.le_trans h.2.2.2.1 hb.size, fun b h1 h2 => (hb.block b (Nat.lt_of_lt_of_le h1 h.2.2.2.1)).trans (h.2.2.2.2 b h1 h2)⟩
theorem T.mls_take {l : List T} {k : Nat} (h : k < l.length) : T.mls (l.take (k + 1)) = T.mls (l.take k) + (6 + T.mls (l.getD k T.zero).l) := by
  rw [List.take_succ_eq_append_getElem h, T.mls_append, getDe l T.zero h, T.mls, T.mls, T.ml_def]
  rfl
theorem T.mls_take_le (l : List T) (k : Nat) : T.mls (l.take k) ≤ T.mls l := by
  conv => rhs; rw [← List.take_append_drop k l, T.mls_append]
  omega
theorem T.mks_take {l : List T} {k : Nat} (h : k < l.length) (s : Nat) : T.mks (l.take (k + 1)) s = T.mks (l.take k) s ++ [(l.getD k T.zero).mk6 (s + T.mls (l.take k))] := by
  rw [List.take_succ_eq_append_getElem h, T.mks_append, getDe l T.zero h, T.mks, T.mks]
theorem mk6_cs (x : T) (sk : Nat) (u : Value) : (x.mk6 sk).cs u = [.int .i64 (sk : Int), .int .i64 ((sk : Int) + 1), .int .i64 ((sk : Int) + 1 + 1), .int .i64 ((sk : Int) + 1 + 1 + 1), .int .i64 ((sk : Int) + 1 + 1 + 1 + 1), .string (mtext (sk + 5)), u] := by
  rw [T.mk6_def]
  show [Value.int .i64 ((sk : Nat) : Int), .int .i64 ((sk + 1 : Nat) : Int), .int .i64 ((sk + 2 : Nat) : Int), .int .i64 ((sk + 3 : Nat) : Int), .int .i64 ((sk + 4 : Nat) : Int), .string (mtext (sk + 5)), u] = _
  rw [show ((sk + 1 : Nat) : Int) = (sk : Int) + 1 by omega, show ((sk + 2 : Nat) : Int) = (sk : Int) + 1 + 1 by omega, show ((sk + 3 : Nat) : Int) = (sk : Int) + 1 + 1 + 1 by omega, show ((sk + 4 : Nat) : Int) = (sk : Int) + 1 + 1 + 1 + 1 by omega]
/-- What markPredS says. -/
def MkT (t : T) : Prop := ∀ (lo hi s : Nat) (w : World) (u : Value), OwnT lo hi w t u → hi ≤ w.heap.size → 0 < s → s + T.mls t.l ≤ 1073741824 →
  Calls Tryd.prog 79 #[u, .int .i64 s] w fun e w' => e = .returned (.int .i64 (s + T.mls t.l : Nat)) ∧ OwnT lo hi w' (.mk 0 0 0 V.zero (T.mks t.l s)) u ∧ Within lo hi w w'

set_option maxHeartbeats 1000000 in
theorem markPredS : ∀ t : T, MkT t := by
  refine T.induct (fun t ih => ?_)
  intro lo hi s w u h hhs h0 hsm
  rw [OwnT_def] at h
  rcases h with ⟨hl, a, cap, rfl⟩ | ⟨g, cap, us, rfl, hn, hlo, hhi, hp, hul, hb, hos⟩
  · have e : T.mls t.l = 0 := by rw [hl, T.mls]
    rw [e]
    have HE : Hid (OwnT lo hi w (.mk 0 0 0 V.zero (T.mks t.l s)) (.slice a 0 cap)) := by
      show OwnT _ _ _ _ _
      rw [OwnT_def]
      exact .inl ⟨by rw [hl]; rfl, a, cap, rfl⟩
    clear e hl ih hsm
    go_enter Tryd.func79, Tryd.ntmps79
    go_wp2
    go_loopw [1, 5] (fun q i wr => i = .int .i64 0 ∧ q = .int .i64 (s : Nat) ∧ wr = w) (fun _ i _ => 0)
    case atStart => exact ⟨rfl, rfl, rfl⟩
    case round =>
      obtain ⟨rfl, rfl, rfl⟩ := hrel
      go_wp2
      go_ret
      exact ⟨rfl, HE.out, Within.refl _ _ _⟩
  · generalize hln : t.l.length = n at hn hul
    have HL := Lib.hid hln
    have HU := Lib.hid hul
    have HIH := Lib.hid (fun x hx => ih x hx)
    have HM := Lib.hid (fun k => T.mls_take_le t.l k)
    have HSM := Lib.hid hsm
    unfold maxLen at hn
    clear hln hul ih
    go_enter Tryd.func79, Tryd.ntmps79
    go_wp2
    go_loopw [1, 5] (fun q i wr => ∃ (k mid : Nat), k ≤ n ∧ i = .int .i64 k ∧ q = .int .i64 (s + T.mls (t.l.take k) : Nat) ∧ lo ≤ mid ∧ mid ≤ hi ∧ OwnTs g lo mid wr (T.mks (t.l.take k) s) (us.take k) ∧ OwnTs g mid hi wr (t.l.drop k) (us.drop k) ∧
      Blk wr g (kcs (T.mks (t.l.take k) s ++ t.l.drop k) us) ∧ Plain wr g ∧ Within lo hi w wr) (fun _ i _ => n - (intOf i).toNat)
    case atStart => exact ⟨0, lo, Nat.zero_le _, rfl, by simp [T.mls], Nat.le_refl _, by omega, OwnTs_nil.2 rfl, hos, by simpa [T.mks] using hb, hp, Within.refl _ _ _⟩
    case round =>
      obtain ⟨k, mid, hk, rfl, rfl, hm1, hm2, ho1, ho2, hB, hP, hW⟩ := hrel
      clear hos hb hp
      by_cases hlt : k < n
      · have hkt : k < t.l.length := by rw [HL.out]; exact hlt
        have hku : k < us.length := by rw [HU.out]; exact hlt
        have hdl : t.l.drop k = t.l.getD k T.zero :: t.l.drop (k + 1) := by rw [List.drop_eq_getElem_cons hkt, getDe t.l T.zero hkt]
        rw [hdl] at ho2 hB
        obtain ⟨u', us', a, m, hue, ha1, ha2, ha3, hag, hox, ho3⟩ := OwnTs_cons.1 ho2
        have hu2 : us.drop (k + 1) = us' := by
          have := congrArg List.tail hue
          simpa using this
        have huu : us = us.take k ++ (u' :: us') := by rw [← hue, List.take_append_drop]
        have hlen1 : (us.take k).length = (T.mks (t.l.take k) s).length := by rw [T.mks_len, List.length_take, List.length_take]; omega
        have HTK := Lib.hid (T.mls_take hkt)
        have HMK := Lib.hid (T.mks_take hkt s)
        have hx := HIH.out _ (kid_mem hkt)
        have hms := HM.out (k + 1)
        rw [HTK.out] at hms
        generalize hxx : t.l.getD k T.zero = x at *
        generalize hsk : s + T.mls (t.l.take k) = sk at *
        have hsk0 : 0 < sk := by omega
        have hskb : sk + 6 + T.mls x.l ≤ 1073741824 := by have := HSM.out; omega
        have hA : (kcs (T.mks (t.l.take k) s) (us.take k)).length = k * 7 := by
          rw [kcs_len hlen1, T.mks_len, List.length_take]
          congr 1
          omega
        rw [huu, kcs_append _ _ hlen1, kcs] at hB
        generalize hAE : kcs (T.mks (t.l.take k) s) (us.take k) = A at hA hB
        have HAE := Lib.hid hAE
        clear hAE
        have hKR : ∃ K, K = kcs (t.l.drop (k + 1)) us' := ⟨_, rfl⟩
        obtain ⟨K, hK⟩ := hKR
        rw [← hK] at hB
        have HX := Lib.hid hx
        have HOX := Lib.hid hox
        have HO1 := Lib.hid ho1
        have HO3 := Lib.hid ho3
        have HB := Lib.hid hB
        have HP := Lib.hid hP
        have HW := Lib.hid hW
        have HXX := Lib.hid hxx
        have HSK := Lib.hid hsk
        have HAA := Lib.hid hA
        have HKK := Lib.hid hK
        have HU2 := Lib.hid hu2
        have HUU := Lib.hid huu
        have HL1 := Lib.hid hlen1
        have HMT : Hid (∀ W, Calls Tryd.prog 95 #[.int .i64 ((sk : Int) + 1 + 1 + 1 + 1 + 1)] W fun e w' => e = .returned (.string (mtext (sk + 5))) ∧ Below W.heap.size W w') := fun W => by
          rw [show (sk : Int) + 1 + 1 + 1 + 1 + 1 = ((sk + 5 : Nat) : Int) by omega]
          exact markText (sk + 5) W (by omega) (by omega)
        have hc : ∀ i y, (x.cs u')[i]? = some y → wr.cell? ⟨g, k * 7 + i, none⟩ = some y ∧ wr.frozen? ⟨g, k * 7 + i, none⟩ = false := fun i y hy =>
          hB (k * 7 + i) y ((get7 hA (x.cs u') (List.getElem?_eq_some_iff.1 hy).1).trans hy)
        obtain ⟨c0, f0⟩ := hc 0 _ rfl
        obtain ⟨c1, f1⟩ := hc 1 _ rfl
        obtain ⟨c2, f2⟩ := hc 2 _ rfl
        obtain ⟨c3, f3⟩ := hc 3 _ rfl
        obtain ⟨c4, f4⟩ := hc 4 _ rfl
        simp only [Nat.add_zero] at c0 f0
        clear hc hx hox ho1 ho2 ho3 hB hP hW hxx hsk hA hK hu2 huu hlen1 hdl hue hms hkt hku hsm
        have B5 := ((((HB.out.set (k * 7) (.int .i64 (sk : Int))).set (k * 7 + 1) (.int .i64 ((sk : Int) + 1))).set (k * 7 + 2) (.int .i64 ((sk : Int) + 1 + 1))).set (k * 7 + 3) (.int .i64 ((sk : Int) + 1 + 1 + 1))).set (k * 7 + 4) (.int .i64 ((sk : Int) + 1 + 1 + 1 + 1))
        have W5 := ((((HW.out.set hlo hhi (k * 7) (.int .i64 (sk : Int))).set hlo hhi (k * 7 + 1) (.int .i64 ((sk : Int) + 1))).set hlo hhi (k * 7 + 2) (.int .i64 ((sk : Int) + 1 + 1))).set hlo hhi (k * 7 + 3) (.int .i64 ((sk : Int) + 1 + 1 + 1))).set hlo hhi (k * 7 + 4) (.int .i64 ((sk : Int) + 1 + 1 + 1 + 1))
        have P5 := ((((HP.out.setCell ⟨g, k * 7, none⟩ (.int .i64 (sk : Int))).setCell ⟨g, k * 7 + 1, none⟩ (.int .i64 ((sk : Int) + 1))).setCell ⟨g, k * 7 + 2, none⟩ (.int .i64 ((sk : Int) + 1 + 1))).setCell ⟨g, k * 7 + 3, none⟩ (.int .i64 ((sk : Int) + 1 + 1 + 1))).setCell ⟨g, k * 7 + 4, none⟩ (.int .i64 ((sk : Int) + 1 + 1 + 1 + 1))
        have K5 : ∀ b, b ≠ g → (((((wr.setCell ⟨g, k * 7, none⟩ (.int .i64 (sk : Int))).setCell ⟨g, k * 7 + 1, none⟩ (.int .i64 ((sk : Int) + 1))).setCell ⟨g, k * 7 + 2, none⟩ (.int .i64 ((sk : Int) + 1 + 1))).setCell ⟨g, k * 7 + 3, none⟩ (.int .i64 ((sk : Int) + 1 + 1 + 1))).setCell ⟨g, k * 7 + 4, none⟩ (.int .i64 ((sk : Int) + 1 + 1 + 1 + 1))).heap[b]? = wr.heap[b]? := fun b hb =>
          (Below.heap_setCell _ _ _ _ hb).trans ((Below.heap_setCell _ _ _ _ hb).trans ((Below.heap_setCell _ _ _ _ hb).trans ((Below.heap_setCell _ _ _ _ hb).trans (Below.heap_setCell _ _ _ _ hb))))
        have Z5 : (((((wr.setCell ⟨g, k * 7, none⟩ (.int .i64 (sk : Int))).setCell ⟨g, k * 7 + 1, none⟩ (.int .i64 ((sk : Int) + 1))).setCell ⟨g, k * 7 + 2, none⟩ (.int .i64 ((sk : Int) + 1 + 1))).setCell ⟨g, k * 7 + 3, none⟩ (.int .i64 ((sk : Int) + 1 + 1 + 1))).setCell ⟨g, k * 7 + 4, none⟩ (.int .i64 ((sk : Int) + 1 + 1 + 1 + 1))).heap.size = wr.heap.size := by simp [World.setCell]
        generalize hw5 : ((((wr.setCell ⟨g, k * 7, none⟩ (.int .i64 (sk : Int))).setCell ⟨g, k * 7 + 1, none⟩ (.int .i64 ((sk : Int) + 1))).setCell ⟨g, k * 7 + 2, none⟩ (.int .i64 ((sk : Int) + 1 + 1))).setCell ⟨g, k * 7 + 3, none⟩ (.int .i64 ((sk : Int) + 1 + 1 + 1))).setCell ⟨g, k * 7 + 4, none⟩ (.int .i64 ((sk : Int) + 1 + 1 + 1 + 1)) = w5 at B5 W5 P5 K5 Z5
        have HW5 := Lib.hid hw5
        have HB5 := Lib.hid B5
        have HK5 := Lib.hid K5
        have HWI5 := Lib.hid W5
        have HP5 := Lib.hid P5
        have HZ5 := Lib.hid Z5
        clear hw5 B5 W5 P5 K5 Z5
        go_wp2_with fail
        rw [HW5.out]
        refine (HMT.out _).mono ?_
        rintro e w6 ⟨rfl, b6⟩
        have HS6 := Lib.hid (set6 HAA.out (.int .i64 x.kind) (.int .i64 x.col) (.int .i64 x.op) (.int .i64 x.v.ty) (.int .i64 x.v.n) (.string x.v.s) u' (.int .i64 (sk : Int)) (.int .i64 ((sk : Int) + 1)) (.int .i64 ((sk : Int) + 1 + 1)) (.int .i64 ((sk : Int) + 1 + 1 + 1)) (.int .i64 ((sk : Int) + 1 + 1 + 1 + 1)) (.string (mtext (sk + 5))) (rest := K))
        have B6 := HB5.out.below b6
        have g5 : ∀ (i : Nat) (y : Value), ((((((A ++ (x.cs u' ++ K)).set (k * 7) (.int .i64 (sk : Int))).set (k * 7 + 1) (.int .i64 ((sk : Int) + 1))).set (k * 7 + 2) (.int .i64 ((sk : Int) + 1 + 1))).set (k * 7 + 3) (.int .i64 ((sk : Int) + 1 + 1 + 1))).set (k * 7 + 4) (.int .i64 ((sk : Int) + 1 + 1 + 1 + 1)))[k * 7 + (5 + i)]? = some y → w6.cell? ⟨g, k * 7 + (5 + i), none⟩ = some y ∧ w6.frozen? ⟨g, k * 7 + (5 + i), none⟩ = false := fun i y hy => B6 _ y hy
        have hq : ∀ i y, (x.cs u')[5 + i]? = some y → w6.cell? ⟨g, k * 7 + (5 + i), none⟩ = some y ∧ w6.frozen? ⟨g, k * 7 + (5 + i), none⟩ = false := fun i y hy => by
          refine g5 i y ?_
          rw [List.getElem?_set_ne (by omega), List.getElem?_set_ne (by omega), List.getElem?_set_ne (by omega), List.getElem?_set_ne (by omega), List.getElem?_set_ne (by omega)]
          exact (get7 HAA.out (x.cs u') (List.getElem?_eq_some_iff.1 hy).1).trans hy
        obtain ⟨d5, e5⟩ := hq 0 _ rfl
        obtain ⟨d6, e6⟩ := hq 1 _ rfl
        simp only [Nat.add_zero, Nat.reduceAdd] at d5 e5 d6 e6
        have B7 := B6.set (k * 7 + 5) (.string (mtext (sk + 5)))
        have W7 := (HWI5.out.on b6).set hlo hhi (k * 7 + 5) (.string (mtext (sk + 5)))
        have P7 := (HP5.out.below b6).setCell ⟨g, k * 7 + 5, none⟩ (.string (mtext (sk + 5)))
        have hsz : wr.heap.size ≤ w6.heap.size := by have := b6.size; have := HZ5.out; omega
        have K7 : ∀ b, b < wr.heap.size → b ≠ g → (w6.setCell ⟨g, k * 7 + 5, none⟩ (.string (mtext (sk + 5)))).heap[b]? = wr.heap[b]? := fun b hb hne =>
          (Below.heap_setCell _ _ _ _ hne).trans ((b6.block b (by rw [HZ5.out]; exact hb)).trans (HK5.out b hne))
        have hwz : w.heap.size ≤ wr.heap.size := HW.out.2.2.2.1
        have Z7 : (w6.setCell ⟨g, k * 7 + 5, none⟩ (.string (mtext (sk + 5)))).heap.size = w6.heap.size := by simp [World.setCell]
        have C6 : (w6.setCell ⟨g, k * 7 + 5, none⟩ (.string (mtext (sk + 5)))).cell? ⟨g, k * 7 + 6, none⟩ = some u' := (World.cell?_setCell_other _ _ _ _ (fun e => by injection e with _ e2; omega)).trans d6
        generalize hw7 : w6.setCell ⟨g, k * 7 + 5, none⟩ (.string (mtext (sk + 5))) = w7 at B7 W7 P7 K7 Z7 C6
        have hx7 := HX.out a m (sk + 6) w7 u' (OwnT.keep x a m u' (fun b h1 h2 => K7 b (by omega) (by omega)) HOX.out) (by omega) (by omega) (by omega)
        have HX7 := Lib.hid hx7
        have HW7 := Lib.hid hw7
        have HB7 := Lib.hid B7
        have HWI7 := Lib.hid W7
        have HP7 := Lib.hid P7
        have HK7 := Lib.hid K7
        have HHZ : Hid (w6.heap.size = w7.heap.size) := Z7.symm
        have hwz7 : wr.heap.size ≤ w7.heap.size := by omega
        have HAR : Hid ((sk : Int) + 1 + 1 + 1 + 1 + 1 + 1 = ((sk + 6 : Nat) : Int)) := by show (_ : Int) = _; omega
        clear B6 g5 hq B7 W7 P7 K7 Z7 hx7 hw7 C6 e6 b6 c0 c1 c2 c3 c4 f0 f1 f2 f3 f4 HMT hsz
        go_wp2_with fail
        rw [HW7.out, HAR.out]
        refine HX7.out.mono ?_
        rintro e w8 ⟨rfl, o8, i8⟩
        have HO8 := Lib.hid o8
        have HI8 := Lib.hid i8
        clear o8 i8 d5 e5 d6
        go_wp2
        go_roundw
        case rel =>
          have hmx : (x.mk6 sk).l = T.mks x.l (sk + 6) := by rw [T.mk6_def]; rfl
          have hkeep : ∀ b, b < wr.heap.size → b ≠ g → (b < a ∨ m ≤ b) → w8.heap[b]? = wr.heap[b]? := fun b h1 h2 h3 => (HI8.out.2.2.2.2 b (by omega) h3).trans (HK7.out b h1 h2)
          have hg8 : w8.heap[g]? = w7.heap[g]? := HI8.out.2.2.2.2 g (by have := HP7.out.lt; omega) hag
          refine ⟨k + 1, m, by omega, by go_num, ?_, by omega, ha3, ?_, ?_, ?_, HP7.out.of hg8, ?_⟩
          · rw [HTK.out]
            have := HSK.out
            go_num
          · rw [HMK.out]
            have htu : us.take (k + 1) = us.take k ++ [u'] := by
              have e1 : us.take (k + 1) = (us.take k ++ (u' :: us')).take (k + 1) := by rw [← HUU.out]
              have e2 : (us.take k).length = k := by rw [List.length_take, HU.out]; omega
              rw [e1, List.take_append, e2, List.take_of_length_le (by omega), Nat.add_sub_cancel_left]
              rfl
            rw [htu]
            exact OwnTs.snoc (m := mid) (HO1.out.keep (fun b h1 h2 h3 => hkeep b (by omega) h3 (by omega)) (Nat.le_refl _) (Nat.le_refl _)) hm1 ha1 ha2 hag (HO8.out.same hmx)
          · rw [HU2.out]
            exact HO3.out.keep (fun b h1 h2 h3 => hkeep b (by omega) h3 (by omega)) (Nat.le_refl _) (Nat.le_refl _)
          · have e1 : kcs (T.mks (t.l.take (k + 1)) s ++ t.l.drop (k + 1)) us = A ++ ((x.mk6 sk).cs u' ++ K) := by
              rw [HMK.out, List.append_assoc]
              conv => lhs; rw [HUU.out]
              rw [kcs_append _ _ HL1.out, HAE.out, HKK.out]
              rfl
            rw [e1, mk6_cs, ← HS6.out]
            exact blk_of HB7.out hg8
          · exact HWI7.out.trans (HI8.out.wide (by omega) (by omega))
        case measure => simp [intOf]; omega
      · obtain rfl : k = n := by omega
        have htk : t.l.take k = t.l := by rw [← HL.out, List.take_length]
        have hdk : t.l.drop k = [] := by rw [← HL.out, List.drop_length]
        have huk : us.take k = us := by rw [← HU.out, List.take_length]
        rw [htk] at ho1 hB ⊢
        rw [huk] at ho1
        rw [hdk, List.append_nil] at hB
        have HE : Hid (OwnT lo hi wr (.mk 0 0 0 V.zero (T.mks t.l s)) (.slice (some ⟨g, 0, none⟩) k cap)) := by
          show OwnT _ _ _ _ _
          rw [OwnT_def]
          refine .inr ⟨g, cap, us, ?_, ?_, hlo, hhi, hP, ?_, hB, ho1.keep (fun _ _ _ _ => rfl) (Nat.le_refl _) hm2⟩
          · show _ = Value.slice _ (T.mks t.l s).length _
            rw [T.mks_len, HL.out]
          · show (T.mks t.l s).length ≤ _
            rw [T.mks_len, HL.out]
            exact hn
          · show _ = (T.mks t.l s).length
            rw [T.mks_len, HL.out]
            exact HU.out
        clear ho1 ho2 hB
        go_wp2
        go_ret
        exact ⟨rfl, HE.out, hW⟩

end Go.Proofs.YtkofafefnlommaaDoor
