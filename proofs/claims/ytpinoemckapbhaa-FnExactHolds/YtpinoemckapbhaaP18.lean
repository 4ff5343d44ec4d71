/- Texts of this claim, one behind the other: H11b, H11c, Law11, Law11p. -/
import Derived.Test.YtpinoemckapbhaaP17
import Derived.Test.YtpinoemckapbhaaP6
import Derived.Test.YtpinoemckapbhaaP4
import Derived.Test.YtpinoemckapbhaaP14
import Derived.Test.YtpinoemckapbhaaP2

/- The laws' own eqPred, eqPredS, toPred, toPredS (written by mk_H11b.py). -/
namespace Go.Proofs.Ytpinoemckapbhaa
open Go.RowKit

/-- What eqPred says. -/
def EqT (t : T) : Prop := ∀ (Q1 Q2 : Nat → Prop) (u1 u2 : Value) (w : World), RdT Q1 w t u1 → RdT Q2 w t u2 →
  Calls Try.prog 24 #[t.agg u1, t.agg u2] w fun e w' => e = .returned (.bool true) ∧ Below w.heap.size w w'

set_option maxHeartbeats 1000000 in
theorem eqPredS (t : T) (ih : ∀ x ∈ t.l, EqT x) {Q1 Q2 : Nat → Prop} (u1 u2 : Value) (w : World) (h1 : RdT Q1 w t u1) (h2 : RdT Q2 w t u2) :
    Calls Try.prog 68 #[u1, u2] w fun e w' => e = .returned (.bool true) ∧ Below w.heap.size w w' := by
  have HI := Lib.hid (fun k (hk : k < t.l.length) => ih _ (kid_mem hk))
  generalize hl : t.l.length = n at HI
  obtain ⟨a1, cap1, rfl, hle, HC1⟩ := h1.kids hl
  obtain ⟨a2, cap2, rfl, _, HC2⟩ := h2.kids hl
  unfold maxLen at hle
  have hne : ((n : Int) != (n : Int)) = false := by simp
  clear h1 h2 hl ih
  go_enter Try.func68, Try.ntmps68
  go_wp2
  go_loopw [5] (fun i wr => ∃ k : Nat, k ≤ n ∧ i = .int .i64 k ∧ Below w.heap.size w wr) (fun i _ => n - (intOf i).toNat)
  case atStart => exact ⟨0, Nat.zero_le _, rfl, Below.refl _ _⟩
  case round =>
    obtain ⟨k, hk, rfl, hbr⟩ := hrel
    by_cases hlt : k < n
    · obtain ⟨b1, o1, u1', rfl, r1, p0, p1, p2, p3, p4, p5, p6⟩ := HC1.out k hlt wr hbr
      obtain ⟨b2, o2, u2', rfl, r2, q0, q1, q2, q3, q4, q5, q6⟩ := HC2.out k hlt wr hbr
      have HE := Lib.hid (fun W (hW : Below wr.heap.size wr W) => HI.out k hlt _ _ u1' u2' W (r1.below hW) (r2.below hW))
      clear r1 r2
      generalize t.l.getD k T.zero = x at p0 p1 p2 p3 p4 p5 q0 q1 q2 q3 q4 q5 HE
      obtain ⟨xk, xc, xo, ⟨xt, xn, xs⟩, xl⟩ := x
      simp only [T.agg, T.kind, T.col, T.op, T.v] at p0 p1 p2 p3 p4 p5 q0 q1 q2 q3 q4 q5 HE
      have HK : Hid (∀ W, Below wr.heap.size wr W → W.cell? ⟨b1, o1 + k * 7, none⟩ = some (.int .i64 xk) ∧ W.cell? ⟨b1, o1 + k * 7 + 1, none⟩ = some (.int .i64 xc) ∧ W.cell? ⟨b1, o1 + k * 7 + 2, none⟩ = some (.int .i64 xo) ∧ W.cell? ⟨b1, o1 + k * 7 + 3, none⟩ = some (.int .i64 xt) ∧ W.cell? ⟨b1, o1 + k * 7 + 4, none⟩ = some (.int .i64 xn) ∧ W.cell? ⟨b1, o1 + k * 7 + 5, none⟩ = some (.string xs) ∧ W.cell? ⟨b1, o1 + k * 7 + 6, none⟩ = some (u1') ∧ W.cell? ⟨b2, o2 + k * 7, none⟩ = some (.int .i64 xk) ∧ W.cell? ⟨b2, o2 + k * 7 + 1, none⟩ = some (.int .i64 xc) ∧ W.cell? ⟨b2, o2 + k * 7 + 2, none⟩ = some (.int .i64 xo) ∧ W.cell? ⟨b2, o2 + k * 7 + 3, none⟩ = some (.int .i64 xt) ∧ W.cell? ⟨b2, o2 + k * 7 + 4, none⟩ = some (.int .i64 xn) ∧ W.cell? ⟨b2, o2 + k * 7 + 5, none⟩ = some (.string xs) ∧ W.cell? ⟨b2, o2 + k * 7 + 6, none⟩ = some (u2')) := fun W h =>
        ⟨(h.cell (p := ⟨b1, o1 + k * 7, none⟩) (lt_of_cell p0)).trans p0, (h.cell (p := ⟨b1, o1 + k * 7 + 1, none⟩) (lt_of_cell p1)).trans p1, (h.cell (p := ⟨b1, o1 + k * 7 + 2, none⟩) (lt_of_cell p2)).trans p2, (h.cell (p := ⟨b1, o1 + k * 7 + 3, none⟩) (lt_of_cell p3)).trans p3, (h.cell (p := ⟨b1, o1 + k * 7 + 4, none⟩) (lt_of_cell p4)).trans p4, (h.cell (p := ⟨b1, o1 + k * 7 + 5, none⟩) (lt_of_cell p5)).trans p5, (h.cell (p := ⟨b1, o1 + k * 7 + 6, none⟩) (lt_of_cell p6)).trans p6, (h.cell (p := ⟨b2, o2 + k * 7, none⟩) (lt_of_cell q0)).trans q0, (h.cell (p := ⟨b2, o2 + k * 7 + 1, none⟩) (lt_of_cell q1)).trans q1, (h.cell (p := ⟨b2, o2 + k * 7 + 2, none⟩) (lt_of_cell q2)).trans q2, (h.cell (p := ⟨b2, o2 + k * 7 + 3, none⟩) (lt_of_cell q3)).trans q3, (h.cell (p := ⟨b2, o2 + k * 7 + 4, none⟩) (lt_of_cell q4)).trans q4, (h.cell (p := ⟨b2, o2 + k * 7 + 5, none⟩) (lt_of_cell q5)).trans q5, (h.cell (p := ⟨b2, o2 + k * 7 + 6, none⟩) (lt_of_cell q6)).trans q6⟩
      have hB' := (Below.refl wr.heap.size wr).drew
      clear p0 p1 p2 p3 p4 p5 p6 q0 q1 q2 q3 q4 q5 q6
      go_wp2
      go_region_held3 (fun W => W.cell? ⟨b1, o1 + k * 7, none⟩ = some (.int .i64 xk) ∧ W.cell? ⟨b1, o1 + k * 7 + 1, none⟩ = some (.int .i64 xc) ∧ W.cell? ⟨b1, o1 + k * 7 + 2, none⟩ = some (.int .i64 xo) ∧ W.cell? ⟨b1, o1 + k * 7 + 3, none⟩ = some (.int .i64 xt) ∧ W.cell? ⟨b1, o1 + k * 7 + 4, none⟩ = some (.int .i64 xn) ∧ W.cell? ⟨b1, o1 + k * 7 + 5, none⟩ = some (.string xs) ∧ W.cell? ⟨b1, o1 + k * 7 + 6, none⟩ = some (u1') ∧ W.cell? ⟨b2, o2 + k * 7, none⟩ = some (.int .i64 xk) ∧ W.cell? ⟨b2, o2 + k * 7 + 1, none⟩ = some (.int .i64 xc) ∧ W.cell? ⟨b2, o2 + k * 7 + 2, none⟩ = some (.int .i64 xo) ∧ W.cell? ⟨b2, o2 + k * 7 + 3, none⟩ = some (.int .i64 xt) ∧ W.cell? ⟨b2, o2 + k * 7 + 4, none⟩ = some (.int .i64 xn) ∧ W.cell? ⟨b2, o2 + k * 7 + 5, none⟩ = some (.string xs) ∧ W.cell? ⟨b2, o2 + k * 7 + 6, none⟩ = some (u2')) (exact HK.out _ hB') ((go_at_call 24; (with_reducible refine (HE.out _ hB').mono ?_); rintro e w2 ⟨rfl, hb2⟩; replace hB' := below_then hB' hb2 hB'.size))
      all_goals
        go_wp2
        go_roundw
        case rel => exact ⟨k + 1, by omega, by go_num, below_then hbr hB' hbr.size⟩
        case measure => simp [intOf]; omega
    · go_wp2
      go_ret
      exact ⟨rfl, hbr⟩

set_option maxHeartbeats 1000000 in
theorem eqPred : ∀ t : T, EqT t := by
  refine T.induct (fun t ih => ?_)
  intro Q1 Q2 u1 u2 w h1 h2
  have B0 := below_alloc2 w (.cells (t.cs u1).toArray 29) (.cells (t.cs u2).toArray 29)
  have C0 := (blk_new w (t.cs u1) 29).below (below_alloc _ (.cells (t.cs u2).toArray 29))
  have C1 := blk_new (w.alloc (.cells (t.cs u1).toArray 29)) (t.cs u2) 29
  rw [World.size_alloc] at C1
  have HV := Lib.hid (fun W => eqVal t.v W)
  have HS := Lib.hid (fun W (hW : Below w.heap.size w W) => eqPredS t ih u1 u2 W (h1.below hW) (h2.below hW))
  clear h1 h2 ih
  obtain ⟨k, c, o, ⟨vt, vn, vs⟩, l⟩ := t
  simp only [T.kind, T.col, T.op, T.v, T.cs] at HV B0 C0 C1 ⊢
  have hk : (k != k) = false := by simp
  have hc : (c != c) = false := by simp
  have ho : (o != o) = false := by simp
  go_enter Try.func24, Try.ntmps24
  go_wp2_with fail
  refine (HV.out _).mono ?_
  rintro e w1 ⟨rfl, b1⟩
  have B1 := below_then B0 b1 B0.size
  have c6 := (C0.below b1 6 _ rfl).1
  have d6 := (C1.below b1 6 _ rfl).1
  clear b1 HV C0 C1 B0
  go_wp2_with fail
  refine (HS.out _ B1).mono ?_
  rintro e w2 ⟨rfl, b2⟩
  have B2 := below_then B1 b2 B1.size
  clear b2 HS c6 d6
  go_wp2
  go_ret
  exact ⟨rfl, B2⟩

theorem RdT.setOther {Q : Nat → Prop} {w : World} {t : T} {u : Value} (h : RdT Q w t u) {p : Addr} (hp : ∀ b, Q b → b ≠ p.block) (x : Value) : RdT Q (w.setCell p x) t u :=
  RdT.keep (fun _ h => h) (fun b hb o y hy => (World.cell?_setCell_other _ _ _ _ (fun e => hp b hb (by rw [e]))).trans hy) t u h
theorem Try.elemPreds : ElemT Try.prog 27 29 (T.zero.agg (.slice none 0 0)) 7 80 := ⟨Try.underlying27, info_parts (by kernel_rfl), rfl, by decide⟩
/-- Seven cells stored from place p on. -/
def put7 (xs : List Value) (p : Nat) (ys : List Value) : List Value := (((((((xs.set p (ys.getD 0 undef)).set (p + 1) (ys.getD 1 undef)).set (p + 2) (ys.getD 2 undef)).set (p + 3) (ys.getD 3 undef)).set (p + 4) (ys.getD 4 undef)).set (p + 5) (ys.getD 5 undef)).set (p + 6) (ys.getD 6 undef))
theorem put7_len (xs : List Value) (p : Nat) (ys : List Value) : (put7 xs p ys).length = xs.length := by simp [put7]
theorem put7_out {xs ys : List Value} {p q : Nat} (h : q < p ∨ p + 7 ≤ q) : (put7 xs p ys)[q]? = xs[q]? := by
  unfold put7
  simp only [List.getElem?_set]
  repeat rw [if_neg (by omega)]
theorem put7_in {xs ys : List Value} {p i : Nat} (hl : p + 7 ≤ xs.length) (hy : ys.length = 7) (hi : i < 7) : (put7 xs p ys)[p + i]? = ys[i]? := by
  have hyi : ys[i]? = some (ys.getD i undef) := by
    have : i < ys.length := by omega
    simp [this]
  rw [hyi]
  unfold put7
  simp only [List.getElem?_set, List.length_set]
  have h7 : i = 0 ∨ i = 1 ∨ i = 2 ∨ i = 3 ∨ i = 4 ∨ i = 5 ∨ i = 6 := by omega
  rcases h7 with rfl | rfl | rfl | rfl | rfl | rfl | rfl
  · rw [if_neg (by omega)]; rw [if_neg (by omega)]; rw [if_neg (by omega)]; rw [if_neg (by omega)]; rw [if_neg (by omega)]; rw [if_neg (by omega)]; rw [if_pos (by omega), if_pos (by omega)]
  · rw [if_neg (by omega)]; rw [if_neg (by omega)]; rw [if_neg (by omega)]; rw [if_neg (by omega)]; rw [if_neg (by omega)]; rw [if_pos (by omega), if_pos (by omega)]
  · rw [if_neg (by omega)]; rw [if_neg (by omega)]; rw [if_neg (by omega)]; rw [if_neg (by omega)]; rw [if_pos (by omega), if_pos (by omega)]
  · rw [if_neg (by omega)]; rw [if_neg (by omega)]; rw [if_neg (by omega)]; rw [if_pos (by omega), if_pos (by omega)]
  · rw [if_neg (by omega)]; rw [if_neg (by omega)]; rw [if_pos (by omega), if_pos (by omega)]
  · rw [if_neg (by omega)]; rw [if_pos (by omega), if_pos (by omega)]
  · rw [if_pos (by omega), if_pos (by omega)]
theorem T.cs_len (t : T) (u : Value) : (t.cs u).length = 7 := rfl

/-- Blocks of cells from lo on, none of them frozen. -/
def PQ (lo : Nat) (w : World) (b : Nat) : Prop := lo ≤ b ∧ b < w.heap.size ∧ Plain w b
theorem RdT.pbelow {lo lo' : Nat} {w w' : World} {t : T} {u : Value} (h : RdT (PQ lo w) w t u) (hb : Below w.heap.size w w') (hlo : lo' ≤ lo) : RdT (PQ lo' w') w' t u :=
  (h.below hb).mono (fun _ hq => ⟨Nat.le_trans hlo hq.1, Nat.lt_of_lt_of_le hq.2.1 hb.size, hq.2.2.below hb⟩)
theorem RdT.pset {lo : Nat} {w : World} {t : T} {u : Value} (h : RdT (PQ lo w) w t u) {p : Addr} (hp : p.block < lo) (x : Value) : RdT (PQ lo (w.setCell p x)) (w.setCell p x) t u :=
  (h.setOther (fun _ hb e => by have := hb.1; omega) x).mono (fun _ hq => ⟨hq.1, by simpa [World.setCell] using hq.2.1, hq.2.2.setCell p x⟩)
theorem RdT.plow {lo lo' : Nat} {w : World} {t : T} {u : Value} (h : RdT (PQ lo w) w t u) (hlo : lo' ≤ lo) : RdT (PQ lo' w) w t u := h.mono (fun _ hq => ⟨Nat.le_trans hlo hq.1, hq.2⟩)
/-- What toPred says. -/
def ToT (t : T) : Prop := ∀ (Q : Nat → Prop) (u : Value) (w : World), t.bulk ≤ 1073741824 → RdT Q w t u →
  Calls Try.prog 22 #[t.agg u] w fun e w' => ∃ u', e = .returned (t.agg u') ∧ RdT (PQ w.heap.size w') w' t u' ∧ Below w.heap.size w w'

set_option maxHeartbeats 4000000 in
theorem toPredS (t : T) (ih : ∀ x ∈ t.l, ToT x) {Q : Nat → Prop} (u : Value) (w : World) (hb : t.bulk ≤ 1073741825) (h : RdT Q w t u) :
    Calls Try.prog 66 #[u] w fun e w' => ∃ u', e = .returned u' ∧ RdT (PQ w.heap.size w') w' t u' ∧ Below w.heap.size w w' := by
  have HI := Lib.hid (fun k (hk : k < t.l.length) => ih _ (kid_mem hk))
  have HBK : Hid (∀ k, k < t.l.length → (t.l.getD k T.zero).bulk ≤ 1073741824) := fun k hk => by
    have := T.bulk_child (kid_mem hk)
    omega
  have hln : t.l.length ≤ 1073741824 := by
    have h1 := T.bulks_length t.l
    have h2 := T.bulk_def t
    omega
  generalize hl : t.l.length = n at HI HBK hln
  obtain ⟨a, cap, rfl, hle, HC⟩ := h.kids hl
  have HL := Lib.hid hl
  clear h hl ih hb
  go_enter Try.func66, Try.ntmps66
  go_wp2_with (at_make; refine make_law Try.elemPreds rfl _ _ rfl .i64 .i64 _ _ n rfl rfl rfl rfl (by omega) (by unfold maxLen; omega) ?_)
  intro w1 hown hb1
  obtain ⟨xs0, hxl, hblk⟩ : ∃ xs : List Value, xs.length = n * 7 ∧ Blk w1 w.heap.size xs := by
    have r := hown.row
    refine ⟨_, r.1, fun i x hx => ⟨(r.cellAt i ?_).trans hx, r.frozenAt i⟩⟩
    have := (List.getElem?_eq_some_iff.1 hx).1
    rw [r.1] at this
    exact this
  have hg1 : w.heap.size < w1.heap.size := by
    obtain ⟨g, cp, e, _, h2, _⟩ := hown
    simp only [Value.slice.injEq, Option.some.injEq, Addr.mk.injEq, and_true] at e
    omega
  have hpl := plain_own hown rfl
  clear hown
  go_wp2
  go_loopw [4] (fun i wr => ∃ (k : Nat) (xs : List Value), k ≤ n ∧ i = .int .i64 k ∧ xs.length = n * 7 ∧ Blk wr w.heap.size xs ∧ w.heap.size < wr.heap.size ∧ Plain wr w.heap.size ∧ Below w.heap.size w wr ∧
    ∀ j, j < k → ∃ u', (∀ i x, ((t.l.getD j T.zero).cs u')[i]? = some x → xs[j * 7 + i]? = some x) ∧ RdT (PQ (w.heap.size + 1) wr) wr (t.l.getD j T.zero) u') (fun i _ => n - (intOf i).toNat)
  case atStart => exact ⟨0, xs0, Nat.zero_le _, rfl, hxl, hblk, hg1, hpl, hb1, fun j hj => by omega⟩
  case round =>
    obtain ⟨k, xs, hk, rfl, hxk, hB, hgr, hplr, hbr, hpre⟩ := hrel
    have HPL := Lib.hid hplr
    have HPRE := Lib.hid hpre
    have HB := Lib.hid hB
    clear hpre hB hblk hxl hb1 hg1 hpl hplr
    by_cases hlt : k < n
    · obtain ⟨b, off, u', rfl, hr, c0, c1, c2, c3, c4, c5, c6⟩ := HC.out k hlt wr hbr
      have HX := Lib.hid (HI.out k hlt _ u' wr (HBK.out k hlt) hr)
      have HXE : Hid (∃ y, y = t.l.getD k T.zero) := ⟨_, rfl⟩
      clear hr
      generalize hx : t.l.getD k T.zero = x at c0 c1 c2 c3 c4 c5 HX
      have HXX := Lib.hid hx
      clear hx HXE
      obtain ⟨xk, xc, xo, ⟨xt, xn, xs'⟩, xl⟩ := x
      simp only [T.agg, T.kind, T.col, T.op, T.v] at c0 c1 c2 c3 c4 c5 HX
      go_wp2_with fail
      refine HX.out.mono ?_
      rintro e w2 ⟨v, rfl, hv, b2⟩
      have B2 := Lib.hid (below_then hbr b2 hbr.size)
      obtain ⟨va, vc, hvs, _⟩ := RdT_def.1 hv
      have HV := Lib.hid hv
      generalize (T.mk xk xc xo ⟨xt, xn, xs'⟩ xl).l.length = vn at hvs
      subst hvs
      have HG2 : Hid (w.heap.size < w2.heap.size) := Nat.lt_of_lt_of_le hgr b2.size
      have Blk2 := HB.out.below b2
      have HB2 := Lib.hid Blk2
      have HGS := Lib.hid b2
      have cc : ∀ i, i < 7 → ∃ y, xs[k * 7 + i]? = some y := fun i hi => ⟨_, List.getElem?_eq_getElem (by omega)⟩
      obtain ⟨y0, hy0⟩ := cc 0 (by omega)
      obtain ⟨y1, hy1⟩ := cc 1 (by omega)
      obtain ⟨y2, hy2⟩ := cc 2 (by omega)
      obtain ⟨y3, hy3⟩ := cc 3 (by omega)
      obtain ⟨y4, hy4⟩ := cc 4 (by omega)
      obtain ⟨y5, hy5⟩ := cc 5 (by omega)
      obtain ⟨y6, hy6⟩ := cc 6 (by omega)
      obtain ⟨e0, f0⟩ := Blk2 _ _ hy0
      obtain ⟨e1, f1⟩ := Blk2 _ _ hy1
      obtain ⟨e2, f2⟩ := Blk2 _ _ hy2
      obtain ⟨e3, f3⟩ := Blk2 _ _ hy3
      obtain ⟨e4, f4⟩ := Blk2 _ _ hy4
      obtain ⟨e5, f5⟩ := Blk2 _ _ hy5
      obtain ⟨e6, f6⟩ := Blk2 _ _ hy6
      simp only [Nat.add_zero] at e0 f0
      clear Blk2 cc hv b2 HX c0 c1 c2 c3 c4 c5 c6 hy0 hy1 hy2 hy3 hy4 hy5 hy6
      have FIN : Hid (∃ xs2 : List Value, xs2.length = n * 7 ∧ Blk (((((((w2.setCell ⟨w.heap.size, k * 7, none⟩ (.int .i64 xk)).setCell ⟨w.heap.size, k * 7 + 1, none⟩ (.int .i64 xc)).setCell ⟨w.heap.size, k * 7 + 2, none⟩ (.int .i64 xo)).setCell ⟨w.heap.size, k * 7 + 3, none⟩ (.int .i64 xt)).setCell ⟨w.heap.size, k * 7 + 4, none⟩ (.int .i64 xn)).setCell ⟨w.heap.size, k * 7 + 5, none⟩ (.string xs')).setCell ⟨w.heap.size, k * 7 + 6, none⟩ (.slice va vn vc)) w.heap.size xs2 ∧
          ∀ j, j < k + 1 → ∃ u', (∀ i x, ((t.l.getD j T.zero).cs u')[i]? = some x → xs2[j * 7 + i]? = some x) ∧ RdT (PQ (w.heap.size + 1) (((((((w2.setCell ⟨w.heap.size, k * 7, none⟩ (.int .i64 xk)).setCell ⟨w.heap.size, k * 7 + 1, none⟩ (.int .i64 xc)).setCell ⟨w.heap.size, k * 7 + 2, none⟩ (.int .i64 xo)).setCell ⟨w.heap.size, k * 7 + 3, none⟩ (.int .i64 xt)).setCell ⟨w.heap.size, k * 7 + 4, none⟩ (.int .i64 xn)).setCell ⟨w.heap.size, k * 7 + 5, none⟩ (.string xs')).setCell ⟨w.heap.size, k * 7 + 6, none⟩ (.slice va vn vc))) (((((((w2.setCell ⟨w.heap.size, k * 7, none⟩ (.int .i64 xk)).setCell ⟨w.heap.size, k * 7 + 1, none⟩ (.int .i64 xc)).setCell ⟨w.heap.size, k * 7 + 2, none⟩ (.int .i64 xo)).setCell ⟨w.heap.size, k * 7 + 3, none⟩ (.int .i64 xt)).setCell ⟨w.heap.size, k * 7 + 4, none⟩ (.int .i64 xn)).setCell ⟨w.heap.size, k * 7 + 5, none⟩ (.string xs')).setCell ⟨w.heap.size, k * 7 + 6, none⟩ (.slice va vn vc)) (t.l.getD j T.zero) u') := by
        refine ⟨put7 xs (k * 7) ((T.mk xk xc xo ⟨xt, xn, xs'⟩ xl).cs (.slice va vn vc)), (put7_len _ _ _).trans hxk, ((((((HB2.out.set _ _).set _ _).set _ _).set _ _).set _ _).set _ _).set _ _, fun j hj => ?_⟩
        have hso : ∀ {t : T} {u : Value}, RdT (PQ (w.heap.size + 1) w2) w2 t u → RdT (PQ (w.heap.size + 1) (((((((w2.setCell ⟨w.heap.size, k * 7, none⟩ (.int .i64 xk)).setCell ⟨w.heap.size, k * 7 + 1, none⟩ (.int .i64 xc)).setCell ⟨w.heap.size, k * 7 + 2, none⟩ (.int .i64 xo)).setCell ⟨w.heap.size, k * 7 + 3, none⟩ (.int .i64 xt)).setCell ⟨w.heap.size, k * 7 + 4, none⟩ (.int .i64 xn)).setCell ⟨w.heap.size, k * 7 + 5, none⟩ (.string xs')).setCell ⟨w.heap.size, k * 7 + 6, none⟩ (.slice va vn vc))) (((((((w2.setCell ⟨w.heap.size, k * 7, none⟩ (.int .i64 xk)).setCell ⟨w.heap.size, k * 7 + 1, none⟩ (.int .i64 xc)).setCell ⟨w.heap.size, k * 7 + 2, none⟩ (.int .i64 xo)).setCell ⟨w.heap.size, k * 7 + 3, none⟩ (.int .i64 xt)).setCell ⟨w.heap.size, k * 7 + 4, none⟩ (.int .i64 xn)).setCell ⟨w.heap.size, k * 7 + 5, none⟩ (.string xs')).setCell ⟨w.heap.size, k * 7 + 6, none⟩ (.slice va vn vc)) t u := fun h =>
          ((((((h.pset (by simp) _).pset (by simp) _).pset (by simp) _).pset (by simp) _).pset (by simp) _).pset (by simp) _).pset (by simp) _
        by_cases hjk : j = k
        · subst hjk
          refine ⟨.slice va vn vc, fun i x hx => ?_, hso ?_⟩
          · rw [HXX.out] at hx
            have hi : i < 7 := (List.getElem?_eq_some_iff.1 hx).1
            rw [put7_in (by omega) (T.cs_len _ _) hi]
            exact hx
          · rw [HXX.out]
            exact HV.out.plow (by omega)
        · obtain ⟨u', h1, h2⟩ := HPRE.out j (by omega)
          refine ⟨u', fun i x hx => ?_, hso (h2.pbelow HGS.out (Nat.le_refl _))⟩
          have hi : i < 7 := (List.getElem?_eq_some_iff.1 hx).1
          rw [put7_out (by omega)]
          exact h1 i x hx
      go_wp2
      go_roundw
      case rel =>
        obtain ⟨xs2, h1, h2, h3⟩ := FIN.out
        exact ⟨k + 1, xs2, by omega, by go_num, h1, h2, by simpa using HG2.out, (((((((HPL.out.below HGS.out).setCell _ _).setCell _ _).setCell _ _).setCell _ _).setCell _ _).setCell _ _).setCell _ _, ((((((B2.out.setCell (by simp) _).setCell (by simp) _).setCell (by simp) _).setCell (by simp) _).setCell (by simp) _).setCell (by simp) _).setCell (by simp) _, h3⟩
      case measure => simp [intOf]; omega
    · obtain rfl : k = n := by omega
      go_wp2
      go_ret
      refine ⟨_, rfl, ?_, hbr⟩
      rw [RdT_def, HL.out]
      refine ⟨_, _, rfl, hle, .inr ⟨_, _, rfl, ⟨Nat.le_refl _, hgr, HPL.out⟩, ?_⟩⟩
      rw [RdTs_iff, HL.out]
      intro j hj
      obtain ⟨u', h1, h2⟩ := HPRE.out j hj
      refine ⟨u', fun i x hx => ?_, h2.plow (by omega)⟩
      rw [Nat.zero_add]
      exact (HB.out _ _ (h1 i x hx)).1

end Go.Proofs.Ytpinoemckapbhaa

/- The laws' own toPred (written by mk_H11c.py). -/
namespace Go.Proofs.Ytpinoemckapbhaa
open Go.RowKit

/-- What lies from block lo on stays. -/
def Keeps (lo : Nat) (w W : World) : Prop := ∀ b o x, lo ≤ b → w.cell? ⟨b, o, none⟩ = some x → W.cell? ⟨b, o, none⟩ = some x
theorem Keeps.refl (lo : Nat) (w : World) : Keeps lo w w := fun _ _ _ _ h => h
theorem Keeps.set {lo : Nat} {w W : World} (h : Keeps lo w W) {g : Nat} (hg : g < lo) (j : Nat) (y : Value) : Keeps lo w (W.setCell ⟨g, j, none⟩ y) := fun b o x hb hx =>
  (World.cell?_setCell_other _ _ _ _ (fun e => by injection e with e1; omega)).trans (h b o x hb hx)

set_option maxHeartbeats 4000000 in
theorem toPred : ∀ t : T, ToT t := by
  refine T.induct (fun t ih => ?_)
  intro Q u w hbk h
  have HS := Lib.hid (fun W (hW : Below w.heap.size w W) => toPredS t ih u W (by omega) (h.below hW))
  have HSH := Lib.hid (fun (Q' : Nat → Prop) W u' (hr : RdT Q' W t u') => (RdT_def.1 hr))
  have HT := Lib.hid (fun W => toVal t.v W)
  clear h ih hbk
  generalize hln : t.l.length = ln at HSH
  clear hln
  generalize ht : t = t0 at HS HSH ⊢
  have HTT := Lib.hid ht
  clear ht
  obtain ⟨k, c, o, ⟨vt, vn, vs⟩, l⟩ := t
  have HA : Hid (∀ u', t0.agg u' = .agg #[.int .i64 k, .int .i64 c, .int .i64 o, .int .i64 vt, .int .i64 vn, .string vs, u']) := fun u' => by
    rw [← HTT.out]
    rfl
  rw [HA.out]
  simp only [T.v] at HT
  clear HTT
  have B0 := below_alloc3 w (.cells #[.int .i64 k, .int .i64 c, .int .i64 o, .int .i64 vt, .int .i64 vn, .string vs, u] 48) (.cells #[.int .i64 0, .int .i64 0, .int .i64 0, .int .i64 0, .int .i64 0, .string ⟨#[]⟩, .slice none 0 0] 29) (.cells #[.int .i64 k, .int .i64 c, .int .i64 o, .int .i64 0, .int .i64 0, .string ⟨#[]⟩, .slice none 0 0] 29)
  have C0 := ((blk_new w [.int .i64 k, .int .i64 c, .int .i64 o, .int .i64 vt, .int .i64 vn, .string vs, u] 48).below (below_alloc _ (.cells #[.int .i64 0, .int .i64 0, .int .i64 0, .int .i64 0, .int .i64 0, .string ⟨#[]⟩, .slice none 0 0] 29))).below (below_alloc _ (.cells #[.int .i64 k, .int .i64 c, .int .i64 o, .int .i64 0, .int .i64 0, .string ⟨#[]⟩, .slice none 0 0] 29))
  have C1 := (blk_new (w.alloc (.cells #[.int .i64 k, .int .i64 c, .int .i64 o, .int .i64 vt, .int .i64 vn, .string vs, u] 48)) [.int .i64 0, .int .i64 0, .int .i64 0, .int .i64 0, .int .i64 0, .string ⟨#[]⟩, .slice none 0 0] 29).below (below_alloc _ (.cells #[.int .i64 k, .int .i64 c, .int .i64 o, .int .i64 0, .int .i64 0, .string ⟨#[]⟩, .slice none 0 0] 29))
  have C2 := blk_new ((w.alloc (.cells #[.int .i64 k, .int .i64 c, .int .i64 o, .int .i64 vt, .int .i64 vn, .string vs, u] 48)).alloc (.cells #[.int .i64 0, .int .i64 0, .int .i64 0, .int .i64 0, .int .i64 0, .string ⟨#[]⟩, .slice none 0 0] 29)) [.int .i64 k, .int .i64 c, .int .i64 o, .int .i64 0, .int .i64 0, .string ⟨#[]⟩, .slice none 0 0] 29
  rw [World.size_alloc] at C1
  rw [World.size_alloc, World.size_alloc] at C2
  have HSZ : Hid ((((w.alloc (.cells #[.int .i64 k, .int .i64 c, .int .i64 o, .int .i64 vt, .int .i64 vn, .string vs, u] 48)).alloc (.cells #[.int .i64 0, .int .i64 0, .int .i64 0, .int .i64 0, .int .i64 0, .string ⟨#[]⟩, .slice none 0 0] 29)).alloc (.cells #[.int .i64 k, .int .i64 c, .int .i64 o, .int .i64 0, .int .i64 0, .string ⟨#[]⟩, .slice none 0 0] 29)).heap.size = w.heap.size + 3) := by
    show _ = _
    rw [World.size_alloc, World.size_alloc, World.size_alloc]
  generalize hw0 : ((w.alloc (.cells #[.int .i64 k, .int .i64 c, .int .i64 o, .int .i64 vt, .int .i64 vn, .string vs, u] 48)).alloc (.cells #[.int .i64 0, .int .i64 0, .int .i64 0, .int .i64 0, .int .i64 0, .string ⟨#[]⟩, .slice none 0 0] 29)).alloc (.cells #[.int .i64 k, .int .i64 c, .int .i64 o, .int .i64 0, .int .i64 0, .string ⟨#[]⟩, .slice none 0 0] 29) = w0 at B0 C0 C1 C2 HSZ
  have HW0 := Lib.hid hw0
  clear hw0
  go_enter Try.func22, Try.ntmps22
  go_wp2_with fail
  rw [HW0.out]
  refine (HT.out _).mono ?_
  rintro e w1 ⟨rfl, b1⟩
  have B1 := below_then B0 b1 B0.size
  have hs1 := b1.size
  rw [HSZ.out] at hs1
  replace C0 := C0.below b1
  replace C1 := C1.below b1
  replace C2 := C2.below b1
  have D2 := ((C2.set 3 (.int .i64 vt)).set 4 (.int .i64 vn)).set 5 (.string vs)
  have D1 := ((C1.other (p := ⟨w.heap.size + 1 + 1, 3, none⟩) (by simp) (.int .i64 vt)).other (p := ⟨w.heap.size + 1 + 1, 4, none⟩) (by simp) (.int .i64 vn)).other (p := ⟨w.heap.size + 1 + 1, 5, none⟩) (by simp) (.string vs)
  have B2 := ((B1.setCell (p := ⟨w.heap.size + 1 + 1, 3, none⟩) (by simp; omega) (.int .i64 vt)).setCell (p := ⟨w.heap.size + 1 + 1, 4, none⟩) (by simp; omega) (.int .i64 vn)).setCell (p := ⟨w.heap.size + 1 + 1, 5, none⟩) (by simp; omega) (.string vs)
  have c6 := (C0 6 _ rfl).1
  have e3 := (C2 3 _ rfl).1
  have e4 := (C2 4 _ rfl).1
  have e5 := (C2 5 _ rfl).1
  have f3 := (C2 3 _ rfl).2
  have f4 := (C2 4 _ rfl).2
  have f5 := (C2 5 _ rfl).2
  have hs2 : w.heap.size + 3 ≤ (((w1.setCell ⟨w.heap.size + 1 + 1, 3, none⟩ (.int .i64 vt)).setCell ⟨w.heap.size + 1 + 1, 4, none⟩ (.int .i64 vn)).setCell ⟨w.heap.size + 1 + 1, 5, none⟩ (.string vs)).heap.size := by simpa using hs1
  generalize hw2 : ((w1.setCell ⟨w.heap.size + 1 + 1, 3, none⟩ (.int .i64 vt)).setCell ⟨w.heap.size + 1 + 1, 4, none⟩ (.int .i64 vn)).setCell ⟨w.heap.size + 1 + 1, 5, none⟩ (.string vs) = w2 at D1 D2 B2 hs2
  have HW2 := Lib.hid hw2
  clear hw2 b1 HT C0 C1 C2 B0 B1
  go_wp2_with fail
  rw [HW2.out]
  refine (HS.out _ B2).mono ?_
  rintro e w3 ⟨v, rfl, hv, b3⟩
  obtain ⟨va, vc, hvs, _⟩ := HSH.out _ _ _ hv
  subst hvs
  have B3 := below_then B2 b3 B2.size
  replace D1 := D1.below b3
  replace D2 := D2.below b3
  have HV := Lib.hid (hv.plow (lo' := w.heap.size + 3) (by omega))
  simp only [List.set_cons_succ, List.set_cons_zero] at D2
  obtain ⟨d0, g0⟩ := D2 0 _ rfl
  obtain ⟨d1, g1⟩ := D2 1 _ rfl
  obtain ⟨d2, g2⟩ := D2 2 _ rfl
  obtain ⟨d3, g3⟩ := D2 3 _ rfl
  obtain ⟨d4, g4⟩ := D2 4 _ rfl
  obtain ⟨d5, g5⟩ := D2 5 _ rfl
  obtain ⟨d6, g6⟩ := D2 6 _ rfl
  obtain ⟨m0, n0⟩ := D1 0 _ rfl
  obtain ⟨m1, n1⟩ := D1 1 _ rfl
  obtain ⟨m2, n2⟩ := D1 2 _ rfl
  obtain ⟨m3, n3⟩ := D1 3 _ rfl
  obtain ⟨m4, n4⟩ := D1 4 _ rfl
  obtain ⟨m5, n5⟩ := D1 5 _ rfl
  obtain ⟨m6, n6⟩ := D1 6 _ rfl
  clear D1 D2 hv b3 B2 HS HSH c6 e3 e4 e5 f3 f4 f5 hs2 HW2 HW0
  go_wp2
  refine bodyPost_ret (v := .agg #[.int .i64 k, .int .i64 c, .int .i64 o, .int .i64 vt, .int .i64 vn, .string vs, .slice va ln vc]) (by simp [results, Try.results22, go_sem, *]) rfl ⟨_, by rw [HA.out], ((((((((HV.out.pset (by simp) _).pset (by simp) _).pset (by simp) _).pset (by simp) _).pset (by simp) _).pset (by simp) _).pset (by simp) _).pset (by simp) _).plow (by omega), ?_⟩
  · exact (((((((B3.setCell (by simp; omega) _).setCell (by simp) _).setCell (by simp) _).setCell (by simp) _).setCell (by simp) _).setCell (by simp) _).setCell (by simp) _).setCell (by simp) _

end Go.Proofs.Ytpinoemckapbhaa

/- The exact laws of Holds and MayHold, walked; the program's own contracts come as hypotheses (written by mk_Law11.py). -/
namespace Go.Proofs.Ytpinoemckapbhaa
open Go.RowKit

theorem ArgS.rd' {c : Nat} {w : World} {a : Option Addr} {n cap : Nat} {xs : List Value} (h : ArgS c w a n xs) (hn : n ≤ maxLen) : Rd c w (.slice a n cap) n xs := ⟨a, cap, rfl, hn, h⟩

def CHolds : Prop := ∀ (l : List V) (t : T) (Q : Nat → Prop) (u vu : Value) (w : World), t.Small → t.bulk ≤ 1048577 → l.length ≤ 1048576 → (∀ v ∈ l, v.s.size ≤ maxLen) → RdT Q w t u → (∀ b, Q b → Plain w b) → Rd 3 w vu l.length (vals l) →
  Calls Try.prog 14 #[t.agg u, vu] w fun e w' => e = .returned (.bool (T.holds l t)) ∧ Below w.heap.size w w'

set_option maxRecDepth 100000 in
set_option maxHeartbeats 8000000 in
theorem lawHolds (hi : CHolds) (t : T) (u : Value) (a : Option Addr) (len cap : Nat) (l : List V) (w : World) (hs : t.Small) (hr : RdT (fun _ => True) w t u) (hlb : len ≤ maxLen) (hss : ∀ v ∈ l, v.s.size ≤ maxLen) (hz : l.length = len) (hA : ArgS 3 w a len (vals l)) :
    Calls Try.prog 5 #[t.agg u, .slice a len cap] w fun e w' => e = .returned (.bool true) ∧ Below w.heap.size w w' := by
  have HL := Lib.hid hz
  have HSS := Lib.hid hss
  have HSM := Lib.hid hs
  have HSZ := Lib.hid (fun W (hW : Below w.heap.size w W) => szPred t u 1048576 W hs (hr.below hW) (by omega) (by omega))
  have B0 := below_alloc w (.cells #[.int .i64 t.kind, .int .i64 t.col, .int .i64 t.op, .int .i64 t.v.ty, .int .i64 t.v.n, .string t.v.s, u] 48)
  have C0 := blk_new w [.int .i64 t.kind, .int .i64 t.col, .int .i64 t.op, .int .i64 t.v.ty, .int .i64 t.v.n, .string t.v.s, u] 48
  have HK0 : Hid (∀ W, Below ((w.alloc (.cells #[.int .i64 t.kind, .int .i64 t.col, .int .i64 t.op, .int .i64 t.v.ty, .int .i64 t.v.n, .string t.v.s, u] 48))).heap.size (w.alloc (.cells #[.int .i64 t.kind, .int .i64 t.col, .int .i64 t.op, .int .i64 t.v.ty, .int .i64 t.v.n, .string t.v.s, u] 48)) W → W.cell? ⟨w.heap.size, 0, none⟩ = some (.int .i64 t.kind) ∧ W.cell? ⟨w.heap.size, 1, none⟩ = some (.int .i64 t.col) ∧ W.cell? ⟨w.heap.size, 2, none⟩ = some (.int .i64 t.op) ∧ W.cell? ⟨w.heap.size, 3, none⟩ = some (.int .i64 t.v.ty) ∧ W.cell? ⟨w.heap.size, 4, none⟩ = some (.int .i64 t.v.n) ∧ W.cell? ⟨w.heap.size, 5, none⟩ = some (.string t.v.s) ∧ W.cell? ⟨w.heap.size, 6, none⟩ = some (u)) := fun W h => ⟨(C0.below h 0 _ rfl).1, (C0.below h 1 _ rfl).1, (C0.below h 2 _ rfl).1, (C0.below h 3 _ rfl).1, (C0.below h 4 _ rfl).1, (C0.below h 5 _ rfl).1, (C0.below h 6 _ rfl).1⟩
  generalize hw0 : w.alloc (.cells #[.int .i64 t.kind, .int .i64 t.col, .int .i64 t.op, .int .i64 t.v.ty, .int .i64 t.v.n, .string t.v.s, u] 48) = w0 at B0 HK0
  have HW0 := Lib.hid hw0
  have HKP : Hid (∀ W, Below w0.heap.size w0 W → W.cell? ⟨w.heap.size, 0, none⟩ = some (.int .i64 t.kind) ∧ W.cell? ⟨w.heap.size, 1, none⟩ = some (.int .i64 t.col) ∧ W.cell? ⟨w.heap.size, 2, none⟩ = some (.int .i64 t.op) ∧ W.cell? ⟨w.heap.size, 3, none⟩ = some (.int .i64 t.v.ty) ∧ W.cell? ⟨w.heap.size, 4, none⟩ = some (.int .i64 t.v.n) ∧ W.cell? ⟨w.heap.size, 5, none⟩ = some (.string t.v.s) ∧ W.cell? ⟨w.heap.size, 6, none⟩ = some (u)) := HK0.out
  have hqq : ∀ b : Bool, (b != b) = false := fun b => by simp
  have hqr := hqq (T.holds l t)
  clear hw0 C0 hz hss hqq hs HK0
  go_enter Try.func5, Try.ntmps5
  go_wp2_with fail
  rw [HW0.out]
  refine (HSZ.out _ B0).mono ?_
  rintro e w1 ⟨r1, rfl, h1, b1⟩
  have B1 := below_then B0 b1 B0.size
  have K1 := b1
  clear b1 HSZ
  by_cases hn1 : r1 < 0
  · clear h1
    go_wp2
    go_ret
    exact ⟨rfl, B1⟩
  have HBK : Hid (t.bulk ≤ 1048577) := by
    have := h1.resolve_left hn1
    show _ ≤ _
    omega
  have hr1 : r1 ≤ 1048576 := by
    have := h1.resolve_left hn1
    have := t.bulk_pos
    omega
  clear h1
  go_wp2_with fail
  refine (szValS a len cap l r1 w1 (by omega) (by omega) hlb HSS.out HL.out (hA.below B1)).mono ?_
  rintro e w2 ⟨r2, rfl, h2, b2⟩
  have B2 := below_then B1 b2 B1.size
  have K2 := below_then K1 b2 K1.size
  clear b2 B1 K1
  by_cases hn2 : r2 < 0
  · clear h2
    go_wp2
    go_ret
    exact ⟨rfl, B2⟩
  have hlen : len ≤ 1048576 := by
    have := h2.resolve_left hn2
    have := HL.out
    omega
  clear h2
  have HT := Lib.hid (fun W (hW : Below w.heap.size w W) => toPred t _ u W (by have := HBK.out; omega) (hr.below hW))
  obtain ⟨p0, p1, p2, p3, p4, p5, p6⟩ := HKP.out _ K2
  go_wp2_with fail
  refine (HT.out _ B2).mono ?_
  rintro e w3 ⟨u3, rfl, hv3, b3⟩
  have B3 := below_then B2 b3 B2.size
  have K3 := below_then K2 b3 K2.size
  clear b3 B2 K2 p0 p1 p2 p3 p4 p5 p6
  go_wp2_with fail
  refine (toValS a len cap l w3 (by omega) HL.out (hA.below B3)).mono ?_
  rintro e w4 ⟨v4, rfl, o4, b4⟩
  have B4 := below_then B3 b4 B3.size
  have K4 := below_then K3 b4 K3.size
  have HM := Lib.hid (sHolds l t _ _ _ _ (hv3.below b4) (by rw [HL.out]; exact o4.rd))
  clear b4 B3 K3 hv3 o4
  go_wp2_with fail
  refine HM.out.mono ?_
  rintro e w5 ⟨rfl, b5⟩
  have B5 := below_then B4 b5 B4.size
  have K5 := below_then K4 b5 K4.size
  clear b5 B4 K4 HM
  obtain ⟨p0, p1, p2, p3, p4, p5, p6⟩ := HKP.out _ K5
  go_wp2_with fail
  refine (HT.out _ B5).mono ?_
  rintro e w6 ⟨u6, rfl, hv6, b6⟩
  obtain ⟨a6, cp6, hu6, _⟩ := RdT_def.1 hv6
  generalize t.l.length = n6 at hu6
  subst hu6
  have B6 := below_then B5 b6 B5.size
  have K6 := below_then K5 b6 K5.size
  clear b6 B5 K5 p0 p1 p2 p3 p4 p5 p6
  have A7 := below_alloc w6 (.cells #[.int .i64 t.kind, .int .i64 t.col, .int .i64 t.op, .int .i64 t.v.ty, .int .i64 t.v.n, .string t.v.s, .slice a6 n6 cp6] 29)
  have C7 := blk_new w6 [.int .i64 t.kind, .int .i64 t.col, .int .i64 t.op, .int .i64 t.v.ty, .int .i64 t.v.n, .string t.v.s, .slice a6 n6 cp6] 29
  replace hv6 := hv6.pbelow A7 (Nat.le_refl _)
  have B7 := below_then B6 A7 B6.size
  have K7 := below_then K6 A7 K6.size
  generalize hw7 : w6.alloc (.cells #[.int .i64 t.kind, .int .i64 t.col, .int .i64 t.op, .int .i64 t.v.ty, .int .i64 t.v.n, .string t.v.s, .slice a6 n6 cp6] 29) = w7 at C7 hv6 B7 K7
  have HW7 := Lib.hid hw7
  generalize hq7 : w6.heap.size = q at C7
  have HQ7 := Lib.hid hq7
  clear hw7 hq7 A7 B6 K6
  go_wp2_with fail
  rw [HW7.out, HQ7.out]
  refine (toValS a len cap l w7 (by omega) HL.out (hA.below B7)).mono ?_
  rintro e w8 ⟨v8, rfl, o8, b8⟩
  have B8 := below_then B7 b8 B7.size
  have K8 := below_then K7 b8 K7.size
  replace C7 := C7.below b8
  replace hv6 := hv6.pbelow b8 (Nat.le_refl _)
  have HH := Lib.hid (hi l t _ _ _ _ HSM.out HBK.out (by rw [HL.out]; omega) HSS.out hv6 (fun b hb => hb.2.2) (by rw [HL.out]; exact o8.rd))
  have HK7 : Hid (∀ W, Below w8.heap.size w8 W → W.cell? ⟨q, 0, none⟩ = some (.int .i64 t.kind) ∧ W.cell? ⟨q, 1, none⟩ = some (.int .i64 t.col) ∧ W.cell? ⟨q, 2, none⟩ = some (.int .i64 t.op) ∧ W.cell? ⟨q, 3, none⟩ = some (.int .i64 t.v.ty) ∧ W.cell? ⟨q, 4, none⟩ = some (.int .i64 t.v.n) ∧ W.cell? ⟨q, 5, none⟩ = some (.string t.v.s) ∧ W.cell? ⟨q, 6, none⟩ = some (.slice a6 n6 cp6)) := fun W h => ⟨(C7.below h 0 _ rfl).1, (C7.below h 1 _ rfl).1, (C7.below h 2 _ rfl).1, (C7.below h 3 _ rfl).1, (C7.below h 4 _ rfl).1, (C7.below h 5 _ rfl).1, (C7.below h 6 _ rfl).1⟩
  obtain ⟨p0, p1, p2, p3, p4, p5, p6⟩ := HK7.out w8 (Below.refl _ _)
  obtain ⟨b8', c8', hv8'⟩ : ∃ x y, v8 = .slice x len y := by
    have h := o8.rd
    
    obtain ⟨x, y, e, _⟩ := h
    exact ⟨x, y, e⟩
  subst hv8'
  clear C7 b8 B7 K7 HW7 HQ7
  go_wp2_with fail
  refine HH.out.mono ?_
  rintro e w9 ⟨rfl, b9⟩
  have B9 := below_then B8 b9 B8.size
  have K9 := below_then K8 b9 K8.size
  have hv9 := hv6.below b9
  have O9 := ((o8).below b9 (Nat.le_refl _)).wide b9.size
  have HK9 := Lib.hid (fun W (hW : Below w9.heap.size w9 W) => HK7.out W (below_then b9 hW b9.size))
  have HT9 := Lib.hid (fun W (hW : Below w9.heap.size w9 W) => HT.out W (below_then B9 hW B9.size))
  have HP9 := Lib.hid (fun W (hW : Below w9.heap.size w9 W) => HKP.out W (below_then K9 hW K9.size))
  have HE9 := Lib.hid (fun Q2 u2 W (hW : Below w9.heap.size w9 W) (h : RdT Q2 W t u2) => eqPred t _ _ (.slice a6 n6 cp6) u2 W (hv9.below hW) h)
  clear p0 p1 p2 p3 p4 p5 p6 HH HK7 hv6 hv9 B8 K8 o8 HT HKP
  have HKB : Hid (∀ W, Below w9.heap.size w9 W → W.cell? ⟨q, 0, none⟩ = some (.int .i64 t.kind) ∧ W.cell? ⟨q, 1, none⟩ = some (.int .i64 t.col) ∧ W.cell? ⟨q, 2, none⟩ = some (.int .i64 t.op) ∧ W.cell? ⟨q, 3, none⟩ = some (.int .i64 t.v.ty) ∧ W.cell? ⟨q, 4, none⟩ = some (.int .i64 t.v.n) ∧ W.cell? ⟨q, 5, none⟩ = some (.string t.v.s) ∧ W.cell? ⟨q, 6, none⟩ = some (.slice a6 n6 cp6) ∧ W.cell? ⟨w.heap.size, 0, none⟩ = some (.int .i64 t.kind) ∧ W.cell? ⟨w.heap.size, 1, none⟩ = some (.int .i64 t.col) ∧ W.cell? ⟨w.heap.size, 2, none⟩ = some (.int .i64 t.op) ∧ W.cell? ⟨w.heap.size, 3, none⟩ = some (.int .i64 t.v.ty) ∧ W.cell? ⟨w.heap.size, 4, none⟩ = some (.int .i64 t.v.n) ∧ W.cell? ⟨w.heap.size, 5, none⟩ = some (.string t.v.s) ∧ W.cell? ⟨w.heap.size, 6, none⟩ = some (u)) := fun W h => by
    obtain ⟨e0, e1, e2, e3, e4, e5, e6⟩ := HK9.out W h
    exact ⟨e0, e1, e2, e3, e4, e5, e6, HP9.out W h⟩
  clear HK9 HP9
  have hB := Below.refl w9.heap.size w9
  have hB' := (Below.refl w9.heap.size w9).drew
  go_wp2
  go_region_held3 (fun W => W.cell? ⟨q, 0, none⟩ = some (.int .i64 t.kind) ∧ W.cell? ⟨q, 1, none⟩ = some (.int .i64 t.col) ∧ W.cell? ⟨q, 2, none⟩ = some (.int .i64 t.op) ∧ W.cell? ⟨q, 3, none⟩ = some (.int .i64 t.v.ty) ∧ W.cell? ⟨q, 4, none⟩ = some (.int .i64 t.v.n) ∧ W.cell? ⟨q, 5, none⟩ = some (.string t.v.s) ∧ W.cell? ⟨q, 6, none⟩ = some (.slice a6 n6 cp6) ∧ W.cell? ⟨w.heap.size, 0, none⟩ = some (.int .i64 t.kind) ∧ W.cell? ⟨w.heap.size, 1, none⟩ = some (.int .i64 t.col) ∧ W.cell? ⟨w.heap.size, 2, none⟩ = some (.int .i64 t.op) ∧ W.cell? ⟨w.heap.size, 3, none⟩ = some (.int .i64 t.v.ty) ∧ W.cell? ⟨w.heap.size, 4, none⟩ = some (.int .i64 t.v.n) ∧ W.cell? ⟨w.heap.size, 5, none⟩ = some (.string t.v.s) ∧ W.cell? ⟨w.heap.size, 6, none⟩ = some (u)) (exact HKB.out _ hB') (first | (go_at_call 22; (with_reducible refine (HT9.out _ hB').mono ?_); rintro e wA ⟨uA, rfl, hvA, hb⟩; replace hB' := below_then hB' hb hB'.size) | (go_at_call 24; (with_reducible refine (HE9.out _ _ _ hB' hvA).mono ?_); rintro e wA ⟨rfl, hb⟩; replace hB' := below_then hB' hb hB'.size))
  all_goals
    have BA := below_then B9 hB' B9.size
    have OA := ((O9).below hB' (Nat.le_refl _)).wide hB'.size
    clear hB hB' HT9 HE9 HKB hvA
    go_wp2_with fail
    refine (toValS a len cap l _ (by omega) HL.out (hA.below BA)).mono ?_
    rintro e wB ⟨vB, rfl, oB, bB⟩
    have BB := below_then BA bB BA.size
    have OB := ((OA).below bB (Nat.le_refl _)).wide bB.size
    have HQ := Lib.hid (eqValS _ vB len l wB HL.out OB.at oB.at)
    clear bB oB OA OB
    go_wp2_with fail
    refine HQ.out.mono ?_
    rintro e wC ⟨rfl, bC⟩
    have BC := below_then BB bC BB.size
    go_wp2
    go_ret
    exact ⟨rfl, BC⟩

def CMayHold : Prop := ∀ (l : List Zn) (t : T) (Q : Nat → Prop) (u vu : Value) (w : World), t.Small → t.bulk ≤ 1048577 → l.length ≤ 1048576 → (∀ z ∈ l, z.lo.s.size ≤ maxLen ∧ z.hi.s.size ≤ maxLen) → RdT Q w t u → (∀ b, Q b → Plain w b) → Rd 6 w vu l.length (zns l) →
  Calls Try.prog 16 #[t.agg u, vu] w fun e w' => e = .returned (.bool (T.may l t)) ∧ Below w.heap.size w w'

set_option maxRecDepth 100000 in
set_option maxHeartbeats 8000000 in
theorem lawMayHold (hi : CMayHold) (t : T) (u : Value) (a : Option Addr) (len cap : Nat) (l : List Zn) (w : World) (hs : t.Small) (hr : RdT (fun _ => True) w t u) (hlb : len ≤ maxLen) (hss : ∀ z ∈ l, z.lo.s.size ≤ maxLen ∧ z.hi.s.size ≤ maxLen) (hz : l.length = len) (hA : ArgS 6 w a len (zns l)) :
    Calls Try.prog 7 #[t.agg u, .slice a len cap] w fun e w' => e = .returned (.bool true) ∧ Below w.heap.size w w' := by
  have HL := Lib.hid hz
  have HSS := Lib.hid hss
  have HSM := Lib.hid hs
  have HSZ := Lib.hid (fun W (hW : Below w.heap.size w W) => szPred t u 1048576 W hs (hr.below hW) (by omega) (by omega))
  have B0 := below_alloc w (.cells #[.int .i64 t.kind, .int .i64 t.col, .int .i64 t.op, .int .i64 t.v.ty, .int .i64 t.v.n, .string t.v.s, u] 48)
  have C0 := blk_new w [.int .i64 t.kind, .int .i64 t.col, .int .i64 t.op, .int .i64 t.v.ty, .int .i64 t.v.n, .string t.v.s, u] 48
  have HK0 : Hid (∀ W, Below ((w.alloc (.cells #[.int .i64 t.kind, .int .i64 t.col, .int .i64 t.op, .int .i64 t.v.ty, .int .i64 t.v.n, .string t.v.s, u] 48))).heap.size (w.alloc (.cells #[.int .i64 t.kind, .int .i64 t.col, .int .i64 t.op, .int .i64 t.v.ty, .int .i64 t.v.n, .string t.v.s, u] 48)) W → W.cell? ⟨w.heap.size, 0, none⟩ = some (.int .i64 t.kind) ∧ W.cell? ⟨w.heap.size, 1, none⟩ = some (.int .i64 t.col) ∧ W.cell? ⟨w.heap.size, 2, none⟩ = some (.int .i64 t.op) ∧ W.cell? ⟨w.heap.size, 3, none⟩ = some (.int .i64 t.v.ty) ∧ W.cell? ⟨w.heap.size, 4, none⟩ = some (.int .i64 t.v.n) ∧ W.cell? ⟨w.heap.size, 5, none⟩ = some (.string t.v.s) ∧ W.cell? ⟨w.heap.size, 6, none⟩ = some (u)) := fun W h => ⟨(C0.below h 0 _ rfl).1, (C0.below h 1 _ rfl).1, (C0.below h 2 _ rfl).1, (C0.below h 3 _ rfl).1, (C0.below h 4 _ rfl).1, (C0.below h 5 _ rfl).1, (C0.below h 6 _ rfl).1⟩
  generalize hw0 : w.alloc (.cells #[.int .i64 t.kind, .int .i64 t.col, .int .i64 t.op, .int .i64 t.v.ty, .int .i64 t.v.n, .string t.v.s, u] 48) = w0 at B0 HK0
  have HW0 := Lib.hid hw0
  have HKP : Hid (∀ W, Below w0.heap.size w0 W → W.cell? ⟨w.heap.size, 0, none⟩ = some (.int .i64 t.kind) ∧ W.cell? ⟨w.heap.size, 1, none⟩ = some (.int .i64 t.col) ∧ W.cell? ⟨w.heap.size, 2, none⟩ = some (.int .i64 t.op) ∧ W.cell? ⟨w.heap.size, 3, none⟩ = some (.int .i64 t.v.ty) ∧ W.cell? ⟨w.heap.size, 4, none⟩ = some (.int .i64 t.v.n) ∧ W.cell? ⟨w.heap.size, 5, none⟩ = some (.string t.v.s) ∧ W.cell? ⟨w.heap.size, 6, none⟩ = some (u)) := HK0.out
  have hqq : ∀ b : Bool, (b != b) = false := fun b => by simp
  have hqr := hqq (T.may l t)
  clear hw0 C0 hz hss hqq hs HK0
  go_enter Try.func7, Try.ntmps7
  go_wp2_with fail
  rw [HW0.out]
  refine (HSZ.out _ B0).mono ?_
  rintro e w1 ⟨r1, rfl, h1, b1⟩
  have B1 := below_then B0 b1 B0.size
  have K1 := b1
  clear b1 HSZ
  by_cases hn1 : r1 < 0
  · clear h1
    go_wp2
    go_ret
    exact ⟨rfl, B1⟩
  have HBK : Hid (t.bulk ≤ 1048577) := by
    have := h1.resolve_left hn1
    show _ ≤ _
    omega
  have hr1 : r1 ≤ 1048576 := by
    have := h1.resolve_left hn1
    have := t.bulk_pos
    omega
  clear h1
  go_wp2_with fail
  refine (szZoneS (.slice a len cap) l r1 w1 (by omega) (by omega) HSS.out (by rw [HL.out]; exact (hA.below B1).rd' hlb)).mono ?_
  rintro e w2 ⟨r2, rfl, h2, b2⟩
  have B2 := below_then B1 b2 B1.size
  have K2 := below_then K1 b2 K1.size
  clear b2 B1 K1
  by_cases hn2 : r2 < 0
  · clear h2
    go_wp2
    go_ret
    exact ⟨rfl, B2⟩
  have hlen : len ≤ 1048576 := by
    have := h2.resolve_left hn2
    have := HL.out
    omega
  clear h2
  have HT := Lib.hid (fun W (hW : Below w.heap.size w W) => toPred t _ u W (by have := HBK.out; omega) (hr.below hW))
  obtain ⟨p0, p1, p2, p3, p4, p5, p6⟩ := HKP.out _ K2
  go_wp2_with fail
  refine (HT.out _ B2).mono ?_
  rintro e w3 ⟨u3, rfl, hv3, b3⟩
  have B3 := below_then B2 b3 B2.size
  have K3 := below_then K2 b3 K2.size
  clear b3 B2 K2 p0 p1 p2 p3 p4 p5 p6
  go_wp2_with fail
  refine (toZoneS (.slice a len cap) l w3 (by rw [HL.out]; omega) (by rw [HL.out]; exact (hA.below B3).rd' hlb)).mono ?_
  rintro e w4 ⟨v4, rfl, o4, b4⟩
  have B4 := below_then B3 b4 B3.size
  have K4 := below_then K3 b4 K3.size
  have HM := Lib.hid (sMayHold l t _ _ _ _ (hv3.below b4) o4)
  clear b4 B3 K3 hv3 o4
  go_wp2_with fail
  refine HM.out.mono ?_
  rintro e w5 ⟨rfl, b5⟩
  have B5 := below_then B4 b5 B4.size
  have K5 := below_then K4 b5 K4.size
  clear b5 B4 K4 HM
  obtain ⟨p0, p1, p2, p3, p4, p5, p6⟩ := HKP.out _ K5
  go_wp2_with fail
  refine (HT.out _ B5).mono ?_
  rintro e w6 ⟨u6, rfl, hv6, b6⟩
  obtain ⟨a6, cp6, hu6, _⟩ := RdT_def.1 hv6
  generalize t.l.length = n6 at hu6
  subst hu6
  have B6 := below_then B5 b6 B5.size
  have K6 := below_then K5 b6 K5.size
  clear b6 B5 K5 p0 p1 p2 p3 p4 p5 p6
  have A7 := below_alloc w6 (.cells #[.int .i64 t.kind, .int .i64 t.col, .int .i64 t.op, .int .i64 t.v.ty, .int .i64 t.v.n, .string t.v.s, .slice a6 n6 cp6] 29)
  have C7 := blk_new w6 [.int .i64 t.kind, .int .i64 t.col, .int .i64 t.op, .int .i64 t.v.ty, .int .i64 t.v.n, .string t.v.s, .slice a6 n6 cp6] 29
  replace hv6 := hv6.pbelow A7 (Nat.le_refl _)
  have B7 := below_then B6 A7 B6.size
  have K7 := below_then K6 A7 K6.size
  generalize hw7 : w6.alloc (.cells #[.int .i64 t.kind, .int .i64 t.col, .int .i64 t.op, .int .i64 t.v.ty, .int .i64 t.v.n, .string t.v.s, .slice a6 n6 cp6] 29) = w7 at C7 hv6 B7 K7
  have HW7 := Lib.hid hw7
  generalize hq7 : w6.heap.size = q at C7
  have HQ7 := Lib.hid hq7
  clear hw7 hq7 A7 B6 K6
  go_wp2_with fail
  rw [HW7.out, HQ7.out]
  refine (toZoneS (.slice a len cap) l w7 (by rw [HL.out]; omega) (by rw [HL.out]; exact (hA.below B7).rd' hlb)).mono ?_
  rintro e w8 ⟨v8, rfl, o8, b8⟩
  have B8 := below_then B7 b8 B7.size
  have K8 := below_then K7 b8 K7.size
  replace C7 := C7.below b8
  replace hv6 := hv6.pbelow b8 (Nat.le_refl _)
  have HH := Lib.hid (hi l t _ _ _ _ HSM.out HBK.out (by rw [HL.out]; omega) HSS.out hv6 (fun b hb => hb.2.2) o8)
  have HK7 : Hid (∀ W, Below w8.heap.size w8 W → W.cell? ⟨q, 0, none⟩ = some (.int .i64 t.kind) ∧ W.cell? ⟨q, 1, none⟩ = some (.int .i64 t.col) ∧ W.cell? ⟨q, 2, none⟩ = some (.int .i64 t.op) ∧ W.cell? ⟨q, 3, none⟩ = some (.int .i64 t.v.ty) ∧ W.cell? ⟨q, 4, none⟩ = some (.int .i64 t.v.n) ∧ W.cell? ⟨q, 5, none⟩ = some (.string t.v.s) ∧ W.cell? ⟨q, 6, none⟩ = some (.slice a6 n6 cp6)) := fun W h => ⟨(C7.below h 0 _ rfl).1, (C7.below h 1 _ rfl).1, (C7.below h 2 _ rfl).1, (C7.below h 3 _ rfl).1, (C7.below h 4 _ rfl).1, (C7.below h 5 _ rfl).1, (C7.below h 6 _ rfl).1⟩
  obtain ⟨p0, p1, p2, p3, p4, p5, p6⟩ := HK7.out w8 (Below.refl _ _)
  obtain ⟨b8', c8', hv8'⟩ : ∃ x y, v8 = .slice x len y := by
    have h := o8
    rw [HL.out] at h
    obtain ⟨x, y, e, _⟩ := h
    exact ⟨x, y, e⟩
  subst hv8'
  clear C7 b8 B7 K7 HW7 HQ7
  go_wp2_with fail
  refine HH.out.mono ?_
  rintro e w9 ⟨rfl, b9⟩
  have B9 := below_then B8 b9 B8.size
  have K9 := below_then K8 b9 K8.size
  have hv9 := hv6.below b9
  have O9 := (o8).below b9
  have HK9 := Lib.hid (fun W (hW : Below w9.heap.size w9 W) => HK7.out W (below_then b9 hW b9.size))
  have HT9 := Lib.hid (fun W (hW : Below w9.heap.size w9 W) => HT.out W (below_then B9 hW B9.size))
  have HP9 := Lib.hid (fun W (hW : Below w9.heap.size w9 W) => HKP.out W (below_then K9 hW K9.size))
  have HE9 := Lib.hid (fun Q2 u2 W (hW : Below w9.heap.size w9 W) (h : RdT Q2 W t u2) => eqPred t _ _ (.slice a6 n6 cp6) u2 W (hv9.below hW) h)
  clear p0 p1 p2 p3 p4 p5 p6 HH HK7 hv6 hv9 B8 K8 o8 HT HKP
  have HKB : Hid (∀ W, Below w9.heap.size w9 W → W.cell? ⟨q, 0, none⟩ = some (.int .i64 t.kind) ∧ W.cell? ⟨q, 1, none⟩ = some (.int .i64 t.col) ∧ W.cell? ⟨q, 2, none⟩ = some (.int .i64 t.op) ∧ W.cell? ⟨q, 3, none⟩ = some (.int .i64 t.v.ty) ∧ W.cell? ⟨q, 4, none⟩ = some (.int .i64 t.v.n) ∧ W.cell? ⟨q, 5, none⟩ = some (.string t.v.s) ∧ W.cell? ⟨q, 6, none⟩ = some (.slice a6 n6 cp6) ∧ W.cell? ⟨w.heap.size, 0, none⟩ = some (.int .i64 t.kind) ∧ W.cell? ⟨w.heap.size, 1, none⟩ = some (.int .i64 t.col) ∧ W.cell? ⟨w.heap.size, 2, none⟩ = some (.int .i64 t.op) ∧ W.cell? ⟨w.heap.size, 3, none⟩ = some (.int .i64 t.v.ty) ∧ W.cell? ⟨w.heap.size, 4, none⟩ = some (.int .i64 t.v.n) ∧ W.cell? ⟨w.heap.size, 5, none⟩ = some (.string t.v.s) ∧ W.cell? ⟨w.heap.size, 6, none⟩ = some (u)) := fun W h => by
    obtain ⟨e0, e1, e2, e3, e4, e5, e6⟩ := HK9.out W h
    exact ⟨e0, e1, e2, e3, e4, e5, e6, HP9.out W h⟩
  clear HK9 HP9
  have hB := Below.refl w9.heap.size w9
  have hB' := (Below.refl w9.heap.size w9).drew
  go_wp2
  go_region_held3 (fun W => W.cell? ⟨q, 0, none⟩ = some (.int .i64 t.kind) ∧ W.cell? ⟨q, 1, none⟩ = some (.int .i64 t.col) ∧ W.cell? ⟨q, 2, none⟩ = some (.int .i64 t.op) ∧ W.cell? ⟨q, 3, none⟩ = some (.int .i64 t.v.ty) ∧ W.cell? ⟨q, 4, none⟩ = some (.int .i64 t.v.n) ∧ W.cell? ⟨q, 5, none⟩ = some (.string t.v.s) ∧ W.cell? ⟨q, 6, none⟩ = some (.slice a6 n6 cp6) ∧ W.cell? ⟨w.heap.size, 0, none⟩ = some (.int .i64 t.kind) ∧ W.cell? ⟨w.heap.size, 1, none⟩ = some (.int .i64 t.col) ∧ W.cell? ⟨w.heap.size, 2, none⟩ = some (.int .i64 t.op) ∧ W.cell? ⟨w.heap.size, 3, none⟩ = some (.int .i64 t.v.ty) ∧ W.cell? ⟨w.heap.size, 4, none⟩ = some (.int .i64 t.v.n) ∧ W.cell? ⟨w.heap.size, 5, none⟩ = some (.string t.v.s) ∧ W.cell? ⟨w.heap.size, 6, none⟩ = some (u)) (exact HKB.out _ hB') (first | (go_at_call 22; (with_reducible refine (HT9.out _ hB').mono ?_); rintro e wA ⟨uA, rfl, hvA, hb⟩; replace hB' := below_then hB' hb hB'.size) | (go_at_call 24; (with_reducible refine (HE9.out _ _ _ hB' hvA).mono ?_); rintro e wA ⟨rfl, hb⟩; replace hB' := below_then hB' hb hB'.size))
  all_goals
    have BA := below_then B9 hB' B9.size
    have OA := (O9).below hB'
    clear hB hB' HT9 HE9 HKB hvA
    go_wp2_with fail
    refine (toZoneS (.slice a len cap) l _ (by rw [HL.out]; omega) (by rw [HL.out]; exact (hA.below BA).rd' hlb)).mono ?_
    rintro e wB ⟨vB, rfl, oB, bB⟩
    have BB := below_then BA bB BA.size
    have OB := (OA).below bB
    have HQ := Lib.hid (eqZoneS _ vB l wB OB oB)
    clear bB oB OA OB
    go_wp2_with fail
    refine HQ.out.mono ?_
    rintro e wC ⟨rfl, bC⟩
    have BC := below_then BB bC BB.size
    go_wp2
    go_ret
    exact ⟨rfl, BC⟩

end Go.Proofs.Ytpinoemckapbhaa

/- The exact law of PredOk, walked; the program's own contract comes as a hypothesis (written by mk_Law11p.py). -/
namespace Go.Proofs.Ytpinoemckapbhaa
open Go.RowKit

def CPredOk : Prop := ∀ (cols : List Int) (t : T) (Q : Nat → Prop) (u vu : Value) (w : World), t.Small → t.bulk ≤ 1048577 → cols.length ≤ 1048576 → RdT Q w t u → Rd 1 w vu cols.length (ints .i64 cols) →
  Calls Try.prog 13 #[vu, t.agg u] w fun e w' => e = .returned (.bool (t.predOk cols)) ∧ Below w.heap.size w w'

set_option maxRecDepth 100000 in
set_option maxHeartbeats 8000000 in
theorem lawPredOk (hi : CPredOk) (a : Option Addr) (len cap : Nat) (zs : List Int) (t : T) (u : Value) (w : World) (hlb : len ≤ maxLen) (hA : Arg .i64 w a len zs) (hs : t.Small) (hr : RdT (fun _ => True) w t u) :
    Calls Try.prog 4 #[.slice a len cap, t.agg u] w fun e w' => e = .returned (.bool true) ∧ Below w.heap.size w w' := by
  have HL := Lib.hid hA.1
  have HSM := Lib.hid hs
  have HSZ := Lib.hid (fun W (hW : Below w.heap.size w W) => szPred t u 1048576 W hs (hr.below hW) (by omega) (by omega))
  have B0 := below_alloc w (.cells #[.int .i64 t.kind, .int .i64 t.col, .int .i64 t.op, .int .i64 t.v.ty, .int .i64 t.v.n, .string t.v.s, u] 48)
  have C0 := blk_new w [.int .i64 t.kind, .int .i64 t.col, .int .i64 t.op, .int .i64 t.v.ty, .int .i64 t.v.n, .string t.v.s, u] 48
  have HK0 : Hid (∀ W, Below ((w.alloc (.cells #[.int .i64 t.kind, .int .i64 t.col, .int .i64 t.op, .int .i64 t.v.ty, .int .i64 t.v.n, .string t.v.s, u] 48))).heap.size (w.alloc (.cells #[.int .i64 t.kind, .int .i64 t.col, .int .i64 t.op, .int .i64 t.v.ty, .int .i64 t.v.n, .string t.v.s, u] 48)) W → W.cell? ⟨w.heap.size, 0, none⟩ = some (.int .i64 t.kind) ∧ W.cell? ⟨w.heap.size, 1, none⟩ = some (.int .i64 t.col) ∧ W.cell? ⟨w.heap.size, 2, none⟩ = some (.int .i64 t.op) ∧ W.cell? ⟨w.heap.size, 3, none⟩ = some (.int .i64 t.v.ty) ∧ W.cell? ⟨w.heap.size, 4, none⟩ = some (.int .i64 t.v.n) ∧ W.cell? ⟨w.heap.size, 5, none⟩ = some (.string t.v.s) ∧ W.cell? ⟨w.heap.size, 6, none⟩ = some (u)) := fun W h => ⟨(C0.below h 0 _ rfl).1, (C0.below h 1 _ rfl).1, (C0.below h 2 _ rfl).1, (C0.below h 3 _ rfl).1, (C0.below h 4 _ rfl).1, (C0.below h 5 _ rfl).1, (C0.below h 6 _ rfl).1⟩
  unfold maxLen at hlb
  by_cases hbig : 1048576 < len
  · clear HSZ HK0 C0
    go_enter Try.func4, Try.ntmps4
    go_wp2
    go_ret
    exact ⟨rfl, B0⟩
  generalize hw0 : w.alloc (.cells #[.int .i64 t.kind, .int .i64 t.col, .int .i64 t.op, .int .i64 t.v.ty, .int .i64 t.v.n, .string t.v.s, u] 48) = w0 at B0 HK0
  have HW0 := Lib.hid hw0
  have HKP : Hid (∀ W, Below w0.heap.size w0 W → W.cell? ⟨w.heap.size, 0, none⟩ = some (.int .i64 t.kind) ∧ W.cell? ⟨w.heap.size, 1, none⟩ = some (.int .i64 t.col) ∧ W.cell? ⟨w.heap.size, 2, none⟩ = some (.int .i64 t.op) ∧ W.cell? ⟨w.heap.size, 3, none⟩ = some (.int .i64 t.v.ty) ∧ W.cell? ⟨w.heap.size, 4, none⟩ = some (.int .i64 t.v.n) ∧ W.cell? ⟨w.heap.size, 5, none⟩ = some (.string t.v.s) ∧ W.cell? ⟨w.heap.size, 6, none⟩ = some (u)) := HK0.out
  have hqq : ∀ b : Bool, (b != b) = false := fun b => by simp
  have hqr := hqq (t.predOk zs)
  clear hw0 C0 hqq hs HK0
  go_enter Try.func4, Try.ntmps4
  go_wp2_with fail
  rw [HW0.out]
  refine (HSZ.out _ B0).mono ?_
  rintro e w1 ⟨r1, rfl, h1, b1⟩
  have B1 := below_then B0 b1 B0.size
  have K1 := b1
  clear b1 HSZ
  by_cases hn1 : r1 < 0
  · clear h1
    go_wp2
    go_ret
    exact ⟨rfl, B1⟩
  have HBK : Hid (t.bulk ≤ 1048577) := by
    have := h1.resolve_left hn1
    show _ ≤ _
    omega
  clear h1
  have HT := Lib.hid (fun W (hW : Below w.heap.size w W) => toPred t _ u W (by have := HBK.out; omega) (hr.below hW))
  have HI := Lib.hid (fun W (hW : Below w.heap.size w W) => toIntS a len cap zs W (by omega) (hA.below hW))
  have HSP := Lib.hid (fun Q2 u2 v2 W (h : RdT Q2 W t u2) (hv : Rd 1 W v2 len (ints .i64 zs)) => sPredOk zs t Q2 u2 v2 W HSM.out (by have := HBK.out; omega) h (by rw [HL.out]; exact hv))
  have HKW : Hid (∀ W, Below w1.heap.size w1 W → W.cell? ⟨w.heap.size, 0, none⟩ = some (.int .i64 t.kind) ∧ W.cell? ⟨w.heap.size, 1, none⟩ = some (.int .i64 t.col) ∧ W.cell? ⟨w.heap.size, 2, none⟩ = some (.int .i64 t.op) ∧ W.cell? ⟨w.heap.size, 3, none⟩ = some (.int .i64 t.v.ty) ∧ W.cell? ⟨w.heap.size, 4, none⟩ = some (.int .i64 t.v.n) ∧ W.cell? ⟨w.heap.size, 5, none⟩ = some (.string t.v.s) ∧ W.cell? ⟨w.heap.size, 6, none⟩ = some (u)) := fun W h => HKP.out W (below_then K1 h K1.size)
  have hB := Below.refl w1.heap.size w1
  have hB' := (Below.refl w1.heap.size w1).drew
  go_wp2
  go_region_held3 (fun W => W.cell? ⟨w.heap.size, 0, none⟩ = some (.int .i64 t.kind) ∧ W.cell? ⟨w.heap.size, 1, none⟩ = some (.int .i64 t.col) ∧ W.cell? ⟨w.heap.size, 2, none⟩ = some (.int .i64 t.op) ∧ W.cell? ⟨w.heap.size, 3, none⟩ = some (.int .i64 t.v.ty) ∧ W.cell? ⟨w.heap.size, 4, none⟩ = some (.int .i64 t.v.n) ∧ W.cell? ⟨w.heap.size, 5, none⟩ = some (.string t.v.s) ∧ W.cell? ⟨w.heap.size, 6, none⟩ = some (u)) (first | exact HKW.out _ hB' | exact HKW.out _ hB) (first | (go_at_call 21; (with_reducible refine (HI.out _ (below_then B1 hB' B1.size)).mono ?_); rintro e wA ⟨vA, rfl, oA, hb⟩; replace hB' := below_then hB' hb hB'.size) | (go_at_call 22; (with_reducible refine (HT.out _ (below_then B1 hB' B1.size)).mono ?_); rintro e wB ⟨uB, rfl, hvB, hb⟩; have oB := (oA.below hb (Nat.le_refl _)).wide hb.size; replace hB' := below_then hB' hb hB'.size) | (go_at_call 20; (with_reducible refine (HSP.out _ _ _ _ hvB oB.rd).mono ?_); rintro e wC ⟨rfl, hb⟩; replace hB' := below_then hB' hb hB'.size))
  all_goals
    have B4 := below_then B1 hB' B1.size
    have K4 := below_then K1 hB' K1.size
    clear hB hB' oA oB hvB HSP
    go_wp2_with fail
    refine (HI.out _ B4).mono ?_
    rintro e w5 ⟨v5, rfl, o5, b5⟩
    have B5 := below_then B4 b5 B4.size
    have K5 := below_then K4 b5 K4.size
    clear b5 B4 K4
    obtain ⟨p0, p1, p2, p3, p4, p5, p6⟩ := HKP.out _ K5
    obtain ⟨b5', c5', hv5'⟩ : ∃ x y, v5 = .slice x len y := by
      obtain ⟨x, y, e, _⟩ := o5.rd
      exact ⟨x, y, e⟩
    subst hv5'
    go_wp2_with fail
    refine (HT.out _ B5).mono ?_
    rintro e w6 ⟨u6, rfl, hv6, b6⟩
    obtain ⟨a6, cp6, hu6, _⟩ := RdT_def.1 hv6
    generalize t.l.length = n6 at hu6
    subst hu6
    have B6 := below_then B5 b6 B5.size
    have K6 := below_then K5 b6 K5.size
    have O6 := (o5.below b6 (Nat.le_refl _)).wide b6.size
    clear b6 B5 K5 o5 p0 p1 p2 p3 p4 p5 p6
    have A7 := below_alloc w6 (.cells #[.int .i64 t.kind, .int .i64 t.col, .int .i64 t.op, .int .i64 t.v.ty, .int .i64 t.v.n, .string t.v.s, .slice a6 n6 cp6] 29)
    have C7 := blk_new w6 [.int .i64 t.kind, .int .i64 t.col, .int .i64 t.op, .int .i64 t.v.ty, .int .i64 t.v.n, .string t.v.s, .slice a6 n6 cp6] 29
    replace hv6 := hv6.below A7
    have O7 := (O6.below A7 (Nat.le_refl _)).wide A7.size
    have B7 := below_then B6 A7 B6.size
    have K7 := below_then K6 A7 K6.size
    generalize hw7 : w6.alloc (.cells #[.int .i64 t.kind, .int .i64 t.col, .int .i64 t.op, .int .i64 t.v.ty, .int .i64 t.v.n, .string t.v.s, .slice a6 n6 cp6] 29) = w7 at C7 hv6 B7 K7 O7
    have HW7 := Lib.hid hw7
    generalize hq7 : w6.heap.size = q at C7
    have HQ7 := Lib.hid hq7
    have HH := Lib.hid (hi zs t _ _ _ _ HSM.out HBK.out (by rw [HL.out]; omega) hv6 (by rw [HL.out]; exact O7.rd))
    have HK7 : Hid (∀ W, Below w7.heap.size w7 W → W.cell? ⟨q, 0, none⟩ = some (.int .i64 t.kind) ∧ W.cell? ⟨q, 1, none⟩ = some (.int .i64 t.col) ∧ W.cell? ⟨q, 2, none⟩ = some (.int .i64 t.op) ∧ W.cell? ⟨q, 3, none⟩ = some (.int .i64 t.v.ty) ∧ W.cell? ⟨q, 4, none⟩ = some (.int .i64 t.v.n) ∧ W.cell? ⟨q, 5, none⟩ = some (.string t.v.s) ∧ W.cell? ⟨q, 6, none⟩ = some (.slice a6 n6 cp6)) := fun W h => ⟨(C7.below h 0 _ rfl).1, (C7.below h 1 _ rfl).1, (C7.below h 2 _ rfl).1, (C7.below h 3 _ rfl).1, (C7.below h 4 _ rfl).1, (C7.below h 5 _ rfl).1, (C7.below h 6 _ rfl).1⟩
    clear hw7 hq7 A7 B6 K6 O6 C7
    go_wp2_with fail
    rw [HW7.out]
    refine HH.out.mono ?_
    rintro e w9 ⟨rfl, b9⟩
    rw [HQ7.out]
    have B9 := below_then B7 b9 B7.size
    have K9 := below_then K7 b9 K7.size
    have hv9 := hv6.below b9
    have O9 := (O7.below b9 (Nat.le_refl _)).wide b9.size
    have HK9 := Lib.hid (fun W (hW : Below w9.heap.size w9 W) => HK7.out W (below_then b9 hW b9.size))
    clear HH HK7 hv6 B7 K7 O7 b9 HW7 HQ7
    go_wp2_with fail
    refine (HI.out _ B9).mono ?_
    rintro e wD ⟨vD, rfl, oD, bD⟩
    have BD := below_then B9 bD B9.size
    have KD := below_then K9 bD K9.size
    have OD := (O9.below bD (Nat.le_refl _)).wide bD.size
    have HQ := Lib.hid (eqIntS _ vD len zs wD HL.out OD.at oD.at)
    have hvD := hv9.below bD
    have HKD := Lib.hid (fun W (hW : Below wD.heap.size wD W) => HK9.out W (below_then bD hW bD.size))
    clear B9 K9 O9 OD oD bD HK9 hv9
    go_wp2_with fail
    refine HQ.out.mono ?_
    rintro e wE ⟨rfl, bE⟩
    have BE := below_then BD bE BD.size
    have KE := below_then KD bE KD.size
    have hvE := hvD.below bE
    have HTE := Lib.hid (fun W (hW : Below wE.heap.size wE W) => HT.out W (below_then BE hW BE.size))
    have HEE := Lib.hid (fun Q2 u2 W (hW : Below wE.heap.size wE W) (h : RdT Q2 W t u2) => eqPred t _ _ (.slice a6 n6 cp6) u2 W (hvE.below hW) h)
    have HKB : Hid (∀ W, Below wE.heap.size wE W → W.cell? ⟨q, 0, none⟩ = some (.int .i64 t.kind) ∧ W.cell? ⟨q, 1, none⟩ = some (.int .i64 t.col) ∧ W.cell? ⟨q, 2, none⟩ = some (.int .i64 t.op) ∧ W.cell? ⟨q, 3, none⟩ = some (.int .i64 t.v.ty) ∧ W.cell? ⟨q, 4, none⟩ = some (.int .i64 t.v.n) ∧ W.cell? ⟨q, 5, none⟩ = some (.string t.v.s) ∧ W.cell? ⟨q, 6, none⟩ = some (.slice a6 n6 cp6) ∧ W.cell? ⟨w.heap.size, 0, none⟩ = some (.int .i64 t.kind) ∧ W.cell? ⟨w.heap.size, 1, none⟩ = some (.int .i64 t.col) ∧ W.cell? ⟨w.heap.size, 2, none⟩ = some (.int .i64 t.op) ∧ W.cell? ⟨w.heap.size, 3, none⟩ = some (.int .i64 t.v.ty) ∧ W.cell? ⟨w.heap.size, 4, none⟩ = some (.int .i64 t.v.n) ∧ W.cell? ⟨w.heap.size, 5, none⟩ = some (.string t.v.s) ∧ W.cell? ⟨w.heap.size, 6, none⟩ = some (u)) := fun W h => by
      obtain ⟨e0, e1, e2, e3, e4, e5, e6⟩ := HKD.out W (below_then bE h bE.size)
      exact ⟨e0, e1, e2, e3, e4, e5, e6, HKP.out W (below_then KE h KE.size)⟩
    clear BD KD KE HKD hvD hvE bE HQ
    have hB := Below.refl wE.heap.size wE
    have hB' := (Below.refl wE.heap.size wE).drew
    go_wp2
    go_region_held3 (fun W => W.cell? ⟨q, 0, none⟩ = some (.int .i64 t.kind) ∧ W.cell? ⟨q, 1, none⟩ = some (.int .i64 t.col) ∧ W.cell? ⟨q, 2, none⟩ = some (.int .i64 t.op) ∧ W.cell? ⟨q, 3, none⟩ = some (.int .i64 t.v.ty) ∧ W.cell? ⟨q, 4, none⟩ = some (.int .i64 t.v.n) ∧ W.cell? ⟨q, 5, none⟩ = some (.string t.v.s) ∧ W.cell? ⟨q, 6, none⟩ = some (.slice a6 n6 cp6) ∧ W.cell? ⟨w.heap.size, 0, none⟩ = some (.int .i64 t.kind) ∧ W.cell? ⟨w.heap.size, 1, none⟩ = some (.int .i64 t.col) ∧ W.cell? ⟨w.heap.size, 2, none⟩ = some (.int .i64 t.op) ∧ W.cell? ⟨w.heap.size, 3, none⟩ = some (.int .i64 t.v.ty) ∧ W.cell? ⟨w.heap.size, 4, none⟩ = some (.int .i64 t.v.n) ∧ W.cell? ⟨w.heap.size, 5, none⟩ = some (.string t.v.s) ∧ W.cell? ⟨w.heap.size, 6, none⟩ = some (u)) (first | exact HKB.out _ hB' | exact HKB.out _ hB) (first | (go_at_call 22; (with_reducible refine (HTE.out _ hB').mono ?_); rintro e wF ⟨uF, rfl, hvF, hb⟩; replace hB' := below_then hB' hb hB'.size) | (go_at_call 24; (with_reducible refine (HEE.out _ _ _ hB' hvF).mono ?_); rintro e wF ⟨rfl, hb⟩; replace hB' := below_then hB' hb hB'.size))
    all_goals
      have BF := below_then BE hB' BE.size
      go_wp2
      go_ret
      exact ⟨rfl, BF⟩

end Go.Proofs.Ytpinoemckapbhaa
