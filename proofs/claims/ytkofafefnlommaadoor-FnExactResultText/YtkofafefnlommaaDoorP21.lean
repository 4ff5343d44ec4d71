/- Texts of this claim, one behind the other: OpenT, H11. -/
import Derived.Test.YtkofafefnlommaaDoorP12
import Derived.Test.YtkofafefnlommaaDoorP15
import Derived.ChangeArms
import Derived.ChangeSame
import Derived.Test.YtkofafefnlommaaDoorP3

/- Reading a Pred: what the row's reading says of it. -/
namespace Go.Proofs.YtkofafefnlommaaDoor
open Go.RowKit Go.ChangeShapes Go.WideShapes Go.Deep

mutual
/-- P holds of each node. -/
def T.All (P : T → Prop) : T → Prop | .mk k c o v l => P (.mk k c o v l) ∧ T.Alls P l
def T.Alls (P : T → Prop) : List T → Prop | [] => True | t :: r => T.All P t ∧ T.Alls P r
end
theorem T.alls_iff {P : T → Prop} : ∀ {l : List T}, T.Alls P l ↔ ∀ t ∈ l, T.All P t
  | [] => by
    unfold T.Alls
    exact ⟨fun _ _ h => (by cases h), fun _ => trivial⟩
  | t :: l => by
    unfold T.Alls
    rw [T.alls_iff]
    simp
theorem T.all_iff {P : T → Prop} {t : T} : T.All P t ↔ P t ∧ ∀ x ∈ t.l, T.All P x := by
  obtain ⟨k, c, o, v, l⟩ := t
  rw [T.All, T.alls_iff]
  exact Iff.rfl

theorem T.All.imp {P Q : T → Prop} (hPQ : ∀ t, P t → Q t) : ∀ {t : T}, T.All P t → T.All Q t := by
  intro t
  refine T.induct (P := fun t => T.All P t → T.All Q t) (fun t ih h => ?_) t
  rw [T.all_iff] at h ⊢
  exact ⟨hPQ t h.1, fun x hx => ih x hx (h.2 x hx)⟩

section
variable {H : Type} {enc : TypeId × Value → H} {w : World} {base : Nat} {spare : Nat → Bool} {held : Bool}

theorem trod_struct5 {P : Program} {t : TypeId} {f0 f1 f2 f3 f4 : Field} {fuel : Nat} {cs : List Value} {x : DataW H × List MemPlace} (ht : P.underlying t = some (.struct #[f0, f1, f2, f3, f4])) (h : DataW.trod enc P w base spare held fuel t cs = some x) :
    ∃ (y0 y1 y2 y3 y4 : DataW H × List MemPlace) (n : Nat), fuel = n + 1 ∧ cs.length = P.cellsOf t ∧ DataW.trod enc P w base spare held n f0.type ((cs.drop f0.offset).take (P.cellsOf f0.type)) = some y0 ∧
      DataW.trod enc P w base spare held n f1.type ((cs.drop f1.offset).take (P.cellsOf f1.type)) = some y1 ∧ DataW.trod enc P w base spare held n f2.type ((cs.drop f2.offset).take (P.cellsOf f2.type)) = some y2 ∧
      DataW.trod enc P w base spare held n f3.type ((cs.drop f3.offset).take (P.cellsOf f3.type)) = some y3 ∧ DataW.trod enc P w base spare held n f4.type ((cs.drop f4.offset).take (P.cellsOf f4.type)) = some y4 := by
  obtain ⟨xs, n, hn, _, hl, hlen, hf⟩ := DataW.trod_struct ht h
  match xs, hlen with
  | [y0, y1, y2, y3, y4], _ => exact ⟨y0, y1, y2, y3, y4, n, hn, hl, by simpa using hf 0 f0 rfl, by simpa using hf 1 f1 rfl, by simpa using hf 2 f2 rfl, by simpa using hf 3 f3 rfl, by simpa using hf 4 f4 rfl⟩

theorem pick_trees {P : Nat → T → Prop} (len : Nat) (key : ∀ i, i < len → ∃ y, P i y) : ∃ l : List T, l.length = len ∧ ∀ i, i < len → P i (l.getD i T.zero) := by
  induction len with
  | zero => exact ⟨[], rfl, fun i hi => by omega⟩
  | succ q ihq =>
    obtain ⟨l, hll, hcell⟩ := ihq (fun i hi => key i (by omega))
    obtain ⟨y, hy⟩ := key q (by omega)
    refine ⟨l ++ [y], by simp [hll], fun i hi => ?_⟩
    by_cases hq : i < q
    · have e : (l ++ [y]).getD i T.zero = l.getD i T.zero := by
        simp [List.getD, List.getElem?_append_left (show i < l.length by omega)]
      rw [e]
      exact hcell i hq
    · obtain rfl : i = q := by omega
      have e : (l ++ [y]).getD i T.zero = y := by
        rw [← hll]
        simp [List.getD]
      rw [e]
      exact hy

/-- A node that the row reads. -/
def T.wf1 (t : T) : Prop := (Lit.int .i64 t.kind).wf = true ∧ (Lit.int .i64 t.col).wf = true ∧ (Lit.int .i64 t.op).wf = true ∧ t.v.wf

/-- A Pred that the row reads. -/
def T.wf (w : World) (t : T) (u : Value) : Prop := RdT (fun _ => True) w t u ∧ T.All T.wf1 t
theorem T.wf.rd {w : World} {t : T} {u : Value} (h : T.wf w t u) : RdT (fun _ => True) w t u := h.1
theorem T.wf.small {w : World} {t : T} {u : Value} (h : T.wf w t u) : T.All (fun x => x.v.s.size ≤ maxLen) t := h.2.imp (fun _ h => h.2.2.2.2.2)

set_option maxRecDepth 100000 in
set_option maxHeartbeats 1000000 in
theorem trod_pred : ∀ (fuel : Nat) (cs : List Value) (x : DataW H × List MemPlace), DataW.trod enc Tryd.prog w base spare held fuel 26 cs = some x → ∃ (t : T) (u : Value), cs = t.cs u ∧ RdT (fun _ => True) w t u ∧ T.All T.wf1 t := by
  intro fuel
  induction fuel using Nat.strongRecOn with
  | _ fuel ih =>
  intro cs x h
  obtain ⟨y0, y1, y2, y3, y4, n, rfl, hl, h0, h1, h2, h3, h4⟩ := trod_struct5 Tryd.underlying26 h
  have hl7 : cs.length = 7 := hl.trans (by kernel_rfl)
  have e3 : Tryd.prog.cellsOf 3 = 1 := by kernel_rfl
  have ev : Tryd.prog.cellsOf 23 = 3 := by kernel_rfl
  have es : Tryd.prog.cellsOf 24 = 1 := by kernel_rfl
  have ep : Tryd.prog.cellsOf 26 = 7 := by kernel_rfl
  clear h
  match cs, hl7 with
  | [c0, c1, c2, c3, c4, c5, c6], _ =>
    simp only [e3, ev, es, List.drop_zero, List.drop_succ_cons, List.take_succ_cons, List.take_zero] at h0 h1 h2 h3 h4
    obtain ⟨k, hk, _, wk⟩ := DataW.trod_int Tryd.underlying3 h0
    obtain ⟨c, hc, _, wc⟩ := DataW.trod_int Tryd.underlying3 h1
    obtain ⟨o, ho, _, wo⟩ := DataW.trod_int Tryd.underlying3 h2
    obtain ⟨v, hv, wv⟩ := trod_val h3
    simp only [List.cons.injEq, and_true] at hk hc ho
    subst hk hc ho
    obtain ⟨t, m, s⟩ := v
    simp only [V.cs, List.cons.injEq, and_true] at hv
    obtain ⟨rfl, rfl, rfl⟩ := hv
    rcases DataW.trod_slice Tryd.underlying24 h4 with ⟨hcs, _⟩ | ⟨a, len, cap, elems, rest, n', hn, hcs, _, hb, hle, hmx, hel, hall, _, _⟩
    · simp only [List.cons.injEq, and_true] at hcs
      subst hcs
      refine ⟨.mk k c o ⟨t, m, s⟩ [], _, rfl, ?_, ?_⟩
      · rw [RdT_def]
        exact ⟨none, 0, rfl, Nat.zero_le _, .inl rfl⟩
      · rw [T.all_iff]
        exact ⟨⟨wk, wc, wo, wv⟩, fun x hx => by cases hx⟩
    · simp only [List.cons.injEq, and_true] at hcs
      subst hcs
      have key : ∀ i, i < len → ∃ (y : T) (u : Value), (∀ j z, (y.cs u)[j]? = some z → w.cell? (a.add (i * 7 + j)) = some z) ∧ RdT (fun _ => True) w y u ∧ T.All T.wf1 y := by
        intro i hi
        have h5 := hall i hi
        rw [List.getElem?_eq_getElem (by omega)] at h5
        obtain ⟨cs', h6, h7⟩ := Option.bind_eq_some_iff.1 h5
        obtain ⟨y, u, rfl, hr, hw⟩ := ih n' (by omega) _ _ h7
        refine ⟨y, u, fun j z hz => ?_, hr, hw⟩
        obtain ⟨_, hcl, hat⟩ := World.cells?_some h6
        have hj : j < Tryd.prog.cellsOf 26 := by
          rw [ep]
          exact (List.getElem?_eq_some_iff.1 hz).1
        have := hat j hj
        rw [hz, Go.Deep.add_add, ep] at this
        exact this
      obtain ⟨l, hll, hcell⟩ := pick_trees (P := fun i y => ∃ u : Value, (∀ j z, (y.cs u)[j]? = some z → w.cell? (a.add (i * 7 + j)) = some z) ∧ RdT (fun _ => True) w y u ∧ T.All T.wf1 y) len key
      refine ⟨.mk k c o ⟨t, m, s⟩ l, _, rfl, ?_, ?_⟩
      · rw [RdT_def]
        refine ⟨some a, cap, by show _ = Value.slice (some a) l.length cap; rw [hll], by show l.length ≤ _; omega, ?_⟩
        show l.length = 0 ∨ _
        by_cases hz : l.length = 0
        · exact .inl hz
        · right
          obtain ⟨b, off, spot⟩ := a
          obtain ⟨u0, hc0, _, _⟩ := hcell 0 (by omega)
          have hspot : spot = none := by simpa [Addr.add] using World.cell?_spot (hc0 0 _ rfl)
          subst hspot
          refine ⟨b, off, rfl, trivial, ?_⟩
          show RdTs _ w l b off
          rw [RdTs_iff]
          intro i hi
          obtain ⟨u, h1, h2, _⟩ := hcell i (by omega)
          refine ⟨u, fun j z hz => ?_, h2⟩
          have := h1 j z hz
          rw [addr_add] at this
          rw [Nat.add_assoc]
          exact this
      · rw [T.all_iff]
        refine ⟨⟨wk, wc, wo, wv⟩, fun x hx => ?_⟩
        obtain ⟨i, hi, rfl⟩ := List.getElem_of_mem hx
        obtain ⟨u, _, _, h3⟩ := hcell i (by rw [← hll]; exact hi)
        have e : l.getD i T.zero = l[i] := by
          have hi2 : i < l.length := hi
          simp [hi2]
          rfl
        rw [e] at h3
        exact h3
end

end Go.Proofs.YtkofafefnlommaaDoor

/- The laws' own helpers over Preds: szPred, szPredS, eqPred, eqPredS. -/
namespace Go.Proofs.YtkofafefnlommaaDoor
open Go.RowKit

theorem T.bulks_take {l : List T} {k : Nat} (hk : k < l.length) : T.bulks (l.take (k + 1)) = T.bulks (l.take k) + (l.getD k T.zero).bulk := by
  have e : l.getD k T.zero = l[k] := by simp [hk]
  rw [e, List.take_succ_eq_append_getElem hk, T.bulks_append]
  simp [T.bulks]
theorem T.bulk_def (t : T) : t.bulk = t.v.s.size + 1 + T.bulks t.l := by
  obtain ⟨k, c, o, v, l⟩ := t
  rw [T.bulk]
  rfl
/-- Texts that are not too long. -/
def T.Small (t : T) : Prop := T.All (fun x => x.v.s.size ≤ maxLen) t
theorem T.Small.self {t : T} (h : t.Small) : t.v.s.size ≤ maxLen := (T.all_iff.1 h).1
theorem T.Small.kid {t : T} (h : t.Small) {k : Nat} (hk : k < t.l.length) : (t.l.getD k T.zero).Small := (T.all_iff.1 h).2 _ (kid_mem hk)

/-- What szPred says. -/
def SzT (Q : Nat → Prop) (t : T) : Prop := ∀ (u : Value) (left : Int) (w : World), t.Small → RdT Q w t u → 0 ≤ left → left ≤ 1048576 →
  Calls Tryd.prog 6 #[t.agg u, .int .i64 left] w fun e w' => ∃ r : Int, e = .returned (.int .i64 r) ∧ (r < 0 ∨ (0 ≤ r ∧ (t.bulk : Int) ≤ left - r + 1)) ∧ Below w.heap.size w w'

set_option maxHeartbeats 1000000 in
theorem szPredS {Q : Nat → Prop} (t : T) (ih : ∀ x ∈ t.l, SzT Q x) (u : Value) (left : Int) (w : World) (hs : t.Small) (h : RdT Q w t u) (h0 : 0 ≤ left) (h1 : left ≤ 1048576) :
    Calls Tryd.prog 25 #[u, .int .i64 left] w fun e w' => ∃ r : Int, e = .returned (.int .i64 r) ∧ (r < 0 ∨ (0 ≤ r ∧ (T.bulks t.l : Int) ≤ left - r)) ∧ Below w.heap.size w w' := by
  have HB := Lib.hid (fun k (hk : k < t.l.length) => T.bulks_take hk)
  have HI := Lib.hid (fun k (hk : k < t.l.length) => ih _ (kid_mem hk))
  have HS := Lib.hid (fun k (hk : k < t.l.length) => hs.kid hk)
  have HA : Hid (T.bulks t.l = T.bulks (t.l.take t.l.length)) := by
    show _ = _
    rw [List.take_length]
  have HZ : Hid (T.bulks (t.l.take 0) = 0) := by
    show _ = _
    rw [List.take_zero, T.bulks]
  generalize hl : t.l.length = n at HB HI HS HA
  obtain ⟨a, cap, rfl, hle, HC⟩ := h.kids hl
  unfold maxLen at hle
  rw [HA.out]
  clear h hl hs ih HA
  by_cases hbig : left - (n : Int) < 0
  · go_enter Tryd.func25, Tryd.ntmps25
    go_wp2
    go_ret
    exact ⟨_, rfl, .inl (by omega), Below.refl _ _⟩
  · go_enter Tryd.func25, Tryd.ntmps25
    go_wp2
    go_loopw [1, 5] (fun r i wr => ∃ (k : Nat) (z : Int), k ≤ n ∧ 0 ≤ z ∧ z ≤ left ∧ ((n : Int) - k) + T.bulks (t.l.take k) ≤ left - z ∧ r = .int .i64 z ∧ i = .int .i64 k ∧ Below w.heap.size w wr) (fun _ i _ => n - (intOf i).toNat)
    case atStart => exact ⟨0, _, Nat.zero_le _, by omega, by omega, by rw [HZ.out]; omega, rfl, rfl, Below.refl _ _⟩
    case round =>
      obtain ⟨k, z, hk, hz0, hz1, hzb, rfl, rfl, hbr⟩ := hrel
      by_cases hkl : k < n
      · obtain ⟨b, off, u', rfl, hr, c0, c1, c2, c3, c4, c5, c6⟩ := HC.out k hkl wr hbr
        have HX := Lib.hid (HI.out k hkl u' z wr (HS.out k hkl) hr hz0 (by omega))
        have HBK := Lib.hid (HB.out k hkl)
        clear hr
        generalize t.l.getD k T.zero = x at c0 c1 c2 c3 c4 c5 HX HBK
        obtain ⟨xk, xc, xo, ⟨xt, xn, xs⟩, xl⟩ := x
        simp only [T.kind, T.col, T.op, T.v] at c0 c1 c2 c3 c4 c5
        go_wp2_with fail
        refine HX.out.mono ?_
        rintro e w2 ⟨r, rfl, hr, hb2⟩
        have B2 := below_then hbr hb2 hbr.size
        clear HX hb2 c0 c1 c2 c3 c4 c5 c6
        by_cases hneg : r < 0
        · go_wp2
          go_ret
          exact ⟨_, rfl, .inl (by omega), B2⟩
        · have hr2 := hr.resolve_left hneg
          clear hr
          go_wp2
          go_roundw
          case rel => exact ⟨k + 1, _, by omega, by omega, by omega, by rw [HBK.out]; omega, rfl, by go_num, B2⟩
          case measure => simp [intOf]; omega
      · obtain rfl : k = n := by omega
        go_wp2
        go_ret
        exact ⟨_, rfl, .inr ⟨hz0, by omega⟩, hbr⟩

set_option maxHeartbeats 1000000 in
theorem szPred {Q : Nat → Prop} : ∀ t : T, SzT Q t := by
  refine T.induct (fun t ih => ?_)
  intro u left w hs h h0 h1
  have HB := T.bulk_def t
  have B0 := below_alloc w (.cells (t.cs u).toArray 26)
  have C0 := blk_new w (t.cs u) 26
  have HV := Lib.hid (fun W => szVal t.v left W h0 h1 hs.self)
  have HE : Hid (0 ≤ szV t.v left → szV t.v left = left - t.v.s.size) := fun h => by
    unfold szV at h ⊢
    split
    · rename_i h2
      rw [if_pos h2] at h
      omega
    · rfl
  have HS := Lib.hid (fun (z : Int) W (hb : Below w.heap.size w W) (h0 : 0 ≤ z) (h1 : z ≤ 1048576) => szPredS t ih u z W hs (h.below hb) h0 h1)
  generalize szV t.v left = z at HV HE
  generalize T.bulks t.l = bl at HB HS
  generalize t.bulk = bt at HB ⊢
  clear h hs ih
  obtain ⟨k, c, o, ⟨vt, vn, vs⟩, l⟩ := t
  simp only [T.kind, T.col, T.op, T.v, T.cs] at HV HE HB B0 C0 ⊢
  have HBB := Lib.hid HB
  clear HB
  go_enter Tryd.func6, Tryd.ntmps6
  go_wp2_with fail
  refine (HV.out _).mono ?_
  rintro e w1 ⟨rfl, b1⟩
  have B1 := below_then B0 b1 B0.size
  have c6 := (C0.below b1 6 _ rfl).1
  clear b1 HV C0 B0
  by_cases hneg : z < 0
  · clear c6
    go_wp2
    go_ret
    exact ⟨_, rfl, .inl (by omega), B1⟩
  · have hz := Lib.hid (HE.out (by omega))
    have hz1 : z ≤ 1048576 := by
      have := hz.out
      omega
    clear HE
    go_wp2_with fail
    refine (HS.out z _ B1 (by omega) hz1).mono ?_
    rintro e w2 ⟨r, rfl, hr, b2⟩
    have B2 := below_then B1 b2 B1.size
    clear b2 HS c6
    by_cases hneg2 : r < 0
    · go_wp2
      go_ret
      exact ⟨_, rfl, .inl (by omega), B2⟩
    · have hr2 := hr.resolve_left hneg2
      clear hr
      go_wp2
      go_ret
      exact ⟨_, rfl, .inr ⟨by omega, by have := HBB.out; have := hz.out; omega⟩, B2⟩

end Go.Proofs.YtkofafefnlommaaDoor
