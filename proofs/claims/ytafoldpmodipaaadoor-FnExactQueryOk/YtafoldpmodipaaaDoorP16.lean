/- Texts of this claim, one behind the other: OpenT, H11, S11p, S11n, S11q, S11r, S11s, S11t, S11u, M12q. -/
import Derived.Test.YtafoldpmodipaaaDoorP9
import Derived.Test.YtafoldpmodipaaaDoorP13
import Derived.ChangeArms
import Derived.ChangeSame
import Derived.Test.YtafoldpmodipaaaDoorP2
import Derived.Test.YtafoldpmodipaaaDoorP14
import Derived.Test.YtafoldpmodipaaaDoorP4

/- Reading a Pred: what the row's reading says of it. -/
namespace Go.Proofs.YtafoldpmodipaaaDoor
open Go.RowKit Go.ChangeShapes Go.WideShapes Go.Deep

mutual
/-- P holds of each node. -/
def T.All (P : T → Prop) : T → Prop | .mk k c o v l => P (.mk k c o v l) ∧ T.Alls P l
def T.Alls (P : T → Prop) : List T → Prop | [] => True | t :: r => T.All P t ∧ T.Alls P r
end
theorem T.alls_iff {P : T → Prop} : ∀ {l : List T}, T.Alls P l ↔ ∀ t ∈ l, T.All P t
  | [] => by
    unfold T.Alls
    exact ⟨fun _ _ h => (by cases h), fun _ => trivial⟩
  | t :: l => by
    unfold T.Alls
    rw [T.alls_iff]
    simp
theorem T.all_iff {P : T → Prop} {t : T} : T.All P t ↔ P t ∧ ∀ x ∈ t.l, T.All P x := by
  obtain ⟨k, c, o, v, l⟩ := t
  rw [T.All, T.alls_iff]
  exact Iff.rfl

theorem T.All.imp {P Q : T → Prop} (hPQ : ∀ t, P t → Q t) : ∀ {t : T}, T.All P t → T.All Q t := by
  intro t
  refine T.induct (P := fun t => T.All P t → T.All Q t) (fun t ih h => ?_) t
  rw [T.all_iff] at h ⊢
  exact ⟨hPQ t h.1, fun x hx => ih x hx (h.2 x hx)⟩

section
variable {H : Type} {enc : TypeId × Value → H} {w : World} {base : Nat} {spare : Nat → Bool} {held : Bool}

theorem trod_struct5 {P : Program} {t : TypeId} {f0 f1 f2 f3 f4 : Field} {fuel : Nat} {cs : List Value} {x : DataW H × List MemPlace} (ht : P.underlying t = some (.struct #[f0, f1, f2, f3, f4])) (h : DataW.trod enc P w base spare held fuel t cs = some x) :
    ∃ (y0 y1 y2 y3 y4 : DataW H × List MemPlace) (n : Nat), fuel = n + 1 ∧ cs.length = P.cellsOf t ∧ DataW.trod enc P w base spare held n f0.type ((cs.drop f0.offset).take (P.cellsOf f0.type)) = some y0 ∧
      DataW.trod enc P w base spare held n f1.type ((cs.drop f1.offset).take (P.cellsOf f1.type)) = some y1 ∧ DataW.trod enc P w base spare held n f2.type ((cs.drop f2.offset).take (P.cellsOf f2.type)) = some y2 ∧
      DataW.trod enc P w base spare held n f3.type ((cs.drop f3.offset).take (P.cellsOf f3.type)) = some y3 ∧ DataW.trod enc P w base spare held n f4.type ((cs.drop f4.offset).take (P.cellsOf f4.type)) = some y4 := by
  obtain ⟨xs, n, hn, _, hl, hlen, hf⟩ := DataW.trod_struct ht h
  match xs, hlen with
  | [y0, y1, y2, y3, y4], _ => exact ⟨y0, y1, y2, y3, y4, n, hn, hl, by simpa using hf 0 f0 rfl, by simpa using hf 1 f1 rfl, by simpa using hf 2 f2 rfl, by simpa using hf 3 f3 rfl, by simpa using hf 4 f4 rfl⟩

theorem pick_trees {P : Nat → T → Prop} (len : Nat) (key : ∀ i, i < len → ∃ y, P i y) : ∃ l : List T, l.length = len ∧ ∀ i, i < len → P i (l.getD i T.zero) := by
  induction len with
  | zero => exact ⟨[], rfl, fun i hi => by omega⟩
  | succ q ihq =>
    obtain ⟨l, hll, hcell⟩ := ihq (fun i hi => key i (by omega))
    obtain ⟨y, hy⟩ := key q (by omega)
    refine ⟨l ++ [y], by simp [hll], fun i hi => ?_⟩
    by_cases hq : i < q
    · have e : (l ++ [y]).getD i T.zero = l.getD i T.zero := by
        simp [List.getD, List.getElem?_append_left (show i < l.length by omega)]
      rw [e]
      exact hcell i hq
    · obtain rfl : i = q := by omega
      have e : (l ++ [y]).getD i T.zero = y := by
        rw [← hll]
        simp [List.getD]
      rw [e]
      exact hy

/-- A node that the row reads. -/
def T.wf1 (t : T) : Prop := (Lit.int .i64 t.kind).wf = true ∧ (Lit.int .i64 t.col).wf = true ∧ (Lit.int .i64 t.op).wf = true ∧ t.v.wf

/-- A Pred that the row reads. -/
def T.wf (w : World) (t : T) (u : Value) : Prop := RdT (fun _ => True) w t u ∧ T.All T.wf1 t
theorem T.wf.rd {w : World} {t : T} {u : Value} (h : T.wf w t u) : RdT (fun _ => True) w t u := h.1
theorem T.wf.small {w : World} {t : T} {u : Value} (h : T.wf w t u) : T.All (fun x => x.v.s.size ≤ maxLen) t := h.2.imp (fun _ h => h.2.2.2.2.2)

set_option maxRecDepth 100000 in
set_option maxHeartbeats 1000000 in
theorem trod_pred : ∀ (fuel : Nat) (cs : List Value) (x : DataW H × List MemPlace), DataW.trod enc Tryd.prog w base spare held fuel 27 cs = some x → ∃ (t : T) (u : Value), cs = t.cs u ∧ RdT (fun _ => True) w t u ∧ T.All T.wf1 t := by
  intro fuel
  induction fuel using Nat.strongRecOn with
  | _ fuel ih =>
  intro cs x h
  obtain ⟨y0, y1, y2, y3, y4, n, rfl, hl, h0, h1, h2, h3, h4⟩ := trod_struct5 Tryd.underlying27 h
  have hl7 : cs.length = 7 := hl.trans (by kernel_rfl)
  have e3 : Tryd.prog.cellsOf 3 = 1 := by kernel_rfl
  have ev : Tryd.prog.cellsOf 24 = 3 := by kernel_rfl
  have es : Tryd.prog.cellsOf 25 = 1 := by kernel_rfl
  have ep : Tryd.prog.cellsOf 27 = 7 := by kernel_rfl
  clear h
  match cs, hl7 with
  | [c0, c1, c2, c3, c4, c5, c6], _ =>
    simp only [e3, ev, es, List.drop_zero, List.drop_succ_cons, List.take_succ_cons, List.take_zero] at h0 h1 h2 h3 h4
    obtain ⟨k, hk, _, wk⟩ := DataW.trod_int Tryd.underlying3 h0
    obtain ⟨c, hc, _, wc⟩ := DataW.trod_int Tryd.underlying3 h1
    obtain ⟨o, ho, _, wo⟩ := DataW.trod_int Tryd.underlying3 h2
    obtain ⟨v, hv, wv⟩ := trod_val h3
    simp only [List.cons.injEq, and_true] at hk hc ho
    subst hk hc ho
    obtain ⟨t, m, s⟩ := v
    simp only [V.cs, List.cons.injEq, and_true] at hv
    obtain ⟨rfl, rfl, rfl⟩ := hv
    rcases DataW.trod_slice Tryd.underlying25 h4 with ⟨hcs, _⟩ | ⟨a, len, cap, elems, rest, n', hn, hcs, _, hb, hle, hmx, hel, hall, _, _⟩
    · simp only [List.cons.injEq, and_true] at hcs
      subst hcs
      refine ⟨.mk k c o ⟨t, m, s⟩ [], _, rfl, ?_, ?_⟩
      · rw [RdT_def]
        exact ⟨none, 0, rfl, Nat.zero_le _, .inl rfl⟩
      · rw [T.all_iff]
        exact ⟨⟨wk, wc, wo, wv⟩, fun x hx => by cases hx⟩
    · simp only [List.cons.injEq, and_true] at hcs
      subst hcs
      have key : ∀ i, i < len → ∃ (y : T) (u : Value), (∀ j z, (y.cs u)[j]? = some z → w.cell? (a.add (i * 7 + j)) = some z) ∧ RdT (fun _ => True) w y u ∧ T.All T.wf1 y := by
        intro i hi
        have h5 := hall i hi
        rw [List.getElem?_eq_getElem (by omega)] at h5
        obtain ⟨cs', h6, h7⟩ := Option.bind_eq_some_iff.1 h5
        obtain ⟨y, u, rfl, hr, hw⟩ := ih n' (by omega) _ _ h7
        refine ⟨y, u, fun j z hz => ?_, hr, hw⟩
        obtain ⟨_, hcl, hat⟩ := World.cells?_some h6
        have hj : j < Tryd.prog.cellsOf 27 := by
          rw [ep]
          exact (List.getElem?_eq_some_iff.1 hz).1
        have := hat j hj
        rw [hz, Go.Deep.add_add, ep] at this
        exact this
      obtain ⟨l, hll, hcell⟩ := pick_trees (P := fun i y => ∃ u : Value, (∀ j z, (y.cs u)[j]? = some z → w.cell? (a.add (i * 7 + j)) = some z) ∧ RdT (fun _ => True) w y u ∧ T.All T.wf1 y) len key
      refine ⟨.mk k c o ⟨t, m, s⟩ l, _, rfl, ?_, ?_⟩
      · rw [RdT_def]
        refine ⟨some a, cap, by show _ = Value.slice (some a) l.length cap; rw [hll], by show l.length ≤ _; omega, ?_⟩
        show l.length = 0 ∨ _
        by_cases hz : l.length = 0
        · exact .inl hz
        · right
          obtain ⟨b, off, spot⟩ := a
          obtain ⟨u0, hc0, _, _⟩ := hcell 0 (by omega)
          have hspot : spot = none := by simpa [Addr.add] using World.cell?_spot (hc0 0 _ rfl)
          subst hspot
          refine ⟨b, off, rfl, trivial, ?_⟩
          show RdTs _ w l b off
          rw [RdTs_iff]
          intro i hi
          obtain ⟨u, h1, h2, _⟩ := hcell i (by omega)
          refine ⟨u, fun j z hz => ?_, h2⟩
          have := h1 j z hz
          rw [addr_add] at this
          rw [Nat.add_assoc]
          exact this
      · rw [T.all_iff]
        refine ⟨⟨wk, wc, wo, wv⟩, fun x hx => ?_⟩
        obtain ⟨i, hi, rfl⟩ := List.getElem_of_mem hx
        obtain ⟨u, _, _, h3⟩ := hcell i (by rw [← hll]; exact hi)
        have e : l.getD i T.zero = l[i] := by
          have hi2 : i < l.length := hi
          simp [hi2]
          rfl
        rw [e] at h3
        exact h3
end

end Go.Proofs.YtafoldpmodipaaaDoor

/- The laws' own helpers over Preds: szPred, szPredS, eqPred, eqPredS. -/
namespace Go.Proofs.YtafoldpmodipaaaDoor
open Go.RowKit

theorem T.bulks_take {l : List T} {k : Nat} (hk : k < l.length) : T.bulks (l.take (k + 1)) = T.bulks (l.take k) + (l.getD k T.zero).bulk := by
  have e : l.getD k T.zero = l[k] := by simp [hk]
  rw [e, List.take_succ_eq_append_getElem hk, T.bulks_append]
  simp [T.bulks]
theorem T.bulk_def (t : T) : t.bulk = t.v.s.size + 1 + T.bulks t.l := by
  obtain ⟨k, c, o, v, l⟩ := t
  rw [T.bulk]
  rfl
/-- Texts that are not too long. -/
def T.Small (t : T) : Prop := T.All (fun x => x.v.s.size ≤ maxLen) t
theorem T.Small.self {t : T} (h : t.Small) : t.v.s.size ≤ maxLen := (T.all_iff.1 h).1
theorem T.Small.kid {t : T} (h : t.Small) {k : Nat} (hk : k < t.l.length) : (t.l.getD k T.zero).Small := (T.all_iff.1 h).2 _ (kid_mem hk)

/-- What szPred says. -/
def SzT (Q : Nat → Prop) (t : T) : Prop := ∀ (u : Value) (left : Int) (w : World), t.Small → RdT Q w t u → 0 ≤ left → left ≤ 1048576 →
  Calls Tryd.prog 24 #[t.agg u, .int .i64 left] w fun e w' => ∃ r : Int, e = .returned (.int .i64 r) ∧ (r < 0 ∨ (0 ≤ r ∧ (t.bulk : Int) ≤ left - r + 1)) ∧ Below w.heap.size w w'

set_option maxHeartbeats 1000000 in
theorem szPredS {Q : Nat → Prop} (t : T) (ih : ∀ x ∈ t.l, SzT Q x) (u : Value) (left : Int) (w : World) (hs : t.Small) (h : RdT Q w t u) (h0 : 0 ≤ left) (h1 : left ≤ 1048576) :
    Calls Tryd.prog 49 #[u, .int .i64 left] w fun e w' => ∃ r : Int, e = .returned (.int .i64 r) ∧ (r < 0 ∨ (0 ≤ r ∧ (T.bulks t.l : Int) ≤ left - r)) ∧ Below w.heap.size w w' := by
  have HB := Lib.hid (fun k (hk : k < t.l.length) => T.bulks_take hk)
  have HI := Lib.hid (fun k (hk : k < t.l.length) => ih _ (kid_mem hk))
  have HS := Lib.hid (fun k (hk : k < t.l.length) => hs.kid hk)
  have HA : Hid (T.bulks t.l = T.bulks (t.l.take t.l.length)) := by
    show _ = _
    rw [List.take_length]
  have HZ : Hid (T.bulks (t.l.take 0) = 0) := by
    show _ = _
    rw [List.take_zero, T.bulks]
  generalize hl : t.l.length = n at HB HI HS HA
  obtain ⟨a, cap, rfl, hle, HC⟩ := h.kids hl
  unfold maxLen at hle
  rw [HA.out]
  clear h hl hs ih HA
  by_cases hbig : left - (n : Int) < 0
  · go_enter Tryd.func49, Tryd.ntmps49
    go_wp2
    go_ret
    exact ⟨_, rfl, .inl (by omega), Below.refl _ _⟩
  · go_enter Tryd.func49, Tryd.ntmps49
    go_wp2
    go_loopw [1, 5] (fun r i wr => ∃ (k : Nat) (z : Int), k ≤ n ∧ 0 ≤ z ∧ z ≤ left ∧ ((n : Int) - k) + T.bulks (t.l.take k) ≤ left - z ∧ r = .int .i64 z ∧ i = .int .i64 k ∧ Below w.heap.size w wr) (fun _ i _ => n - (intOf i).toNat)
    case atStart => exact ⟨0, _, Nat.zero_le _, by omega, by omega, by rw [HZ.out]; omega, rfl, rfl, Below.refl _ _⟩
    case round =>
      obtain ⟨k, z, hk, hz0, hz1, hzb, rfl, rfl, hbr⟩ := hrel
      by_cases hkl : k < n
      · obtain ⟨b, off, u', rfl, hr, c0, c1, c2, c3, c4, c5, c6⟩ := HC.out k hkl wr hbr
        have HX := Lib.hid (HI.out k hkl u' z wr (HS.out k hkl) hr hz0 (by omega))
        have HBK := Lib.hid (HB.out k hkl)
        clear hr
        generalize t.l.getD k T.zero = x at c0 c1 c2 c3 c4 c5 HX HBK
        obtain ⟨xk, xc, xo, ⟨xt, xn, xs⟩, xl⟩ := x
        simp only [T.kind, T.col, T.op, T.v] at c0 c1 c2 c3 c4 c5
        go_wp2_with fail
        refine HX.out.mono ?_
        rintro e w2 ⟨r, rfl, hr, hb2⟩
        have B2 := below_then hbr hb2 hbr.size
        clear HX hb2 c0 c1 c2 c3 c4 c5 c6
        by_cases hneg : r < 0
        · go_wp2
          go_ret
          exact ⟨_, rfl, .inl (by omega), B2⟩
        · have hr2 := hr.resolve_left hneg
          clear hr
          go_wp2
          go_roundw
          case rel => exact ⟨k + 1, _, by omega, by omega, by omega, by rw [HBK.out]; omega, rfl, by go_num, B2⟩
          case measure => simp [intOf]; omega
      · obtain rfl : k = n := by omega
        go_wp2
        go_ret
        exact ⟨_, rfl, .inr ⟨hz0, by omega⟩, hbr⟩

set_option maxHeartbeats 1000000 in
theorem szPred {Q : Nat → Prop} : ∀ t : T, SzT Q t := by
  refine T.induct (fun t ih => ?_)
  intro u left w hs h h0 h1
  have HB := T.bulk_def t
  have B0 := below_alloc w (.cells (t.cs u).toArray 27)
  have C0 := blk_new w (t.cs u) 27
  have HV := Lib.hid (fun W => szVal t.v left W h0 h1 hs.self)
  have HE : Hid (0 ≤ szV t.v left → szV t.v left = left - t.v.s.size) := fun h => by
    unfold szV at h ⊢
    split
    · rename_i h2
      rw [if_pos h2] at h
      omega
    · rfl
  have HS := Lib.hid (fun (z : Int) W (hb : Below w.heap.size w W) (h0 : 0 ≤ z) (h1 : z ≤ 1048576) => szPredS t ih u z W hs (h.below hb) h0 h1)
  generalize szV t.v left = z at HV HE
  generalize T.bulks t.l = bl at HB HS
  generalize t.bulk = bt at HB ⊢
  clear h hs ih
  obtain ⟨k, c, o, ⟨vt, vn, vs⟩, l⟩ := t
  simp only [T.kind, T.col, T.op, T.v, T.cs] at HV HE HB B0 C0 ⊢
  have HBB := Lib.hid HB
  clear HB
  go_enter Tryd.func24, Tryd.ntmps24
  go_wp2_with fail
  refine (HV.out _).mono ?_
  rintro e w1 ⟨rfl, b1⟩
  have B1 := below_then B0 b1 B0.size
  have c6 := (C0.below b1 6 _ rfl).1
  clear b1 HV C0 B0
  by_cases hneg : z < 0
  · clear c6
    go_wp2
    go_ret
    exact ⟨_, rfl, .inl (by omega), B1⟩
  · have hz := Lib.hid (HE.out (by omega))
    have hz1 : z ≤ 1048576 := by
      have := hz.out
      omega
    clear HE
    go_wp2_with fail
    refine (HS.out z _ B1 (by omega) hz1).mono ?_
    rintro e w2 ⟨r, rfl, hr, b2⟩
    have B2 := below_then B1 b2 B1.size
    clear b2 HS c6
    by_cases hneg2 : r < 0
    · go_wp2
      go_ret
      exact ⟨_, rfl, .inl (by omega), B2⟩
    · have hr2 := hr.resolve_left hneg2
      clear hr
      go_wp2
      go_ret
      exact ⟨_, rfl, .inr ⟨by omega, by have := HBB.out; have := hz.out; omega⟩, B2⟩

end Go.Proofs.YtafoldpmodipaaaDoor

/- The model's l11Count, l11Deep, PredOk (written by mk_S11p.py). -/
namespace Go.Proofs.YtafoldpmodipaaaDoor
open Go.RowKit

set_option maxHeartbeats 2000000 in
theorem sCount : ∀ (t : T) (Q : Nat → Prop) (u : Value) (w : World), t.bulk ≤ 1073741824 → RdT Q w t u →
    Calls Tryd.prog 59 #[t.agg u] w fun e w' => e = .returned (.int .i64 (t.count : Nat)) ∧ Below w.heap.size w w' := by
  refine T.induct (fun t ih => ?_)
  intro Q u w hbk h
  have HD := Lib.hid (T.count_def t)
  have HBB : Hid (∀ q, q < t.l.length → (t.l.getD q T.zero).bulk ≤ 1073741824) := fun q hq => by
    have := T.bulk_child (kid_mem hq)
    omega
  have HI := Lib.hid (fun q (hq : q < t.l.length) Q' u' W (hr : RdT Q' W (t.l.getD q T.zero) u') => ih _ (kid_mem hq) Q' u' W (HBB.out q hq) hr)
  have HT := Lib.hid (fun q (hq : q < t.l.length) => T.counts_take hq)
  have HLE : Hid (∀ q, q ≤ t.l.length → T.counts (t.l.take q) ≤ 1073741824) := fun q _ => by
    have h1 := T.count_le_bulk t
    have h2 := T.count_def t
    have h3 : T.counts (t.l.take q) ≤ T.counts t.l := by
      have := T.counts_append (t.l.take q) (t.l.drop q)
      rw [List.take_append_drop] at this
      omega
    show _ ≤ _
    omega
  have H0 : Hid (T.counts (t.l.take 0) = 0) := by
    show _ = _
    rw [List.take_zero, T.counts]
  have HA : Hid (T.counts t.l = T.counts (t.l.take t.l.length)) := by
    show _ = _
    rw [List.take_length]
  generalize hl : t.l.length = n at HI HT HLE HA
  obtain ⟨a, cap, rfl, hle, HC⟩ := h.kids hl
  unfold maxLen at hle
  generalize t.count = res at HD ⊢
  clear h hl ih hbk HBB
  obtain ⟨k, c, o, ⟨vt, vn, vs⟩, l⟩ := t
  simp only [T.agg, T.kind, T.col, T.op, T.v, T.l] at HD HI HT HLE HA H0 HC ⊢
  rw [HA.out] at HD
  have B0 := below_alloc w (.cells #[.int .i64 k, .int .i64 c, .int .i64 o, .int .i64 vt, .int .i64 vn, .string vs, .slice a n cap] 36)
  have C0 := blk_new w [.int .i64 k, .int .i64 c, .int .i64 o, .int .i64 vt, .int .i64 vn, .string vs, .slice a n cap] 36
  generalize hw0 : w.alloc (.cells #[.int .i64 k, .int .i64 c, .int .i64 o, .int .i64 vt, .int .i64 vn, .string vs, .slice a n cap] 36) = w0 at B0 C0
  have HW0 := Lib.hid hw0
  clear hw0
  have HK : Hid (∀ W, Below w0.heap.size w0 W → W.cell? ⟨w.heap.size, 0, none⟩ = some (.int .i64 k) ∧ W.cell? ⟨w.heap.size, 1, none⟩ = some (.int .i64 c) ∧ W.cell? ⟨w.heap.size, 2, none⟩ = some (.int .i64 o) ∧ W.cell? ⟨w.heap.size, 3, none⟩ = some (.int .i64 vt) ∧ W.cell? ⟨w.heap.size, 4, none⟩ = some (.int .i64 vn) ∧ W.cell? ⟨w.heap.size, 5, none⟩ = some (.string vs) ∧ W.cell? ⟨w.heap.size, 6, none⟩ = some (.slice a n cap)) := fun W hW => ⟨(C0.below hW 0 _ rfl).1, (C0.below hW 1 _ rfl).1, (C0.below hW 2 _ rfl).1, (C0.below hW 3 _ rfl).1, (C0.below hW 4 _ rfl).1, (C0.below hW 5 _ rfl).1, (C0.below hW 6 _ rfl).1⟩
  have HB0 := Lib.hid (Below.refl w0.heap.size w0)
  clear C0
  go_enter Tryd.func59, Tryd.ntmps59
  go_wp2
  rw [HW0.out]
  go_loopw [3, 4] (fun s i wr => ∃ q : Nat, q ≤ n ∧ i = .int .i64 q ∧ s = .int .i64 ((1 + T.counts (l.take q) : Nat) : Int) ∧ Below w0.heap.size w0 wr) (fun _ i _ => n - (intOf i).toNat)
  case atStart => exact ⟨0, Nat.zero_le _, rfl, by rw [H0.out]; rfl, HB0.out⟩
  case round =>
    obtain ⟨q, hq, rfl, rfl, hbr⟩ := hrel
    obtain ⟨p0, p1, p2, p3, p4, p5, p6⟩ := HK.out wr hbr
    have hcb := HLE.out q hq
    by_cases hlt : q < n
    · obtain ⟨b, off, u', rfl, hr, c0, c1, c2, c3, c4, c5, c6⟩ := HC.out q hlt wr (below_then B0 hbr B0.size)
      have HX := Lib.hid (HI.out q hlt _ u' wr hr)
      have HTT := Lib.hid (HT.out q hlt)
      have hcb2 := HLE.out (q + 1) hlt
      rw [HTT.out] at hcb2
      generalize (l.getD q T.zero).count = r at HX HTT hcb2
      generalize l.getD q T.zero = x at c0 c1 c2 c3 c4 c5 HX
      obtain ⟨xk, xc, xo, ⟨xt, xn, xs⟩, xl⟩ := x
      simp only at c0 c1 c2 c3 c4 c5 HX
      generalize T.counts (l.take q) = ct at HTT hcb hcb2 ⊢
      clear hr HI
      go_wp2_with fail
      refine HX.out.mono ?_
      rintro e w2 ⟨rfl, b2⟩
      have B2 := below_then hbr b2 hbr.size
      clear HX b2 hbr p0 p1 p2 p3 p4 p5 p6 c0 c1 c2 c3 c4 c5 c6
      go_wp2
      go_roundw
      case rel => exact ⟨q + 1, by omega, by go_num, by rw [HTT.out]; go_num, B2⟩
      case measure => simp [intOf]; omega
    · obtain rfl : q = n := by omega
      go_wp2
      go_ret
      exact ⟨by rw [HD.out]; rfl, below_then B0 hbr B0.size⟩

theorem T.own_1 {cols : List Int} {t : T} (h : t.kind = 1) : t.own cols = (t.bare && t.l.length == 0) := by
  rw [T.own, if_pos h]
theorem T.own_2 {cols : List Int} {t : T} (h : t.kind = 2) : t.own cols = (Num.inB t.col 0 ((cols.length : Int) - 1) && (okV t.v && (t.v.ty == cols.getD t.col.toNat 0 && (Num.inB t.op 1 6 && t.l.length == 0)))) := by
  rw [T.own, if_neg (by omega), if_pos h]
theorem T.own_34 {cols : List Int} {t : T} (h : t.kind = 3 ∨ t.kind = 4) : t.own cols = (t.bare && Num.inB t.l.length 1 4) := by
  rw [T.own, if_neg (by omega), if_neg (by omega), if_pos h]
theorem T.own_5 {cols : List Int} {t : T} (h1 : ¬ t.kind = 1) (h2 : ¬ t.kind = 2) (h3 : ¬ t.kind = 3) (h4 : ¬ t.kind = 4) : t.own cols = (t.kind == 5 && (t.bare && t.l.length == 1)) := by
  rw [T.own, if_neg h1, if_neg h2, if_neg (by omega)]

/-- What l11Deep says. -/
def DeT (cols : List Int) (t : T) : Prop := ∀ (Q : Nat → Prop) (u vu : Value) (d : Int) (w : World), t.Small → 0 ≤ d → RdT Q w t u → Rd 1 w vu cols.length (ints .i64 cols) →
    Calls Tryd.prog 58 #[vu, t.agg u, .int .i64 d] w fun e w' => e = .returned (.bool (t.deep cols d)) ∧ Below w.heap.size w w'


end Go.Proofs.YtafoldpmodipaaaDoor

/- The model's l11Deep, but for comparisons (written by mk_S11p.py). -/
namespace Go.Proofs.YtafoldpmodipaaaDoor
open Go.RowKit

set_option maxRecDepth 100000 in
set_option maxHeartbeats 40000000 in
theorem sDeepN (cols : List Int) (t : T) (ih : ∀ x ∈ t.l, DeT cols x) (hk : ¬ t.kind = 2) : DeT cols t := by
  intro Q u vu d w hs hd h hv
  have HD := Lib.hid (T.deep_def cols t d)
  have HI := Lib.hid (fun q (hq : q < t.l.length) Q' u' W (hr : RdT Q' W (t.l.getD q T.zero) u') (hW : Below w.heap.size w W) => ih _ (kid_mem hq) Q' u' vu (d + 1) W (hs.kid hq) (by omega) hr (hv.below hW))
  have HAT := Lib.hid (fun (h : ∀ q, q < t.l.length → (fun x : T => x.deep cols (d + 1)) (t.l.getD q T.zero) = true) => all_of (l := t.l) (f := fun x : T => x.deep cols (d + 1)) h)
  have HAF := Lib.hid (fun q (hq : q < t.l.length) (h : (fun x : T => x.deep cols (d + 1)) (t.l.getD q T.zero) = false) => all_not (l := t.l) (f := fun x : T => x.deep cols (d + 1)) hq h)
  have HO1 := Lib.hid (T.own_1 (cols := cols) (t := t))
  have HO2 := Lib.hid (T.own_2 (cols := cols) (t := t))
  have HO3 := Lib.hid (T.own_34 (cols := cols) (t := t))
  have HO5 := Lib.hid (T.own_5 (cols := cols) (t := t))
  have HBA : Hid (t.bare = (t.col == 0 && (t.op == 0 && t.v.eqB ⟨0, 0, ⟨#[]⟩⟩))) := rfl
  have HVO := Lib.hid (fun W => sValOk t.v W hs.self)
  generalize hl : t.l.length = n at HI HAT HAF HO1 HO2 HO3 HO5
  obtain ⟨a, cap, rfl, hle, HC⟩ := h.kids hl
  generalize hm : cols.length = m at hv HO2
  obtain ⟨va, vcap, rfl, hvm, HVC⟩ := hv.ints hm
  have HRV := Lib.hid (fun W (hW : Below w.heap.size w W) => hv.below hW)
  unfold maxLen at hle hvm
  generalize t.deep cols d = res at HD ⊢
  generalize t.own cols = own at HD HO1 HO2 HO3 HO5
  generalize t.bare = bare at HBA HO1 HO3 HO5
  have HKI := Lib.hid hk
  clear hk
  clear h hl ih hm hs
  obtain ⟨k, c, o, ⟨vt, vn, vs⟩, l⟩ := t
  simp only [T.agg, T.kind, T.col, T.op, T.v, T.l] at HD HI HAT HAF HO1 HO2 HO3 HO5 HBA HVO HC HKI ⊢
  have B0 := below_alloc w (.cells #[.int .i64 k, .int .i64 c, .int .i64 o, .int .i64 vt, .int .i64 vn, .string vs, .slice a n cap] 36)
  have C0 := blk_new w [.int .i64 k, .int .i64 c, .int .i64 o, .int .i64 vt, .int .i64 vn, .string vs, .slice a n cap] 36
  generalize hw0 : w.alloc (.cells #[.int .i64 k, .int .i64 c, .int .i64 o, .int .i64 vt, .int .i64 vn, .string vs, .slice a n cap] 36) = w0 at B0 C0
  have HW0 := Lib.hid hw0
  clear hw0
  have HK : Hid (∀ W, Below w0.heap.size w0 W → W.cell? ⟨w.heap.size, 0, none⟩ = some (.int .i64 k) ∧ W.cell? ⟨w.heap.size, 1, none⟩ = some (.int .i64 c) ∧ W.cell? ⟨w.heap.size, 2, none⟩ = some (.int .i64 o) ∧ W.cell? ⟨w.heap.size, 3, none⟩ = some (.int .i64 vt) ∧ W.cell? ⟨w.heap.size, 4, none⟩ = some (.int .i64 vn) ∧ W.cell? ⟨w.heap.size, 5, none⟩ = some (.string vs) ∧ W.cell? ⟨w.heap.size, 6, none⟩ = some (.slice a n cap)) := fun W hW => ⟨(C0.below hW 0 _ rfl).1, (C0.below hW 1 _ rfl).1, (C0.below hW 2 _ rfl).1, (C0.below hW 3 _ rfl).1, (C0.below hW 4 _ rfl).1, (C0.below hW 5 _ rfl).1, (C0.below hW 6 _ rfl).1⟩
  have HB0 := Lib.hid (Below.refl w0.heap.size w0)
  clear C0
  by_cases hbig : 4 < d
  · have HE : Hid (res = false) := by
      show _ = _
      rw [HD.out, decide_eq_false (by omega)]
      rfl
    clear HD HI HAT HAF HO1 HO2 HO3 HO5 HBA HVO HC HVC HRV hv
    go_enter Tryd.func58, Tryd.ntmps58
    go_wp2
    rw [HW0.out]
    go_ret
    exact ⟨ret_bool HE.out.symm, B0⟩
  have HD2 : Hid (res = (l.all (fun x => x.deep cols (d + 1)) && own)) := by
    show _ = _
    rw [HD.out, decide_eq_true (by omega), Bool.true_and]
  clear HD hv HRV
  go_enter Tryd.func58, Tryd.ntmps58
  go_wp2
  rw [HW0.out]
  go_loopw [7] (fun i wr => ∃ q : Nat, q ≤ n ∧ i = .int .i64 q ∧ (∀ j, j < q → (fun x : T => x.deep cols (d + 1)) (l.getD j T.zero) = true) ∧ Below w0.heap.size w0 wr) (fun i _ => n - (intOf i).toNat)
  case atStart => exact ⟨0, Nat.zero_le _, rfl, fun j hj => by omega, HB0.out⟩
  case round =>
    obtain ⟨q, hq, rfl, hpre, hbr⟩ := hrel
    have HPRE := Lib.hid hpre
    clear hpre
    obtain ⟨p0, p1, p2, p3, p4, p5, p6⟩ := HK.out wr hbr
    by_cases hlt : q < n
    · obtain ⟨b, off, u', rfl, hr, c0, c1, c2, c3, c4, c5, c6⟩ := HC.out q hlt wr (below_then B0 hbr B0.size)
      have HX := Lib.hid (HI.out q hlt _ u' wr hr (below_then B0 hbr B0.size))
      have HNX : Hid ((l.getD q T.zero).deep cols (d + 1) = false → res = false) := fun e => by
        rw [HD2.out, HAF.out q hlt e]
        rfl
      have HSX : Hid ((l.getD q T.zero).deep cols (d + 1) = true → ∀ j, j < q + 1 → (fun x : T => x.deep cols (d + 1)) (l.getD j T.zero) = true) := fun e j hj => by
        by_cases hjq : j = q
        · subst hjq; exact e
        · exact HPRE.out j (by omega)
      generalize (l.getD q T.zero).deep cols (d + 1) = r at HX HNX HSX
      generalize l.getD q T.zero = x at c0 c1 c2 c3 c4 c5 HX
      obtain ⟨xk, xc, xo, ⟨xt, xn, xs⟩, xl⟩ := x
      simp only at c0 c1 c2 c3 c4 c5 HX
      clear hr HPRE HI HO1 HO2 HO3 HO5 HBA HVO HVC
      cases r with
      | false =>
        have HN2 := Lib.hid (HNX.out rfl)
        go_wp2_with fail
        refine HX.out.mono ?_
        rintro e w2 ⟨rfl, b2⟩
        have B2 := below_then (below_then B0 hbr B0.size) b2 (by have := B0.size; have := hbr.size; omega)
        go_wp2
        go_ret
        exact ⟨ret_bool HN2.out.symm, B2⟩
      | true =>
        have HS2 := Lib.hid (HSX.out rfl)
        go_wp2_with fail
        refine HX.out.mono ?_
        rintro e w2 ⟨rfl, b2⟩
        have B2 := below_then hbr b2 hbr.size
        clear HX HNX HSX b2 hbr p0 p1 p2 p3 p4 p5 p6 c0 c1 c2 c3 c4 c5 c6
        go_wp2
        go_roundw
        case rel => exact ⟨q + 1, by omega, by go_num, HS2.out, B2⟩
        case measure => simp [intOf]; omega
    · obtain rfl : q = n := by omega
      have HE0 : Hid (res = own) := by
        show _ = _
        rw [HD2.out, HAT.out (fun j hj => HPRE.out j hj), Bool.true_and]
      have BR := below_then B0 hbr B0.size
      have HQ := Lib.hid (fun W => run_eql_val ⟨vt, vn, vs⟩ ⟨0, 0, ⟨#[]⟩⟩ W)
      have HIO : Hid (∀ W, Calls Tryd.prog 31 #[.int .i64 o, .int .i64 1, .int .i64 6] W fun e w' => e = .returned (.bool (Num.inB o 1 6)) ∧ W = w') := fun W => l1In o 1 6 W
      have HIC : Hid (∀ W, Calls Tryd.prog 31 #[.int .i64 c, .int .i64 0, .int .i64 ((m : Int) - 1)] W fun e w' => e = .returned (.bool (Num.inB c 0 ((m : Int) - 1))) ∧ W = w') := fun W => l1In c 0 _ W
      have HIL : Hid (∀ W, Calls Tryd.prog 31 #[.int .i64 (q : Int), .int .i64 1, .int .i64 4] W fun e w' => e = .returned (.bool (Num.inB q 1 4)) ∧ W = w') := fun W => l1In q 1 4 W
      obtain ⟨nz, hnz⟩ : ∃ z, (q == 0) = z := ⟨_, rfl⟩
      have hnzi : ((q : Int) == 0) = nz := by
        rw [← hnz]
        exact Bool.eq_iff_iff.2 (by simp)
      obtain ⟨n1, hn1⟩ : ∃ z, (q == 1) = z := ⟨_, rfl⟩
      have hn1i : ((q : Int) == 1) = n1 := by
        rw [← hn1]
        exact Bool.eq_iff_iff.2 (by simp; omega)
      rw [hnz] at HO1 HO2
      rw [hn1] at HO5
      clear HPRE HD2 HAT HAF HI HC hnz hn1 HB0 hlt hq hle
      have HBV : Hid (bare = (c == 0 && (o == 0 && V.eqB ⟨vt, vn, vs⟩ ⟨0, 0, ⟨#[]⟩⟩))) := HBA.out
      clear HBA
      generalize V.eqB ⟨vt, vn, vs⟩ ⟨0, 0, ⟨#[]⟩⟩ = vb0 at HBV HQ
      have hqv := HQ.out
      clear HQ
      have h3 : ((c == 0) = false ∧ Hid (bare = false)) ∨ ((c == 0) = true ∧ (o == 0) = false ∧ Hid (bare = false)) ∨ ((c == 0) = true ∧ (o == 0) = true ∧ Hid (bare = vb0)) := by
        cases hcb : (c == 0)
        · exact .inl ⟨rfl, by show _ = _; rw [HBV.out, hcb]; rfl⟩
        · cases hob : (o == 0)
          · exact .inr (.inl ⟨rfl, rfl, by show _ = _; rw [HBV.out, hcb, hob]; rfl⟩)
          · exact .inr (.inr ⟨rfl, rfl, by show _ = _; rw [HBV.out, hcb, hob]; rfl⟩)
      clear HBV
      by_cases k2 : k = 2
      · exact absurd k2 HKI.out
      have j2 : (k == 2) = false := by simp [k2]
      rcases h3 with ⟨hcb, HB3⟩ | ⟨hcb, hob, HB3⟩ | ⟨hcb, hob, HB3⟩
      all_goals cases vb0
      all_goals
        by_cases k1 : k = 1
        · have HE : Hid (res = (bare && nz)) := HE0.out.trans (HO1.out k1)
          rw [HB3.out] at HE
          subst k1
          clear HE0 HO1 HO2 HO3 HO5 HB3 HVO HVC HIO HIC HIL HK hn1i
          go_wp2
          go_ret
          exact ⟨ret_bool (by rw [HE.out]; rfl), BR⟩
        have j1 : (k == 1) = false := by simp [k1]
        by_cases k34 : k = 3 ∨ k = 4
        · have HE : Hid (res = (bare && Num.inB q 1 4)) := HE0.out.trans (HO3.out k34)
          rw [HB3.out] at HE
          clear HE0 HO1 HO2 HO3 HO5 HB3 HVO HVC HIO HIC HK hn1i hnzi k1 k2
          generalize Num.inB q 1 4 = i4 at HE HIL
          rcases k34 with rfl | rfl
          all_goals
            go_wp2_with (go_at_call 31; refine (HIL.out _).mono ?_; rintro e w' ⟨rfl, rfl⟩)
            go_ret
            exact ⟨ret_bool (by rw [HE.out]; rfl), BR⟩
        have HE : Hid (res = (k == 5 && (bare && n1))) := HE0.out.trans (HO5.out k1 k2 (fun e => k34 (.inl e)) (fun e => k34 (.inr e)))
        rw [HB3.out] at HE
        have j3 : (k == 3) = false := by simp; omega
        have j4 : (k == 4) = false := by simp; omega
        clear HE0 HO1 HO2 HO3 HO5 HB3 HVO HVC HIO HIC HIL HK hnzi k1 k2 k34
        cases hk5 : (k == 5)
        all_goals
          rw [hk5] at HE
          go_wp2
          go_ret
          exact ⟨ret_bool (by rw [HE.out]; rfl), BR⟩

end Go.Proofs.YtafoldpmodipaaaDoor

/- The model's l11Deep, for a comparison with a value that is not right (written by mk_S11p.py). -/
namespace Go.Proofs.YtafoldpmodipaaaDoor
open Go.RowKit

set_option maxRecDepth 100000 in
set_option maxHeartbeats 40000000 in
theorem sDeepF (cols : List Int) (t : T) (ih : ∀ x ∈ t.l, DeT cols x) (hk : t.kind = 2) (hok0 : okV t.v = false) : DeT cols t := by
  intro Q u vu d w hs hd h hv
  have HD := Lib.hid (T.deep_def cols t d)
  have HI := Lib.hid (fun q (hq : q < t.l.length) Q' u' W (hr : RdT Q' W (t.l.getD q T.zero) u') (hW : Below w.heap.size w W) => ih _ (kid_mem hq) Q' u' vu (d + 1) W (hs.kid hq) (by omega) hr (hv.below hW))
  have HAT := Lib.hid (fun (h : ∀ q, q < t.l.length → (fun x : T => x.deep cols (d + 1)) (t.l.getD q T.zero) = true) => all_of (l := t.l) (f := fun x : T => x.deep cols (d + 1)) h)
  have HAF := Lib.hid (fun q (hq : q < t.l.length) (h : (fun x : T => x.deep cols (d + 1)) (t.l.getD q T.zero) = false) => all_not (l := t.l) (f := fun x : T => x.deep cols (d + 1)) hq h)
  have HO1 := Lib.hid (T.own_1 (cols := cols) (t := t))
  have HO2 := Lib.hid (T.own_2 (cols := cols) (t := t))
  have HO3 := Lib.hid (T.own_34 (cols := cols) (t := t))
  have HO5 := Lib.hid (T.own_5 (cols := cols) (t := t))
  have HBA : Hid (t.bare = (t.col == 0 && (t.op == 0 && t.v.eqB ⟨0, 0, ⟨#[]⟩⟩))) := rfl
  have HVO := Lib.hid (fun W => sValOk t.v W hs.self)
  generalize hl : t.l.length = n at HI HAT HAF HO1 HO2 HO3 HO5
  obtain ⟨a, cap, rfl, hle, HC⟩ := h.kids hl
  generalize hm : cols.length = m at hv HO2
  obtain ⟨va, vcap, rfl, hvm, HVC⟩ := hv.ints hm
  have HRV := Lib.hid (fun W (hW : Below w.heap.size w W) => hv.below hW)
  unfold maxLen at hle hvm
  generalize t.deep cols d = res at HD ⊢
  generalize t.own cols = own at HD HO1 HO2 HO3 HO5
  generalize t.bare = bare at HBA HO1 HO3 HO5
  have HKI := Lib.hid hk
  have HVAR := Lib.hid hok0
  clear hk hok0
  clear h hl ih hm hs
  obtain ⟨k, c, o, ⟨vt, vn, vs⟩, l⟩ := t
  simp only [T.agg, T.kind, T.col, T.op, T.v, T.l] at HD HI HAT HAF HO1 HO2 HO3 HO5 HBA HVO HC HKI HVAR ⊢
  have B0 := below_alloc w (.cells #[.int .i64 k, .int .i64 c, .int .i64 o, .int .i64 vt, .int .i64 vn, .string vs, .slice a n cap] 36)
  have C0 := blk_new w [.int .i64 k, .int .i64 c, .int .i64 o, .int .i64 vt, .int .i64 vn, .string vs, .slice a n cap] 36
  generalize hw0 : w.alloc (.cells #[.int .i64 k, .int .i64 c, .int .i64 o, .int .i64 vt, .int .i64 vn, .string vs, .slice a n cap] 36) = w0 at B0 C0
  have HW0 := Lib.hid hw0
  clear hw0
  have HK : Hid (∀ W, Below w0.heap.size w0 W → W.cell? ⟨w.heap.size, 0, none⟩ = some (.int .i64 k) ∧ W.cell? ⟨w.heap.size, 1, none⟩ = some (.int .i64 c) ∧ W.cell? ⟨w.heap.size, 2, none⟩ = some (.int .i64 o) ∧ W.cell? ⟨w.heap.size, 3, none⟩ = some (.int .i64 vt) ∧ W.cell? ⟨w.heap.size, 4, none⟩ = some (.int .i64 vn) ∧ W.cell? ⟨w.heap.size, 5, none⟩ = some (.string vs) ∧ W.cell? ⟨w.heap.size, 6, none⟩ = some (.slice a n cap)) := fun W hW => ⟨(C0.below hW 0 _ rfl).1, (C0.below hW 1 _ rfl).1, (C0.below hW 2 _ rfl).1, (C0.below hW 3 _ rfl).1, (C0.below hW 4 _ rfl).1, (C0.below hW 5 _ rfl).1, (C0.below hW 6 _ rfl).1⟩
  have HB0 := Lib.hid (Below.refl w0.heap.size w0)
  clear C0
  by_cases hbig : 4 < d
  · have HE : Hid (res = false) := by
      show _ = _
      rw [HD.out, decide_eq_false (by omega)]
      rfl
    clear HD HI HAT HAF HO1 HO2 HO3 HO5 HBA HVO HC HVC HRV hv
    go_enter Tryd.func58, Tryd.ntmps58
    go_wp2
    rw [HW0.out]
    go_ret
    exact ⟨ret_bool HE.out.symm, B0⟩
  have HD2 : Hid (res = (l.all (fun x => x.deep cols (d + 1)) && own)) := by
    show _ = _
    rw [HD.out, decide_eq_true (by omega), Bool.true_and]
  clear HD hv HRV
  go_enter Tryd.func58, Tryd.ntmps58
  go_wp2
  rw [HW0.out]
  go_loopw [7] (fun i wr => ∃ q : Nat, q ≤ n ∧ i = .int .i64 q ∧ (∀ j, j < q → (fun x : T => x.deep cols (d + 1)) (l.getD j T.zero) = true) ∧ Below w0.heap.size w0 wr) (fun i _ => n - (intOf i).toNat)
  case atStart => exact ⟨0, Nat.zero_le _, rfl, fun j hj => by omega, HB0.out⟩
  case round =>
    obtain ⟨q, hq, rfl, hpre, hbr⟩ := hrel
    have HPRE := Lib.hid hpre
    clear hpre
    obtain ⟨p0, p1, p2, p3, p4, p5, p6⟩ := HK.out wr hbr
    by_cases hlt : q < n
    · obtain ⟨b, off, u', rfl, hr, c0, c1, c2, c3, c4, c5, c6⟩ := HC.out q hlt wr (below_then B0 hbr B0.size)
      have HX := Lib.hid (HI.out q hlt _ u' wr hr (below_then B0 hbr B0.size))
      have HNX : Hid ((l.getD q T.zero).deep cols (d + 1) = false → res = false) := fun e => by
        rw [HD2.out, HAF.out q hlt e]
        rfl
      have HSX : Hid ((l.getD q T.zero).deep cols (d + 1) = true → ∀ j, j < q + 1 → (fun x : T => x.deep cols (d + 1)) (l.getD j T.zero) = true) := fun e j hj => by
        by_cases hjq : j = q
        · subst hjq; exact e
        · exact HPRE.out j (by omega)
      generalize (l.getD q T.zero).deep cols (d + 1) = r at HX HNX HSX
      generalize l.getD q T.zero = x at c0 c1 c2 c3 c4 c5 HX
      obtain ⟨xk, xc, xo, ⟨xt, xn, xs⟩, xl⟩ := x
      simp only at c0 c1 c2 c3 c4 c5 HX
      clear hr HPRE HI HO1 HO2 HO3 HO5 HBA HVO HVC
      cases r with
      | false =>
        have HN2 := Lib.hid (HNX.out rfl)
        go_wp2_with fail
        refine HX.out.mono ?_
        rintro e w2 ⟨rfl, b2⟩
        have B2 := below_then (below_then B0 hbr B0.size) b2 (by have := B0.size; have := hbr.size; omega)
        go_wp2
        go_ret
        exact ⟨ret_bool HN2.out.symm, B2⟩
      | true =>
        have HS2 := Lib.hid (HSX.out rfl)
        go_wp2_with fail
        refine HX.out.mono ?_
        rintro e w2 ⟨rfl, b2⟩
        have B2 := below_then hbr b2 hbr.size
        clear HX HNX HSX b2 hbr p0 p1 p2 p3 p4 p5 p6 c0 c1 c2 c3 c4 c5 c6
        go_wp2
        go_roundw
        case rel => exact ⟨q + 1, by omega, by go_num, HS2.out, B2⟩
        case measure => simp [intOf]; omega
    · obtain rfl : q = n := by omega
      have HE0 : Hid (res = own) := by
        show _ = _
        rw [HD2.out, HAT.out (fun j hj => HPRE.out j hj), Bool.true_and]
      have BR := below_then B0 hbr B0.size
      have HQ := Lib.hid (fun W => run_eql_val ⟨vt, vn, vs⟩ ⟨0, 0, ⟨#[]⟩⟩ W)
      have HIO : Hid (∀ W, Calls Tryd.prog 31 #[.int .i64 o, .int .i64 1, .int .i64 6] W fun e w' => e = .returned (.bool (Num.inB o 1 6)) ∧ W = w') := fun W => l1In o 1 6 W
      have HIC : Hid (∀ W, Calls Tryd.prog 31 #[.int .i64 c, .int .i64 0, .int .i64 ((m : Int) - 1)] W fun e w' => e = .returned (.bool (Num.inB c 0 ((m : Int) - 1))) ∧ W = w') := fun W => l1In c 0 _ W
      have HIL : Hid (∀ W, Calls Tryd.prog 31 #[.int .i64 (q : Int), .int .i64 1, .int .i64 4] W fun e w' => e = .returned (.bool (Num.inB q 1 4)) ∧ W = w') := fun W => l1In q 1 4 W
      obtain ⟨nz, hnz⟩ : ∃ z, (q == 0) = z := ⟨_, rfl⟩
      have hnzi : ((q : Int) == 0) = nz := by
        rw [← hnz]
        exact Bool.eq_iff_iff.2 (by simp)
      obtain ⟨n1, hn1⟩ : ∃ z, (q == 1) = z := ⟨_, rfl⟩
      have hn1i : ((q : Int) == 1) = n1 := by
        rw [← hn1]
        exact Bool.eq_iff_iff.2 (by simp; omega)
      rw [hnz] at HO1 HO2
      rw [hn1] at HO5
      clear HPRE HD2 HAT HAF HI HC hnz hn1 HB0 hlt hq hle
      have HBV : Hid (bare = (c == 0 && (o == 0 && V.eqB ⟨vt, vn, vs⟩ ⟨0, 0, ⟨#[]⟩⟩))) := HBA.out
      clear HBA
      generalize V.eqB ⟨vt, vn, vs⟩ ⟨0, 0, ⟨#[]⟩⟩ = vb0 at HBV HQ
      have hqv := HQ.out
      clear HQ
      have h3 : ((c == 0) = false ∧ Hid (bare = false)) ∨ ((c == 0) = true ∧ (o == 0) = false ∧ Hid (bare = false)) ∨ ((c == 0) = true ∧ (o == 0) = true ∧ Hid (bare = vb0)) := by
        cases hcb : (c == 0)
        · exact .inl ⟨rfl, by show _ = _; rw [HBV.out, hcb]; rfl⟩
        · cases hob : (o == 0)
          · exact .inr (.inl ⟨rfl, rfl, by show _ = _; rw [HBV.out, hcb, hob]; rfl⟩)
          · exact .inr (.inr ⟨rfl, rfl, by show _ = _; rw [HBV.out, hcb, hob]; rfl⟩)
      clear HBV
      by_cases k2 : k = 2
      · have HE : Hid (res = (Num.inB c 0 ((m : Int) - 1) && (okV ⟨vt, vn, vs⟩ && (vt == cols.getD c.toNat 0 && (Num.inB o 1 6 && nz))))) := HE0.out.trans (HO2.out k2)
        subst k2
        clear HE0 HO1 HO2 HO3 HO5 HIL hn1i
        have hwm : IntKind.i64.wrap ((m : Int) - 1) = (m : Int) - 1 := IntWalk.i64_in _ (by omega)
        cases hin : Num.inB c 0 ((m : Int) - 1) with
        | false =>
          rw [hin] at HE HIC
          have HIN : Hid (∀ W, Calls Tryd.prog 31 #[.int .i64 c, .int .i64 0, .int .i64 ((m : Int) - 1)] W fun e w' => e = .returned (.bool false) ∧ w' = W) := fun W => (HIC.out W).mono (fun _ _ h => ⟨h.1, h.2.symm⟩)
          clear hin HIC HVC HVO HIO
          rcases h3 with ⟨hcb, _⟩ | ⟨hcb, hob, _⟩ | ⟨hcb, hob, _⟩
          all_goals
            go_wp2
            go_quiet ((go_at_call 31; exact Calls.quiet_of_same (HIN.out _)))
            go_wp2
            go_ret
            exact ⟨ret_bool (by rw [HE.out]; rfl), BR.trans (below_drewN _ _ _)⟩
        | true =>
          obtain ⟨hc0, hc1⟩ := Num.inB_true.1 hin
          rw [hin] at HE HIC
          obtain ⟨X, rfl⟩ := Int.eq_ofNat_of_zero_le hc0
          have hX : X < m := by omega
          have hXI : (X : Int) < (m : Int) := by omega
          rw [Int.toNat_natCast] at HE
          obtain ⟨vb, voff, rfl, e0⟩ := HVC.out X hX
          generalize cols.getD X 0 = y at HE e0
          have HKK : Hid (∀ W, Below wr.heap.size wr W → W.cell? ⟨w.heap.size, 0, none⟩ = some (.int .i64 2) ∧ W.cell? ⟨w.heap.size, 1, none⟩ = some (.int .i64 (X : Int)) ∧ W.cell? ⟨w.heap.size, 2, none⟩ = some (.int .i64 o) ∧ W.cell? ⟨w.heap.size, 3, none⟩ = some (.int .i64 vt) ∧ W.cell? ⟨w.heap.size, 4, none⟩ = some (.int .i64 vn) ∧ W.cell? ⟨w.heap.size, 5, none⟩ = some (.string vs) ∧ W.cell? ⟨w.heap.size, 6, none⟩ = some (.slice a q cap) ∧ W.cell? ⟨vb, voff + X, none⟩ = some (.int .i64 y)) := fun W hW => by
            have h1 := HK.out W (below_then hbr hW hbr.size)
            have h2 := below_then BR hW BR.size
            exact ⟨h1.1, h1.2.1, h1.2.2.1, h1.2.2.2.1, h1.2.2.2.2.1, h1.2.2.2.2.2.1, h1.2.2.2.2.2.2, (h2.cell (p := ⟨vb, voff + X, none⟩) (lt_of_cell e0)).trans e0⟩
          have HIN := Lib.hid HIC.out
          have hB' := (Below.refl wr.heap.size wr).drew
          clear HVC hin hc0 hc1 HIC HK e0 hX
          cases hok : okV ⟨vt, vn, vs⟩ with
          | false =>
            rw [hok] at HE HVO
            clear hok
            rcases h3 with ⟨hcb, _⟩ | ⟨hcb, hob, _⟩ | ⟨hcb, hob, _⟩
            all_goals
              go_wp2
              refine wp_region_held_drew (S := fun W => W.cell? ⟨w.heap.size, 0, none⟩ = some (.int .i64 2) ∧ W.cell? ⟨w.heap.size, 1, none⟩ = some (.int .i64 (X : Int)) ∧ W.cell? ⟨w.heap.size, 2, none⟩ = some (.int .i64 o) ∧ W.cell? ⟨w.heap.size, 3, none⟩ = some (.int .i64 vt) ∧ W.cell? ⟨w.heap.size, 4, none⟩ = some (.int .i64 vn) ∧ W.cell? ⟨w.heap.size, 5, none⟩ = some (.string vs) ∧ W.cell? ⟨w.heap.size, 6, none⟩ = some (.slice a q cap) ∧ W.cell? ⟨vb, voff + X, none⟩ = some (.int .i64 y)) (by kernel_rfl) (HKK.out _ hB') (fun hH => ?_)
              refine takeH (i := 0) (d := some 55) (v := .pointer (some ⟨w.heap.size, 1, none⟩)) rfl rfl (by kernel_rfl) (by kernel_rfl) (by kernel_rfl) (fun _ _ _ h => h) (Or.inl ⟨by rfl, fun W hSw => by obtain ⟨d0, d1, d2, d3, d4, d5, d6, d7⟩ := hSw; go_simp⟩) hH ?_
              try simp only [put_some, List.set_cons_zero, List.set_cons_succ]
              refine takeH (i := 1) (d := some 56) (v := .int .i64 (X : Int)) rfl rfl (by kernel_rfl) (by kernel_rfl) (by kernel_rfl) (fun _ _ _ h => h) (Or.inl ⟨by rfl, fun W hSw => by obtain ⟨d0, d1, d2, d3, d4, d5, d6, d7⟩ := hSw; go_simp⟩) hH ?_
              try simp only [put_some, List.set_cons_zero, List.set_cons_succ]
              refine takeH (i := 2) (d := some 57) (v := .slice (some ⟨vb, voff, none⟩) m vcap) rfl rfl (by kernel_rfl) (by kernel_rfl) (by kernel_rfl) (fun _ _ _ h => h) (Or.inl ⟨by rfl, fun W hSw => by obtain ⟨d0, d1, d2, d3, d4, d5, d6, d7⟩ := hSw; go_simp⟩) hH ?_
              try simp only [put_some, List.set_cons_zero, List.set_cons_succ]
              refine takeH (i := 3) (d := some 58) (v := .int .i64 (m : Int)) rfl rfl (by kernel_rfl) (by kernel_rfl) (by kernel_rfl) (fun _ _ _ h => h) (Or.inl ⟨by rfl, fun W hSw => by obtain ⟨d0, d1, d2, d3, d4, d5, d6, d7⟩ := hSw; go_simp⟩) hH ?_
              try simp only [put_some, List.set_cons_zero, List.set_cons_succ]
              refine takeH (i := 4) (d := some 59) (v := .int .i64 ((m : Int) - 1)) rfl rfl (by kernel_rfl) (by kernel_rfl) (by kernel_rfl) (fun _ _ _ h => h) (Or.inl ⟨by rfl, fun W hSw => by obtain ⟨d0, d1, d2, d3, d4, d5, d6, d7⟩ := hSw; go_simp⟩) hH ?_
              try simp only [put_some, List.set_cons_zero, List.set_cons_succ]
              refine wpAnyH_ready (rs := [5]) (by kernel_rfl) (by simp) ?_
              refine AllReadyH.cons rfl (fun K hK => ?_) AllReadyH.nil
              go_simp
              go_at_call 31
              refine (HIN.out _).mono ?_
              rintro e w2 ⟨rfl, rfl⟩
              go_wp2_with fail
              refine hK.out _ _ (HKK.out _ hB') (fun hH => ?_)
              clear hK K
              refine takeH (i := 6) (d := some 61) (v := .bool true) rfl rfl (by kernel_rfl) (by kernel_rfl) (by kernel_rfl) (fun _ _ _ h => h) (Or.inl ⟨by rfl, fun W hSw => by obtain ⟨d0, d1, d2, d3, d4, d5, d6, d7⟩ := hSw; go_simp⟩) hH ?_
              try simp only [put_some, List.set_cons_zero, List.set_cons_succ]
              refine takeH (i := 7) (d := some 62) (v := .pointer (some ⟨w.heap.size, 3, none⟩)) rfl rfl (by kernel_rfl) (by kernel_rfl) (by kernel_rfl) (fun _ _ _ h => h) (Or.inl ⟨by rfl, fun W hSw => by obtain ⟨d0, d1, d2, d3, d4, d5, d6, d7⟩ := hSw; go_simp⟩) hH ?_
              try simp only [put_some, List.set_cons_zero, List.set_cons_succ]
              refine takeH (i := 8) (d := some 63) (v := .agg #[.int .i64 vt, .int .i64 vn, .string vs]) rfl rfl (by kernel_rfl) (by kernel_rfl) (by kernel_rfl) (fun _ _ _ h => h) (Or.inl ⟨by rfl, fun W hSw => by obtain ⟨d0, d1, d2, d3, d4, d5, d6, d7⟩ := hSw; go_simp⟩) hH ?_
              try simp only [put_some, List.set_cons_zero, List.set_cons_succ]
              refine wpAnyH_ready (rs := [9]) (by kernel_rfl) (by simp) ?_
              refine AllReadyH.cons rfl (fun K hK => ?_) AllReadyH.nil
              go_simp
              go_at_call 78
              refine (HVO.out _).mono ?_
              rintro e w2 ⟨rfl, hb2⟩
              replace hB' := below_then hB' hb2 hB'.size
              clear hb2
              go_wp2_with fail
              refine hK.out _ _ (HKK.out _ hB') (fun hH => ?_)
              clear hK K
              refine takeH (i := 10) (d := some 65) (v := .bool false) rfl rfl (by kernel_rfl) (by kernel_rfl) (by kernel_rfl) (fun _ _ _ h => h) (Or.inl ⟨by rfl, fun W hSw => by obtain ⟨d0, d1, d2, d3, d4, d5, d6, d7⟩ := hSw; go_simp⟩) hH ?_
              try simp only [put_some, List.set_cons_zero, List.set_cons_succ]
              refine takeH (i := 11) (d := some 66) (v := .bool false) rfl rfl (by kernel_rfl) (by kernel_rfl) (by kernel_rfl) (fun _ _ _ h => h) (Or.inl ⟨by rfl, fun W hSw => by obtain ⟨d0, d1, d2, d3, d4, d5, d6, d7⟩ := hSw; go_simp⟩) hH ?_
              try simp only [put_some, List.set_cons_zero, List.set_cons_succ]
              refine takeH (i := 12) (d := some 67) (v := undef) rfl rfl (by kernel_rfl) (by kernel_rfl) (by kernel_rfl) (fun _ _ _ h => h) (Or.inr ⟨by rfl, rfl⟩) hH ?_
              try simp only [put_some, List.set_cons_zero, List.set_cons_succ]
              refine takeH (i := 13) (d := some 68) (v := undef) rfl rfl (by kernel_rfl) (by kernel_rfl) (by kernel_rfl) (fun _ _ _ h => h) (Or.inr ⟨by rfl, rfl⟩) hH ?_
              try simp only [put_some, List.set_cons_zero, List.set_cons_succ]
              refine takeH (i := 14) (d := some 69) (v := undef) rfl rfl (by kernel_rfl) (by kernel_rfl) (by kernel_rfl) (fun _ _ _ h => h) (Or.inr ⟨by rfl, rfl⟩) hH ?_
              try simp only [put_some, List.set_cons_zero, List.set_cons_succ]
              refine takeH (i := 15) (d := some 70) (v := undef) rfl rfl (by kernel_rfl) (by kernel_rfl) (by kernel_rfl) (fun _ _ _ h => h) (Or.inr ⟨by rfl, rfl⟩) hH ?_
              try simp only [put_some, List.set_cons_zero, List.set_cons_succ]
              refine takeH (i := 16) (d := some 71) (v := undef) rfl rfl (by kernel_rfl) (by kernel_rfl) (by kernel_rfl) (fun _ _ _ h => h) (Or.inr ⟨by rfl, rfl⟩) hH ?_
              try simp only [put_some, List.set_cons_zero, List.set_cons_succ]
              refine takeH (i := 17) (d := some 72) (v := undef) rfl rfl (by kernel_rfl) (by kernel_rfl) (by kernel_rfl) (fun _ _ _ h => h) (Or.inr ⟨by rfl, rfl⟩) hH ?_
              try simp only [put_some, List.set_cons_zero, List.set_cons_succ]
              refine takeH (i := 18) (d := some 73) (v := undef) rfl rfl (by kernel_rfl) (by kernel_rfl) (by kernel_rfl) (fun _ _ _ h => h) (Or.inr ⟨by rfl, rfl⟩) hH ?_
              try simp only [put_some, List.set_cons_zero, List.set_cons_succ]
              refine takeH (i := 19) (d := some 74) (v := undef) rfl rfl (by kernel_rfl) (by kernel_rfl) (by kernel_rfl) (fun _ _ _ h => h) (Or.inr ⟨by rfl, rfl⟩) hH ?_
              try simp only [put_some, List.set_cons_zero, List.set_cons_succ]
              refine takeH (i := 20) (d := some 75) (v := undef) rfl rfl (by kernel_rfl) (by kernel_rfl) (by kernel_rfl) (fun _ _ _ h => h) (Or.inr ⟨by rfl, rfl⟩) hH ?_
              try simp only [put_some, List.set_cons_zero, List.set_cons_succ]
              refine takeH (i := 21) (d := some 76) (v := .bool false) rfl rfl (by kernel_rfl) (by kernel_rfl) (by kernel_rfl) (fun _ _ _ h => h) (Or.inl ⟨by rfl, fun W hSw => by obtain ⟨d0, d1, d2, d3, d4, d5, d6, d7⟩ := hSw; go_simp⟩) hH ?_
              try simp only [put_some, List.set_cons_zero, List.set_cons_succ]
              refine takeH (i := 22) (d := some 77) (v := .bool false) rfl rfl (by kernel_rfl) (by kernel_rfl) (by kernel_rfl) (fun _ _ _ h => h) (Or.inl ⟨by rfl, fun W hSw => by obtain ⟨d0, d1, d2, d3, d4, d5, d6, d7⟩ := hSw; go_simp⟩) hH ?_
              try simp only [put_some, List.set_cons_zero, List.set_cons_succ]
              refine takeH (i := 23) (d := some 78) (v := undef) rfl rfl (by kernel_rfl) (by kernel_rfl) (by kernel_rfl) (fun _ _ _ h => h) (Or.inr ⟨by rfl, rfl⟩) hH ?_
              try simp only [put_some, List.set_cons_zero, List.set_cons_succ]
              refine takeH (i := 24) (d := some 79) (v := undef) rfl rfl (by kernel_rfl) (by kernel_rfl) (by kernel_rfl) (fun _ _ _ h => h) (Or.inr ⟨by rfl, rfl⟩) hH ?_
              try simp only [put_some, List.set_cons_zero, List.set_cons_succ]
              refine takeH (i := 25) (d := some 80) (v := undef) rfl rfl (by kernel_rfl) (by kernel_rfl) (by kernel_rfl) (fun _ _ _ h => h) (Or.inr ⟨by rfl, rfl⟩) hH ?_
              try simp only [put_some, List.set_cons_zero, List.set_cons_succ]
              refine takeH (i := 26) (d := some 81) (v := .bool false) rfl rfl (by kernel_rfl) (by kernel_rfl) (by kernel_rfl) (fun _ _ _ h => h) (Or.inl ⟨by rfl, fun W hSw => by obtain ⟨d0, d1, d2, d3, d4, d5, d6, d7⟩ := hSw; go_simp⟩) hH ?_
              try simp only [put_some, List.set_cons_zero, List.set_cons_succ]
              refine takeH (i := 27) (d := some 82) (v := .bool false) rfl rfl (by kernel_rfl) (by kernel_rfl) (by kernel_rfl) (fun _ _ _ h => h) (Or.inl ⟨by rfl, fun W hSw => by obtain ⟨d0, d1, d2, d3, d4, d5, d6, d7⟩ := hSw; go_simp⟩) hH ?_
              try simp only [put_some, List.set_cons_zero, List.set_cons_succ]
              refine takeH (i := 28) (d := some 83) (v := undef) rfl rfl (by kernel_rfl) (by kernel_rfl) (by kernel_rfl) (fun _ _ _ h => h) (Or.inr ⟨by rfl, rfl⟩) hH ?_
              try simp only [put_some, List.set_cons_zero, List.set_cons_succ]
              refine takeH (i := 29) (d := some 84) (v := undef) rfl rfl (by kernel_rfl) (by kernel_rfl) (by kernel_rfl) (fun _ _ _ h => h) (Or.inr ⟨by rfl, rfl⟩) hH ?_
              try simp only [put_some, List.set_cons_zero, List.set_cons_succ]
              refine takeH (i := 30) (d := some 85) (v := undef) rfl rfl (by kernel_rfl) (by kernel_rfl) (by kernel_rfl) (fun _ _ _ h => h) (Or.inr ⟨by rfl, rfl⟩) hH ?_
              try simp only [put_some, List.set_cons_zero, List.set_cons_succ]
              refine takeH (i := 31) (d := some 86) (v := undef) rfl rfl (by kernel_rfl) (by kernel_rfl) (by kernel_rfl) (fun _ _ _ h => h) (Or.inr ⟨by rfl, rfl⟩) hH ?_
              try simp only [put_some, List.set_cons_zero, List.set_cons_succ]
              refine takeH (i := 32) (d := some 87) (v := .bool false) rfl rfl (by kernel_rfl) (by kernel_rfl) (by kernel_rfl) (fun _ _ _ h => h) (Or.inl ⟨by rfl, fun W hSw => by obtain ⟨d0, d1, d2, d3, d4, d5, d6, d7⟩ := hSw; go_simp⟩) hH ?_
              try simp only [put_some, List.set_cons_zero, List.set_cons_succ]
              refine takeH (i := 33) (d := some 6) (v := .bool false) rfl rfl (by kernel_rfl) (by kernel_rfl) (by kernel_rfl) (fun _ _ _ h => h) (Or.inl ⟨by rfl, fun W hSw => by obtain ⟨d0, d1, d2, d3, d4, d5, d6, d7⟩ := hSw; go_simp⟩) hH ?_
              try simp only [put_some, List.set_cons_zero, List.set_cons_succ]
              refine wpAnyH_done (by kernel_rfl) ?_ _
              go_wp2
              go_ret
              exact ⟨ret_bool (by rw [HE.out]; rfl), below_then BR hB' BR.size⟩
          | true =>
            have := HVAR.out
            rw [hok] at this
            cases this
      exact absurd HKI.out k2

end Go.Proofs.YtafoldpmodipaaaDoor

/- The model's l11Deep, for a comparison with a value of the other type (written by mk_S11p.py). -/
namespace Go.Proofs.YtafoldpmodipaaaDoor
open Go.RowKit

set_option maxRecDepth 100000 in
set_option maxHeartbeats 40000000 in
theorem sDeepT (cols : List Int) (t : T) (ih : ∀ x ∈ t.l, DeT cols x) (hk : t.kind = 2) (hok0 : okV t.v = true) (hty0 : (t.v.ty == cols.getD t.col.toNat 0) = false) : DeT cols t := by
  intro Q u vu d w hs hd h hv
  have HD := Lib.hid (T.deep_def cols t d)
  have HI := Lib.hid (fun q (hq : q < t.l.length) Q' u' W (hr : RdT Q' W (t.l.getD q T.zero) u') (hW : Below w.heap.size w W) => ih _ (kid_mem hq) Q' u' vu (d + 1) W (hs.kid hq) (by omega) hr (hv.below hW))
  have HAT := Lib.hid (fun (h : ∀ q, q < t.l.length → (fun x : T => x.deep cols (d + 1)) (t.l.getD q T.zero) = true) => all_of (l := t.l) (f := fun x : T => x.deep cols (d + 1)) h)
  have HAF := Lib.hid (fun q (hq : q < t.l.length) (h : (fun x : T => x.deep cols (d + 1)) (t.l.getD q T.zero) = false) => all_not (l := t.l) (f := fun x : T => x.deep cols (d + 1)) hq h)
  have HO1 := Lib.hid (T.own_1 (cols := cols) (t := t))
  have HO2 := Lib.hid (T.own_2 (cols := cols) (t := t))
  have HO3 := Lib.hid (T.own_34 (cols := cols) (t := t))
  have HO5 := Lib.hid (T.own_5 (cols := cols) (t := t))
  have HBA : Hid (t.bare = (t.col == 0 && (t.op == 0 && t.v.eqB ⟨0, 0, ⟨#[]⟩⟩))) := rfl
  have HVO := Lib.hid (fun W => sValOk t.v W hs.self)
  generalize hl : t.l.length = n at HI HAT HAF HO1 HO2 HO3 HO5
  obtain ⟨a, cap, rfl, hle, HC⟩ := h.kids hl
  generalize hm : cols.length = m at hv HO2
  obtain ⟨va, vcap, rfl, hvm, HVC⟩ := hv.ints hm
  have HRV := Lib.hid (fun W (hW : Below w.heap.size w W) => hv.below hW)
  unfold maxLen at hle hvm
  generalize t.deep cols d = res at HD ⊢
  generalize t.own cols = own at HD HO1 HO2 HO3 HO5
  generalize t.bare = bare at HBA HO1 HO3 HO5
  have HKI := Lib.hid hk
  have HVAR := Lib.hid hok0
  have HVA2 := Lib.hid hty0
  clear hk hok0 hty0
  clear h hl ih hm hs
  obtain ⟨k, c, o, ⟨vt, vn, vs⟩, l⟩ := t
  simp only [T.agg, T.kind, T.col, T.op, T.v, T.l] at HD HI HAT HAF HO1 HO2 HO3 HO5 HBA HVO HC HKI HVAR HVA2 ⊢
  have B0 := below_alloc w (.cells #[.int .i64 k, .int .i64 c, .int .i64 o, .int .i64 vt, .int .i64 vn, .string vs, .slice a n cap] 36)
  have C0 := blk_new w [.int .i64 k, .int .i64 c, .int .i64 o, .int .i64 vt, .int .i64 vn, .string vs, .slice a n cap] 36
  generalize hw0 : w.alloc (.cells #[.int .i64 k, .int .i64 c, .int .i64 o, .int .i64 vt, .int .i64 vn, .string vs, .slice a n cap] 36) = w0 at B0 C0
  have HW0 := Lib.hid hw0
  clear hw0
  have HK : Hid (∀ W, Below w0.heap.size w0 W → W.cell? ⟨w.heap.size, 0, none⟩ = some (.int .i64 k) ∧ W.cell? ⟨w.heap.size, 1, none⟩ = some (.int .i64 c) ∧ W.cell? ⟨w.heap.size, 2, none⟩ = some (.int .i64 o) ∧ W.cell? ⟨w.heap.size, 3, none⟩ = some (.int .i64 vt) ∧ W.cell? ⟨w.heap.size, 4, none⟩ = some (.int .i64 vn) ∧ W.cell? ⟨w.heap.size, 5, none⟩ = some (.string vs) ∧ W.cell? ⟨w.heap.size, 6, none⟩ = some (.slice a n cap)) := fun W hW => ⟨(C0.below hW 0 _ rfl).1, (C0.below hW 1 _ rfl).1, (C0.below hW 2 _ rfl).1, (C0.below hW 3 _ rfl).1, (C0.below hW 4 _ rfl).1, (C0.below hW 5 _ rfl).1, (C0.below hW 6 _ rfl).1⟩
  have HB0 := Lib.hid (Below.refl w0.heap.size w0)
  clear C0
  by_cases hbig : 4 < d
  · have HE : Hid (res = false) := by
      show _ = _
      rw [HD.out, decide_eq_false (by omega)]
      rfl
    clear HD HI HAT HAF HO1 HO2 HO3 HO5 HBA HVO HC HVC HRV hv
    go_enter Tryd.func58, Tryd.ntmps58
    go_wp2
    rw [HW0.out]
    go_ret
    exact ⟨ret_bool HE.out.symm, B0⟩
  have HD2 : Hid (res = (l.all (fun x => x.deep cols (d + 1)) && own)) := by
    show _ = _
    rw [HD.out, decide_eq_true (by omega), Bool.true_and]
  clear HD hv HRV
  go_enter Tryd.func58, Tryd.ntmps58
  go_wp2
  rw [HW0.out]
  go_loopw [7] (fun i wr => ∃ q : Nat, q ≤ n ∧ i = .int .i64 q ∧ (∀ j, j < q → (fun x : T => x.deep cols (d + 1)) (l.getD j T.zero) = true) ∧ Below w0.heap.size w0 wr) (fun i _ => n - (intOf i).toNat)
  case atStart => exact ⟨0, Nat.zero_le _, rfl, fun j hj => by omega, HB0.out⟩
  case round =>
    obtain ⟨q, hq, rfl, hpre, hbr⟩ := hrel
    have HPRE := Lib.hid hpre
    clear hpre
    obtain ⟨p0, p1, p2, p3, p4, p5, p6⟩ := HK.out wr hbr
    by_cases hlt : q < n
    · obtain ⟨b, off, u', rfl, hr, c0, c1, c2, c3, c4, c5, c6⟩ := HC.out q hlt wr (below_then B0 hbr B0.size)
      have HX := Lib.hid (HI.out q hlt _ u' wr hr (below_then B0 hbr B0.size))
      have HNX : Hid ((l.getD q T.zero).deep cols (d + 1) = false → res = false) := fun e => by
        rw [HD2.out, HAF.out q hlt e]
        rfl
      have HSX : Hid ((l.getD q T.zero).deep cols (d + 1) = true → ∀ j, j < q + 1 → (fun x : T => x.deep cols (d + 1)) (l.getD j T.zero) = true) := fun e j hj => by
        by_cases hjq : j = q
        · subst hjq; exact e
        · exact HPRE.out j (by omega)
      generalize (l.getD q T.zero).deep cols (d + 1) = r at HX HNX HSX
      generalize l.getD q T.zero = x at c0 c1 c2 c3 c4 c5 HX
      obtain ⟨xk, xc, xo, ⟨xt, xn, xs⟩, xl⟩ := x
      simp only at c0 c1 c2 c3 c4 c5 HX
      clear hr HPRE HI HO1 HO2 HO3 HO5 HBA HVO HVC
      cases r with
      | false =>
        have HN2 := Lib.hid (HNX.out rfl)
        go_wp2_with fail
        refine HX.out.mono ?_
        rintro e w2 ⟨rfl, b2⟩
        have B2 := below_then (below_then B0 hbr B0.size) b2 (by have := B0.size; have := hbr.size; omega)
        go_wp2
        go_ret
        exact ⟨ret_bool HN2.out.symm, B2⟩
      | true =>
        have HS2 := Lib.hid (HSX.out rfl)
        go_wp2_with fail
        refine HX.out.mono ?_
        rintro e w2 ⟨rfl, b2⟩
        have B2 := below_then hbr b2 hbr.size
        clear HX HNX HSX b2 hbr p0 p1 p2 p3 p4 p5 p6 c0 c1 c2 c3 c4 c5 c6
        go_wp2
        go_roundw
        case rel => exact ⟨q + 1, by omega, by go_num, HS2.out, B2⟩
        case measure => simp [intOf]; omega
    · obtain rfl : q = n := by omega
      have HE0 : Hid (res = own) := by
        show _ = _
        rw [HD2.out, HAT.out (fun j hj => HPRE.out j hj), Bool.true_and]
      have BR := below_then B0 hbr B0.size
      have HQ := Lib.hid (fun W => run_eql_val ⟨vt, vn, vs⟩ ⟨0, 0, ⟨#[]⟩⟩ W)
      have HIO : Hid (∀ W, Calls Tryd.prog 31 #[.int .i64 o, .int .i64 1, .int .i64 6] W fun e w' => e = .returned (.bool (Num.inB o 1 6)) ∧ W = w') := fun W => l1In o 1 6 W
      have HIC : Hid (∀ W, Calls Tryd.prog 31 #[.int .i64 c, .int .i64 0, .int .i64 ((m : Int) - 1)] W fun e w' => e = .returned (.bool (Num.inB c 0 ((m : Int) - 1))) ∧ W = w') := fun W => l1In c 0 _ W
      have HIL : Hid (∀ W, Calls Tryd.prog 31 #[.int .i64 (q : Int), .int .i64 1, .int .i64 4] W fun e w' => e = .returned (.bool (Num.inB q 1 4)) ∧ W = w') := fun W => l1In q 1 4 W
      obtain ⟨nz, hnz⟩ : ∃ z, (q == 0) = z := ⟨_, rfl⟩
      have hnzi : ((q : Int) == 0) = nz := by
        rw [← hnz]
        exact Bool.eq_iff_iff.2 (by simp)
      obtain ⟨n1, hn1⟩ : ∃ z, (q == 1) = z := ⟨_, rfl⟩
      have hn1i : ((q : Int) == 1) = n1 := by
        rw [← hn1]
        exact Bool.eq_iff_iff.2 (by simp; omega)
      rw [hnz] at HO1 HO2
      rw [hn1] at HO5
      clear HPRE HD2 HAT HAF HI HC hnz hn1 HB0 hlt hq hle
      have HBV : Hid (bare = (c == 0 && (o == 0 && V.eqB ⟨vt, vn, vs⟩ ⟨0, 0, ⟨#[]⟩⟩))) := HBA.out
      clear HBA
      generalize V.eqB ⟨vt, vn, vs⟩ ⟨0, 0, ⟨#[]⟩⟩ = vb0 at HBV HQ
      have hqv := HQ.out
      clear HQ
      have h3 : ((c == 0) = false ∧ Hid (bare = false)) ∨ ((c == 0) = true ∧ (o == 0) = false ∧ Hid (bare = false)) ∨ ((c == 0) = true ∧ (o == 0) = true ∧ Hid (bare = vb0)) := by
        cases hcb : (c == 0)
        · exact .inl ⟨rfl, by show _ = _; rw [HBV.out, hcb]; rfl⟩
        · cases hob : (o == 0)
          · exact .inr (.inl ⟨rfl, rfl, by show _ = _; rw [HBV.out, hcb, hob]; rfl⟩)
          · exact .inr (.inr ⟨rfl, rfl, by show _ = _; rw [HBV.out, hcb, hob]; rfl⟩)
      clear HBV
      by_cases k2 : k = 2
      · have HE : Hid (res = (Num.inB c 0 ((m : Int) - 1) && (okV ⟨vt, vn, vs⟩ && (vt == cols.getD c.toNat 0 && (Num.inB o 1 6 && nz))))) := HE0.out.trans (HO2.out k2)
        subst k2
        clear HE0 HO1 HO2 HO3 HO5 HIL hn1i
        have hwm : IntKind.i64.wrap ((m : Int) - 1) = (m : Int) - 1 := IntWalk.i64_in _ (by omega)
        cases hin : Num.inB c 0 ((m : Int) - 1) with
        | false =>
          rw [hin] at HE HIC
          have HIN : Hid (∀ W, Calls Tryd.prog 31 #[.int .i64 c, .int .i64 0, .int .i64 ((m : Int) - 1)] W fun e w' => e = .returned (.bool false) ∧ w' = W) := fun W => (HIC.out W).mono (fun _ _ h => ⟨h.1, h.2.symm⟩)
          clear hin HIC HVC HVO HIO
          rcases h3 with ⟨hcb, _⟩ | ⟨hcb, hob, _⟩ | ⟨hcb, hob, _⟩
          all_goals
            go_wp2
            go_quiet ((go_at_call 31; exact Calls.quiet_of_same (HIN.out _)))
            go_wp2
            go_ret
            exact ⟨ret_bool (by rw [HE.out]; rfl), BR.trans (below_drewN _ _ _)⟩
        | true =>
          obtain ⟨hc0, hc1⟩ := Num.inB_true.1 hin
          rw [hin] at HE HIC
          obtain ⟨X, rfl⟩ := Int.eq_ofNat_of_zero_le hc0
          have hX : X < m := by omega
          have hXI : (X : Int) < (m : Int) := by omega
          rw [Int.toNat_natCast] at HE HVA2
          obtain ⟨vb, voff, rfl, e0⟩ := HVC.out X hX
          generalize cols.getD X 0 = y at HE e0 HVA2
          have HKK : Hid (∀ W, Below wr.heap.size wr W → W.cell? ⟨w.heap.size, 0, none⟩ = some (.int .i64 2) ∧ W.cell? ⟨w.heap.size, 1, none⟩ = some (.int .i64 (X : Int)) ∧ W.cell? ⟨w.heap.size, 2, none⟩ = some (.int .i64 o) ∧ W.cell? ⟨w.heap.size, 3, none⟩ = some (.int .i64 vt) ∧ W.cell? ⟨w.heap.size, 4, none⟩ = some (.int .i64 vn) ∧ W.cell? ⟨w.heap.size, 5, none⟩ = some (.string vs) ∧ W.cell? ⟨w.heap.size, 6, none⟩ = some (.slice a q cap) ∧ W.cell? ⟨vb, voff + X, none⟩ = some (.int .i64 y)) := fun W hW => by
            have h1 := HK.out W (below_then hbr hW hbr.size)
            have h2 := below_then BR hW BR.size
            exact ⟨h1.1, h1.2.1, h1.2.2.1, h1.2.2.2.1, h1.2.2.2.2.1, h1.2.2.2.2.2.1, h1.2.2.2.2.2.2, (h2.cell (p := ⟨vb, voff + X, none⟩) (lt_of_cell e0)).trans e0⟩
          have HIN := Lib.hid HIC.out
          have hB' := (Below.refl wr.heap.size wr).drew
          clear HVC hin hc0 hc1 HIC HK e0 hX
          cases hok : okV ⟨vt, vn, vs⟩ with
          | false =>
            have := HVAR.out
            rw [hok] at this
            cases this
          | true =>
            rw [hok] at HE HVO
            clear hok
            cases hty : (vt == y) with
            | false =>
              rw [hty] at HE
              rcases h3 with ⟨hcb, _⟩ | ⟨hcb, hob, _⟩ | ⟨hcb, hob, _⟩
              all_goals
                go_wp2
                refine wp_region_held_drew (S := fun W => W.cell? ⟨w.heap.size, 0, none⟩ = some (.int .i64 2) ∧ W.cell? ⟨w.heap.size, 1, none⟩ = some (.int .i64 (X : Int)) ∧ W.cell? ⟨w.heap.size, 2, none⟩ = some (.int .i64 o) ∧ W.cell? ⟨w.heap.size, 3, none⟩ = some (.int .i64 vt) ∧ W.cell? ⟨w.heap.size, 4, none⟩ = some (.int .i64 vn) ∧ W.cell? ⟨w.heap.size, 5, none⟩ = some (.string vs) ∧ W.cell? ⟨w.heap.size, 6, none⟩ = some (.slice a q cap) ∧ W.cell? ⟨vb, voff + X, none⟩ = some (.int .i64 y)) (by kernel_rfl) (HKK.out _ hB') (fun hH => ?_)
                refine takeH (i := 0) (d := some 55) (v := .pointer (some ⟨w.heap.size, 1, none⟩)) rfl rfl (by kernel_rfl) (by kernel_rfl) (by kernel_rfl) (fun _ _ _ h => h) (Or.inl ⟨by rfl, fun W hSw => by obtain ⟨d0, d1, d2, d3, d4, d5, d6, d7⟩ := hSw; go_simp⟩) hH ?_
                try simp only [put_some, List.set_cons_zero, List.set_cons_succ]
                refine takeH (i := 1) (d := some 56) (v := .int .i64 (X : Int)) rfl rfl (by kernel_rfl) (by kernel_rfl) (by kernel_rfl) (fun _ _ _ h => h) (Or.inl ⟨by rfl, fun W hSw => by obtain ⟨d0, d1, d2, d3, d4, d5, d6, d7⟩ := hSw; go_simp⟩) hH ?_
                try simp only [put_some, List.set_cons_zero, List.set_cons_succ]
                refine takeH (i := 2) (d := some 57) (v := .slice (some ⟨vb, voff, none⟩) m vcap) rfl rfl (by kernel_rfl) (by kernel_rfl) (by kernel_rfl) (fun _ _ _ h => h) (Or.inl ⟨by rfl, fun W hSw => by obtain ⟨d0, d1, d2, d3, d4, d5, d6, d7⟩ := hSw; go_simp⟩) hH ?_
                try simp only [put_some, List.set_cons_zero, List.set_cons_succ]
                refine takeH (i := 3) (d := some 58) (v := .int .i64 (m : Int)) rfl rfl (by kernel_rfl) (by kernel_rfl) (by kernel_rfl) (fun _ _ _ h => h) (Or.inl ⟨by rfl, fun W hSw => by obtain ⟨d0, d1, d2, d3, d4, d5, d6, d7⟩ := hSw; go_simp⟩) hH ?_
                try simp only [put_some, List.set_cons_zero, List.set_cons_succ]
                refine takeH (i := 4) (d := some 59) (v := .int .i64 ((m : Int) - 1)) rfl rfl (by kernel_rfl) (by kernel_rfl) (by kernel_rfl) (fun _ _ _ h => h) (Or.inl ⟨by rfl, fun W hSw => by obtain ⟨d0, d1, d2, d3, d4, d5, d6, d7⟩ := hSw; go_simp⟩) hH ?_
                try simp only [put_some, List.set_cons_zero, List.set_cons_succ]
                refine wpAnyH_ready (rs := [5]) (by kernel_rfl) (by simp) ?_
                refine AllReadyH.cons rfl (fun K hK => ?_) AllReadyH.nil
                go_simp
                go_at_call 31
                refine (HIN.out _).mono ?_
                rintro e w2 ⟨rfl, rfl⟩
                go_wp2_with fail
                refine hK.out _ _ (HKK.out _ hB') (fun hH => ?_)
                clear hK K
                refine takeH (i := 6) (d := some 61) (v := .bool true) rfl rfl (by kernel_rfl) (by kernel_rfl) (by kernel_rfl) (fun _ _ _ h => h) (Or.inl ⟨by rfl, fun W hSw => by obtain ⟨d0, d1, d2, d3, d4, d5, d6, d7⟩ := hSw; go_simp⟩) hH ?_
                try simp only [put_some, List.set_cons_zero, List.set_cons_succ]
                refine takeH (i := 7) (d := some 62) (v := .pointer (some ⟨w.heap.size, 3, none⟩)) rfl rfl (by kernel_rfl) (by kernel_rfl) (by kernel_rfl) (fun _ _ _ h => h) (Or.inl ⟨by rfl, fun W hSw => by obtain ⟨d0, d1, d2, d3, d4, d5, d6, d7⟩ := hSw; go_simp⟩) hH ?_
                try simp only [put_some, List.set_cons_zero, List.set_cons_succ]
                refine takeH (i := 8) (d := some 63) (v := .agg #[.int .i64 vt, .int .i64 vn, .string vs]) rfl rfl (by kernel_rfl) (by kernel_rfl) (by kernel_rfl) (fun _ _ _ h => h) (Or.inl ⟨by rfl, fun W hSw => by obtain ⟨d0, d1, d2, d3, d4, d5, d6, d7⟩ := hSw; go_simp⟩) hH ?_
                try simp only [put_some, List.set_cons_zero, List.set_cons_succ]
                refine wpAnyH_ready (rs := [9]) (by kernel_rfl) (by simp) ?_
                refine AllReadyH.cons rfl (fun K hK => ?_) AllReadyH.nil
                go_simp
                go_at_call 78
                refine (HVO.out _).mono ?_
                rintro e w2 ⟨rfl, hb2⟩
                replace hB' := below_then hB' hb2 hB'.size
                clear hb2
                go_wp2_with fail
                refine hK.out _ _ (HKK.out _ hB') (fun hH => ?_)
                clear hK K
                refine takeH (i := 10) (d := some 65) (v := .bool true) rfl rfl (by kernel_rfl) (by kernel_rfl) (by kernel_rfl) (fun _ _ _ h => h) (Or.inl ⟨by rfl, fun W hSw => by obtain ⟨d0, d1, d2, d3, d4, d5, d6, d7⟩ := hSw; go_simp⟩) hH ?_
                try simp only [put_some, List.set_cons_zero, List.set_cons_succ]
                refine takeH (i := 11) (d := some 66) (v := .bool true) rfl rfl (by kernel_rfl) (by kernel_rfl) (by kernel_rfl) (fun _ _ _ h => h) (Or.inl ⟨by rfl, fun W hSw => by obtain ⟨d0, d1, d2, d3, d4, d5, d6, d7⟩ := hSw; go_simp⟩) hH ?_
                try simp only [put_some, List.set_cons_zero, List.set_cons_succ]
                refine takeH (i := 12) (d := some 67) (v := .pointer (some ⟨w.heap.size, 3, none⟩)) rfl rfl (by kernel_rfl) (by kernel_rfl) (by kernel_rfl) (fun _ _ _ h => h) (Or.inl ⟨by rfl, fun W hSw => by obtain ⟨d0, d1, d2, d3, d4, d5, d6, d7⟩ := hSw; go_simp⟩) hH ?_
                try simp only [put_some, List.set_cons_zero, List.set_cons_succ]
                refine takeH (i := 13) (d := some 68) (v := .pointer (some ⟨w.heap.size, 3, none⟩)) rfl rfl (by kernel_rfl) (by kernel_rfl) (by kernel_rfl) (fun _ _ _ h => h) (Or.inl ⟨by rfl, fun W hSw => by obtain ⟨d0, d1, d2, d3, d4, d5, d6, d7⟩ := hSw; go_simp⟩) hH ?_
                try simp only [put_some, List.set_cons_zero, List.set_cons_succ]
                refine takeH (i := 14) (d := some 69) (v := .int .i64 vt) rfl rfl (by kernel_rfl) (by kernel_rfl) (by kernel_rfl) (fun _ _ _ h => h) (Or.inl ⟨by rfl, fun W hSw => by obtain ⟨d0, d1, d2, d3, d4, d5, d6, d7⟩ := hSw; go_simp⟩) hH ?_
                try simp only [put_some, List.set_cons_zero, List.set_cons_succ]
                refine takeH (i := 15) (d := some 70) (v := .slice (some ⟨vb, voff, none⟩) m vcap) rfl rfl (by kernel_rfl) (by kernel_rfl) (by kernel_rfl) (fun _ _ _ h => h) (Or.inl ⟨by rfl, fun W hSw => by obtain ⟨d0, d1, d2, d3, d4, d5, d6, d7⟩ := hSw; go_simp⟩) hH ?_
                try simp only [put_some, List.set_cons_zero, List.set_cons_succ]
                refine takeH (i := 16) (d := some 71) (v := .pointer (some ⟨w.heap.size, 1, none⟩)) rfl rfl (by kernel_rfl) (by kernel_rfl) (by kernel_rfl) (fun _ _ _ h => h) (Or.inl ⟨by rfl, fun W hSw => by obtain ⟨d0, d1, d2, d3, d4, d5, d6, d7⟩ := hSw; go_simp⟩) hH ?_
                try simp only [put_some, List.set_cons_zero, List.set_cons_succ]
                refine takeH (i := 17) (d := some 72) (v := .int .i64 (X : Int)) rfl rfl (by kernel_rfl) (by kernel_rfl) (by kernel_rfl) (fun _ _ _ h => h) (Or.inl ⟨by rfl, fun W hSw => by obtain ⟨d0, d1, d2, d3, d4, d5, d6, d7⟩ := hSw; go_simp⟩) hH ?_
                try simp only [put_some, List.set_cons_zero, List.set_cons_succ]
                refine takeH (i := 18) (d := some 73) (v := .pointer (some ⟨vb, voff + X, none⟩)) rfl rfl (by kernel_rfl) (by kernel_rfl) (by kernel_rfl) (fun _ _ _ h => h) (Or.inl ⟨by rfl, fun W hSw => by obtain ⟨d0, d1, d2, d3, d4, d5, d6, d7⟩ := hSw; go_simp⟩) hH ?_
                try simp only [put_some, List.set_cons_zero, List.set_cons_succ]
                refine takeH (i := 19) (d := some 74) (v := .int .i64 y) rfl rfl (by kernel_rfl) (by kernel_rfl) (by kernel_rfl) (fun _ _ _ h => h) (Or.inl ⟨by rfl, fun W hSw => by obtain ⟨d0, d1, d2, d3, d4, d5, d6, d7⟩ := hSw; go_simp⟩) hH ?_
                try simp only [put_some, List.set_cons_zero, List.set_cons_succ]
                refine takeH (i := 20) (d := some 75) (v := .bool false) rfl rfl (by kernel_rfl) (by kernel_rfl) (by kernel_rfl) (fun _ _ _ h => h) (Or.inl ⟨by rfl, fun W hSw => by obtain ⟨d0, d1, d2, d3, d4, d5, d6, d7⟩ := hSw; go_simp⟩) hH ?_
                try simp only [put_some, List.set_cons_zero, List.set_cons_succ]
                refine takeH (i := 21) (d := some 76) (v := .bool false) rfl rfl (by kernel_rfl) (by kernel_rfl) (by kernel_rfl) (fun _ _ _ h => h) (Or.inl ⟨by rfl, fun W hSw => by obtain ⟨d0, d1, d2, d3, d4, d5, d6, d7⟩ := hSw; go_simp⟩) hH ?_
                try simp only [put_some, List.set_cons_zero, List.set_cons_succ]
                refine takeH (i := 22) (d := some 77) (v := .bool false) rfl rfl (by kernel_rfl) (by kernel_rfl) (by kernel_rfl) (fun _ _ _ h => h) (Or.inl ⟨by rfl, fun W hSw => by obtain ⟨d0, d1, d2, d3, d4, d5, d6, d7⟩ := hSw; go_simp⟩) hH ?_
                try simp only [put_some, List.set_cons_zero, List.set_cons_succ]
                refine takeH (i := 23) (d := some 78) (v := undef) rfl rfl (by kernel_rfl) (by kernel_rfl) (by kernel_rfl) (fun _ _ _ h => h) (Or.inr ⟨by rfl, rfl⟩) hH ?_
                try simp only [put_some, List.set_cons_zero, List.set_cons_succ]
                refine takeH (i := 24) (d := some 79) (v := undef) rfl rfl (by kernel_rfl) (by kernel_rfl) (by kernel_rfl) (fun _ _ _ h => h) (Or.inr ⟨by rfl, rfl⟩) hH ?_
                try simp only [put_some, List.set_cons_zero, List.set_cons_succ]
                refine takeH (i := 25) (d := some 80) (v := undef) rfl rfl (by kernel_rfl) (by kernel_rfl) (by kernel_rfl) (fun _ _ _ h => h) (Or.inr ⟨by rfl, rfl⟩) hH ?_
                try simp only [put_some, List.set_cons_zero, List.set_cons_succ]
                refine takeH (i := 26) (d := some 81) (v := .bool false) rfl rfl (by kernel_rfl) (by kernel_rfl) (by kernel_rfl) (fun _ _ _ h => h) (Or.inl ⟨by rfl, fun W hSw => by obtain ⟨d0, d1, d2, d3, d4, d5, d6, d7⟩ := hSw; go_simp⟩) hH ?_
                try simp only [put_some, List.set_cons_zero, List.set_cons_succ]
                refine takeH (i := 27) (d := some 82) (v := .bool false) rfl rfl (by kernel_rfl) (by kernel_rfl) (by kernel_rfl) (fun _ _ _ h => h) (Or.inl ⟨by rfl, fun W hSw => by obtain ⟨d0, d1, d2, d3, d4, d5, d6, d7⟩ := hSw; go_simp⟩) hH ?_
                try simp only [put_some, List.set_cons_zero, List.set_cons_succ]
                refine takeH (i := 28) (d := some 83) (v := undef) rfl rfl (by kernel_rfl) (by kernel_rfl) (by kernel_rfl) (fun _ _ _ h => h) (Or.inr ⟨by rfl, rfl⟩) hH ?_
                try simp only [put_some, List.set_cons_zero, List.set_cons_succ]
                refine takeH (i := 29) (d := some 84) (v := undef) rfl rfl (by kernel_rfl) (by kernel_rfl) (by kernel_rfl) (fun _ _ _ h => h) (Or.inr ⟨by rfl, rfl⟩) hH ?_
                try simp only [put_some, List.set_cons_zero, List.set_cons_succ]
                refine takeH (i := 30) (d := some 85) (v := undef) rfl rfl (by kernel_rfl) (by kernel_rfl) (by kernel_rfl) (fun _ _ _ h => h) (Or.inr ⟨by rfl, rfl⟩) hH ?_
                try simp only [put_some, List.set_cons_zero, List.set_cons_succ]
                refine takeH (i := 31) (d := some 86) (v := undef) rfl rfl (by kernel_rfl) (by kernel_rfl) (by kernel_rfl) (fun _ _ _ h => h) (Or.inr ⟨by rfl, rfl⟩) hH ?_
                try simp only [put_some, List.set_cons_zero, List.set_cons_succ]
                refine takeH (i := 32) (d := some 87) (v := .bool false) rfl rfl (by kernel_rfl) (by kernel_rfl) (by kernel_rfl) (fun _ _ _ h => h) (Or.inl ⟨by rfl, fun W hSw => by obtain ⟨d0, d1, d2, d3, d4, d5, d6, d7⟩ := hSw; go_simp⟩) hH ?_
                try simp only [put_some, List.set_cons_zero, List.set_cons_succ]
                refine takeH (i := 33) (d := some 6) (v := .bool false) rfl rfl (by kernel_rfl) (by kernel_rfl) (by kernel_rfl) (fun _ _ _ h => h) (Or.inl ⟨by rfl, fun W hSw => by obtain ⟨d0, d1, d2, d3, d4, d5, d6, d7⟩ := hSw; go_simp⟩) hH ?_
                try simp only [put_some, List.set_cons_zero, List.set_cons_succ]
                refine wpAnyH_done (by kernel_rfl) ?_ _
                go_wp2
                go_ret
                exact ⟨ret_bool (by rw [HE.out]; rfl), below_then BR hB' BR.size⟩
            | true =>
              have := HVA2.out
              rw [hty] at this
              cases this
      exact absurd HKI.out k2

end Go.Proofs.YtafoldpmodipaaaDoor

/- The model's l11Deep, for a comparison with a value of the column's type (written by mk_S11p.py). -/
namespace Go.Proofs.YtafoldpmodipaaaDoor
open Go.RowKit

set_option maxRecDepth 100000 in
set_option maxHeartbeats 40000000 in
theorem sDeepS (cols : List Int) (t : T) (ih : ∀ x ∈ t.l, DeT cols x) (hk : t.kind = 2) (hok0 : okV t.v = true) (hty0 : (t.v.ty == cols.getD t.col.toNat 0) = true) : DeT cols t := by
  intro Q u vu d w hs hd h hv
  have HD := Lib.hid (T.deep_def cols t d)
  have HI := Lib.hid (fun q (hq : q < t.l.length) Q' u' W (hr : RdT Q' W (t.l.getD q T.zero) u') (hW : Below w.heap.size w W) => ih _ (kid_mem hq) Q' u' vu (d + 1) W (hs.kid hq) (by omega) hr (hv.below hW))
  have HAT := Lib.hid (fun (h : ∀ q, q < t.l.length → (fun x : T => x.deep cols (d + 1)) (t.l.getD q T.zero) = true) => all_of (l := t.l) (f := fun x : T => x.deep cols (d + 1)) h)
  have HAF := Lib.hid (fun q (hq : q < t.l.length) (h : (fun x : T => x.deep cols (d + 1)) (t.l.getD q T.zero) = false) => all_not (l := t.l) (f := fun x : T => x.deep cols (d + 1)) hq h)
  have HO1 := Lib.hid (T.own_1 (cols := cols) (t := t))
  have HO2 := Lib.hid (T.own_2 (cols := cols) (t := t))
  have HO3 := Lib.hid (T.own_34 (cols := cols) (t := t))
  have HO5 := Lib.hid (T.own_5 (cols := cols) (t := t))
  have HBA : Hid (t.bare = (t.col == 0 && (t.op == 0 && t.v.eqB ⟨0, 0, ⟨#[]⟩⟩))) := rfl
  have HVO := Lib.hid (fun W => sValOk t.v W hs.self)
  generalize hl : t.l.length = n at HI HAT HAF HO1 HO2 HO3 HO5
  obtain ⟨a, cap, rfl, hle, HC⟩ := h.kids hl
  generalize hm : cols.length = m at hv HO2
  obtain ⟨va, vcap, rfl, hvm, HVC⟩ := hv.ints hm
  have HRV := Lib.hid (fun W (hW : Below w.heap.size w W) => hv.below hW)
  unfold maxLen at hle hvm
  generalize t.deep cols d = res at HD ⊢
  generalize t.own cols = own at HD HO1 HO2 HO3 HO5
  generalize t.bare = bare at HBA HO1 HO3 HO5
  have HKI := Lib.hid hk
  have HVAR := Lib.hid hok0
  have HVA2 := Lib.hid hty0
  clear hk hok0 hty0
  clear h hl ih hm hs
  obtain ⟨k, c, o, ⟨vt, vn, vs⟩, l⟩ := t
  simp only [T.agg, T.kind, T.col, T.op, T.v, T.l] at HD HI HAT HAF HO1 HO2 HO3 HO5 HBA HVO HC HKI HVAR HVA2 ⊢
  have B0 := below_alloc w (.cells #[.int .i64 k, .int .i64 c, .int .i64 o, .int .i64 vt, .int .i64 vn, .string vs, .slice a n cap] 36)
  have C0 := blk_new w [.int .i64 k, .int .i64 c, .int .i64 o, .int .i64 vt, .int .i64 vn, .string vs, .slice a n cap] 36
  generalize hw0 : w.alloc (.cells #[.int .i64 k, .int .i64 c, .int .i64 o, .int .i64 vt, .int .i64 vn, .string vs, .slice a n cap] 36) = w0 at B0 C0
  have HW0 := Lib.hid hw0
  clear hw0
  have HK : Hid (∀ W, Below w0.heap.size w0 W → W.cell? ⟨w.heap.size, 0, none⟩ = some (.int .i64 k) ∧ W.cell? ⟨w.heap.size, 1, none⟩ = some (.int .i64 c) ∧ W.cell? ⟨w.heap.size, 2, none⟩ = some (.int .i64 o) ∧ W.cell? ⟨w.heap.size, 3, none⟩ = some (.int .i64 vt) ∧ W.cell? ⟨w.heap.size, 4, none⟩ = some (.int .i64 vn) ∧ W.cell? ⟨w.heap.size, 5, none⟩ = some (.string vs) ∧ W.cell? ⟨w.heap.size, 6, none⟩ = some (.slice a n cap)) := fun W hW => ⟨(C0.below hW 0 _ rfl).1, (C0.below hW 1 _ rfl).1, (C0.below hW 2 _ rfl).1, (C0.below hW 3 _ rfl).1, (C0.below hW 4 _ rfl).1, (C0.below hW 5 _ rfl).1, (C0.below hW 6 _ rfl).1⟩
  have HB0 := Lib.hid (Below.refl w0.heap.size w0)
  clear C0
  by_cases hbig : 4 < d
  · have HE : Hid (res = false) := by
      show _ = _
      rw [HD.out, decide_eq_false (by omega)]
      rfl
    clear HD HI HAT HAF HO1 HO2 HO3 HO5 HBA HVO HC HVC HRV hv
    go_enter Tryd.func58, Tryd.ntmps58
    go_wp2
    rw [HW0.out]
    go_ret
    exact ⟨ret_bool HE.out.symm, B0⟩
  have HD2 : Hid (res = (l.all (fun x => x.deep cols (d + 1)) && own)) := by
    show _ = _
    rw [HD.out, decide_eq_true (by omega), Bool.true_and]
  clear HD hv HRV
  go_enter Tryd.func58, Tryd.ntmps58
  go_wp2
  rw [HW0.out]
  go_loopw [7] (fun i wr => ∃ q : Nat, q ≤ n ∧ i = .int .i64 q ∧ (∀ j, j < q → (fun x : T => x.deep cols (d + 1)) (l.getD j T.zero) = true) ∧ Below w0.heap.size w0 wr) (fun i _ => n - (intOf i).toNat)
  case atStart => exact ⟨0, Nat.zero_le _, rfl, fun j hj => by omega, HB0.out⟩
  case round =>
    obtain ⟨q, hq, rfl, hpre, hbr⟩ := hrel
    have HPRE := Lib.hid hpre
    clear hpre
    obtain ⟨p0, p1, p2, p3, p4, p5, p6⟩ := HK.out wr hbr
    by_cases hlt : q < n
    · obtain ⟨b, off, u', rfl, hr, c0, c1, c2, c3, c4, c5, c6⟩ := HC.out q hlt wr (below_then B0 hbr B0.size)
      have HX := Lib.hid (HI.out q hlt _ u' wr hr (below_then B0 hbr B0.size))
      have HNX : Hid ((l.getD q T.zero).deep cols (d + 1) = false → res = false) := fun e => by
        rw [HD2.out, HAF.out q hlt e]
        rfl
      have HSX : Hid ((l.getD q T.zero).deep cols (d + 1) = true → ∀ j, j < q + 1 → (fun x : T => x.deep cols (d + 1)) (l.getD j T.zero) = true) := fun e j hj => by
        by_cases hjq : j = q
        · subst hjq; exact e
        · exact HPRE.out j (by omega)
      generalize (l.getD q T.zero).deep cols (d + 1) = r at HX HNX HSX
      generalize l.getD q T.zero = x at c0 c1 c2 c3 c4 c5 HX
      obtain ⟨xk, xc, xo, ⟨xt, xn, xs⟩, xl⟩ := x
      simp only at c0 c1 c2 c3 c4 c5 HX
      clear hr HPRE HI HO1 HO2 HO3 HO5 HBA HVO HVC
      cases r with
      | false =>
        have HN2 := Lib.hid (HNX.out rfl)
        go_wp2_with fail
        refine HX.out.mono ?_
        rintro e w2 ⟨rfl, b2⟩
        have B2 := below_then (below_then B0 hbr B0.size) b2 (by have := B0.size; have := hbr.size; omega)
        go_wp2
        go_ret
        exact ⟨ret_bool HN2.out.symm, B2⟩
      | true =>
        have HS2 := Lib.hid (HSX.out rfl)
        go_wp2_with fail
        refine HX.out.mono ?_
        rintro e w2 ⟨rfl, b2⟩
        have B2 := below_then hbr b2 hbr.size
        clear HX HNX HSX b2 hbr p0 p1 p2 p3 p4 p5 p6 c0 c1 c2 c3 c4 c5 c6
        go_wp2
        go_roundw
        case rel => exact ⟨q + 1, by omega, by go_num, HS2.out, B2⟩
        case measure => simp [intOf]; omega
    · obtain rfl : q = n := by omega
      have HE0 : Hid (res = own) := by
        show _ = _
        rw [HD2.out, HAT.out (fun j hj => HPRE.out j hj), Bool.true_and]
      have BR := below_then B0 hbr B0.size
      have HQ := Lib.hid (fun W => run_eql_val ⟨vt, vn, vs⟩ ⟨0, 0, ⟨#[]⟩⟩ W)
      have HIO : Hid (∀ W, Calls Tryd.prog 31 #[.int .i64 o, .int .i64 1, .int .i64 6] W fun e w' => e = .returned (.bool (Num.inB o 1 6)) ∧ W = w') := fun W => l1In o 1 6 W
      have HIC : Hid (∀ W, Calls Tryd.prog 31 #[.int .i64 c, .int .i64 0, .int .i64 ((m : Int) - 1)] W fun e w' => e = .returned (.bool (Num.inB c 0 ((m : Int) - 1))) ∧ W = w') := fun W => l1In c 0 _ W
      have HIL : Hid (∀ W, Calls Tryd.prog 31 #[.int .i64 (q : Int), .int .i64 1, .int .i64 4] W fun e w' => e = .returned (.bool (Num.inB q 1 4)) ∧ W = w') := fun W => l1In q 1 4 W
      obtain ⟨nz, hnz⟩ : ∃ z, (q == 0) = z := ⟨_, rfl⟩
      have hnzi : ((q : Int) == 0) = nz := by
        rw [← hnz]
        exact Bool.eq_iff_iff.2 (by simp)
      obtain ⟨n1, hn1⟩ : ∃ z, (q == 1) = z := ⟨_, rfl⟩
      have hn1i : ((q : Int) == 1) = n1 := by
        rw [← hn1]
        exact Bool.eq_iff_iff.2 (by simp; omega)
      rw [hnz] at HO1 HO2
      rw [hn1] at HO5
      clear HPRE HD2 HAT HAF HI HC hnz hn1 HB0 hlt hq hle
      have HBV : Hid (bare = (c == 0 && (o == 0 && V.eqB ⟨vt, vn, vs⟩ ⟨0, 0, ⟨#[]⟩⟩))) := HBA.out
      clear HBA
      generalize V.eqB ⟨vt, vn, vs⟩ ⟨0, 0, ⟨#[]⟩⟩ = vb0 at HBV HQ
      have hqv := HQ.out
      clear HQ
      have h3 : ((c == 0) = false ∧ Hid (bare = false)) ∨ ((c == 0) = true ∧ (o == 0) = false ∧ Hid (bare = false)) ∨ ((c == 0) = true ∧ (o == 0) = true ∧ Hid (bare = vb0)) := by
        cases hcb : (c == 0)
        · exact .inl ⟨rfl, by show _ = _; rw [HBV.out, hcb]; rfl⟩
        · cases hob : (o == 0)
          · exact .inr (.inl ⟨rfl, rfl, by show _ = _; rw [HBV.out, hcb, hob]; rfl⟩)
          · exact .inr (.inr ⟨rfl, rfl, by show _ = _; rw [HBV.out, hcb, hob]; rfl⟩)
      clear HBV
      by_cases k2 : k = 2
      · have HE : Hid (res = (Num.inB c 0 ((m : Int) - 1) && (okV ⟨vt, vn, vs⟩ && (vt == cols.getD c.toNat 0 && (Num.inB o 1 6 && nz))))) := HE0.out.trans (HO2.out k2)
        subst k2
        clear HE0 HO1 HO2 HO3 HO5 HIL hn1i
        have hwm : IntKind.i64.wrap ((m : Int) - 1) = (m : Int) - 1 := IntWalk.i64_in _ (by omega)
        cases hin : Num.inB c 0 ((m : Int) - 1) with
        | false =>
          rw [hin] at HE HIC
          have HIN : Hid (∀ W, Calls Tryd.prog 31 #[.int .i64 c, .int .i64 0, .int .i64 ((m : Int) - 1)] W fun e w' => e = .returned (.bool false) ∧ w' = W) := fun W => (HIC.out W).mono (fun _ _ h => ⟨h.1, h.2.symm⟩)
          clear hin HIC HVC HVO HIO
          rcases h3 with ⟨hcb, _⟩ | ⟨hcb, hob, _⟩ | ⟨hcb, hob, _⟩
          all_goals
            go_wp2
            go_quiet ((go_at_call 31; exact Calls.quiet_of_same (HIN.out _)))
            go_wp2
            go_ret
            exact ⟨ret_bool (by rw [HE.out]; rfl), BR.trans (below_drewN _ _ _)⟩
        | true =>
          obtain ⟨hc0, hc1⟩ := Num.inB_true.1 hin
          rw [hin] at HE HIC
          obtain ⟨X, rfl⟩ := Int.eq_ofNat_of_zero_le hc0
          have hX : X < m := by omega
          have hXI : (X : Int) < (m : Int) := by omega
          rw [Int.toNat_natCast] at HE HVA2
          obtain ⟨vb, voff, rfl, e0⟩ := HVC.out X hX
          generalize cols.getD X 0 = y at HE e0 HVA2
          have HKK : Hid (∀ W, Below wr.heap.size wr W → W.cell? ⟨w.heap.size, 0, none⟩ = some (.int .i64 2) ∧ W.cell? ⟨w.heap.size, 1, none⟩ = some (.int .i64 (X : Int)) ∧ W.cell? ⟨w.heap.size, 2, none⟩ = some (.int .i64 o) ∧ W.cell? ⟨w.heap.size, 3, none⟩ = some (.int .i64 vt) ∧ W.cell? ⟨w.heap.size, 4, none⟩ = some (.int .i64 vn) ∧ W.cell? ⟨w.heap.size, 5, none⟩ = some (.string vs) ∧ W.cell? ⟨w.heap.size, 6, none⟩ = some (.slice a q cap) ∧ W.cell? ⟨vb, voff + X, none⟩ = some (.int .i64 y)) := fun W hW => by
            have h1 := HK.out W (below_then hbr hW hbr.size)
            have h2 := below_then BR hW BR.size
            exact ⟨h1.1, h1.2.1, h1.2.2.1, h1.2.2.2.1, h1.2.2.2.2.1, h1.2.2.2.2.2.1, h1.2.2.2.2.2.2, (h2.cell (p := ⟨vb, voff + X, none⟩) (lt_of_cell e0)).trans e0⟩
          have HIN := Lib.hid HIC.out
          have hB' := (Below.refl wr.heap.size wr).drew
          clear HVC hin hc0 hc1 HIC HK e0 hX
          cases hok : okV ⟨vt, vn, vs⟩ with
          | false =>
            have := HVAR.out
            rw [hok] at this
            cases this
          | true =>
            rw [hok] at HE HVO
            clear hok
            cases hty : (vt == y) with
            | false =>
              have := HVA2.out
              rw [hty] at this
              cases this
            | true =>
              rw [hty] at HE
              cases hio : Num.inB o 1 6 with
              | false =>
                rw [hio] at HE HIO
                clear hio
                rcases h3 with ⟨hcb, _⟩ | ⟨hcb, hob, _⟩ | ⟨hcb, hob, _⟩
                all_goals
                  go_wp2
                  refine wp_region_held_drew (S := fun W => W.cell? ⟨w.heap.size, 0, none⟩ = some (.int .i64 2) ∧ W.cell? ⟨w.heap.size, 1, none⟩ = some (.int .i64 (X : Int)) ∧ W.cell? ⟨w.heap.size, 2, none⟩ = some (.int .i64 o) ∧ W.cell? ⟨w.heap.size, 3, none⟩ = some (.int .i64 vt) ∧ W.cell? ⟨w.heap.size, 4, none⟩ = some (.int .i64 vn) ∧ W.cell? ⟨w.heap.size, 5, none⟩ = some (.string vs) ∧ W.cell? ⟨w.heap.size, 6, none⟩ = some (.slice a q cap) ∧ W.cell? ⟨vb, voff + X, none⟩ = some (.int .i64 y)) (by kernel_rfl) (HKK.out _ hB') (fun hH => ?_)
                  refine takeH (i := 0) (d := some 55) (v := .pointer (some ⟨w.heap.size, 1, none⟩)) rfl rfl (by kernel_rfl) (by kernel_rfl) (by kernel_rfl) (fun _ _ _ h => h) (Or.inl ⟨by rfl, fun W hSw => by obtain ⟨d0, d1, d2, d3, d4, d5, d6, d7⟩ := hSw; go_simp⟩) hH ?_
                  try simp only [put_some, List.set_cons_zero, List.set_cons_succ]
                  refine takeH (i := 1) (d := some 56) (v := .int .i64 (X : Int)) rfl rfl (by kernel_rfl) (by kernel_rfl) (by kernel_rfl) (fun _ _ _ h => h) (Or.inl ⟨by rfl, fun W hSw => by obtain ⟨d0, d1, d2, d3, d4, d5, d6, d7⟩ := hSw; go_simp⟩) hH ?_
                  try simp only [put_some, List.set_cons_zero, List.set_cons_succ]
                  refine takeH (i := 2) (d := some 57) (v := .slice (some ⟨vb, voff, none⟩) m vcap) rfl rfl (by kernel_rfl) (by kernel_rfl) (by kernel_rfl) (fun _ _ _ h => h) (Or.inl ⟨by rfl, fun W hSw => by obtain ⟨d0, d1, d2, d3, d4, d5, d6, d7⟩ := hSw; go_simp⟩) hH ?_
                  try simp only [put_some, List.set_cons_zero, List.set_cons_succ]
                  refine takeH (i := 3) (d := some 58) (v := .int .i64 (m : Int)) rfl rfl (by kernel_rfl) (by kernel_rfl) (by kernel_rfl) (fun _ _ _ h => h) (Or.inl ⟨by rfl, fun W hSw => by obtain ⟨d0, d1, d2, d3, d4, d5, d6, d7⟩ := hSw; go_simp⟩) hH ?_
                  try simp only [put_some, List.set_cons_zero, List.set_cons_succ]
                  refine takeH (i := 4) (d := some 59) (v := .int .i64 ((m : Int) - 1)) rfl rfl (by kernel_rfl) (by kernel_rfl) (by kernel_rfl) (fun _ _ _ h => h) (Or.inl ⟨by rfl, fun W hSw => by obtain ⟨d0, d1, d2, d3, d4, d5, d6, d7⟩ := hSw; go_simp⟩) hH ?_
                  try simp only [put_some, List.set_cons_zero, List.set_cons_succ]
                  refine wpAnyH_ready (rs := [5]) (by kernel_rfl) (by simp) ?_
                  refine AllReadyH.cons rfl (fun K hK => ?_) AllReadyH.nil
                  go_simp
                  go_at_call 31
                  refine (HIN.out _).mono ?_
                  rintro e w2 ⟨rfl, rfl⟩
                  go_wp2_with fail
                  refine hK.out _ _ (HKK.out _ hB') (fun hH => ?_)
                  clear hK K
                  refine takeH (i := 6) (d := some 61) (v := .bool true) rfl rfl (by kernel_rfl) (by kernel_rfl) (by kernel_rfl) (fun _ _ _ h => h) (Or.inl ⟨by rfl, fun W hSw => by obtain ⟨d0, d1, d2, d3, d4, d5, d6, d7⟩ := hSw; go_simp⟩) hH ?_
                  try simp only [put_some, List.set_cons_zero, List.set_cons_succ]
                  refine takeH (i := 7) (d := some 62) (v := .pointer (some ⟨w.heap.size, 3, none⟩)) rfl rfl (by kernel_rfl) (by kernel_rfl) (by kernel_rfl) (fun _ _ _ h => h) (Or.inl ⟨by rfl, fun W hSw => by obtain ⟨d0, d1, d2, d3, d4, d5, d6, d7⟩ := hSw; go_simp⟩) hH ?_
                  try simp only [put_some, List.set_cons_zero, List.set_cons_succ]
                  refine takeH (i := 8) (d := some 63) (v := .agg #[.int .i64 vt, .int .i64 vn, .string vs]) rfl rfl (by kernel_rfl) (by kernel_rfl) (by kernel_rfl) (fun _ _ _ h => h) (Or.inl ⟨by rfl, fun W hSw => by obtain ⟨d0, d1, d2, d3, d4, d5, d6, d7⟩ := hSw; go_simp⟩) hH ?_
                  try simp only [put_some, List.set_cons_zero, List.set_cons_succ]
                  refine wpAnyH_ready (rs := [9]) (by kernel_rfl) (by simp) ?_
                  refine AllReadyH.cons rfl (fun K hK => ?_) AllReadyH.nil
                  go_simp
                  go_at_call 78
                  refine (HVO.out _).mono ?_
                  rintro e w2 ⟨rfl, hb2⟩
                  replace hB' := below_then hB' hb2 hB'.size
                  clear hb2
                  go_wp2_with fail
                  refine hK.out _ _ (HKK.out _ hB') (fun hH => ?_)
                  clear hK K
                  refine takeH (i := 10) (d := some 65) (v := .bool true) rfl rfl (by kernel_rfl) (by kernel_rfl) (by kernel_rfl) (fun _ _ _ h => h) (Or.inl ⟨by rfl, fun W hSw => by obtain ⟨d0, d1, d2, d3, d4, d5, d6, d7⟩ := hSw; go_simp⟩) hH ?_
                  try simp only [put_some, List.set_cons_zero, List.set_cons_succ]
                  refine takeH (i := 11) (d := some 66) (v := .bool true) rfl rfl (by kernel_rfl) (by kernel_rfl) (by kernel_rfl) (fun _ _ _ h => h) (Or.inl ⟨by rfl, fun W hSw => by obtain ⟨d0, d1, d2, d3, d4, d5, d6, d7⟩ := hSw; go_simp⟩) hH ?_
                  try simp only [put_some, List.set_cons_zero, List.set_cons_succ]
                  refine takeH (i := 12) (d := some 67) (v := .pointer (some ⟨w.heap.size, 3, none⟩)) rfl rfl (by kernel_rfl) (by kernel_rfl) (by kernel_rfl) (fun _ _ _ h => h) (Or.inl ⟨by rfl, fun W hSw => by obtain ⟨d0, d1, d2, d3, d4, d5, d6, d7⟩ := hSw; go_simp⟩) hH ?_
                  try simp only [put_some, List.set_cons_zero, List.set_cons_succ]
                  refine takeH (i := 13) (d := some 68) (v := .pointer (some ⟨w.heap.size, 3, none⟩)) rfl rfl (by kernel_rfl) (by kernel_rfl) (by kernel_rfl) (fun _ _ _ h => h) (Or.inl ⟨by rfl, fun W hSw => by obtain ⟨d0, d1, d2, d3, d4, d5, d6, d7⟩ := hSw; go_simp⟩) hH ?_
                  try simp only [put_some, List.set_cons_zero, List.set_cons_succ]
                  refine takeH (i := 14) (d := some 69) (v := .int .i64 vt) rfl rfl (by kernel_rfl) (by kernel_rfl) (by kernel_rfl) (fun _ _ _ h => h) (Or.inl ⟨by rfl, fun W hSw => by obtain ⟨d0, d1, d2, d3, d4, d5, d6, d7⟩ := hSw; go_simp⟩) hH ?_
                  try simp only [put_some, List.set_cons_zero, List.set_cons_succ]
                  refine takeH (i := 15) (d := some 70) (v := .slice (some ⟨vb, voff, none⟩) m vcap) rfl rfl (by kernel_rfl) (by kernel_rfl) (by kernel_rfl) (fun _ _ _ h => h) (Or.inl ⟨by rfl, fun W hSw => by obtain ⟨d0, d1, d2, d3, d4, d5, d6, d7⟩ := hSw; go_simp⟩) hH ?_
                  try simp only [put_some, List.set_cons_zero, List.set_cons_succ]
                  refine takeH (i := 16) (d := some 71) (v := .pointer (some ⟨w.heap.size, 1, none⟩)) rfl rfl (by kernel_rfl) (by kernel_rfl) (by kernel_rfl) (fun _ _ _ h => h) (Or.inl ⟨by rfl, fun W hSw => by obtain ⟨d0, d1, d2, d3, d4, d5, d6, d7⟩ := hSw; go_simp⟩) hH ?_
                  try simp only [put_some, List.set_cons_zero, List.set_cons_succ]
                  refine takeH (i := 17) (d := some 72) (v := .int .i64 (X : Int)) rfl rfl (by kernel_rfl) (by kernel_rfl) (by kernel_rfl) (fun _ _ _ h => h) (Or.inl ⟨by rfl, fun W hSw => by obtain ⟨d0, d1, d2, d3, d4, d5, d6, d7⟩ := hSw; go_simp⟩) hH ?_
                  try simp only [put_some, List.set_cons_zero, List.set_cons_succ]
                  refine takeH (i := 18) (d := some 73) (v := .pointer (some ⟨vb, voff + X, none⟩)) rfl rfl (by kernel_rfl) (by kernel_rfl) (by kernel_rfl) (fun _ _ _ h => h) (Or.inl ⟨by rfl, fun W hSw => by obtain ⟨d0, d1, d2, d3, d4, d5, d6, d7⟩ := hSw; go_simp⟩) hH ?_
                  try simp only [put_some, List.set_cons_zero, List.set_cons_succ]
                  refine takeH (i := 19) (d := some 74) (v := .int .i64 y) rfl rfl (by kernel_rfl) (by kernel_rfl) (by kernel_rfl) (fun _ _ _ h => h) (Or.inl ⟨by rfl, fun W hSw => by obtain ⟨d0, d1, d2, d3, d4, d5, d6, d7⟩ := hSw; go_simp⟩) hH ?_
                  try simp only [put_some, List.set_cons_zero, List.set_cons_succ]
                  refine takeH (i := 20) (d := some 75) (v := .bool true) rfl rfl (by kernel_rfl) (by kernel_rfl) (by kernel_rfl) (fun _ _ _ h => h) (Or.inl ⟨by rfl, fun W hSw => by obtain ⟨d0, d1, d2, d3, d4, d5, d6, d7⟩ := hSw; go_simp⟩) hH ?_
                  try simp only [put_some, List.set_cons_zero, List.set_cons_succ]
                  refine takeH (i := 21) (d := some 76) (v := .bool true) rfl rfl (by kernel_rfl) (by kernel_rfl) (by kernel_rfl) (fun _ _ _ h => h) (Or.inl ⟨by rfl, fun W hSw => by obtain ⟨d0, d1, d2, d3, d4, d5, d6, d7⟩ := hSw; go_simp⟩) hH ?_
                  try simp only [put_some, List.set_cons_zero, List.set_cons_succ]
                  refine takeH (i := 22) (d := some 77) (v := .bool true) rfl rfl (by kernel_rfl) (by kernel_rfl) (by kernel_rfl) (fun _ _ _ h => h) (Or.inl ⟨by rfl, fun W hSw => by obtain ⟨d0, d1, d2, d3, d4, d5, d6, d7⟩ := hSw; go_simp⟩) hH ?_
                  try simp only [put_some, List.set_cons_zero, List.set_cons_succ]
                  refine takeH (i := 23) (d := some 78) (v := .pointer (some ⟨w.heap.size, 2, none⟩)) rfl rfl (by kernel_rfl) (by kernel_rfl) (by kernel_rfl) (fun _ _ _ h => h) (Or.inl ⟨by rfl, fun W hSw => by obtain ⟨d0, d1, d2, d3, d4, d5, d6, d7⟩ := hSw; go_simp⟩) hH ?_
                  try simp only [put_some, List.set_cons_zero, List.set_cons_succ]
                  refine takeH (i := 24) (d := some 79) (v := .int .i64 o) rfl rfl (by kernel_rfl) (by kernel_rfl) (by kernel_rfl) (fun _ _ _ h => h) (Or.inl ⟨by rfl, fun W hSw => by obtain ⟨d0, d1, d2, d3, d4, d5, d6, d7⟩ := hSw; go_simp⟩) hH ?_
                  try simp only [put_some, List.set_cons_zero, List.set_cons_succ]
                  refine wpAnyH_ready (rs := [25]) (by kernel_rfl) (by simp) ?_
                  refine AllReadyH.cons rfl (fun K hK => ?_) AllReadyH.nil
                  go_simp
                  go_at_call 31
                  refine (HIO.out _).mono ?_
                  rintro e w2 ⟨rfl, rfl⟩
                  go_wp2_with fail
                  refine hK.out _ _ (HKK.out _ hB') (fun hH => ?_)
                  clear hK K
                  refine takeH (i := 26) (d := some 81) (v := .bool false) rfl rfl (by kernel_rfl) (by kernel_rfl) (by kernel_rfl) (fun _ _ _ h => h) (Or.inl ⟨by rfl, fun W hSw => by obtain ⟨d0, d1, d2, d3, d4, d5, d6, d7⟩ := hSw; go_simp⟩) hH ?_
                  try simp only [put_some, List.set_cons_zero, List.set_cons_succ]
                  refine takeH (i := 27) (d := some 82) (v := .bool false) rfl rfl (by kernel_rfl) (by kernel_rfl) (by kernel_rfl) (fun _ _ _ h => h) (Or.inl ⟨by rfl, fun W hSw => by obtain ⟨d0, d1, d2, d3, d4, d5, d6, d7⟩ := hSw; go_simp⟩) hH ?_
                  try simp only [put_some, List.set_cons_zero, List.set_cons_succ]
                  refine takeH (i := 28) (d := some 83) (v := undef) rfl rfl (by kernel_rfl) (by kernel_rfl) (by kernel_rfl) (fun _ _ _ h => h) (Or.inr ⟨by rfl, rfl⟩) hH ?_
                  try simp only [put_some, List.set_cons_zero, List.set_cons_succ]
                  refine takeH (i := 29) (d := some 84) (v := undef) rfl rfl (by kernel_rfl) (by kernel_rfl) (by kernel_rfl) (fun _ _ _ h => h) (Or.inr ⟨by rfl, rfl⟩) hH ?_
                  try simp only [put_some, List.set_cons_zero, List.set_cons_succ]
                  refine takeH (i := 30) (d := some 85) (v := undef) rfl rfl (by kernel_rfl) (by kernel_rfl) (by kernel_rfl) (fun _ _ _ h => h) (Or.inr ⟨by rfl, rfl⟩) hH ?_
                  try simp only [put_some, List.set_cons_zero, List.set_cons_succ]
                  refine takeH (i := 31) (d := some 86) (v := undef) rfl rfl (by kernel_rfl) (by kernel_rfl) (by kernel_rfl) (fun _ _ _ h => h) (Or.inr ⟨by rfl, rfl⟩) hH ?_
                  try simp only [put_some, List.set_cons_zero, List.set_cons_succ]
                  refine takeH (i := 32) (d := some 87) (v := .bool false) rfl rfl (by kernel_rfl) (by kernel_rfl) (by kernel_rfl) (fun _ _ _ h => h) (Or.inl ⟨by rfl, fun W hSw => by obtain ⟨d0, d1, d2, d3, d4, d5, d6, d7⟩ := hSw; go_simp⟩) hH ?_
                  try simp only [put_some, List.set_cons_zero, List.set_cons_succ]
                  refine takeH (i := 33) (d := some 6) (v := .bool false) rfl rfl (by kernel_rfl) (by kernel_rfl) (by kernel_rfl) (fun _ _ _ h => h) (Or.inl ⟨by rfl, fun W hSw => by obtain ⟨d0, d1, d2, d3, d4, d5, d6, d7⟩ := hSw; go_simp⟩) hH ?_
                  try simp only [put_some, List.set_cons_zero, List.set_cons_succ]
                  refine wpAnyH_done (by kernel_rfl) ?_ _
                  go_wp2
                  go_ret
                  exact ⟨ret_bool (by rw [HE.out]; rfl), below_then BR hB' BR.size⟩
              | true =>
                rw [hio] at HE HIO
                clear hio
                rcases h3 with ⟨hcb, _⟩ | ⟨hcb, hob, _⟩ | ⟨hcb, hob, _⟩
                all_goals
                  go_wp2
                  refine wp_region_held_drew (S := fun W => W.cell? ⟨w.heap.size, 0, none⟩ = some (.int .i64 2) ∧ W.cell? ⟨w.heap.size, 1, none⟩ = some (.int .i64 (X : Int)) ∧ W.cell? ⟨w.heap.size, 2, none⟩ = some (.int .i64 o) ∧ W.cell? ⟨w.heap.size, 3, none⟩ = some (.int .i64 vt) ∧ W.cell? ⟨w.heap.size, 4, none⟩ = some (.int .i64 vn) ∧ W.cell? ⟨w.heap.size, 5, none⟩ = some (.string vs) ∧ W.cell? ⟨w.heap.size, 6, none⟩ = some (.slice a q cap) ∧ W.cell? ⟨vb, voff + X, none⟩ = some (.int .i64 y)) (by kernel_rfl) (HKK.out _ hB') (fun hH => ?_)
                  refine takeH (i := 0) (d := some 55) (v := .pointer (some ⟨w.heap.size, 1, none⟩)) rfl rfl (by kernel_rfl) (by kernel_rfl) (by kernel_rfl) (fun _ _ _ h => h) (Or.inl ⟨by rfl, fun W hSw => by obtain ⟨d0, d1, d2, d3, d4, d5, d6, d7⟩ := hSw; go_simp⟩) hH ?_
                  try simp only [put_some, List.set_cons_zero, List.set_cons_succ]
                  refine takeH (i := 1) (d := some 56) (v := .int .i64 (X : Int)) rfl rfl (by kernel_rfl) (by kernel_rfl) (by kernel_rfl) (fun _ _ _ h => h) (Or.inl ⟨by rfl, fun W hSw => by obtain ⟨d0, d1, d2, d3, d4, d5, d6, d7⟩ := hSw; go_simp⟩) hH ?_
                  try simp only [put_some, List.set_cons_zero, List.set_cons_succ]
                  refine takeH (i := 2) (d := some 57) (v := .slice (some ⟨vb, voff, none⟩) m vcap) rfl rfl (by kernel_rfl) (by kernel_rfl) (by kernel_rfl) (fun _ _ _ h => h) (Or.inl ⟨by rfl, fun W hSw => by obtain ⟨d0, d1, d2, d3, d4, d5, d6, d7⟩ := hSw; go_simp⟩) hH ?_
                  try simp only [put_some, List.set_cons_zero, List.set_cons_succ]
                  refine takeH (i := 3) (d := some 58) (v := .int .i64 (m : Int)) rfl rfl (by kernel_rfl) (by kernel_rfl) (by kernel_rfl) (fun _ _ _ h => h) (Or.inl ⟨by rfl, fun W hSw => by obtain ⟨d0, d1, d2, d3, d4, d5, d6, d7⟩ := hSw; go_simp⟩) hH ?_
                  try simp only [put_some, List.set_cons_zero, List.set_cons_succ]
                  refine takeH (i := 4) (d := some 59) (v := .int .i64 ((m : Int) - 1)) rfl rfl (by kernel_rfl) (by kernel_rfl) (by kernel_rfl) (fun _ _ _ h => h) (Or.inl ⟨by rfl, fun W hSw => by obtain ⟨d0, d1, d2, d3, d4, d5, d6, d7⟩ := hSw; go_simp⟩) hH ?_
                  try simp only [put_some, List.set_cons_zero, List.set_cons_succ]
                  refine wpAnyH_ready (rs := [5]) (by kernel_rfl) (by simp) ?_
                  refine AllReadyH.cons rfl (fun K hK => ?_) AllReadyH.nil
                  go_simp
                  go_at_call 31
                  refine (HIN.out _).mono ?_
                  rintro e w2 ⟨rfl, rfl⟩
                  go_wp2_with fail
                  refine hK.out _ _ (HKK.out _ hB') (fun hH => ?_)
                  clear hK K
                  refine takeH (i := 6) (d := some 61) (v := .bool true) rfl rfl (by kernel_rfl) (by kernel_rfl) (by kernel_rfl) (fun _ _ _ h => h) (Or.inl ⟨by rfl, fun W hSw => by obtain ⟨d0, d1, d2, d3, d4, d5, d6, d7⟩ := hSw; go_simp⟩) hH ?_
                  try simp only [put_some, List.set_cons_zero, List.set_cons_succ]
                  refine takeH (i := 7) (d := some 62) (v := .pointer (some ⟨w.heap.size, 3, none⟩)) rfl rfl (by kernel_rfl) (by kernel_rfl) (by kernel_rfl) (fun _ _ _ h => h) (Or.inl ⟨by rfl, fun W hSw => by obtain ⟨d0, d1, d2, d3, d4, d5, d6, d7⟩ := hSw; go_simp⟩) hH ?_
                  try simp only [put_some, List.set_cons_zero, List.set_cons_succ]
                  refine takeH (i := 8) (d := some 63) (v := .agg #[.int .i64 vt, .int .i64 vn, .string vs]) rfl rfl (by kernel_rfl) (by kernel_rfl) (by kernel_rfl) (fun _ _ _ h => h) (Or.inl ⟨by rfl, fun W hSw => by obtain ⟨d0, d1, d2, d3, d4, d5, d6, d7⟩ := hSw; go_simp⟩) hH ?_
                  try simp only [put_some, List.set_cons_zero, List.set_cons_succ]
                  refine wpAnyH_ready (rs := [9]) (by kernel_rfl) (by simp) ?_
                  refine AllReadyH.cons rfl (fun K hK => ?_) AllReadyH.nil
                  go_simp
                  go_at_call 78
                  refine (HVO.out _).mono ?_
                  rintro e w2 ⟨rfl, hb2⟩
                  replace hB' := below_then hB' hb2 hB'.size
                  clear hb2
                  go_wp2_with fail
                  refine hK.out _ _ (HKK.out _ hB') (fun hH => ?_)
                  clear hK K
                  refine takeH (i := 10) (d := some 65) (v := .bool true) rfl rfl (by kernel_rfl) (by kernel_rfl) (by kernel_rfl) (fun _ _ _ h => h) (Or.inl ⟨by rfl, fun W hSw => by obtain ⟨d0, d1, d2, d3, d4, d5, d6, d7⟩ := hSw; go_simp⟩) hH ?_
                  try simp only [put_some, List.set_cons_zero, List.set_cons_succ]
                  refine takeH (i := 11) (d := some 66) (v := .bool true) rfl rfl (by kernel_rfl) (by kernel_rfl) (by kernel_rfl) (fun _ _ _ h => h) (Or.inl ⟨by rfl, fun W hSw => by obtain ⟨d0, d1, d2, d3, d4, d5, d6, d7⟩ := hSw; go_simp⟩) hH ?_
                  try simp only [put_some, List.set_cons_zero, List.set_cons_succ]
                  refine takeH (i := 12) (d := some 67) (v := .pointer (some ⟨w.heap.size, 3, none⟩)) rfl rfl (by kernel_rfl) (by kernel_rfl) (by kernel_rfl) (fun _ _ _ h => h) (Or.inl ⟨by rfl, fun W hSw => by obtain ⟨d0, d1, d2, d3, d4, d5, d6, d7⟩ := hSw; go_simp⟩) hH ?_
                  try simp only [put_some, List.set_cons_zero, List.set_cons_succ]
                  refine takeH (i := 13) (d := some 68) (v := .pointer (some ⟨w.heap.size, 3, none⟩)) rfl rfl (by kernel_rfl) (by kernel_rfl) (by kernel_rfl) (fun _ _ _ h => h) (Or.inl ⟨by rfl, fun W hSw => by obtain ⟨d0, d1, d2, d3, d4, d5, d6, d7⟩ := hSw; go_simp⟩) hH ?_
                  try simp only [put_some, List.set_cons_zero, List.set_cons_succ]
                  refine takeH (i := 14) (d := some 69) (v := .int .i64 vt) rfl rfl (by kernel_rfl) (by kernel_rfl) (by kernel_rfl) (fun _ _ _ h => h) (Or.inl ⟨by rfl, fun W hSw => by obtain ⟨d0, d1, d2, d3, d4, d5, d6, d7⟩ := hSw; go_simp⟩) hH ?_
                  try simp only [put_some, List.set_cons_zero, List.set_cons_succ]
                  refine takeH (i := 15) (d := some 70) (v := .slice (some ⟨vb, voff, none⟩) m vcap) rfl rfl (by kernel_rfl) (by kernel_rfl) (by kernel_rfl) (fun _ _ _ h => h) (Or.inl ⟨by rfl, fun W hSw => by obtain ⟨d0, d1, d2, d3, d4, d5, d6, d7⟩ := hSw; go_simp⟩) hH ?_
                  try simp only [put_some, List.set_cons_zero, List.set_cons_succ]
                  refine takeH (i := 16) (d := some 71) (v := .pointer (some ⟨w.heap.size, 1, none⟩)) rfl rfl (by kernel_rfl) (by kernel_rfl) (by kernel_rfl) (fun _ _ _ h => h) (Or.inl ⟨by rfl, fun W hSw => by obtain ⟨d0, d1, d2, d3, d4, d5, d6, d7⟩ := hSw; go_simp⟩) hH ?_
                  try simp only [put_some, List.set_cons_zero, List.set_cons_succ]
                  refine takeH (i := 17) (d := some 72) (v := .int .i64 (X : Int)) rfl rfl (by kernel_rfl) (by kernel_rfl) (by kernel_rfl) (fun _ _ _ h => h) (Or.inl ⟨by rfl, fun W hSw => by obtain ⟨d0, d1, d2, d3, d4, d5, d6, d7⟩ := hSw; go_simp⟩) hH ?_
                  try simp only [put_some, List.set_cons_zero, List.set_cons_succ]
                  refine takeH (i := 18) (d := some 73) (v := .pointer (some ⟨vb, voff + X, none⟩)) rfl rfl (by kernel_rfl) (by kernel_rfl) (by kernel_rfl) (fun _ _ _ h => h) (Or.inl ⟨by rfl, fun W hSw => by obtain ⟨d0, d1, d2, d3, d4, d5, d6, d7⟩ := hSw; go_simp⟩) hH ?_
                  try simp only [put_some, List.set_cons_zero, List.set_cons_succ]
                  refine takeH (i := 19) (d := some 74) (v := .int .i64 y) rfl rfl (by kernel_rfl) (by kernel_rfl) (by kernel_rfl) (fun _ _ _ h => h) (Or.inl ⟨by rfl, fun W hSw => by obtain ⟨d0, d1, d2, d3, d4, d5, d6, d7⟩ := hSw; go_simp⟩) hH ?_
                  try simp only [put_some, List.set_cons_zero, List.set_cons_succ]
                  refine takeH (i := 20) (d := some 75) (v := .bool true) rfl rfl (by kernel_rfl) (by kernel_rfl) (by kernel_rfl) (fun _ _ _ h => h) (Or.inl ⟨by rfl, fun W hSw => by obtain ⟨d0, d1, d2, d3, d4, d5, d6, d7⟩ := hSw; go_simp⟩) hH ?_
                  try simp only [put_some, List.set_cons_zero, List.set_cons_succ]
                  refine takeH (i := 21) (d := some 76) (v := .bool true) rfl rfl (by kernel_rfl) (by kernel_rfl) (by kernel_rfl) (fun _ _ _ h => h) (Or.inl ⟨by rfl, fun W hSw => by obtain ⟨d0, d1, d2, d3, d4, d5, d6, d7⟩ := hSw; go_simp⟩) hH ?_
                  try simp only [put_some, List.set_cons_zero, List.set_cons_succ]
                  refine takeH (i := 22) (d := some 77) (v := .bool true) rfl rfl (by kernel_rfl) (by kernel_rfl) (by kernel_rfl) (fun _ _ _ h => h) (Or.inl ⟨by rfl, fun W hSw => by obtain ⟨d0, d1, d2, d3, d4, d5, d6, d7⟩ := hSw; go_simp⟩) hH ?_
                  try simp only [put_some, List.set_cons_zero, List.set_cons_succ]
                  refine takeH (i := 23) (d := some 78) (v := .pointer (some ⟨w.heap.size, 2, none⟩)) rfl rfl (by kernel_rfl) (by kernel_rfl) (by kernel_rfl) (fun _ _ _ h => h) (Or.inl ⟨by rfl, fun W hSw => by obtain ⟨d0, d1, d2, d3, d4, d5, d6, d7⟩ := hSw; go_simp⟩) hH ?_
                  try simp only [put_some, List.set_cons_zero, List.set_cons_succ]
                  refine takeH (i := 24) (d := some 79) (v := .int .i64 o) rfl rfl (by kernel_rfl) (by kernel_rfl) (by kernel_rfl) (fun _ _ _ h => h) (Or.inl ⟨by rfl, fun W hSw => by obtain ⟨d0, d1, d2, d3, d4, d5, d6, d7⟩ := hSw; go_simp⟩) hH ?_
                  try simp only [put_some, List.set_cons_zero, List.set_cons_succ]
                  refine wpAnyH_ready (rs := [25]) (by kernel_rfl) (by simp) ?_
                  refine AllReadyH.cons rfl (fun K hK => ?_) AllReadyH.nil
                  go_simp
                  go_at_call 31
                  refine (HIO.out _).mono ?_
                  rintro e w2 ⟨rfl, rfl⟩
                  go_wp2_with fail
                  refine hK.out _ _ (HKK.out _ hB') (fun hH => ?_)
                  clear hK K
                  refine takeH (i := 26) (d := some 81) (v := .bool true) rfl rfl (by kernel_rfl) (by kernel_rfl) (by kernel_rfl) (fun _ _ _ h => h) (Or.inl ⟨by rfl, fun W hSw => by obtain ⟨d0, d1, d2, d3, d4, d5, d6, d7⟩ := hSw; go_simp⟩) hH ?_
                  try simp only [put_some, List.set_cons_zero, List.set_cons_succ]
                  refine takeH (i := 27) (d := some 82) (v := .bool true) rfl rfl (by kernel_rfl) (by kernel_rfl) (by kernel_rfl) (fun _ _ _ h => h) (Or.inl ⟨by rfl, fun W hSw => by obtain ⟨d0, d1, d2, d3, d4, d5, d6, d7⟩ := hSw; go_simp⟩) hH ?_
                  try simp only [put_some, List.set_cons_zero, List.set_cons_succ]
                  refine takeH (i := 28) (d := some 83) (v := .pointer (some ⟨w.heap.size, 6, none⟩)) rfl rfl (by kernel_rfl) (by kernel_rfl) (by kernel_rfl) (fun _ _ _ h => h) (Or.inl ⟨by rfl, fun W hSw => by obtain ⟨d0, d1, d2, d3, d4, d5, d6, d7⟩ := hSw; go_simp⟩) hH ?_
                  try simp only [put_some, List.set_cons_zero, List.set_cons_succ]
                  refine takeH (i := 29) (d := some 84) (v := .slice a q cap) rfl rfl (by kernel_rfl) (by kernel_rfl) (by kernel_rfl) (fun _ _ _ h => h) (Or.inl ⟨by rfl, fun W hSw => by obtain ⟨d0, d1, d2, d3, d4, d5, d6, d7⟩ := hSw; go_simp⟩) hH ?_
                  try simp only [put_some, List.set_cons_zero, List.set_cons_succ]
                  refine takeH (i := 30) (d := some 85) (v := .int .i64 (q : Int)) rfl rfl (by kernel_rfl) (by kernel_rfl) (by kernel_rfl) (fun _ _ _ h => h) (Or.inl ⟨by rfl, fun W hSw => by obtain ⟨d0, d1, d2, d3, d4, d5, d6, d7⟩ := hSw; go_simp⟩) hH ?_
                  try simp only [put_some, List.set_cons_zero, List.set_cons_succ]
                  refine takeH (i := 31) (d := some 86) (v := .bool nz) rfl rfl (by kernel_rfl) (by kernel_rfl) (by kernel_rfl) (fun _ _ _ h => h) (Or.inl ⟨by rfl, fun W hSw => by obtain ⟨d0, d1, d2, d3, d4, d5, d6, d7⟩ := hSw; go_simp⟩) hH ?_
                  try simp only [put_some, List.set_cons_zero, List.set_cons_succ]
                  refine takeH (i := 32) (d := some 87) (v := .bool nz) rfl rfl (by kernel_rfl) (by kernel_rfl) (by kernel_rfl) (fun _ _ _ h => h) (Or.inl ⟨by rfl, fun W hSw => by obtain ⟨d0, d1, d2, d3, d4, d5, d6, d7⟩ := hSw; go_simp⟩) hH ?_
                  try simp only [put_some, List.set_cons_zero, List.set_cons_succ]
                  refine takeH (i := 33) (d := some 6) (v := .bool nz) rfl rfl (by kernel_rfl) (by kernel_rfl) (by kernel_rfl) (fun _ _ _ h => h) (Or.inl ⟨by rfl, fun W hSw => by obtain ⟨d0, d1, d2, d3, d4, d5, d6, d7⟩ := hSw; go_simp⟩) hH ?_
                  try simp only [put_some, List.set_cons_zero, List.set_cons_succ]
                  refine wpAnyH_done (by kernel_rfl) ?_ _
                  go_wp2
                  go_ret
                  exact ⟨ret_bool (by rw [HE.out]; rfl), below_then BR hB' BR.size⟩
      exact absurd HKI.out k2

end Go.Proofs.YtafoldpmodipaaaDoor

/- The model's l11Deep and PredOk (written by mk_S11p.py). -/
namespace Go.Proofs.YtafoldpmodipaaaDoor
open Go.RowKit

theorem sDeep (cols : List Int) : ∀ t : T, DeT cols t := T.induct (fun t ih => by
  by_cases hk : t.kind = 2
  · cases hok : okV t.v with
    | false => exact sDeepF cols t ih hk hok
    | true =>
      cases hty : (t.v.ty == cols.getD t.col.toNat 0) with
      | false => exact sDeepT cols t ih hk hok hty
      | true => exact sDeepS cols t ih hk hok hty
  · exact sDeepN cols t ih hk)

end Go.Proofs.YtafoldpmodipaaaDoor

/- The model's PredOk. -/
namespace Go.Proofs.YtafoldpmodipaaaDoor
open Go.RowKit

/-- PredOk. -/
def T.predOk (cols : List Int) (t : T) : Bool := colsB cols && t.ok cols

set_option maxHeartbeats 2000000 in
theorem sPredOk (cols : List Int) (t : T) (Q : Nat → Prop) (u vu : Value) (w : World) (hs : t.Small) (hbk : t.bulk ≤ 1073741824) (h : RdT Q w t u) (hv : Rd 1 w vu cols.length (ints .i64 cols)) :
    Calls Tryd.prog 30 #[vu, t.agg u] w fun e w' => e = .returned (.bool (t.predOk cols)) ∧ Below w.heap.size w w' := by
  have HE : Hid (t.predOk cols = (colsB cols && (t.deep cols 1 && decide (t.count ≤ 8)))) := rfl
  have HC := Lib.hid (fun W (hW : Below w.heap.size w W) => sColsOk vu cols W (hv.below hW))
  have HD := Lib.hid (fun W (hW : Below w.heap.size w W) => sDeep cols t Q u vu 1 W hs (by omega) (h.below hW) (hv.below hW))
  have HN := Lib.hid (fun W (hW : Below w.heap.size w W) => sCount t Q u W hbk (h.below hW))
  have B0 := below_alloc w (.cells (t.cs u).toArray 36)
  have C0 := blk_new w (t.cs u) 36
  have hcb : t.count ≤ 1073741824 := Nat.le_trans (t.count_le_bulk) hbk
  generalize t.predOk cols = res at HE ⊢
  generalize t.deep cols 1 = dp at HE HD
  generalize t.count = ct at HE HN hcb
  clear h hv hs hbk
  obtain ⟨k, c, o, ⟨vt, vn, vs⟩, l⟩ := t
  simp only [T.agg, T.kind, T.col, T.op, T.v, T.cs] at HD HN B0 C0 ⊢
  cases hcc : colsB cols with
  | false =>
    rw [hcc] at HE HC
    go_enter Tryd.func30, Tryd.ntmps30
    go_wp2_with fail
    refine (HC.out _ B0).mono ?_
    rintro e w1 ⟨rfl, rfl⟩
    go_wp2
    go_ret
    exact ⟨ret_bool (by rw [HE.out]; rfl), B0⟩
  | true =>
    rw [hcc] at HE HC
    go_enter Tryd.func30, Tryd.ntmps30
    go_wp2_with fail
    refine (HC.out _ B0).mono ?_
    rintro e w1 ⟨rfl, rfl⟩
    go_wp2_with fail
    refine (HD.out _ B0).mono ?_
    rintro e w2 ⟨rfl, b2⟩
    have B2 := below_then B0 b2 B0.size
    have C2 := C0.below b2
    have p0 := (C2 0 _ rfl).1
    have p1 := (C2 1 _ rfl).1
    have p2 := (C2 2 _ rfl).1
    have p3 := (C2 3 _ rfl).1
    have p4 := (C2 4 _ rfl).1
    have p5 := (C2 5 _ rfl).1
    have p6 := (C2 6 _ rfl).1
    clear b2 C0 C2 B0
    cases dp with
    | false =>
      go_wp2
      go_ret
      exact ⟨ret_bool (by rw [HE.out]; rfl), B2⟩
    | true =>
      go_wp2_with fail
      refine (HN.out _ B2).mono ?_
      rintro e w3 ⟨rfl, b3⟩
      have B3 := below_then B2 b3 B2.size
      clear b3
      go_wp2
      go_ret
      refine ⟨ret_bool ?_, B3⟩
      rw [HE.out]
      simp only [Bool.true_and]
      exact decide_eq_decide.2 (by omega)

end Go.Proofs.YtafoldpmodipaaaDoor

/- Plain mathematics: QueryOk. -/
namespace Go.Proofs.YtafoldpmodipaaaDoor
open Go.RowKit

/-- What a kind of query asks of its own fields. -/
def qform (cols : List Int) (qk qc : Int) (out : List Int) : Bool :=
  if qk = 1 then out.all (fun k => Num.inB k 0 ((cols.length : Int) - 1)) && (qc == 0 && Num.inB out.length 1 3)
  else if qk = 2 then qc == 0 && out.length == 0
  else if qk = 3 then Num.inB qc 0 ((cols.length : Int) - 1) && (cols.getD qc.toNat 0 == 1 && out.length == 0)
  else if qk = 4 ∨ qk = 5 then Num.inB qc 0 ((cols.length : Int) - 1) && out.length == 0
  else false
/-- QueryOk. -/
def queryOk (cols : List Int) (qk qc : Int) (t : T) (out : List Int) : Bool := t.predOk cols && qform cols qk qc out
theorem qform_1 {cols out : List Int} {qc : Int} : qform cols 1 qc out = (out.all (fun k => Num.inB k 0 ((cols.length : Int) - 1)) && (qc == 0 && Num.inB out.length 1 3)) := rfl
theorem qform_2 {cols out : List Int} {qc : Int} : qform cols 2 qc out = (qc == 0 && out.length == 0) := rfl
theorem qform_3 {cols out : List Int} {qc : Int} : qform cols 3 qc out = (Num.inB qc 0 ((cols.length : Int) - 1) && (cols.getD qc.toNat 0 == 1 && out.length == 0)) := rfl
theorem qform_4 {cols out : List Int} {qc : Int} : qform cols 4 qc out = (Num.inB qc 0 ((cols.length : Int) - 1) && out.length == 0) := rfl
theorem qform_5 {cols out : List Int} {qc : Int} : qform cols 5 qc out = (Num.inB qc 0 ((cols.length : Int) - 1) && out.length == 0) := rfl
theorem qform_no {cols out : List Int} {qk qc : Int} (h : ¬ (1 ≤ qk ∧ qk ≤ 5)) : qform cols qk qc out = false := by
  unfold qform
  rw [if_neg (by omega), if_neg (by omega), if_neg (by omega), if_neg (by omega)]
theorem allIn_no {out : List Int} {f : Int → Bool} {k : Nat} (hk : k < out.length) (h : f (out.getD k 0) = false) : out.all f = false := by
  rw [List.all_eq_false]
  refine ⟨out[k], List.getElem_mem hk, ?_⟩
  have e : out.getD k 0 = out[k] := by simp [hk]
  rw [← e, h]
  simp
theorem allIn_yes {out : List Int} {f : Int → Bool} (h : ∀ k, k < out.length → f (out.getD k 0) = true) : out.all f = true := by
  rw [List.all_eq_true]
  intro x hx
  obtain ⟨k, hk, rfl⟩ := List.getElem_of_mem hx
  have e : out.getD k 0 = out[k] := by simp [hk]
  rw [← e]
  exact h k hk

end Go.Proofs.YtafoldpmodipaaaDoor
