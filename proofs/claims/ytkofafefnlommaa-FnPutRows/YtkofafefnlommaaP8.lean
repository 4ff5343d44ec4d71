/- Texts of this claim, one behind the other: VSlice, RowS. -/
import Derived.Test.YtkofafefnlommaaP4
import Derived.Deep.RegionHeld3
import Derived.Deep.RegionWith

/- The laws' own helpers over slices of Vals: toValS, eqValS. -/
namespace Go.Proofs.Ytkofafefnlommaa
open Go.RowKit

theorem Try.elemVals : ElemT Try.prog 25 76 V.zero.agg 3 32 := ⟨Try.underlying25, info_parts (by kernel_rfl), rfl, by decide⟩

theorem made_flat {α : Type} (f : α → List Value) (x : α) (c n : Nat) (h0 : 0 < c) (hf : ∀ y, (f y).length = c) : (madeCells (f x).toArray (n * c)).toList = (List.replicate n x).flatMap f := by
  apply List.ext_getElem?
  intro i
  by_cases hi : i < n * c
  · have hd : i / c < n := Nat.div_lt_of_lt_mul (by rw [Nat.mul_comm]; exact hi)
    have hm : i % c < c := Nat.mod_lt _ h0
    have e := flat_get f c hf (List.replicate n x) (i / c) (i % c) (by simpa using hd) hm
    rw [Nat.div_add_mod'] at e
    rw [e, List.getElem_replicate]
    have hx : i % c < (f x).length := by rw [hf]; exact hm
    unfold madeCells
    simp [hi, hf, List.getElem?_eq_getElem hx]
  · rw [List.getElem?_eq_none (by simp [size_madeCells]; omega), List.getElem?_eq_none (by rw [flat_len f c hf]; simp; omega)]

theorem flat_set {α : Type} (f : α → List Value) (c : Nat) (hf : ∀ x, (f x).length = c) (l : List α) (k : Nat) (x : α) (hk : k < l.length) (i : Nat) :
    ((l.set k x).flatMap f)[i]? = if k * c ≤ i ∧ i < k * c + c then (f x)[i - k * c]? else (l.flatMap f)[i]? := by
  by_cases h0 : 0 < c
  · by_cases hi : i < l.length * c
    · have hd : i / c < l.length := Nat.div_lt_of_lt_mul (by rw [Nat.mul_comm]; exact hi)
      have hm : i % c < c := Nat.mod_lt _ h0
      have e1 := flat_get f c hf (l.set k x) (i / c) (i % c) (by simpa using hd) hm
      have e2 := flat_get f c hf l (i / c) (i % c) hd hm
      rw [Nat.div_add_mod'] at e1 e2
      rw [e1, e2, List.getElem_set]
      by_cases hkk : k = i / c
      · subst hkk
        have := Nat.div_add_mod' i c
        rw [if_pos rfl, if_pos ⟨by omega, by omega⟩, show i - i / c * c = i % c by omega]
      · rw [if_neg hkk, if_neg]
        rintro ⟨h1, h2⟩
        apply hkk
        have h3 : k ≤ i / c := (Nat.le_div_iff_mul_le h0).2 h1
        have h4 : i / c < k + 1 := (Nat.div_lt_iff_lt_mul h0).2 (by rw [Nat.succ_mul]; exact h2)
        omega
    · have h5 : k * c + c ≤ l.length * c := by
        have := Nat.mul_le_mul_right c (show k + 1 ≤ l.length by omega)
        rw [Nat.succ_mul] at this
        exact this
      rw [if_neg (by omega), List.getElem?_eq_none (by rw [flat_len f c hf]; simp; omega), List.getElem?_eq_none (by rw [flat_len f c hf]; omega)]
  · obtain rfl : c = 0 := by omega
    rw [if_neg (by omega), List.getElem?_eq_none (by rw [flat_len f 0 hf]; simp), List.getElem?_eq_none (by rw [flat_len f 0 hf]; simp)]
theorem vals_set (l : List V) (k : Nat) (v : V) (hk : k < l.length) : vals (l.set k v) = (((vals l).set (k * 3) (.int .i64 v.ty)).set (k * 3 + 1) (.int .i64 v.n)).set (k * 3 + 2) (.string v.s) := by
  have hl := vals_len l
  apply List.ext_getElem?
  intro i
  unfold vals at hl ⊢
  rw [flat_set V.cs 3 (fun _ => rfl) l k v hk i]
  simp only [List.getElem?_set, List.length_set]
  by_cases h2 : k * 3 + 2 = i
  · subst h2
    rw [if_pos (by omega), if_pos rfl, if_pos (by omega), show k * 3 + 2 - k * 3 = 2 by omega]
    rfl
  · by_cases h1 : k * 3 + 1 = i
    · subst h1
      rw [if_pos (by omega), if_neg (by omega), if_pos rfl, if_pos (by omega), show k * 3 + 1 - k * 3 = 1 by omega]
      rfl
    · by_cases h0 : k * 3 = i
      · subst h0
        rw [if_pos (by omega), if_neg (by omega), if_neg (by omega), if_pos rfl, if_pos (by omega), Nat.sub_self]
        rfl
      · rw [if_neg (by omega), if_neg h2, if_neg h1, if_neg h0]

/-- A copy of l after k rounds. -/
def halfV (l : List V) (k : Nat) : List V := l.take k ++ List.replicate (l.length - k) V.zero
theorem halfV_len {l : List V} {k : Nat} (h : k ≤ l.length) : (halfV l k).length = l.length := by simp [halfV]; omega
theorem halfV_all (l : List V) : halfV l l.length = l := by simp [halfV]
theorem halfV_set {l : List V} {k : Nat} (h : k < l.length) : (halfV l k).set k l[k] = halfV l (k + 1) := by
  have hl : (l.take k).length = k := by simp; omega
  unfold halfV
  rw [List.set_append_right _ _ (by omega), hl, Nat.sub_self, show l.length - k = (l.length - (k + 1)) + 1 by omega, List.replicate_succ, List.set_cons_zero, List.take_succ_eq_append_getElem h, List.append_assoc]
  rfl

/-- The cells of element k of an owned slice, stored anew. -/
theorem stored3 {w : World} {lo : Nat} {e : TypeId} {g n cap : Nat} {l : List V} (h : w.ownsRow lo e 3 (.slice (some ⟨g, 0, none⟩) n cap) n (vals l)) (k : Nat) (v : V) (hk : k < l.length) :
    (((w.setCell ⟨g, k * 3, none⟩ (.int .i64 v.ty)).setCell ⟨g, k * 3 + 1, none⟩ (.int .i64 v.n)).setCell ⟨g, k * 3 + 2, none⟩ (.string v.s)).ownsRow lo e 3 (.slice (some ⟨g, 0, none⟩) n cap) n (vals (l.set k v)) ∧
      w.grownBy (((w.setCell ⟨g, k * 3, none⟩ (.int .i64 v.ty)).setCell ⟨g, k * 3 + 1, none⟩ (.int .i64 v.n)).setCell ⟨g, k * 3 + 2, none⟩ (.string v.s)) (some g) := by
  have s1 := h.stored (k * 3) (.int .i64 v.ty)
  have s2 := s1.1.stored (k * 3 + 1) (.int .i64 v.n)
  have s3 := s2.1.stored (k * 3 + 2) (.string v.s)
  rw [vals_set l k v hk]
  exact ⟨s3.1, (s1.2.trans s2.2).trans s3.2⟩

theorem own_of_row {w : World} {lo : Nat} {e : TypeId} {size g n cap : Nat} {xs : List Value} (h : w.ownsRow lo e size (.slice (some ⟨g, 0, none⟩) n cap) n xs) (hg : lo ≤ g) : Own e size lo w.heap.size w (.slice (some ⟨g, 0, none⟩) n cap) n xs :=
  ⟨g, cap, rfl, hg, (h.lt g rfl).2, h⟩
theorem cellAt_some {w : World} {lo : Nat} {e : TypeId} {size g n cap : Nat} {xs : List Value} (h : w.ownsRow lo e size (.slice (some ⟨g, 0, none⟩) n cap) n xs) (j : Nat) (hj : j < n * size) : ∃ x, w.cell? ⟨g, j, none⟩ = some x := by
  have hl := h.1
  exact ⟨_, (h.cellAt j hj).trans (List.getElem?_eq_getElem (by omega))⟩

set_option maxHeartbeats 400000 in
theorem toValS (a : Option Addr) (len cap : Nat) (l : List V) (w : World) (hle : len ≤ 1073741824) (hl : l.length = len) (h : ArgS 3 w a len (vals l)) :
    Calls Try.prog 60 #[.slice a len cap] w fun e w' => ∃ v, e = .returned v ∧ Own 76 3 w.heap.size w'.heap.size w' v len (vals l) ∧ Below w.heap.size w w' := by
  have HL := Lib.hid hl
  obtain ⟨_, h⟩ := h
  have HC : Hid (∀ k (hk : k < l.length) (W : World), Below w.heap.size w W → ∃ b off, a = some ⟨b, off, none⟩ ∧ W.cell? ⟨b, off + k * 3, none⟩ = some (.int .i64 l[k].ty) ∧ W.cell? ⟨b, off + k * 3 + 1, none⟩ = some (.int .i64 l[k].n) ∧ W.cell? ⟨b, off + k * 3 + 2, none⟩ = some (.string l[k].s)) := by
    intro k hk W hW
    rcases h with h | ⟨b, off, rfl, hc⟩
    · omega
    · have c3 := cells3 hc hk
      exact ⟨b, off, rfl, (hW.cell (p := ⟨b, off + k * 3, none⟩) (lt_of_cell c3.1)).trans c3.1, (hW.cell (p := ⟨b, off + k * 3 + 1, none⟩) (lt_of_cell c3.2.1)).trans c3.2.1, (hW.cell (p := ⟨b, off + k * 3 + 2, none⟩) (lt_of_cell c3.2.2)).trans c3.2.2⟩
  clear hl h
  go_enter Try.func60, Try.ntmps60
  go_wp2_with (at_make; refine make_law Try.elemVals rfl _ _ rfl .i64 .i64 _ _ len rfl rfl rfl rfl (by omega) (by unfold maxLen; omega) ?_)
  intro w1 hown1 hb1
  have hown0 : Own 76 3 w.heap.size w1.heap.size w1 (.slice (some ⟨w.heap.size, 0, none⟩) len len) len (vals (halfV l 0)) := by
    have e : vals (halfV l 0) = (madeCells V.zero.cs.toArray (len * 3)).toList := by
      rw [made_flat V.cs V.zero 3 len (by omega) (fun _ => rfl), ← HL.out]
      simp [halfV, vals]
    rw [e]
    exact hown1
  clear hown1
  go_wp2
  go_loopw [4] (fun i wr => ∃ k : Nat, k ≤ len ∧ i = .int .i64 k ∧ wr.ownsRow w.heap.size 76 3 (.slice (some ⟨w.heap.size, 0, none⟩) len len) len (vals (halfV l k)) ∧ Below w.heap.size w wr) (fun i _ => len - (intOf i).toNat)
  case atStart => exact ⟨0, Nat.zero_le _, rfl, hown0.row, hb1⟩
  case round =>
    obtain ⟨k, hk, rfl, hownr, hbr⟩ := hrel
    by_cases hkl : k < len
    · have hkl' : k < l.length := by rw [HL.out]; exact hkl
      obtain ⟨b, off, rfl, c0, c1, c2⟩ := HC.out k hkl' wr hbr
      have HT := Lib.hid (toVal l[k] wr)
      have HST := Lib.hid (halfV_set hkl')
      have HHL := Lib.hid (halfV_len (l := l) (k := k) (by omega))
      generalize l[k] = v at c0 c1 c2 HT HST
      go_wp2_with fail
      refine HT.out.mono ?_
      rintro e w2 ⟨rfl, hb2⟩
      have O2 := (own_of_row hownr (Nat.le_refl _)).below hb2 (Nat.le_refl _)
      have r2 := O2.row
      have hb3 := below_then hbr hb2 hbr.size
      have R := Lib.hid (stored3 r2 k v (by rw [HHL.out]; exact hkl'))
      rw [HST.out] at R
      have s0 := cellAt_some r2 (k * 3) (by omega)
      have s1 := cellAt_some r2 (k * 3 + 1) (by omega)
      have s2 := cellAt_some r2 (k * 3 + 2) (by omega)
      obtain ⟨x0, s0⟩ := s0
      obtain ⟨x1, s1⟩ := s1
      obtain ⟨x2, s2⟩ := s2
      have f0 := r2.frozenAt (k * 3)
      have f1 := r2.frozenAt (k * 3 + 1)
      have f2 := r2.frozenAt (k * 3 + 2)
      clear hownr hbr O2 r2 hb2
      obtain ⟨t, n, s⟩ := v
      go_wp2
      go_roundw
      case rel => exact ⟨k + 1, by omega, by go_num, R.out.1, hb3.trans ⟨R.out.2.os, R.out.2.tape, R.out.2.output, R.out.2.size, fun j hj => R.out.2.block j (by have := hb3.size; omega) (by simp; omega)⟩⟩
      case measure => simp [intOf]; omega
    · obtain rfl : k = len := by omega
      rw [← HL.out, halfV_all, HL.out] at hownr
      go_wp2
      go_ret
      exact ⟨_, rfl, ⟨_, _, rfl, Nat.le_refl _, (hownr.lt _ rfl).2, hownr⟩, hbr⟩

/-- The cells of element k of a slice that reads as l. -/
theorem At.cells3 {w : World} {b off n : Nat} {l : List V} (hc : ∀ j u, (vals l)[j]? = some u → w.cell? ⟨b, off + j, none⟩ = some u) (hl : l.length = n) {k : Nat} (hk : k < n) :
    w.cell? ⟨b, off + k * 3, none⟩ = some (.int .i64 (l.getD k V.zero).ty) ∧ w.cell? ⟨b, off + k * 3 + 1, none⟩ = some (.int .i64 (l.getD k V.zero).n) ∧ w.cell? ⟨b, off + k * 3 + 2, none⟩ = some (.string (l.getD k V.zero).s) := by
  have hk' : k < l.length := by omega
  have := Go.Proofs.Ytkofafefnlommaa.cells3 hc hk'
  have e : l.getD k V.zero = l[k] := by simp [hk']
  rw [e]
  exact this

set_option maxHeartbeats 400000 in
theorem eqValR (a b : Value) (n : Nat) (l : List V) (w : World) (hz : l.length = n) (ha : Rd 3 w a n (vals l)) (hb : Rd 3 w b n (vals l)) :
    Calls Try.prog 56 #[a, b] w fun e w' => e = .returned (.bool true) ∧ Below w.heap.size w w' := by
  obtain ⟨a1, c1, rfl, hm1, HC1⟩ := ha.vals hz
  obtain ⟨a2, c2, rfl, hm2, HC2⟩ := hb.vals hz
  clear hz ha hb hm2
  unfold maxLen at hm1
  have hne : ((n : Int) != (n : Int)) = false := by simp
  go_enter Try.func56, Try.ntmps56
  go_wp2
  go_loopw [5] (fun i wr => ∃ k : Nat, k ≤ n ∧ i = .int .i64 k ∧ Below w.heap.size w wr) (fun i _ => n - (intOf i).toNat)
  case atStart => exact ⟨0, Nat.zero_le _, rfl, Below.refl _ _⟩
  case round =>
    obtain ⟨k, hk, rfl, hbr⟩ := hrel
    by_cases hlt : k < n
    · obtain ⟨b1, o1, rfl, p0, p1, p2⟩ := HC1.out k hlt
      obtain ⟨b2, o2, rfl, q0, q1, q2⟩ := HC2.out k hlt
      have HE := Lib.hid (fun W => eqVal (l.getD k V.zero) W)
      generalize l.getD k V.zero = v at p0 p1 p2 q0 q1 q2 HE
      obtain ⟨t, m, s⟩ := v
      have r0 := (hbr.cell (p := ⟨b1, o1 + k * 3, none⟩) (lt_of_cell p0)).trans p0
      have r1 := (hbr.cell (p := ⟨b1, o1 + k * 3 + 1, none⟩) (lt_of_cell p1)).trans p1
      have r2 := (hbr.cell (p := ⟨b1, o1 + k * 3 + 2, none⟩) (lt_of_cell p2)).trans p2
      have s0 := (hbr.cell (p := ⟨b2, o2 + k * 3, none⟩) (lt_of_cell q0)).trans q0
      have s1 := (hbr.cell (p := ⟨b2, o2 + k * 3 + 1, none⟩) (lt_of_cell q1)).trans q1
      have s2 := (hbr.cell (p := ⟨b2, o2 + k * 3 + 2, none⟩) (lt_of_cell q2)).trans q2
      clear p0 p1 p2 q0 q1 q2
      go_wp2
      have HK : Hid (∀ W, Below wr.drew.heap.size wr.drew W → W.cell? ⟨b1, o1 + k * 3, none⟩ = some (.int .i64 t) ∧ W.cell? ⟨b1, o1 + k * 3 + 1, none⟩ = some (.int .i64 m) ∧ W.cell? ⟨b1, o1 + k * 3 + 2, none⟩ = some (.string s) ∧ W.cell? ⟨b2, o2 + k * 3, none⟩ = some (.int .i64 t) ∧ W.cell? ⟨b2, o2 + k * 3 + 1, none⟩ = some (.int .i64 m) ∧ W.cell? ⟨b2, o2 + k * 3 + 2, none⟩ = some (.string s)) := fun W h =>
        ⟨(h.cell (p := ⟨b1, o1 + k * 3, none⟩) (lt_of_cell r0)).trans r0, (h.cell (p := ⟨b1, o1 + k * 3 + 1, none⟩) (lt_of_cell r1)).trans r1, (h.cell (p := ⟨b1, o1 + k * 3 + 2, none⟩) (lt_of_cell r2)).trans r2,
          (h.cell (p := ⟨b2, o2 + k * 3, none⟩) (lt_of_cell s0)).trans s0, (h.cell (p := ⟨b2, o2 + k * 3 + 1, none⟩) (lt_of_cell s1)).trans s1, (h.cell (p := ⟨b2, o2 + k * 3 + 2, none⟩) (lt_of_cell s2)).trans s2⟩
      go_region_held3 (fun W => W.cell? ⟨b1, o1 + k * 3, none⟩ = some (.int .i64 t) ∧ W.cell? ⟨b1, o1 + k * 3 + 1, none⟩ = some (.int .i64 m) ∧ W.cell? ⟨b1, o1 + k * 3 + 2, none⟩ = some (.string s) ∧ W.cell? ⟨b2, o2 + k * 3, none⟩ = some (.int .i64 t) ∧ W.cell? ⟨b2, o2 + k * 3 + 1, none⟩ = some (.int .i64 m) ∧ W.cell? ⟨b2, o2 + k * 3 + 2, none⟩ = some (.string s)) (first | exact ⟨r0, r1, r2, s0, s1, s2⟩ | exact HK.out _ hb2) ((go_at_call 73; refine (HE.out _).mono ?_; rintro e w2 ⟨rfl, hb2⟩))
      go_wp2
      go_roundw
      case rel => exact ⟨k + 1, by omega, by go_num, below_then hbr.drew hb2 (by simpa using hbr.size)⟩
      case measure => simp [intOf]; omega
    · go_wp2
      go_ret
      exact ⟨rfl, hbr⟩

theorem eqValS (a b : Value) (n : Nat) (l : List V) (w : World) (hz : l.length = n) (ha : At 3 w a n (vals l)) (hb : At 3 w b n (vals l)) :
    Calls Try.prog 56 #[a, b] w fun e w' => e = .returned (.bool true) ∧ Below w.heap.size w w' := eqValR a b n l w hz ha.rd hb.rd

end Go.Proofs.Ytkofafefnlommaa

/- Owned slices: a shorter one; cells written one behind the other. -/
namespace Go.Proofs.Ytkofafefnlommaa
open Go.RowKit

theorem row_shorter {w : World} {lo : Nat} {e : TypeId} {size g n cap m : Nat} {xs : List Value} (h : w.ownsRow lo e size (.slice (some ⟨g, 0, none⟩) n cap) n xs) (hm : m ≤ n) : w.ownsRow lo e size (.slice (some ⟨g, 0, none⟩) m cap) m (xs.take (m * size)) := by
  obtain ⟨h1, h2⟩ := h
  have hmul : m * size ≤ n * size := Nat.mul_le_mul_right _ hm
  refine ⟨by rw [List.length_take, h1]; omega, .inr ?_⟩
  rcases h2 with ⟨e, _⟩ | ⟨g', cap', cur, e, a1, a2, a3, a4, a5, a6⟩
  · cases e
  · cases e
    refine ⟨g, cap, cur, rfl, a1, a2, by omega, a4, a5, ?_⟩
    rw [← a6, List.take_take, Nat.min_eq_left hmul]
theorem row_cells {lo : Nat} {e : TypeId} {size g n cap : Nat} : ∀ (vs : List Value) (o : Nat) (w : World) (xs : List Value), w.ownsRow lo e size (.slice (some ⟨g, 0, none⟩) n cap) n xs →
    ∃ ys, (w.setCells g o vs).ownsRow lo e size (.slice (some ⟨g, 0, none⟩) n cap) n ys ∧ ys.take o = xs.take o ∧ w.grownBy (w.setCells g o vs) (some g)
  | [], o, w, xs, h => ⟨xs, h, rfl, grownBy_refl _ _⟩
  | v :: vs, o, w, xs, h => by
    have s1 := h.stored o v
    obtain ⟨ys, h1, h2, h3⟩ := row_cells vs (o + 1) (w.setCell ⟨g, o, none⟩ v) _ s1.1
    refine ⟨ys, h1, ?_, s1.2.trans h3⟩
    have := congrArg (List.take o) h2
    rw [List.take_take, List.take_take, Nat.min_eq_left (by omega), List.take_set_of_le (Nat.le_refl _)] at this
    exact this

end Go.Proofs.Ytkofafefnlommaa
