/- The laws' own helpers over slices of Rows: szRowS, toRowS, eqRowS. -/
import Derived.Test.YtkofafefnlommaaR4
namespace Go.Proofs.Ytkofafefnlommaa
open Go.RowKit

/-- A Row and the slice value that holds its values. -/
abbrev P := R × Value
def P.cs (p : P) : List Value := [.int .i64 p.1.id, p.2]
def P.zero : P := (⟨0, []⟩, .slice none 0 0)
/-- The cells of a list of Rows. -/
def prs (ps : List P) : List Value := ps.flatMap P.cs
theorem prs_len (ps : List P) : (prs ps).length = ps.length * 2 := flat_len P.cs 2 (fun _ => rfl) ps
theorem prs_get {ps : List P} {k j : Nat} (hk : k < ps.length) (hj : j < 2) : (prs ps)[k * 2 + j]? = (P.cs ps[k])[j]? := flat_get P.cs 2 (fun _ => rfl) ps k j hk hj
/-- v is a slice of Rows. -/
def RdRs (w : World) (v : Value) (ps : List P) : Prop := Rd 2 w v ps.length (prs ps) ∧ ∀ p ∈ ps, p.1.rd w p.2
theorem RdRs.below {w w' : World} {v : Value} {ps : List P} (h : RdRs w v ps) (hb : Below w.heap.size w w') : RdRs w' v ps := ⟨h.1.below hb, fun p hp => (h.2 p hp).below hb⟩
theorem cells2 {w : World} {b off : Nat} {ps : List P} (hc : ∀ j u, (prs ps)[j]? = some u → w.cell? ⟨b, off + j, none⟩ = some u) {k : Nat} (hk : k < ps.length) :
    w.cell? ⟨b, off + k * 2, none⟩ = some (.int .i64 ps[k].1.id) ∧ w.cell? ⟨b, off + k * 2 + 1, none⟩ = some ps[k].2 :=
  ⟨hc (k * 2) _ (prs_get (j := 0) hk (by omega)), hc (k * 2 + 1) _ (prs_get (j := 1) hk (by omega))⟩
/-- For a walk: the k-th Row, in every later world. -/
theorem RdRs.walk {w : World} {v : Value} {ps : List P} (h : RdRs w v ps) {n : Nat} (hl : ps.length = n) :
    ∃ a cap, v = .slice a n cap ∧ n ≤ maxLen ∧ Hid (∀ k, k < n → ∀ W, Below w.heap.size w W → ∃ b off, a = some ⟨b, off, none⟩ ∧ W.cell? ⟨b, off + k * 2, none⟩ = some (.int .i64 (ps.getD k P.zero).1.id) ∧ W.cell? ⟨b, off + k * 2 + 1, none⟩ = some (ps.getD k P.zero).2 ∧ (ps.getD k P.zero).1.rd W (ps.getD k P.zero).2) := by
  obtain ⟨⟨a, cap, rfl, hn, _, hx⟩, hi⟩ := h
  subst hl
  refine ⟨a, cap, rfl, hn, fun k hk W hW => ?_⟩
  rcases hx with h0 | ⟨b, off, rfl, hc⟩
  · omega
  · have e : ps.getD k P.zero = ps[k] := by simp [hk]
    rw [e]
    have c2 := cells2 hc hk
    exact ⟨b, off, rfl, (hW.cell (p := ⟨b, off + k * 2, none⟩) (lt_of_cell c2.1)).trans c2.1, (hW.cell (p := ⟨b, off + k * 2 + 1, none⟩) (lt_of_cell c2.2)).trans c2.2, (hi _ (List.getElem_mem hk)).below hW⟩

/-- What the sizes of a list of Rows come to. -/
def bulkR (ps : List P) : Nat := (ps.map fun p => p.1.l.length + bulk p.1.l).sum
theorem bulkR_take_succ (ps : List P) (k : Nat) (h : k < ps.length) : bulkR (ps.take (k + 1)) = bulkR (ps.take k) + ((ps.getD k P.zero).1.l.length + bulk (ps.getD k P.zero).1.l) := by
  have e : ps.getD k P.zero = ps[k] := by simp [h]
  unfold bulkR
  rw [e, List.take_succ_eq_append_getElem h, List.map_append, List.sum_append]
  simp

set_option maxHeartbeats 400000 in
theorem szRowS (v : Value) (ps : List P) (left : Int) (w : World) (h0 : 0 ≤ left) (h1 : left ≤ 1048576) (hss : ∀ p ∈ ps, ∀ v ∈ p.1.l, v.s.size ≤ maxLen) (h : RdRs w v ps) :
    Calls Try.prog 21 #[v, .int .i64 left] w fun e w' => ∃ r : Int, e = .returned (.int .i64 r) ∧ (r < 0 ∨ (0 ≤ r ∧ (ps.length : Int) + bulkR ps ≤ left - r)) ∧ Below w.heap.size w w' := by
  generalize hl : ps.length = n
  obtain ⟨a, cap, rfl, hle, HC⟩ := h.walk hl
  unfold maxLen at hle
  have HL := Lib.hid hl
  have HS : Hid (∀ k, k < n → ∀ v ∈ (ps.getD k P.zero).1.l, v.s.size ≤ maxLen) := fun k hk => by
    have hk' : k < ps.length := by omega
    have e : ps.getD k P.zero = ps[k] := by simp [hk']
    rw [e]
    exact hss _ (List.getElem_mem hk')
  clear hl hss h
  by_cases hbig : left - (n : Int) < 0
  · go_enter Try.func21, Try.ntmps21
    go_wp2
    go_ret
    exact ⟨_, rfl, .inl (by omega), Below.refl _ _⟩
  · go_enter Try.func21, Try.ntmps21
    go_wp2
    go_loopw [1, 5] (fun r i wr => ∃ (k : Nat) (z : Int), k ≤ n ∧ 0 ≤ z ∧ z ≤ left ∧ (n : Int) + bulkR (ps.take k) ≤ left - z ∧ r = .int .i64 z ∧ i = .int .i64 k ∧ Below w.heap.size w wr) (fun _ i _ => n - (intOf i).toNat)
    case atStart => exact ⟨0, _, Nat.zero_le _, by omega, by omega, by simp [bulkR]; omega, rfl, rfl, Below.refl _ _⟩
    case round =>
      obtain ⟨k, z, hk, hz0, hz1, hzb, rfl, rfl, hbr⟩ := hrel
      by_cases hkl : k < n
      · obtain ⟨b, off, rfl, c0, c1, hr⟩ := HC.out k hkl wr hbr
        have HB := Lib.hid (bulkR_take_succ ps k (by rw [HL.out]; exact hkl))
        have HZ := Lib.hid (szRow (ps.getD k P.zero).1 (ps.getD k P.zero).2 z wr hz0 (by omega) (HS.out k hkl) hr)
        generalize ps.getD k P.zero = p at c0 c1 hr HB HZ
        obtain ⟨⟨i, l⟩, u⟩ := p
        obtain ⟨a', cap', hu, _, _⟩ := hr
        simp only at hu
        subst hu
        simp only at c0 c1 HB HZ
        generalize l.length = m at *
        go_wp2_with fail
        refine HZ.out.mono ?_
        rintro e w2 ⟨y, rfl, hy, hb2⟩
        clear HZ c0 c1
        by_cases hneg : y < 0
        · go_wp2
          go_ret
          exact ⟨_, rfl, .inl (by omega), below_then hbr hb2 hbr.size⟩
        · go_wp2
          go_roundw
          case rel => exact ⟨k + 1, y, by omega, by omega, by omega, by rw [HB.out]; omega, rfl, by go_num, below_then hbr hb2 hbr.size⟩
          case measure => simp [intOf]; omega
      · obtain rfl : k = n := by omega
        go_wp2
        go_ret
        refine ⟨_, rfl, .inr ⟨hz0, ?_⟩, hbr⟩
        rw [← HL.out, List.take_length] at hzb
        rw [← HL.out]
        omega


theorem Try.elemRows : ElemT Try.prog 24 27 (.agg #[.int .i64 0, .slice none 0 0]) 2 32 := ⟨Try.underlying24, info_parts (by kernel_rfl), rfl, by decide⟩
theorem prs_set (l : List P) (k : Nat) (p : P) (hk : k < l.length) : prs (l.set k p) = ((prs l).set (k * 2) (.int .i64 p.1.id)).set (k * 2 + 1) p.2 := by
  have hl := prs_len l
  apply List.ext_getElem?
  intro i
  unfold prs at hl ⊢
  rw [flat_set P.cs 2 (fun _ => rfl) l k p hk i]
  simp only [List.getElem?_set, List.length_set]
  by_cases h1 : k * 2 + 1 = i
  · subst h1
    rw [if_pos (by omega), if_pos rfl, if_pos (by omega), show k * 2 + 1 - k * 2 = 1 by omega]
    rfl
  · by_cases h0 : k * 2 = i
    · subst h0
      rw [if_pos (by omega), if_neg (by omega), if_pos rfl, if_pos (by omega), Nat.sub_self]
      rfl
    · rw [if_neg (by omega), if_neg h1, if_neg h0]
/-- The cells of Row k of an owned slice, stored anew. -/
theorem stored2 {w : World} {lo : Nat} {e : TypeId} {g n cap : Nat} {l : List P} (h : w.ownsRow lo e 2 (.slice (some ⟨g, 0, none⟩) n cap) n (prs l)) (k : Nat) (p : P) (hk : k < l.length) :
    ((w.setCell ⟨g, k * 2, none⟩ (.int .i64 p.1.id)).setCell ⟨g, k * 2 + 1, none⟩ p.2).ownsRow lo e 2 (.slice (some ⟨g, 0, none⟩) n cap) n (prs (l.set k p)) ∧
      w.grownBy ((w.setCell ⟨g, k * 2, none⟩ (.int .i64 p.1.id)).setCell ⟨g, k * 2 + 1, none⟩ p.2) (some g) := by
  have s1 := h.stored (k * 2) (.int .i64 p.1.id)
  have s2 := s1.1.stored (k * 2 + 1) p.2
  rw [prs_set l k p hk]
  exact ⟨s2.1, s1.2.trans s2.2⟩
/-- v is a slice of Rows of the call's own, blocks lo to hi. -/
def OwnRs (lo hi : Nat) (w : World) (v : Value) (ps : List P) : Prop :=
  Own 27 2 lo hi w v ps.length (prs ps) ∧ (∀ p ∈ ps, Own 76 3 lo hi w p.2 p.1.l.length (vals p.1.l)) ∧ (ps.map fun p => p.2.ownBlock).Nodup
theorem OwnRs.rd {lo hi : Nat} {w : World} {v : Value} {ps : List P} (h : OwnRs lo hi w v ps) : RdRs w v ps := ⟨h.1.rd, fun p hp => (h.2.1 p hp).rd⟩
theorem OwnRs.below {lo hi B : Nat} {w w' : World} {v : Value} {ps : List P} (h : OwnRs lo hi w v ps) (hb : Below B w w') (hB : hi ≤ B) : OwnRs lo hi w' v ps := ⟨h.1.below hb hB, fun p hp => (h.2.1 p hp).below hb hB, h.2.2⟩
theorem fill_set {α : Type} (qs : List α) (x z : α) (n k : Nat) (hq : qs.length = k) (hk : k < n) : (qs ++ List.replicate (n - k) z).set k x = (qs ++ [x]) ++ List.replicate (n - (k + 1)) z := by
  rw [List.set_append_right _ _ (by omega), hq, Nat.sub_self, show n - k = (n - (k + 1)) + 1 by omega, List.replicate_succ, List.set_cons_zero, List.append_assoc]
  rfl

set_option maxHeartbeats 1000000 in
theorem toRowS (v : Value) (ps : List P) (w : World) (hle : ps.length ≤ 1048576) (hli : ∀ p ∈ ps, p.1.l.length ≤ 1048576) (h : RdRs w v ps) :
    Calls Try.prog 24 #[v] w fun e w' => ∃ v' qs, e = .returned v' ∧ qs.map (·.1) = ps.map (·.1) ∧ OwnRs w.heap.size w'.heap.size w' v' qs ∧ Below w.heap.size w w' := by
  generalize hl : ps.length = n at hle
  obtain ⟨a, cap, rfl, _, HC⟩ := h.walk hl
  have HL := Lib.hid hl
  have HS : Hid (∀ k, k < n → (ps.getD k P.zero).1.l.length ≤ 1073741824) := fun k hk => by
    have hk' : k < ps.length := by omega
    have e : ps.getD k P.zero = ps[k] := by simp [hk']
    rw [e]
    exact Nat.le_trans (hli _ (List.getElem_mem hk')) (by decide)
  have HM : Hid (∀ k, k < n → (ps.take (k + 1)).map (·.1) = (ps.take k).map (·.1) ++ [(ps.getD k P.zero).1]) := fun k hk => by
    have hk' : k < ps.length := by omega
    have e : ps.getD k P.zero = ps[k] := by simp [hk']
    rw [e, List.take_succ_eq_append_getElem hk', List.map_append]
    rfl
  clear hl h hli
  go_enter Try.func24, Try.ntmps24
  go_wp2_with (at_make; refine make_law Try.elemRows rfl _ _ rfl .i64 .i64 _ _ n rfl rfl rfl rfl (by omega) (by unfold maxLen; omega) ?_)
  intro w1 hown1 hb1
  have hown0 : w1.ownsRow w.heap.size 27 2 (.slice (some ⟨w.heap.size, 0, none⟩) n n) n (prs ([] ++ List.replicate (n - 0) P.zero)) := by
    have e : prs ([] ++ List.replicate (n - 0) P.zero) = (madeCells (P.cs P.zero).toArray (n * 2)).toList := by
      rw [made_flat P.cs P.zero 2 n (by omega) (fun _ => rfl)]
      simp [prs]
    rw [e]
    exact hown1.row
  clear hown1
  go_wp2
  go_loopw [4] (fun i wr => ∃ (k : Nat) (qs : List P), k ≤ n ∧ i = .int .i64 k ∧ qs.length = k ∧ qs.map (·.1) = (ps.take k).map (·.1) ∧ wr.ownsRow w.heap.size 27 2 (.slice (some ⟨w.heap.size, 0, none⟩) n n) n (prs (qs ++ List.replicate (n - k) P.zero))
    ∧ (∀ p ∈ qs, Own 76 3 (w.heap.size + 1) wr.heap.size wr p.2 p.1.l.length (vals p.1.l)) ∧ (qs.map fun p => p.2.ownBlock).Nodup ∧ Below w.heap.size w wr) (fun i _ => n - (intOf i).toNat)
  case atStart => exact ⟨0, [], Nat.zero_le _, rfl, rfl, rfl, hown0, by simp, by simp, hb1⟩
  case round =>
    obtain ⟨k, qs, hk, rfl, hq, hqm, hownr, hin, hnd, hbr⟩ := hrel
    by_cases hkl : k < n
    · obtain ⟨b, off, rfl, c0, c1, hr⟩ := HC.out k hkl wr hbr
      have HT := Lib.hid (toRow (ps.getD k P.zero).1 (ps.getD k P.zero).2 wr (HS.out k hkl) hr)
      have HMK := Lib.hid (HM.out k hkl)
      rw [← hqm] at HMK
      generalize ps.getD k P.zero = p at c0 c1 hr HT HMK
      obtain ⟨r, u⟩ := p
      obtain ⟨a', cap', hu, _, _⟩ := hr
      simp only at hu c0 c1 HT HMK
      subst hu
      have HI := Lib.hid hin
      have HN := Lib.hid hnd
      have HQ := Lib.hid hq
      clear hin hnd hq hqm
      go_wp2_with fail
      refine HT.out.mono ?_
      rintro e w2 ⟨v2, rfl, o2, hb2⟩
      have O2 := Lib.hid o2
      obtain ⟨g2, cp2, rfl⟩ : ∃ g cp, v2 = .slice (some ⟨g, 0, none⟩) r.l.length cp := by
        obtain ⟨g, cp, e, _⟩ := o2
        exact ⟨g, cp, e⟩
      have r2 := ((own_of_row hownr (Nat.le_refl _)).below hb2 (Nat.le_refl _)).row
      have hb3 := below_then hbr hb2 hbr.size
      have R := Lib.hid (stored2 r2 k (r, .slice (some ⟨g2, 0, none⟩) r.l.length cp2) (by simp [HQ.out]; omega))
      rw [fill_set qs _ P.zero n k HQ.out hkl] at R
      have HW : Hid (wr.heap.size ≤ w2.heap.size) := hb2.size
      have HW0 : Hid (w.heap.size < wr.heap.size) := (hownr.lt _ rfl).2
      have HI2 : Hid (∀ p ∈ qs, Own 76 3 (w.heap.size + 1) wr.heap.size w2 p.2 p.1.l.length (vals p.1.l)) := fun p hp => (HI.out p hp).below hb2 (Nat.le_refl _)
      obtain ⟨x0, s0⟩ := cellAt_some r2 (k * 2) (by omega)
      obtain ⟨x1, s1⟩ := cellAt_some r2 (k * 2 + 1) (by omega)
      have f0 := r2.frozenAt (k * 2)
      have f1 := r2.frozenAt (k * 2 + 1)
      clear hownr hbr r2 hb2 o2 c0 c1 HT HI
      obtain ⟨i, l⟩ := r
      simp only at R O2 HMK
      go_wp2
      go_roundw
      case rel =>
        refine ⟨k + 1, qs ++ [(⟨i, l⟩, .slice (some ⟨g2, 0, none⟩) l.length cp2)], by omega, by go_num, by simp [HQ.out], by rw [HMK.out]; simp, R.out.1, ?_, ?_, hb3.trans ⟨R.out.2.os, R.out.2.tape, R.out.2.output, R.out.2.size, fun j hj => R.out.2.block j (by have := hb3.size; omega) (by simp; omega)⟩⟩
        · intro p hp
          rcases List.mem_append.1 hp with hp | hp
          · exact ((HI2.out p hp).grown R.out.2 (fun g hg => by simp at hg; omega)).wide (Nat.le_trans HW.out R.out.2.size)
          · rw [List.mem_singleton.1 hp]
            exact ((O2.out.grown R.out.2 (fun g hg => by have := HW0.out; simp at hg; omega)).lower HW0.out).wide R.out.2.size
        · rw [List.map_append, List.nodup_append]
          refine ⟨HN.out, by simp, fun x hx y hy => ?_⟩
          obtain ⟨p, hp, rfl⟩ := List.mem_map.1 hx
          simp only [List.map_cons, List.map_nil, List.mem_singleton] at hy
          subst hy
          intro he
          obtain ⟨g, cp, e1, e2, e3, _⟩ := HI2.out p hp
          obtain ⟨g', cp', e4, e5, e6, _⟩ := O2.out
          rw [e1] at he
          simp only [Value.slice.injEq, Option.some.injEq, Addr.mk.injEq, true_and, and_true] at e4
          simp [Value.ownBlock] at he
          omega
      case measure => simp [intOf]; omega
    · obtain rfl : k = n := by omega
      rw [Nat.sub_self, List.replicate_zero, List.append_nil] at hownr
      rw [← HL.out, List.take_length] at hqm
      go_wp2
      go_ret
      have hz := (hownr.lt _ rfl).2
      refine ⟨_, rfl, qs, hqm, ⟨?_, fun p hp => (hin p hp).lower (by omega), hnd⟩, hbr⟩
      rw [hq]
      exact ⟨_, _, rfl, Nat.le_refl _, hz, hownr⟩

theorem getD_fst (ps : List P) (k : Nat) : (ps.getD k P.zero).1 = (ps.map (·.1)).getD k P.zero.1 := by
  by_cases h : k < ps.length
  · simp [h]
  · simp [h]

set_option maxHeartbeats 1000000 in
theorem eqRowS (u v : Value) (ps qs : List P) (w : World) (he : qs.map (·.1) = ps.map (·.1)) (hu : RdRs w u ps) (hv : RdRs w v qs) :
    Calls Try.prog 27 #[u, v] w fun e w' => e = .returned (.bool true) ∧ Below w.heap.size w w' := by
  have hlq : qs.length = ps.length := by simpa using congrArg List.length he
  generalize hl : ps.length = n at hlq
  obtain ⟨a1, c1, rfl, hm1, HC1⟩ := hu.walk hl
  obtain ⟨a2, c2, rfl, hm2, HC2⟩ := hv.walk hlq
  have HE : Hid (∀ k, (qs.getD k P.zero).1 = (ps.getD k P.zero).1) := fun k => by rw [getD_fst, getD_fst, he]
  clear hl hlq hu hv hm2 he
  unfold maxLen at hm1
  have hne : ((n : Int) != (n : Int)) = false := by simp
  go_enter Try.func27, Try.ntmps27
  go_wp2
  go_loopw [5] (fun i wr => ∃ k : Nat, k ≤ n ∧ i = .int .i64 k ∧ Below w.heap.size w wr) (fun i _ => n - (intOf i).toNat)
  case atStart => exact ⟨0, Nat.zero_le _, rfl, Below.refl _ _⟩
  case round =>
    obtain ⟨k, hk, rfl, hbr⟩ := hrel
    by_cases hlt : k < n
    · obtain ⟨b1, o1, rfl, p0, p1, pr⟩ := HC1.out k hlt wr hbr
      obtain ⟨b2, o2, rfl, q0, q1, qr⟩ := HC2.out k hlt wr hbr
      have HEK := Lib.hid (HE.out k)
      rw [HEK.out] at q0 qr
      generalize (ps.getD k P.zero).1 = r at p0 pr q0 qr HEK
      generalize (ps.getD k P.zero).2 = x at p1 pr
      generalize (qs.getD k P.zero).2 = y at q1 qr
      have HX := Lib.hid (fun W (hW : Below wr.heap.size wr W) => eqRow r x y W (pr.below hW) (qr.below hW))
      have HK : Hid (∀ W, Below wr.heap.size wr W → W.cell? ⟨b1, o1 + k * 2, none⟩ = some (.int .i64 r.id) ∧ W.cell? ⟨b1, o1 + k * 2 + 1, none⟩ = some x ∧ W.cell? ⟨b2, o2 + k * 2, none⟩ = some (.int .i64 r.id) ∧ W.cell? ⟨b2, o2 + k * 2 + 1, none⟩ = some y) := fun W h =>
        ⟨(h.cell (p := ⟨b1, o1 + k * 2, none⟩) (lt_of_cell p0)).trans p0, (h.cell (p := ⟨b1, o1 + k * 2 + 1, none⟩) (lt_of_cell p1)).trans p1, (h.cell (p := ⟨b2, o2 + k * 2, none⟩) (lt_of_cell q0)).trans q0, (h.cell (p := ⟨b2, o2 + k * 2 + 1, none⟩) (lt_of_cell q1)).trans q1⟩
      have hB' := (Below.refl wr.heap.size wr).drew
      obtain ⟨ri, rl⟩ := r
      simp only at p0 p1 q0 q1 HK
      clear pr qr HEK
      go_wp2
      go_region_held3 (fun W => W.cell? ⟨b1, o1 + k * 2, none⟩ = some (.int .i64 ri) ∧ W.cell? ⟨b1, o1 + k * 2 + 1, none⟩ = some x ∧ W.cell? ⟨b2, o2 + k * 2, none⟩ = some (.int .i64 ri) ∧ W.cell? ⟨b2, o2 + k * 2 + 1, none⟩ = some y) (exact HK.out _ hB') ((go_at_call 28; (with_reducible refine (HX.out _ hB').mono ?_); rintro e w2 ⟨rfl, hb2⟩; replace hB' := below_then hB' hb2 hB'.size))
      go_wp2
      go_roundw
      case rel => exact ⟨k + 1, by omega, by go_num, below_then hbr hB' hbr.size⟩
      case measure => simp [intOf]; omega
    · go_wp2
      go_ret
      exact ⟨rfl, hbr⟩

end Go.Proofs.Ytkofafefnlommaa
