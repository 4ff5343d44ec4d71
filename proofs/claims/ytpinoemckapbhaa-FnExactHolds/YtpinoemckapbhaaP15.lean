/- Texts of this claim, one behind the other: R4S, S4, S4b, R4M, Law4, I4, S11z, ZS11m, Law11z, I10z, I4b, I11z. -/
import Derived.Test.YtpinoemckapbhaaP14
import Derived.Test.YtpinoemckapbhaaP13
import Derived.Test.YtpinoemckapbhaaP5
import Derived.Test.YtpinoemckapbhaaP2
import Derived.Test.YtpinoemckapbhaaP12

/- The laws' own helpers over slices of Rows: szRowS, toRowS, eqRowS. -/
namespace Go.Proofs.Ytpinoemckapbhaa
open Go.RowKit

/-- A Row and the slice value that holds its values. -/
abbrev P := R × Value
def P.cs (p : P) : List Value := [.int .i64 p.1.id, p.2]
def P.zero : P := (⟨0, []⟩, .slice none 0 0)
/-- The cells of a list of Rows. -/
def prs (ps : List P) : List Value := ps.flatMap P.cs
theorem prs_len (ps : List P) : (prs ps).length = ps.length * 2 := flat_len P.cs 2 (fun _ => rfl) ps
theorem prs_get {ps : List P} {k j : Nat} (hk : k < ps.length) (hj : j < 2) : (prs ps)[k * 2 + j]? = (P.cs ps[k])[j]? := flat_get P.cs 2 (fun _ => rfl) ps k j hk hj
/-- v is a slice of Rows. -/
def RdRs (w : World) (v : Value) (ps : List P) : Prop := Rd 2 w v ps.length (prs ps) ∧ ∀ p ∈ ps, p.1.rd w p.2
theorem RdRs.below {w w' : World} {v : Value} {ps : List P} (h : RdRs w v ps) (hb : Below w.heap.size w w') : RdRs w' v ps := ⟨h.1.below hb, fun p hp => (h.2 p hp).below hb⟩
theorem cells2 {w : World} {b off : Nat} {ps : List P} (hc : ∀ j u, (prs ps)[j]? = some u → w.cell? ⟨b, off + j, none⟩ = some u) {k : Nat} (hk : k < ps.length) :
    w.cell? ⟨b, off + k * 2, none⟩ = some (.int .i64 ps[k].1.id) ∧ w.cell? ⟨b, off + k * 2 + 1, none⟩ = some ps[k].2 :=
  ⟨hc (k * 2) _ (prs_get (j := 0) hk (by omega)), hc (k * 2 + 1) _ (prs_get (j := 1) hk (by omega))⟩
/-- For a walk: the k-th Row, in every later world. -/
theorem RdRs.walk {w : World} {v : Value} {ps : List P} (h : RdRs w v ps) {n : Nat} (hl : ps.length = n) :
    ∃ a cap, v = .slice a n cap ∧ n ≤ maxLen ∧ Hid (∀ k, k < n → ∀ W, Below w.heap.size w W → ∃ b off, a = some ⟨b, off, none⟩ ∧ W.cell? ⟨b, off + k * 2, none⟩ = some (.int .i64 (ps.getD k P.zero).1.id) ∧ W.cell? ⟨b, off + k * 2 + 1, none⟩ = some (ps.getD k P.zero).2 ∧ (ps.getD k P.zero).1.rd W (ps.getD k P.zero).2) := by
  obtain ⟨⟨a, cap, rfl, hn, _, hx⟩, hi⟩ := h
  subst hl
  refine ⟨a, cap, rfl, hn, fun k hk W hW => ?_⟩
  rcases hx with h0 | ⟨b, off, rfl, hc⟩
  · omega
  · have e : ps.getD k P.zero = ps[k] := by simp [hk]
    rw [e]
    have c2 := cells2 hc hk
    exact ⟨b, off, rfl, (hW.cell (p := ⟨b, off + k * 2, none⟩) (lt_of_cell c2.1)).trans c2.1, (hW.cell (p := ⟨b, off + k * 2 + 1, none⟩) (lt_of_cell c2.2)).trans c2.2, (hi _ (List.getElem_mem hk)).below hW⟩

/-- What the sizes of a list of Rows come to. -/
def bulkR (ps : List P) : Nat := (ps.map fun p => p.1.l.length + bulk p.1.l).sum
theorem bulkR_take_succ (ps : List P) (k : Nat) (h : k < ps.length) : bulkR (ps.take (k + 1)) = bulkR (ps.take k) + ((ps.getD k P.zero).1.l.length + bulk (ps.getD k P.zero).1.l) := by
  have e : ps.getD k P.zero = ps[k] := by simp [h]
  unfold bulkR
  rw [e, List.take_succ_eq_append_getElem h, List.map_append, List.sum_append]
  simp

set_option maxHeartbeats 400000 in
theorem szRowS (v : Value) (ps : List P) (left : Int) (w : World) (h0 : 0 ≤ left) (h1 : left ≤ 1048576) (hss : ∀ p ∈ ps, ∀ v ∈ p.1.l, v.s.size ≤ maxLen) (h : RdRs w v ps) :
    Calls Try.prog 28 #[v, .int .i64 left] w fun e w' => ∃ r : Int, e = .returned (.int .i64 r) ∧ (r < 0 ∨ (0 ≤ r ∧ (ps.length : Int) + bulkR ps ≤ left - r)) ∧ Below w.heap.size w w' := by
  generalize hl : ps.length = n
  obtain ⟨a, cap, rfl, hle, HC⟩ := h.walk hl
  unfold maxLen at hle
  have HL := Lib.hid hl
  have HS : Hid (∀ k, k < n → ∀ v ∈ (ps.getD k P.zero).1.l, v.s.size ≤ maxLen) := fun k hk => by
    have hk' : k < ps.length := by omega
    have e : ps.getD k P.zero = ps[k] := by simp [hk']
    rw [e]
    exact hss _ (List.getElem_mem hk')
  clear hl hss h
  by_cases hbig : left - (n : Int) < 0
  · go_enter Try.func28, Try.ntmps28
    go_wp2
    go_ret
    exact ⟨_, rfl, .inl (by omega), Below.refl _ _⟩
  · go_enter Try.func28, Try.ntmps28
    go_wp2
    go_loopw [1, 5] (fun r i wr => ∃ (k : Nat) (z : Int), k ≤ n ∧ 0 ≤ z ∧ z ≤ left ∧ (n : Int) + bulkR (ps.take k) ≤ left - z ∧ r = .int .i64 z ∧ i = .int .i64 k ∧ Below w.heap.size w wr) (fun _ i _ => n - (intOf i).toNat)
    case atStart => exact ⟨0, _, Nat.zero_le _, by omega, by omega, by simp [bulkR]; omega, rfl, rfl, Below.refl _ _⟩
    case round =>
      obtain ⟨k, z, hk, hz0, hz1, hzb, rfl, rfl, hbr⟩ := hrel
      by_cases hkl : k < n
      · obtain ⟨b, off, rfl, c0, c1, hr⟩ := HC.out k hkl wr hbr
        have HB := Lib.hid (bulkR_take_succ ps k (by rw [HL.out]; exact hkl))
        have HZ := Lib.hid (szRow (ps.getD k P.zero).1 (ps.getD k P.zero).2 z wr hz0 (by omega) (HS.out k hkl) hr)
        generalize ps.getD k P.zero = p at c0 c1 hr HB HZ
        obtain ⟨⟨i, l⟩, u⟩ := p
        obtain ⟨a', cap', hu, _, _⟩ := hr
        simp only at hu
        subst hu
        simp only at c0 c1 HB HZ
        generalize l.length = m at *
        go_wp2_with fail
        refine HZ.out.mono ?_
        rintro e w2 ⟨y, rfl, hy, hb2⟩
        clear HZ c0 c1
        by_cases hneg : y < 0
        · go_wp2
          go_ret
          exact ⟨_, rfl, .inl (by omega), below_then hbr hb2 hbr.size⟩
        · go_wp2
          go_roundw
          case rel => exact ⟨k + 1, y, by omega, by omega, by omega, by rw [HB.out]; omega, rfl, by go_num, below_then hbr hb2 hbr.size⟩
          case measure => simp [intOf]; omega
      · obtain rfl : k = n := by omega
        go_wp2
        go_ret
        refine ⟨_, rfl, .inr ⟨hz0, ?_⟩, hbr⟩
        rw [← HL.out, List.take_length] at hzb
        rw [← HL.out]
        omega


theorem Try.elemRows : ElemT Try.prog 30 44 (.agg #[.int .i64 0, .slice none 0 0]) 2 32 := ⟨Try.underlying30, info_parts (by kernel_rfl), rfl, by decide⟩
theorem prs_set (l : List P) (k : Nat) (p : P) (hk : k < l.length) : prs (l.set k p) = ((prs l).set (k * 2) (.int .i64 p.1.id)).set (k * 2 + 1) p.2 := by
  have hl := prs_len l
  apply List.ext_getElem?
  intro i
  unfold prs at hl ⊢
  rw [flat_set P.cs 2 (fun _ => rfl) l k p hk i]
  simp only [List.getElem?_set, List.length_set]
  by_cases h1 : k * 2 + 1 = i
  · subst h1
    rw [if_pos (by omega), if_pos rfl, if_pos (by omega), show k * 2 + 1 - k * 2 = 1 by omega]
    rfl
  · by_cases h0 : k * 2 = i
    · subst h0
      rw [if_pos (by omega), if_neg (by omega), if_pos rfl, if_pos (by omega), Nat.sub_self]
      rfl
    · rw [if_neg (by omega), if_neg h1, if_neg h0]
/-- The cells of Row k of an owned slice, stored anew. -/
theorem stored2 {w : World} {lo : Nat} {e : TypeId} {g n cap : Nat} {l : List P} (h : w.ownsRow lo e 2 (.slice (some ⟨g, 0, none⟩) n cap) n (prs l)) (k : Nat) (p : P) (hk : k < l.length) :
    ((w.setCell ⟨g, k * 2, none⟩ (.int .i64 p.1.id)).setCell ⟨g, k * 2 + 1, none⟩ p.2).ownsRow lo e 2 (.slice (some ⟨g, 0, none⟩) n cap) n (prs (l.set k p)) ∧
      w.grownBy ((w.setCell ⟨g, k * 2, none⟩ (.int .i64 p.1.id)).setCell ⟨g, k * 2 + 1, none⟩ p.2) (some g) := by
  have s1 := h.stored (k * 2) (.int .i64 p.1.id)
  have s2 := s1.1.stored (k * 2 + 1) p.2
  rw [prs_set l k p hk]
  exact ⟨s2.1, s1.2.trans s2.2⟩
/-- v is a slice of Rows of the call's own, blocks lo to hi. -/
def OwnRs (lo hi : Nat) (w : World) (v : Value) (ps : List P) : Prop :=
  Own 44 2 lo hi w v ps.length (prs ps) ∧ (∀ p ∈ ps, Own 26 3 lo hi w p.2 p.1.l.length (vals p.1.l)) ∧ (ps.map fun p => p.2.ownBlock).Nodup
theorem OwnRs.rd {lo hi : Nat} {w : World} {v : Value} {ps : List P} (h : OwnRs lo hi w v ps) : RdRs w v ps := ⟨h.1.rd, fun p hp => (h.2.1 p hp).rd⟩
theorem OwnRs.below {lo hi B : Nat} {w w' : World} {v : Value} {ps : List P} (h : OwnRs lo hi w v ps) (hb : Below B w w') (hB : hi ≤ B) : OwnRs lo hi w' v ps := ⟨h.1.below hb hB, fun p hp => (h.2.1 p hp).below hb hB, h.2.2⟩
theorem fill_set {α : Type} (qs : List α) (x z : α) (n k : Nat) (hq : qs.length = k) (hk : k < n) : (qs ++ List.replicate (n - k) z).set k x = (qs ++ [x]) ++ List.replicate (n - (k + 1)) z := by
  rw [List.set_append_right _ _ (by omega), hq, Nat.sub_self, show n - k = (n - (k + 1)) + 1 by omega, List.replicate_succ, List.set_cons_zero, List.append_assoc]
  rfl

set_option maxHeartbeats 1000000 in
theorem toRowS (v : Value) (ps : List P) (w : World) (hle : ps.length ≤ 1048576) (hli : ∀ p ∈ ps, p.1.l.length ≤ 1048576) (h : RdRs w v ps) :
    Calls Try.prog 29 #[v] w fun e w' => ∃ v' qs, e = .returned v' ∧ qs.map (·.1) = ps.map (·.1) ∧ OwnRs w.heap.size w'.heap.size w' v' qs ∧ Below w.heap.size w w' := by
  generalize hl : ps.length = n at hle
  obtain ⟨a, cap, rfl, _, HC⟩ := h.walk hl
  have HL := Lib.hid hl
  have HS : Hid (∀ k, k < n → (ps.getD k P.zero).1.l.length ≤ 1073741824) := fun k hk => by
    have hk' : k < ps.length := by omega
    have e : ps.getD k P.zero = ps[k] := by simp [hk']
    rw [e]
    exact Nat.le_trans (hli _ (List.getElem_mem hk')) (by decide)
  have HM : Hid (∀ k, k < n → (ps.take (k + 1)).map (·.1) = (ps.take k).map (·.1) ++ [(ps.getD k P.zero).1]) := fun k hk => by
    have hk' : k < ps.length := by omega
    have e : ps.getD k P.zero = ps[k] := by simp [hk']
    rw [e, List.take_succ_eq_append_getElem hk', List.map_append]
    rfl
  clear hl h hli
  go_enter Try.func29, Try.ntmps29
  go_wp2_with (at_make; refine make_law Try.elemRows rfl _ _ rfl .i64 .i64 _ _ n rfl rfl rfl rfl (by omega) (by unfold maxLen; omega) ?_)
  intro w1 hown1 hb1
  have hown0 : w1.ownsRow w.heap.size 44 2 (.slice (some ⟨w.heap.size, 0, none⟩) n n) n (prs ([] ++ List.replicate (n - 0) P.zero)) := by
    have e : prs ([] ++ List.replicate (n - 0) P.zero) = (madeCells (P.cs P.zero).toArray (n * 2)).toList := by
      rw [made_flat P.cs P.zero 2 n (by omega) (fun _ => rfl)]
      simp [prs]
    rw [e]
    exact hown1.row
  clear hown1
  go_wp2
  go_loopw [4] (fun i wr => ∃ (k : Nat) (qs : List P), k ≤ n ∧ i = .int .i64 k ∧ qs.length = k ∧ qs.map (·.1) = (ps.take k).map (·.1) ∧ wr.ownsRow w.heap.size 44 2 (.slice (some ⟨w.heap.size, 0, none⟩) n n) n (prs (qs ++ List.replicate (n - k) P.zero))
    ∧ (∀ p ∈ qs, Own 26 3 (w.heap.size + 1) wr.heap.size wr p.2 p.1.l.length (vals p.1.l)) ∧ (qs.map fun p => p.2.ownBlock).Nodup ∧ Below w.heap.size w wr) (fun i _ => n - (intOf i).toNat)
  case atStart => exact ⟨0, [], Nat.zero_le _, rfl, rfl, rfl, hown0, by simp, by simp, hb1⟩
  case round =>
    obtain ⟨k, qs, hk, rfl, hq, hqm, hownr, hin, hnd, hbr⟩ := hrel
    by_cases hkl : k < n
    · obtain ⟨b, off, rfl, c0, c1, hr⟩ := HC.out k hkl wr hbr
      have HT := Lib.hid (toRow (ps.getD k P.zero).1 (ps.getD k P.zero).2 wr (HS.out k hkl) hr)
      have HMK := Lib.hid (HM.out k hkl)
      rw [← hqm] at HMK
      generalize ps.getD k P.zero = p at c0 c1 hr HT HMK
      obtain ⟨r, u⟩ := p
      obtain ⟨a', cap', hu, _, _⟩ := hr
      simp only at hu c0 c1 HT HMK
      subst hu
      have HI := Lib.hid hin
      have HN := Lib.hid hnd
      have HQ := Lib.hid hq
      clear hin hnd hq hqm
      go_wp2_with fail
      refine HT.out.mono ?_
      rintro e w2 ⟨v2, rfl, o2, hb2⟩
      have O2 := Lib.hid o2
      obtain ⟨g2, cp2, rfl⟩ : ∃ g cp, v2 = .slice (some ⟨g, 0, none⟩) r.l.length cp := by
        obtain ⟨g, cp, e, _⟩ := o2
        exact ⟨g, cp, e⟩
      have r2 := ((own_of_row hownr (Nat.le_refl _)).below hb2 (Nat.le_refl _)).row
      have hb3 := below_then hbr hb2 hbr.size
      have R := Lib.hid (stored2 r2 k (r, .slice (some ⟨g2, 0, none⟩) r.l.length cp2) (by simp [HQ.out]; omega))
      rw [fill_set qs _ P.zero n k HQ.out hkl] at R
      have HW : Hid (wr.heap.size ≤ w2.heap.size) := hb2.size
      have HW0 : Hid (w.heap.size < wr.heap.size) := (hownr.lt _ rfl).2
      have HI2 : Hid (∀ p ∈ qs, Own 26 3 (w.heap.size + 1) wr.heap.size w2 p.2 p.1.l.length (vals p.1.l)) := fun p hp => (HI.out p hp).below hb2 (Nat.le_refl _)
      obtain ⟨x0, s0⟩ := cellAt_some r2 (k * 2) (by omega)
      obtain ⟨x1, s1⟩ := cellAt_some r2 (k * 2 + 1) (by omega)
      have f0 := r2.frozenAt (k * 2)
      have f1 := r2.frozenAt (k * 2 + 1)
      clear hownr hbr r2 hb2 o2 c0 c1 HT HI
      obtain ⟨i, l⟩ := r
      simp only at R O2 HMK
      go_wp2
      go_roundw
      case rel =>
        refine ⟨k + 1, qs ++ [(⟨i, l⟩, .slice (some ⟨g2, 0, none⟩) l.length cp2)], by omega, by go_num, by simp [HQ.out], by rw [HMK.out]; simp, R.out.1, ?_, ?_, hb3.trans ⟨R.out.2.os, R.out.2.tape, R.out.2.output, R.out.2.size, fun j hj => R.out.2.block j (by have := hb3.size; omega) (by simp; omega)⟩⟩
        · intro p hp
          rcases List.mem_append.1 hp with hp | hp
          · exact ((HI2.out p hp).grown R.out.2 (fun g hg => by simp at hg; omega)).wide (Nat.le_trans HW.out R.out.2.size)
          · rw [List.mem_singleton.1 hp]
            exact ((O2.out.grown R.out.2 (fun g hg => by have := HW0.out; simp at hg; omega)).lower HW0.out).wide R.out.2.size
        · rw [List.map_append, List.nodup_append]
          refine ⟨HN.out, by simp, fun x hx y hy => ?_⟩
          obtain ⟨p, hp, rfl⟩ := List.mem_map.1 hx
          simp only [List.map_cons, List.map_nil, List.mem_singleton] at hy
          subst hy
          intro he
          obtain ⟨g, cp, e1, e2, e3, _⟩ := HI2.out p hp
          obtain ⟨g', cp', e4, e5, e6, _⟩ := O2.out
          rw [e1] at he
          simp only [Value.slice.injEq, Option.some.injEq, Addr.mk.injEq, true_and, and_true] at e4
          simp [Value.ownBlock] at he
          omega
      case measure => simp [intOf]; omega
    · obtain rfl : k = n := by omega
      rw [Nat.sub_self, List.replicate_zero, List.append_nil] at hownr
      rw [← HL.out, List.take_length] at hqm
      go_wp2
      go_ret
      have hz := (hownr.lt _ rfl).2
      refine ⟨_, rfl, qs, hqm, ⟨?_, fun p hp => (hin p hp).lower (by omega), hnd⟩, hbr⟩
      rw [hq]
      exact ⟨_, _, rfl, Nat.le_refl _, hz, hownr⟩

theorem getD_fst (ps : List P) (k : Nat) : (ps.getD k P.zero).1 = (ps.map (·.1)).getD k P.zero.1 := by
  by_cases h : k < ps.length
  · simp [h]
  · simp [h]

set_option maxHeartbeats 1000000 in
theorem eqRowS (u v : Value) (ps qs : List P) (w : World) (he : qs.map (·.1) = ps.map (·.1)) (hu : RdRs w u ps) (hv : RdRs w v qs) :
    Calls Try.prog 31 #[u, v] w fun e w' => e = .returned (.bool true) ∧ Below w.heap.size w w' := by
  have hlq : qs.length = ps.length := by simpa using congrArg List.length he
  generalize hl : ps.length = n at hlq
  obtain ⟨a1, c1, rfl, hm1, HC1⟩ := hu.walk hl
  obtain ⟨a2, c2, rfl, hm2, HC2⟩ := hv.walk hlq
  have HE : Hid (∀ k, (qs.getD k P.zero).1 = (ps.getD k P.zero).1) := fun k => by rw [getD_fst, getD_fst, he]
  clear hl hlq hu hv hm2 he
  unfold maxLen at hm1
  have hne : ((n : Int) != (n : Int)) = false := by simp
  go_enter Try.func31, Try.ntmps31
  go_wp2
  go_loopw [5] (fun i wr => ∃ k : Nat, k ≤ n ∧ i = .int .i64 k ∧ Below w.heap.size w wr) (fun i _ => n - (intOf i).toNat)
  case atStart => exact ⟨0, Nat.zero_le _, rfl, Below.refl _ _⟩
  case round =>
    obtain ⟨k, hk, rfl, hbr⟩ := hrel
    by_cases hlt : k < n
    · obtain ⟨b1, o1, rfl, p0, p1, pr⟩ := HC1.out k hlt wr hbr
      obtain ⟨b2, o2, rfl, q0, q1, qr⟩ := HC2.out k hlt wr hbr
      have HEK := Lib.hid (HE.out k)
      rw [HEK.out] at q0 qr
      generalize (ps.getD k P.zero).1 = r at p0 pr q0 qr HEK
      generalize (ps.getD k P.zero).2 = x at p1 pr
      generalize (qs.getD k P.zero).2 = y at q1 qr
      have HX := Lib.hid (fun W (hW : Below wr.heap.size wr W) => eqRow r x y W (pr.below hW) (qr.below hW))
      have HK : Hid (∀ W, Below wr.heap.size wr W → W.cell? ⟨b1, o1 + k * 2, none⟩ = some (.int .i64 r.id) ∧ W.cell? ⟨b1, o1 + k * 2 + 1, none⟩ = some x ∧ W.cell? ⟨b2, o2 + k * 2, none⟩ = some (.int .i64 r.id) ∧ W.cell? ⟨b2, o2 + k * 2 + 1, none⟩ = some y) := fun W h =>
        ⟨(h.cell (p := ⟨b1, o1 + k * 2, none⟩) (lt_of_cell p0)).trans p0, (h.cell (p := ⟨b1, o1 + k * 2 + 1, none⟩) (lt_of_cell p1)).trans p1, (h.cell (p := ⟨b2, o2 + k * 2, none⟩) (lt_of_cell q0)).trans q0, (h.cell (p := ⟨b2, o2 + k * 2 + 1, none⟩) (lt_of_cell q1)).trans q1⟩
      have hB' := (Below.refl wr.heap.size wr).drew
      obtain ⟨ri, rl⟩ := r
      simp only at p0 p1 q0 q1 HK
      clear pr qr HEK
      go_wp2
      go_region_held3 (fun W => W.cell? ⟨b1, o1 + k * 2, none⟩ = some (.int .i64 ri) ∧ W.cell? ⟨b1, o1 + k * 2 + 1, none⟩ = some x ∧ W.cell? ⟨b2, o2 + k * 2, none⟩ = some (.int .i64 ri) ∧ W.cell? ⟨b2, o2 + k * 2 + 1, none⟩ = some y) (exact HK.out _ hB') ((go_at_call 72; (with_reducible refine (HX.out _ hB').mono ?_); rintro e w2 ⟨rfl, hb2⟩; replace hB' := below_then hB' hb2 hB'.size))
      go_wp2
      go_roundw
      case rel => exact ⟨k + 1, by omega, by go_num, below_then hbr hB' hbr.size⟩
      case measure => simp [intOf]; omega
    · go_wp2
      go_ret
      exact ⟨rfl, hbr⟩

end Go.Proofs.Ytpinoemckapbhaa

/- The contracts of the model's chapter 4 that do no text: ColsOk, FitsCols, RowOk, SameRow, SameRows, Column. -/
namespace Go.Proofs.Ytpinoemckapbhaa
open Go.RowKit

/-- ColsOk. -/
def colsB (zs : List Int) : Bool := zs.all (fun z => Num.inB z 1 2) && Num.inB zs.length 1 3
theorem colsB_no {zs : List Int} {k : Nat} (hk : k < zs.length) (h : Num.inB (zs.getD k 0) 1 2 = false) : colsB zs = false := by
  have e : zs.getD k 0 = zs[k] := by simp [hk]
  rw [e] at h
  unfold colsB
  rw [Bool.and_eq_false_iff]
  left
  rw [List.all_eq_false]
  exact ⟨_, List.getElem_mem hk, by rw [h]; simp⟩
theorem colsB_all {zs : List Int} (h : ∀ k, k < zs.length → Num.inB (zs.getD k 0) 1 2 = true) : colsB zs = Num.inB zs.length 1 3 := by
  unfold colsB
  rw [List.all_eq_true.2, Bool.true_and]
  intro z hz
  obtain ⟨k, hk, rfl⟩ := List.getElem_of_mem hz
  have := h k hk
  simpa [hk] using this

set_option maxHeartbeats 400000 in
theorem sColsOk (u : Value) (zs : List Int) (w : World) (h : Rd 1 w u zs.length (ints .i64 zs)) :
    Calls Try.prog 62 #[u] w fun e w' => e = .returned (.bool (colsB zs)) ∧ w = w' := by
  generalize hl : zs.length = n at h
  obtain ⟨a, cap, rfl, hm, HC⟩ := h.ints hl
  unfold maxLen at hm
  have HL := Lib.hid hl
  clear h hl
  go_enter Try.func62, Try.ntmps62
  go_wp2
  go_loop [3] (fun i => ∃ k : Nat, k ≤ n ∧ i = .int .i64 k ∧ ∀ j, j < k → Num.inB (zs.getD j 0) 1 2 = true) (fun i => n - (intOf i).toNat)
  case atStart => exact ⟨0, Nat.zero_le _, rfl, fun j hj => by omega⟩
  case round =>
    obtain ⟨k, hk, rfl, hok⟩ := hrel
    have HOK := Lib.hid hok
    clear hok
    by_cases hlt : k < n
    · obtain ⟨b, off, rfl, hc⟩ := HC.out k hlt
      have HS : Hid (Num.inB (zs.getD k 0) 1 2 = true → ∀ j, j < k + 1 → Num.inB (zs.getD j 0) 1 2 = true) := fun h j hj => by
        by_cases e : j = k
        · subst e; exact h
        · exact HOK.out j (by omega)
      have HN : Hid (Num.inB (zs.getD k 0) 1 2 = false → colsB zs = false) := colsB_no (by rw [HL.out]; exact hlt)
      generalize zs.getD k 0 = z at hc HS HN
      have HI := Lib.hid (fun W => l1In z 1 2 W)
      cases hz : Num.inB z 1 2 with
      | true =>
        have HS2 := Lib.hid (HS.out hz)
        rw [hz] at HI
        clear hz HS HN
        go_wp2_with (go_at_call 51; refine (HI.out _).mono ?_; rintro e w' ⟨rfl, rfl⟩)
        go_round
        case rel => exact ⟨k + 1, by omega, by go_num, HS2.out⟩
        case measure => simp [intOf]; omega
      | false =>
        have HN2 := Lib.hid (HN.out hz)
        rw [hz] at HI
        clear hz HS HN
        go_wp2_with (go_at_call 51; refine (HI.out _).mono ?_; rintro e w' ⟨rfl, rfl⟩)
        go_ret
        exact ⟨ret_bool HN2.out.symm, rfl⟩
    · obtain rfl : k = n := by omega
      have HA : Hid (colsB zs = Num.inB k 1 3) := by
        show colsB zs = _
        rw [colsB_all (fun j hj => HOK.out j (by rw [← HL.out]; exact hj)), HL.out]
      have HI := Lib.hid (fun W => l1In k 1 3 W)
      go_wp2_with (go_at_call 51; refine (HI.out _).mono ?_; rintro e w' ⟨rfl, rfl⟩)
      go_ret
      exact ⟨ret_bool HA.out.symm, rfl⟩

-- FITSCOLS
/-- A value that fits its column. -/
def fitB (z : Int) (v : V) : Bool := okV v && v.ty == z
/-- FitsCols. -/
def fitsB (zs : List Int) (l : List V) : Bool := all2 fitB zs l

-- FITSCOLS

end Go.Proofs.Ytpinoemckapbhaa

/- The contracts of the model's chapter 4, more: RowOk, SameRow, SameRows, Column. -/
namespace Go.Proofs.Ytpinoemckapbhaa
open Go.RowKit

/-- RowOk. -/
def rowB (zs : List Int) (r : R) : Bool := decide (0 ≤ r.id) && fitsB zs r.l
/-- SameRow. -/
def R.eqB (a b : R) : Bool := a.id == b.id && sameV a.l b.l
/-- SameRows. -/
def sameR (l r : List R) : Bool := all2 R.eqB l r
def R.zero : R := ⟨0, []⟩

/-- Column. -/
def colR (l : List R) (k : Int) : List V := l.filterMap fun r => if Num.inB k 0 ((r.l.length : Int) - 1) = true then r.l[k.toNat]? else none
theorem colR_le (l : List R) (k : Int) : (colR l k).length ≤ l.length := List.length_filterMap_le _ _
theorem colR_snoc (l : List R) (r : R) (k : Int) : colR (l ++ [r]) k = colR l k ++ (if Num.inB k 0 ((r.l.length : Int) - 1) = true then r.l[k.toNat]? else none).toList := by
  unfold colR
  rw [List.filterMap_append]
  congr 1

set_option maxHeartbeats 1000000 in
theorem sColumn (u : Value) (ps : List P) (k : Int) (w : World) (hn : ps.length ≤ 1048576) (h : RdRs w u ps) :
    Calls Try.prog 59 #[u, .int .i64 k] w fun e w' => ∃ v', e = .returned v' ∧ Own 26 3 w.heap.size w'.heap.size w' v' (colR (ps.map (·.1)) k).length (vals (colR (ps.map (·.1)) k)) ∧ Below w.heap.size w w' := by
  have hown0 := own_lit (e := 26) (size := 3) w #[] 0 (Nat.zero_le _) rfl
  have hb0 := below_alloc w (.cells #[] 26)
  generalize hl : ps.length = n at hn
  obtain ⟨a, cap, rfl, _, HC⟩ := h.walk hl
  have hl' : (ps.map (·.1)).length = n := by simpa using hl
  have HE : Hid (∀ j, ((ps.map (·.1)).getD j R.zero) = (ps.getD j P.zero).1) := fun j => (getD_fst ps j).symm
  clear h hl
  generalize ps.map (·.1) = l at HE hl' ⊢
  have HL := Lib.hid hl'
  have HT : Hid (∀ j, j < n → colR (l.take (j + 1)) k = colR (l.take j) k ++ (if Num.inB k 0 (((ps.getD j P.zero).1.l.length : Int) - 1) = true then (ps.getD j P.zero).1.l[k.toNat]? else none).toList) := fun j hj => by
    have hj' : j < l.length := by omega
    rw [List.take_succ_eq_append_getElem hj', colR_snoc, ← HE.out j]
    simp [hj']
  have HLE : Hid (∀ j, j ≤ n → (colR (l.take j) k).length ≤ j) := fun j hj => Nat.le_trans (colR_le _ _) (by simp; omega)
  clear hl'
  go_enter Try.func59, Try.ntmps59
  go_wp2
  go_loopw [5, 6] (fun o i wr => ∃ j : Nat, j ≤ n ∧ i = .int .i64 j ∧ Own 26 3 w.heap.size wr.heap.size wr o (colR (l.take j) k).length (vals (colR (l.take j) k)) ∧ Below w.heap.size w wr) (fun _ i _ => n - (intOf i).toNat)
  case atStart => exact ⟨0, Nat.zero_le _, rfl, hown0, hb0⟩
  case round =>
    obtain ⟨j, hj, rfl, hown, hbr⟩ := hrel
    by_cases hlt : j < n
    · obtain ⟨b, off, rfl, c0, c1, hr⟩ := HC.out j hlt wr hbr
      have HTJ := Lib.hid (HT.out j hlt)
      have hcl := HLE.out j (by omega)
      generalize ps.getD j P.zero = p at c0 c1 hr HTJ
      obtain ⟨⟨i, rl⟩, ru⟩ := p
      simp only at c0 c1 HTJ
      have HR := Lib.hid hr
      obtain ⟨a', cap', hu, hmx, hx⟩ := hr
      simp only at hu hmx hx
      subst hu
      have HI := Lib.hid (fun W => l1In k 0 ((rl.length : Int) - 1) W)
      unfold maxLen at hmx
      cases hin : Num.inB k 0 ((rl.length : Int) - 1) with
      | false =>
        rw [hin] at HI HTJ
        rw [if_neg (by simp), Option.toList_none, List.append_nil] at HTJ
        clear hin hx HR
        generalize rl.length = m at *
        go_wp2_with (go_at_call 51; refine (HI.out _).mono ?_; rintro e w' ⟨rfl, rfl⟩)
        go_roundw
        case rel => exact ⟨j + 1, by omega, by go_num, by rw [HTJ.out]; exact hown, hbr⟩
        case measure => simp [intOf]; omega
      | true =>
        obtain ⟨k0, k1⟩ := Num.inB_true.1 hin
        rw [hin] at HI HTJ
        obtain ⟨K, rfl⟩ := Int.eq_ofNat_of_zero_le k0
        have hK : K < rl.length := by omega
        rw [if_pos rfl, Int.toNat_natCast, List.getElem?_eq_getElem hK, Option.toList_some] at HTJ
        obtain ⟨b', o', rfl, hc⟩ : ∃ b off, a' = some ⟨b, off, none⟩ ∧ ∀ j u, (vals rl)[j]? = some u → wr.cell? ⟨b, off + j, none⟩ = some u := by
          rcases hx.2 with h0 | h0
          · omega
          · exact h0
        obtain ⟨d0, d1, d2⟩ := cells3 hc hK
        generalize rl[K] = x at d0 d1 d2 HTJ
        have HVA : Hid (vals (colR (l.take j) K) ++ x.cs = vals (colR (l.take j) K ++ [x])) := by
          show _ = _
          simp [vals]
        have HLN : Hid ((colR (l.take j) K ++ [x]).length = (colR (l.take j) K).length + 1) := by
          show _ = _
          simp
        clear hin hx HR hc
        generalize rl.length = m at *
        generalize colR (l.take j) K = C at *
        generalize C.length = c at *
        obtain ⟨xt, xn, xs⟩ := x
        simp only at d0 d1 d2
        go_wp2_with (first | (go_at_call 51; refine (HI.out _).mono ?_; rintro e w' ⟨rfl, rfl⟩) | (at_builtin; refine appendV_law Try.elemVals rfl _ _ rfl _ _ _ _ _ ⟨xt, xn, xs⟩ rfl hown rfl (by unfold maxLen; omega) (by omega) ?_))
        intro v3 w3 o3 e3
        have b3 := hbr.trans (e3.below hown)
        rw [HVA.out] at o3
        have O3 := Lib.hid o3
        clear o3 e3 hown d0 d1 d2 c0 c1
        go_wp2
        go_roundw
        case rel => exact ⟨j + 1, by omega, by go_num, by rw [HTJ.out, HLN.out]; exact O3.out, b3⟩
        case measure => simp [intOf]; omega
    · obtain rfl : j = n := by omega
      rw [← HL.out, List.take_length] at hown
      go_wp2
      go_ret
      exact ⟨_, rfl, hown, hbr⟩

end Go.Proofs.Ytpinoemckapbhaa

/- The laws' own markRowS. -/
namespace Go.Proofs.Ytpinoemckapbhaa
open Go.RowKit

theorem prs_id {l : List P} {k : Nat} (h : k < l.length) : (prs l)[k * 2]? = some (.int .i64 (l.getD k P.zero).1.id) := by
  have e : l.getD k P.zero = l[k] := by simp [h]
  rw [e]
  exact prs_get (j := 0) h (by omega)
theorem prs_sl {l : List P} {k : Nat} (h : k < l.length) : (prs l)[k * 2 + 1]? = some (l.getD k P.zero).2 := by
  have e : l.getD k P.zero = l[k] := by simp [h]
  rw [e]
  exact prs_get (j := 1) h (by omega)
theorem set_self {α : Type} {l : List α} {i : Nat} {x : α} (h : l[i]? = some x) : l.set i x = l := by
  obtain ⟨hi, rfl⟩ := List.getElem?_eq_some_iff.1 h
  exact List.set_getElem_self hi
/-- A new number for Row k, its slice as it was. -/
theorem prs_set_id {l : List P} {k : Nat} {p : P} (hk : k < l.length) (hp : p.2 = (l.getD k P.zero).2) : prs (l.set k p) = (prs l).set (k * 2) (.int .i64 p.1.id) := by
  rw [prs_set l k p hk, set_self]
  rw [List.getElem?_set_ne (by omega), prs_sl hk, hp]
theorem getD_set_ne {α : Type} {l : List α} {k j : Nat} {x d : α} (h : k ≠ j) : (l.set k x).getD j d = l.getD j d := by
  rw [List.getD_eq_getElem?_getD, List.getD_eq_getElem?_getD, List.getElem?_set_ne h]
theorem getD_set_eq {α : Type} {l : List α} {k : Nat} {x d : α} (h : k < l.length) : (l.set k x).getD k d = x := by
  rw [List.getD_eq_getElem?_getD, List.getElem?_set_self h]
  rfl
theorem all_of_mem {α : Type} {l : List α} {d : α} {q : α → Prop} (h : ∀ x ∈ l, q x) : ∀ k, k < l.length → q (l.getD k d) := fun k hk => by
  have e : l.getD k d = l[k] := by simp [hk]
  rw [e]
  exact h _ (List.getElem_mem hk)
theorem mem_of_all {α : Type} {l : List α} {d : α} {q : α → Prop} (h : ∀ k, k < l.length → q (l.getD k d)) : ∀ x ∈ l, q x := fun x hx => by
  obtain ⟨k, hk, rfl⟩ := List.getElem_of_mem hx
  have := h k hk
  simpa [hk] using this
theorem nodup_ne {l : List P} (h : (l.map fun p => p.2.ownBlock).Nodup) {i j : Nat} (hi : i < l.length) (hj : j < l.length) (hne : i ≠ j) : (l.getD i P.zero).2.ownBlock ≠ (l.getD j P.zero).2.ownBlock := by
  have key : ∀ i j, i < j → j < l.length → (l.getD i P.zero).2.ownBlock ≠ (l.getD j P.zero).2.ownBlock := fun i j hij hj => by
    have hi : i < l.length := by omega
    have := List.pairwise_iff_getElem.1 h i j (by simpa using hi) (by simpa using hj) hij
    simpa [hi, hj] using this
  rcases Nat.lt_or_gt_of_ne hne with h1 | h1
  · exact key i j h1 hj
  · exact fun e => key j i h1 hi e.symm

/-- How far markRowS counts. -/
def rlen : List P → Nat
  | [] => 0
  | p :: ps => 1 + 3 * p.1.l.length + rlen ps
/-- What markRowS leaves. -/
def rmarks : Nat → List P → List P
  | _, [] => []
  | s, p :: ps => (⟨s, vmarks (s + 1) p.1.l.length⟩, p.2) :: rmarks (s + 1 + 3 * p.1.l.length) ps
theorem rmarks_len (s : Nat) (ps : List P) : (rmarks s ps).length = ps.length := by
  induction ps generalizing s with
  | nil => rfl
  | cons p ps ih => simp [rmarks, ih]
theorem rlen_append (ps qs : List P) : rlen (ps ++ qs) = rlen ps + rlen qs := by
  induction ps with
  | nil => simp [rlen]
  | cons p ps ih => simp only [List.cons_append, rlen, ih]; omega
theorem rmarks_append (s : Nat) (ps qs : List P) : rmarks s (ps ++ qs) = rmarks s ps ++ rmarks (s + rlen ps) qs := by
  induction ps generalizing s with
  | nil => simp [rmarks, rlen]
  | cons p ps ih => simp only [List.cons_append, rmarks, ih, rlen]; rw [show s + 1 + 3 * p.1.l.length + rlen ps = s + (1 + 3 * p.1.l.length + rlen ps) by omega]
/-- After k rounds. -/
def rhalf (s : Nat) (ps : List P) (k : Nat) : List P := rmarks s (ps.take k) ++ ps.drop k
theorem rhalf_len {s : Nat} {ps : List P} {k : Nat} : (rhalf s ps k).length = ps.length := by
  unfold rhalf
  rw [List.length_append, rmarks_len, ← List.length_append, List.take_append_drop]
theorem rhalf_get {s : Nat} {ps : List P} {k : Nat} (h : k < ps.length) : (rhalf s ps k).getD k P.zero = ps.getD k P.zero := by
  unfold rhalf
  have hl : (rmarks s (ps.take k)).length = k := by rw [rmarks_len]; simp; omega
  rw [List.getD_eq_getElem?_getD, List.getElem?_append_right (by omega), hl, Nat.sub_self, List.drop_eq_getElem_cons h]
  simp [h]
theorem rhalf_set {s : Nat} {ps : List P} {k : Nat} (h : k < ps.length) : (rhalf s ps k).set k (⟨(s + rlen (ps.take k) : Nat), vmarks (s + rlen (ps.take k) + 1) (ps.getD k P.zero).1.l.length⟩, (ps.getD k P.zero).2) = rhalf s ps (k + 1) := by
  have hl : (rmarks s (ps.take k)).length = k := by rw [rmarks_len]; simp; omega
  have e : ps.getD k P.zero = ps[k] := by simp [h]
  unfold rhalf
  rw [e, List.set_append_right _ _ (by omega), hl, Nat.sub_self, List.drop_eq_getElem_cons h, List.set_cons_zero, List.take_succ_eq_append_getElem h, rmarks_append, List.append_assoc]
  rfl
theorem rlen_take_succ {ps : List P} {k : Nat} (h : k < ps.length) : rlen (ps.take (k + 1)) = rlen (ps.take k) + (1 + 3 * (ps.getD k P.zero).1.l.length) := by
  have e : ps.getD k P.zero = ps[k] := by simp [h]
  rw [e, List.take_succ_eq_append_getElem h, rlen_append]
  simp [rlen]
theorem rlen_take_le (ps : List P) (k : Nat) : rlen (ps.take k) ≤ rlen ps := by
  conv => rhs; rw [← List.take_append_drop k ps, rlen_append]
  omega
theorem rmarks_blocks (s : Nat) (ps : List P) : (rmarks s ps).map (fun p => p.2.ownBlock) = ps.map fun p => p.2.ownBlock := by
  induction ps generalizing s with
  | nil => rfl
  | cons p ps ih => simp [rmarks, ih]
theorem rhalf_blocks (s : Nat) (ps : List P) (k : Nat) : (rhalf s ps k).map (fun p => p.2.ownBlock) = ps.map fun p => p.2.ownBlock := by
  unfold rhalf
  rw [List.map_append, rmarks_blocks, ← List.map_append, List.take_append_drop]

set_option maxHeartbeats 1000000 in
theorem markRowS (v : Value) (ps : List P) (lo hi s : Nat) (w : World) (h0 : 0 < s) (hs : s ≤ 1048576) (hn : ps.length ≤ 1048576) (hr : rlen ps ≤ 16777216) (h : OwnRs lo hi w v ps) :
    Calls Try.prog 32 #[v, .int .i64 s] w fun e w' => e = .returned (.int .i64 (s + rlen ps : Nat)) ∧ OwnRs lo hi w' v (rmarks s ps) ∧ Within lo hi w w' := by
  generalize hl : ps.length = n at hn
  obtain ⟨ho, hin, hnd⟩ := h
  rw [hl] at ho
  obtain ⟨g, cap, rfl, hlo, hhi, hown⟩ := ho
  have HL := Lib.hid hl
  have HND := Lib.hid hnd
  have HRL : Hid (∀ k, rlen (ps.take k) ≤ 16777216) := fun k => Nat.le_trans (rlen_take_le ps k) hr
  have hin0 : ∀ j, j < n → Own 26 3 lo hi w ((rhalf s ps 0).getD j P.zero).2 ((rhalf s ps 0).getD j P.zero).1.l.length (vals ((rhalf s ps 0).getD j P.zero).1.l) := by
    have e : rhalf s ps 0 = ps := by simp [rhalf, rmarks]
    rw [e, ← hl]
    exact all_of_mem (q := fun p : P => Own 26 3 lo hi w p.2 p.1.l.length (vals p.1.l)) hin
  clear hl hnd hr hin
  go_enter Try.func32, Try.ntmps32
  go_wp2
  go_loopw [1, 5] (fun q i wr => ∃ k : Nat, k ≤ n ∧ i = .int .i64 k ∧ q = .int .i64 (s + rlen (ps.take k) : Nat) ∧ wr.ownsRow lo 44 2 (.slice (some ⟨g, 0, none⟩) n cap) n (prs (rhalf s ps k))
    ∧ (∀ j, j < n → Own 26 3 lo hi wr ((rhalf s ps k).getD j P.zero).2 ((rhalf s ps k).getD j P.zero).1.l.length (vals ((rhalf s ps k).getD j P.zero).1.l)) ∧ Within lo hi w wr) (fun _ i _ => n - (intOf i).toNat)
  case atStart => exact ⟨0, Nat.zero_le _, rfl, by simp [rlen], by simpa [rhalf, rmarks] using hown, hin0, Within.refl _ _ _⟩
  case round =>
    obtain ⟨k, hk, rfl, rfl, hownr, hir, hwr⟩ := hrel
    by_cases hkl : k < n
    · have hkp : k < ps.length := by rw [HL.out]; exact hkl
      have HST := Lib.hid (rhalf_set (s := s) hkp)
      have HTK := Lib.hid (rlen_take_succ hkp)
      have hr1 := HRL.out k
      have hr2 := HRL.out (k + 1)
      have HLN : Hid ((rhalf s ps k).length = n) := rhalf_len.trans HL.out
      have hik := hir k hkl
      have hc1 : wr.cell? ⟨g, k * 2 + 1, none⟩ = some (ps.getD k P.zero).2 := by
        rw [← rhalf_get (s := s) hkp]
        exact (hownr.cellAt (k * 2 + 1) (by omega)).trans (prs_sl (by rw [HLN.out]; exact hkl))
      have HNB : Hid (∀ j, j < n → j ≠ k → (ps.getD k P.zero).2.ownBlock ≠ ((rhalf s ps k).getD j P.zero).2.ownBlock) := fun j hj hjk => by
        rw [← rhalf_get (s := s) hkp]
        exact nodup_ne (by rw [rhalf_blocks]; exact HND.out) (by rw [HLN.out]; exact hkl) (by rw [HLN.out]; exact hj) (fun e => hjk e.symm)
      have HGK := Lib.hid (rhalf_get (s := s) hkp)
      rw [HGK.out] at hik
      generalize ps.getD k P.zero = p at hik hc1 HST HTK HNB HGK
      obtain ⟨r, u⟩ := p
      simp only at hik hc1 HST HTK HNB
      have hb0 := Own.blocks_ne (own_of_row hownr hlo) hik (by decide)
      have A1 := hownr.stored (k * 2) (.int .i64 (s + rlen (ps.take k) : Nat))
      obtain ⟨x0, s0⟩ := cellAt_some hownr (k * 2) (by omega)
      have f0 := hownr.frozenAt (k * 2)
      have hik1 := hik.other A1.2 (fun e => hb0 e)
      have HMV : Hid (Calls Try.prog 73 #[u, .int .i64 (((s + rlen (ps.take k) : Nat) : Int) + 1)] (wr.setCell ⟨g, k * 2, none⟩ (.int .i64 (s + rlen (ps.take k) : Nat))) fun e w' => e = .returned (.int .i64 (s + rlen (ps.take k) + 1 + 3 * r.l.length : Nat)) ∧ Own 26 3 lo hi w' u r.l.length (vals (vmarks (s + rlen (ps.take k) + 1) r.l.length)) ∧ (wr.setCell ⟨g, k * 2, none⟩ (.int .i64 (s + rlen (ps.take k) : Nat))).grownBy w' u.ownBlock) := by
        have := markValM u r.l.length lo hi r.l (s + rlen (ps.take k) + 1) (wr.setCell ⟨g, k * 2, none⟩ (.int .i64 (s + rlen (ps.take k) : Nat))) (by omega) (by omega) (by rw [HTK.out] at hr2; omega) rfl hik1
        rw [show (((s + rlen (ps.take k) : Nat) : Int) + 1) = ((s + rlen (ps.take k) + 1 : Nat) : Int) by omega]
        exact this
      have HA := Lib.hid A1
      have HI := Lib.hid hir
      have HO := Lib.hid hownr
      have HLEN : Hid (r.l.length ≤ 16777216) := by show r.l.length ≤ 16777216; rw [HTK.out] at hr2; omega
      clear A1 hir hik hik1 hownr hr2
      generalize hm : s + rlen (ps.take k) = m at *
      have HM := Lib.hid hm
      have hm2 : m ≤ 1099511627 := by omega
      clear hm hr1
      go_wp2_with fail
      refine HMV.out.mono ?_
      rintro e w2 ⟨rfl, om, gm⟩
      have hlen := HLEN.out
      have HOM := Lib.hid om
      have HGM := Lib.hid gm
      clear om gm s0 f0 hc1 HMV
      go_wp2
      go_roundw
      case rel =>
        refine ⟨k + 1, by omega, by go_num, by rw [HTK.out]; have := HM.out; go_num, ?_, fun j hj => ?_, ?_⟩
        · rw [← HST.out, prs_set_id (by rw [HLN.out]; exact hkl) (by rw [HGK.out])]
          exact ((own_of_row HA.out.1 hlo).other HGM.out (fun e => hb0 e.symm)).row
        · rw [← HST.out]
          by_cases hjk : j = k
          · subst hjk
            rw [getD_set_eq (by rw [HLN.out]; exact hkl)]
            simp only [vmarks_len]
            exact HOM.out
          · rw [getD_set_ne (fun e => hjk e.symm)]
            have o1 := HI.out j hj
            have b1 := Own.blocks_ne (own_of_row HO.out hlo) o1 (by decide)
            exact (o1.other HA.out.2 (fun e => b1 e)).other HGM.out (HNB.out j hj hjk)
        · refine (hwr.trans (Within.of_grown HA.out.2 (fun x hx => ?_))).trans (Within.of_grown HGM.out (fun x hx => ?_))
          · simp only [Option.some.injEq] at hx
            omega
          · obtain ⟨g2, cp2, e2, l2, l3, _⟩ := HOM.out
            rw [e2] at hx
            simp [Value.ownBlock] at hx
            omega
      case measure => simp [intOf]; omega
    · obtain rfl : k = n := by omega
      have e : rhalf s ps k = rmarks s ps := by
        unfold rhalf
        rw [← HL.out, List.take_length, List.drop_length, List.append_nil]
      rw [e] at hownr hir
      have HZ : Hid (rlen (ps.take k) = rlen ps) := by
        show rlen (ps.take k) = rlen ps
        rw [← HL.out, List.take_length]
      have HI : Hid (∀ p ∈ rmarks s ps, Own 26 3 lo hi wr p.2 p.1.l.length (vals p.1.l)) := mem_of_all (d := P.zero) (q := fun p : P => Own 26 3 lo hi wr p.2 p.1.l.length (vals p.1.l)) (fun j hj => hir j (by rw [rmarks_len, HL.out] at hj; exact hj))
      rw [HZ.out]
      clear hir
      go_wp2
      go_ret
      refine ⟨rfl, ⟨?_, HI.out, by rw [rmarks_blocks]; exact HND.out⟩, hwr⟩
      rw [rmarks_len, HL.out]
      exact ⟨_, _, rfl, hlo, hhi, hownr⟩

end Go.Proofs.Ytpinoemckapbhaa

/- The exact laws of chapter 4 that do no text, walked; the program's own contracts come as hypotheses. -/
namespace Go.Proofs.Ytpinoemckapbhaa
open Go.RowKit

def CColsOk : Prop := ∀ (u : Value) (zs : List Int) (w : World), zs.length ≤ 1048576 → Rd 1 w u zs.length (ints .i64 zs) → Calls Try.prog 46 #[u] w fun e w' => e = .returned (.bool (colsB zs)) ∧ Below w.heap.size w w'
def CColumn : Prop := ∀ (u : Value) (ps : List P) (ls : List R) (k : Int) (w : World), ps.length ≤ 1048576 → (∀ p ∈ ps, p.1.l.length ≤ 1048576) → RdRs w u ps → ps.map (·.1) = ls → Calls Try.prog 44 #[u, .int .i64 k] w fun e w' => ∃ v', e = .returned v' ∧ Own 26 3 w.heap.size w'.heap.size w' v' (colR ls k).length (vals (colR ls k)) ∧ Below w.heap.size w w'

theorem sColumn' (u : Value) (ps : List P) (ls : List R) (k : Int) (w : World) (hn : ps.length ≤ 1048576) (h : RdRs w u ps) (h1 : ps.map (·.1) = ls) :
    Calls Try.prog 59 #[u, .int .i64 k] w fun e w' => ∃ v', e = .returned v' ∧ Own 26 3 w.heap.size w'.heap.size w' v' (colR ls k).length (vals (colR ls k)) ∧ Below w.heap.size w w' := by
  subst h1
  exact sColumn u ps k w hn h
theorem bulkR_mem {ps : List P} {p : P} (h : p ∈ ps) : p.1.l.length ≤ bulkR ps := by
  induction ps with
  | nil => cases h
  | cons q ps ih =>
    have e : bulkR (q :: ps) = q.1.l.length + bulk q.1.l + bulkR ps := by simp [bulkR]
    rcases List.mem_cons.1 h with rfl | h
    · omega
    · have := ih h
      omega
theorem rlen_le (ps : List P) : rlen ps ≤ 3 * (ps.length + bulkR ps) := by
  induction ps with
  | nil => simp [rlen]
  | cons q ps ih =>
    have e : bulkR (q :: ps) = q.1.l.length + bulk q.1.l + bulkR ps := by simp [bulkR]
    simp only [rlen, List.length_cons]
    omega
theorem rlen_fst {ps qs : List P} (h : qs.map (·.1) = ps.map (·.1)) : rlen qs = rlen ps := by
  induction qs generalizing ps with
  | nil => cases ps with
    | nil => rfl
    | cons => cases h
  | cons q qs ih => cases ps with
    | nil => cases h
    | cons p ps =>
      simp only [List.map_cons, List.cons.injEq] at h
      rw [rlen, rlen, h.1, ih h.2]
theorem len_fst {ps qs : List P} (h : qs.map (·.1) = ps.map (·.1)) : qs.length = ps.length := by simpa using congrArg List.length h
theorem small_fst {ps qs : List P} {N : Nat} (h : qs.map (·.1) = ps.map (·.1)) (hp : ∀ p ∈ ps, p.1.l.length ≤ N) : ∀ q ∈ qs, q.1.l.length ≤ N := by
  intro q hq
  have : q.1 ∈ ps.map (·.1) := by
    rw [← h]
    exact List.mem_map.2 ⟨q, hq, rfl⟩
  obtain ⟨p, hp', e⟩ := List.mem_map.1 this
  rw [← e]
  exact hp p hp'

end Go.Proofs.Ytpinoemckapbhaa

/- The contracts of impl's ColsOk, SameRow, SameRows, Column. -/
namespace Go.Proofs.Ytpinoemckapbhaa
open Go.RowKit

theorem inB12 {z : Int} : Num.inB z 1 2 = true ↔ z = 1 ∨ z = 2 := by
  rw [Num.inB_true]
  omega
theorem colsB_len {zs : List Int} (h : zs.length < 1 ∨ 3 < zs.length) : colsB zs = false := by
  unfold colsB
  rw [Bool.and_eq_false_iff]
  right
  rw [← Bool.not_eq_true, Num.inB_true]
  omega

set_option maxHeartbeats 1000000 in
theorem iColsOk : CColsOk := by
  intro u zs w _ h
  generalize hl : zs.length = n at h
  obtain ⟨a, cap, rfl, hm, HC⟩ := h.ints hl
  unfold maxLen at hm
  have HL := Lib.hid hl
  clear h hl
  by_cases h1 : n < 1
  · have HA : Hid (colsB zs = false) := colsB_len (by rw [HL.out]; exact .inl h1)
    go_enter Try.func46, Try.ntmps46
    go_wp2
    go_ret
    exact ⟨ret_bool HA.out.symm, Below.refl _ _⟩
  by_cases h3 : 3 < n
  · have HA : Hid (colsB zs = false) := colsB_len (by rw [HL.out]; exact .inr h3)
    go_enter Try.func46, Try.ntmps46
    go_wp2
    go_ret
    exact ⟨ret_bool HA.out.symm, Below.refl _ _⟩
  go_enter Try.func46, Try.ntmps46
  go_wp2
  go_loop [15] (fun i => ∃ k : Nat, k ≤ n ∧ i = .int .i64 k ∧ ∀ j, j < k → Num.inB (zs.getD j 0) 1 2 = true) (fun i => n - (intOf i).toNat)
  case atStart => exact ⟨0, Nat.zero_le _, rfl, fun j hj => by omega⟩
  case round =>
    obtain ⟨k, hk, rfl, hok⟩ := hrel
    have HOK := Lib.hid hok
    clear hok
    by_cases hlt : k < n
    · obtain ⟨b, off, rfl, hc⟩ := HC.out k hlt
      have HS : Hid (Num.inB (zs.getD k 0) 1 2 = true → ∀ j, j < k + 1 → Num.inB (zs.getD j 0) 1 2 = true) := fun h j hj => by
        by_cases e : j = k
        · subst e; exact h
        · exact HOK.out j (by omega)
      have HN : Hid (Num.inB (zs.getD k 0) 1 2 = false → colsB zs = false) := colsB_no (by rw [HL.out]; exact hlt)
      generalize zs.getD k 0 = z at hc HS HN
      by_cases z1 : z = 1
      · have HS2 := Lib.hid (HS.out (inB12.2 (.inl z1)))
        subst z1
        clear HS HN
        go_wp2
        go_round
        case rel => exact ⟨k + 1, by omega, by go_num, HS2.out⟩
        case measure => simp [intOf]; omega
      by_cases z2 : z = 2
      · have HS2 := Lib.hid (HS.out (inB12.2 (.inr z2)))
        subst z2
        clear HS HN
        go_wp2
        go_round
        case rel => exact ⟨k + 1, by omega, by go_num, HS2.out⟩
        case measure => simp [intOf]; omega
      · have HN2 := Lib.hid (HN.out (by rw [← Bool.not_eq_true, inB12]; omega))
        have e1 : (z != 1) = true := by simpa using z1
        have e2 : (z != 2) = true := by simpa using z2
        clear HS HN z1 z2
        go_wp2
        go_ret
        exact ⟨ret_bool HN2.out.symm, Below.refl _ _⟩
    · obtain rfl : k = n := by omega
      have HA : Hid (colsB zs = true) := by
        show colsB zs = _
        rw [colsB_all (fun j hj => HOK.out j (by rw [← HL.out]; exact hj)), HL.out, Num.inB_true]
        omega
      go_wp2
      go_ret
      exact ⟨ret_bool HA.out.symm, Below.refl _ _⟩

end Go.Proofs.Ytpinoemckapbhaa

/- The model's Zones. -/
namespace Go.Proofs.Ytpinoemckapbhaa
open Go.RowKit

/-- append(s, x): x, a Zone, has just been laid in a block of its own. -/
theorem appendZ_law {P : Program} {t e : TypeId} {z : Value} {bytes : Nat} (T : ElemT P t e z 6 bytes) {w : World} {ops : Array Oper} {rest : List Oper} {o : Oper} {a : Act} {Q : Exit → Act → World → Prop} (hgd : o.guard = none) (s x : Operand)
    (ho : o.op = .call { callee := .builtin .append, args := #[s, x], argTypes := #[t, t] })
    (lo hi : Nat) (v : Value) (n : Nat) (xs : List Value) (u : Zn) (hs : a.eval s = v) (hown : Own e 6 lo hi w v n xs)
    (hx : a.eval x = .slice (some ⟨w.heap.size, 0, none⟩) 1 1)
    (h63 : n + 1 ≤ maxLen) (hbytes : (n + 1) * bytes ≤ 140737488355328)
    (h : ∀ v' w', Own e 6 lo w'.heap.size w' v' (n + 1) (xs ++ u.cs) → Ext w w' v v' → wpList P ops Q rest (a.put o.dst v') w') : wpList P ops Q (o :: rest) a (w.alloc (.cells #[.int .i64 u.lo.ty, .int .i64 u.lo.n, .string u.lo.s, .int .i64 u.hi.ty, .int .i64 u.hi.n, .string u.hi.s] e)) := by
  refine append_law T hgd s x ho lo hi v n xs hs (hown.alloc _) w.heap.size 0 1 1 u.cs hx rfl ?_ ?_ h63 hbytes (fun v' w' h1 h2 => h v' w' h1 ((Ext.alloc v _).trans h2))
  · intro j y hj
    match j, hj with
    | 0, hj => simp [Zn.cs] at hj; subst hj; simp
    | 1, hj => simp [Zn.cs] at hj; subst hj; simp
    | 2, hj => simp [Zn.cs] at hj; subst hj; simp
    | 3, hj => simp [Zn.cs] at hj; subst hj; simp
    | 4, hj => simp [Zn.cs] at hj; subst hj; simp
    | 5, hj => simp [Zn.cs] at hj; subst hj; simp
    | j + 6, hj => simp [Zn.cs] at hj
  · intro y hy
    simp [Zn.cs] at hy
    rcases hy with rfl | rfl | rfl | rfl | rfl | rfl <;> rfl

/-- The zones of the first q columns. -/
def zonesK (l : List R) (q : Nat) : List Zn := (List.range q).map fun k : Nat => zoneL (colR l (k : Int))
theorem zonesK_len (l : List R) (q : Nat) : (zonesK l q).length = q := by simp [zonesK]
theorem zonesK_succ (l : List R) (q : Nat) : zonesK l (q + 1) = zonesK l q ++ [zoneL (colR l (q : Int))] := by
  unfold zonesK
  rw [List.range_succ, List.map_append]
  rfl
/-- Zones. -/
def zonesL : List R → List Zn
  | [] => []
  | r :: l => zonesK (r :: l) r.l.length

set_option maxHeartbeats 2000000 in
theorem sZones (u : Value) (ps : List P) (w : World) (hn : ps.length ≤ 1048576) (hq : ∀ p ∈ ps, p.1.l.length ≤ 1048576) (h : RdRs w u ps) :
    Calls Try.prog 18 #[u] w fun e w' => ∃ v', e = .returned v' ∧ Own 79 6 w.heap.size w'.heap.size w' v' (zonesL (ps.map (·.1))).length (zns (zonesL (ps.map (·.1)))) ∧ Below w.heap.size w w' := by
  have hown0 := own_lit (e := 79) (size := 6) w #[] 0 (Nat.zero_le _) rfl
  have hb0 := below_alloc w (.cells #[] 79)
  cases ps with
  | nil =>
    obtain ⟨⟨a, cap, rfl, _, _⟩, _⟩ := h
    simp only [List.map_nil, zonesL, List.length_nil]
    go_enter Try.func18, Try.ntmps18
    go_wp2
    go_ret
    exact ⟨_, rfl, hown0, hb0⟩
  | cons p ps =>
    have HRD := Lib.hid (fun W (hW : Below w.heap.size w W) => h.below hW)
    have HCL := Lib.hid (fun (k : Int) W (hW : Below w.heap.size w W) => sColumn u (p :: ps) k W hn (h.below hW))
    have HQ : Hid (p.1.l.length ≤ 1048576) := hq p List.mem_cons_self
    generalize hl : (p :: ps).length = n at *
    obtain ⟨a, cap, rfl, hle, HC⟩ := h.walk hl
    have hpos : 0 < n := by rw [← hl]; simp
    have HC0 := Lib.hid (fun W hW => HC.out 0 hpos W hW)
    have hz : zonesL ((p :: ps).map (·.1)) = zonesK ((p :: ps).map (·.1)) p.1.l.length := rfl
    rw [hz, zonesK_len]
    simp only [List.getD_cons_zero] at HC0
    generalize (p :: ps).map (·.1) = rs at HCL ⊢
    have hn0 : ((n : Int) == 0) = false := by simp; omega
    have hni : (0 : Int) < (n : Int) := by omega
    have hm := HQ.out
    obtain ⟨r, ru⟩ := p
    simp only at HC0 HQ hm ⊢
    obtain ⟨b, off, hb, _, _, hr⟩ := HC0.out w (Below.refl _ _)
    subst hb
    obtain ⟨ra, rcap, hru, _, _⟩ := hr
    subst hru
    have HCC : Hid (∀ W, Below w.heap.size w W → W.cell? ⟨b, off + 1, none⟩ = some (.slice ra r.l.length rcap)) := fun W hW => by
      obtain ⟨b', off', e, _, h2, _⟩ := HC0.out W hW
      simp only [Option.some.injEq, Addr.mk.injEq, and_true] at e
      obtain ⟨rfl, rfl⟩ := e
      simpa using h2
    generalize r.l.length = m at *
    clear h HRD HC HC0 hq hz hn HQ
    go_enter Try.func18, Try.ntmps18
    go_wp2
    go_loopw [3, 4] (fun o i wr => ∃ q : Nat, q ≤ m ∧ i = .int .i64 q ∧ Own 79 6 w.heap.size wr.heap.size wr o q (zns (zonesK rs q)) ∧ Below w.heap.size w wr) (fun _ i _ => m - (intOf i).toNat)
    case atStart => exact ⟨0, Nat.zero_le _, rfl, hown0, hb0⟩
    case round =>
      obtain ⟨q, hq, rfl, hown, hbr⟩ := hrel
      have hc1 := HCC.out wr hbr
      by_cases hlt : q < m
      · have HVA : Hid (zns (zonesK rs q) ++ Zn.cs (zoneL (colR rs (q : Int))) = zns (zonesK rs (q + 1))) := by
          show _ = _
          rw [zonesK_succ]
          simp [zns]
        have HX := Lib.hid (HCL.out (q : Int) wr hbr)
        have HZ := Lib.hid (fun v' W hW => sZoneOf v' (colR rs (q : Int)) W hW)
        generalize colR rs (q : Int) = cl at HX HZ HVA
        have hown' := hown
        obtain ⟨ob, oc, ho, _⟩ := hown'
        subst ho
        go_wp2_with fail
        refine HX.out.mono ?_
        rintro e w2 ⟨v2, rfl, o2, b2⟩
        have B2 := below_then hbr b2 hbr.size
        have O2 := (hown.below b2 (Nat.le_refl _)).wide b2.size
        have HZ2 := Lib.hid (HZ.out v2 w2 o2.rd)
        clear HX HZ o2 b2 hown hc1
        generalize zoneL cl = z at HZ2 HVA
        go_wp2_with fail
        refine HZ2.out.mono ?_
        rintro e w3 ⟨rfl, b3⟩
        have B3 := below_then B2 b3 B2.size
        have O3 := (O2.below b3 (Nat.le_refl _)).wide b3.size
        obtain ⟨⟨a1, a2, a3⟩, ⟨a4, a5, a6⟩⟩ := z
        clear HZ2 O2 b3 B2
        go_wp2_with (at_builtin; refine appendZ_law Try.elemZones rfl _ _ rfl _ _ _ _ _ ⟨⟨a1, a2, a3⟩, ⟨a4, a5, a6⟩⟩ rfl O3 rfl (by unfold maxLen; omega) (by omega) ?_)
        intro v4 w4 o4 e4
        have B4 := B3.trans (e4.below O3)
        rw [HVA.out] at o4
        have O4 := Lib.hid o4
        clear o4 e4 O3
        go_wp2
        go_roundw
        case rel => exact ⟨q + 1, by omega, by go_num, O4.out, B4⟩
        case measure => simp [intOf]; omega
      · obtain rfl : q = m := by omega
        go_wp2
        go_ret
        exact ⟨_, rfl, hown, hbr⟩

end Go.Proofs.Ytpinoemckapbhaa

/- The laws' own markZoneS and heldZoneS (written by mk_ZS11m.py). -/
namespace Go.Proofs.Ytpinoemckapbhaa
open Go.RowKit

theorem zns_set (l : List Zn) (k : Nat) (x : Zn) (hk : k < l.length) : zns (l.set k x) = ((((((zns l).set (k * 6) (.int .i64 x.lo.ty)).set (k * 6 + 1) (.int .i64 x.lo.n)).set (k * 6 + 2) (.string x.lo.s)).set (k * 6 + 3) (.int .i64 x.hi.ty)).set (k * 6 + 4) (.int .i64 x.hi.n)).set (k * 6 + 5) (.string x.hi.s) := by
  have hl := zns_len l
  apply List.ext_getElem?
  intro i
  unfold zns at hl ⊢
  rw [flat_set Zn.cs 6 (fun _ => rfl) l k x hk i]
  simp only [List.getElem?_set, List.length_set]
  by_cases h5 : k * 6 + 5 = i
  · subst h5
    rw [if_pos (by omega), if_pos rfl, if_pos (by omega), show k * 6 + 5 - k * 6 = 5 by omega]
    rfl
  · by_cases h4 : k * 6 + 4 = i
    · subst h4
      rw [if_pos (by omega), if_neg (by omega), if_pos rfl, if_pos (by omega), show k * 6 + 4 - k * 6 = 4 by omega]
      rfl
    · by_cases h3 : k * 6 + 3 = i
      · subst h3
        rw [if_pos (by omega), if_neg (by omega), if_neg (by omega), if_pos rfl, if_pos (by omega), show k * 6 + 3 - k * 6 = 3 by omega]
        rfl
      · by_cases h2 : k * 6 + 2 = i
        · subst h2
          rw [if_pos (by omega), if_neg (by omega), if_neg (by omega), if_neg (by omega), if_pos rfl, if_pos (by omega), show k * 6 + 2 - k * 6 = 2 by omega]
          rfl
        · by_cases h1 : k * 6 + 1 = i
          · subst h1
            rw [if_pos (by omega), if_neg (by omega), if_neg (by omega), if_neg (by omega), if_neg (by omega), if_pos rfl, if_pos (by omega), show k * 6 + 1 - k * 6 = 1 by omega]
            rfl
          · by_cases h0 : k * 6 = i
            · subst h0
              rw [if_pos (by omega), if_neg (by omega), if_neg (by omega), if_neg (by omega), if_neg (by omega), if_neg (by omega), if_pos rfl, if_pos (by omega), Nat.sub_self]
              rfl
            · rw [if_neg (by omega), if_neg h5, if_neg h4, if_neg h3, if_neg h2, if_neg h1, if_neg h0]
/-- What markZoneS leaves. -/
def zmark (m : Nat) : Zn := ⟨⟨m, (m : Int) + 1, mtext (m + 2)⟩, ⟨(m : Int) + 3, (m : Int) + 4, mtext (m + 5)⟩⟩
def zmarks (s n : Nat) : List Zn := (List.range n).map fun j => zmark (s + 6 * j)
theorem zmarks_len (s n : Nat) : (zmarks s n).length = n := by simp [zmarks]
theorem zmarks_get {s n k : Nat} (h : k < n) : (zmarks s n).getD k Zn.zero = zmark (s + 6 * k) := by simp [zmarks, h]
theorem zmarks_set {s k m : Nat} {l : List Zn} (h : k < l.length) (hm : s + 6 * k = m) : (zmarks s k ++ l.drop k).set k (zmark m) = zmarks s (k + 1) ++ l.drop (k + 1) := by
  subst hm
  rw [List.set_append_right _ _ (by rw [zmarks_len]; exact Nat.le_refl _), zmarks_len, Nat.sub_self, List.drop_eq_getElem_cons h, List.set_cons_zero]
  unfold zmarks
  rw [List.range_succ, List.map_append, List.append_assoc]
  rfl

set_option maxHeartbeats 4000000 in
theorem markZoneS (v : Value) (n lo hi : Nat) (l : List Zn) (s : Nat) (w : World) (h0 : 0 < s) (hs : s ≤ 1073741824) (hn : n ≤ 1073741824) (hl : l.length = n) (h : Own 79 6 lo hi w v n (zns l)) :
    Calls Try.prog 33 #[v, .int .i64 s] w fun e w' => e = .returned (.int .i64 (s + 6 * n : Nat)) ∧ Own 79 6 lo hi w' v n (zns (zmarks s n)) ∧ w.grownBy w' v.ownBlock := by
  obtain ⟨g, cap, rfl, hlo, hhi, hown⟩ := h
  have HL := Lib.hid hl
  clear hl
  go_enter Try.func33, Try.ntmps33
  go_wp2
  go_loopw [1, 5] (fun q i wr => ∃ (k : Nat) (l' : List Zn), k ≤ n ∧ (l'.length = n ∧ l' = zmarks s k ++ l.drop k) ∧ i = .int .i64 k ∧ q = .int .i64 (s + 6 * k : Nat) ∧ wr.ownsRow lo 79 6 (.slice (some ⟨g, 0, none⟩) n cap) n (zns l') ∧ w.grownBy wr (some g)) (fun _ i _ => n - (intOf i).toNat)
  case atStart => exact ⟨0, l, Nat.zero_le _, ⟨HL.out, by simp [zmarks]⟩, rfl, rfl, hown, grownBy_refl _ _⟩
  case round =>
    obtain ⟨k, l', hk, ⟨hl', hv'⟩, rfl, rfl, hownr, hgr⟩ := hrel
    have HV' := Lib.hid hv'
    clear hv'
    have HL' := Lib.hid hl'
    clear hl'
    by_cases hkl : k < n
    · obtain ⟨x0, s0⟩ := cellAt_some hownr (k * 6) (by omega)
      obtain ⟨x1, s1⟩ := cellAt_some hownr (k * 6 + 1) (by omega)
      have f0 := hownr.frozenAt (k * 6)
      have f1 := hownr.frozenAt (k * 6 + 1)
      generalize hm : s + 6 * k = m
      have HM := Lib.hid hm
      have hm2 : m ≤ 1099511627000 := by omega
      have hm0 : 0 < m := by omega
      clear hm
      have A1 := hownr.stored (k * 6) (.int .i64 (m : Int))
      have A2 := A1.1.stored (k * 6 + 1) (.int .i64 ((m : Int) + 1))
      have HA2 := Lib.hid A2.1
      have HG2 := Lib.hid (hgr.trans (A1.2.trans A2.2))
      have HMT : Hid (∀ W, Calls Try.prog 74 #[.int .i64 ((m : Int) + 1 + 1)] W fun e w' => e = .returned (.string (mtext (m + 2))) ∧ Below W.heap.size W w') := fun W => by
        rw [show (m : Int) + 1 + 1 = ((m + 2 : Nat) : Int) by omega]
        exact markText (m + 2) W (by omega) (by omega)
      have HMU : Hid (∀ W, Calls Try.prog 74 #[.int .i64 ((m : Int) + 1 + 1 + 1 + 1 + 1)] W fun e w' => e = .returned (.string (mtext (m + 5))) ∧ Below W.heap.size W w') := fun W => by
        rw [show (m : Int) + 1 + 1 + 1 + 1 + 1 = ((m + 5 : Nat) : Int) by omega]
        exact markText (m + 5) W (by omega) (by omega)
      clear A1 A2 hownr hgr
      go_wp2_with fail
      with_reducible refine (HMT.out _).mono ?_
      rintro e w2 ⟨rfl, hb2⟩
      have O2 := (own_of_row HA2.out hlo).below hb2 (Nat.le_refl _)
      have r2 := O2.row
      have G2 := HG2.out.trans (grown_of_below_at hb2)
      have A3 := r2.stored (k * 6 + 2) (.string (mtext (m + 2)))
      have A4 := A3.1.stored (k * 6 + 3) (.int .i64 ((m : Int) + 1 + 1 + 1))
      have A5 := A4.1.stored (k * 6 + 4) (.int .i64 ((m : Int) + 1 + 1 + 1 + 1))
      have HA5 := Lib.hid A5.1
      have HG5 := Lib.hid (G2.trans (A3.2.trans (A4.2.trans A5.2)))
      obtain ⟨x2, s2⟩ := cellAt_some r2 (k * 6 + 2) (by omega)
      obtain ⟨x3, s3⟩ := cellAt_some r2 (k * 6 + 3) (by omega)
      obtain ⟨x4, s4⟩ := cellAt_some r2 (k * 6 + 4) (by omega)
      have f2 := r2.frozenAt (k * 6 + 2)
      have f3 := r2.frozenAt (k * 6 + 3)
      have f4 := r2.frozenAt (k * 6 + 4)
      clear O2 r2 G2 hb2 A3 A4 A5 HA2 HG2 s0 s1 f0 f1 HMT
      go_wp2_with fail
      with_reducible refine (HMU.out _).mono ?_
      rintro e w3 ⟨rfl, hb3⟩
      have O3 := (own_of_row HA5.out hlo).below hb3 (Nat.le_refl _)
      have r3 := O3.row
      have G3 := HG5.out.trans (grown_of_below_at hb3)
      have A6 := r3.stored (k * 6 + 5) (.string (mtext (m + 5)))
      have G6 := G3.trans A6.2
      have HV : Hid (((((((zns l').set (k * 6) (.int .i64 (m : Int))).set (k * 6 + 1) (.int .i64 ((m : Int) + 1))).set (k * 6 + 2) (.string (mtext (m + 2)))).set (k * 6 + 3) (.int .i64 ((m : Int) + 1 + 1 + 1))).set (k * 6 + 4) (.int .i64 ((m : Int) + 1 + 1 + 1 + 1))).set (k * 6 + 5) (.string (mtext (m + 5))) = zns (l'.set k (zmark m))) := by
        show _ = _
        rw [zns_set l' k (zmark m) (by rw [HL'.out]; exact hkl)]
        unfold zmark
        rw [show (m : Int) + 1 + 1 + 1 = (m : Int) + 3 by omega, show (m : Int) + 3 + 1 = (m : Int) + 4 by omega]
      obtain ⟨x5, s5⟩ := cellAt_some r3 (k * 6 + 5) (by omega)
      have f5 := r3.frozenAt (k * 6 + 5)
      have H6 := Lib.hid A6.1
      rw [HV.out] at H6
      clear O3 r3 G3 hb3 A6 HA5 HG5 s2 s3 s4 f2 f3 f4 HMU
      go_wp2
      go_roundw
      case rel => exact ⟨k + 1, l'.set k (zmark m), by omega, ⟨by rw [List.length_set]; exact HL'.out, by rw [HV'.out]; exact zmarks_set (by rw [HL.out]; exact hkl) HM.out⟩, by go_num, by have := HM.out; go_num, H6.out, G6⟩
      case measure => simp [intOf]; omega
    · obtain rfl : k = n := by omega
      have e : l' = zmarks s k := by rw [HV'.out, List.drop_of_length_le (by rw [HL.out]; exact Nat.le_refl _), List.append_nil]
      rw [e] at hownr
      go_wp2
      go_ret
      exact ⟨rfl, ⟨_, _, rfl, hlo, hhi, hownr⟩, hgr⟩

set_option maxHeartbeats 4000000 in
theorem heldZoneS (v : Value) (n : Nat) (s : Nat) (w : World) (h0 : 0 < s) (hs : s ≤ 1073741824) (hn : n ≤ 1073741824) (h : Rd 6 w v n (zns (zmarks s n))) :
    Calls Try.prog 34 #[v, .int .i64 s] w fun e w' => e = .returned (.int .i64 (s + 6 * n : Nat)) ∧ Below w.heap.size w w' := by
  obtain ⟨a, cap, rfl, hm1, HC⟩ := h.zones (zmarks_len s n)
  clear h hm1
  go_enter Try.func34, Try.ntmps34
  go_wp2
  go_loopw [1, 5] (fun q i wr => ∃ k : Nat, k ≤ n ∧ i = .int .i64 k ∧ q = .int .i64 (s + 6 * k : Nat) ∧ Below w.heap.size w wr) (fun _ i _ => n - (intOf i).toNat)
  case atStart => exact ⟨0, Nat.zero_le _, rfl, rfl, Below.refl _ _⟩
  case round =>
    obtain ⟨k, hk, rfl, rfl, hbr⟩ := hrel
    by_cases hkl : k < n
    · have HCC := Lib.hid (fun W (hW : Below w.heap.size w W) => HC.out k hkl W hW)
      rw [zmarks_get hkl] at HCC
      simp only [zmark] at HCC
      obtain ⟨b, off, hb, r0, r1, r2, r3, r4, r5⟩ := HCC.out wr hbr
      subst hb
      generalize hm : s + 6 * k = m at r0 r1 r2 r3 r4 r5 HCC
      have HM := Lib.hid hm
      have hm2 : m ≤ 1099511627000 := by omega
      have hm0 : 0 < m := by omega
      clear hm
      have HMT : Hid (∀ W, Calls Try.prog 74 #[.int .i64 ((m : Int) + 1 + 1)] W fun e w' => e = .returned (.string (mtext (m + 2))) ∧ Below W.heap.size W w') := fun W => by
        rw [show (m : Int) + 1 + 1 = ((m + 2 : Nat) : Int) by omega]
        exact markText (m + 2) W (by omega) (by omega)
      have HMU : Hid (∀ W, Calls Try.prog 74 #[.int .i64 ((m : Int) + 1 + 1 + 1 + 1 + 1)] W fun e w' => e = .returned (.string (mtext (m + 5))) ∧ Below W.heap.size W w') := fun W => by
        rw [show (m : Int) + 1 + 1 + 1 + 1 + 1 = ((m + 5 : Nat) : Int) by omega]
        exact markText (m + 5) W (by omega) (by omega)
      generalize mtext (m + 2) = x at r2 HCC HMT
      generalize mtext (m + 5) = y at r5 HCC HMU
      have HK : Hid (∀ W, Below w.heap.size w W → W.cell? ⟨b, off + k * 6 + 2, none⟩ = some (.string x)) := fun W h => by
        obtain ⟨b', off', e, _, _, q2, _⟩ := HCC.out W h
        simp only [Option.some.injEq, Addr.mk.injEq, and_true] at e
        obtain ⟨rfl, rfl⟩ := e
        exact q2
      have HK5 : Hid (∀ W, Below w.heap.size w W → W.cell? ⟨b, off + k * 6 + 3, none⟩ = some (.int .i64 ((m : Int) + 3)) ∧ W.cell? ⟨b, off + k * 6 + 4, none⟩ = some (.int .i64 ((m : Int) + 4)) ∧ W.cell? ⟨b, off + k * 6 + 5, none⟩ = some (.string y)) := fun W h => by
        obtain ⟨b', off', e, _, _, _, q3, q4, q5⟩ := HCC.out W h
        simp only [Option.some.injEq, Addr.mk.injEq, and_true] at e
        obtain ⟨rfl, rfl⟩ := e
        exact ⟨q3, q4, q5⟩
      have hn0 : ((m : Int) != (m : Int)) = false := by simp
      have hn1 : ((m : Int) + 1 != (m : Int) + 1) = false := by simp
      have hn3 : ((m : Int) + 3 != (m : Int) + 1 + 1 + 1) = false := by simp; omega
      have hn4 : ((m : Int) + 4 != (m : Int) + 1 + 1 + 1 + 1) = false := by simp; omega
      have hB := hbr.drew
      have hs := hB.size
      clear HCC r3 r4 r5
      go_wp2
      go_region_held3 (fun W => W.cell? ⟨b, off + k * 6 + 2, none⟩ = some (.string x)) (first | exact r2 | exact HK.out _ (below_then hB hb2 hs)) ((go_at_call 74; (with_reducible refine (HMT.out _).mono ?_); rintro e w2 ⟨rfl, hb2⟩))
      have B2 := below_then hB hb2 hs
      obtain ⟨q3, q4, q5⟩ := HK5.out _ B2
      have hB2 := B2.drew
      have hs2 := hB2.size
      clear r0 r1 r2 hb2 HMT
      go_wp2
      go_region_held3 (fun W => W.cell? ⟨b, off + k * 6 + 5, none⟩ = some (.string y)) (first | exact q5 | exact (HK5.out _ (below_then hB2 hb3 hs2)).2.2) ((go_at_call 74; (with_reducible refine (HMU.out _).mono ?_); rintro e w3 ⟨rfl, hb3⟩))
      have B3 := below_then hB2 hb3 hs2
      clear q3 q4 q5 HMU
      go_wp2
      go_roundw
      case rel => exact ⟨k + 1, by omega, by go_num, by have := HM.out; go_num, B3⟩
      case measure => simp [intOf]; omega
    · obtain rfl : k = n := by omega
      go_wp2
      go_ret
      exact ⟨rfl, hbr⟩

end Go.Proofs.Ytpinoemckapbhaa

/- The exact law of Zones, walked; the program's own contract comes as a hypothesis (written by mk_Law11z.py). -/
namespace Go.Proofs.Ytpinoemckapbhaa
open Go.RowKit

def CZones : Prop := ∀ (u : Value) (ps : List P) (ls : List R) (w : World), ps.length ≤ 1048576 → (∀ p ∈ ps, p.1.l.length ≤ 1048576) → RdRs w u ps → ps.map (·.1) = ls → Calls Try.prog 12 #[u] w fun e w' => ∃ v', e = .returned v' ∧ Own 79 6 w.heap.size w'.heap.size w' v' (zonesL ls).length (zns (zonesL ls)) ∧ Below w.heap.size w w'
theorem zonesL_le {ps : List P} {N : Nat} (h : ∀ p ∈ ps, p.1.l.length ≤ N) : (zonesL (ps.map (·.1))).length ≤ N := by
  cases ps with
  | nil => exact Nat.zero_le _
  | cons p ps =>
    show (zonesK (p.1 :: ps.map (·.1)) p.1.l.length).length ≤ N
    rw [zonesK_len]
    exact h p List.mem_cons_self
theorem sZones' (u : Value) (ps : List P) (ls : List R) (w : World) (hn : ps.length ≤ 1048576) (hq : ∀ p ∈ ps, p.1.l.length ≤ 1048576) (h : RdRs w u ps) (h1 : ps.map (·.1) = ls) :
    Calls Try.prog 18 #[u] w fun e w' => ∃ v', e = .returned v' ∧ Own 79 6 w.heap.size w'.heap.size w' v' (zonesL ls).length (zns (zonesL ls)) ∧ Below w.heap.size w w' := by
  subst h1
  exact sZones u ps w hn hq h

set_option maxHeartbeats 4000000 in
theorem lawZones (hi : CZones) (a : Option Addr) (lena capa : Nat) (pa : List P) (w : World) (hsa : ∀ p ∈ pa, ∀ v ∈ p.1.l, v.s.size ≤ maxLen) (ha : RdRs w (.slice a lena capa) pa) :
    Calls Try.prog 6 #[.slice a lena capa] w fun e w' => e = .returned (.bool true) ∧ Below w.heap.size w w' := by
  have HSa := Lib.hid hsa
  clear hsa
  go_enter Try.func6, Try.ntmps6
  have bt := Below.refl w.heap.size w
  go_wp2_with fail
  refine (szRowS (.slice a lena capa) pa 1048576 w (by omega) (by omega) HSa.out (ha.below bt)).mono ?_
  rintro e w1 ⟨ra, rfl, hra, hb⟩
  have z1 := hb.size
  replace bt := below_then bt hb (by omega)
  clear hb
  by_cases hna : ra < 0
  · go_wp2
    go_ret
    exact ⟨rfl, bt⟩
  have hka : (pa.length : Int) + bulkR pa ≤ 1048576 := by omega
  have hma : pa.length ≤ 1048576 := by omega
  have HIa : Hid (∀ p ∈ pa, p.1.l.length ≤ 1048576) := fun p hp => by have := bulkR_mem hp; omega
  clear hra HSa
  have hcl : (zonesL (pa.map (·.1))).length ≤ 1048576 := zonesL_le HIa.out
  have HRN : Hid (rlen pa ≤ 16777216) := by show rlen pa ≤ 16777216; have := rlen_le pa; omega
  have HCN : Hid ((zonesL (pa.map (·.1))).length = (zonesL (pa.map (·.1))).length) := rfl
  go_wp2_with fail
  refine (toRowS (.slice a lena capa) pa w1 hma HIa.out (ha.below bt)).mono ?_
  rintro e w2 ⟨t1, qe1, rfl, e1, o1, hb⟩
  have z2 := hb.size
  replace bt := below_then bt hb (by omega)
  clear hb
  have He1 := Lib.hid e1
  clear e1
  go_wp2_with fail
  refine (sZones' t1 qe1 (pa.map (·.1)) w2 (by rw [len_fst He1.out]; exact hma) (small_fst He1.out HIa.out) o1.rd He1.out).mono ?_
  rintro e w3 ⟨v0, rfl, ov, hb⟩
  have z3 := hb.size
  replace o1 := o1.below hb (by omega)
  replace bt := below_then bt hb (by omega)
  clear hb
  clear o1
  go_wp2_with fail
  refine (toRowS (.slice a lena capa) pa w3 hma HIa.out (ha.below bt)).mono ?_
  rintro e w4 ⟨x0, qex, rfl, ex, ox, hb⟩
  have z4 := hb.size
  replace ov := ov.below hb (by omega)
  replace bt := below_then bt hb (by omega)
  clear hb
  have Hex := Lib.hid ex
  clear ex
  go_wp2_with fail
  refine (hi x0 qex (pa.map (·.1)) w4 (by rw [len_fst Hex.out]; exact hma) (small_fst Hex.out HIa.out) ox.rd Hex.out).mono ?_
  rintro e w5 ⟨g0, rfl, og, hb⟩
  have z5 := hb.size
  replace ov := ov.below hb (by omega)
  replace ox := ox.below hb (by omega)
  replace bt := below_then bt hb (by omega)
  clear hb
  go_wp2_with fail
  refine (eqZoneS g0 v0 (zonesL (pa.map (·.1))) w5 og.rd ov.rd).mono ?_
  rintro e w6 ⟨rfl, hb⟩
  have z6 := hb.size
  replace ov := ov.below hb (by omega)
  replace ox := ox.below hb (by omega)
  replace og := og.below hb (by omega)
  replace bt := below_then bt hb (by omega)
  clear hb
  go_wp2_with fail
  refine (toRowS (.slice a lena capa) pa w6 hma HIa.out (ha.below bt)).mono ?_
  rintro e w7 ⟨t2, qe2, rfl, e2, o2, hb⟩
  have z7 := hb.size
  replace ov := ov.below hb (by omega)
  replace ox := ox.below hb (by omega)
  replace og := og.below hb (by omega)
  replace bt := below_then bt hb (by omega)
  clear hb
  have He2 := Lib.hid e2
  clear e2
  go_wp2_with fail
  refine (eqRowS x0 t2 qex qe2 w7 (He2.out.trans Hex.out.symm) ox.rd o2.rd).mono ?_
  rintro e w8 ⟨rfl, hb⟩
  have z8 := hb.size
  replace ov := ov.below hb (by omega)
  replace ox := ox.below hb (by omega)
  replace og := og.below hb (by omega)
  replace o2 := o2.below hb (by omega)
  replace bt := below_then bt hb (by omega)
  clear hb
  clear o2
  go_wp2_with fail
  refine (markRowS x0 qex _ _ 1 w8 (by omega) (by omega) (by rw [len_fst Hex.out]; exact hma) (by rw [rlen_fst Hex.out]; exact HRN.out) ox).mono ?_
  rintro e w9 ⟨rfl, _, hg⟩
  have z9 := hg.2.2.2.1
  replace ov := ov.within hg (by omega)
  replace og := og.within hg (by omega)
  replace bt := bt.trans (hg.below (by omega) (by omega))
  clear hg ox
  generalize rlen qex = kx
  go_wp2_with fail
  refine (eqZoneS g0 v0 (zonesL (pa.map (·.1))) w9 og.rd ov.rd).mono ?_
  rintro e w10 ⟨rfl, hb⟩
  have z10 := hb.size
  replace ov := ov.below hb (by omega)
  replace og := og.below hb (by omega)
  replace bt := below_then bt hb (by omega)
  clear hb
  go_wp2_with fail
  refine (markZoneS g0 (zonesL (pa.map (·.1))).length _ _ (zonesL (pa.map (·.1))) 1 w10 (by omega) (by omega) (by omega) rfl og).mono ?_
  rintro e w11 ⟨rfl, hnew, hg⟩
  have z11 := hg.size
  replace ov := ov.apart og (by omega) hg
  replace bt := bt.trans (below_grown_own og hg (by omega) (by omega))
  clear hg og
  have og := hnew
  clear hnew
  go_wp2_with fail
  refine (heldZoneS g0 (zonesL (pa.map (·.1))).length 1 w11 (by omega) (by omega) (by omega) og.rd).mono ?_
  rintro e w12 ⟨rfl, hb⟩
  have z12 := hb.size
  replace ov := ov.below hb (by omega)
  replace og := og.below hb (by omega)
  replace bt := below_then bt hb (by omega)
  clear hb
  go_wp2_with fail
  refine (toRowS (.slice a lena capa) pa w12 hma HIa.out (ha.below bt)).mono ?_
  rintro e w13 ⟨t3, qe3, rfl, e3, o3, hb⟩
  have z13 := hb.size
  replace ov := ov.below hb (by omega)
  replace og := og.below hb (by omega)
  replace bt := below_then bt hb (by omega)
  clear hb
  have He3 := Lib.hid e3
  clear e3
  go_wp2_with fail
  refine (hi t3 qe3 (pa.map (·.1)) w13 (by rw [len_fst He3.out]; exact hma) (small_fst He3.out HIa.out) o3.rd He3.out).mono ?_
  rintro e w14 ⟨h0, rfl, oh, hb⟩
  have z14 := hb.size
  replace ov := ov.below hb (by omega)
  replace og := og.below hb (by omega)
  replace o3 := o3.below hb (by omega)
  replace bt := below_then bt hb (by omega)
  clear hb
  clear o3
  go_wp2_with fail
  refine (eqZoneS h0 v0 (zonesL (pa.map (·.1))) w14 oh.rd ov.rd).mono ?_
  rintro e w15 ⟨rfl, hb⟩
  have z15 := hb.size
  replace ov := ov.below hb (by omega)
  replace og := og.below hb (by omega)
  replace oh := oh.below hb (by omega)
  replace bt := below_then bt hb (by omega)
  clear hb
  go_wp2_with fail
  refine (heldZoneS g0 (zonesL (pa.map (·.1))).length 1 w15 (by omega) (by omega) (by omega) og.rd).mono ?_
  rintro e w16 ⟨rfl, hb⟩
  have z16 := hb.size
  replace ov := ov.below hb (by omega)
  replace og := og.below hb (by omega)
  replace oh := oh.below hb (by omega)
  replace bt := below_then bt hb (by omega)
  clear hb
  go_wp2
  go_ret
  exact ⟨rfl, bt⟩

end Go.Proofs.Ytpinoemckapbhaa

/- The contract of the program's ZoneOf (written by mk_I10z.py). -/
namespace Go.Proofs.Ytpinoemckapbhaa
open Go.RowKit

/-- The zone after k rounds. -/
def zoneP (l : List V) (k : Nat) : Zn := (l.take k).foldl stepZ ⟨l.getD 0 V.zero, l.getD 0 V.zero⟩
theorem zoneP_next {l : List V} {k : Nat} (hk : k < l.length) : zoneP l (k + 1) = ⟨if lessV (l.getD k V.zero) (zoneP l k).lo = true then l.getD k V.zero else (zoneP l k).lo, if lessV (zoneP l k).hi (l.getD k V.zero) = true then l.getD k V.zero else (zoneP l k).hi⟩ := by
  have e : l.getD k V.zero = l[k] := by simp [hk]
  rw [e]
  unfold zoneP
  rw [List.take_succ_eq_append_getElem hk, List.foldl_append]
  rfl
theorem zoneP_all {l : List V} (h : 0 < l.length) : zoneP l l.length = zoneL l := by
  cases l with
  | nil => simp at h
  | cons x l =>
    unfold zoneP
    rw [List.take_length]
    show (x :: l).foldl stepZ ⟨x, x⟩ = l.foldl stepZ ⟨x, x⟩
    rw [List.foldl_cons, stepZ_self]

set_option maxHeartbeats 4000000 in
theorem iZoneOf (u : Value) (l : List V) (w : World) (h : Rd 3 w u l.length (vals l)) :
    Calls Try.prog 43 #[u] w fun e w' => e = .returned (zoneL l).agg ∧ Below w.heap.size w w' := by
  have HALL : Hid (0 < l.length → zoneP l l.length = zoneL l) := zoneP_all
  have HNIL : Hid (l.length = 0 → zoneL l = Zn.zero) := fun h0 => by rw [List.eq_nil_of_length_eq_zero h0]; rfl
  have HSTEP := Lib.hid (fun k (hk : k < l.length) => zoneP_next hk)
  have HZERO : Hid (zoneP l 0 = ⟨l.getD 0 V.zero, l.getD 0 V.zero⟩) := by
    show _ = _
    unfold zoneP
    rw [List.take_zero]
    rfl
  generalize hl : l.length = n at h HALL HSTEP HNIL
  obtain ⟨a, cap, rfl, hm, HC⟩ := h.vals hl
  unfold maxLen at hm
  clear h hl
  by_cases hn : n = 0
  · subst hn
    rw [HNIL.out rfl]
    clear HALL HNIL HSTEP HZERO HC
    go_enter Try.func43, Try.ntmps43
    go_wp2
    exact bodyPost_ret (v := .agg #[.int .i64 0, .int .i64 0, .string ⟨#[]⟩, .int .i64 0, .int .i64 0, .string ⟨#[]⟩]) (by simp [results, Try.results43, go_sem]) rfl ⟨rfl, below_alloc _ _⟩
  · have hb0 : ((n : Int) == 0) = false := by simp; omega
    rw [← HALL.out (by omega)]
    clear HALL HNIL
    obtain ⟨b0, off0, rfl, p0, p1, p2⟩ := HC.out 0 (by omega)
    have HL0 := Lib.hid (later3 p0 p1 p2)
    generalize l.getD 0 V.zero = x at HL0 HZERO p0 p1 p2
    obtain ⟨xt, xn, xs⟩ := x
    simp only [Nat.zero_mul, Nat.add_zero] at p0 p1 p2
    have B0 := below_alloc w (.cells #[.int .i64 0, .int .i64 0, .string ⟨#[]⟩, .int .i64 0, .int .i64 0, .string ⟨#[]⟩] 79)
    have R0 := six_new w Zn.zero 79
    simp only [Zn.zero, V.zero] at R0
    have HSZ : Hid ((w.alloc (.cells #[.int .i64 0, .int .i64 0, .string ⟨#[]⟩, .int .i64 0, .int .i64 0, .string ⟨#[]⟩] 79)).heap.size = w.heap.size + 1) := World.size_alloc _ _
    generalize hw0 : w.alloc (.cells #[.int .i64 0, .int .i64 0, .string ⟨#[]⟩, .int .i64 0, .int .i64 0, .string ⟨#[]⟩] 79) = w0 at B0 R0 HSZ
    have HW := Lib.hid hw0
    clear hw0
    replace p0 := (B0.cell (p := ⟨b0, off0, none⟩) (lt_of_cell p0)).trans p0
    replace p1 := (B0.cell (p := ⟨b0, off0 + 1, none⟩) (lt_of_cell p1)).trans p1
    replace p2 := (B0.cell (p := ⟨b0, off0 + 2, none⟩) (lt_of_cell p2)).trans p2
    have B1 := below_alloc w0 (.cells #[.int .i64 0, .int .i64 0, .string ⟨#[]⟩, .int .i64 0, .int .i64 0, .string ⟨#[]⟩] 79)
    have r0 := (B1.cell (p := ⟨b0, off0, none⟩) (lt_of_cell p0)).trans p0
    have r1 := (B1.cell (p := ⟨b0, off0 + 1, none⟩) (lt_of_cell p1)).trans p1
    have r2 := (B1.cell (p := ⟨b0, off0 + 2, none⟩) (lt_of_cell p2)).trans p2
    have hn0 : 0 < n := by omega
    have hn1 : (0 : Int) < (n : Int) := by omega
    go_enter Try.func43, Try.ntmps43
    go_wp2
    rw [HW.out]
    go_region
    have ST : St w (w0.alloc (.cells #[.int .i64 xt, .int .i64 xn, .string xs, .int .i64 xt, .int .i64 xn, .string xs] 79)).drew ⟨⟨xt, xn, xs⟩, ⟨xt, xn, xs⟩⟩ := by
      have C := six_new w0 ⟨⟨xt, xn, xs⟩, ⟨xt, xn, xs⟩⟩ 79
      rw [HSZ.out] at C
      have B2 := below_alloc w0 (.cells #[.int .i64 xt, .int .i64 xn, .string xs, .int .i64 xt, .int .i64 xn, .string xs] 79)
      exact ⟨C.below (Below.refl _ _).drew, (Six.below (z := Zn.zero) R0 B2).below (Below.refl _ _).drew, below_then (below_then B0 B2 B0.size) (Below.refl _ _).drew (by have := B0.size; have := B2.size; omega)⟩
    generalize (w0.alloc (.cells #[.int .i64 xt, .int .i64 xn, .string xs, .int .i64 xt, .int .i64 xn, .string xs] 79)).drew = w1 at ST ⊢
    rw [HSZ.out]
    clear p0 p1 p2 r0 r1 r2 B0 B1 R0 HW HL0 HSZ hn0 hn1
    rw [← HZERO.out] at ST
    go_wp2
    go_loopw [19] (fun i wr => ∃ k : Nat, k ≤ n ∧ i = .int .i64 k ∧ St w wr (zoneP l k)) (fun i _ => n - (intOf i).toNat)
    case atStart => exact ⟨0, Nat.zero_le _, rfl, ST⟩
    case round =>
      obtain ⟨k, hk, rfl, hst⟩ := hrel
      clear ST HZERO
      by_cases hlt : k < n
      · obtain ⟨b, off, hbo, p0, p1, p2⟩ := HC.out k hlt
        simp only [Option.some.injEq, Addr.mk.injEq, and_true] at hbo
        obtain ⟨rfl, rfl⟩ := hbo
        have HL := Lib.hid (later3 p0 p1 p2)
        clear p0 p1 p2
        have HN := Lib.hid (HSTEP.out k hlt)
        generalize l.getD k V.zero = x at HL HN
        generalize zoneP l k = z at hst HN
        clear HSTEP HC
        have HX := Lib.hid (fun W => iLessVal x z.lo W)
        have HY := Lib.hid (fun W => iLessVal z.hi x W)
        cases hx : lessV x z.lo with
        | true =>
          rw [hx] at HN HX
          rw [if_pos rfl] at HN
          cases hy : lessV z.hi x with
          | true =>
            rw [hy] at HN HY
            rw [if_pos rfl] at HN
            obtain ⟨xt, xn, xs⟩ := x
            obtain ⟨⟨a1, b1, s1⟩, ⟨c1, d1, t1⟩⟩ := z
            clear hx hy
            simp only at HX HY
            obtain ⟨p0, p1, p2⟩ := HL.out wr hst.bel
            have S1 := hst.below (below_alloc wr (.cells #[.int .i64 xt, .int .i64 xn, .string xs] 26))
            have HVw1 := held_new wr ⟨xt, xn, xs⟩ 26
            simp only at p0 p1 p2 HVw1
            generalize hw1 : wr.alloc (.cells #[.int .i64 xt, .int .i64 xn, .string xs] 26) = w1 at S1 HVw1
            have HW1 := Lib.hid hw1
            generalize hqq : wr.heap.size = q at HVw1
            have HQQ := Lib.hid hqq
            have hq : w.heap.size + 1 < q := by
              rw [← hqq]
              exact lt_of_cell hst.cur.1.1
            have hq1 : ¬ (q = w.heap.size + 1) := by omega
            have hq2 : ¬ (w.heap.size + 1 = q) := by omega
            obtain ⟨⟨c0, c1, c2, c3, c4, c5⟩, _⟩ := (hst.below (below_alloc wr (.cells #[.int .i64 xt, .int .i64 xn, .string xs] 26))).cur
            simp only at c0 c1 c2 c3 c4 c5
            clear hst hw1 hqq hq
            go_wp2_with fail
            rw [HW1.out, HQQ.out]
            clear c0 c1 c2 c3 c4 c5 p0 p1 p2
            refine (HX.out _).mono ?_
            rintro e w2 ⟨rfl, b2⟩
            have S2 := S1.below b2
            have HVw2 := HVw1.below b2
            clear S1 HVw1 b2 HX
            have S3 := S2.lo ⟨xt, xn, xs⟩
            have HVw3 := ((HVw2.other (p := ⟨w.heap.size + 1, 0, none⟩) (fun e => hq2 e) (.int .i64 xt)).other (p := ⟨w.heap.size + 1, 1, none⟩) (fun e => hq2 e) (.int .i64 xn)).other (p := ⟨w.heap.size + 1, 2, none⟩) (fun e => hq2 e) (.string xs)
            obtain ⟨⟨c0, c1, c2, c3, c4, c5⟩, f0, f1, f2, f3, f4, f5⟩ := S2.cur
            obtain ⟨⟨p0, p1, p2⟩, _⟩ := HVw2
            simp only at p0 p1 p2 c0 c1 c2 c3 c4 c5
            simp only at S3
            generalize hw3 : (((w2).setCell ⟨w.heap.size + 1, 0, none⟩ (.int .i64 xt)).setCell ⟨w.heap.size + 1, 1, none⟩ (.int .i64 xn)).setCell ⟨w.heap.size + 1, 2, none⟩ (.string xs) = w3 at S3 HVw3
            have HW3 := Lib.hid hw3
            clear hw3
            go_wp2_with fail
            rw [HW3.out]
            clear c0 c1 c2 c3 c4 c5 f0 f1 f2 f3 f4 f5 p0 p1 p2
            refine (HY.out _).mono ?_
            rintro e w4 ⟨rfl, b2⟩
            have S4 := S3.below b2
            have HVw4 := HVw3.below b2
            clear S3 HVw3 b2 HY
            have S5 := S4.hi ⟨xt, xn, xs⟩
            obtain ⟨⟨c0, c1, c2, c3, c4, c5⟩, f0, f1, f2, f3, f4, f5⟩ := S4.cur
            obtain ⟨⟨p0, p1, p2⟩, _⟩ := HVw4
            simp only at p0 p1 p2 c0 c1 c2 c3 c4 c5
            simp only at S5
            go_wp2
            go_roundw
            case rel => exact ⟨k + 1, by omega, by go_num, by rw [HN.out]; exact S5⟩
            case measure => simp [intOf]; omega
          | false =>
            rw [hy] at HN HY
            rw [if_neg Bool.false_ne_true] at HN
            obtain ⟨xt, xn, xs⟩ := x
            obtain ⟨⟨a1, b1, s1⟩, ⟨c1, d1, t1⟩⟩ := z
            clear hx hy
            simp only at HX HY
            obtain ⟨p0, p1, p2⟩ := HL.out wr hst.bel
            have S1 := hst.below (below_alloc wr (.cells #[.int .i64 xt, .int .i64 xn, .string xs] 26))
            have HVw1 := held_new wr ⟨xt, xn, xs⟩ 26
            simp only at p0 p1 p2 HVw1
            generalize hw1 : wr.alloc (.cells #[.int .i64 xt, .int .i64 xn, .string xs] 26) = w1 at S1 HVw1
            have HW1 := Lib.hid hw1
            generalize hqq : wr.heap.size = q at HVw1
            have HQQ := Lib.hid hqq
            have hq : w.heap.size + 1 < q := by
              rw [← hqq]
              exact lt_of_cell hst.cur.1.1
            have hq1 : ¬ (q = w.heap.size + 1) := by omega
            have hq2 : ¬ (w.heap.size + 1 = q) := by omega
            obtain ⟨⟨c0, c1, c2, c3, c4, c5⟩, _⟩ := (hst.below (below_alloc wr (.cells #[.int .i64 xt, .int .i64 xn, .string xs] 26))).cur
            simp only at c0 c1 c2 c3 c4 c5
            clear hst hw1 hqq hq
            go_wp2_with fail
            rw [HW1.out, HQQ.out]
            clear c0 c1 c2 c3 c4 c5 p0 p1 p2
            refine (HX.out _).mono ?_
            rintro e w2 ⟨rfl, b2⟩
            have S2 := S1.below b2
            have HVw2 := HVw1.below b2
            clear S1 HVw1 b2 HX
            have S3 := S2.lo ⟨xt, xn, xs⟩
            have HVw3 := ((HVw2.other (p := ⟨w.heap.size + 1, 0, none⟩) (fun e => hq2 e) (.int .i64 xt)).other (p := ⟨w.heap.size + 1, 1, none⟩) (fun e => hq2 e) (.int .i64 xn)).other (p := ⟨w.heap.size + 1, 2, none⟩) (fun e => hq2 e) (.string xs)
            obtain ⟨⟨c0, c1, c2, c3, c4, c5⟩, f0, f1, f2, f3, f4, f5⟩ := S2.cur
            obtain ⟨⟨p0, p1, p2⟩, _⟩ := HVw2
            simp only at p0 p1 p2 c0 c1 c2 c3 c4 c5
            simp only at S3
            generalize hw3 : (((w2).setCell ⟨w.heap.size + 1, 0, none⟩ (.int .i64 xt)).setCell ⟨w.heap.size + 1, 1, none⟩ (.int .i64 xn)).setCell ⟨w.heap.size + 1, 2, none⟩ (.string xs) = w3 at S3 HVw3
            have HW3 := Lib.hid hw3
            clear hw3
            go_wp2_with fail
            rw [HW3.out]
            clear c0 c1 c2 c3 c4 c5 f0 f1 f2 f3 f4 f5 p0 p1 p2
            refine (HY.out _).mono ?_
            rintro e w4 ⟨rfl, b2⟩
            have S4 := S3.below b2
            have HVw4 := HVw3.below b2
            clear S3 HVw3 b2 HY
            have S5 := S4
            clear S4
            go_wp2
            go_roundw
            case rel => exact ⟨k + 1, by omega, by go_num, by rw [HN.out]; exact S5⟩
            case measure => simp [intOf]; omega
        | false =>
          rw [hx] at HN HX
          rw [if_neg Bool.false_ne_true] at HN
          cases hy : lessV z.hi x with
          | true =>
            rw [hy] at HN HY
            rw [if_pos rfl] at HN
            obtain ⟨xt, xn, xs⟩ := x
            obtain ⟨⟨a1, b1, s1⟩, ⟨c1, d1, t1⟩⟩ := z
            clear hx hy
            simp only at HX HY
            obtain ⟨p0, p1, p2⟩ := HL.out wr hst.bel
            have S1 := hst.below (below_alloc wr (.cells #[.int .i64 xt, .int .i64 xn, .string xs] 26))
            have HVw1 := held_new wr ⟨xt, xn, xs⟩ 26
            simp only at p0 p1 p2 HVw1
            generalize hw1 : wr.alloc (.cells #[.int .i64 xt, .int .i64 xn, .string xs] 26) = w1 at S1 HVw1
            have HW1 := Lib.hid hw1
            generalize hqq : wr.heap.size = q at HVw1
            have HQQ := Lib.hid hqq
            have hq : w.heap.size + 1 < q := by
              rw [← hqq]
              exact lt_of_cell hst.cur.1.1
            have hq1 : ¬ (q = w.heap.size + 1) := by omega
            have hq2 : ¬ (w.heap.size + 1 = q) := by omega
            obtain ⟨⟨c0, c1, c2, c3, c4, c5⟩, _⟩ := (hst.below (below_alloc wr (.cells #[.int .i64 xt, .int .i64 xn, .string xs] 26))).cur
            simp only at c0 c1 c2 c3 c4 c5
            clear hst hw1 hqq hq
            go_wp2_with fail
            rw [HW1.out, HQQ.out]
            clear c0 c1 c2 c3 c4 c5 p0 p1 p2
            refine (HX.out _).mono ?_
            rintro e w2 ⟨rfl, b2⟩
            have S2 := S1.below b2
            have HVw2 := HVw1.below b2
            clear S1 HVw1 b2 HX
            have HVk := HVw2
            obtain ⟨⟨c0, c1, c2, c3, c4, c5⟩, f0, f1, f2, f3, f4, f5⟩ := S2.cur
            obtain ⟨⟨p0, p1, p2⟩, _⟩ := HVw2
            simp only at p0 p1 p2 c0 c1 c2 c3 c4 c5
            go_wp2_with fail
            clear c0 c1 c2 c3 c4 c5 f0 f1 f2 f3 f4 f5 p0 p1 p2
            have HVw2 := HVk
            clear HVk
            refine (HY.out _).mono ?_
            rintro e w4 ⟨rfl, b2⟩
            have S4 := S2.below b2
            have HVw4 := HVw2.below b2
            clear S2 HVw2 b2 HY
            have S5 := S4.hi ⟨xt, xn, xs⟩
            obtain ⟨⟨c0, c1, c2, c3, c4, c5⟩, f0, f1, f2, f3, f4, f5⟩ := S4.cur
            obtain ⟨⟨p0, p1, p2⟩, _⟩ := HVw4
            simp only at p0 p1 p2 c0 c1 c2 c3 c4 c5
            simp only at S5
            go_wp2
            go_roundw
            case rel => exact ⟨k + 1, by omega, by go_num, by rw [HN.out]; exact S5⟩
            case measure => simp [intOf]; omega
          | false =>
            rw [hy] at HN HY
            rw [if_neg Bool.false_ne_true] at HN
            obtain ⟨xt, xn, xs⟩ := x
            obtain ⟨⟨a1, b1, s1⟩, ⟨c1, d1, t1⟩⟩ := z
            clear hx hy
            simp only at HX HY
            obtain ⟨p0, p1, p2⟩ := HL.out wr hst.bel
            have S1 := hst.below (below_alloc wr (.cells #[.int .i64 xt, .int .i64 xn, .string xs] 26))
            have HVw1 := held_new wr ⟨xt, xn, xs⟩ 26
            simp only at p0 p1 p2 HVw1
            generalize hw1 : wr.alloc (.cells #[.int .i64 xt, .int .i64 xn, .string xs] 26) = w1 at S1 HVw1
            have HW1 := Lib.hid hw1
            generalize hqq : wr.heap.size = q at HVw1
            have HQQ := Lib.hid hqq
            have hq : w.heap.size + 1 < q := by
              rw [← hqq]
              exact lt_of_cell hst.cur.1.1
            have hq1 : ¬ (q = w.heap.size + 1) := by omega
            have hq2 : ¬ (w.heap.size + 1 = q) := by omega
            obtain ⟨⟨c0, c1, c2, c3, c4, c5⟩, _⟩ := (hst.below (below_alloc wr (.cells #[.int .i64 xt, .int .i64 xn, .string xs] 26))).cur
            simp only at c0 c1 c2 c3 c4 c5
            clear hst hw1 hqq hq
            go_wp2_with fail
            rw [HW1.out, HQQ.out]
            clear c0 c1 c2 c3 c4 c5 p0 p1 p2
            refine (HX.out _).mono ?_
            rintro e w2 ⟨rfl, b2⟩
            have S2 := S1.below b2
            have HVw2 := HVw1.below b2
            clear S1 HVw1 b2 HX
            have HVk := HVw2
            obtain ⟨⟨c0, c1, c2, c3, c4, c5⟩, f0, f1, f2, f3, f4, f5⟩ := S2.cur
            obtain ⟨⟨p0, p1, p2⟩, _⟩ := HVw2
            simp only at p0 p1 p2 c0 c1 c2 c3 c4 c5
            go_wp2_with fail
            clear c0 c1 c2 c3 c4 c5 f0 f1 f2 f3 f4 f5 p0 p1 p2
            have HVw2 := HVk
            clear HVk
            refine (HY.out _).mono ?_
            rintro e w4 ⟨rfl, b2⟩
            have S4 := S2.below b2
            have HVw4 := HVw2.below b2
            clear S2 HVw2 b2 HY
            have S5 := S4
            clear S4
            go_wp2
            go_roundw
            case rel => exact ⟨k + 1, by omega, by go_num, by rw [HN.out]; exact S5⟩
            case measure => simp [intOf]; omega
      · obtain rfl : k = n := by omega
        generalize hzz : zoneP l k = z at hst
        have HZZ := Lib.hid hzz
        clear hzz
        obtain ⟨⟨a1, b1, s1⟩, ⟨c1, d1, t1⟩⟩ := z
        obtain ⟨⟨⟨q0, q1, q2, q3, q4, q5⟩, _⟩, ⟨⟨r0, r1, r2, r3, r4, r5⟩, f0, f1, f2, f3, f4, f5⟩, B⟩ := hst
        simp only [Zn.zero, V.zero] at q0 q1 q2 q3 q4 q5 r0 r1 r2 r3 r4 r5
        go_wp2
        refine bodyPost_ret (v := .agg #[.int .i64 a1, .int .i64 b1, .string s1, .int .i64 c1, .int .i64 d1, .string t1]) (by simp [results, Try.results43, go_sem, *]) rfl ⟨by rw [HZZ.out], ?_⟩
        exact ((((((B.setCell (by simp) _).setCell (by simp) _).setCell (by simp) _).setCell (by simp) _).setCell (by simp) _).setCell (by simp) _)

end Go.Proofs.Ytpinoemckapbhaa

/- The contract of impl's Column. -/
namespace Go.Proofs.Ytpinoemckapbhaa
open Go.RowKit

set_option maxHeartbeats 1000000 in
theorem iColumn : CColumn := by
  intro u ps ls k w hn _ h hls
  subst hls
  have hown0 := own_lit (e := 26) (size := 3) w #[] 0 (Nat.zero_le _) rfl
  have hb0 := below_alloc w (.cells #[] 26)
  generalize hl : ps.length = n at hn
  obtain ⟨a, cap, rfl, _, HC⟩ := h.walk hl
  have hl' : (ps.map (·.1)).length = n := by simpa using hl
  have HE : Hid (∀ j, ((ps.map (·.1)).getD j R.zero) = (ps.getD j P.zero).1) := fun j => (getD_fst ps j).symm
  clear h hl
  generalize ps.map (·.1) = l at HE hl' ⊢
  have HL := Lib.hid hl'
  have HT : Hid (∀ j, j < n → colR (l.take (j + 1)) k = colR (l.take j) k ++ (if Num.inB k 0 (((ps.getD j P.zero).1.l.length : Int) - 1) = true then (ps.getD j P.zero).1.l[k.toNat]? else none).toList) := fun j hj => by
    have hj' : j < l.length := by omega
    rw [List.take_succ_eq_append_getElem hj', colR_snoc, ← HE.out j]
    simp [hj']
  have HLE : Hid (∀ j, j ≤ n → (colR (l.take j) k).length ≤ j) := fun j hj => Nat.le_trans (colR_le _ _) (by simp; omega)
  clear hl'
  go_enter Try.func44, Try.ntmps44
  go_wp2
  go_loopw [5, 11] (fun o i wr => ∃ j : Nat, j ≤ n ∧ i = .int .i64 j ∧ Own 26 3 w.heap.size wr.heap.size wr o (colR (l.take j) k).length (vals (colR (l.take j) k)) ∧ Below w.heap.size w wr) (fun _ i _ => n - (intOf i).toNat)
  case atStart => exact ⟨0, Nat.zero_le _, rfl, hown0, hb0⟩
  case round =>
    obtain ⟨j, hj, rfl, hown, hbr⟩ := hrel
    by_cases hlt : j < n
    · obtain ⟨b, off, rfl, c0, c1, hr⟩ := HC.out j hlt wr hbr
      have HTJ := Lib.hid (HT.out j hlt)
      have hcl := HLE.out j (by omega)
      generalize ps.getD j P.zero = p at c0 c1 hr HTJ
      obtain ⟨⟨i, rl⟩, ru⟩ := p
      simp only at c0 c1 HTJ
      obtain ⟨a', cap', hu, hmx, hx⟩ := hr
      simp only at hu hmx hx
      subst hu
      have ba := below_alloc wr (.cells #[.int .i64 i, .slice a' rl.length cap'] 44)
      have bt := below_then hbr ba hbr.size
      have hown2 := (hown.below ba (Nat.le_refl _)).wide ba.size
      unfold maxLen at hmx
      by_cases k0 : k < 0
      · have hin : Num.inB k 0 ((rl.length : Int) - 1) = false := by rw [← Bool.not_eq_true, Num.inB_true]; omega
        rw [hin, if_neg (by simp), Option.toList_none, List.append_nil] at HTJ
        clear hin hx hown ba
        generalize rl.length = m at *
        go_wp2
        go_roundw
        case rel => exact ⟨j + 1, by omega, by go_num, by rw [HTJ.out]; exact hown2, bt⟩
        case measure => simp [intOf]; omega
      by_cases k1 : k < (rl.length : Int)
      · have hin : Num.inB k 0 ((rl.length : Int) - 1) = true := by rw [Num.inB_true]; omega
        rw [hin] at HTJ
        obtain ⟨K, rfl⟩ := Int.eq_ofNat_of_zero_le (show 0 ≤ k by omega)
        have hK : K < rl.length := by omega
        rw [if_pos rfl, Int.toNat_natCast, List.getElem?_eq_getElem hK, Option.toList_some] at HTJ
        obtain ⟨b', o', rfl, hc⟩ : ∃ b off, a' = some ⟨b, off, none⟩ ∧ ∀ j u, (vals rl)[j]? = some u → wr.cell? ⟨b, off + j, none⟩ = some u := by
          rcases hx.2 with h0 | h0
          · omega
          · exact h0
        obtain ⟨d0, d1, d2⟩ := cells3 hc hK
        replace d0 := (ba.cell (p := ⟨b', o' + K * 3, none⟩) (lt_of_cell d0)).trans d0
        replace d1 := (ba.cell (p := ⟨b', o' + K * 3 + 1, none⟩) (lt_of_cell d1)).trans d1
        replace d2 := (ba.cell (p := ⟨b', o' + K * 3 + 2, none⟩) (lt_of_cell d2)).trans d2
        have y0 : (wr.alloc (.cells #[.int .i64 i, .slice (some ⟨b', o', none⟩) rl.length cap'] 44)).cell? ⟨wr.heap.size, 1, none⟩ = some (.slice (some ⟨b', o', none⟩) rl.length cap') := by simp
        generalize rl[K] = x at d0 d1 d2 HTJ
        have HVA : Hid (vals (colR (l.take j) K) ++ x.cs = vals (colR (l.take j) K ++ [x])) := by
          show _ = _
          simp [vals]
        have HLN : Hid ((colR (l.take j) K ++ [x]).length = (colR (l.take j) K).length + 1) := by
          show _ = _
          simp
        clear hin hx hc hown ba
        generalize rl.length = m at *
        generalize colR (l.take j) K = C at *
        generalize C.length = c at *
        obtain ⟨xt, xn, xs⟩ := x
        simp only at d0 d1 d2
        go_wp2_with (at_builtin; refine appendV_law Try.elemVals rfl _ _ rfl _ _ _ _ _ ⟨xt, xn, xs⟩ rfl hown2 (by show Value.slice (some ⟨wr.heap.size + 1, 0, none⟩) 1 1 = _; rw [World.size_alloc]) (by unfold maxLen; omega) (by omega) ?_)
        intro v3 w3 o3 e3
        have b3 := bt.trans (e3.below hown2)
        rw [HVA.out] at o3
        have O3 := Lib.hid o3
        clear o3 e3 hown2 d0 d1 d2 c0 c1
        go_wp2
        go_roundw
        case rel => exact ⟨j + 1, by omega, by go_num, by rw [HTJ.out, HLN.out]; exact O3.out, b3⟩
        case measure => simp [intOf]; omega
      · have hin : Num.inB k 0 ((rl.length : Int) - 1) = false := by rw [← Bool.not_eq_true, Num.inB_true]; omega
        rw [hin, if_neg (by simp), Option.toList_none, List.append_nil] at HTJ
        clear hin hx hown ba
        generalize rl.length = m at *
        go_wp2
        go_roundw
        case rel => exact ⟨j + 1, by omega, by go_num, by rw [HTJ.out]; exact hown2, bt⟩
        case measure => simp [intOf]; omega
    · obtain rfl : j = n := by omega
      rw [← HL.out, List.take_length] at hown
      go_wp2
      go_ret
      exact ⟨_, rfl, hown, hbr⟩

end Go.Proofs.Ytpinoemckapbhaa

/- The contract of impl's Zones. -/
namespace Go.Proofs.Ytpinoemckapbhaa
open Go.RowKit

set_option maxHeartbeats 4000000 in
theorem iZones : CZones := by
  intro u ps ls w hn hq h hls
  subst hls
  have hown0 := own_lit (e := 79) (size := 6) w #[] 0 (Nat.zero_le _) rfl
  have hb0 := below_alloc w (.cells #[] 79)
  cases ps with
  | nil =>
    obtain ⟨⟨a, cap, rfl, _, _⟩, _⟩ := h
    simp only [List.map_nil, zonesL, List.length_nil]
    go_enter Try.func12, Try.ntmps12
    go_wp2
    go_ret
    exact ⟨_, rfl, hown0, hb0⟩
  | cons p ps =>
    have HRD := Lib.hid (fun W (hW : Below w.heap.size w W) => h.below hW)
    have HCL := Lib.hid (fun (k : Int) W (hW : Below w.heap.size w W) => iColumn u (p :: ps) _ k W hn hq (h.below hW) rfl)
    have HQ : Hid (p.1.l.length ≤ 1048576) := hq p List.mem_cons_self
    generalize hl : (p :: ps).length = n at *
    obtain ⟨a, cap, rfl, hle, HC⟩ := h.walk hl
    have hpos : 0 < n := by rw [← hl]; simp
    have HC0 := Lib.hid (fun W hW => HC.out 0 hpos W hW)
    have hz : zonesL ((p :: ps).map (·.1)) = zonesK ((p :: ps).map (·.1)) p.1.l.length := rfl
    rw [hz, zonesK_len]
    simp only [List.getD_cons_zero] at HC0
    generalize (p :: ps).map (·.1) = rs at HCL ⊢
    have hn0 : ((n : Int) == 0) = false := by simp; omega
    have hni : (0 : Int) < (n : Int) := by omega
    have hm := HQ.out
    obtain ⟨r, ru⟩ := p
    simp only at HC0 HQ hm ⊢
    obtain ⟨b, off, hb, _, _, hr⟩ := HC0.out w (Below.refl _ _)
    subst hb
    obtain ⟨ra, rcap, hru, _, _⟩ := hr
    subst hru
    have HCC : Hid (∀ W, Below w.heap.size w W → W.cell? ⟨b, off + 1, none⟩ = some (.slice ra r.l.length rcap)) := fun W hW => by
      obtain ⟨b', off', e, _, h2, _⟩ := HC0.out W hW
      simp only [Option.some.injEq, Addr.mk.injEq, and_true] at e
      obtain ⟨rfl, rfl⟩ := e
      simpa using h2
    generalize r.l.length = m at *
    clear h HRD HC HC0 hq hz hn HQ
    have hc0 := HCC.out _ hb0
    go_enter Try.func12, Try.ntmps12
    go_wp2
    go_loopw [3, 4, 15] (fun o _ i wr => ∃ q : Nat, q ≤ m ∧ i = .int .i64 q ∧ Own 79 6 w.heap.size wr.heap.size wr o q (zns (zonesK rs q)) ∧ Below w.heap.size w wr) (fun _ _ i _ => m - (intOf i).toNat)
    case atStart => exact ⟨0, Nat.zero_le _, rfl, hown0, hb0⟩
    case round =>
      obtain ⟨q, hq, rfl, hown, hbr⟩ := hrel
      by_cases hlt : q < m
      · have HVA : Hid (zns (zonesK rs q) ++ Zn.cs (zoneL (colR rs (q : Int))) = zns (zonesK rs (q + 1))) := by
          show _ = _
          rw [zonesK_succ]
          simp [zns]
        have HX := Lib.hid (HCL.out (q : Int) wr hbr)
        have HZ := Lib.hid (fun v' W hW => iZoneOf v' (colR rs (q : Int)) W hW)
        generalize colR rs (q : Int) = cl at HX HZ HVA
        have hown' := hown
        obtain ⟨ob, oc, ho, _⟩ := hown'
        subst ho
        go_wp2_with fail
        refine HX.out.mono ?_
        rintro e w2 ⟨v2, rfl, o2, b2⟩
        have B2 := below_then hbr b2 hbr.size
        have O2 := (hown.below b2 (Nat.le_refl _)).wide b2.size
        have HZ2 := Lib.hid (HZ.out v2 w2 o2.rd)
        clear HX HZ o2 b2 hown
        generalize zoneL cl = z at HZ2 HVA
        go_wp2_with fail
        refine HZ2.out.mono ?_
        rintro e w3 ⟨rfl, b3⟩
        have B3 := below_then B2 b3 B2.size
        have O3 := (O2.below b3 (Nat.le_refl _)).wide b3.size
        obtain ⟨⟨a1, a2, a3⟩, ⟨a4, a5, a6⟩⟩ := z
        clear HZ2 O2 b3 B2
        go_wp2_with (at_builtin; refine appendZ_law Try.elemZones rfl _ _ rfl _ _ _ _ _ ⟨⟨a1, a2, a3⟩, ⟨a4, a5, a6⟩⟩ rfl O3 rfl (by unfold maxLen; omega) (by omega) ?_)
        intro v4 w4 o4 e4
        have B4 := B3.trans (e4.below O3)
        rw [HVA.out] at o4
        have O4 := Lib.hid o4
        clear o4 e4 O3
        go_wp2
        go_roundw
        case rel => exact ⟨q + 1, by omega, by go_num, O4.out, B4⟩
        case measure => simp [intOf]; omega
      · obtain rfl : q = m := by omega
        go_wp2
        go_ret
        exact ⟨_, rfl, hown, hbr⟩

end Go.Proofs.Ytpinoemckapbhaa
