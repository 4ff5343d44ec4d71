/- The laws' own markRowS. -/
import Derived.Test.YtkofafefnlommaaR4S
namespace Go.Proofs.Ytkofafefnlommaa
open Go.RowKit

theorem prs_id {l : List P} {k : Nat} (h : k < l.length) : (prs l)[k * 2]? = some (.int .i64 (l.getD k P.zero).1.id) := by
  have e : l.getD k P.zero = l[k] := by simp [h]
  rw [e]
  exact prs_get (j := 0) h (by omega)
theorem prs_sl {l : List P} {k : Nat} (h : k < l.length) : (prs l)[k * 2 + 1]? = some (l.getD k P.zero).2 := by
  have e : l.getD k P.zero = l[k] := by simp [h]
  rw [e]
  exact prs_get (j := 1) h (by omega)
theorem set_self {α : Type} {l : List α} {i : Nat} {x : α} (h : l[i]? = some x) : l.set i x = l := by
  obtain ⟨hi, rfl⟩ := List.getElem?_eq_some_iff.1 h
  exact List.set_getElem_self hi
/-- A new number for Row k, its slice as it was. -/
theorem prs_set_id {l : List P} {k : Nat} {p : P} (hk : k < l.length) (hp : p.2 = (l.getD k P.zero).2) : prs (l.set k p) = (prs l).set (k * 2) (.int .i64 p.1.id) := by
  rw [prs_set l k p hk, set_self]
  rw [List.getElem?_set_ne (by omega), prs_sl hk, hp]
theorem getD_set_ne {α : Type} {l : List α} {k j : Nat} {x d : α} (h : k ≠ j) : (l.set k x).getD j d = l.getD j d := by
  rw [List.getD_eq_getElem?_getD, List.getD_eq_getElem?_getD, List.getElem?_set_ne h]
theorem getD_set_eq {α : Type} {l : List α} {k : Nat} {x d : α} (h : k < l.length) : (l.set k x).getD k d = x := by
  rw [List.getD_eq_getElem?_getD, List.getElem?_set_self h]
  rfl
theorem all_of_mem {α : Type} {l : List α} {d : α} {q : α → Prop} (h : ∀ x ∈ l, q x) : ∀ k, k < l.length → q (l.getD k d) := fun k hk => by
  have e : l.getD k d = l[k] := by simp [hk]
  rw [e]
  exact h _ (List.getElem_mem hk)
theorem mem_of_all {α : Type} {l : List α} {d : α} {q : α → Prop} (h : ∀ k, k < l.length → q (l.getD k d)) : ∀ x ∈ l, q x := fun x hx => by
  obtain ⟨k, hk, rfl⟩ := List.getElem_of_mem hx
  have := h k hk
  simpa [hk] using this
theorem nodup_ne {l : List P} (h : (l.map fun p => p.2.ownBlock).Nodup) {i j : Nat} (hi : i < l.length) (hj : j < l.length) (hne : i ≠ j) : (l.getD i P.zero).2.ownBlock ≠ (l.getD j P.zero).2.ownBlock := by
  have key : ∀ i j, i < j → j < l.length → (l.getD i P.zero).2.ownBlock ≠ (l.getD j P.zero).2.ownBlock := fun i j hij hj => by
    have hi : i < l.length := by omega
    have := List.pairwise_iff_getElem.1 h i j (by simpa using hi) (by simpa using hj) hij
    simpa [hi, hj] using this
  rcases Nat.lt_or_gt_of_ne hne with h1 | h1
  · exact key i j h1 hj
  · exact fun e => key j i h1 hi e.symm

/-- How far markRowS counts. -/
def rlen : List P → Nat
  | [] => 0
  | p :: ps => 1 + 3 * p.1.l.length + rlen ps
/-- What markRowS leaves. -/
def rmarks : Nat → List P → List P
  | _, [] => []
  | s, p :: ps => (⟨s, vmarks (s + 1) p.1.l.length⟩, p.2) :: rmarks (s + 1 + 3 * p.1.l.length) ps
theorem rmarks_len (s : Nat) (ps : List P) : (rmarks s ps).length = ps.length := by
  induction ps generalizing s with
  | nil => rfl
  | cons p ps ih => simp [rmarks, ih]
theorem rlen_append (ps qs : List P) : rlen (ps ++ qs) = rlen ps + rlen qs := by
  induction ps with
  | nil => simp [rlen]
  | cons p ps ih => simp only [List.cons_append, rlen, ih]; omega
theorem rmarks_append (s : Nat) (ps qs : List P) : rmarks s (ps ++ qs) = rmarks s ps ++ rmarks (s + rlen ps) qs := by
  induction ps generalizing s with
  | nil => simp [rmarks, rlen]
  | cons p ps ih => simp only [List.cons_append, rmarks, ih, rlen]; rw [show s + 1 + 3 * p.1.l.length + rlen ps = s + (1 + 3 * p.1.l.length + rlen ps) by omega]
/-- After k rounds. -/
def rhalf (s : Nat) (ps : List P) (k : Nat) : List P := rmarks s (ps.take k) ++ ps.drop k
theorem rhalf_len {s : Nat} {ps : List P} {k : Nat} : (rhalf s ps k).length = ps.length := by
  unfold rhalf
  rw [List.length_append, rmarks_len, ← List.length_append, List.take_append_drop]
theorem rhalf_get {s : Nat} {ps : List P} {k : Nat} (h : k < ps.length) : (rhalf s ps k).getD k P.zero = ps.getD k P.zero := by
  unfold rhalf
  have hl : (rmarks s (ps.take k)).length = k := by rw [rmarks_len]; simp; omega
  rw [List.getD_eq_getElem?_getD, List.getElem?_append_right (by omega), hl, Nat.sub_self, List.drop_eq_getElem_cons h]
  simp [h]
theorem rhalf_set {s : Nat} {ps : List P} {k : Nat} (h : k < ps.length) : (rhalf s ps k).set k (⟨(s + rlen (ps.take k) : Nat), vmarks (s + rlen (ps.take k) + 1) (ps.getD k P.zero).1.l.length⟩, (ps.getD k P.zero).2) = rhalf s ps (k + 1) := by
  have hl : (rmarks s (ps.take k)).length = k := by rw [rmarks_len]; simp; omega
  have e : ps.getD k P.zero = ps[k] := by simp [h]
  unfold rhalf
  rw [e, List.set_append_right _ _ (by omega), hl, Nat.sub_self, List.drop_eq_getElem_cons h, List.set_cons_zero, List.take_succ_eq_append_getElem h, rmarks_append, List.append_assoc]
  rfl
theorem rlen_take_succ {ps : List P} {k : Nat} (h : k < ps.length) : rlen (ps.take (k + 1)) = rlen (ps.take k) + (1 + 3 * (ps.getD k P.zero).1.l.length) := by
  have e : ps.getD k P.zero = ps[k] := by simp [h]
  rw [e, List.take_succ_eq_append_getElem h, rlen_append]
  simp [rlen]
theorem rlen_take_le (ps : List P) (k : Nat) : rlen (ps.take k) ≤ rlen ps := by
  conv => rhs; rw [← List.take_append_drop k ps, rlen_append]
  omega
theorem rmarks_blocks (s : Nat) (ps : List P) : (rmarks s ps).map (fun p => p.2.ownBlock) = ps.map fun p => p.2.ownBlock := by
  induction ps generalizing s with
  | nil => rfl
  | cons p ps ih => simp [rmarks, ih]
theorem rhalf_blocks (s : Nat) (ps : List P) (k : Nat) : (rhalf s ps k).map (fun p => p.2.ownBlock) = ps.map fun p => p.2.ownBlock := by
  unfold rhalf
  rw [List.map_append, rmarks_blocks, ← List.map_append, List.take_append_drop]

set_option maxHeartbeats 1000000 in
theorem markRowS (v : Value) (ps : List P) (lo hi s : Nat) (w : World) (h0 : 0 < s) (hs : s ≤ 1048576) (hn : ps.length ≤ 1048576) (hr : rlen ps ≤ 16777216) (h : OwnRs lo hi w v ps) :
    Calls Try.prog 29 #[v, .int .i64 s] w fun e w' => e = .returned (.int .i64 (s + rlen ps : Nat)) ∧ OwnRs lo hi w' v (rmarks s ps) ∧ Within lo hi w w' := by
  generalize hl : ps.length = n at hn
  obtain ⟨ho, hin, hnd⟩ := h
  rw [hl] at ho
  obtain ⟨g, cap, rfl, hlo, hhi, hown⟩ := ho
  have HL := Lib.hid hl
  have HND := Lib.hid hnd
  have HRL : Hid (∀ k, rlen (ps.take k) ≤ 16777216) := fun k => Nat.le_trans (rlen_take_le ps k) hr
  have hin0 : ∀ j, j < n → Own 76 3 lo hi w ((rhalf s ps 0).getD j P.zero).2 ((rhalf s ps 0).getD j P.zero).1.l.length (vals ((rhalf s ps 0).getD j P.zero).1.l) := by
    have e : rhalf s ps 0 = ps := by simp [rhalf, rmarks]
    rw [e, ← hl]
    exact all_of_mem (q := fun p : P => Own 76 3 lo hi w p.2 p.1.l.length (vals p.1.l)) hin
  clear hl hnd hr hin
  go_enter Try.func29, Try.ntmps29
  go_wp2
  go_loopw [1, 5] (fun q i wr => ∃ k : Nat, k ≤ n ∧ i = .int .i64 k ∧ q = .int .i64 (s + rlen (ps.take k) : Nat) ∧ wr.ownsRow lo 27 2 (.slice (some ⟨g, 0, none⟩) n cap) n (prs (rhalf s ps k))
    ∧ (∀ j, j < n → Own 76 3 lo hi wr ((rhalf s ps k).getD j P.zero).2 ((rhalf s ps k).getD j P.zero).1.l.length (vals ((rhalf s ps k).getD j P.zero).1.l)) ∧ Within lo hi w wr) (fun _ i _ => n - (intOf i).toNat)
  case atStart => exact ⟨0, Nat.zero_le _, rfl, by simp [rlen], by simpa [rhalf, rmarks] using hown, hin0, Within.refl _ _ _⟩
  case round =>
    obtain ⟨k, hk, rfl, rfl, hownr, hir, hwr⟩ := hrel
    by_cases hkl : k < n
    · have hkp : k < ps.length := by rw [HL.out]; exact hkl
      have HST := Lib.hid (rhalf_set (s := s) hkp)
      have HTK := Lib.hid (rlen_take_succ hkp)
      have hr1 := HRL.out k
      have hr2 := HRL.out (k + 1)
      have HLN : Hid ((rhalf s ps k).length = n) := rhalf_len.trans HL.out
      have hik := hir k hkl
      have hc1 : wr.cell? ⟨g, k * 2 + 1, none⟩ = some (ps.getD k P.zero).2 := by
        rw [← rhalf_get (s := s) hkp]
        exact (hownr.cellAt (k * 2 + 1) (by omega)).trans (prs_sl (by rw [HLN.out]; exact hkl))
      have HNB : Hid (∀ j, j < n → j ≠ k → (ps.getD k P.zero).2.ownBlock ≠ ((rhalf s ps k).getD j P.zero).2.ownBlock) := fun j hj hjk => by
        rw [← rhalf_get (s := s) hkp]
        exact nodup_ne (by rw [rhalf_blocks]; exact HND.out) (by rw [HLN.out]; exact hkl) (by rw [HLN.out]; exact hj) (fun e => hjk e.symm)
      have HGK := Lib.hid (rhalf_get (s := s) hkp)
      rw [HGK.out] at hik
      generalize ps.getD k P.zero = p at hik hc1 HST HTK HNB HGK
      obtain ⟨r, u⟩ := p
      simp only at hik hc1 HST HTK HNB
      have hb0 := Own.blocks_ne (own_of_row hownr hlo) hik (by decide)
      have A1 := hownr.stored (k * 2) (.int .i64 (s + rlen (ps.take k) : Nat))
      obtain ⟨x0, s0⟩ := cellAt_some hownr (k * 2) (by omega)
      have f0 := hownr.frozenAt (k * 2)
      have hik1 := hik.other A1.2 (fun e => hb0 e)
      have HMV : Hid (Calls Try.prog 57 #[u, .int .i64 (((s + rlen (ps.take k) : Nat) : Int) + 1)] (wr.setCell ⟨g, k * 2, none⟩ (.int .i64 (s + rlen (ps.take k) : Nat))) fun e w' => e = .returned (.int .i64 (s + rlen (ps.take k) + 1 + 3 * r.l.length : Nat)) ∧ Own 76 3 lo hi w' u r.l.length (vals (vmarks (s + rlen (ps.take k) + 1) r.l.length)) ∧ (wr.setCell ⟨g, k * 2, none⟩ (.int .i64 (s + rlen (ps.take k) : Nat))).grownBy w' u.ownBlock) := by
        have := markValM u r.l.length lo hi r.l (s + rlen (ps.take k) + 1) (wr.setCell ⟨g, k * 2, none⟩ (.int .i64 (s + rlen (ps.take k) : Nat))) (by omega) (by omega) (by rw [HTK.out] at hr2; omega) rfl hik1
        rw [show (((s + rlen (ps.take k) : Nat) : Int) + 1) = ((s + rlen (ps.take k) + 1 : Nat) : Int) by omega]
        exact this
      have HA := Lib.hid A1
      have HI := Lib.hid hir
      have HO := Lib.hid hownr
      have HLEN : Hid (r.l.length ≤ 16777216) := by show r.l.length ≤ 16777216; rw [HTK.out] at hr2; omega
      clear A1 hir hik hik1 hownr hr2
      generalize hm : s + rlen (ps.take k) = m at *
      have HM := Lib.hid hm
      have hm2 : m ≤ 1099511627 := by omega
      clear hm hr1
      go_wp2_with fail
      refine HMV.out.mono ?_
      rintro e w2 ⟨rfl, om, gm⟩
      have hlen := HLEN.out
      have HOM := Lib.hid om
      have HGM := Lib.hid gm
      clear om gm s0 f0 hc1 HMV
      go_wp2
      go_roundw
      case rel =>
        refine ⟨k + 1, by omega, by go_num, by rw [HTK.out]; have := HM.out; go_num, ?_, fun j hj => ?_, ?_⟩
        · rw [← HST.out, prs_set_id (by rw [HLN.out]; exact hkl) (by rw [HGK.out])]
          exact ((own_of_row HA.out.1 hlo).other HGM.out (fun e => hb0 e.symm)).row
        · rw [← HST.out]
          by_cases hjk : j = k
          · subst hjk
            rw [getD_set_eq (by rw [HLN.out]; exact hkl)]
            simp only [vmarks_len]
            exact HOM.out
          · rw [getD_set_ne (fun e => hjk e.symm)]
            have o1 := HI.out j hj
            have b1 := Own.blocks_ne (own_of_row HO.out hlo) o1 (by decide)
            exact (o1.other HA.out.2 (fun e => b1 e)).other HGM.out (HNB.out j hj hjk)
        · refine (hwr.trans (Within.of_grown HA.out.2 (fun x hx => ?_))).trans (Within.of_grown HGM.out (fun x hx => ?_))
          · simp only [Option.some.injEq] at hx
            omega
          · obtain ⟨g2, cp2, e2, l2, l3, _⟩ := HOM.out
            rw [e2] at hx
            simp [Value.ownBlock] at hx
            omega
      case measure => simp [intOf]; omega
    · obtain rfl : k = n := by omega
      have e : rhalf s ps k = rmarks s ps := by
        unfold rhalf
        rw [← HL.out, List.take_length, List.drop_length, List.append_nil]
      rw [e] at hownr hir
      have HZ : Hid (rlen (ps.take k) = rlen ps) := by
        show rlen (ps.take k) = rlen ps
        rw [← HL.out, List.take_length]
      have HI : Hid (∀ p ∈ rmarks s ps, Own 76 3 lo hi wr p.2 p.1.l.length (vals p.1.l)) := mem_of_all (d := P.zero) (q := fun p : P => Own 76 3 lo hi wr p.2 p.1.l.length (vals p.1.l)) (fun j hj => hir j (by rw [rmarks_len, HL.out] at hj; exact hj))
      rw [HZ.out]
      clear hir
      go_wp2
      go_ret
      refine ⟨rfl, ⟨?_, HI.out, by rw [rmarks_blocks]; exact HND.out⟩, hwr⟩
      rw [rmarks_len, HL.out]
      exact ⟨_, _, rfl, hlo, hhi, hownr⟩

end Go.Proofs.Ytkofafefnlommaa
