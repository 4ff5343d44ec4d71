/- Rows of one's own: two lists of them joined, one Row put in, heads and tails of a slice. -/
import Derived.Test.YtkofafefnlommaaRowsA
namespace Go.Proofs.Ytkofafefnlommaa
open Go.RowKit

theorem MyRs.atN {lo hi w v} {ps : List P} (h : MyRs lo hi w v ps) : AtN 2 w v ps.length (prs ps) := h.1.atN
theorem prs_one {lo hi w v} {ps : List P} (h : MyRs lo hi w v ps) : ∀ u ∈ prs ps, u.oneCell' = true := by
  intro u hu
  unfold prs at hu
  obtain ⟨p, hp, hv⟩ := List.mem_flatMap.1 hu
  obtain ⟨a, cp, e⟩ := (h.2.1 p hp).atN.sl
  simp only [P.cs, List.mem_cons, List.not_mem_nil, or_false] at hv
  rcases hv with rfl | rfl
  · rfl
  · rw [e]
    rfl
/-- append(l4All(a), l4All(b)...): the rows of both are one's own. -/
theorem MyRs.join {lo lo1 h1 lo2 h2 : Nat} {w2 w3 : World} {va vb v' : Value} {qa qb : List P} (ha : MyRs lo1 h1 w2 va qa) (hb : MyRs lo2 h2 w2 vb qb) (_hown : Own 27 2 lo1 h1 w2 va qa.length (prs qa)) (l1 : lo ≤ lo1) (l2 : lo ≤ lo2) (k1 : h1 ≤ w2.heap.size) (k2 : h2 ≤ w2.heap.size) (hd : h1 ≤ lo2 ∨ h2 ≤ lo1)
    (ho : Own 27 2 lo1 w3.heap.size w3 v' (qa.length + qb.length) (prs qa ++ prs qb)) (he : Ext w2 w3 va v') : MyRs lo w3.heap.size w3 v' (qa ++ qb) := by
  have hz := he.grown.size
  refine ⟨?_, fun q hq => ?_, ?_⟩
  · rw [List.length_append]
    have e : prs (qa ++ qb) = prs qa ++ prs qb := by simp [prs]
    rw [e]
    exact .inr (ho.lower l1)
  · rcases List.mem_append.1 hq with hq | hq
    · exact ((ha.2.1 q hq).other he.grown (OwnN.block_ne ha.1 (ha.2.1 q hq))).wide l1 (by omega)
    · exact ((hb.2.1 q hq).other he.grown (OwnN.block_ne ha.1 (hb.2.1 q hq))).wide l2 (by omega)
  · rw [List.map_append]
    unfold Apart
    rw [List.pairwise_append]
    refine ⟨ha.2.2, hb.2.2, fun u hu v hv => ?_⟩
    obtain ⟨q, hq, rfl⟩ := List.mem_map.1 hu
    obtain ⟨p, hp, rfl⟩ := List.mem_map.1 hv
    rcases hd with hd | hd
    · exact (ha.2.1 q hq).lt hd (fun x hx => ((hb.2.1 p hp).in_ hx).1)
    · by_cases hn : q.2.ownBlock = none
      · exact .inl hn
      · refine .inr (fun e => ?_)
        cases hx : q.2.ownBlock with
        | none => exact hn hx
        | some x =>
          have e1 := (ha.2.1 q hq).in_ hx
          have e2 := (hb.2.1 p hp).in_ (e.symm.trans hx)
          omega

/-- One more Row at place k. -/
theorem MyRs.insert {lo s k : Nat} {w1 w2 : World} {out out' : Value} {ps : List P} {p : P} (h : MyRs lo s w1 out ps) (hls : lo ≤ s) (hp : OwnV s w1.heap.size w1 p.2 p.1.l) (hs : s ≤ w1.heap.size) (ho : Own 27 2 lo w2.heap.size w2 out' (ps.length + 1) (prs (ps.take k ++ p :: ps.drop k))) (he : Ext w1 w2 out out') : MyRs lo w2.heap.size w2 out' (ps.take k ++ p :: ps.drop k) := by
  have hz := he.grown.size
  have hl : (ps.take k ++ p :: ps.drop k).length = ps.length + 1 := by
    rw [List.length_append, List.length_cons, List.length_take, List.length_drop]
    omega
  have hold : ∀ q ∈ ps, OwnV lo w2.heap.size w2 q.2 q.1.l := fun q hq => ((h.2.1 q hq).other he.grown (OwnN.block_ne h.1 (h.2.1 q hq))).wide (Nat.le_refl _) (by omega)
  have hnew : ∀ q ∈ ps, (q.2.ownBlock = none ∨ q.2.ownBlock ≠ p.2.ownBlock) ∧ (p.2.ownBlock = none ∨ p.2.ownBlock ≠ q.2.ownBlock) := fun q hq => by
    have h1 := (h.2.1 q hq).lt (Nat.le_refl _) (fun x hx => (hp.in_ hx).1)
    refine ⟨h1, ?_⟩
    rcases h1 with h1 | h1
    · by_cases hn : p.2.ownBlock = none
      · exact .inl hn
      · exact .inr (fun e => hn (e.trans h1))
    · exact .inr (fun e => h1 e.symm)
  refine ⟨?_, fun q hq => ?_, ?_⟩
  · rw [hl]
    exact .inr ho
  · rcases List.mem_append.1 hq with hq | hq
    · exact hold q (List.mem_of_mem_take hq)
    · rcases List.mem_cons.1 hq with rfl | hq
      · exact (hp.other he.grown (OwnN.block_ne h.1 hp)).wide hls hz
      · exact hold q (List.mem_of_mem_drop hq)
  · have ha : Apart ((ps.take k ++ ps.drop k).map (·.2)) := by rw [List.take_append_drop]; exact h.2.2
    unfold Apart at ha ⊢
    rw [List.map_append, List.pairwise_append] at ha
    rw [List.map_append, List.map_cons, List.pairwise_append, List.pairwise_cons]
    refine ⟨ha.1, ⟨fun v hv => ?_, ha.2.1⟩, fun u hu v hv => ?_⟩
    · obtain ⟨q, hq, rfl⟩ := List.mem_map.1 hv
      exact (hnew q (List.mem_of_mem_drop hq)).2
    · rcases List.mem_cons.1 hv with rfl | hv
      · obtain ⟨q, hq, rfl⟩ := List.mem_map.1 hu
        exact (hnew q (List.mem_of_mem_take hq)).1
      · exact ha.2.2 u hu v hv
theorem prs_take (ps : List P) (k : Nat) : prs (ps.take k) = (prs ps).take (k * 2) := by
  induction ps generalizing k with
  | nil => simp [prs]
  | cons p ps ih =>
    cases k with
    | zero => simp [prs]
    | succ k =>
      have e : prs (p :: ps) = p.cs ++ prs ps := by simp [prs]
      have e2 : prs ((p :: ps).take (k + 1)) = p.cs ++ prs (ps.take k) := by simp [prs]
      rw [e, e2, ih, show (k + 1) * 2 = k * 2 + 2 by omega]
      simp [P.cs]
theorem prs_drop (ps : List P) (k : Nat) : prs (ps.drop k) = (prs ps).drop (k * 2) := by
  induction ps generalizing k with
  | nil => simp [prs]
  | cons p ps ih =>
    cases k with
    | zero => simp
    | succ k =>
      have e : prs (p :: ps) = p.cs ++ prs ps := by simp [prs]
      rw [e, List.drop_succ_cons, ih, show (k + 1) * 2 = k * 2 + 2 by omega]
      simp [P.cs]
theorem prs_put (ps : List P) (k : Nat) (p : P) : prs (ps.take k ++ p :: ps.drop k) = (prs ps).take (k * 2) ++ p.cs ++ (prs ps).drop (k * 2) := by
  have e : prs (ps.take k ++ p :: ps.drop k) = prs (ps.take k) ++ (p.cs ++ prs (ps.drop k)) := by simp [prs]
  rw [e, prs_take, prs_drop, List.append_assoc]
theorem At.hd2 {w : World} {b off n cap k : Nat} {ps : List P} (hl : ps.length = n) (h : At 2 w (.slice (some ⟨b, off, none⟩) n cap) n (prs ps)) (hr : ∀ p ∈ ps, AtN 3 w p.2 p.1.l.length (vals p.1.l)) (hk : k ≤ n) : RdRsN w (.slice (some ⟨b, off, none⟩) k cap) (ps.take k) := by
  obtain ⟨b', off', cap', e, h1, h2, h3, h4⟩ := h
  simp only [Value.slice.injEq, Option.some.injEq, Addr.mk.injEq, and_true, true_and] at e
  obtain ⟨⟨rfl, rfl⟩, rfl⟩ := e
  have hlk : (ps.take k).length = k := by rw [List.length_take]; omega
  refine ⟨⟨_, _, by rw [hlk], by omega, by rw [prs_len], .inr ⟨b, off, rfl, fun j u hu => ?_⟩⟩, fun p hp => hr p (List.mem_of_mem_take hp)⟩
  rw [prs_take, List.getElem?_take] at hu
  split at hu
  · exact h4 j u hu
  · cases hu
theorem At.tl2 {w : World} {b off n cap k tl : Nat} {ps : List P} (hl : ps.length = n) (h : At 2 w (.slice (some ⟨b, off, none⟩) n cap) n (prs ps)) (hr : ∀ p ∈ ps, AtN 3 w p.2 p.1.l.length (vals p.1.l)) (hk : k ≤ n) (ht : k < cap → tl = off + k * 2) : RdRsN w (.slice (some ⟨b, tl, none⟩) (n - k) (cap - k)) (ps.drop k) := by
  obtain ⟨b', off', cap', e, h1, h2, h3, h4⟩ := h
  simp only [Value.slice.injEq, Option.some.injEq, Addr.mk.injEq, and_true, true_and] at e
  obtain ⟨⟨rfl, rfl⟩, rfl⟩ := e
  have hlk : (ps.drop k).length = n - k := by rw [List.length_drop, hl]
  refine ⟨⟨_, _, by rw [hlk], by omega, by rw [prs_len], .inr ⟨b, tl, rfl, fun j u hu => ?_⟩⟩, fun p hp => hr p (List.mem_of_mem_drop hp)⟩
  have hlt := (List.getElem?_eq_some_iff.1 hu).1
  rw [prs_len, hlk] at hlt
  rw [prs_drop, List.getElem?_drop] at hu
  rw [ht (by omega), Nat.add_assoc]
  exact h4 _ _ hu
theorem tail2_at (cap k b off : Nat) : ∃ tl, (if cap = k then some (⟨b, off, none⟩ : Addr) else some ⟨b, off + k * 2, none⟩) = some ⟨b, tl, none⟩ ∧ Hid (k < cap → tl = off + k * 2) := by
  by_cases e : cap = k
  · exact ⟨off, by rw [if_pos e], fun h => by omega⟩
  · exact ⟨off + k * 2, by rw [if_neg e], fun _ => rfl⟩

end Go.Proofs.Ytkofafefnlommaa
