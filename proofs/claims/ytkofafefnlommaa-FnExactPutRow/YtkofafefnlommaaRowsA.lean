/- Slices of Rows whose values are nil or read; append of a Row. -/
import Derived.Test.YtkofafefnlommaaS12a
import Derived.Test.YtkofafefnlommaaBlk
namespace Go.Proofs.Ytkofafefnlommaa
open Go.RowKit

/-- v is a slice of Rows whose values are nil or read. -/
def RdRsN (w : World) (v : Value) (ps : List P) : Prop := Rd 2 w v ps.length (prs ps) ∧ ∀ p ∈ ps, AtN 3 w p.2 p.1.l.length (vals p.1.l)
theorem RdRsN.below {w w' : World} {v : Value} {ps : List P} (h : RdRsN w v ps) (hb : Below w.heap.size w w') : RdRsN w' v ps := ⟨h.1.below hb, fun p hp => (h.2 p hp).below hb⟩
theorem RdRsN.rd {w : World} {v : Value} {ps : List P} (h : RdRsN w v ps) : RdRs w v ps := ⟨h.1, fun p hp => (h.2 p hp).rd⟩
theorem MyRs.rdN {lo hi w v} {ps : List P} (h : MyRs lo hi w v ps) : RdRsN w v ps := ⟨h.1.rd, fun p hp => (h.2.1 p hp).atN⟩
theorem RdRsN.walk {w : World} {v : Value} {ps : List P} (h : RdRsN w v ps) {n : Nat} (hl : ps.length = n) :
    ∃ a cap, v = .slice a n cap ∧ n ≤ maxLen ∧ Hid (∀ k, k < n → ∀ W, Below w.heap.size w W → ∃ b off, a = some ⟨b, off, none⟩ ∧ W.cell? ⟨b, off + k * 2, none⟩ = some (.int .i64 (ps.getD k P.zero).1.id) ∧ W.cell? ⟨b, off + k * 2 + 1, none⟩ = some (ps.getD k P.zero).2 ∧ AtN 3 W (ps.getD k P.zero).2 (ps.getD k P.zero).1.l.length (vals (ps.getD k P.zero).1.l)) := by
  obtain ⟨a, cap, rfl, hn, HC⟩ := h.rd.walk hl
  refine ⟨a, cap, rfl, hn, fun k hk W hW => ?_⟩
  obtain ⟨b, off, e, h1, h2, _⟩ := HC.out k hk W hW
  refine ⟨b, off, e, h1, h2, (h.2 _ ?_).below hW⟩
  have hk' : k < ps.length := by omega
  have e : ps.getD k P.zero = ps[k] := by simp [hk']
  rw [e]
  exact List.getElem_mem hk'
theorem apart_snoc {us : List Value} {v : Value} (h : Apart us) (hv : ∀ u ∈ us, u.ownBlock = none ∨ u.ownBlock ≠ v.ownBlock) : Apart (us ++ [v]) := by
  unfold Apart at *
  rw [List.pairwise_append]
  exact ⟨h, List.pairwise_singleton _ _, fun a ha b hb => by rw [List.mem_singleton.1 hb]; exact hv a ha⟩
theorem OwnN.block_ne {lo hi lo' hi' w v u n xs} {l : List V} (h : OwnN 27 2 lo' hi' w v n xs) (k : OwnV lo hi w u l) : v.ownBlock = none ∨ v.ownBlock ≠ u.ownBlock := by
  rcases h with ⟨rfl, _⟩ | h
  · exact .inl rfl
  · exact .inr (OwnV.block_ne h k)
theorem OwnV.lt {lo hi w u} {l : List V} (h : OwnV lo hi w u l) {s : Nat} (hs : hi ≤ s) {v : Value} (hv : ∀ x, v.ownBlock = some x → s ≤ x) : u.ownBlock = none ∨ u.ownBlock ≠ v.ownBlock := by
  by_cases hu : u.ownBlock = none
  · exact .inl hu
  · refine .inr (fun e => ?_)
    cases hx : u.ownBlock with
    | none => exact hu hx
    | some x =>
      have h1 := h.in_ hx
      have h2 := hv x (e.symm.trans hx)
      omega
/-- One more row. -/
theorem MyRs.append {lo s : Nat} {w1 w2 : World} {out out' : Value} {ps : List P} {p : P} (h : MyRs lo s w1 out ps) (hls : lo ≤ s) (hp : OwnV s w1.heap.size w1 p.2 p.1.l) (hs : s ≤ w1.heap.size) (ho : Own 27 2 lo w2.heap.size w2 out' (ps.length + 1) (prs ps ++ p.cs)) (he : Ext w1 w2 out out') : MyRs lo w2.heap.size w2 out' (ps ++ [p]) := by
  have hz := he.grown.size
  refine ⟨?_, fun q hq => ?_, ?_⟩
  · rw [List.length_append]
    refine .inr ?_
    have e : prs (ps ++ [p]) = prs ps ++ p.cs := by simp [prs]
    rw [e]
    exact ho
  · rcases List.mem_append.1 hq with hq | hq
    · exact ((h.2.1 q hq).other he.grown (OwnN.block_ne h.1 (h.2.1 q hq))).wide (Nat.le_refl _) (by omega)
    · rw [List.mem_singleton.1 hq]
      exact (hp.other he.grown (OwnN.block_ne h.1 hp)).wide hls hz
  · rw [List.map_append]
    refine apart_snoc h.2.2 (fun u hu => ?_)
    obtain ⟨q, hq, rfl⟩ := List.mem_map.1 hu
    exact (h.2.1 q hq).lt (Nat.le_refl _) (fun x hx => (hp.in_ hx).1)
/-- append(s, x): x, a Row, has just been laid in a block of its own. -/
theorem appendR_law {P : Program} {t e : TypeId} {z : Value} {bytes : Nat} (T : ElemT P t e z 2 bytes) {w : World} {ops : Array Oper} {rest : List Oper} {o : Oper} {a : Act} {Q : Exit → Act → World → Prop} (hgd : o.guard = none) (s x : Operand)
    (ho : o.op = .call { callee := .builtin .append, args := #[s, x], argTypes := #[t, t] })
    (lo hi : Nat) (v : Value) (n : Nat) (xs : List Value) (k : Int) (ua : Option Addr) (un uc : Nat) (hs : a.eval s = v) (hown : OwnN e 2 lo hi w v n xs) (hlo : lo ≤ w.heap.size)
    (N : Nat) (hN : w.heap.size = N) (hx : a.eval x = .slice (some ⟨N, 0, none⟩) 1 1)
    (h63 : n + 1 ≤ maxLen) (hbytes : (n + 1) * bytes ≤ 140737488355328)
    (h : ∀ v' w', Own e 2 lo w'.heap.size w' v' (n + 1) (xs ++ [.int .i64 k, .slice ua un uc]) → Ext w w' v v' → wpList P ops Q rest (a.put o.dst v') w') : wpList P ops Q (o :: rest) a (w.alloc (.cells #[.int .i64 k, .slice ua un uc] e)) := by
  subst hN
  refine append_lawN T hgd s x ho lo hi v n xs hs (hown.imp id (fun h => h.alloc _)) (by rw [World.size_alloc]; omega) w.heap.size 0 1 1 [.int .i64 k, .slice ua un uc] hx rfl ?_ ?_ (by omega) h63 hbytes (fun v' w' h1 h2 => h v' w' h1 ((Ext.alloc v _).trans h2))
  · intro j y hj
    match j, hj with
    | 0, hj => simp at hj; subst hj; simp
    | 1, hj => simp at hj; subst hj; simp
    | j + 2, hj => simp at hj
  · intro y hy
    simp at hy
    rcases hy with rfl | rfl <;> rfl
theorem Blk.ext {W W' : World} {b : Nat} {cs : List Value} {v v' : Value} (h : Blk W b cs) (he : Ext W W' v v') (hne : v.ownBlock ≠ some b) : Blk W' b cs := h.grown he.grown (fun e => hne e.symm)
theorem OwnN.not_low {e size lo hi w v n xs} (h : OwnN e size lo hi w v n xs) {b : Nat} (hb : b < lo) : v.ownBlock ≠ some b := by
  rcases h with ⟨rfl, _⟩ | ⟨g, cp, rfl, h1, _⟩
  · simp [Value.ownBlock]
  · simp [Value.ownBlock]
    omega

end Go.Proofs.Ytkofafefnlommaa
