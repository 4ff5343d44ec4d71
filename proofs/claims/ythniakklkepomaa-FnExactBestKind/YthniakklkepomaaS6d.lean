/- The contract of the model's DecRuns. -/
import Derived.Test.YthniakklkepomaaS6e
namespace Go.Proofs.Ythniakklkepomaa
open Go.RowKit




/-- DecRuns. -/
def decU (zs : List Int) (ty : Int) : Nat → Int → Option (List U)
  | 0, _ => some []
  | n + 1, i => if (Num.get zs i).2.2 = true ∧ (getV zs (Num.get zs i).2.1 ty).2.2 = true then (decU zs ty n (getV zs (Num.get zs i).2.1 ty).2.1).map fun r => ⟨(getV zs (Num.get zs i).2.1 ty).1, (Num.get zs i).1⟩ :: r else none
def decR (zs : List Int) (ty k : Int) : List V × Bool :=
  if (Num.get zs 0).2.2 = true ∧ Num.inB k 1 64 = true ∧ Num.inB (Num.get zs 0).1 1 64 = true then
    (match decU zs ty (Num.get zs 0).1.toNat (Num.get zs 0).2.1 with
      | some r => if ((spreadL r).length : Int) = k ∧ encR (spreadL r) = zs then (spreadL r, true) else ([], false)
      | none => ([], false))
  else ([], false)
theorem decR_len (zs : List Int) (ty k : Int) : (decR zs ty k).1.length ≤ 64 := by
  unfold decR
  split
  · split
    · split
      · exact spreadL_len _
      · simp
    · simp
  · simp
theorem decU_size {zs : List Int} {ty : Int} : ∀ {n : Nat} {i : Int} {r : List U}, decU zs ty n i = some r → ∀ u ∈ r, u.v.s.size ≤ maxLen := by
  intro n
  induction n with
  | zero =>
    intro i r h u hu
    simp only [decU, Option.some.injEq] at h
    subst h
    cases hu
  | succ n ih =>
    intro i r h u hu
    rw [decU] at h
    split at h
    · obtain ⟨q, hq, rfl⟩ := Option.map_eq_some_iff.1 h
      rcases List.mem_cons.1 hu with rfl | hu
      · exact getV_size _ _ _
      · exact ih hq u hu
    · cases h
theorem spreadF_all {p : V → Prop} : ∀ {r : List U} {out l : List V}, (∀ u ∈ r, p u.v) → (∀ v ∈ out, p v) → spreadF r out = some l → ∀ v ∈ l, p v
  | [], out, l, _, h2, e => by
    simp only [spreadF, Option.some.injEq] at e
    subst e
    exact h2
  | u :: r, out, l, h1, h2, e => by
    rw [spreadF] at e
    split at e
    · refine spreadF_all (fun x hx => h1 x (List.mem_cons_of_mem _ hx)) (fun v hv => ?_) e
      rcases List.mem_append.1 hv with hv | hv
      · exact h2 v hv
      · rw [List.eq_of_mem_replicate hv]
        exact h1 u List.mem_cons_self
    · cases e
theorem spreadL_all {p : V → Prop} {r : List U} (h : ∀ u ∈ r, p u.v) : ∀ v ∈ spreadL r, p v := by
  unfold spreadL
  cases e : spreadF r [] with
  | none => simp
  | some l => exact spreadF_all h (by simp) e

end Go.Proofs.Ythniakklkepomaa
