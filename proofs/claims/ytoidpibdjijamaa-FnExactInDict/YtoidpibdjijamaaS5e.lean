/- The contracts of the model's EncPlain and DecPlain. -/
import Derived.Test.YtoidpibdjijamaaS5p
import Derived.Test.YtoidpibdjijamaaS5g
namespace Go.Proofs.Ytoidpibdjijamaa
open Go.RowKit

/-- EncPlain. -/
def encAll (l : List V) : List Int := l.foldl putV []
def encP (l : List V) : List Int := if typeV l = 0 then [] else encAll l
theorem encAll_snoc (l : List V) (v : V) : encAll (l ++ [v]) = putV (encAll l) v := by simp [encAll]
theorem encAll_len (l : List V) : (encAll l).length ≤ 7 * l.length := by
  have : ∀ (l : List V) (b : List Int), (l.foldl putV b).length ≤ b.length + 7 * l.length := by
    intro l
    induction l with
    | nil => intro b; simp
    | cons v l ih =>
      intro b
      have h1 := ih (putV b v)
      have h2 := (putV_len b v).2
      simp only [List.foldl_cons, List.length_cons]
      omega
  have := this l []
  simpa [encAll] using this
theorem typeV_len {l : List V} (h : ¬ typeV l = 0) : l.length ≤ 64 := by
  unfold typeV at h
  split at h
  · rename_i h2
    have := Num.inB_true.1 h2.1
    omega
  · exact absurd rfl h

/-- DecPlain. -/
def decL (zs : List Int) (ty : Int) : Nat → Int → Option (List V × Int)
  | 0, i => some ([], i)
  | k + 1, i => if (getV zs i ty).2.2 = true then (decL zs ty k (getV zs i ty).2.1).map fun r => ((getV zs i ty).1 :: r.1, r.2) else none
def decP (zs : List Int) (ty k : Int) : List V × Bool :=
  if Num.inB k 1 64 = true then (match decL zs ty k.toNat 0 with | some r => if r.2 = zs.length then (r.1, true) else ([], false) | none => ([], false)) else ([], false)
/-- What DecPlain returns. -/
def RDs (w w' : World) (e : Ending) (r : List V × Bool) : Prop := ∃ v', e = .returned (.tuple #[v', .bool r.2]) ∧ Own 37 3 w.heap.size w'.heap.size w' v' r.1.length (vals r.1) ∧ Below w.heap.size w w'

end Go.Proofs.Ytoidpibdjijamaa
