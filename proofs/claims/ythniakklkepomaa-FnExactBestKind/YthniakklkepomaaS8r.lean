/- The contract of the model's Raised. -/
import Derived.Test.YthniakklkepomaaS8
import Derived.Test.YthniakklkepomaaNumOk
namespace Go.Proofs.Ythniakklkepomaa
open Go.RowKit

theorem upB_in {base x : Int} (h : upB base x = true) : (0 ≤ x ∧ x ≤ 2000000000) ∧ base + x ≤ 1000000000 := by
  have := of_decide_eq_true h
  omega
theorem raised_bad {base : Int} (l : List Int) (h : Num.okB base = false) : raisedL base l = ([], false) := if_neg (fun e => by rw [h] at e; cases e.1)
theorem raised_no {base : Int} {l : List Int} {k : Nat} (hk : k < l.length) (h : upB base (l.getD k 0) = false) : raisedL base l = ([], false) := if_neg (fun e => by
  have h2 := List.all_eq_true.1 e.2 (l[k]) (List.getElem_mem hk)
  rw [getDe l 0 hk, h2] at h
  cases h)
theorem raised_yes {base : Int} {l : List Int} (hb : Num.okB base = true) (h : ∀ k, k < l.length → upB base (l.getD k 0) = true) : raisedL base l = (l.map (upV base), true) := if_pos ⟨hb, List.all_eq_true.2 (fun x hx => by
  obtain ⟨k, hk, rfl⟩ := List.getElem_of_mem hx
  have := h k hk
  rw [getDe l 0 hk] at this
  exact this)⟩
/-- The first k values. -/
def upK (base : Int) (l : List Int) (k : Nat) : List V := (l.take k).map (upV base)
theorem upK_step {base : Int} {l : List Int} {k : Nat} (h : k < l.length) : vals (upK base l (k + 1)) = vals (upK base l k) ++ V.cs ⟨1, base + l.getD k 0, ⟨#[]⟩⟩ := by
  unfold upK
  rw [List.take_succ_eq_append_getElem h, List.map_append, getDe l 0 h]
  simp [vals, upV]

end Go.Proofs.Ythniakklkepomaa
