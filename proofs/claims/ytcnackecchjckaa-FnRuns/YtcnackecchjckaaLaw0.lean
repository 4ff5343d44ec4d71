/- What the laws share: big, at, a code that stays. -/
import Derived.Test.YtcnackecchjckaaDraw
namespace Go.Proofs.Ytcnackecchjckaa
open Go.RowKit

theorem big_yes (a : Option Addr) (len cap : Nat) (w : World) (h : 1048576 < len) : Calls Try.prog 11 #[.slice a len cap] w fun e w' => e = .returned (.bool true) ∧ w = w' := by
  go_enter Try.func11, Try.ntmps11
  go_wp2
  go_ret
  exact ⟨ret_bool (decide_eq_true (by omega)), rfl⟩
theorem big_no (a : Option Addr) (len cap : Nat) (w : World) (h : len ≤ 1048576) : Calls Try.prog 11 #[.slice a len cap] w fun e w' => e = .returned (.bool false) ∧ w = w' := by
  go_enter Try.func11, Try.ntmps11
  go_wp2
  go_ret
  exact ⟨ret_bool (decide_eq_false (by omega)), rfl⟩

theorem Code.In.below {c : Code} {w w' : World} (h : c.In w) (hb : Below w.heap.size w w') : c.In w' := ⟨h.arg.below hb, h.byt, h.small⟩
/-- An owned value, its shape laid open. -/
theorem Own.shape {e size lo hi w v n xs} (h : Own e size lo hi w v n xs) : ∃ g cap, v = .slice (some ⟨g, 0, none⟩) n cap := by
  obtain ⟨g, cap, rfl, _⟩ := h
  exact ⟨g, cap, rfl⟩

end Go.Proofs.Ytcnackecchjckaa
