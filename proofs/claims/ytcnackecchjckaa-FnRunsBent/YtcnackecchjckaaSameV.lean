/- The contract of laws.sameVals: two slices of values that read alike. -/
import Derived.Test.YtcnackecchjckaaVSpec
import Derived.Test.YtcnackecchjckaaRd
namespace Go.Proofs.Ytcnackecchjckaa
open Go.RowKit

theorem eqB_self (v : V) : v.eqB v = true := by simp [V.eqB]

set_option maxHeartbeats 1000000 in
theorem sameVals (a b : Value) (n : Nat) (l : List V) (w : World) (hz : l.length = n) (ha : Rd 3 w a n (vals l)) (hb : Rd 3 w b n (vals l)) :
    Calls Try.prog 21 #[a, b] w fun e w' => e = .returned (.bool true) ∧ Below w.heap.size w w' := by
  obtain ⟨a1, c1, rfl, hm, HC1⟩ := ha.vals hz
  obtain ⟨a2, c2, rfl, _, HC2⟩ := hb.vals hz
  unfold maxLen at hm
  have hne : ((n : Int) != (n : Int)) = false := by simp
  clear hz ha hb
  go_enter Try.func21, Try.ntmps21
  go_wp2
  go_loopw [5] (fun i wr => ∃ k : Nat, k ≤ n ∧ i = .int .i64 k ∧ Below w.heap.size w wr) (fun i _ => n - (intOf i).toNat)
  case atStart => exact ⟨0, Nat.zero_le _, rfl, Below.refl _ _⟩
  case round =>
    obtain ⟨k, hk, rfl, hbr⟩ := hrel
    by_cases hlt : k < n
    · obtain ⟨b1, o1, e1, p0, p1, p2⟩ := HC1.out k hlt
      obtain ⟨b2, o2, e2, q0, q1, q2⟩ := HC2.out k hlt
      subst e1 e2
      have hq := fun W => run_neq_val (l.getD k V.zero) (l.getD k V.zero) W
      rw [eqB_self] at hq
      generalize l.getD k V.zero = x at p0 p1 p2 q0 q1 q2 hq
      replace p0 := (hbr.cell (p := ⟨b1, o1 + k * 3, none⟩) (lt_of_cell p0)).trans p0
      replace p1 := (hbr.cell (p := ⟨b1, o1 + k * 3 + 1, none⟩) (lt_of_cell p1)).trans p1
      replace p2 := (hbr.cell (p := ⟨b1, o1 + k * 3 + 2, none⟩) (lt_of_cell p2)).trans p2
      replace q0 := (hbr.cell (p := ⟨b2, o2 + k * 3, none⟩) (lt_of_cell q0)).trans q0
      replace q1 := (hbr.cell (p := ⟨b2, o2 + k * 3 + 1, none⟩) (lt_of_cell q1)).trans q1
      replace q2 := (hbr.cell (p := ⟨b2, o2 + k * 3 + 2, none⟩) (lt_of_cell q2)).trans q2
      obtain ⟨t1, n1, s1⟩ := x
      simp only at p0 p1 p2 q0 q1 q2
      go_wp2
      go_quiet (fail)
      go_wp2
      go_roundw
      case rel => exact ⟨k + 1, by omega, by go_num, hbr.trans (below_drewN _ _ _)⟩
      case measure => simp [intOf]; omega
    · go_wp2
      go_ret
      exact ⟨rfl, hbr⟩

end Go.Proofs.Ytcnackecchjckaa
