/- The contract of laws.same: two slices of integers that read alike. -/
import Derived.Test.YtcnackecchjckaaMem
namespace Go.Proofs.Ytcnackecchjckaa
open Go.RowKit

set_option maxHeartbeats 400000 in
theorem same_q (a b : Value) (n : Nat) (zs : List Int) (w : World) (hz : zs.length = n) (ha : At 1 w a n (ints .u8 zs)) (hb : At 1 w b n (ints .u8 zs)) :
    Calls Try.prog 15 #[a, b] w fun e w' => e = .returned (.bool true) ∧ ∃ m, w' = w.drewN m := by
  obtain ⟨b1, o1, c1, rfl, hn1, hm1, hl1, hc1⟩ := ha
  obtain ⟨b2, o2, c2, rfl, hn2, hm2, hl2, hc2⟩ := hb
  have HZ := Lib.hid hz
  clear hz hl1 hl2
  unfold maxLen at hm1
  have hne : ((n : Int) != (n : Int)) = false := by simp
  go_enter Try.func15, Try.ntmps15
  go_wp2
  go_loopw [5] (fun i wr => ∃ k : Nat, k ≤ n ∧ i = .int .i64 k ∧ ∃ d, wr = w.drewN d) (fun i _ => n - (intOf i).toNat)
  case atStart => exact ⟨0, Nat.zero_le _, rfl, 0, rfl⟩
  case round =>
    obtain ⟨k, hk, rfl, d, rfl⟩ := hrel
    by_cases hlt : k < n
    · have h1 : w.cell? ⟨b1, o1 + k, none⟩ = some (.int .u8 (zs.getD k 0)) := At.cell hc1 HZ.out hlt
      have h2 : w.cell? ⟨b2, o2 + k, none⟩ = some (.int .u8 (zs.getD k 0)) := At.cell hc2 HZ.out hlt
      clear hc1 hc2
      generalize zs.getD k 0 = z at h1 h2
      have hzz : (z != z) = false := by simp
      go_wp2
      go_quiet (fail)
      go_wp2
      go_roundw
      case rel => exact ⟨k + 1, by omega, by go_num, _, rfl⟩
      case measure => simp [intOf]; omega
    · go_wp2
      go_ret
      exact ⟨rfl, _, rfl⟩


theorem same (a b : Value) (n : Nat) (zs : List Int) (w : World) (hz : zs.length = n) (ha : At 1 w a n (ints .u8 zs)) (hb : At 1 w b n (ints .u8 zs)) :
    Calls Try.prog 15 #[a, b] w fun e w' => e = .returned (.bool true) ∧ Below w.heap.size w w' :=
  (same_q a b n zs w hz ha hb).mono fun _ _ ⟨he, _, hm⟩ => ⟨he, hm ▸ below_drewN _ _ _⟩

end Go.Proofs.Ytcnackecchjckaa
