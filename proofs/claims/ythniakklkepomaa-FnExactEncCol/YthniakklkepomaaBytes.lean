/- The contracts of the laws' own helpers over []uint8: toByteS, eqByteS, markByteS, heldByteS. -/
import Derived.Test.YthniakklkepomaaMem
namespace Go.Proofs.Ythniakklkepomaa
open Go.RowKit

theorem Try.info5 : (Try.prog.info? 5).map (fun i => (i.zero, i.size, i.bytes)) = some (some (.int .u8 0), 1, 1) := by kernel_rfl

set_option maxHeartbeats 400000 in
theorem eqByteS (a b : Value) (n : Nat) (zs : List Int) (w : World) (hz : zs.length = n) (ha : At 1 w a n (ints .u8 zs)) (hb : At 1 w b n (ints .u8 zs)) :
    Calls Try.prog 12 #[a, b] w fun e w' => e = .returned (.bool true) ∧ Below w.heap.size w w' := by
  obtain ⟨b1, o1, c1, rfl, hn1, hm1, hl1, hc1⟩ := ha
  obtain ⟨b2, o2, c2, rfl, hn2, hm2, hl2, hc2⟩ := hb
  have HZ := Lib.hid hz
  clear hz hl1 hl2
  unfold maxLen at hm1
  have hne : ((n : Int) != (n : Int)) = false := by simp
  go_enter Try.func12, Try.ntmps12
  go_wp2
  go_loopw [5] (fun i wr => ∃ k : Nat, k ≤ n ∧ i = .int .i64 k ∧ ∃ d, wr = w.drewN d) (fun i _ => n - (intOf i).toNat)
  case atStart => exact ⟨0, Nat.zero_le _, rfl, 0, rfl⟩
  case round =>
    obtain ⟨k, hk, rfl, d, rfl⟩ := hrel
    by_cases hlt : k < n
    · have h1 : w.cell? ⟨b1, o1 + k, none⟩ = some (.int .u8 (zs.getD k 0)) := At.cell hc1 HZ.out hlt
      have h2 : w.cell? ⟨b2, o2 + k, none⟩ = some (.int .u8 (zs.getD k 0)) := At.cell hc2 HZ.out hlt
      clear hc1 hc2
      generalize zs.getD k 0 = z at h1 h2
      have hzz : (z != z) = false := by simp
      go_wp2
      go_quiet (fail)
      go_wp2
      go_roundw
      case rel => exact ⟨k + 1, by omega, by go_num, _, rfl⟩
      case measure => simp [intOf]; omega
    · go_wp2
      go_ret
      exact ⟨rfl, below_drewN _ _ _⟩

set_option maxHeartbeats 400000 in
theorem markByteS (v : Value) (n lo hi : Nat) (xs : List Value) (s : Int) (w : World) (h0 : 0 ≤ s) (hs : s ≤ 1073741824) (hn : n ≤ 1073741824) (h : Own 5 1 lo hi w v n xs) :
    Calls Try.prog 15 #[v, .int .i64 s] w fun e w' => e = .returned (.int .i64 (s + n)) ∧ Own 5 1 lo hi w' v n (ints .u8 (marks .u8 s n)) ∧ w.grownBy w' v.ownBlock := by
  obtain ⟨g, cap, rfl, hlo, hhi, hown⟩ := h
  have HX : Hid (xs.length = n) := by have := hown.1; rw [Nat.mul_one] at this; exact this
  go_enter Try.func15, Try.ntmps15
  go_wp2
  go_loopw [1, 5] (fun q i wr => ∃ k : Nat, k ≤ n ∧ i = .int .i64 k ∧ q = .int .i64 (s + k) ∧ wr.ownsRow lo 5 1 (.slice (some ⟨g, 0, none⟩) n cap) n (marked .u8 s xs k) ∧ w.grownBy wr (some g)) (fun _ i _ => n - (intOf i).toNat)
  case atStart => exact ⟨0, Nat.zero_le _, rfl, by simp, by rw [marked_zero]; exact hown, ⟨rfl, rfl, rfl, Nat.le_refl _, fun _ _ _ => rfl⟩⟩
  case round =>
    obtain ⟨k, hk, rfl, rfl, hownr, hgr⟩ := hrel
    by_cases hlt : k < n
    · have hkx : k < xs.length := by have := HX.out; omega
      have hcw : wr.cell? ⟨g, k, none⟩ = some xs[k] := (hownr.cellAt k (by omega)).trans (marked_get hkx)
      have hfr := hownr.frozenAt k
      have hst := hownr.stored k (.int .u8 (IntKind.wrap .u8 (s + k)))
      rw [marked_set hkx] at hst
      try rw [IntWalk.i64_in (s + (k : Int)) (by omega)] at hst
      have R := Lib.hid hst
      clear hst
      generalize xs[k] = old at hcw
      go_wp2
      go_roundw
      case rel => exact ⟨k + 1, by omega, by go_num, by go_num, R.out.1, hgr.trans R.out.2⟩
      case measure => simp [intOf]; omega
    · obtain rfl : k = n := by omega
      have e : marked .u8 s xs k = ints .u8 (marks .u8 s k) := by rw [← HX.out]; exact marked_all _ _ _
      rw [e] at hownr
      go_wp2
      go_ret
      exact ⟨rfl, ⟨_, _, rfl, hlo, hhi, hownr⟩, hgr⟩

set_option maxHeartbeats 400000 in
theorem heldByteS (v : Value) (n : Nat) (s : Int) (w : World) (h0 : 0 ≤ s) (hs : s ≤ 1073741824) (hn : n ≤ 1073741824) (h : At 1 w v n (ints .u8 (marks .u8 s n))) :
    Calls Try.prog 16 #[v, .int .i64 s] w fun e w' => e = .returned (.int .i64 (s + n)) ∧ w = w' := by
  obtain ⟨b, off, cap, rfl, hn1, hm1, hl1, hc⟩ := h
  clear hl1
  go_enter Try.func16, Try.ntmps16
  go_wp2
  go_loop [1, 5] (fun q i => ∃ k : Nat, k ≤ n ∧ i = .int .i64 k ∧ q = .int .i64 (s + k)) (fun _ i => n - (intOf i).toNat)
  case atStart => exact ⟨0, Nat.zero_le _, rfl, by simp⟩
  case round =>
    obtain ⟨k, hk, rfl, rfl⟩ := hrel
    by_cases hlt : k < n
    · have hcx : w.cell? ⟨b, off + k, none⟩ = some (.int .u8 (IntKind.wrap .u8 (s + k))) := by
        have := At.cell hc (marks_len _ _ _) hlt
        rw [marks_get hlt] at this
        exact this
      try rw [IntWalk.i64_in (s + (k : Int)) (by omega)] at hcx
      clear hc
      go_wp2
      go_round
      case rel => exact ⟨k + 1, by omega, by go_num, by go_num⟩
      case measure => simp [intOf]; omega
    · obtain rfl : k = n := by omega
      go_wp2
      go_ret
      exact ⟨rfl, rfl⟩

end Go.Proofs.Ythniakklkepomaa
