/- The contracts of the laws' own helpers over []int: toIntS, eqIntS, markIntS, heldIntS. -/
import Derived.Test.YtkofafefnlommaaMem
namespace Go.Proofs.Ytkofafefnlommaa
open Go.RowKit

theorem Try.info3 : (Try.prog.info? 3).map (fun i => (i.zero, i.size, i.bytes)) = some (some (.int .i64 0), 1, 8) := by kernel_rfl

set_option maxHeartbeats 400000 in
theorem toIntS (a : Option Addr) (len cap : Nat) (zs : List Int) (w : World) (hle : len ≤ 1073741824) (h : Arg .i64 w a len zs) :
    Calls Try.prog 23 #[.slice a len cap] w fun e w' => ∃ v, e = .returned v ∧ Own 3 1 w.heap.size w'.heap.size w' v len (ints .i64 zs) ∧ Below w.heap.size w w' := by
  obtain ⟨hl, h⟩ := h
  obtain ⟨i0, hi, hz0, hz1, hz2⟩ := info_parts Try.info3
  rcases h with h0 | ⟨b, off, rfl, hc⟩
  · subst h0
    obtain rfl : zs = [] := List.length_eq_zero_iff.1 hl
    go_enter Try.func23, Try.ntmps23
    go_wp2_with (at_make; refine wpList_make_full _ rfl _ _ 30 rfl w.heap.size 3 i0 (.int .i64 0) 1 Try.underlying30 hi hz0 hz1 .i64 .i64 _ _ 0 rfl rfl rfl rfl (by rw [hz2]; omega) (by unfold maxLen; omega) (Nat.le_refl _) ?_)
    intro w1 hown hg
    have hsz : w.heap.size < w1.heap.size := (hown.lt w.heap.size rfl).2
    go_wp2
    refine wp_loop_rounds 1 ?_
    rw [rounds_succ]
    go_wp2
    go_ret
    exact ⟨_, rfl, ⟨_, _, rfl, Nat.le_refl _, hsz, by simpa [madeCells, ints] using hown⟩, below_of_grown hg⟩
  · have HL := Lib.hid hl
    go_enter Try.func23, Try.ntmps23
    go_wp2_with (at_make; refine wpList_make_full _ rfl _ _ 30 rfl w.heap.size 3 i0 (.int .i64 0) 1 Try.underlying30 hi hz0 hz1 .i64 .i64 _ _ len rfl rfl rfl rfl (by rw [hz2]; omega) (by unfold maxLen; omega) (Nat.le_refl _) ?_)
    intro w1 hown hg
    have hsz : w.heap.size < w1.heap.size := (hown.lt w.heap.size rfl).2
    have hb := below_of_grown hg
    have hown0 : w1.ownsRow w.heap.size 3 1 (.slice (some ⟨w.heap.size, 0, none⟩) len len) len (half .i64 zs 0) := by
      rw [half_zero, HL.out]
      simpa [Value.cells, toList_madeCells_one] using hown
    clear hown hg hl
    go_wp2
    go_loopw [4] (fun i wr => ∃ k : Nat, k ≤ len ∧ i = .int .i64 k ∧ wr.ownsRow w.heap.size 3 1 (.slice (some ⟨w.heap.size, 0, none⟩) len len) len (half .i64 zs k) ∧ Below w.heap.size w wr) (fun i _ => len - (intOf i).toNat)
    case atStart => exact ⟨0, Nat.zero_le _, rfl, hown0, hb⟩
    case round =>
      obtain ⟨k, hk, rfl, hownr, hbr⟩ := hrel
      by_cases hlt : k < len
      · have hbl : b < w.heap.size := lt_of_cell (hc k hlt)
        have hcx : wr.cell? ⟨b, off + k, none⟩ = some (.int .i64 (zs.getD k 0)) := (hbr.cell (by exact hbl)).trans (hc k hlt)
        have hcw : wr.cell? ⟨w.heap.size, k, none⟩ = some (.int .i64 0) := (hownr.cellAt k (by omega)).trans (half_get (by have := HL.out; omega))
        have hfr := hownr.frozenAt k
        have hst := hownr.stored k (.int .i64 (zs.getD k 0))
        rw [half_set (by have := HL.out; omega)] at hst
        have R := Lib.hid hst
        clear hst
        go_wp2
        go_roundw
        case rel => exact ⟨k + 1, by omega, by go_num, R.out.1, hbr.setCell (Nat.le_refl _) _⟩
        case measure => simp [intOf]; omega
      · obtain rfl : k = len := by omega
        have hsz2 := hbr.size
        go_wp2
        go_ret
        have e : half .i64 zs k = ints .i64 zs := by rw [← HL.out]; exact half_all _ _
        rw [e] at hownr
        exact ⟨_, rfl, ⟨_, _, rfl, Nat.le_refl _, (hownr.lt _ rfl).2, hownr⟩, hbr⟩

set_option maxHeartbeats 400000 in
theorem eqIntS (a b : Value) (n : Nat) (zs : List Int) (w : World) (hz : zs.length = n) (ha : At 1 w a n (ints .i64 zs)) (hb : At 1 w b n (ints .i64 zs)) :
    Calls Try.prog 26 #[a, b] w fun e w' => e = .returned (.bool true) ∧ Below w.heap.size w w' := by
  obtain ⟨b1, o1, c1, rfl, hn1, hm1, hl1, hc1⟩ := ha
  obtain ⟨b2, o2, c2, rfl, hn2, hm2, hl2, hc2⟩ := hb
  have HZ := Lib.hid hz
  clear hz hl1 hl2
  unfold maxLen at hm1
  have hne : ((n : Int) != (n : Int)) = false := by simp
  go_enter Try.func26, Try.ntmps26
  go_wp2
  go_loopw [5] (fun i wr => ∃ k : Nat, k ≤ n ∧ i = .int .i64 k ∧ ∃ d, wr = w.drewN d) (fun i _ => n - (intOf i).toNat)
  case atStart => exact ⟨0, Nat.zero_le _, rfl, 0, rfl⟩
  case round =>
    obtain ⟨k, hk, rfl, d, rfl⟩ := hrel
    by_cases hlt : k < n
    · have h1 : w.cell? ⟨b1, o1 + k, none⟩ = some (.int .i64 (zs.getD k 0)) := At.cell hc1 HZ.out hlt
      have h2 : w.cell? ⟨b2, o2 + k, none⟩ = some (.int .i64 (zs.getD k 0)) := At.cell hc2 HZ.out hlt
      clear hc1 hc2
      generalize zs.getD k 0 = z at h1 h2
      have hzz : (z != z) = false := by simp
      go_wp2
      go_quiet (fail)
      go_wp2
      go_roundw
      case rel => exact ⟨k + 1, by omega, by go_num, _, rfl⟩
      case measure => simp [intOf]; omega
    · go_wp2
      go_ret
      exact ⟨rfl, below_drewN _ _ _⟩

set_option maxHeartbeats 400000 in
theorem markIntS (v : Value) (n lo hi : Nat) (xs : List Value) (s : Int) (w : World) (h0 : 0 ≤ s) (hs : s ≤ 1073741824) (hn : n ≤ 1073741824) (h : Own 3 1 lo hi w v n xs) :
    Calls Try.prog 32 #[v, .int .i64 s] w fun e w' => e = .returned (.int .i64 (s + n)) ∧ Own 3 1 lo hi w' v n (ints .i64 (marks .i64 s n)) ∧ w.grownBy w' v.ownBlock := by
  obtain ⟨g, cap, rfl, hlo, hhi, hown⟩ := h
  have HX : Hid (xs.length = n) := by have := hown.1; rw [Nat.mul_one] at this; exact this
  go_enter Try.func32, Try.ntmps32
  go_wp2
  go_loopw [1, 5] (fun q i wr => ∃ k : Nat, k ≤ n ∧ i = .int .i64 k ∧ q = .int .i64 (s + k) ∧ wr.ownsRow lo 3 1 (.slice (some ⟨g, 0, none⟩) n cap) n (marked .i64 s xs k) ∧ w.grownBy wr (some g)) (fun _ i _ => n - (intOf i).toNat)
  case atStart => exact ⟨0, Nat.zero_le _, rfl, by simp, by rw [marked_zero]; exact hown, ⟨rfl, rfl, rfl, Nat.le_refl _, fun _ _ _ => rfl⟩⟩
  case round =>
    obtain ⟨k, hk, rfl, rfl, hownr, hgr⟩ := hrel
    by_cases hlt : k < n
    · have hkx : k < xs.length := by have := HX.out; omega
      have hcw : wr.cell? ⟨g, k, none⟩ = some xs[k] := (hownr.cellAt k (by omega)).trans (marked_get hkx)
      have hfr := hownr.frozenAt k
      have hst := hownr.stored k (.int .i64 (IntKind.wrap .i64 (s + k)))
      rw [marked_set hkx] at hst
      try rw [IntWalk.i64_in (s + (k : Int)) (by omega)] at hst
      have R := Lib.hid hst
      clear hst
      generalize xs[k] = old at hcw
      go_wp2
      go_roundw
      case rel => exact ⟨k + 1, by omega, by go_num, by go_num, R.out.1, hgr.trans R.out.2⟩
      case measure => simp [intOf]; omega
    · obtain rfl : k = n := by omega
      have e : marked .i64 s xs k = ints .i64 (marks .i64 s k) := by rw [← HX.out]; exact marked_all _ _ _
      rw [e] at hownr
      go_wp2
      go_ret
      exact ⟨rfl, ⟨_, _, rfl, hlo, hhi, hownr⟩, hgr⟩

end Go.Proofs.Ytkofafefnlommaa
