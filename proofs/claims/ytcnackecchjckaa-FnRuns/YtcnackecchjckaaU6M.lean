/- The laws' own helpers over slices of Runs: markRunS, heldRunS. -/
import Derived.Test.YtcnackecchjckaaU6
namespace Go.Proofs.Ytcnackecchjckaa
open Go.RowKit

/-- What markRunS leaves. -/
def umark (m : Nat) : U := ⟨⟨m, (m : Int) + 1, mtext (m + 2)⟩, (m : Int) + 3⟩
def umarks (s n : Nat) : List U := (List.range n).map fun j => umark (s + 4 * j)
theorem umarks_len (s n : Nat) : (umarks s n).length = n := by simp [umarks]
theorem umarks_get {s n k : Nat} (h : k < n) : (umarks s n).getD k U.zero = umark (s + 4 * k) := by simp [umarks, h]
theorem umarks_set {s k m : Nat} {l : List U} (h : k < l.length) (hm : s + 4 * k = m) : (umarks s k ++ l.drop k).set k (umark m) = umarks s (k + 1) ++ l.drop (k + 1) := by
  subst hm
  rw [List.set_append_right _ _ (by rw [umarks_len]; exact Nat.le_refl _), umarks_len, Nat.sub_self, List.drop_eq_getElem_cons h, List.set_cons_zero]
  unfold umarks
  rw [List.range_succ, List.map_append, List.append_assoc]
  rfl

set_option maxHeartbeats 1000000 in
theorem markRunM (v : Value) (n lo hi : Nat) (l : List U) (s : Nat) (w : World) (h0 : 0 < s) (hs : s ≤ 1073741824) (hn : n ≤ 1073741824) (hl : l.length = n) (h : Own 36 4 lo hi w v n (rus l)) :
    Calls Try.prog 35 #[v, .int .i64 s] w fun e w' => e = .returned (.int .i64 (s + 4 * n : Nat)) ∧ Own 36 4 lo hi w' v n (rus (umarks s n)) ∧ w.grownBy w' v.ownBlock := by
  obtain ⟨g, cap, rfl, hlo, hhi, hown⟩ := h
  have HL := Lib.hid hl
  clear hl
  go_enter Try.func35, Try.ntmps35
  go_wp2
  go_loopw [1, 5] (fun q i wr => ∃ (k : Nat) (l' : List U), k ≤ n ∧ (l'.length = n ∧ l' = umarks s k ++ l.drop k) ∧ i = .int .i64 k ∧ q = .int .i64 (s + 4 * k : Nat) ∧ wr.ownsRow lo 36 4 (.slice (some ⟨g, 0, none⟩) n cap) n (rus l') ∧ w.grownBy wr (some g)) (fun _ i _ => n - (intOf i).toNat)
  case atStart => exact ⟨0, l, Nat.zero_le _, ⟨HL.out, by simp [umarks]⟩, rfl, rfl, hown, grownBy_refl _ _⟩
  case round =>
    obtain ⟨k, l', hk, ⟨hl', hv'⟩, rfl, rfl, hownr, hgr⟩ := hrel
    have HV' := Lib.hid hv'
    clear hv'
    have HL' := Lib.hid hl'
    clear hl'
    by_cases hkl : k < n
    · obtain ⟨x0, s0⟩ := cellAt_some hownr (k * 4) (by omega)
      obtain ⟨x1, s1⟩ := cellAt_some hownr (k * 4 + 1) (by omega)
      have f0 := hownr.frozenAt (k * 4)
      have f1 := hownr.frozenAt (k * 4 + 1)
      generalize hm : s + 4 * k = m
      have HM := Lib.hid hm
      have hm2 : m ≤ 1099511627000 := by omega
      have hm0 : 0 < m := by omega
      clear hm
      have A1 := hownr.stored (k * 4) (.int .i64 (m : Int))
      have A2 := A1.1.stored (k * 4 + 1) (.int .i64 ((m : Int) + 1))
      have HA2 := Lib.hid A2.1
      have HG2 := Lib.hid (hgr.trans (A1.2.trans A2.2))
      have HMT : Hid (∀ W, Calls Try.prog 72 #[.int .i64 ((m : Int) + 1 + 1)] W fun e w' => e = .returned (.string (mtext (m + 2))) ∧ Below W.heap.size W w') := fun W => by
        rw [show (m : Int) + 1 + 1 = ((m + 2 : Nat) : Int) by omega]
        exact markText (m + 2) W (by omega) (by omega)
      clear A1 A2 hownr hgr
      go_wp2_with fail
      with_reducible refine (HMT.out _).mono ?_
      rintro e w2 ⟨rfl, hb2⟩
      have O2 := (own_of_row HA2.out hlo).below hb2 (Nat.le_refl _)
      have r2 := O2.row
      have G2 := HG2.out.trans (grown_of_below_at hb2)
      have A3 := r2.stored (k * 4 + 2) (.string (mtext (m + 2)))
      have A4 := A3.1.stored (k * 4 + 3) (.int .i64 ((m : Int) + 1 + 1 + 1))
      have G4 := G2.trans (A3.2.trans A4.2)
      have HV : Hid (((((rus l').set (k * 4) (.int .i64 (m : Int))).set (k * 4 + 1) (.int .i64 ((m : Int) + 1))).set (k * 4 + 2) (.string (mtext (m + 2)))).set (k * 4 + 3) (.int .i64 ((m : Int) + 1 + 1 + 1)) = rus (l'.set k (umark m))) := by
        show _ = _
        rw [rus_set l' k (umark m) (by rw [HL'.out]; exact hkl)]
        unfold umark
        rw [show (m : Int) + 1 + 1 + 1 = (m : Int) + 3 by omega]
      obtain ⟨x2, s2⟩ := cellAt_some r2 (k * 4 + 2) (by omega)
      obtain ⟨x3, s3⟩ := cellAt_some r2 (k * 4 + 3) (by omega)
      have f2 := r2.frozenAt (k * 4 + 2)
      have f3 := r2.frozenAt (k * 4 + 3)
      have H4 := Lib.hid A4.1
      rw [HV.out] at H4
      clear O2 r2 G2 hb2 A3 A4 HA2 HG2 s0 s1 f0 f1
      go_wp2
      go_roundw
      case rel => exact ⟨k + 1, l'.set k (umark m), by omega, ⟨by rw [List.length_set]; exact HL'.out, by rw [HV'.out]; exact umarks_set (by rw [HL.out]; exact hkl) HM.out⟩, by go_num, by have := HM.out; go_num, H4.out, G4⟩
      case measure => simp [intOf]; omega
    · obtain rfl : k = n := by omega
      have e : l' = umarks s k := by rw [HV'.out, List.drop_of_length_le (by rw [HL.out]; exact Nat.le_refl _), List.append_nil]
      rw [e] at hownr
      go_wp2
      go_ret
      exact ⟨rfl, ⟨_, _, rfl, hlo, hhi, hownr⟩, hgr⟩

set_option maxHeartbeats 1000000 in
theorem heldRunS (v : Value) (n : Nat) (s : Nat) (w : World) (h0 : 0 < s) (hs : s ≤ 1073741824) (hn : n ≤ 1073741824) (h : Rd 4 w v n (rus (umarks s n))) :
    Calls Try.prog 36 #[v, .int .i64 s] w fun e w' => e = .returned (.int .i64 (s + 4 * n : Nat)) ∧ Below w.heap.size w w' := by
  obtain ⟨a, cap, rfl, hm1, HC⟩ := h.runs (umarks_len s n)
  clear h hm1
  go_enter Try.func36, Try.ntmps36
  go_wp2
  go_loopw [1, 5] (fun q i wr => ∃ k : Nat, k ≤ n ∧ i = .int .i64 k ∧ q = .int .i64 (s + 4 * k : Nat) ∧ Below w.heap.size w wr) (fun _ i _ => n - (intOf i).toNat)
  case atStart => exact ⟨0, Nat.zero_le _, rfl, rfl, Below.refl _ _⟩
  case round =>
    obtain ⟨k, hk, rfl, rfl, hbr⟩ := hrel
    by_cases hkl : k < n
    · obtain ⟨b, off, rfl, r0, r1, r2, r3⟩ := HC.out k hkl wr hbr
      rw [umarks_get hkl] at r0 r1 r2 r3
      simp only [umark] at r0 r1 r2 r3
      generalize hm : s + 4 * k = m at r0 r1 r2 r3
      have HM := Lib.hid hm
      have hm2 : m ≤ 1099511627000 := by omega
      have hm0 : 0 < m := by omega
      clear hm
      have HK : Hid (∀ W, Below wr.drew.heap.size wr.drew W → W.cell? ⟨b, off + k * 4 + 2, none⟩ = some (.string (mtext (m + 2)))) := fun W h => (h.cell (p := ⟨b, off + k * 4 + 2, none⟩) (lt_of_cell r2)).trans r2
      have HK3 : Hid (∀ W, Below wr.drew.heap.size wr.drew W → W.cell? ⟨b, off + k * 4 + 3, none⟩ = some (.int .i64 ((m : Int) + 3))) := fun W h => (h.cell (p := ⟨b, off + k * 4 + 3, none⟩) (lt_of_cell r3)).trans r3
      have HMT : Hid (∀ W, Calls Try.prog 72 #[.int .i64 ((m : Int) + 1 + 1)] W fun e w' => e = .returned (.string (mtext (m + 2))) ∧ Below W.heap.size W w') := fun W => by
        rw [show (m : Int) + 1 + 1 = ((m + 2 : Nat) : Int) by omega]
        exact markText (m + 2) W (by omega) (by omega)
      generalize mtext (m + 2) = x at r2 HK HMT
      have hn0 : ((m : Int) != (m : Int)) = false := by simp
      have hn1 : ((m : Int) + 1 != (m : Int) + 1) = false := by simp
      have hn3 : ((m : Int) + 3 != (m : Int) + 1 + 1 + 1) = false := by simp; omega
      go_wp2
      go_region_held3 (fun W => W.cell? ⟨b, off + k * 4 + 2, none⟩ = some (.string x)) (first | exact r2 | exact HK.out _ hb2) ((go_at_call 72; (with_reducible refine (HMT.out _).mono ?_); rintro e w2 ⟨rfl, hb2⟩))
      have q3 := HK3.out _ hb2
      clear r0 r1 r2 r3
      go_wp2
      go_roundw
      case rel => exact ⟨k + 1, by omega, by go_num, by have := HM.out; go_num, below_then hbr.drew hb2 (by simpa using hbr.size)⟩
      case measure => simp [intOf]; omega
    · obtain rfl : k = n := by omega
      go_wp2
      go_ret
      exact ⟨rfl, hbr⟩

end Go.Proofs.Ytcnackecchjckaa
