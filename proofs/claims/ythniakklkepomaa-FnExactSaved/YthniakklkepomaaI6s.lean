/- The contracts of impl's Runs, LongestRun. -/
import Derived.Test.YthniakklkepomaaI6r
namespace Go.Proofs.Ythniakklkepomaa
open Go.RowKit Go.Lib

set_option maxHeartbeats 1000000 in
theorem iRuns : CRuns := by
  intro u l w hn hss h
  have HJ := Lib.hid (fun g W lo hO => joined g l.length l W lo hn rfl hO)
  generalize hl : l.length = n at h hn HJ
  obtain ⟨a, cap, rfl, hm, HC⟩ := h.vals hl
  unfold maxLen at hm
  have HL := Lib.hid hl
  have HLM : Hid ((l.map fun v => (⟨v, 1⟩ : U)).length = n) := by
    show _ = _
    rw [List.length_map, hl]
  have HG : Hid (∀ k, k < n → (l.map fun v => (⟨v, 1⟩ : U)).getD k U.zero = ⟨l.getD k V.zero, 1⟩) := fun k hk => by
    have hk' : k < l.length := by omega
    simp [hk']
  generalize (l.map fun v => (⟨v, 1⟩ : U)) = m at HJ HLM HG
  clear h hl hss
  go_enter Try.func60, Try.ntmps60
  go_wp2_with (at_make; refine make_law Try.elemRunL rfl _ _ rfl .i64 .i64 _ _ n rfl rfl rfl rfl (by omega) (by unfold maxLen; omega) ?_)
  intro w1 hown1 hb1
  have hown0 : Own 57 4 w.heap.size w1.heap.size w1 (.slice (some ⟨w.heap.size, 0, none⟩) n n) n (rus (halfU m 0)) := by
    have e : rus (halfU m 0) = (madeCells U.zero.cs.toArray (n * 4)).toList := by
      rw [made_flat U.cs U.zero 4 n (by omega) (fun _ => rfl), ← HLM.out]
      simp [halfU, rus]
    rw [e]
    exact hown1
  clear hown1
  go_wp2
  go_loopw [11] (fun i wr => ∃ k : Nat, k ≤ n ∧ i = .int .i64 k ∧ Own 57 4 w.heap.size wr.heap.size wr (.slice (some ⟨w.heap.size, 0, none⟩) n n) n (rus (halfU m k)) ∧ Below w.heap.size w wr) (fun i _ => n - (intOf i).toNat)
  case atStart => exact ⟨0, Nat.zero_le _, rfl, hown0, hb1⟩
  case round =>
    obtain ⟨k, hk, rfl, hown, hbr⟩ := hrel
    by_cases hlt : k < n
    · obtain ⟨b, off, rfl, p0, p1, p2⟩ := HC.out k hlt
      replace p0 := (hbr.cell (p := ⟨b, off + k * 3, none⟩) (lt_of_cell p0)).trans p0
      replace p1 := (hbr.cell (p := ⟨b, off + k * 3 + 1, none⟩) (lt_of_cell p1)).trans p1
      replace p2 := (hbr.cell (p := ⟨b, off + k * 3 + 2, none⟩) (lt_of_cell p2)).trans p2
      have HST := Lib.hid (halfU_set (l := m) (k := k) (by rw [HLM.out]; exact hlt))
      have HHL := Lib.hid (halfU_len (l := m) (k := k) (by rw [HLM.out]; omega))
      rw [HG.out k hlt] at HST
      generalize l.getD k V.zero = x at p0 p1 p2 HST
      obtain ⟨t1, n1, s1⟩ := x
      simp only at p0 p1 p2
      have ba := below_alloc wr (.cells #[.int .i64 t1, .int .i64 n1, .string s1] 41)
      have bt := below_then hbr ba hbr.size
      have O1 := hown.alloc (.cells #[.int .i64 t1, .int .i64 n1, .string s1] 41)
      have r2 := O1.row
      have R := Lib.hid (stored4 r2 k ⟨⟨t1, n1, s1⟩, 1⟩ (by rw [HHL.out, HLM.out]; exact hlt))
      rw [HST.out] at R
      obtain ⟨x0, s0⟩ := cellAt_some r2 (k * 4) (by omega)
      obtain ⟨x1, s1'⟩ := cellAt_some r2 (k * 4 + 1) (by omega)
      obtain ⟨x2, s2⟩ := cellAt_some r2 (k * 4 + 2) (by omega)
      obtain ⟨x3, s3⟩ := cellAt_some r2 (k * 4 + 3) (by omega)
      have f0 := r2.frozenAt (k * 4)
      have f1 := r2.frozenAt (k * 4 + 1)
      have f2 := r2.frozenAt (k * 4 + 2)
      have f3 := r2.frozenAt (k * 4 + 3)
      simp only at R
      clear hown hbr O1 r2 ba
      go_wp2
      go_roundw
      case rel => exact ⟨k + 1, by omega, by go_num, ⟨_, _, rfl, Nat.le_refl _, (R.out.1.lt _ rfl).2, R.out.1⟩, bt.trans ⟨R.out.2.os, R.out.2.tape, R.out.2.output, R.out.2.size, fun j hj => R.out.2.block j (by have := bt.size; omega) (by simp; omega)⟩⟩
      case measure => simp [intOf]; omega
    · obtain rfl : k = n := by omega
      rw [← HLM.out, halfU_all, HLM.out] at hown
      have HJ2 := Lib.hid (HJ.out _ wr w.heap.size hown)
      go_wp2_with fail
      refine HJ2.out.mono ?_
      rintro e w2 ⟨v2, rfl, o2, b2⟩
      have O2 := Lib.hid o2
      have B2 := hbr.trans b2
      clear o2
      obtain ⟨g2, c2, rfl⟩ : ∃ g c, v2 = .slice (some ⟨g, 0, none⟩) (runsL l).length c := by
        obtain ⟨g, c, e, _⟩ := O2.out
        exact ⟨g, c, e⟩
      go_wp2
      go_ret
      exact ⟨_, rfl, O2.out, B2⟩

end Go.Proofs.Ythniakklkepomaa
