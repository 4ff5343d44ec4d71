/- The contracts of impl's Runs, LongestRun. -/
import Derived.Test.YtcnackecchjckaaI6r
namespace Go.Proofs.Ytcnackecchjckaa
open Go.RowKit Go.Lib

set_option maxHeartbeats 1000000 in
theorem iRuns : CRuns := by
  intro u l w hn hss h
  have HJ := Lib.hid (fun g W lo hO => joined g l.length l W lo hn rfl hO)
  generalize hl : l.length = n at h hn HJ
  obtain ⟨a, cap, rfl, hm, HC⟩ := h.vals hl
  unfold maxLen at hm
  have HL := Lib.hid hl
  have HLM : Hid ((l.map fun v => (⟨v, 1⟩ : U)).length = n) := by
    show _ = _
    rw [List.length_map, hl]
  have HG : Hid (∀ k, k < n → (l.map fun v => (⟨v, 1⟩ : U)).getD k U.zero = ⟨l.getD k V.zero, 1⟩) := fun k hk => by
    have hk' : k < l.length := by omega
    simp [hk']
  generalize (l.map fun v => (⟨v, 1⟩ : U)) = m at HJ HLM HG
  clear h hl hss
  go_enter Try.func13, Try.ntmps13
  go_wp2_with (at_make; refine make_law Try.elemRunL rfl _ _ rfl .i64 .i64 _ _ n rfl rfl rfl rfl (by omega) (by unfold maxLen; omega) ?_)
  intro w1 hown1 hb1
  have hown0 : Own 36 4 w.heap.size w1.heap.size w1 (.slice (some ⟨w.heap.size, 0, none⟩) n n) n (rus (halfU m 0)) := by
    have e : rus (halfU m 0) = (madeCells U.zero.cs.toArray (n * 4)).toList := by
      rw [made_flat U.cs U.zero 4 n (by omega) (fun _ => rfl), ← HLM.out]
      simp [halfU, rus]
    rw [e]
    exact hown1
  clear hown1
  go_wp2
  go_loopw [11] (fun i wr => ∃ k : Nat, k ≤ n ∧ i = .int .i64 k ∧ Own 36 4 w.heap.size wr.heap.size wr (.slice (some ⟨w.heap.size, 0, none⟩) n n) n (rus (halfU m k)) ∧ Below w.heap.size w wr) (fun i _ => n - (intOf i).toNat)
  case atStart => exact ⟨0, Nat.zero_le _, rfl, hown0, hb1⟩
  case round =>
    obtain ⟨k, hk, rfl, hown, hbr⟩ := hrel
    by_cases hlt : k < n
    · obtain ⟨b, off, rfl, p0, p1, p2⟩ := HC.out k hlt
      replace p0 := (hbr.cell (p := ⟨b, off + k * 3, none⟩) (lt_of_cell p0)).trans p0
      replace p1 := (hbr.cell (p := ⟨b, off + k * 3 + 1, none⟩) (lt_of_cell p1)).trans p1
      replace p2 := (hbr.cell (p := ⟨b, off + k * 3 + 2, none⟩) (lt_of_cell p2)).trans p2
      have HST := Lib.hid (halfU_set (l := m) (k := k) (by rw [HLM.out]; exact hlt))
      have HHL := Lib.hid (halfU_len (l := m) (k := k) (by rw [HLM.out]; omega))
      rw [HG.out k hlt] at HST
      generalize l.getD k V.zero = x at p0 p1 p2 HST
      obtain ⟨t1, n1, s1⟩ := x
      simp only at p0 p1 p2
      have ba := below_alloc wr (.cells #[.int .i64 t1, .int .i64 n1, .string s1] 34)
      have bt := below_then hbr ba hbr.size
      have O1 := hown.alloc (.cells #[.int .i64 t1, .int .i64 n1, .string s1] 34)
      have r2 := O1.row
      have R := Lib.hid (stored4 r2 k ⟨⟨t1, n1, s1⟩, 1⟩ (by rw [HHL.out, HLM.out]; exact hlt))
      rw [HST.out] at R
      obtain ⟨x0, s0⟩ := cellAt_some r2 (k * 4) (by omega)
      obtain ⟨x1, s1'⟩ := cellAt_some r2 (k * 4 + 1) (by omega)
      obtain ⟨x2, s2⟩ := cellAt_some r2 (k * 4 + 2) (by omega)
      obtain ⟨x3, s3⟩ := cellAt_some r2 (k * 4 + 3) (by omega)
      have f0 := r2.frozenAt (k * 4)
      have f1 := r2.frozenAt (k * 4 + 1)
      have f2 := r2.frozenAt (k * 4 + 2)
      have f3 := r2.frozenAt (k * 4 + 3)
      simp only at R
      clear hown hbr O1 r2 ba
      go_wp2
      go_roundw
      case rel => exact ⟨k + 1, by omega, by go_num, ⟨_, _, rfl, Nat.le_refl _, (R.out.1.lt _ rfl).2, R.out.1⟩, bt.trans ⟨R.out.2.os, R.out.2.tape, R.out.2.output, R.out.2.size, fun j hj => R.out.2.block j (by have := bt.size; omega) (by simp; omega)⟩⟩
      case measure => simp [intOf]; omega
    · obtain rfl : k = n := by omega
      rw [← HLM.out, halfU_all, HLM.out] at hown
      have HJ2 := Lib.hid (HJ.out _ wr w.heap.size hown)
      go_wp2_with fail
      refine HJ2.out.mono ?_
      rintro e w2 ⟨v2, rfl, o2, b2⟩
      have O2 := Lib.hid o2
      have B2 := hbr.trans b2
      clear o2
      obtain ⟨g2, c2, rfl⟩ : ∃ g c, v2 = .slice (some ⟨g, 0, none⟩) (runsL l).length c := by
        obtain ⟨g, c, e, _⟩ := O2.out
        exact ⟨g, c, e⟩
      go_wp2
      go_ret
      exact ⟨_, rfl, O2.out, B2⟩

set_option maxHeartbeats 1000000 in
theorem iLongestRun : CLongestRun := by
  intro u l w hn hss h
  have HR := Lib.hid (iRuns u l w hn hss h)
  have HE : Hid (longL l = longK (runsL l)) := rfl
  have hrl : (runsL l).length ≤ 1048576 := Nat.le_trans (runsL_len l) hn
  obtain ⟨a, cap, rfl, _, _⟩ := h
  generalize runsL l = r at HR HE hrl
  rw [HE.out]
  clear HE hss
  generalize l.length = n at *
  go_enter Try.func17, Try.ntmps17
  go_wp2_with fail
  refine HR.out.mono ?_
  rintro e w1 ⟨v1, rfl, o1, b1⟩
  generalize hm : r.length = m at o1 hrl
  obtain ⟨a1, c1, rfl, _, HC⟩ := o1.rd.runs hm
  have HM := Lib.hid hm
  have HT : Hid (∀ k, k < m → longK (r.take (k + 1)) = if longK (r.take k) < (r.getD k U.zero).k then (r.getD k U.zero).k else longK (r.take k)) := fun k hk => by
    have hk' : k < r.length := by omega
    have e : r.getD k U.zero = r[k] := by simp [hk']
    rw [e, List.take_succ_eq_append_getElem hk', longK_snoc]
  clear hm HR o1
  go_wp2
  go_loopw [3, 9] (fun c i wr => ∃ k : Nat, k ≤ m ∧ i = .int .i64 k ∧ c = .int .i64 (longK (r.take k)) ∧ Below w1.heap.size w1 wr) (fun _ i _ => m - (intOf i).toNat)
  case atStart => exact ⟨0, Nat.zero_le _, rfl, rfl, Below.refl _ _⟩
  case round =>
    obtain ⟨k, hk, rfl, rfl, hbr⟩ := hrel
    by_cases hlt : k < m
    · obtain ⟨b, off, rfl, c0, c1, c2, c3⟩ := HC.out k hlt wr hbr
      have HTK := Lib.hid (HT.out k hlt)
      generalize r.getD k U.zero = x at c0 c1 c2 c3 HTK
      obtain ⟨⟨t1, n1, s1⟩, q⟩ := x
      simp only at c0 c1 c2 c3 HTK
      generalize longK (r.take k) = z at HTK
      by_cases hzq : z < q
      · rw [if_pos hzq] at HTK
        have hb1 := hbr.alloc hbr.size (.cells #[.int .i64 t1, .int .i64 n1, .string s1, .int .i64 q] 36)
        go_wp2
        go_roundw
        case rel => exact ⟨k + 1, by omega, by go_num, by rw [HTK.out], hb1⟩
        case measure => simp [intOf]; omega
      · rw [if_neg hzq] at HTK
        have hb1 := hbr.alloc hbr.size (.cells #[.int .i64 t1, .int .i64 n1, .string s1, .int .i64 q] 36)
        go_wp2
        go_roundw
        case rel => exact ⟨k + 1, by omega, by go_num, by rw [HTK.out], hb1⟩
        case measure => simp [intOf]; omega
    · obtain rfl : k = m := by omega
      rw [← HM.out, List.take_length, HM.out]
      go_wp2
      go_ret
      exact ⟨rfl, below_then b1 hbr b1.size⟩

end Go.Proofs.Ytcnackecchjckaa
