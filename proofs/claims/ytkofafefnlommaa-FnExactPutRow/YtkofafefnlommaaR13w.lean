/- markRowS and heldRowS over one Row more (written out of R12 by a hand's script). -/
import Derived.Test.YtkofafefnlommaaR12
namespace Go.Proofs.Ytkofafefnlommaa
open Go.RowKit

set_option maxHeartbeats 1000000 in
theorem markRowS0w (v : Value) (ps : List P) (lo hi s : Nat) (w : World) (h0 : 0 < s) (hs : s ≤ 67108864) (hn : ps.length ≤ 1048577) (hr : rlen ps ≤ 16777216) (ho : Own 27 2 lo hi w v ps.length (prs ps)) (hin : ∀ p ∈ ps, OwnV lo hi w p.2 p.1.l) (hnd : Apart (ps.map (·.2))) :
    Calls Try.prog 29 #[v, .int .i64 s] w fun e w' => e = .returned (.int .i64 (s + rlen ps : Nat)) ∧ (Own 27 2 lo hi w' v (rmarks s ps).length (prs (rmarks s ps)) ∧ ∀ p ∈ rmarks s ps, OwnV lo hi w' p.2 p.1.l) ∧ Within lo hi w w' := by
  generalize hl : ps.length = n at hn
  rw [hl] at ho
  obtain ⟨g, cap, rfl, hlo, hhi, hown⟩ := ho
  have HL := Lib.hid hl
  have HND := Lib.hid hnd
  have HRL : Hid (∀ k, rlen (ps.take k) ≤ 16777216) := fun k => Nat.le_trans (rlen_take_le ps k) hr
  have hin0 : ∀ j, j < n → OwnV lo hi w ((rhalf s ps 0).getD j P.zero).2 ((rhalf s ps 0).getD j P.zero).1.l := by
    have e : rhalf s ps 0 = ps := by simp [rhalf, rmarks]
    rw [e, ← hl]
    exact all_of_mem (q := fun p : P => OwnV lo hi w p.2 p.1.l) hin
  clear hl hnd hr hin
  go_enter Try.func29, Try.ntmps29
  go_wp2
  go_loopw [1, 5] (fun q i wr => ∃ k : Nat, k ≤ n ∧ i = .int .i64 k ∧ q = .int .i64 (s + rlen (ps.take k) : Nat) ∧ wr.ownsRow lo 27 2 (.slice (some ⟨g, 0, none⟩) n cap) n (prs (rhalf s ps k))
    ∧ (∀ j, j < n → OwnV lo hi wr ((rhalf s ps k).getD j P.zero).2 ((rhalf s ps k).getD j P.zero).1.l) ∧ Within lo hi w wr) (fun _ i _ => n - (intOf i).toNat)
  case atStart => exact ⟨0, Nat.zero_le _, rfl, by simp [rlen], by simpa [rhalf, rmarks] using hown, hin0, Within.refl _ _ _⟩
  case round =>
    obtain ⟨k, hk, rfl, rfl, hownr, hir, hwr⟩ := hrel
    by_cases hkl : k < n
    · have hkp : k < ps.length := by rw [HL.out]; exact hkl
      have HST := Lib.hid (rhalf_set (s := s) hkp)
      have HTK := Lib.hid (rlen_take_succ hkp)
      have hr1 := HRL.out k
      have hr2 := HRL.out (k + 1)
      have HLN : Hid ((rhalf s ps k).length = n) := rhalf_len.trans HL.out
      have hik := hir k hkl
      have hc1 : wr.cell? ⟨g, k * 2 + 1, none⟩ = some (ps.getD k P.zero).2 := by
        rw [← rhalf_get (s := s) hkp]
        exact (hownr.cellAt (k * 2 + 1) (by omega)).trans (prs_sl (by rw [HLN.out]; exact hkl))
      have HNB : Hid (∀ j, j < n → j ≠ k → (ps.getD k P.zero).2.ownBlock = none ∨ (ps.getD k P.zero).2.ownBlock ≠ ((rhalf s ps k).getD j P.zero).2.ownBlock) := fun j hj hjk => by
        rw [← rhalf_get (s := s) hkp]
        exact apart_ne (by rw [rhalf_snd]; exact HND.out) (by rw [HLN.out]; exact hkl) (by rw [HLN.out]; exact hj) (fun e => hjk e.symm)
      have HGK := Lib.hid (rhalf_get (s := s) hkp)
      rw [HGK.out] at hik
      generalize ps.getD k P.zero = p at hik hc1 HST HTK HNB HGK
      obtain ⟨r, u⟩ := p
      simp only at hik hc1 HST HTK HNB
      have hb0 := OwnV.block_ne (own_of_row hownr hlo) hik
      have A1 := hownr.stored (k * 2) (.int .i64 (s + rlen (ps.take k) : Nat))
      obtain ⟨x0, s0⟩ := cellAt_some hownr (k * 2) (by omega)
      have f0 := hownr.frozenAt (k * 2)
      have hik1 := hik.other A1.2 (.inr (fun e => hb0 e))
      have HMV : Hid (Calls Try.prog 57 #[u, .int .i64 (((s + rlen (ps.take k) : Nat) : Int) + 1)] (wr.setCell ⟨g, k * 2, none⟩ (.int .i64 (s + rlen (ps.take k) : Nat))) fun e w' => e = .returned (.int .i64 (s + rlen (ps.take k) + 1 + 3 * r.l.length : Nat)) ∧ OwnV lo hi w' u (vmarks (s + rlen (ps.take k) + 1) r.l.length) ∧ (wr.setCell ⟨g, k * 2, none⟩ (.int .i64 (s + rlen (ps.take k) : Nat))).grownBy w' u.ownBlock) := by
        have := markValV u lo hi r.l (s + rlen (ps.take k) + 1) (wr.setCell ⟨g, k * 2, none⟩ (.int .i64 (s + rlen (ps.take k) : Nat))) (by omega) (by omega) (by rw [HTK.out] at hr2; omega) hik1
        rw [show (((s + rlen (ps.take k) : Nat) : Int) + 1) = ((s + rlen (ps.take k) + 1 : Nat) : Int) by omega]
        exact this
      have HA := Lib.hid A1
      have HI := Lib.hid hir
      have HO := Lib.hid hownr
      have HLEN : Hid (r.l.length ≤ 16777216) := by show r.l.length ≤ 16777216; rw [HTK.out] at hr2; omega
      clear A1 hir hik hik1 hownr hr2
      generalize hm : s + rlen (ps.take k) = m at *
      have HM := Lib.hid hm
      have hm2 : m ≤ 1099511627 := by omega
      clear hm hr1
      go_wp2_with fail
      refine HMV.out.mono ?_
      rintro e w2 ⟨rfl, om, gm⟩
      have hlen := HLEN.out
      have HOM := Lib.hid om
      have HGM := Lib.hid gm
      clear om gm s0 f0 hc1 HMV
      go_wp2
      go_roundw
      case rel =>
        refine ⟨k + 1, by omega, by go_num, by rw [HTK.out]; have := HM.out; go_num, ?_, fun j hj => ?_, ?_⟩
        · rw [← HST.out, prs_set_id (by rw [HLN.out]; exact hkl) (by rw [HGK.out])]
          exact ((own_of_row HA.out.1 hlo).other HGM.out (fun e => hb0 e.symm)).row
        · rw [← HST.out]
          by_cases hjk : j = k
          · subst hjk
            rw [getD_set_eq (by rw [HLN.out]; exact hkl)]
            exact HOM.out
          · rw [getD_set_ne (fun e => hjk e.symm)]
            have o1 := HI.out j hj
            have b1 := OwnV.block_ne (own_of_row HO.out hlo) o1
            exact (o1.other HA.out.2 (.inr (fun e => b1 e))).other HGM.out (HNB.out j hj hjk)
        · refine (hwr.trans (Within.of_grown HA.out.2 (fun x hx => ?_))).trans (Within.of_grown HGM.out (fun x hx => ?_))
          · simp only [Option.some.injEq] at hx
            omega
          · exact HOM.out.in_ hx
      case measure => simp [intOf]; omega
    · obtain rfl : k = n := by omega
      have e : rhalf s ps k = rmarks s ps := by
        unfold rhalf
        rw [← HL.out, List.take_length, List.drop_length, List.append_nil]
      rw [e] at hownr hir
      have HZ : Hid (rlen (ps.take k) = rlen ps) := by
        show rlen (ps.take k) = rlen ps
        rw [← HL.out, List.take_length]
      have HI : Hid (∀ p ∈ rmarks s ps, OwnV lo hi wr p.2 p.1.l) := mem_of_all (d := P.zero) (q := fun p : P => OwnV lo hi wr p.2 p.1.l) (fun j hj => hir j (by rw [rmarks_len, HL.out] at hj; exact hj))
      rw [HZ.out]
      clear hir
      go_wp2
      go_ret
      refine ⟨rfl, ⟨?_, HI.out⟩, hwr⟩
      rw [rmarks_len, HL.out]
      exact ⟨_, _, rfl, hlo, hhi, hownr⟩

theorem markRowsW (v : Value) (ps : List P) (lo hi s : Nat) (w : World) (h0 : 0 < s) (hs : s ≤ 67108864) (hn : ps.length ≤ 1048577) (hr : rlen ps ≤ 16777216) (h : MyRs lo hi w v ps) :
    Calls Try.prog 29 #[v, .int .i64 s] w fun e w' => e = .returned (.int .i64 (s + rlen ps : Nat)) ∧ MyRs lo hi w' v (rmarks s ps) ∧ Within lo hi w w' := by
  obtain ⟨ho, hin, hnd⟩ := h
  rcases ho with ⟨rfl, hl, _⟩ | ho
  · have hp : ps = [] := List.length_eq_zero_iff.1 hl
    subst hp
    go_enter Try.func29, Try.ntmps29
    go_wp2
    go_loopw [1, 5] (fun q i wr => i = .int .i64 0 ∧ q = .int .i64 (s : Nat) ∧ wr = w) (fun _ i _ => 0)
    case atStart => exact ⟨rfl, rfl, rfl⟩
    case round =>
      obtain ⟨rfl, rfl, rfl⟩ := hrel
      go_wp2
      go_ret
      exact ⟨rfl, myRs_nil _ _ _, Within.refl _ _ _⟩
  · refine (markRowS0w v ps lo hi s w h0 hs hn hr ho hin hnd).mono ?_
    rintro e w' ⟨rfl, ⟨h1, h2⟩, h3⟩
    exact ⟨rfl, ⟨.inr h1, h2, by rw [rmarks_snd]; exact hnd⟩, h3⟩

set_option maxHeartbeats 1000000 in
theorem heldRowSw (v : Value) (ps : List P) (s : Nat) (w : World) (h0 : 0 < s) (hs : s ≤ 1048576) (hn : ps.length ≤ 1048577) (hr : rlen ps ≤ 16777216) (h : RdRs w v (rmarks s ps)) :
    Calls Try.prog 33 #[v, .int .i64 s] w fun e w' => e = .returned (.int .i64 (s + rlen ps : Nat)) ∧ Below w.heap.size w w' := by
  generalize hl : ps.length = n at hn
  obtain ⟨a, cap, rfl, _, HC⟩ := h.walk ((rmarks_len s ps).trans hl)
  have HG : Hid (∀ k, k < n → ((rmarks s ps).getD k P.zero).1 = ⟨(s + rlen (ps.take k) : Nat), vmarks (s + rlen (ps.take k) + 1) (ps.getD k P.zero).1.l.length⟩ ∧ rlen (ps.take (k + 1)) = rlen (ps.take k) + (1 + 3 * (ps.getD k P.zero).1.l.length)) := fun k hk => ⟨rmarks_get (by omega), rlen_take_succ (by omega)⟩
  have HRL : Hid (∀ k, rlen (ps.take k) ≤ 16777216) := fun k => Nat.le_trans (rlen_take_le ps k) hr
  have HZ : Hid (rlen (ps.take n) = rlen ps) := by
    show _ = _
    rw [← hl, List.take_length]
  clear h hl hr
  go_enter Try.func33, Try.ntmps33
  go_wp2
  go_loopw [1, 5] (fun q i wr => ∃ k : Nat, k ≤ n ∧ i = .int .i64 k ∧ q = .int .i64 (s + rlen (ps.take k) : Nat) ∧ Below w.heap.size w wr) (fun _ i _ => n - (intOf i).toNat)
  case atStart => exact ⟨0, Nat.zero_le _, rfl, by simp [rlen], Below.refl _ _⟩
  case round =>
    obtain ⟨k, hk, rfl, rfl, hbr⟩ := hrel
    by_cases hkl : k < n
    · obtain ⟨b, off, rfl, c0, c1, c2⟩ := HC.out k hkl wr hbr
      obtain ⟨hg1, hg2⟩ := HG.out k hkl
      have hr1 := HRL.out (k + 1)
      rw [hg1] at c0 c2
      rw [hg2] at hr1
      have HG2 := Lib.hid hg2
      generalize ((rmarks s ps).getD k P.zero).2 = u at c1 c2
      generalize (ps.getD k P.zero).1.l.length = q at c0 c2 hr1 HG2
      generalize hm : s + rlen (ps.take k) = m at c0 c2
      have HM := Lib.hid hm
      have hm2 : m ≤ 1099511627 := by omega
      have HV : Hid (Calls Try.prog 58 #[u, .int .i64 ((m : Int) + 1)] wr fun e w' => e = .returned (.int .i64 (m + 1 + 3 * q : Nat)) ∧ Below wr.heap.size wr w') := by
        have e : Rd 3 wr u q (vals (vmarks (m + 1) q)) := by
          have c3 : Rd 3 wr u (vmarks (m + 1) q).length (vals (vmarks (m + 1) q)) := c2
          rw [vmarks_len] at c3
          exact c3
        have := heldValS u q (m + 1) wr (by omega) (by omega) (by omega) e
        rw [show ((m : Int) + 1) = ((m + 1 : Nat) : Int) by omega]
        exact this
      have hmm : ((m : Int) != (m : Int)) = false := by simp
      have hmq : m + 1 + 3 * q ≤ 1099511627776 := by omega
      clear hg1 hg2 hm c2 hr1
      go_wp2_with fail
      refine HV.out.mono ?_
      rintro e w2 ⟨rfl, hb2⟩
      clear HV
      go_wp2
      go_roundw
      case rel => exact ⟨k + 1, by omega, by go_num, by rw [HG2.out]; have := HM.out; go_num, below_then hbr hb2 hbr.size⟩
      case measure => simp [intOf]; omega
    · obtain rfl : k = n := by omega
      rw [HZ.out]
      go_wp2
      go_ret
      exact ⟨rfl, hbr⟩

end Go.Proofs.Ytkofafefnlommaa
