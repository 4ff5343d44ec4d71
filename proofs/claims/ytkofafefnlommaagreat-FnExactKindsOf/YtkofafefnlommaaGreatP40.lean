/- Texts of this claim, one behind the other: I13k, Ch13k. -/
import Derived.Test.YtkofafefnlommaaGreatP30
import Derived.Test.YtkofafefnlommaaGreatP36
import Derived.Test.YtkofafefnlommaaGreatP39
import Derived.Test.YtkofafefnlommaaGreatP17

/- The program's KindsOf (written by mk_S13k.py). -/
namespace Go.Proofs.YtkofafefnlommaaGreat
open Go.RowKit

set_option maxRecDepth 100000 in
set_option maxHeartbeats 800000 in
theorem iKindsOf : CKindsOf 17 := by
  intro u v zs ps ls w hz hu hss hn hli h hls
  subst hls
  have HRK := Lib.hid (fun W (hW : Below w.heap.size w W) => iRowsOk u v zs ps _ W hz (hu.below hW) hss hn hli (h.below hW) rfl)
  have HCL := Lib.hid (fun (k : Int) W (hW : Below w.heap.size w W) => iColumn v ps (ps.map (·.1)) k W hn hli (h.below hW) rfl)
  have HBK := Lib.hid (fun (k : Int) v' W (hv' : Rd 3 W v' (colR (ps.map (·.1)) k).length (vals (colR (ps.map (·.1)) k))) => iBestKind v' (colR (ps.map (·.1)) k) W (colR_len' hn k) (colR_size hss k) hv')
  have HKY := Lib.hid (kindsL_yes (zs := zs) (l := ps.map (·.1)))
  have HKN := Lib.hid (kindsL_no (zs := zs) (l := ps.map (·.1)))
  have HKL := Lib.hid (kindsK_len (ps.map (·.1)))
  obtain ⟨a1, c1, rfl, _⟩ := hu
  obtain ⟨⟨a2, c2, rfl, _⟩, _⟩ := h
  generalize hlm : (ps.map (·.1)).length = lm at HKY HKN
  rw [List.length_map] at hlm
  rw [hlm] at HRK HCL hn ⊢
  obtain ⟨q, hq⟩ : ∃ q, rowsOkL zs (ps.map (·.1)) = q := ⟨_, rfl⟩
  rw [hq] at HRK HKY HKN
  generalize kindsL zs (ps.map (·.1)) = KL at HKY HKN ⊢
  generalize hzn : zs.length = zn at hz HRK HKY ⊢
  have O1 := own_lit (e := 3) (size := 1) w #[] 0 (Nat.zero_le _) rfl
  have B1 := below_alloc w (.cells #[] 3)
  generalize hw1 : w.alloc (.cells #[] 3) = w1 at O1 B1
  have HW1 := Lib.hid hw1
  clear hw1 hss hli hlm hq hzn
  by_cases hm : 0 < lm
  rotate_left
  · have HR : Hid (KL = []) := HKN.out (.inr (by omega))
    have hm0 : lm = 0 := by omega
    subst hm0
    have HO := Lib.hid O1
    go_enter Tryz.func17, Tryz.ntmps17
    go_wp2
    rw [HW1.out]
    go_ret
    exact ⟨_, rfl, by rw [HR.out]; exact HO.out.wide (Nat.le_refl _), by first | exact B1 | (rw [← HW1.out]; exact below_alloc _ _)⟩
  have hmi : ((lm : Int) == 0) = false := by simp; omega
  cases q with
  | false =>
    have HR : Hid (KL = []) := HKN.out (.inl rfl)
    have HO := Lib.hid O1
    go_enter Tryz.func17, Tryz.ntmps17
    go_wp2_with fail
    rw [HW1.out]
    refine (HRK.out _ B1).mono ?_
    rintro e w2 ⟨rfl, b2⟩
    have B2 := below_then B1 b2 B1.size
    have O2 := Lib.hid ((HO.out.below b2 (Nat.le_refl _)).wide b2.size)
    clear b2 O1
    go_wp2
    go_ret
    exact ⟨_, rfl, by rw [HR.out]; exact O2.out, B2⟩
  | true =>
    go_enter Tryz.func17, Tryz.ntmps17
    go_wp2_with fail
    rw [HW1.out]
    refine (HRK.out _ B1).mono ?_
    rintro e w2 ⟨rfl, b2⟩
    have B2 := below_then B1 b2 B1.size
    have O2 := (O1.below b2 (Nat.le_refl _)).wide b2.size
    clear b2 O1 B1
    go_wp2
    go_loopw [5, 20] (fun o i wr => ∃ k : Nat, k ≤ zn ∧ i = .int .i64 k ∧ (∃ g cp, o = .slice (some ⟨g, 0, none⟩) k cp) ∧ Own 3 1 w.heap.size wr.heap.size wr o k (ints .i64 (kindsK (ps.map (·.1)) k)) ∧ Below w.heap.size w wr) (fun _ i _ => zn - (intOf i).toNat)
    case atStart => exact ⟨0, Nat.zero_le _, rfl, ⟨_, _, rfl⟩, by simpa [kindsK, ints] using O2, B2⟩
    case round =>
      obtain ⟨k, hk, rfl, ⟨og, oc, rfl⟩, hown, hbr⟩ := hrel
      clear O2 B2
      by_cases hlt : k < zn
      · have BX := Below.refl wr.heap.size wr
        have BB := hbr
        go_wp2_with fail
        refine (HCL.out (k : Nat) _ BB).mono ?_
        rintro e w2 ⟨v', rfl, ov, b2⟩
        have B2 := below_then BB b2 BB.size
        obtain ⟨z, hz⟩ : ∃ z, bestL (colR (ps.map (·.1)) (k : Nat)) = z := ⟨_, rfl⟩
        have HZ := Lib.hid hz
        have HBK2 := HBK.out (k : Nat) v' w2 ov.rd
        rw [hz] at HBK2
        have HBK3 := Lib.hid HBK2
        clear hz HBK2
        go_wp2_with fail
        refine HBK3.out.mono ?_
        rintro e w3 ⟨rfl, b3⟩
        clear HBK3
        have B3 := below_then B2 b3 B2.size
        have O3 := (hown.below (below_then BX b2 BX.size) (Nat.le_refl _)).below b3 (Nat.le_trans BX.size b2.size)
        clear b2 b3 ov B2
        go_wp2_with (at_builtin; refine append1_law Tryz.elemInts rfl _ _ rfl _ _ _ _ _ (.int .i64 z) rfl rfl O3 rfl (by unfold maxLen; omega) (by omega) ?_)
        intro v5 w5 o5 e5
        have HF : Hid (Own 3 1 w.heap.size w5.heap.size w5 v5 (k + 1) (ints .i64 (kindsK (ps.map (·.1)) (k + 1))) ∧ Below w.heap.size w w5) := by
          refine ⟨?_, B3.grown e5.grown B3.size (fun j hj => Nat.le_of_not_lt (fun hlt => by
            obtain ⟨g, cp, e, h1, _⟩ := O3
            rw [e] at hj
            simp [Value.ownBlock] at hj
            omega))⟩
          rw [kindsK_succ, HZ.out, ints_append]
          exact o5
        obtain ⟨vb, vc, hv5⟩ : ∃ g cp, v5 = .slice (some ⟨g, 0, none⟩) (k + 1) cp := by obtain ⟨g, cp, e, _⟩ := o5; exact ⟨g, cp, e⟩
        subst hv5
        clear o5 e5 O3 B3
        go_wp2
        go_roundw
        case rel => exact ⟨k + 1, by omega, by go_num, ⟨_, _, rfl⟩, HF.out.1, HF.out.2⟩
        case measure => simp [intOf]; omega
      · have HR : Hid (KL = kindsK (ps.map (·.1)) k) := by
          show _ = _
          have hkz : k = zn := by omega
          rw [HKY.out (by first | rfl | trivial) hm, ← hkz]
        have HO := Lib.hid hown
        clear hown
        go_wp2
        go_ret
        exact ⟨_, rfl, by rw [HR.out, HKL.out]; exact HO.out, hbr⟩

end Go.Proofs.YtkofafefnlommaaGreat

/- KindsOf's exact law, both sides at hand. -/
namespace Go.Proofs.YtkofafefnlommaaGreat
open Go.RowKit

end Go.Proofs.YtkofafefnlommaaGreat
