/- Texts of this claim, one behind the other: C13k, Law13k, S13k, C13g, Law13g, S13g. -/
import Derived.Test.YtkofafefnlommaaGreatP21
import Derived.Test.YtkofafefnlommaaGreatP27
import Derived.Test.YtkofafefnlommaaGreatP2
import Derived.Test.YtkofafefnlommaaGreatP4
import Derived.Test.YtkofafefnlommaaGreatP5

/- Chapter 13: the contract of KindsOf, for either side (written by mk_S13k.py). -/
namespace Go.Proofs.YtkofafefnlommaaGreat
open Go.RowKit

def CKindsOf (f : Nat) : Prop := ∀ (u v : Value) (zs : List Int) (ps : List P) (ls : List R) (w : World), zs.length ≤ 1048576 → Rd 1 w u zs.length (ints .i64 zs) → (∀ p ∈ ps, ∀ v ∈ p.1.l, v.s.size ≤ maxLen) → ps.length ≤ 1048576 → (∀ p ∈ ps, p.1.l.length ≤ 1048576) → RdRs w v ps → ps.map (·.1) = ls →
  Calls Tryz.prog f #[u, v] w fun e w' => ∃ v', e = .returned v' ∧ Own 3 1 w.heap.size w'.heap.size w' v' (kindsL zs ls).length (ints .i64 (kindsL zs ls)) ∧ Below w.heap.size w w'

theorem colR_size {ps : List P} (h : ∀ p ∈ ps, ∀ v ∈ p.1.l, v.s.size ≤ maxLen) (k : Int) : ∀ v ∈ colR (ps.map (·.1)) k, v.s.size ≤ maxLen := by
  intro v hv
  unfold colR at hv
  obtain ⟨r, hr, hv⟩ := List.mem_filterMap.1 hv
  obtain ⟨p, hp, rfl⟩ := List.mem_map.1 hr
  split at hv
  · exact h p hp v (List.mem_of_getElem? hv)
  · cases hv
theorem colR_len' {ps : List P} {N : Nat} (h : ps.length ≤ N) (k : Int) : (colR (ps.map (·.1)) k).length ≤ N := Nat.le_trans (colR_le _ _) (by rw [List.length_map]; exact h)

end Go.Proofs.YtkofafefnlommaaGreat

/- The exact law of KindsOf, walked; the contracts of both sides come as hypotheses (written by mk_Law13.py). -/
namespace Go.Proofs.YtkofafefnlommaaGreat
open Go.RowKit

set_option maxRecDepth 100000 in
set_option maxHeartbeats 4000000 in
theorem lawKindsOf (hs : CKindsOf 18) (hi : CKindsOf 17) (a : Option Addr) (len cap : Nat) (zs : List Int) (b : Option Addr) (lenb capb : Nat) (pa : List P) (w : World) (hl : len ≤ maxLen) (ha : Arg .i64 w a len zs) (hsa : ∀ p ∈ pa, ∀ v ∈ p.1.l, v.s.size ≤ maxLen) (hB : RdRs w (.slice b lenb capb) pa) :
    Calls Tryz.prog 7 #[.slice a len cap, .slice b lenb capb] w fun e w' => e = .returned (.bool true) ∧ Below w.heap.size w w' := by
  have HSA := Lib.hid hsa
  clear hsa
  unfold CKindsOf at hs hi
  have HZ := Lib.hid ha.1
  unfold maxLen at hl
  by_cases hbig : 1048576 < len
  · go_enter Tryz.func7, Tryz.ntmps7
    go_wp2
    go_ret
    exact ⟨rfl, Below.refl _ _⟩
  have bt := Below.refl w.heap.size w
  go_enter Tryz.func7, Tryz.ntmps7
  go_wp2_with fail
  refine (szRowS (.slice b lenb capb) pa 1048576 w (by omega) (by omega) HSA.out (hB.below bt)).mono ?_
  rintro e w1 ⟨r2, rfl, hr2, hb⟩
  have z1 := hb.size
  replace bt := below_then bt hb (by omega)
  clear hb
  by_cases hn2 : r2 < 0
  · clear hr2
    go_wp2
    go_ret
    exact ⟨rfl, bt⟩
  have hka : (pa.length : Int) + bulkR pa ≤ 1048576 := by omega
  clear hr2
  have hma : pa.length ≤ 1048576 := by omega
  have HIa : Hid (∀ p ∈ pa, p.1.l.length ≤ 1048576) := fun p hp => by
    have := bulkR_mem hp
    omega
  have HRN : Hid (rlen pa ≤ 16777216) := by
    show _ ≤ _
    have := rlen_le pa
    omega
  clear hka
  have hkl : (kindsL zs (pa.map (·.1))).length ≤ 1048576 := Nat.le_trans (kindsL_len _ _) (by rw [HZ.out]; omega)
  generalize hK : (kindsL zs (pa.map (·.1))) = K at hkl
  have HK := Lib.hid hK
  clear hK
  generalize hn : K.length = n at hkl
  have HN := Lib.hid hn
  clear hn
  go_wp2_with fail
  refine (toIntS a len cap zs w1 (by omega) (ha.below bt)).mono ?_
  rintro e w2 ⟨t1, rfl, o1, hb⟩
  have z2 := hb.size
  replace bt := below_then bt hb (by omega)
  clear hb
  go_wp2_with fail
  refine (toRowS (.slice b lenb capb) pa w2 hma HIa.out (hB.below bt)).mono ?_
  rintro e w3 ⟨t2, q2, rfl, e0, o0, hb⟩
  have z3 := hb.size
  replace o1 := o1.below hb (by omega)
  replace bt := below_then bt hb (by omega)
  clear hb
  have o2 := o0.my
  have Hq2 := Lib.hid e0
  clear o0 e0
  go_wp2_with fail
  refine (hs t1 t2 zs q2 (pa.map (·.1)) w3 (by rw [HZ.out]; omega) (by rw [HZ.out]; exact o1.rd) (rows_small Hq2.out HSA.out) (by rw [len_fst Hq2.out]; exact hma) (small_fst Hq2.out HIa.out) o2.rd Hq2.out).mono ?_
  rintro e w4 ⟨v0, rfl, ov, hb⟩
  have z4 := hb.size
  replace o1 := o1.below hb (by omega)
  replace o2 := o2.below hb (by omega)
  replace bt := below_then bt hb (by omega)
  clear hb
  rw [HK.out, HN.out] at ov
  clear o1 o2
  go_wp2_with fail
  refine (toIntS a len cap zs w4 (by omega) (ha.below bt)).mono ?_
  rintro e w5 ⟨x0, rfl, ox, hb⟩
  have z5 := hb.size
  replace ov := ov.below hb (by omega)
  replace bt := below_then bt hb (by omega)
  clear hb
  go_wp2_with fail
  refine (toRowS (.slice b lenb capb) pa w5 hma HIa.out (hB.below bt)).mono ?_
  rintro e w6 ⟨x1, qx, rfl, e0, o0, hb⟩
  have z6 := hb.size
  replace ov := ov.below hb (by omega)
  replace ox := ox.below hb (by omega)
  replace bt := below_then bt hb (by omega)
  clear hb
  have oy := o0.my
  have Hqx := Lib.hid e0
  clear o0 e0
  go_wp2_with fail
  refine (hi x0 x1 zs qx (pa.map (·.1)) w6 (by rw [HZ.out]; omega) (by rw [HZ.out]; exact ox.rd) (rows_small Hqx.out HSA.out) (by rw [len_fst Hqx.out]; exact hma) (small_fst Hqx.out HIa.out) oy.rd Hqx.out).mono ?_
  rintro e w7 ⟨g0, rfl, og, hb⟩
  have z7 := hb.size
  replace ov := ov.below hb (by omega)
  replace ox := ox.below hb (by omega)
  replace oy := oy.below hb (by omega)
  replace bt := below_then bt hb (by omega)
  clear hb
  rw [HK.out, HN.out] at og
  go_wp2_with fail
  refine (eqIntS g0 v0 n K w7 HN.out og.at ov.at).mono ?_
  rintro e w8 ⟨rfl, hb⟩
  have z8 := hb.size
  replace ov := ov.below hb (by omega)
  replace ox := ox.below hb (by omega)
  replace oy := oy.below hb (by omega)
  replace og := og.below hb (by omega)
  replace bt := below_then bt hb (by omega)
  clear hb
  go_wp2_with fail
  refine (toIntS a len cap zs w8 (by omega) (ha.below bt)).mono ?_
  rintro e w9 ⟨t3, rfl, o3, hb⟩
  have z9 := hb.size
  replace ov := ov.below hb (by omega)
  replace ox := ox.below hb (by omega)
  replace oy := oy.below hb (by omega)
  replace og := og.below hb (by omega)
  replace bt := below_then bt hb (by omega)
  clear hb
  go_wp2_with fail
  refine (eqIntS x0 t3 len zs w9 HZ.out ox.at o3.at).mono ?_
  rintro e w10 ⟨rfl, hb⟩
  have z10 := hb.size
  replace ov := ov.below hb (by omega)
  replace ox := ox.below hb (by omega)
  replace oy := oy.below hb (by omega)
  replace og := og.below hb (by omega)
  replace o3 := o3.below hb (by omega)
  replace bt := below_then bt hb (by omega)
  clear hb
  clear o3
  go_wp2_with fail
  refine (toRowS (.slice b lenb capb) pa w10 hma HIa.out (hB.below bt)).mono ?_
  rintro e w11 ⟨t4, q4, rfl, e0, o0, hb⟩
  have z11 := hb.size
  replace ov := ov.below hb (by omega)
  replace ox := ox.below hb (by omega)
  replace oy := oy.below hb (by omega)
  replace og := og.below hb (by omega)
  replace bt := below_then bt hb (by omega)
  clear hb
  have o4 := o0.my
  have Hq4 := Lib.hid e0
  clear o0 e0
  go_wp2_with fail
  refine (eqRowS x1 t4 qx q4 w11 (Hq4.out.trans Hqx.out.symm) oy.rd o4.rd).mono ?_
  rintro e w12 ⟨rfl, hb⟩
  have z12 := hb.size
  replace ov := ov.below hb (by omega)
  replace ox := ox.below hb (by omega)
  replace oy := oy.below hb (by omega)
  replace og := og.below hb (by omega)
  replace o4 := o4.below hb (by omega)
  replace bt := below_then bt hb (by omega)
  clear hb
  clear o4
  go_wp2_with fail
  refine (markIntsN x0 len _ _ _ 1 w12 (by omega) (by omega) ox).mono ?_
  rintro e w13 ⟨rfl, _, hg⟩
  have z13 := hg.2.2.2.1
  replace ov := ov.within hg (by omega)
  replace oy := oy.within hg (by omega)
  replace og := og.within hg (by omega)
  replace bt := bt.trans (hg.below (by omega) (by omega))
  clear hg
  clear ox
  have HK1 : Hid (0 < 1 + len ∧ 1 + len ≤ 1048577) := by constructor <;> omega
  generalize 1 + len = k1 at HK1
  obtain ⟨hk0, hk2⟩ := HK1.out
  go_wp2_with fail
  refine (markRowsM x1 qx _ _ k1 w13 hk0 (by omega) (by rw [len_fst Hqx.out]; exact hma) (by rw [rlen_fst Hqx.out]; exact HRN.out) oy).mono ?_
  rintro e w14 ⟨rfl, _, hg⟩
  have z14 := hg.2.2.2.1
  replace ov := ov.within hg (by omega)
  replace og := og.within hg (by omega)
  replace bt := bt.trans (hg.below (by omega) (by omega))
  clear hg
  clear oy
  generalize k1 + rlen qx = k3
  go_wp2_with fail
  refine (eqIntS g0 v0 n K w14 HN.out og.at ov.at).mono ?_
  rintro e w15 ⟨rfl, hb⟩
  have z15 := hb.size
  replace ov := ov.below hb (by omega)
  replace og := og.below hb (by omega)
  replace bt := below_then bt hb (by omega)
  clear hb
  go_wp2_with fail
  refine (markIntsN g0 n _ _ _ 1 w15 (by omega) (by omega) og).mono ?_
  rintro e w16 ⟨rfl, on, hg⟩
  have z16 := hg.2.2.2.1
  replace ov := ov.within hg (by omega)
  replace bt := bt.trans (hg.below (by omega) (by omega))
  clear hg
  clear og
  have og := on
  clear on
  go_wp2_with fail
  refine (heldIntsN g0 n 1 w16 (by omega) (by omega) og.at).mono ?_
  rintro e w17 ⟨rfl, hb⟩
  have z17 := hb.size
  replace ov := ov.below hb (by omega)
  replace og := og.below hb (by omega)
  replace bt := below_then bt hb (by omega)
  clear hb
  have HNE : ((1 + n : Nat) : Int) ≥ 0 := by omega
  go_wp2_with fail
  refine (toIntS a len cap zs w17 (by omega) (ha.below bt)).mono ?_
  rintro e w18 ⟨t5, rfl, o5, hb⟩
  have z18 := hb.size
  replace ov := ov.below hb (by omega)
  replace og := og.below hb (by omega)
  replace bt := below_then bt hb (by omega)
  clear hb
  go_wp2_with fail
  refine (toRowS (.slice b lenb capb) pa w18 hma HIa.out (hB.below bt)).mono ?_
  rintro e w19 ⟨t6, q6, rfl, e0, o0, hb⟩
  have z19 := hb.size
  replace ov := ov.below hb (by omega)
  replace og := og.below hb (by omega)
  replace o5 := o5.below hb (by omega)
  replace bt := below_then bt hb (by omega)
  clear hb
  have o6 := o0.my
  have Hq6 := Lib.hid e0
  clear o0 e0
  go_wp2_with fail
  refine (hi t5 t6 zs q6 (pa.map (·.1)) w19 (by rw [HZ.out]; omega) (by rw [HZ.out]; exact o5.rd) (rows_small Hq6.out HSA.out) (by rw [len_fst Hq6.out]; exact hma) (small_fst Hq6.out HIa.out) o6.rd Hq6.out).mono ?_
  rintro e w20 ⟨h0, rfl, oh, hb⟩
  have z20 := hb.size
  replace ov := ov.below hb (by omega)
  replace og := og.below hb (by omega)
  replace o5 := o5.below hb (by omega)
  replace o6 := o6.below hb (by omega)
  replace bt := below_then bt hb (by omega)
  clear hb
  rw [HK.out, HN.out] at oh
  clear o5 o6
  go_wp2_with fail
  refine (eqIntS h0 v0 n K w20 HN.out oh.at ov.at).mono ?_
  rintro e w21 ⟨rfl, hb⟩
  have z21 := hb.size
  replace ov := ov.below hb (by omega)
  replace og := og.below hb (by omega)
  replace oh := oh.below hb (by omega)
  replace bt := below_then bt hb (by omega)
  clear hb
  go_wp2_with fail
  refine (heldIntsN g0 n 1 w21 (by omega) (by omega) og.at).mono ?_
  rintro e w22 ⟨rfl, hb⟩
  have z22 := hb.size
  replace ov := ov.below hb (by omega)
  replace og := og.below hb (by omega)
  replace oh := oh.below hb (by omega)
  replace bt := below_then bt hb (by omega)
  clear hb
  go_wp2
  go_ret
  exact ⟨rfl, bt⟩

end Go.Proofs.YtkofafefnlommaaGreat

/- The model's KindsOf (written by mk_S13k.py). -/
namespace Go.Proofs.YtkofafefnlommaaGreat
open Go.RowKit

set_option maxRecDepth 100000 in
set_option maxHeartbeats 800000 in
theorem sKindsOf : CKindsOf 18 := by
  intro u v zs ps ls w hz hu hss hn hli h hls
  subst hls
  have HRK := Lib.hid (fun W (hW : Below w.heap.size w W) => sRowsOk u v zs ps _ W hz (hu.below hW) hss hn hli (h.below hW) rfl)
  have HCL := Lib.hid (fun (k : Int) W (hW : Below w.heap.size w W) => sColumn v ps k W hn (h.below hW))
  have HBK := Lib.hid (fun (k : Int) v' W (hv' : Rd 3 W v' (colR (ps.map (·.1)) k).length (vals (colR (ps.map (·.1)) k))) => sBestKind v' (colR (ps.map (·.1)) k) W (colR_len' hn k) (colR_size hss k) hv')
  have HKY := Lib.hid (kindsL_yes (zs := zs) (l := ps.map (·.1)))
  have HKN := Lib.hid (kindsL_no (zs := zs) (l := ps.map (·.1)))
  have HKL := Lib.hid (kindsK_len (ps.map (·.1)))
  obtain ⟨a1, c1, rfl, _⟩ := hu
  obtain ⟨⟨a2, c2, rfl, _⟩, _⟩ := h
  generalize hlm : (ps.map (·.1)).length = lm at HKY HKN
  rw [List.length_map] at hlm
  rw [hlm] at HRK HCL hn ⊢
  obtain ⟨q, hq⟩ : ∃ q, rowsOkL zs (ps.map (·.1)) = q := ⟨_, rfl⟩
  rw [hq] at HRK HKY HKN
  generalize kindsL zs (ps.map (·.1)) = KL at HKY HKN ⊢
  generalize hzn : zs.length = zn at hz HRK HKY ⊢
  have O1 := own_lit (e := 3) (size := 1) w #[] 0 (Nat.zero_le _) rfl
  have B1 := below_alloc w (.cells #[] 3)
  generalize hw1 : w.alloc (.cells #[] 3) = w1 at O1 B1
  have HW1 := Lib.hid hw1
  clear hw1 hss hli hlm hq hzn
  go_enter Tryz.func18, Tryz.ntmps18
  go_wp2
  rw [HW1.out]
  go_loopw [5, 6] (fun o i wr => ∃ k : Nat, k ≤ zn ∧ i = .int .i64 k ∧ (∃ g cp, o = .slice (some ⟨g, 0, none⟩) k cp) ∧ (k = 0 ∨ (q = true ∧ 0 < lm)) ∧ Own 3 1 w.heap.size wr.heap.size wr o k (ints .i64 (kindsK (ps.map (·.1)) k)) ∧ Below w.heap.size w wr) (fun _ i _ => zn - (intOf i).toNat)
  case atStart => exact ⟨0, Nat.zero_le _, rfl, ⟨_, _, rfl⟩, .inl rfl, by simpa [kindsK, ints] using O1, B1⟩
  case round =>
    obtain ⟨k, hk, rfl, ⟨og, oc, rfl⟩, hact, hown, hbr⟩ := hrel
    have HACT := Lib.hid hact
    clear hact O1 B1
    by_cases hlt : k < zn
    · cases q with
      | false =>
        have hk0 : k = 0 := by rcases HACT.out with h | h; exact h; cases h.1
        have HR : Hid (KL = []) := HKN.out (.inl rfl)
        subst hk0
        have HO := Lib.hid hown
        go_wp2_with fail
        refine (HRK.out _ hbr).mono ?_
        rintro e w2 ⟨rfl, b2⟩
        have B2 := below_then hbr b2 hbr.size
        have O2 := Lib.hid ((HO.out.below b2 (Nat.le_refl _)).wide b2.size)
        clear b2 hown
        go_wp2
        go_ret
        exact ⟨_, rfl, by rw [HR.out]; exact O2.out, B2⟩
      | true =>
        by_cases hm : 0 < lm
        · go_wp2_with fail
          refine (HRK.out _ hbr).mono ?_
          rintro e w1 ⟨rfl, BX⟩
          have BB := below_then hbr BX hbr.size
          go_wp2_with fail
          refine (HCL.out (k : Nat) _ BB).mono ?_
          rintro e w2 ⟨v', rfl, ov, b2⟩
          have B2 := below_then BB b2 BB.size
          obtain ⟨z, hz⟩ : ∃ z, bestL (colR (ps.map (·.1)) (k : Nat)) = z := ⟨_, rfl⟩
          have HZ := Lib.hid hz
          have HBK2 := HBK.out (k : Nat) v' w2 ov.rd
          rw [hz] at HBK2
          have HBK3 := Lib.hid HBK2
          clear hz HBK2
          go_wp2_with fail
          refine HBK3.out.mono ?_
          rintro e w3 ⟨rfl, b3⟩
          clear HBK3
          have B3 := below_then B2 b3 B2.size
          have O3 := (hown.below (below_then BX b2 BX.size) (Nat.le_refl _)).below b3 (Nat.le_trans BX.size b2.size)
          clear b2 b3 ov B2
          go_wp2_with (at_builtin; refine append1_law Tryz.elemInts rfl _ _ rfl _ _ _ _ _ (.int .i64 z) rfl rfl O3 rfl (by unfold maxLen; omega) (by omega) ?_)
          intro v5 w5 o5 e5
          have HF : Hid (Own 3 1 w.heap.size w5.heap.size w5 v5 (k + 1) (ints .i64 (kindsK (ps.map (·.1)) (k + 1))) ∧ Below w.heap.size w w5) := by
            refine ⟨?_, B3.grown e5.grown B3.size (fun j hj => Nat.le_of_not_lt (fun hlt => by
              obtain ⟨g, cp, e, h1, _⟩ := O3
              rw [e] at hj
              simp [Value.ownBlock] at hj
              omega))⟩
            rw [kindsK_succ, HZ.out, ints_append]
            exact o5
          obtain ⟨vb, vc, hv5⟩ : ∃ g cp, v5 = .slice (some ⟨g, 0, none⟩) (k + 1) cp := by obtain ⟨g, cp, e, _⟩ := o5; exact ⟨g, cp, e⟩
          subst hv5
          clear o5 e5 O3 B3
          go_wp2
          go_roundw
          case rel => exact ⟨k + 1, by omega, by go_num, ⟨_, _, rfl⟩, .inr ⟨by first | rfl | trivial, hm⟩, HF.out.1, HF.out.2⟩
          case measure => simp [intOf]; omega
        · have hk0 : k = 0 := by rcases HACT.out with h | h; exact h; exact absurd h.2 hm
          have hm0 : lm = 0 := by omega
          have HR : Hid (KL = []) := HKN.out (.inr hm0)
          subst hk0
          have HO := Lib.hid hown
          have hmi : ¬ (0 < (lm : Int)) := by omega
          clear hm hm0
          go_wp2_with fail
          refine (HRK.out _ hbr).mono ?_
          rintro e w2 ⟨rfl, b2⟩
          have B2 := below_then hbr b2 hbr.size
          have O2 := Lib.hid ((HO.out.below b2 (Nat.le_refl _)).wide b2.size)
          clear b2 hown
          go_wp2
          go_ret
          exact ⟨_, rfl, by rw [HR.out]; exact O2.out, B2⟩
    · have hkz : k = zn := by omega
      have HR : Hid (KL = kindsK (ps.map (·.1)) k) := by
        show _ = _
        rcases HACT.out with h | h
        · subst h
          by_cases hm : q = true ∧ 0 < lm
          · rw [HKY.out hm.1 hm.2, ← hkz]
          · rw [HKN.out (by
              cases q with
              | false => exact .inl rfl
              | true => exact .inr (by have := mt (fun h => (⟨rfl, h⟩ : true = true ∧ 0 < lm)) hm; omega))]
            rfl
        · rw [HKY.out h.1 h.2, ← hkz]
      have HO := Lib.hid hown
      clear hown hkz
      go_wp2
      go_ret
      exact ⟨_, rfl, by rw [HR.out, HKL.out]; exact HO.out, hbr⟩

end Go.Proofs.YtkofafefnlommaaGreat

/- Chapter 13: the contract of PutGroup, for either side (written by mk_S13g.py). -/
namespace Go.Proofs.YtkofafefnlommaaGreat
open Go.RowKit

def CPutGroup (f : Nat) : Prop := ∀ (u v : Value) (zs : List Int) (ps : List P) (ls : List R) (w : World), zs.length ≤ 1048576 → Rd 1 w u zs.length (ints .i64 zs) → (∀ p ∈ ps, ∀ v ∈ p.1.l, v.s.size ≤ maxLen) → ps.length ≤ 1048576 → (∀ p ∈ ps, p.1.l.length ≤ 1048576) → RdRs w v ps → ps.map (·.1) = ls →
  Calls Tryz.prog f #[u, v] w fun e w' => ∃ v', e = .returned v' ∧ Own 5 1 w.heap.size w'.heap.size w' v' (groupL zs ls).length (ints .u8 (groupL zs ls)) ∧ Below w.heap.size w w'
theorem below_ext {e : TypeId} {size lo B n : Nat} {w w1 w2 : World} {v v' : Value} {xs : List Value} {hi : Nat} (h : Below B w w1) (ho : Own e size lo hi w1 v n xs) (hB : B ≤ lo) (hs : B ≤ w1.heap.size) (he : Ext w1 w2 v v') : Below B w w2 :=
  h.grown he.grown hs (fun j hj => by
    obtain ⟨g, cp, rfl, h1, _⟩ := ho
    simp [Value.ownBlock] at hj
    omega)

end Go.Proofs.YtkofafefnlommaaGreat

/- The exact law of PutGroup, walked; the contracts of both sides come as hypotheses (written by mk_Law13.py). -/
namespace Go.Proofs.YtkofafefnlommaaGreat
open Go.RowKit

theorem markBytesN (v : Value) (n lo hi : Nat) (xs : List Value) (s : Nat) (w : World) (hs : s ≤ 1073741824) (hn : n ≤ 1073741824) (h : Own 5 1 lo hi w v n xs) :
    Calls Tryz.prog 30 #[v, .int .i64 (s : Nat)] w fun e w' => e = .returned (.int .i64 (s + n : Nat)) ∧ Own 5 1 lo hi w' v n (ints .u8 (marks .u8 s n)) ∧ Within lo hi w w' := by
  refine (markByteS v n lo hi xs s w (by omega) (by omega) hn h).mono ?_
  rintro e w' ⟨rfl, h1, h2⟩
  refine ⟨by rw [show ((s + n : Nat) : Int) = (s : Int) + (n : Int) by omega], h1, Within.of_grown h2 (fun g hg => ?_)⟩
  obtain ⟨g', cap, rfl, h3, h4, _⟩ := h
  simp only [Value.ownBlock, Option.some.injEq] at hg
  omega
theorem heldBytesN (v : Value) (n s : Nat) (w : World) (hs : s ≤ 1073741824) (hn : n ≤ 1073741824) (h : At 1 w v n (ints .u8 (marks .u8 s n))) :
    Calls Tryz.prog 31 #[v, .int .i64 (s : Nat)] w fun e w' => e = .returned (.int .i64 (s + n : Nat)) ∧ Below w.heap.size w w' := by
  refine (heldByteS v n s w (by omega) (by omega) hn h).mono ?_
  rintro e w' ⟨rfl, rfl⟩
  exact ⟨by rw [show ((s + n : Nat) : Int) = (s : Int) + (n : Int) by omega], Below.refl _ _⟩

set_option maxRecDepth 100000 in
set_option maxHeartbeats 4000000 in
theorem lawPutGroup (hs : CPutGroup 13) (hi : CPutGroup 10) (a : Option Addr) (len cap : Nat) (zs : List Int) (b : Option Addr) (lenb capb : Nat) (pa : List P) (w : World) (hl : len ≤ maxLen) (ha : Arg .i64 w a len zs) (hsa : ∀ p ∈ pa, ∀ v ∈ p.1.l, v.s.size ≤ maxLen) (hB : RdRs w (.slice b lenb capb) pa) :
    Calls Tryz.prog 5 #[.slice a len cap, .slice b lenb capb] w fun e w' => e = .returned (.bool true) ∧ Below w.heap.size w w' := by
  have HSA := Lib.hid hsa
  clear hsa
  unfold CPutGroup at hs hi
  have HZ := Lib.hid ha.1
  unfold maxLen at hl
  by_cases hbig : 1048576 < len
  · go_enter Tryz.func5, Tryz.ntmps5
    go_wp2
    go_ret
    exact ⟨rfl, Below.refl _ _⟩
  have bt := Below.refl w.heap.size w
  go_enter Tryz.func5, Tryz.ntmps5
  go_wp2_with fail
  refine (szRowS (.slice b lenb capb) pa 1048576 w (by omega) (by omega) HSA.out (hB.below bt)).mono ?_
  rintro e w1 ⟨r2, rfl, hr2, hb⟩
  have z1 := hb.size
  replace bt := below_then bt hb (by omega)
  clear hb
  by_cases hn2 : r2 < 0
  · clear hr2
    go_wp2
    go_ret
    exact ⟨rfl, bt⟩
  have hka : (pa.length : Int) + bulkR pa ≤ 1048576 := by omega
  clear hr2
  have hma : pa.length ≤ 1048576 := by omega
  have HIa : Hid (∀ p ∈ pa, p.1.l.length ≤ 1048576) := fun p hp => by
    have := bulkR_mem hp
    omega
  have HRN : Hid (rlen pa ≤ 16777216) := by
    show _ ≤ _
    have := rlen_le pa
    omega
  clear hka
  have hkl : (groupL zs (pa.map (·.1))).length ≤ 1048576 := Nat.le_trans (groupL_len _ _) (by omega)
  generalize hK : (groupL zs (pa.map (·.1))) = K at hkl
  have HK := Lib.hid hK
  clear hK
  generalize hn : K.length = n at hkl
  have HN := Lib.hid hn
  clear hn
  go_wp2_with fail
  refine (toIntS a len cap zs w1 (by omega) (ha.below bt)).mono ?_
  rintro e w2 ⟨t1, rfl, o1, hb⟩
  have z2 := hb.size
  replace bt := below_then bt hb (by omega)
  clear hb
  go_wp2_with fail
  refine (toRowS (.slice b lenb capb) pa w2 hma HIa.out (hB.below bt)).mono ?_
  rintro e w3 ⟨t2, q2, rfl, e0, o0, hb⟩
  have z3 := hb.size
  replace o1 := o1.below hb (by omega)
  replace bt := below_then bt hb (by omega)
  clear hb
  have o2 := o0.my
  have Hq2 := Lib.hid e0
  clear o0 e0
  go_wp2_with fail
  refine (hs t1 t2 zs q2 (pa.map (·.1)) w3 (by rw [HZ.out]; omega) (by rw [HZ.out]; exact o1.rd) (rows_small Hq2.out HSA.out) (by rw [len_fst Hq2.out]; exact hma) (small_fst Hq2.out HIa.out) o2.rd Hq2.out).mono ?_
  rintro e w4 ⟨v0, rfl, ov, hb⟩
  have z4 := hb.size
  replace o1 := o1.below hb (by omega)
  replace o2 := o2.below hb (by omega)
  replace bt := below_then bt hb (by omega)
  clear hb
  rw [HK.out, HN.out] at ov
  clear o1 o2
  go_wp2_with fail
  refine (toIntS a len cap zs w4 (by omega) (ha.below bt)).mono ?_
  rintro e w5 ⟨x0, rfl, ox, hb⟩
  have z5 := hb.size
  replace ov := ov.below hb (by omega)
  replace bt := below_then bt hb (by omega)
  clear hb
  go_wp2_with fail
  refine (toRowS (.slice b lenb capb) pa w5 hma HIa.out (hB.below bt)).mono ?_
  rintro e w6 ⟨x1, qx, rfl, e0, o0, hb⟩
  have z6 := hb.size
  replace ov := ov.below hb (by omega)
  replace ox := ox.below hb (by omega)
  replace bt := below_then bt hb (by omega)
  clear hb
  have oy := o0.my
  have Hqx := Lib.hid e0
  clear o0 e0
  go_wp2_with fail
  refine (hi x0 x1 zs qx (pa.map (·.1)) w6 (by rw [HZ.out]; omega) (by rw [HZ.out]; exact ox.rd) (rows_small Hqx.out HSA.out) (by rw [len_fst Hqx.out]; exact hma) (small_fst Hqx.out HIa.out) oy.rd Hqx.out).mono ?_
  rintro e w7 ⟨g0, rfl, og, hb⟩
  have z7 := hb.size
  replace ov := ov.below hb (by omega)
  replace ox := ox.below hb (by omega)
  replace oy := oy.below hb (by omega)
  replace bt := below_then bt hb (by omega)
  clear hb
  rw [HK.out, HN.out] at og
  go_wp2_with fail
  refine (eqByteS g0 v0 n K w7 HN.out og.at ov.at).mono ?_
  rintro e w8 ⟨rfl, hb⟩
  have z8 := hb.size
  replace ov := ov.below hb (by omega)
  replace ox := ox.below hb (by omega)
  replace oy := oy.below hb (by omega)
  replace og := og.below hb (by omega)
  replace bt := below_then bt hb (by omega)
  clear hb
  go_wp2_with fail
  refine (toIntS a len cap zs w8 (by omega) (ha.below bt)).mono ?_
  rintro e w9 ⟨t3, rfl, o3, hb⟩
  have z9 := hb.size
  replace ov := ov.below hb (by omega)
  replace ox := ox.below hb (by omega)
  replace oy := oy.below hb (by omega)
  replace og := og.below hb (by omega)
  replace bt := below_then bt hb (by omega)
  clear hb
  go_wp2_with fail
  refine (eqIntS x0 t3 len zs w9 HZ.out ox.at o3.at).mono ?_
  rintro e w10 ⟨rfl, hb⟩
  have z10 := hb.size
  replace ov := ov.below hb (by omega)
  replace ox := ox.below hb (by omega)
  replace oy := oy.below hb (by omega)
  replace og := og.below hb (by omega)
  replace o3 := o3.below hb (by omega)
  replace bt := below_then bt hb (by omega)
  clear hb
  clear o3
  go_wp2_with fail
  refine (toRowS (.slice b lenb capb) pa w10 hma HIa.out (hB.below bt)).mono ?_
  rintro e w11 ⟨t4, q4, rfl, e0, o0, hb⟩
  have z11 := hb.size
  replace ov := ov.below hb (by omega)
  replace ox := ox.below hb (by omega)
  replace oy := oy.below hb (by omega)
  replace og := og.below hb (by omega)
  replace bt := below_then bt hb (by omega)
  clear hb
  have o4 := o0.my
  have Hq4 := Lib.hid e0
  clear o0 e0
  go_wp2_with fail
  refine (eqRowS x1 t4 qx q4 w11 (Hq4.out.trans Hqx.out.symm) oy.rd o4.rd).mono ?_
  rintro e w12 ⟨rfl, hb⟩
  have z12 := hb.size
  replace ov := ov.below hb (by omega)
  replace ox := ox.below hb (by omega)
  replace oy := oy.below hb (by omega)
  replace og := og.below hb (by omega)
  replace o4 := o4.below hb (by omega)
  replace bt := below_then bt hb (by omega)
  clear hb
  clear o4
  go_wp2_with fail
  refine (markIntsN x0 len _ _ _ 1 w12 (by omega) (by omega) ox).mono ?_
  rintro e w13 ⟨rfl, _, hg⟩
  have z13 := hg.2.2.2.1
  replace ov := ov.within hg (by omega)
  replace oy := oy.within hg (by omega)
  replace og := og.within hg (by omega)
  replace bt := bt.trans (hg.below (by omega) (by omega))
  clear hg
  clear ox
  have HK1 : Hid (0 < 1 + len ∧ 1 + len ≤ 1048577) := by constructor <;> omega
  generalize 1 + len = k1 at HK1
  obtain ⟨hk0, hk2⟩ := HK1.out
  go_wp2_with fail
  refine (markRowsM x1 qx _ _ k1 w13 hk0 (by omega) (by rw [len_fst Hqx.out]; exact hma) (by rw [rlen_fst Hqx.out]; exact HRN.out) oy).mono ?_
  rintro e w14 ⟨rfl, _, hg⟩
  have z14 := hg.2.2.2.1
  replace ov := ov.within hg (by omega)
  replace og := og.within hg (by omega)
  replace bt := bt.trans (hg.below (by omega) (by omega))
  clear hg
  clear oy
  generalize k1 + rlen qx = k3
  go_wp2_with fail
  refine (eqByteS g0 v0 n K w14 HN.out og.at ov.at).mono ?_
  rintro e w15 ⟨rfl, hb⟩
  have z15 := hb.size
  replace ov := ov.below hb (by omega)
  replace og := og.below hb (by omega)
  replace bt := below_then bt hb (by omega)
  clear hb
  go_wp2_with fail
  refine (markBytesN g0 n _ _ _ 1 w15 (by omega) (by omega) og).mono ?_
  rintro e w16 ⟨rfl, on, hg⟩
  have z16 := hg.2.2.2.1
  replace ov := ov.within hg (by omega)
  replace bt := bt.trans (hg.below (by omega) (by omega))
  clear hg
  clear og
  have og := on
  clear on
  go_wp2_with fail
  refine (heldBytesN g0 n 1 w16 (by omega) (by omega) og.at).mono ?_
  rintro e w17 ⟨rfl, hb⟩
  have z17 := hb.size
  replace ov := ov.below hb (by omega)
  replace og := og.below hb (by omega)
  replace bt := below_then bt hb (by omega)
  clear hb
  have HNE : ((1 + n : Nat) : Int) ≥ 0 := by omega
  go_wp2_with fail
  refine (toIntS a len cap zs w17 (by omega) (ha.below bt)).mono ?_
  rintro e w18 ⟨t5, rfl, o5, hb⟩
  have z18 := hb.size
  replace ov := ov.below hb (by omega)
  replace og := og.below hb (by omega)
  replace bt := below_then bt hb (by omega)
  clear hb
  go_wp2_with fail
  refine (toRowS (.slice b lenb capb) pa w18 hma HIa.out (hB.below bt)).mono ?_
  rintro e w19 ⟨t6, q6, rfl, e0, o0, hb⟩
  have z19 := hb.size
  replace ov := ov.below hb (by omega)
  replace og := og.below hb (by omega)
  replace o5 := o5.below hb (by omega)
  replace bt := below_then bt hb (by omega)
  clear hb
  have o6 := o0.my
  have Hq6 := Lib.hid e0
  clear o0 e0
  go_wp2_with fail
  refine (hi t5 t6 zs q6 (pa.map (·.1)) w19 (by rw [HZ.out]; omega) (by rw [HZ.out]; exact o5.rd) (rows_small Hq6.out HSA.out) (by rw [len_fst Hq6.out]; exact hma) (small_fst Hq6.out HIa.out) o6.rd Hq6.out).mono ?_
  rintro e w20 ⟨h0, rfl, oh, hb⟩
  have z20 := hb.size
  replace ov := ov.below hb (by omega)
  replace og := og.below hb (by omega)
  replace o5 := o5.below hb (by omega)
  replace o6 := o6.below hb (by omega)
  replace bt := below_then bt hb (by omega)
  clear hb
  rw [HK.out, HN.out] at oh
  clear o5 o6
  go_wp2_with fail
  refine (eqByteS h0 v0 n K w20 HN.out oh.at ov.at).mono ?_
  rintro e w21 ⟨rfl, hb⟩
  have z21 := hb.size
  replace ov := ov.below hb (by omega)
  replace og := og.below hb (by omega)
  replace oh := oh.below hb (by omega)
  replace bt := below_then bt hb (by omega)
  clear hb
  go_wp2_with fail
  refine (heldBytesN g0 n 1 w21 (by omega) (by omega) og.at).mono ?_
  rintro e w22 ⟨rfl, hb⟩
  have z22 := hb.size
  replace ov := ov.below hb (by omega)
  replace og := og.below hb (by omega)
  replace oh := oh.below hb (by omega)
  replace bt := below_then bt hb (by omega)
  clear hb
  go_wp2
  go_ret
  exact ⟨rfl, bt⟩

end Go.Proofs.YtkofafefnlommaaGreat

/- The model's l13Ids, PutGroup (written by mk_S13g.py). -/
namespace Go.Proofs.YtkofafefnlommaaGreat
open Go.RowKit

set_option maxRecDepth 100000 in
set_option maxHeartbeats 800000 in
theorem sIds (v : Value) (ps : List P) (w : World) (hn : ps.length ≤ 1048576) (h : RdRs w v ps) :
    Calls Tryz.prog 47 #[v] w fun e w' => ∃ v', e = .returned v' ∧ Own 3 1 w.heap.size w'.heap.size w' v' ps.length (ints .i64 (idsL (ps.map (·.1)))) ∧ Below w.heap.size w w' := by
  generalize hl : ps.length = n at hn ⊢
  obtain ⟨a, cap, rfl, _, HC⟩ := h.walk hl
  have HST : Hid (∀ j, j < n → idsL ((ps.map (·.1)).take (j + 1)) = idsL ((ps.map (·.1)).take j) ++ [(ps.getD j P.zero).1.id]) := fun j hj => by
    rw [idsL_take (by rw [List.length_map]; omega), getD_fstR]
  have HALL : Hid ((ps.map (·.1)).take n = ps.map (·.1)) := by
    show _ = _
    rw [← hl, List.take_of_length_le (by rw [List.length_map]; exact Nat.le_refl _)]
  have O1 := own_lit (e := 3) (size := 1) w #[] 0 (Nat.zero_le _) rfl
  have B1 := below_alloc w (.cells #[] 3)
  generalize hw1 : w.alloc (.cells #[] 3) = w1 at O1 B1
  have HW1 := Lib.hid hw1
  clear hw1 h hl
  go_enter Tryz.func47, Tryz.ntmps47
  go_wp2
  rw [HW1.out]
  go_loopw [3, 4] (fun o i wr => ∃ k : Nat, k ≤ n ∧ i = .int .i64 k ∧ (∃ g cp, o = .slice (some ⟨g, 0, none⟩) k cp) ∧ Own 3 1 w.heap.size wr.heap.size wr o k (ints .i64 (idsL ((ps.map (·.1)).take k))) ∧ Below w.heap.size w wr) (fun _ i _ => n - (intOf i).toNat)
  case atStart => exact ⟨0, Nat.zero_le _, rfl, ⟨_, _, rfl⟩, by simpa [idsL, ints] using O1, B1⟩
  case round =>
    obtain ⟨k, hk, rfl, ⟨og, oc, rfl⟩, hown, hbr⟩ := hrel
    clear O1 B1
    by_cases hlt : k < n
    · obtain ⟨b, off, rfl, c0, c1, hrd⟩ := HC.out k hlt wr hbr
      have HSK := Lib.hid (HST.out k hlt)
      obtain ⟨xa, xc, hx, _⟩ := hrd
      generalize ps.getD k P.zero = pk at c0 c1 hx HSK
      obtain ⟨⟨ri, rl⟩, x⟩ := pk
      simp only at c0 c1 hx HSK
      generalize rl.length = xn at hx
      subst hx
      have O2 := hown
      have B2 := hbr
      go_wp2_with (at_builtin; refine append1_law Tryz.elemInts rfl _ _ rfl _ _ _ _ _ (.int .i64 ri) rfl rfl O2 rfl (by unfold maxLen; omega) (by omega) ?_)
      intro v5 w5 o5 e5
      have HF : Hid (Own 3 1 w.heap.size w5.heap.size w5 v5 (k + 1) (ints .i64 (idsL ((ps.map (·.1)).take (k + 1)))) ∧ Below w.heap.size w w5) := by
        refine ⟨?_, below_ext B2 O2 (Nat.le_refl _) B2.size e5⟩
        rw [HSK.out, ints_append]
        exact o5
      obtain ⟨vb, vc, hv5⟩ : ∃ g cp, v5 = .slice (some ⟨g, 0, none⟩) (k + 1) cp := by obtain ⟨g, cp, e, _⟩ := o5; exact ⟨g, cp, e⟩
      subst hv5
      clear o5 e5 O2 B2
      go_wp2
      go_roundw
      case rel => exact ⟨k + 1, by omega, by go_num, ⟨_, _, rfl⟩, HF.out.1, HF.out.2⟩
      case measure => simp [intOf]; omega
    · obtain rfl : k = n := by omega
      have HO := Lib.hid hown
      clear hown
      go_wp2
      go_ret
      exact ⟨_, rfl, by rw [HALL.out] at HO; exact HO.out, hbr⟩

set_option maxRecDepth 100000 in
set_option maxHeartbeats 800000 in
theorem sPutGroup : CPutGroup 13 := by
  intro u v zs ps ls w hz hu hss hn hli h hls
  subst hls
  have HRK := Lib.hid (fun W (hW : Below w.heap.size w W) => sRowsOk u v zs ps _ W hz (hu.below hW) hss hn hli (h.below hW) rfl)
  have HID := Lib.hid (fun W (hW : Below w.heap.size w W) => sIds v ps W hn (h.below hW))
  have HCL := Lib.hid (fun (k : Int) W (hW : Below w.heap.size w W) => sColumn v ps k W hn (h.below hW))
  have HEC := Lib.hid (fun (k : Int) v' W (hv' : Rd 3 W v' (colR (ps.map (·.1)) k).length (vals (colR (ps.map (·.1)) k))) => sEncCol v' (colR (ps.map (·.1)) k) W (colR_len' hn k) (colR_size hss k) hv')
  have HGN := Lib.hid (groupL_no (zs := zs) (l := ps.map (·.1)))
  have HG0 := Lib.hid (groupL_0 (zs := zs) (l := ps.map (·.1)))
  have HGY := Lib.hid (groupL_yes (zs := zs) (l := ps.map (·.1)))
  have HTR : Hid (rowsOkL zs (ps.map (·.1)) = true → ps.length ≤ 12 ∧ zs.length ≤ 3) := fun hh => by
    obtain ⟨h1, h2, _⟩ := rowsOk_true hh
    rw [List.length_map] at h2
    exact ⟨h2, (colsB_le3 h1).2⟩
  have HKL : Hid (∀ j, (groupK (ps.map (·.1)) j).length ≤ 5 + 5 * ps.length + 1030 * j) := fun j => by
    have := groupK_len (ps.map (·.1)) j
    rw [List.length_map] at this
    exact this
  have HI0 : Hid (groupK (ps.map (·.1)) 0 = Num.putL [] (idsL (ps.map (·.1)))) := rfl
  have HIL : Hid ((idsL (ps.map (·.1))).length = ps.length) := by show _ = _; rw [idsL_len, List.length_map]
  obtain ⟨a1, c1, rfl, _⟩ := hu
  obtain ⟨⟨a2, c2, rfl, _⟩, _⟩ := h
  rw [List.length_map] at HG0 HGY
  generalize hlm : ps.length = lm at HRK HID HCL HTR HKL HIL HG0 HGY hn ⊢
  obtain ⟨q, hq⟩ : ∃ q, rowsOkL zs (ps.map (·.1)) = q := ⟨_, rfl⟩
  rw [hq] at HRK HGN HG0 HGY HTR
  generalize groupL zs (ps.map (·.1)) = GL at HGN HG0 HGY ⊢
  generalize hzn : zs.length = zn at hz HRK HTR HGY ⊢
  clear hss hli hq hzn hlm
  cases q with
  | false =>
    have HR := Lib.hid (HGN.out rfl)
    go_enter Tryz.func13, Tryz.ntmps13
    go_wp2_with fail
    refine (HRK.out _ (Below.refl _ _)).mono ?_
    rintro e w2 ⟨rfl, b2⟩
    have O2 := own_lit (e := 5) (size := 1) w2 #[] 0 (Nat.zero_le _) rfl
    have B2 := b2.alloc b2.size (.cells #[] 5)
    generalize hw3 : w2.alloc (.cells #[] 5) = w3 at O2 B2
    have HW3 := Lib.hid hw3
    clear hw3
    go_wp2
    rw [HW3.out]
    go_ret
    exact ⟨_, rfl, by rw [HR.out]; exact O2.lower b2.size, B2⟩
  | true =>
    obtain ⟨hlm, hzn⟩ := HTR.out rfl
    go_enter Tryz.func13, Tryz.ntmps13
    go_wp2_with fail
    refine (HRK.out _ (Below.refl _ _)).mono ?_
    rintro e w2 ⟨rfl, b2⟩
    have O2 := own_lit (e := 5) (size := 1) w2 #[] 0 (Nat.zero_le _) rfl
    have B2 := b2.alloc b2.size (.cells #[] 5)
    have hz2 := b2.size
    generalize hw3 : w2.alloc (.cells #[] 5) = w3 at O2 B2
    have HW3 := Lib.hid hw3
    generalize hq2 : w2.heap.size = q2 at O2
    have HQ2 := Lib.hid hq2
    clear hw3 hq2 b2
    go_wp2_with fail
    rw [HW3.out, HQ2.out]
    refine (HID.out _ B2).mono ?_
    rintro e w4 ⟨vi, rfl, oi, b4⟩
    have O4 := O2.below b4 (Nat.le_refl _)
    have B4 := below_then B2 b4 B2.size
    have hz4 := b4.size
    obtain ⟨ig, ic, hi⟩ : ∃ g cp, vi = .slice (some ⟨g, 0, none⟩) lm cp := by obtain ⟨g, cp, e, _⟩ := oi; exact ⟨g, cp, e⟩
    subst hi
    clear b4 O2 B2
    go_wp2_with fail
    refine (sPutNums _ _ 0 lm [] (idsL (ps.map (·.1))) w4 (by omega) (by omega) rfl HIL.out O4.at oi.at).mono ?_
    rintro e w5 ⟨v5, rfl, o5, b5⟩
    rw [← HI0.out] at o5
    have O5 := o5.lower (show w.heap.size ≤ w4.heap.size from B4.size)
    have B5 := below_then B4 b5 B4.size
    have hl0 := HKL.out 0
    generalize hgk : (groupK (ps.map (·.1)) 0).length = g0 at O5 hl0
    have HGK := Lib.hid hgk
    obtain ⟨pg, pc, hp⟩ : ∃ g cp, v5 = .slice (some ⟨g, 0, none⟩) g0 cp := by obtain ⟨g, cp, e, _⟩ := O5; exact ⟨g, cp, e⟩
    subst hp
    clear b5 o5 O4 oi B4 hgk
    go_wp2
    go_loopw [5, 6] (fun o i wr => ∃ (k m : Nat), k ≤ zn ∧ (k = 0 ∨ 0 < lm) ∧ i = .int .i64 k ∧ (groupK (ps.map (·.1)) k).length = m ∧ (∃ g cp, o = .slice (some ⟨g, 0, none⟩) m cp) ∧ Own 5 1 w.heap.size wr.heap.size wr o m (ints .u8 (groupK (ps.map (·.1)) k)) ∧ Below w.heap.size w wr) (fun _ i _ => zn - (intOf i).toNat)
    case atStart => exact ⟨0, g0, Nat.zero_le _, .inl rfl, rfl, HGK.out, ⟨_, _, rfl⟩, O5, B5⟩
    case round =>
      obtain ⟨k, m, hk, hact, rfl, hm, ⟨og, oc, rfl⟩, hown, hbr⟩ := hrel
      have HM := Lib.hid hm
      have HACT := Lib.hid hact
      have hmb := HKL.out k
      rw [hm] at hmb
      clear O5 B5 hm hact hl0
      by_cases hlt : k < zn
      · by_cases hm0 : 0 < lm
        · have HKS := Lib.hid (groupK_put (ps.map (·.1)) k)
          have hcl := encC_len (colR (ps.map (·.1)) (k : Int))
          have hpl := (Num.put_len (groupK (ps.map (·.1)) k) ((encC (colR (ps.map (·.1)) (k : Int))).length : Int)).2
          rw [HM.out] at hpl
          have HE2 := HEC.out (k : Int)
          generalize encC (colR (ps.map (·.1)) (k : Int)) = C at HKS hcl hpl HE2
          have HE3 := Lib.hid HE2
          generalize hcc : C.length = c at hcl hpl HE2 HE3 HKS
          have HCC := Lib.hid hcc
          clear hcc HE2
          go_wp2_with fail
          refine (HCL.out (k : Nat) _ hbr).mono ?_
          rintro e w6 ⟨v6, rfl, o6, b6⟩
          have B6 := below_then hbr b6 hbr.size
          go_wp2_with fail
          refine (HE3.out v6 w6 o6.rd).mono ?_
          rintro e w7 ⟨v7, rfl, o7, b7⟩
          have B7 := below_then B6 b7 B6.size
          have O7 := (hown.below b6 (Nat.le_refl _)).below b7 b6.size
          obtain ⟨cg, cc, hc7⟩ : ∃ g cp, v7 = .slice (some ⟨g, 0, none⟩) c cp := by obtain ⟨g, cp, e, _⟩ := o7; exact ⟨g, cp, e⟩
          subst hc7
          have HO7 := Lib.hid o7
          clear b6 b7 B6 hown o7 o6 HE3
          go_wp2_with fail
          refine (sPutNum _ m (groupK (ps.map (·.1)) k) (c : Int) w7 (by omega) HM.out O7.at).mono ?_
          rintro e w8 ⟨v8, rfl, o8, b8⟩
          have B8 := below_then B7 b8 B7.size
          have O8 := o8.lower (show w.heap.size ≤ w7.heap.size from B7.size)
          have A8 : AtN 1 w8 (.slice (some ⟨cg, 0, none⟩) c cc) c (ints .u8 C) := .inr (HO7.out.at.below b8)
          generalize hpn : (Num.put (groupK (ps.map (·.1)) k) (c : Int)).length = pl at O8 hpl
          have HPN := Lib.hid hpn
          obtain ⟨dg, dc, hd8⟩ : ∃ g cp, v8 = .slice (some ⟨g, 0, none⟩) pl cp := by obtain ⟨g, cp, e, _⟩ := O8; exact ⟨g, cp, e⟩
          subst hd8
          clear hpn b8 o8 B7 O7
          go_wp2_with (at_builtin; refine appendN_law Tryz.elemBytes rfl _ _ rfl _ _ _ _ _ rfl O8 _ c (ints .u8 C) rfl A8 (ints_one _ _) (by unfold maxLen; omega) (by omega) ?_)
          intro v9 w9 o9 e9
          have HF : Hid ((groupK (ps.map (·.1)) (k + 1)).length = pl + c ∧ Own 5 1 w.heap.size w9.heap.size w9 v9 (pl + c) (ints .u8 (groupK (ps.map (·.1)) (k + 1))) ∧ Below w.heap.size w w9) := by
            rw [HKS.out, ints_append, List.length_append, HPN.out, HCC.out]
            exact ⟨rfl, o9, below_ext B8 O8 (Nat.le_refl _) B8.size e9⟩
          obtain ⟨vb, vc, hv9⟩ : ∃ g cp, v9 = .slice (some ⟨g, 0, none⟩) (pl + c) cp := by obtain ⟨g, cp, e, _⟩ := o9; exact ⟨g, cp, e⟩
          subst hv9
          clear o9 e9 O8 B8 A8
          go_wp2
          go_roundw
          case rel => exact ⟨k + 1, pl + c, by omega, .inr hm0, by go_num, HF.out.1, ⟨_, _, rfl⟩, HF.out.2.1, HF.out.2.2⟩
          case measure => simp [intOf]; omega
        · have hk0 : k = 0 := by
            rcases HACT.out with h | h
            · exact h
            · exact absurd h hm0
          have HR := Lib.hid (HG0.out (by first | rfl | trivial) (by omega))
          subst hk0
          have hmi : ¬ (0 < (lm : Int)) := by omega
          have HO := Lib.hid hown
          clear hown
          go_wp2
          go_ret
          exact ⟨_, rfl, by rw [HR.out, HM.out]; exact HO.out, hbr⟩
      · have HR : Hid (GL = groupK (ps.map (·.1)) k) := by
          show _ = _
          have hkz : k = zn := by omega
          by_cases h0 : lm = 0
          · rcases HACT.out with h | h
            · rw [HG0.out (by first | rfl | trivial) h0, h]
            · omega
          · rw [HGY.out (by first | rfl | trivial) h0, hkz]
        have HO := Lib.hid hown
        clear hown
        go_wp2
        go_ret
        exact ⟨_, rfl, by rw [HR.out, HM.out]; exact HO.out, hbr⟩

end Go.Proofs.YtkofafefnlommaaGreat
