/- Texts of this claim, one behind the other: I13g, Ch13g. -/
import Derived.Test.YtkofafefnlommaaGreatP32
import Derived.Test.YtkofafefnlommaaGreatP36
import Derived.Test.YtkofafefnlommaaGreatP39
import Derived.Test.YtkofafefnlommaaGreatP17
import Derived.Test.YtkofafefnlommaaGreatP5
import Derived.Test.YtkofafefnlommaaGreatP30

/- The program's PutGroup (written by mk_S13g.py). -/
namespace Go.Proofs.YtkofafefnlommaaGreat
open Go.RowKit

theorem flatB_append (a b : List B) : flatB (a ++ b) = flatB a ++ flatB b := by unfold flatB; rw [List.flatMap_append]
theorem flatB_2 (x y : B) : flatB [x, y] = x.2 ++ y.2 := by simp [flatB]
theorem flatB_1 (x : B) : flatB [x] = x.2 := by simp [flatB]

set_option maxRecDepth 100000 in
set_option maxHeartbeats 800000 in
theorem iPutGroup : CPutGroup 10 := by
  intro u v zs ps ls w hz hu hss hn hli h hls
  subst hls
  have HRK := Lib.hid (fun W (hW : Below w.heap.size w W) => iRowsOk u v zs ps _ W hz (hu.below hW) hss hn hli (h.below hW) rfl)
  have HID := Lib.hid (fun W (hW : Below w.heap.size w W) => iIds v ps W hn (h.below hW))
  have HCL := Lib.hid (fun (k : Int) W (hW : Below w.heap.size w W) => iColumn v ps (ps.map (·.1)) k W hn hli (h.below hW) rfl)
  have HEC := Lib.hid (fun (k : Int) v' W (hv' : Rd 3 W v' (colR (ps.map (·.1)) k).length (vals (colR (ps.map (·.1)) k))) => iEncCol v' (colR (ps.map (·.1)) k) W (colR_len' hn k) (colR_size hss k) hv')
  have HGN := Lib.hid (groupL_no (zs := zs) (l := ps.map (·.1)))
  have HG0 := Lib.hid (groupL_0 (zs := zs) (l := ps.map (·.1)))
  have HGY := Lib.hid (groupL_yes (zs := zs) (l := ps.map (·.1)))
  have HTR : Hid (rowsOkL zs (ps.map (·.1)) = true → ps.length ≤ 12 ∧ zs.length ≤ 3) := fun hh => by
    obtain ⟨h1, h2, _⟩ := rowsOk_true hh
    rw [List.length_map] at h2
    exact ⟨h2, (colsB_le3 h1).2⟩
  have HKL : Hid (∀ j, (groupK (ps.map (·.1)) j).length ≤ 5 + 5 * ps.length + 1030 * j) := fun j => by
    have := groupK_len (ps.map (·.1)) j
    rw [List.length_map] at this
    exact this
  have HI0 : Hid (groupK (ps.map (·.1)) 0 = Num.putL [] (idsL (ps.map (·.1)))) := rfl
  have HIL : Hid ((idsL (ps.map (·.1))).length = ps.length) := by show _ = _; rw [idsL_len, List.length_map]
  obtain ⟨a1, c1, rfl, _⟩ := hu
  obtain ⟨⟨a2, c2, rfl, _⟩, _⟩ := h
  rw [List.length_map] at HG0 HGY
  generalize hlm : ps.length = lm at HRK HID HCL HTR HKL HIL HG0 HGY hn ⊢
  obtain ⟨q, hq⟩ : ∃ q, rowsOkL zs (ps.map (·.1)) = q := ⟨_, rfl⟩
  rw [hq] at HRK HGN HG0 HGY HTR
  generalize groupL zs (ps.map (·.1)) = GL at HGN HG0 HGY ⊢
  generalize hzn : zs.length = zn at hz HRK HTR HGY ⊢
  clear hss hli hq hzn hlm
  have HJ : Hid (∀ W v qs n, List.length qs = n → n ≤ 7 → flatB qs = GL → GL.length ≤ 1048576 → Own 22 1 w.heap.size W.heap.size W v n (qs.map (·.1)) → Pcs w.heap.size W qs → Below w.heap.size w W → Calls Tryz.prog 42 #[v] W fun e w' => (∃ v', e = .returned v' ∧ Own 5 1 w.heap.size w'.heap.size w' v' GL.length (ints .u8 GL)) ∧ Below w.heap.size w w') := fun W v qs n h1 h2 h3 h4 h5 h6 h7 => by
    refine (iJoin _ _ n v qs W h1 (by omega) (by rw [h3]; exact h4) h5 h6).mono ?_
    rintro e w' ⟨v', rfl, o, b⟩
    rw [h3] at o
    exact ⟨⟨v', rfl, o.lower h7.size⟩, below_then h7 b h7.size⟩
  cases q with
  | false =>
    have HR := Lib.hid (HGN.out rfl)
    go_enter Tryz.func10, Tryz.ntmps10
    go_wp2_with fail
    refine (HRK.out _ (Below.refl _ _)).mono ?_
    rintro e w2 ⟨rfl, b2⟩
    have O2 := own_lit (e := 5) (size := 1) w2 #[] 0 (Nat.zero_le _) rfl
    have B2 := b2.alloc b2.size (.cells #[] 5)
    generalize hw3 : w2.alloc (.cells #[] 5) = w3 at O2 B2
    have HW3 := Lib.hid hw3
    clear hw3
    go_wp2
    rw [HW3.out]
    go_ret
    exact ⟨_, rfl, by rw [HR.out]; exact O2.lower b2.size, B2⟩
  | true =>
    obtain ⟨hlm, hzn⟩ := HTR.out rfl
    go_enter Tryz.func10, Tryz.ntmps10
    go_wp2_with fail
    refine (HRK.out _ (Below.refl _ _)).mono ?_
    rintro e w2 ⟨rfl, b2⟩
    have hz2 := b2.size
    go_wp2_with fail
    refine (HID.out _ b2).mono ?_
    rintro e w4 ⟨vi, rfl, oi, b4⟩
    have B4 := below_then b2 b4 b2.size
    obtain ⟨ig, ic, hi⟩ : ∃ g cp, vi = .slice (some ⟨g, 0, none⟩) lm cp := by obtain ⟨g, cp, e, _⟩ := oi; exact ⟨g, cp, e⟩
    subst hi
    clear b4 b2
    go_wp2_with fail
    refine (iPutNums (.slice none 0 0) _ 0 lm [] (idsL (ps.map (·.1))) w4 (by omega) (by omega) rfl HIL.out (.inl ⟨rfl, rfl, rfl⟩) oi.at).mono ?_
    rintro e w5 ⟨v5, rfl, o5, b5⟩
    rw [← HI0.out] at o5
    have O5 := o5.lower (show w.heap.size ≤ w4.heap.size from B4.size)
    have B5 := below_then B4 b5 B4.size
    have hl0 := HKL.out 0
    generalize hgk : (groupK (ps.map (·.1)) 0).length = g0 at O5 hl0
    have HGK := Lib.hid hgk
    obtain ⟨pg, pc, hp⟩ : ∃ g cp, v5 = .slice (some ⟨g, 0, none⟩) g0 cp := by obtain ⟨g, cp, e, _⟩ := O5; exact ⟨g, cp, e⟩
    subst hp
    clear b5 o5 oi B4 hgk
    have OL := own_lit (e := 22) (size := 1) w5 #[.slice (some ⟨pg, 0, none⟩) g0 pc] 1 (by unfold maxLen; omega) rfl
    have BL := below_alloc w5 (.cells #[.slice (some ⟨pg, 0, none⟩) g0 pc] 22)
    have B6 := below_then B5 BL B5.size
    have P6 : Hid (Pcs w.heap.size (w5.alloc (.cells #[.slice (some ⟨pg, 0, none⟩) g0 pc] 22)) [((.slice (some ⟨pg, 0, none⟩) g0 pc : Value), groupK (ps.map (·.1)) 0)]) := by
      intro q hq
      rw [List.mem_singleton] at hq
      subst hq
      simp only
      rw [HGK.out]
      exact (O5.below BL (Nat.le_refl _)).wide BL.size
    have O6 := Lib.hid (OL.lower B5.size)
    clear OL BL
    generalize hw6 : w5.alloc (.cells #[.slice (some ⟨pg, 0, none⟩) g0 pc] 22) = w6 at O6 B6 P6
    have HW6 := Lib.hid hw6
    clear hw6 O5 B5
    by_cases hm0 : 0 < lm
    rotate_left
    · have HR := Lib.hid (HG0.out (by first | rfl | trivial) (by omega))
      have hmi : ¬ (0 < (lm : Int)) := by omega
      go_wp2_with fail
      rw [HW6.out]
      refine (HJ.out w6 _ [(.slice (some ⟨pg, 0, none⟩) g0 pc, groupK (ps.map (·.1)) 0)] 1 rfl (by omega) (by rw [flatB_1, HR.out]) (by rw [HR.out, HGK.out]; omega) O6.out P6.out B6).mono ?_
      rintro e w7 ⟨⟨v7, rfl, o7⟩, b7⟩
      have HO := Lib.hid o7
      clear o7
      go_wp2
      go_ret
      exact ⟨_, rfl, HO.out, b7⟩
    go_wp2
    rw [HW6.out]
    go_loopw [5, 22] (fun s i wr => ∃ (k m : Nat), k ≤ zn ∧ m = 1 + 2 * k ∧ i = .int .i64 k ∧ (∃ g cp, s = .slice (some ⟨g, 0, none⟩) m cp) ∧ (∃ qs : List B, qs.length = m ∧ flatB qs = groupK (ps.map (·.1)) k ∧ Own 22 1 w.heap.size wr.heap.size wr s m (qs.map (·.1)) ∧ Pcs w.heap.size wr qs) ∧ Below w.heap.size w wr) (fun _ i _ => zn - (intOf i).toNat)
    case atStart => exact ⟨0, 1, Nat.zero_le _, rfl, rfl, ⟨_, _, rfl⟩, ⟨[(.slice (some ⟨pg, 0, none⟩) g0 pc, groupK (ps.map (·.1)) 0)], rfl, flatB_1 _, O6.out, P6.out⟩, B6⟩
    case round =>
      obtain ⟨k, m, hk, hmk, rfl, ⟨og, oc, rfl⟩, ⟨qs, hql, hqf, hown, hpc⟩, hbr⟩ := hrel
      have HQ := Lib.hid (And.intro hql hqf)
      have HPC := Lib.hid hpc
      have HMK := Lib.hid hmk
      have hm7 : m ≤ 7 := by omega
      clear O6 P6 B6 hl0 hql hqf hpc hmk
      by_cases hlt : k < zn
      · have HKS : Hid (groupK (ps.map (·.1)) (k + 1) = groupK (ps.map (·.1)) k ++ (Num.put [] ((encC (colR (ps.map (·.1)) (k : Int))).length : Int) ++ encC (colR (ps.map (·.1)) (k : Int)))) := rfl
        have hcl := encC_len (colR (ps.map (·.1)) (k : Int))
        have HE2 := HEC.out (k : Int)
        generalize encC (colR (ps.map (·.1)) (k : Int)) = C at HKS hcl HE2
        have HE3 := Lib.hid HE2
        generalize hcc : C.length = c at hcl HE2 HE3 HKS
        have HCC := Lib.hid hcc
        clear hcc HE2
        go_wp2_with fail
        refine (HCL.out (k : Nat) _ hbr).mono ?_
        rintro e w6 ⟨v6, rfl, o6, b6⟩
        have B6 := below_then hbr b6 hbr.size
        go_wp2_with fail
        refine (HE3.out v6 w6 o6.rd).mono ?_
        rintro e w7 ⟨v7, rfl, o7, b7⟩
        have B7 := below_then B6 b7 B6.size
        have b67 := below_then b6 b7 b6.size
        obtain ⟨cg, cc, hc7⟩ : ∃ g cp, v7 = .slice (some ⟨g, 0, none⟩) c cp := by obtain ⟨g, cp, e, _⟩ := o7; exact ⟨g, cp, e⟩
        subst hc7
        have HO7 := Lib.hid (o7.lower (show w.heap.size ≤ w6.heap.size from B6.size))
        clear b6 b7 B6 o7 o6 HE3
        go_wp2_with fail
        refine (iPutNum (.slice none 0 0) 0 [] (c : Int) w7 (by omega) rfl (.inl ⟨rfl, rfl, rfl⟩)).mono ?_
        rintro e w8 ⟨v8, rfl, o8, b8⟩
        have B8 := below_then B7 b8 B7.size
        have b68 := below_then b67 b8 b67.size
        have O8 := o8.lower (show w.heap.size ≤ w7.heap.size from B7.size)
        have HO8 := Lib.hid ((HO7.out.below b8 (Nat.le_refl _)).wide b8.size)
        obtain ⟨PN, hPN⟩ : ∃ z, Num.put [] (c : Int) = z := ⟨_, rfl⟩
        rw [hPN] at O8 HKS
        generalize hpn : PN.length = pl at O8
        have HPN := Lib.hid hpn
        obtain ⟨dg, dc, hd8⟩ : ∃ g cp, v8 = .slice (some ⟨g, 0, none⟩) pl cp := by obtain ⟨g, cp, e, _⟩ := O8; exact ⟨g, cp, e⟩
        subst hd8
        clear hpn hPN b8 o8 B7 HO7 b67
        have OL := own_lit (e := 22) (size := 1) w8 #[.slice (some ⟨dg, 0, none⟩) pl dc, .slice (some ⟨cg, 0, none⟩) c cc] 2 (by unfold maxLen; omega) rfl
        have BL := below_alloc w8 (.cells #[.slice (some ⟨dg, 0, none⟩) pl dc, .slice (some ⟨cg, 0, none⟩) c cc] 22)
        generalize hw9 : w8.alloc (.cells #[.slice (some ⟨dg, 0, none⟩) pl dc, .slice (some ⟨cg, 0, none⟩) c cc] 22) = w9 at OL BL
        have HW9 := Lib.hid hw9
        have B9 := below_then B8 BL B8.size
        have b69 := below_then b68 BL b68.size
        have O9 := hown.below b69 (Nat.le_refl _)
        have P9 : Hid (Pcs w.heap.size w9 (qs ++ [((.slice (some ⟨dg, 0, none⟩) pl dc : Value), PN), (.slice (some ⟨cg, 0, none⟩) c cc, C)])) := by
          intro q hq
          rcases List.mem_append.1 hq with hq | hq
          · exact HPC.out.below b69 q hq
          · rcases List.mem_cons.1 hq with rfl | hq
            · simp only
              rw [HPN.out]
              exact (O8.below BL (Nat.le_refl _)).wide BL.size
            · rw [List.mem_singleton] at hq
              subst hq
              simp only
              rw [HCC.out]
              exact (HO8.out.below BL (Nat.le_refl _)).wide BL.size
        have A9 : AtN 1 w9 (.slice (some ⟨w8.heap.size, 0, none⟩) 2 2) 2 [.slice (some ⟨dg, 0, none⟩) pl dc, .slice (some ⟨cg, 0, none⟩) c cc] := .inr OL.at
        clear hw9 OL BL B8 b68 O8 HO8 HPC hown
        go_wp2_with (at_builtin; rw [HW9.out]; refine appendN_law Tryz.elemPieces rfl _ _ rfl _ _ _ _ _ rfl O9 _ 2 _ rfl A9 (fun u hu => by simp only [List.mem_cons, List.not_mem_nil, or_false] at hu; rcases hu with rfl | rfl <;> rfl) (by unfold maxLen; omega) (by omega) ?_)
        intro vA wA oA eA
        have HF : Hid ((∃ qs : List B, qs.length = m + 2 ∧ flatB qs = groupK (ps.map (·.1)) (k + 1) ∧ Own 22 1 w.heap.size wA.heap.size wA vA (m + 2) (qs.map (·.1)) ∧ Pcs w.heap.size wA qs) ∧ Below w.heap.size w wA) := by
          refine ⟨⟨_, by rw [List.length_append, HQ.out.1]; rfl, by rw [flatB_append, flatB_2, HQ.out.2, HKS.out], ?_, P9.out.ext O9 eA⟩, below_ext B9 O9 (Nat.le_refl _) B9.size eA⟩
          rw [List.map_append]
          exact oA
        obtain ⟨vb, vc, hvA⟩ : ∃ g cp, vA = .slice (some ⟨g, 0, none⟩) (m + 2) cp := by obtain ⟨g, cp, e, _⟩ := oA; exact ⟨g, cp, e⟩
        subst hvA
        clear oA eA O9 B9 A9 P9 HQ b69
        go_wp2
        go_roundw
        case rel => exact ⟨k + 1, m + 2, by omega, by have := HMK.out; omega, by go_num, ⟨_, _, rfl⟩, HF.out.1, HF.out.2⟩
        case measure => simp [intOf]; omega
      · have hkz : k = zn := by omega
        have HR := Lib.hid (HGY.out (by first | rfl | trivial) (by omega))
        have HO := Lib.hid hown
        have HJ2 : Hid (Calls Tryz.prog 42 #[.slice (some ⟨og, 0, none⟩) m oc] wr fun e w' => (∃ v', e = .returned v' ∧ Own 5 1 w.heap.size w'.heap.size w' v' GL.length (ints .u8 GL)) ∧ Below w.heap.size w w') := by
          have hgl := HKL.out k
          exact HJ.out wr _ qs m HQ.out.1 hm7 (by rw [HQ.out.2, HR.out, hkz]) (by rw [HR.out, ← hkz]; omega) HO.out HPC.out hbr
        clear hown
        go_wp2_with fail
        refine HJ2.out.mono ?_
        rintro e w7 ⟨⟨v7, rfl, o7⟩, b7⟩
        have HO7 := Lib.hid o7
        clear o7
        go_wp2
        go_ret
        exact ⟨_, rfl, HO7.out, b7⟩

end Go.Proofs.YtkofafefnlommaaGreat

/- PutGroup's exact law, both sides at hand. -/
namespace Go.Proofs.YtkofafefnlommaaGreat
open Go.RowKit

end Go.Proofs.YtkofafefnlommaaGreat
