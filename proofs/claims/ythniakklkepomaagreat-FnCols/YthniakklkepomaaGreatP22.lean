/- Texts of this claim, one behind the other: S9d, Law9d, Law9, Draw9. -/
import Derived.Test.YthniakklkepomaaGreatP21
import Derived.Test.YthniakklkepomaaGreatP20
import Derived.Test.YthniakklkepomaaGreatP18
import Derived.Test.YthniakklkepomaaGreatP4
import Derived.Test.YthniakklkepomaaGreatP17
import Derived.Test.YthniakklkepomaaGreatP10

/- The contract of the model's DecCol (written by mk_S9d.py). -/
namespace Go.Proofs.YthniakklkepomaaGreat
open Go.RowKit

set_option maxRecDepth 100000 in
set_option maxHeartbeats 4000000 in
theorem sDecCol (u : Value) (n : Nat) (zs : List Int) (ty k : Int) (w : World) (hn : n ≤ 1073741824) (hz : zs.length = n) (hby : Num.Bytes zs) (h : At 1 w u n (ints .u8 zs)) :
    Calls Tryz.prog 22 #[u, .int .i64 ty, .int .i64 k] w fun e w' => RDs w w' e (decC zs ty k) := by
  obtain ⟨W1, hW1⟩ : ∃ W1, w.alloc (.cells #[] 54) = W1 := ⟨_, rfl⟩
  have hN : Own 54 3 w.heap.size W1.heap.size W1 (.slice (some ⟨w.heap.size, 0, none⟩) 0 0) 0 [] := by
    rw [← hW1]
    exact own_lit (e := 54) (size := 3) w #[] 0 (Nat.zero_le _) rfl
  have hb0 : Below w.heap.size w W1 := by rw [← hW1]; exact below_alloc w _
  have hat1 := h.below hb0
  have HNO : Hid (∀ W, Below W1.heap.size W1 W → RDs w W (.returned (.tuple #[.slice (some ⟨w.heap.size, 0, none⟩) 0 0, .bool false])) ([], false)) := fun W hW => ⟨_, rfl, (hN.below hW (Nat.le_refl _)).wide hW.size, below_then hb0 hW hb0.size⟩
  have HNN : Hid (zs.length = 0 ∨ Num.inB ty 1 2 = false → decC zs ty k = ([], false)) := decC_none
  rw [hz] at HNN
  have HIT := Lib.hid (fun W => l1In ty 1 2 W)
  have HB1 := Lib.hid (Below.refl W1.heap.size W1)
  obtain ⟨b, off, cap, rfl, hcn, hcm, hlen, hcells⟩ := id h
  by_cases h0 : n = 0
  · subst h0
    have HF := Lib.hid (HNN.out (.inl rfl))
    rw [HF.out]
    clear hat1 h hcells hlen hz hby hN HNN HIT HF hcn hcm
    go_enter Tryz.func22, Tryz.ntmps22
    go_wp2
    go_ret2
    exact HNO.out _ HB1.out
  have hnb : ((n : Int) == 0) = false := by simp; omega
  cases hin : Num.inB ty 1 2 with
  | false =>
    rw [hin] at HIT
    have HF := Lib.hid (HNN.out (.inr hin))
    rw [HF.out]
    clear hat1 h hcells hlen hz hby hN HNN HF hcn hcm hin h0
    go_enter Tryz.func22, Tryz.ntmps22
    go_wp2_with (go_at_call 51; refine (HIT.out _).mono ?_; rintro e w' ⟨rfl, rfl⟩)
    go_ret2
    exact HNO.out _ HB1.out
  | true =>
    rw [hin] at HIT
    have hcn' : n ≤ cap := hcn
    have h1n : 1 ≤ n := by omega
    obtain ⟨tl, htl, HTL⟩ := tail_at cap 1 b off
    have hcell : w.cell? ⟨b, off + 0, none⟩ = some (.int .u8 (zs.getD 0 0)) := At.cell hcells hz (by omega)
    rw [Nat.add_zero] at hcell
    have hzb : 0 ≤ zs.getD 0 0 ∧ zs.getD 0 0 ≤ 255 := by
      have hA : 0 < zs.length := by omega
      rw [getDe zs 0 hA]
      have := hby _ (List.getElem_mem hA)
      omega
    have HCL : Hid (W1.cell? ⟨b, off, none⟩ = some (.int .u8 (zs.getD 0 0))) := (hb0.cell (p := ⟨b, off, none⟩) (lt_of_cell hcell)).trans hcell
    have HTA : Hid (∀ W, Below W1.heap.size W1 W → At 1 W (.slice (some ⟨b, tl, none⟩) (n - 1) (cap - 1)) (n - 1) (ints .u8 (zs.drop 1))) := fun W hW => At.from hz (hat1.below hW) h1n HTL.out
    have HZD : Hid ((zs.drop 1).length = n - 1) := by show _ = _; rw [List.length_drop, hz]
    have HYD : Hid (Num.Bytes (zs.drop 1)) := fun x hx => hby x (List.mem_of_mem_drop hx)
    have HEX : Hid (decC zs ty k = if (decB (zs.getD 0 0) (zs.drop 1) ty k).2 = true ∧ typeV (decB (zs.getD 0 0) (zs.drop 1) ty k).1 = ty ∧ encC (decB (zs.getD 0 0) (zs.drop 1) ty k).1 = zs then ((decB (zs.getD 0 0) (zs.drop 1) ty k).1, true) else ([], false)) := if_neg (by rw [hz, hin]; rintro (q | q); exact h0 q; cases q)
    have HSM := Lib.hid (fun v m xs W (hx : xs.length = m) hbx (hv : At 1 W v m (ints .u8 xs)) (hW : Below W1.heap.size W1 W) => l5Same v _ m n xs zs W hx hz hbx hby hv (hat1.below hW))
    have HRZ := decB_len (zs.getD 0 0) (zs.drop 1) ty k
    have HRS := Lib.hid (decB_sz (zs.getD 0 0) (zs.drop 1) ty k)
    generalize zs.getD 0 0 = z at hcell hzb HCL HEX HRZ HRS
    obtain ⟨z0, z1⟩ := hzb
    generalize decC zs ty k = R at HEX HNN ⊢
    have hsz : Hid (W1.heap.size = w.heap.size + 1) := by show _ = _; rw [← hW1]; simp
    have HBW := Lib.hid hb0
    clear hat1 h hcells hlen hz hby hN HNN hcn hcm hin h0 hcell HTL hb0
    have hcl := HCL.out
    clear HCL
    by_cases hd : z = 0 ∨ z = 1 ∨ z = 2 ∨ z = 3
    · rcases hd with rfl | rfl | rfl | rfl
      · have HD := Lib.hid (fun W (hW : Below W1.heap.size W1 W) => sDecPlain _ (n - 1) (zs.drop 1) ty k W (by omega) HZD.out HYD.out (HTA.out W hW))
        have er : decB 0 (zs.drop 1) ty k = decP (zs.drop 1) ty k := rfl
        rw [er] at HEX HRS HRZ
        generalize decP (zs.drop 1) ty k = r at HD HEX HRS HRZ
        obtain ⟨rl, rk⟩ := r
        unfold RDs at HD
        simp only at HD HEX HRS HRZ
        clear er HTA HZD HYD
        go_enter Tryz.func22, Tryz.ntmps22
        go_wp2_with (go_at_call 51; refine (HIT.out _).mono ?_; rintro e w' ⟨rfl, rfl⟩)
        refine (HD.out _ HB1.out).mono ?_
        rintro e w2 ⟨v2, rfl, o2, hb2⟩
        have HB2 := Lib.hid hb2
        clear HD htl hcl
        cases rk with
        | false =>
          have HF : Hid (R = ([], false)) := by
            show _ = _
            rw [HEX.out, if_neg (fun q => by cases q.1)]
          clear o2 hb2 HEX HRS HRZ HSM
          go_wp2
          go_ret2
          rw [HF.out]
          exact HNO.out _ HB2.out
        | true =>
          have HT := Lib.hid (sTypeOf v2 rl w2 HRS.out o2.rd)
          have HC := Lib.hid (fun W (hW : Below w2.heap.size w2 W) => sEncCol v2 rl W (by omega) HRS.out (o2.rd.below hW))
          have HY : Hid (typeV rl = ty → encC rl = zs → R = (rl, true)) := fun a b => by rw [HEX.out, if_pos ⟨rfl, a, b⟩]
          have HX1 : Hid (¬ typeV rl = ty → R = ([], false)) := fun a => by rw [HEX.out, if_neg (fun q => a q.2.1)]
          have HX2 : Hid (¬ encC rl = zs → R = ([], false)) := fun a => by rw [HEX.out, if_neg (fun q => a q.2.2)]
          have HCB := Lib.hid (encC_bytes rl)
          clear HEX HRS
          generalize typeV rl = t at HT HY HX1
          have HO2 := Lib.hid o2
          clear o2 hb2
          go_wp2_with fail
          refine HT.out.mono ?_
          rintro e w3 ⟨rfl, hb3⟩
          have B3 := below_then HB2.out hb3 HB2.out.size
          by_cases ht : t = ty
          · subst ht
            have htt : (t != t) = false := by simp
            clear HX1
            go_wp2_with fail
            refine (HC.out _ hb3).mono ?_
            rintro e w4 ⟨v4, rfl, o4, hb4⟩
            have B4 := below_then B3 hb4 B3.size
            have b24 := below_then hb3 hb4 hb3.size
            have HSK := Lib.hid (HSM.out v4 _ (encC rl) w4 rfl HCB.out o4.at B4)
            clear o4 hb4 hb3 HC HT HSM
            generalize encC rl = X at HSK HY HX2
            by_cases hx : X = zs
            · have HF := Lib.hid (HY.out trivial hx)
              have hdt : decide (X = zs) = true := decide_eq_true hx
              rw [hdt] at HSK
              clear hx hdt HY HX2
              go_wp2_with fail
              refine HSK.out.mono ?_
              rintro e w' ⟨rfl, rfl⟩
              go_wp2
              go_ret2
              rw [HF.out]
              have hs1 := HBW.out.size
              exact ⟨_, rfl, ((HO2.out.below b24 (Nat.le_refl _)).wide b24.size).lower hs1, below_then HBW.out B4 hs1⟩
            · have HF := Lib.hid (HX2.out hx)
              have hdt : decide (X = zs) = false := decide_eq_false hx
              rw [hdt] at HSK
              clear hx hdt HY HX2
              go_wp2_with fail
              refine HSK.out.mono ?_
              rintro e w' ⟨rfl, rfl⟩
              go_wp2
              go_ret2
              rw [HF.out]
              exact HNO.out _ B4
          · have htb : (t != ty) = true := by simpa using ht
            have HF := Lib.hid (HX1.out ht)
            clear HX1 HX2 HY ht HC HT HSM hb3
            go_wp2
            go_ret2
            rw [HF.out]
            exact HNO.out _ B3
      · have HD := Lib.hid (fun W (hW : Below W1.heap.size W1 W) => sDecRuns _ (n - 1) (zs.drop 1) ty k W (by omega) HZD.out HYD.out (HTA.out W hW))
        have er : decB 1 (zs.drop 1) ty k = decR (zs.drop 1) ty k := rfl
        rw [er] at HEX HRS HRZ
        generalize decR (zs.drop 1) ty k = r at HD HEX HRS HRZ
        obtain ⟨rl, rk⟩ := r
        unfold RDs at HD
        simp only at HD HEX HRS HRZ
        clear er HTA HZD HYD
        go_enter Tryz.func22, Tryz.ntmps22
        go_wp2_with (go_at_call 51; refine (HIT.out _).mono ?_; rintro e w' ⟨rfl, rfl⟩)
        refine (HD.out _ HB1.out).mono ?_
        rintro e w2 ⟨v2, rfl, o2, hb2⟩
        have HB2 := Lib.hid hb2
        clear HD htl hcl
        cases rk with
        | false =>
          have HF : Hid (R = ([], false)) := by
            show _ = _
            rw [HEX.out, if_neg (fun q => by cases q.1)]
          clear o2 hb2 HEX HRS HRZ HSM
          go_wp2
          go_ret2
          rw [HF.out]
          exact HNO.out _ HB2.out
        | true =>
          have HT := Lib.hid (sTypeOf v2 rl w2 HRS.out o2.rd)
          have HC := Lib.hid (fun W (hW : Below w2.heap.size w2 W) => sEncCol v2 rl W (by omega) HRS.out (o2.rd.below hW))
          have HY : Hid (typeV rl = ty → encC rl = zs → R = (rl, true)) := fun a b => by rw [HEX.out, if_pos ⟨rfl, a, b⟩]
          have HX1 : Hid (¬ typeV rl = ty → R = ([], false)) := fun a => by rw [HEX.out, if_neg (fun q => a q.2.1)]
          have HX2 : Hid (¬ encC rl = zs → R = ([], false)) := fun a => by rw [HEX.out, if_neg (fun q => a q.2.2)]
          have HCB := Lib.hid (encC_bytes rl)
          clear HEX HRS
          generalize typeV rl = t at HT HY HX1
          have HO2 := Lib.hid o2
          clear o2 hb2
          go_wp2_with fail
          refine HT.out.mono ?_
          rintro e w3 ⟨rfl, hb3⟩
          have B3 := below_then HB2.out hb3 HB2.out.size
          by_cases ht : t = ty
          · subst ht
            have htt : (t != t) = false := by simp
            clear HX1
            go_wp2_with fail
            refine (HC.out _ hb3).mono ?_
            rintro e w4 ⟨v4, rfl, o4, hb4⟩
            have B4 := below_then B3 hb4 B3.size
            have b24 := below_then hb3 hb4 hb3.size
            have HSK := Lib.hid (HSM.out v4 _ (encC rl) w4 rfl HCB.out o4.at B4)
            clear o4 hb4 hb3 HC HT HSM
            generalize encC rl = X at HSK HY HX2
            by_cases hx : X = zs
            · have HF := Lib.hid (HY.out trivial hx)
              have hdt : decide (X = zs) = true := decide_eq_true hx
              rw [hdt] at HSK
              clear hx hdt HY HX2
              go_wp2_with fail
              refine HSK.out.mono ?_
              rintro e w' ⟨rfl, rfl⟩
              go_wp2
              go_ret2
              rw [HF.out]
              have hs1 := HBW.out.size
              exact ⟨_, rfl, ((HO2.out.below b24 (Nat.le_refl _)).wide b24.size).lower hs1, below_then HBW.out B4 hs1⟩
            · have HF := Lib.hid (HX2.out hx)
              have hdt : decide (X = zs) = false := decide_eq_false hx
              rw [hdt] at HSK
              clear hx hdt HY HX2
              go_wp2_with fail
              refine HSK.out.mono ?_
              rintro e w' ⟨rfl, rfl⟩
              go_wp2
              go_ret2
              rw [HF.out]
              exact HNO.out _ B4
          · have htb : (t != ty) = true := by simpa using ht
            have HF := Lib.hid (HX1.out ht)
            clear HX1 HX2 HY ht HC HT HSM hb3
            go_wp2
            go_ret2
            rw [HF.out]
            exact HNO.out _ B3
      · have HD := Lib.hid (fun W (hW : Below W1.heap.size W1 W) => sDecDict _ (n - 1) (zs.drop 1) ty k W (by omega) HZD.out HYD.out (HTA.out W hW))
        have er : decB 2 (zs.drop 1) ty k = decD (zs.drop 1) ty k := rfl
        rw [er] at HEX HRS HRZ
        generalize decD (zs.drop 1) ty k = r at HD HEX HRS HRZ
        obtain ⟨rl, rk⟩ := r
        unfold RDs at HD
        simp only at HD HEX HRS HRZ
        clear er HTA HZD HYD
        go_enter Tryz.func22, Tryz.ntmps22
        go_wp2_with (go_at_call 51; refine (HIT.out _).mono ?_; rintro e w' ⟨rfl, rfl⟩)
        refine (HD.out _ HB1.out).mono ?_
        rintro e w2 ⟨v2, rfl, o2, hb2⟩
        have HB2 := Lib.hid hb2
        clear HD htl hcl
        cases rk with
        | false =>
          have HF : Hid (R = ([], false)) := by
            show _ = _
            rw [HEX.out, if_neg (fun q => by cases q.1)]
          clear o2 hb2 HEX HRS HRZ HSM
          go_wp2
          go_ret2
          rw [HF.out]
          exact HNO.out _ HB2.out
        | true =>
          have HT := Lib.hid (sTypeOf v2 rl w2 HRS.out o2.rd)
          have HC := Lib.hid (fun W (hW : Below w2.heap.size w2 W) => sEncCol v2 rl W (by omega) HRS.out (o2.rd.below hW))
          have HY : Hid (typeV rl = ty → encC rl = zs → R = (rl, true)) := fun a b => by rw [HEX.out, if_pos ⟨rfl, a, b⟩]
          have HX1 : Hid (¬ typeV rl = ty → R = ([], false)) := fun a => by rw [HEX.out, if_neg (fun q => a q.2.1)]
          have HX2 : Hid (¬ encC rl = zs → R = ([], false)) := fun a => by rw [HEX.out, if_neg (fun q => a q.2.2)]
          have HCB := Lib.hid (encC_bytes rl)
          clear HEX HRS
          generalize typeV rl = t at HT HY HX1
          have HO2 := Lib.hid o2
          clear o2 hb2
          go_wp2_with fail
          refine HT.out.mono ?_
          rintro e w3 ⟨rfl, hb3⟩
          have B3 := below_then HB2.out hb3 HB2.out.size
          by_cases ht : t = ty
          · subst ht
            have htt : (t != t) = false := by simp
            clear HX1
            go_wp2_with fail
            refine (HC.out _ hb3).mono ?_
            rintro e w4 ⟨v4, rfl, o4, hb4⟩
            have B4 := below_then B3 hb4 B3.size
            have b24 := below_then hb3 hb4 hb3.size
            have HSK := Lib.hid (HSM.out v4 _ (encC rl) w4 rfl HCB.out o4.at B4)
            clear o4 hb4 hb3 HC HT HSM
            generalize encC rl = X at HSK HY HX2
            by_cases hx : X = zs
            · have HF := Lib.hid (HY.out trivial hx)
              have hdt : decide (X = zs) = true := decide_eq_true hx
              rw [hdt] at HSK
              clear hx hdt HY HX2
              go_wp2_with fail
              refine HSK.out.mono ?_
              rintro e w' ⟨rfl, rfl⟩
              go_wp2
              go_ret2
              rw [HF.out]
              have hs1 := HBW.out.size
              exact ⟨_, rfl, ((HO2.out.below b24 (Nat.le_refl _)).wide b24.size).lower hs1, below_then HBW.out B4 hs1⟩
            · have HF := Lib.hid (HX2.out hx)
              have hdt : decide (X = zs) = false := decide_eq_false hx
              rw [hdt] at HSK
              clear hx hdt HY HX2
              go_wp2_with fail
              refine HSK.out.mono ?_
              rintro e w' ⟨rfl, rfl⟩
              go_wp2
              go_ret2
              rw [HF.out]
              exact HNO.out _ B4
          · have htb : (t != ty) = true := by simpa using ht
            have HF := Lib.hid (HX1.out ht)
            clear HX1 HX2 HY ht HC HT HSM hb3
            go_wp2
            go_ret2
            rw [HF.out]
            exact HNO.out _ B3
      · have HD := Lib.hid (fun W (hW : Below W1.heap.size W1 W) => sDecFrame _ (n - 1) (zs.drop 1) k W (by omega) HZD.out HYD.out (HTA.out W hW))
        have er : decB 3 (zs.drop 1) ty k = decF (zs.drop 1) k := rfl
        rw [er] at HEX HRS HRZ
        generalize decF (zs.drop 1) k = r at HD HEX HRS HRZ
        obtain ⟨rl, rk⟩ := r
        unfold RDs at HD
        simp only at HD HEX HRS HRZ
        clear er HTA HZD HYD
        go_enter Tryz.func22, Tryz.ntmps22
        go_wp2_with (go_at_call 51; refine (HIT.out _).mono ?_; rintro e w' ⟨rfl, rfl⟩)
        refine (HD.out _ HB1.out).mono ?_
        rintro e w2 ⟨v2, rfl, o2, hb2⟩
        have HB2 := Lib.hid hb2
        clear HD htl hcl
        cases rk with
        | false =>
          have HF : Hid (R = ([], false)) := by
            show _ = _
            rw [HEX.out, if_neg (fun q => by cases q.1)]
          clear o2 hb2 HEX HRS HRZ HSM
          go_wp2
          go_ret2
          rw [HF.out]
          exact HNO.out _ HB2.out
        | true =>
          have HT := Lib.hid (sTypeOf v2 rl w2 HRS.out o2.rd)
          have HC := Lib.hid (fun W (hW : Below w2.heap.size w2 W) => sEncCol v2 rl W (by omega) HRS.out (o2.rd.below hW))
          have HY : Hid (typeV rl = ty → encC rl = zs → R = (rl, true)) := fun a b => by rw [HEX.out, if_pos ⟨rfl, a, b⟩]
          have HX1 : Hid (¬ typeV rl = ty → R = ([], false)) := fun a => by rw [HEX.out, if_neg (fun q => a q.2.1)]
          have HX2 : Hid (¬ encC rl = zs → R = ([], false)) := fun a => by rw [HEX.out, if_neg (fun q => a q.2.2)]
          have HCB := Lib.hid (encC_bytes rl)
          clear HEX HRS
          generalize typeV rl = t at HT HY HX1
          have HO2 := Lib.hid o2
          clear o2 hb2
          go_wp2_with fail
          refine HT.out.mono ?_
          rintro e w3 ⟨rfl, hb3⟩
          have B3 := below_then HB2.out hb3 HB2.out.size
          by_cases ht : t = ty
          · subst ht
            have htt : (t != t) = false := by simp
            clear HX1
            go_wp2_with fail
            refine (HC.out _ hb3).mono ?_
            rintro e w4 ⟨v4, rfl, o4, hb4⟩
            have B4 := below_then B3 hb4 B3.size
            have b24 := below_then hb3 hb4 hb3.size
            have HSK := Lib.hid (HSM.out v4 _ (encC rl) w4 rfl HCB.out o4.at B4)
            clear o4 hb4 hb3 HC HT HSM
            generalize encC rl = X at HSK HY HX2
            by_cases hx : X = zs
            · have HF := Lib.hid (HY.out trivial hx)
              have hdt : decide (X = zs) = true := decide_eq_true hx
              rw [hdt] at HSK
              clear hx hdt HY HX2
              go_wp2_with fail
              refine HSK.out.mono ?_
              rintro e w' ⟨rfl, rfl⟩
              go_wp2
              go_ret2
              rw [HF.out]
              have hs1 := HBW.out.size
              exact ⟨_, rfl, ((HO2.out.below b24 (Nat.le_refl _)).wide b24.size).lower hs1, below_then HBW.out B4 hs1⟩
            · have HF := Lib.hid (HX2.out hx)
              have hdt : decide (X = zs) = false := decide_eq_false hx
              rw [hdt] at HSK
              clear hx hdt HY HX2
              go_wp2_with fail
              refine HSK.out.mono ?_
              rintro e w' ⟨rfl, rfl⟩
              go_wp2
              go_ret2
              rw [HF.out]
              exact HNO.out _ B4
          · have htb : (t != ty) = true := by simpa using ht
            have HF := Lib.hid (HX1.out ht)
            clear HX1 HX2 HY ht HC HT HSM hb3
            go_wp2
            go_ret2
            rw [HF.out]
            exact HNO.out _ B3
    · have q0 : (z == 0) = false := by simp; omega
      have q1 : (z == 1) = false := by simp; omega
      have q2 : (z == 2) = false := by simp; omega
      have q3 : (z == 3) = false := by simp; omega
      have hwz : IntKind.i64.wrap z = z := IntWalk.i64_in _ (by omega)
      rw [decB_no (by omega)] at HEX
      have HF : Hid (R = ([], false)) := by
        show _ = _
        rw [HEX.out, if_neg (fun q => by cases q.1)]
      rw [HF.out]
      clear hd HEX HRS HRZ HF HSM HTA HZD HYD
      go_enter Tryz.func22, Tryz.ntmps22
      go_wp2_with (go_at_call 51; refine (HIT.out _).mono ?_; rintro e w' ⟨rfl, rfl⟩)
      go_ret2
      exact HNO.out _ HB1.out

end Go.Proofs.YthniakklkepomaaGreat

/- DecCol's exact law, walked; the program's own contract comes as a hypothesis. -/
namespace Go.Proofs.YthniakklkepomaaGreat
open Go.RowKit

def CDecCol : Prop := ∀ (u : Value) (n : Nat) (zs : List Int) (ty k : Int) (w : World), n ≤ 1048576 → zs.length = n → Num.Bytes zs → At 1 w u n (ints .u8 zs) → Calls Tryz.prog 19 #[u, .int .i64 ty, .int .i64 k] w fun e w' => RDs w w' e (decC zs ty k)

set_option maxHeartbeats 2000000 in
theorem lawDecCol (hi : CDecCol) (a : Option Addr) (len cap : Nat) (zs : List Int) (ty k : Int) (w : World) (h : Arg .u8 w a len zs) (hby : Num.Bytes zs) :
    Calls Tryz.prog 5 #[.slice a len cap, .int .i64 ty, .int .i64 k] w fun e w' => e = .returned (.bool true) ∧ Below w.heap.size w w' := by
  by_cases hbig : 1048576 < len
  · go_enter Tryz.func5, Tryz.ntmps5
    go_wp2
    go_ret
    exact ⟨rfl, Below.refl _ _⟩
  · have HZ : Hid (zs.length = len) := h.1
    have hPl := decC_len zs ty k
    have hqq : ((decC zs ty k).2 != (decC zs ty k).2) = false := by simp
    generalize hP : (decC zs ty k).1 = P at hPl
    have HP := Lib.hid hP
    clear hP
    generalize hn : P.length = n at hPl
    have HN := Lib.hid hn
    clear hn
    go_enter Tryz.func5, Tryz.ntmps5
    have bt := Below.refl w.heap.size w
    go_wp2_with fail
    refine (toByteS a len cap zs w (by omega) (h.below bt)).mono ?_
    rintro e w1 ⟨t1, rfl, o1, hb⟩
    have z1 := hb.size
    replace bt := below_then bt hb (by omega)
    clear hb
    go_wp2_with fail
    refine (sDecCol t1 len zs ty k w1 (by omega) HZ.out hby o1.at).mono ?_
    rintro e w2 ⟨v0, rfl, ov, hb⟩
    have z2 := hb.size
    replace o1 := o1.below hb (by omega)
    replace bt := below_then bt hb (by omega)
    clear hb
    rw [HP.out, HN.out] at ov
    clear o1
    go_wp2_with fail
    refine (toByteS a len cap zs w2 (by omega) (h.below bt)).mono ?_
    rintro e w3 ⟨x0, rfl, ox, hb⟩
    have z3 := hb.size
    replace ov := ov.below hb (by omega)
    replace bt := below_then bt hb (by omega)
    clear hb
    go_wp2_with fail
    refine (hi x0 len zs ty k w3 (by omega) HZ.out hby ox.at).mono ?_
    rintro e w4 ⟨g0, rfl, og, hb⟩
    have z4 := hb.size
    replace ov := ov.below hb (by omega)
    replace ox := ox.below hb (by omega)
    replace bt := below_then bt hb (by omega)
    clear hb
    rw [HP.out, HN.out] at og
    go_wp2_with fail
    refine (eqValS g0 v0 n P w4 HN.out og.at ov.at).mono ?_
    rintro e w5 ⟨rfl, hb⟩
    have z5 := hb.size
    replace ov := ov.below hb (by omega)
    replace ox := ox.below hb (by omega)
    replace og := og.below hb (by omega)
    replace bt := below_then bt hb (by omega)
    clear hb
    go_wp2_with fail
    refine (toByteS a len cap zs w5 (by omega) (h.below bt)).mono ?_
    rintro e w6 ⟨t2, rfl, o2, hb⟩
    have z6 := hb.size
    replace ov := ov.below hb (by omega)
    replace ox := ox.below hb (by omega)
    replace og := og.below hb (by omega)
    replace bt := below_then bt hb (by omega)
    clear hb
    go_wp2_with fail
    refine (eqByteS x0 t2 len zs w6 HZ.out ox.at o2.at).mono ?_
    rintro e w7 ⟨rfl, hb⟩
    have z7 := hb.size
    replace ov := ov.below hb (by omega)
    replace ox := ox.below hb (by omega)
    replace og := og.below hb (by omega)
    replace o2 := o2.below hb (by omega)
    replace bt := below_then bt hb (by omega)
    clear hb
    clear o2
    go_wp2_with fail
    refine (markByteS x0 len _ _ _ _ w7 (by omega) (by omega) (by omega) ox).mono ?_
    rintro e w8 ⟨rfl, hnew, hg⟩
    have z8 := hg.size
    replace ov := ov.apart ox (by omega) hg
    replace og := og.apart ox (by omega) hg
    have bg := below_grown_own ox hg (by omega) (by omega)
    replace bt := bt.trans (below_grown_own ox hg (by omega) (by omega))
    clear hg bg ox
    clear hnew
    go_wp2_with fail
    refine (eqValS g0 v0 n P w8 HN.out og.at ov.at).mono ?_
    rintro e w9 ⟨rfl, hb⟩
    have z9 := hb.size
    replace ov := ov.below hb (by omega)
    replace og := og.below hb (by omega)
    replace bt := below_then bt hb (by omega)
    clear hb
    go_wp2_with fail
    refine (markValM g0 n _ _ P 1 w9 (by omega) (by omega) (by omega) HN.out og).mono ?_
    rintro e w10 ⟨rfl, hnew, hg⟩
    have z10 := hg.size
    replace ov := ov.apart og (by omega) hg
    have bg := below_grown_own og hg (by omega) (by omega)
    replace bt := bt.trans (below_grown_own og hg (by omega) (by omega))
    clear hg bg og
    have og := hnew
    clear hnew
    go_wp2_with fail
    refine (heldValS g0 n 1 w10 (by omega) (by omega) (by omega) og.rd).mono ?_
    rintro e w11 ⟨rfl, hb⟩
    have z11 := hb.size
    replace ov := ov.below hb (by omega)
    replace og := og.below hb (by omega)
    replace bt := below_then bt hb (by omega)
    clear hb
    go_wp2_with fail
    refine (toByteS a len cap zs w11 (by omega) (h.below bt)).mono ?_
    rintro e w12 ⟨t3, rfl, o3, hb⟩
    have z12 := hb.size
    replace ov := ov.below hb (by omega)
    replace og := og.below hb (by omega)
    replace bt := below_then bt hb (by omega)
    clear hb
    go_wp2_with fail
    refine (hi t3 len zs ty k w12 (by omega) HZ.out hby o3.at).mono ?_
    rintro e w13 ⟨h0, rfl, oh, hb⟩
    have z13 := hb.size
    replace ov := ov.below hb (by omega)
    replace og := og.below hb (by omega)
    replace o3 := o3.below hb (by omega)
    replace bt := below_then bt hb (by omega)
    clear hb
    rw [HP.out, HN.out] at oh
    clear o3
    go_wp2_with fail
    refine (eqValS h0 v0 n P w13 HN.out oh.at ov.at).mono ?_
    rintro e w14 ⟨rfl, hb⟩
    have z14 := hb.size
    replace ov := ov.below hb (by omega)
    replace og := og.below hb (by omega)
    replace oh := oh.below hb (by omega)
    replace bt := below_then bt hb (by omega)
    clear hb
    go_wp2_with fail
    refine (heldValS g0 n 1 w14 (by omega) (by omega) (by omega) og.rd).mono ?_
    rintro e w15 ⟨rfl, hb⟩
    have z15 := hb.size
    replace ov := ov.below hb (by omega)
    replace og := og.below hb (by omega)
    replace oh := oh.below hb (by omega)
    replace bt := below_then bt hb (by omega)
    clear hb
    go_wp2
    go_ret
    exact ⟨rfl, bt⟩

end Go.Proofs.YthniakklkepomaaGreat

/- Chapter 9's exact laws but DecCol's, walked; the program's own contracts come as hypotheses. -/
namespace Go.Proofs.YthniakklkepomaaGreat
open Go.RowKit

def CEncBy : Prop := ∀ (u : Value) (k : Int) (l : List V) (w : World), l.length ≤ 1048576 → (∀ v ∈ l, v.s.size ≤ maxLen) → Rd 3 w u l.length (vals l) → Calls Tryz.prog 14 #[.int .i64 k, u] w fun e w' => ∃ v', e = .returned v' ∧ Own 5 1 w.heap.size w'.heap.size w' v' (encB k l).length (ints .u8 (encB k l)) ∧ Below w.heap.size w w'
def CBestKind : Prop := ∀ (u : Value) (l : List V) (w : World), l.length ≤ 1048576 → (∀ v ∈ l, v.s.size ≤ maxLen) → Rd 3 w u l.length (vals l) → Calls Tryz.prog 12 #[u] w fun e w' => e = .returned (.int .i64 (bestL l)) ∧ Below w.heap.size w w'
def CEncCol : Prop := ∀ (u : Value) (l : List V) (w : World), l.length ≤ 1048576 → (∀ v ∈ l, v.s.size ≤ maxLen) → Rd 3 w u l.length (vals l) → Calls Tryz.prog 8 #[u] w fun e w' => ∃ v', e = .returned v' ∧ Own 5 1 w.heap.size w'.heap.size w' v' (encC l).length (ints .u8 (encC l)) ∧ Below w.heap.size w w'
def CSaved : Prop := ∀ (u : Value) (l : List V) (w : World), l.length ≤ 1048576 → (∀ v ∈ l, v.s.size ≤ maxLen) → Rd 3 w u l.length (vals l) → Calls Tryz.prog 16 #[u] w fun e w' => e = .returned (.int .i64 (savedL l)) ∧ Below w.heap.size w w'
def CKindText : Prop := ∀ (n : Int) (w : World), Calls Tryz.prog 25 #[.int .i64 n] w fun e w' => e = .returned (.string (kindT n)) ∧ Below w.heap.size w w'

end Go.Proofs.YthniakklkepomaaGreat

/- The contracts of DrawEncCol, DrawEncBy, DrawKindText, DrawVals, DrawDecCol (written by mk_Draw9.py). -/
namespace Go.Proofs.YthniakklkepomaaGreat
open Go.RowKit

theorem drawEncCol (c : Code) (w : World) (h : c.In w) :
    Calls Tryz.prog 7 #[.slice c.a c.len c.cap] w fun e w' => ∃ (v : Value) (l : List V), e = .returned v ∧ AnyList l ∧ Own 54 3 w.heap.size w'.heap.size w' v l.length (vals l) ∧ Below w.heap.size w w' := by
  go_enter Tryz.func7, Tryz.ntmps7
  go_wp2_with fail
  refine (l1New c _ h).mono ?_
  rintro e w1 ⟨rfl, hc1, hb1⟩
  go_wp2_with fail
  refine (l5Any c _ _ hc1).mono ?_
  rintro e w2 ⟨v, l, rfl, H, o2, hc2, hg2⟩
  have O2 := o2.lower hb1.size
  go_wp2
  go_ret
  exact ⟨_, l, rfl, H, O2, below_cur hb1 hg2⟩

theorem drawVals (c : Code) (w : World) (h : c.In w) :
    Calls Tryz.prog 24 #[.slice c.a c.len c.cap] w fun e w' => ∃ (v : Value) (l : List V), e = .returned v ∧ AnyList l ∧ Own 54 3 w.heap.size w'.heap.size w' v l.length (vals l) ∧ Below w.heap.size w w' := by
  go_enter Tryz.func24, Tryz.ntmps24
  go_wp2_with fail
  refine (l1New c _ h).mono ?_
  rintro e w1 ⟨rfl, hc1, hb1⟩
  go_wp2_with fail
  refine (l5Draw c _ _ hc1).mono ?_
  rintro e w2 ⟨v, l, rfl, H, o2, hc2, hg2⟩
  have O2 := o2.lower hb1.size
  go_wp2
  go_ret
  exact ⟨_, l, rfl, H.any, O2, below_cur hb1 hg2⟩

theorem drawKindText (c : Code) (w : World) (h : c.In w) :
    Calls Tryz.prog 23 #[.slice c.a c.len c.cap] w fun e w' => ∃ x : Int, e = .returned (.int .i64 x) ∧ Below w.heap.size w w' := by
  go_enter Tryz.func23, Tryz.ntmps23
  go_wp2_with fail
  refine (l1New c _ h).mono ?_
  rintro e w1 ⟨rfl, hc1, hb1⟩
  go_wp2_with fail
  refine (l1Below c _ 6 _ hc1).mono ?_
  rintro e w2 ⟨x, rfl, hx, hc2, hg2⟩
  have B2 := below_cur hb1 hg2
  have hx6 : x < 6 := by omega
  have hx0 := hx.1
  clear hx hc2 hg2
  go_wp2
  go_ret
  exact ⟨_, rfl, B2⟩

set_option maxHeartbeats 1000000 in
theorem drawEncBy (c : Code) (w : World) (h : c.In w) :
    Calls Tryz.prog 9 #[.slice c.a c.len c.cap] w fun e w' => ∃ (v : Value) (x : Int) (l : List V), e = .returned (.tuple #[.int .i64 x, v]) ∧ AnyList l ∧ Own 54 3 w.heap.size w'.heap.size w' v l.length (vals l) ∧ Below w.heap.size w w' := by
  go_enter Tryz.func9, Tryz.ntmps9
  go_wp2_with fail
  refine (l1New c _ h).mono ?_
  rintro e w1 ⟨rfl, hc1, hb1⟩
  go_wp2_with fail
  refine (l1Below c _ 6 _ hc1).mono ?_
  rintro e w2 ⟨x, rfl, hx, hc2, hg2⟩
  have G2 := (Going.start hc1).next hc2 hg2
  have hx6 : x < 6 := by omega
  have hx0 := hx.1
  clear hx hc2 hg2
  go_wp2_with fail
  refine (l5Any c _ _ G2.cur).mono ?_
  rintro e w3 ⟨v, l, rfl, H, o3, hc3, hg3⟩
  have G3 := G2.next hc3 hg3
  have HB3 := Lib.hid (below_cur hb1 G3.grown)
  have O3 := Lib.hid (o3.lower (show w.heap.size ≤ w2.heap.size by
    have h1 := hb1.size
    have h2 := G2.grown.size
    omega))
  have HH := Lib.hid H
  clear H o3 hc3 hg3 G2 G3
  go_wp2
  go_ret2
  exact ⟨_, _, l, rfl, HH.out, O3.out, HB3.out⟩

set_option maxHeartbeats 2000000 in
theorem drawDecCol (c : Code) (w : World) (h : c.In w) :
    Calls Tryz.prog 21 #[.slice c.a c.len c.cap] w fun e w' => ∃ (v : Value) (zs : List Int) (ty k : Int), e = .returned (.tuple #[v, .int .i64 ty, .int .i64 k]) ∧ I64 ty ∧ I64 k ∧ Num.Bytes zs ∧ zs.length ≤ 4000 ∧ Own 5 1 w.heap.size w'.heap.size w' v zs.length (ints .u8 zs) ∧ Below w.heap.size w w' := by
  go_enter Tryz.func21, Tryz.ntmps21
  go_wp2_with fail
  refine (l1New c _ h).mono ?_
  rintro e w1 ⟨rfl, hc1, hb1⟩
  go_wp2_with fail
  refine (l5Draw c _ _ hc1).mono ?_
  rintro e w2 ⟨v2, l, rfl, hl, o2, hc2, hg2⟩
  have G2 := (Going.start hc1).next hc2 hg2
  have HA := Lib.hid hl.any
  obtain ⟨hl1, hl2, _⟩ := hl
  clear hc2 hg2
  go_wp2_with fail
  refine (l5Type c _ v2 l.length l w2 rfl hl1 (by omega) HA.out.2 o2.rd G2.cur).mono ?_
  rintro e w3 ⟨ty, k, rfl, ht, hk, hc3, hg3⟩
  have G3 := G2.next hc3 hg3
  have O3 := (o2.draw hg3 hc1.lt).wide hg3.size
  have hlt2 : w1.heap.size ≤ w2.heap.size := G2.grown.size
  clear hc3 hg3 o2 G2
  have HE := Lib.hid (sEncCol v2 l w3 (by omega) HA.out.sizes O3.rd)
  have hel := encC_len l
  have HX := Lib.hid (fun q W (hW : Rd 3 W v2 l.length (vals l)) => sEncBy v2 q l W (by omega) HA.out.sizes hW)
  have HXL := Lib.hid (fun q => encB_len q l)
  have HXB := Lib.hid (fun q => encB_bytes q l)
  have HCB := Lib.hid (encC_bytes l)
  obtain ⟨b2, cp2, rfl⟩ : ∃ b cp, v2 = .slice (some ⟨b, 0, none⟩) l.length cp := by
    obtain ⟨b, cp, e, _⟩ := O3
    exact ⟨b, cp, e⟩
  generalize l.length = lc at *
  generalize hX : encC l = X at HE hel HCB
  clear hX
  go_wp2_with fail
  refine HE.out.mono ?_
  rintro e w4 ⟨v4, rfl, o4, b4⟩
  have G4 := G3.below b4
  have O4 := (O3.below b4 (Nat.le_refl _)).wide b4.size
  clear HE O3
  go_wp2_with fail
  refine (l1Once c _ 5 _ G4.cur).mono ?_
  rintro e w5 ⟨once, rfl, hc5, hg5⟩
  have G5 := G4.next hc5 hg5
  have O5 := (O4.draw hg5 hc1.lt).wide hg5.size
  have p5 := ((o4.lower G3.grown.size).draw hg5 hc1.lt).wide hg5.size
  clear hc5 hg5 O4 o4 b4 G3 G4
  cases once with
  | false =>
    obtain ⟨bx, cx, rfl⟩ : ∃ b cp, v4 = .slice (some ⟨b, 0, none⟩) X.length cp := by
      obtain ⟨b, cp, e, _⟩ := p5
      exact ⟨b, cp, e⟩
    go_wp2_with fail
    refine (l1Bent c _ _ X.length X w5 (by omega) rfl HCB.out p5.at G5.cur).mono ?_
    rintro e wz ⟨vz, zs, rfl, hby, hzl, oz, hcz, hgz⟩
    have GZ := G5.next hcz hgz
    have HBZ := Lib.hid (below_cur hb1 GZ.grown)
    have OZ := Lib.hid (oz.lower (show w.heap.size ≤ w5.heap.size by
      have h1 := hb1.size
      have h2 := G5.grown.size
      omega))
    have HZ : Hid (zs.length ≤ 4000) := by
      show _ ≤ _
      omega
    have HBY := Lib.hid hby
    obtain ⟨bz, cpz, rfl⟩ : ∃ b cp, vz = .slice (some ⟨b, 0, none⟩) zs.length cp := by
      obtain ⟨b, cp, e, _⟩ := oz
      exact ⟨b, cp, e⟩
    clear oz hcz hgz hzl G5 GZ hby p5
    go_wp2
    go_ret3
    exact ⟨_, zs, ty, k, rfl, ht, hk, HBY.out, HZ.out, OZ.out, HBZ.out⟩
  | true =>
    go_wp2_with fail
    refine (l1Below c _ 5 _ G5.cur).mono ?_
    rintro e w6 ⟨x, rfl, hx, hc6, hg6⟩
    have G6 := G5.next hc6 hg6
    have O6 := (O5.draw hg6 hc1.lt).wide hg6.size
    have hx5 : x < 5 := by omega
    have hx0 := hx.1
    have hwx : IntKind.u8.wrap x = x := IntWalk.u8_in _ (by omega)
    have own7 := (own_lit (e := 5) (size := 1) w6 #[.int .u8 x] 1 (by unfold maxLen; omega) rfl)
    have hb7 := below_alloc w6 (.cells #[.int .u8 x] 5)
    have G7 := G6.below hb7
    have O7 := (O6.below hb7 (Nat.le_refl _)).wide hb7.size
    have HEX := Lib.hid (HX.out x _ O7.rd)
    have HXB2 : Hid (Num.Bytes (x :: encB x l)) := fun y hy => by
      rcases List.mem_cons.1 hy with rfl | hy
      · omega
      · exact HXB.out x y hy
    have hxl := HXL.out x
    generalize hY : encB x l = Y at HEX HXB2 hxl
    clear hY hx hc6 hg6 G5 O5 p5 hb7
    have HYI : Hid (∀ (W : World) v m, Own 5 1 w1.heap.size W.heap.size W v m (.int .u8 x :: ints .u8 Y) → Own 5 1 w1.heap.size W.heap.size W v m (ints .u8 (x :: Y))) := fun _ _ _ h => h
    have HYL : Hid ((x :: Y).length = 1 + Y.length) := by show _ = _; rw [List.length_cons]; omega
    generalize hyn : Y.length = yn at HEX HYL hxl
    clear hyn
    go_wp2_with fail
    refine HEX.out.mono ?_
    rintro e w8 ⟨v8, rfl, o8, b8⟩
    have G8 := G7.below b8
    have own8 := (own7.below b8 (Nat.le_refl _)).wide b8.size
    obtain ⟨g6, off6, cp6, rfl, hn6, hc6, hl6, hcs6⟩ := o8.at
    have HL6 := Lib.hid hl6
    have HC6 := Lib.hid hcs6
    clear hl6 hcs6 o8 own7 O7 HEX G7 O6
    go_wp2_with (at_builtin; refine append_law Tryz.elemBytes rfl _ _ rfl _ _ _ _ _ rfl own8 g6 off6 yn cp6 (ints .u8 Y) rfl HL6.out HC6.out (ints_one _ _) (by unfold maxLen; omega) (by omega) ?_)
    intro v9 w9 o9 e9
    have hz9 : w1.heap.size ≤ w6.heap.size := G6.grown.size
    have G9 := G8.ext own8 hz9 e9
    have p9 := HYI.out _ _ _ (o9.lower hz9)
    rw [← HYL.out] at p9
    clear o9 e9 own8 G8 G6 b8
    obtain ⟨bx, cx, rfl⟩ : ∃ b cp, v9 = .slice (some ⟨b, 0, none⟩) (x :: Y).length cp := by
      obtain ⟨b, cp, e, _⟩ := p9
      exact ⟨b, cp, e⟩
    go_wp2_with fail
    refine (l1Bent c _ _ (x :: Y).length (x :: Y) w9 (by have := HYL.out; omega) rfl HXB2.out p9.at G9.cur).mono ?_
    rintro e wz ⟨vz, zs, rfl, hby, hzl, oz, hcz, hgz⟩
    have GZ := G9.next hcz hgz
    have HBZ := Lib.hid (below_cur hb1 GZ.grown)
    have OZ := Lib.hid (oz.lower (show w.heap.size ≤ w9.heap.size by
      have h1 := hb1.size
      have h2 := G9.grown.size
      omega))
    have HZ : Hid (zs.length ≤ 4000) := by
      show _ ≤ _
      have := HYL.out; omega
    have HBY := Lib.hid hby
    obtain ⟨bz, cpz, rfl⟩ : ∃ b cp, vz = .slice (some ⟨b, 0, none⟩) zs.length cp := by
      obtain ⟨b, cp, e, _⟩ := oz
      exact ⟨b, cp, e⟩
    clear oz hcz hgz hzl G9 GZ hby p9
    go_wp2
    go_ret3
    exact ⟨_, zs, ty, k, rfl, ht, hk, HBY.out, HZ.out, OZ.out, HBZ.out⟩

end Go.Proofs.YthniakklkepomaaGreat
