/- Texts of this claim, one behind the other: Law6b, Law6c. -/
import Derived.Test.YtcnackecchjckaaP16
import Derived.Test.YtcnackecchjckaaP12
import Derived.Test.YtcnackecchjckaaP3
import Derived.Test.YtcnackecchjckaaP7

/- The laws FnRuns and FnRunsBent, walked. -/
namespace Go.Proofs.Ytcnackecchjckaa
open Go.RowKit

set_option maxHeartbeats 2000000 in
theorem lawFnRuns (c : Code) (w : World) (h : c.len ≤ 1048576 → c.In w) :
    Calls Try.prog 3 #[.slice c.a c.len c.cap] w fun e w' => e = .returned (.bool true) ∧ Below w.heap.size w w' := by
  by_cases hbig : 1048576 < c.len
  · go_enter Try.func3, Try.ntmps3
    go_wp2_with (go_at_call 11; refine (big_yes _ _ _ _ hbig).mono ?_; rintro e w' ⟨rfl, rfl⟩)
    go_ret
    exact ⟨rfl, Below.refl _ _⟩
  · have hin := h (by omega)
    clear h
    go_enter Try.func3, Try.ntmps3
    go_wp2_with fail
    refine (big_no _ _ _ _ (by omega)).mono ?_
    rintro e w' ⟨rfl, rfl⟩
    go_wp2_with fail
    refine (drawRuns c _ hin).mono ?_
    rintro e w1 ⟨v1, l, rfl, hl, o1, b1⟩
    have HL := Lib.hid hl
    have HSZ := Lib.hid hl.sizes
    have hl16 := hl.1
    clear hl
    obtain ⟨bl, cl, hv1⟩ := o1.shape
    subst hv1
    go_wp2_with fail
    refine (iRuns _ l w1 (by omega) HSZ.out o1.rd).mono ?_
    rintro e w2 ⟨v2, rfl, o2, b2⟩
    have B2 := below_then b1 b2 b1.size
    have L2 := (o1.below b2 (Nat.le_refl _)).wide b2.size
    obtain ⟨br, cr, hv2⟩ := o2.shape
    subst hv2
    clear o1 b2
    go_wp2_with fail
    refine (iEncRuns _ l w2 (by omega) HSZ.out L2.rd).mono ?_
    rintro e w3 ⟨v3, rfl, o3, b3⟩
    have B3 := below_then B2 b3 B2.size
    have L3 := (L2.below b3 (Nat.le_refl _)).wide b3.size
    have R3 := (o2.below b3 (Nat.le_refl _)).wide b3.size
    obtain ⟨be, ce, hv3⟩ := o3.shape
    subst hv3
    clear L2 o2 b3 b1 B2
    have HB0 := Lib.hid (Below.refl w3.heap.size w3)
    have hLl : Hid (∀ W, Below w3.heap.size w3 W → Rd 3 W (.slice (some ⟨bl, 0, none⟩) l.length cl) l.length (vals l)) := fun W hW => L3.rd.below hW
    have hRr : Hid (∀ W, Below w3.heap.size w3 W → Rd 4 W (.slice (some ⟨br, 0, none⟩) (runsL l).length cr) (runsL l).length (rus (runsL l))) := fun W hW => R3.rd.below hW
    have hBb : Hid (∀ W, Below w3.heap.size w3 W → At 1 W (.slice (some ⟨be, 0, none⟩) (encR l).length ce) (encR l).length (ints .u8 (encR l))) := fun W hW => o3.at.below hW
    have HRS : Hid (∀ u ∈ runsL l, u.v.s.size ≤ maxLen) := runsL_all (p := fun v => v.s.size ≤ maxLen) HSZ.out
    have hrl := runsL_len l
    have HK := Lib.hid (fun W hW => sEncRuns _ l W (by omega) HSZ.out (hLl.out W hW))
    have HI1 := Lib.hid (fun W hW => iLongestRun _ l W (by omega) HSZ.out (hLl.out W hW))
    have HI2 := Lib.hid (fun W hW => sLongestRun _ l W (by omega) (hLl.out W hW))
    have HI3 := Lib.hid (fun W hW => iTurns _ l W (by omega) HSZ.out (hLl.out W hW))
    have HI4 := Lib.hid (fun W hW => sTurns _ l W (hLl.out W hW))
    have HI5 := Lib.hid (fun W hW => iSpread _ (runsL l) W (by omega) HRS.out (hRr.out W hW))
    rw [spread_runs (by omega)] at HI5
    have HI6 := Lib.hid (fun W hW => iTypeOf _ l W (by omega) HSZ.out (hLl.out W hW))
    have HI7 := Lib.hid (fun ty k W hW => iDecRuns _ (encR l).length (encR l) ty k W (by have := encR_len l; omega) rfl (encR_bytes l) (hBb.out W hW))
    have HTT : Hid (0 < l.length → (runsL l).length = turnsL l + 1) := runs_turns
    have HTU := Lib.hid (totU_runs l)
    have HAP := Lib.hid (fun i (hi : i + 1 < (runsL l).length) => runs_apart l hi)
    have HRK := Lib.hid (runsL_k l)
    have HDE := Lib.hid (dec_enc (l := l))
    have HE0 : Hid (typeV l = 0 → (encR l).length = 0) := fun h => by
      unfold encR
      rw [if_pos h]
      rfl
    generalize longL l = lo at HI1 HI2
    generalize turnsL l = tu at HI3 HI4 HTT
    generalize runsL l = r at *
    clear HRS
    have hlo : (lo != lo) = false := by simp
    have htu : ((tu : Int) != (tu : Int)) = false := by simp
    generalize hnn : l.length = n at *
    generalize hmm : r.length = m at *
    have HNN := Lib.hid hnn
    have HMM := Lib.hid hmm
    have hel := encR_len l
    generalize hcc : (encR l).length = ec at *
    have HCC := Lib.hid hcc
    clear hnn hmm hcc L3 o3
    go_wp2_with fail
    refine (HK.out _ HB0.out).mono ?_
    rintro e w4 ⟨v4, rfl, o4, b4⟩
    have hb4 := below_then HB0.out b4 (Nat.le_refl _)
    have hs4 := Lib.hid (same _ v4 ec (encR l) w4 HCC.out (hBb.out _ hb4) o4.at)
    obtain ⟨b4', c4', hv4⟩ := o4.shape
    subst hv4
    clear o4 b4 HK
    go_wp2_with fail
    refine hs4.out.mono ?_
    rintro e w5 ⟨rfl, b5⟩
    have hb5 := below_then hb4 b5 hb4.size
    clear hb4 b5 hs4
    go_wp2_with fail
    refine (HI1.out _ hb5).mono ?_
    rintro e w6 ⟨rfl, b6⟩
    have hb6 := below_then hb5 b6 hb5.size
    clear hb5 b6 HI1
    go_wp2_with fail
    refine (HI2.out _ hb6).mono ?_
    rintro e w7 ⟨rfl, b7⟩
    have hb7 := below_then hb6 b7 hb6.size
    clear hb6 b7 HI2
    go_wp2_with fail
    refine (HI3.out _ hb7).mono ?_
    rintro e w8 ⟨rfl, b8⟩
    have hb8 := below_then hb7 b8 hb7.size
    clear hb7 b8
    go_wp2_with fail
    refine (HI4.out _ hb8).mono ?_
    rintro e w9 ⟨rfl, b9⟩
    have hb9 := below_then hb8 b9 hb8.size
    clear hb8 b9 HI4
    go_wp2_with fail
    refine (HI5.out _ hb9).mono ?_
    rintro e w10 ⟨v10, rfl, o10, b10⟩
    have hb10 := below_then hb9 b10 hb9.size
    have hs10 := Lib.hid (sameVals v10 _ n l w10 HNN.out o10.rd (hLl.out _ hb10))
    obtain ⟨b10', c10', hv10⟩ := o10.shape
    subst hv10
    clear o10 b10 HI5 hb9
    go_wp2_with fail
    refine hs10.out.mono ?_
    rintro e w11 ⟨rfl, b11⟩
    have hb11 := below_then hb10 b11 hb10.size
    clear hb10 b11 hs10
    obtain ⟨a2, c2, e2, _, HC⟩ := (hRr.out _ hb11).runs HMM.out
    cases e2
    have HT : Hid (∀ k, k < m → totU (r.take (k + 1)) = totU (r.take k) + (r.getD k U.zero).k) := fun k hk => totU_take (by rw [HMM.out]; exact hk)
    have HT0 : Hid (totU (r.take 0) = 0) := rfl
    have HTB : Hid (∀ k, k ≤ m → 0 ≤ totU (r.take k) ∧ totU (r.take k) ≤ 16 * k) := by
      intro k
      induction k with
      | zero => intro _; exact ⟨by rw [HT0.out]; omega, by rw [HT0.out]; omega⟩
      | succ k ih =>
        intro hk
        have h1 := ih (by omega)
        have h2 := HT.out k (by omega)
        have hkr : k < r.length := by rw [HMM.out]; omega
        have e : r.getD k U.zero = r[k] := by simp [hkr]
        have h3 := HRK.out _ (List.getElem_mem hkr)
        rw [← e] at h3
        rw [h2]
        exact ⟨by omega, by omega⟩
    go_wp2
    go_loopw [6, 7] (fun t i wr => ∃ k : Nat, k ≤ m ∧ i = .int .i64 k ∧ t = .int .i64 (totU (r.take k)) ∧ Below w11.heap.size w11 wr) (fun _ i _ => m - (intOf i).toNat)
    case atStart => exact ⟨0, Nat.zero_le _, rfl, by rw [HT0.out], Below.refl _ _⟩
    case round =>
      obtain ⟨k, hk, rfl, rfl, hbr⟩ := hrel
      by_cases hlt : k < m
      · obtain ⟨b, off, e1, c0, c1, c2, c3⟩ := HC.out k hlt wr hbr
        cases e1
        have HTK := Lib.hid (HT.out k hlt)
        have htb := HTB.out k hk
        have hxk : 1 ≤ (r.getD k U.zero).k ∧ (r.getD k U.zero).k ≤ n := by
          have hkr : k < r.length := by rw [HMM.out]; omega
          have e : r.getD k U.zero = r[k] := by simp [hkr]
          rw [e]
          exact HRK.out _ (List.getElem_mem hkr)
        obtain ⟨hx1, hx2⟩ := hxk
        cases k with
        | zero =>
          generalize r.getD 0 U.zero = x at c0 c1 c2 c3 HTK hx1 hx2
          obtain ⟨⟨t1, n1, s1⟩, q⟩ := x
          simp only [Nat.zero_mul, Nat.zero_add] at c0 c1 c2 c3 HTK hx1 hx2
          generalize totU (r.take 0) = z at HTK htb
          have hq1 : (q < 1) = False := by simp; omega
          go_wp2
          go_quiet (fail)
          go_wp2
          go_roundw
          case rel => exact ⟨1, by omega, by go_num, by (rw [HTK.out]; try go_num), hbr.trans (below_drewN _ _ _)⟩
          case measure => simp [intOf]; omega
        | succ j =>
          obtain ⟨b', off', e2, d0, d1, d2, d3⟩ := HC.out j (by omega) wr hbr
          cases e2
          have hq := fun W => run_eql_val (r.getD (j + 1) U.zero).v (r.getD j U.zero).v W
          rw [HAP.out j (by omega)] at hq
          generalize r.getD (j + 1) U.zero = x at c0 c1 c2 c3 HTK hx1 hx2 hq
          generalize r.getD j U.zero = y at d0 d1 d2 d3 hq
          obtain ⟨⟨t1, n1, s1⟩, q⟩ := x
          obtain ⟨⟨t2, n2, s2⟩, q2⟩ := y
          simp only [Nat.zero_add] at c0 c1 c2 c3 d0 d1 d2 d3 HTK hx1 hx2 hq
          generalize totU (r.take (j + 1)) = z at HTK htb
          have hm16 : m ≤ 16 := by omega
          have hj0 : 0 ≤ (j : Int) + 1 := by omega
          have hjp : (0 : Int) < (j : Int) + 1 := by omega
          have hq1 : (q < 1) = False := by simp; omega
          have hjm : j < m := by omega
          have hj1 : (j : Int) + 1 < (m : Int) := by omega
          go_wp2
          go_quiet (fail)
          go_wp2
          go_roundw
          case rel => exact ⟨j + 1 + 1, by omega, by go_num, by (rw [HTK.out]; try go_num), hbr.trans (below_drewN _ _ _)⟩
          case measure => simp [intOf]; omega
      · obtain rfl : k = m := by omega
        rw [← HMM.out, List.take_length, HTU.out, HMM.out]
        have hnn : ((n : Int) != (n : Int)) = false := by simp
        have hb12 := below_then hb11 hbr hb11.size
        have B12 := below_then B3 hb12 B3.size
        by_cases hn0 : n = 0
        · subst hn0
          have HTY : Hid (typeV l = 0) := by
            show _ = _
            unfold typeV
            rw [if_neg]
            rintro ⟨h1, _⟩
            rw [HNN.out] at h1
            cases h1
          have hec := HE0.out HTY.out
          go_wp2_with fail
          refine (HI6.out _ hb12).mono ?_
          rintro e w13 ⟨rfl, b13⟩
          rw [HTY.out]
          have B13 := below_then B12 b13 B12.size
          subst hec
          go_wp2
          go_ret
          exact ⟨rfl, B13⟩
        · have hmt := HTT.out (by omega)
          have hmt2 : ((k : Int) != (tu : Int) + 1) = false := by simp; omega
          have hnpos : (0 : Int) < (n : Int) := by omega
          go_wp2_with fail
          refine (HI3.out _ hb12).mono ?_
          rintro e w13 ⟨rfl, b13⟩
          have hb13 := below_then hb12 b13 hb12.size
          have B13 := below_then B12 b13 B12.size
          go_wp2_with fail
          refine (HI6.out _ hb13).mono ?_
          rintro e w14 ⟨rfl, b14⟩
          have hb14 := below_then hb13 b14 hb13.size
          have B14 := below_then B13 b14 B13.size
          clear HI6 HI3 b13 b14 hb13 hb12 B12 B13
          by_cases ht : typeV l = 0
          · have hec := HE0.out ht
            rw [ht]
            subst hec
            go_wp2
            go_ret
            exact ⟨rfl, B14⟩
          · have htb : (typeV l == 0) = false := by simpa using ht
            have HDD := Lib.hid (HDE.out ht)
            have HDI := Lib.hid (HI7.out (typeV l) n _ hb14)
            rw [HDD.out] at HDI
            generalize typeV l = ty at htb HDI
            go_wp2_with fail
            refine HDI.out.mono ?_
            rintro e w15 ⟨v15, rfl, o15, b15⟩
            have hb15 := below_then hb14 b15 hb14.size
            have B15 := below_then B14 b15 B14.size
            have HSV := Lib.hid (sameVals v15 _ n l w15 HNN.out (by have := o15.rd; rw [HNN.out] at this; exact this) (hLl.out _ hb15))
            obtain ⟨b15', c15', hv15⟩ := o15.shape
            subst hv15
            clear o15 b15 HDI
            go_wp2_with fail
            refine HSV.out.mono ?_
            rintro e w16 ⟨rfl, b16⟩
            have B16 := below_then B15 b16 B15.size
            go_wp2
            go_ret
            exact ⟨rfl, B16⟩

end Go.Proofs.Ytcnackecchjckaa

/- The law FnRunsBent, walked. -/
namespace Go.Proofs.Ytcnackecchjckaa
open Go.RowKit

theorem dec_sizes (zs : List Int) (ty k : Int) : ∀ v ∈ (decR zs ty k).1, v.s.size ≤ maxLen := by
  cases hk : Num.inB k 1 64 with
  | false => rw [decR_none hk]; exact fun _ h => by cases h
  | true =>
    rw [decR_get hk]
    cases hg : getU zs ty with
    | none => exact fun _ h => by cases h
    | some r =>
      simp only
      split
      · have hr : ∀ u ∈ r, u.v.s.size ≤ maxLen := by
          unfold getU at hg
          split at hg
          · exact decU_size hg
          · cases hg
        exact spreadL_all (p := fun v => v.s.size ≤ maxLen) hr
      · exact fun _ h => by cases h

set_option maxHeartbeats 2000000 in
theorem lawFnRunsBent (c : Code) (w : World) (h : c.len ≤ 1048576 → c.In w) :
    Calls Try.prog 4 #[.slice c.a c.len c.cap] w fun e w' => e = .returned (.bool true) ∧ Below w.heap.size w w' := by
  by_cases hbig : 1048576 < c.len
  · go_enter Try.func4, Try.ntmps4
    go_wp2_with (go_at_call 11; refine (big_yes _ _ _ _ hbig).mono ?_; rintro e w' ⟨rfl, rfl⟩)
    go_ret
    exact ⟨rfl, Below.refl _ _⟩
  · have hin := h (by omega)
    clear h
    go_enter Try.func4, Try.ntmps4
    go_wp2_with fail
    refine (big_no _ _ _ _ (by omega)).mono ?_
    rintro e w' ⟨rfl, rfl⟩
    go_wp2_with fail
    refine (drawDecRuns c _ hin).mono ?_
    rintro e w1 ⟨v1, zs, ty, k, rfl, _, _, hby, hzl, o1, b1⟩
    obtain ⟨bb, cb, hv1⟩ := o1.shape
    subst hv1
    have hBb : Hid (∀ W, Below w1.heap.size w1 W → At 1 W (.slice (some ⟨bb, 0, none⟩) zs.length cb) zs.length (ints .u8 zs)) := fun W hW => o1.at.below hW
    have HID := Lib.hid (fun W hW => iDecRuns _ zs.length zs ty k W (by omega) rfl hby (hBb.out W hW))
    have HSD := Lib.hid (fun W hW => sDecRuns _ zs.length zs ty k W (by omega) rfl hby (hBb.out W hW))
    have HDK := Lib.hid (dec_ok hby (ty := ty) (k := k))
    have HDS := Lib.hid (dec_sizes zs ty k)
    have HDL := Lib.hid (decR_len zs ty k)
    clear o1
    generalize hd : decR zs ty k = d at HID HSD HDK HDS HDL
    obtain ⟨dl, dk⟩ := d
    simp only at HID HSD HDK HDS HDL
    have hdl := HDL.out
    clear hd HDL
    generalize hzn : zs.length = zn at *
    have HZN := Lib.hid hzn
    clear hzn
    go_wp2_with fail
    refine (HID.out _ (Below.refl _ _)).mono ?_
    rintro e w2 ⟨v2, rfl, o2, b2⟩
    simp only at o2
    obtain ⟨bl, cl, hv2⟩ := o2.shape
    subst hv2
    have hb2 := below_then (Below.refl w1.heap.size w1) b2 (Nat.le_refl _)
    have B2 := below_then b1 b2 b1.size
    clear HID
    go_wp2_with fail
    refine (HSD.out _ hb2).mono ?_
    rintro e w3 ⟨v3, rfl, o3, b3⟩
    simp only at o3
    obtain ⟨bm, cm, hv3⟩ := o3.shape
    subst hv3
    have hb3 := below_then hb2 b3 hb2.size
    have B3 := below_then B2 b3 B2.size
    have L3 := (o2.below b3 (Nat.le_refl _)).wide b3.size
    clear HSD o2 b2 b3 hb2 B2
    go_wp2_with fail
    refine (drawSpread c _ (hin.below B3)).mono ?_
    rintro e w4 ⟨v4, r, rfl, hr, o4, b4⟩
    obtain ⟨br, cr, hv4⟩ := o4.shape
    subst hv4
    have hb4 := below_then hb3 b4 hb3.size
    have B4 := below_then B3 b4 B3.size
    have hLl : Hid (∀ W, Below w4.heap.size w4 W → Rd 3 W (.slice (some ⟨bl, 0, none⟩) dl.length cl) dl.length (vals dl)) := fun W hW => (L3.below b4 (Nat.le_refl _)).rd.below hW
    have hMm : Hid (∀ W, Below w4.heap.size w4 W → Rd 3 W (.slice (some ⟨bm, 0, none⟩) dl.length cm) dl.length (vals dl)) := fun W hW => (o3.below b4 (Nat.le_refl _)).rd.below hW
    have hRr : Hid (∀ W, Below w4.heap.size w4 W → Rd 4 W (.slice (some ⟨br, 0, none⟩) r.length cr) r.length (rus r)) := fun W hW => o4.rd.below hW
    have hBb4 : Hid (∀ W, Below w4.heap.size w4 W → At 1 W (.slice (some ⟨bb, 0, none⟩) zn cb) zn (ints .u8 zs)) := fun W hW => hBb.out W (below_then hb4 hW hb4.size)
    have HRS := Lib.hid hr.sizes
    have hr16 := hr.1
    have HI1 := Lib.hid (fun W hW => sameVals _ _ dl.length dl W rfl (hLl.out W hW) (hMm.out W hW))
    have HI2 := Lib.hid (fun W hW => iSpread _ r W (by omega) HRS.out (hRr.out W hW))
    have HI3 := Lib.hid (fun W hW => sSpread _ r W (hRr.out W hW))
    have HI4 := Lib.hid (fun W hW => iEncRuns _ dl W (by omega) HDS.out (hLl.out W hW))
    have HI5 := Lib.hid (fun W hW => iTypeOf _ dl W (by omega) HDS.out (hLl.out W hW))
    have HSPL : Hid ((spreadL r).length ≤ 64) := spreadL_len r
    clear o4 o3 L3 hr b4 B3 hb3 hBb hb4
    have hkk : (dk != dk) = false := by simp
    generalize hsl : spreadL r = S at *
    clear hsl
    generalize hdn : dl.length = dn at *
    have HDN := Lib.hid hdn
    clear hdn
    generalize r.length = rn at *
    have HB0 := Lib.hid (Below.refl w4.heap.size w4)
    go_wp2_with fail
    refine (HI1.out _ HB0.out).mono ?_
    rintro e w5 ⟨rfl, b5⟩
    have hb5 := below_then HB0.out b5 (Nat.le_refl _)
    clear HI1 b5
    go_wp2_with fail
    refine (HI2.out _ hb5).mono ?_
    rintro e w6 ⟨v6, rfl, o6, b6⟩
    have hb6 := below_then hb5 b6 hb5.size
    obtain ⟨b6', c6', hv6⟩ := o6.shape
    subst hv6
    clear HI2 hb5 b6
    go_wp2_with fail
    refine (HI3.out _ hb6).mono ?_
    rintro e w7 ⟨v7, rfl, o7, b7⟩
    have hb7 := below_then hb6 b7 hb6.size
    obtain ⟨b7', c7', hv7⟩ := o7.shape
    subst hv7
    have HS7 := Lib.hid (sameVals _ _ S.length S w7 rfl (o6.below b7 (Nat.le_refl _)).rd o7.rd)
    clear HI3 hb6 b7 o6 o7
    generalize S.length = sn at *
    go_wp2_with fail
    refine HS7.out.mono ?_
    rintro e w8 ⟨rfl, b8⟩
    have hb8 := below_then hb7 b8 hb7.size
    have B8 := below_then B4 hb8 B4.size
    clear HS7 hb7 b8
    cases dk with
    | false =>
      go_wp2_with fail
      go_ret
      exact ⟨rfl, B8⟩
    | true =>
      obtain ⟨hd1, hd2, hd3⟩ := HDK.out rfl
      have HD1 := Lib.hid hd1
      have HD3 := Lib.hid hd3
      subst hd2
      have hdd : ((dn : Int) == (dn : Int)) = true := by simp
      have htt : (ty == ty) = true := by simp
      clear hd1 hd3 HDK
      rw [HD1.out] at HI4
      rw [HD3.out] at HI5
      go_wp2_with fail
      refine (HI4.out _ hb8).mono ?_
      rintro e w9 ⟨v9, rfl, o9, b9⟩
      have hb9 := below_then hb8 b9 hb8.size
      have B9 := below_then B8 b9 B8.size
      rw [HZN.out] at o9
      obtain ⟨b9', c9', hv9⟩ := o9.shape
      subst hv9
      have HS9 := Lib.hid (same _ _ zn zs w9 HZN.out o9.at (hBb4.out _ hb9))
      clear HI4 hb8 b9 B8 o9
      go_wp2_with fail
      refine HS9.out.mono ?_
      rintro e w10 ⟨rfl, b10⟩
      have hb10 := below_then hb9 b10 hb9.size
      have B10 := below_then B9 b10 B9.size
      clear HS9 hb9 b10 B9
      go_wp2_with fail
      refine (HI5.out _ hb10).mono ?_
      rintro e w11 ⟨rfl, b11⟩
      have B11 := below_then B10 b11 B10.size
      go_wp2
      go_ret
      exact ⟨rfl, B11⟩

end Go.Proofs.Ytcnackecchjckaa
