/- Texts of this claim, one behind the other: LawPutRows. -/
import Derived.Test.YtkofafefnlommaaP19
import Derived.Test.YtkofafefnlommaaP12
import Derived.Test.YtkofafefnlommaaP22
import Derived.Test.YtkofafefnlommaaP20
import Derived.Test.YtkofafefnlommaaP6

/- The law FnPutRows, walked (written by mk_LawPutRows.py). -/
namespace Go.Proofs.Ytkofafefnlommaa
open Go.RowKit

set_option maxRecDepth 100000 in
set_option maxHeartbeats 4000000 in
theorem lawFnPutRows (c : Code) (w : World) (h : c.len ≤ 1048576 → c.In w) :
    Calls Try.prog 3 #[.slice c.a c.len c.cap] w fun e w' => e = .returned (.bool true) ∧ Below w.heap.size w w' := by
  by_cases hbig : 1048576 < c.len
  · go_enter Try.func3, Try.ntmps3
    go_wp2_with (go_at_call 8; refine (big_yes _ _ _ _ hbig).mono ?_; rintro e w' ⟨rfl, rfl⟩)
    go_ret
    exact ⟨rfl, Below.refl _ _⟩
  · have hin := h (by omega)
    clear h
    go_enter Try.func3, Try.ntmps3
    go_wp2_with fail
    refine (big_no _ _ _ _ (by omega)).mono ?_
    rintro e w' ⟨rfl, rfl⟩
    have bt := Below.refl w.heap.size w
    go_wp2_with fail
    refine (drawPutRow c w ⟨hin.arg.below bt, hin.byt, hin.small⟩).mono ?_
    rintro e w1 ⟨u1, ur, ps, ri, rl, rfl, D1, hf1, A1, hb⟩
    have z1 := hb.size
    replace bt := below_then bt hb (by omega)
    clear hb
    obtain ⟨b1, o1, c1, e1, _⟩ := id D1.1.1
    obtain ⟨b2, o2, c2, e2, _⟩ := id A1
    subst e1 e2
    have HF1 := Lib.hid hf1
    have H1 := Lib.hid D1.2
    clear hf1
    have hb := below_alloc w1 (.cells #[.int .i64 ri, .slice (some ⟨b2, o2, none⟩) rl.length c2] 27)
    have T1 := two_new w1 (.int .i64 ri) (.slice (some ⟨b2, o2, none⟩) rl.length c2) 27
    have hsT1 : (w1.alloc (.cells #[.int .i64 ri, .slice (some ⟨b2, o2, none⟩) rl.length c2] 27)).heap.size = w1.heap.size + 1 := World.size_alloc _ _
    replace D1 := D1.below hb
    replace A1 := A1.below hb
    replace bt := below_then bt hb (by omega)
    clear hb
    generalize hw : w1.alloc (.cells #[.int .i64 ri, .slice (some ⟨b2, o2, none⟩) rl.length c2] 27) = w2 at bt T1 hsT1 D1 A1
    have Hw2 := Lib.hid hw
    clear hw
    go_wp2_with fail
    rw [Hw2.out]
    refine (drawDropRows c w2 ⟨hin.arg.below bt, hin.byt, hin.small⟩).mono ?_
    rintro e w3 ⟨u3, ui, ms, zs, rfl, D2, hz, A2, hb⟩
    have z3 := hb.size
    replace D1 := D1.below hb
    replace A1 := A1.below hb
    replace T1 := T1.below hb
    replace bt := below_then bt hb (by omega)
    clear hb
    obtain ⟨b3, o3, c3, e3, _⟩ := id D2.1.1
    obtain ⟨b4, o4, c4, e4, _⟩ := id A2
    subst e3 e4
    have H2 := Lib.hid D2.2
    have HZ := Lib.hid hz
    clear hz
    go_wp2_with fail
    refine (drawFindRow c w3 ⟨hin.arg.below bt, hin.byt, hin.small⟩).mono ?_
    rintro e w4 ⟨u5, fs, n, rfl, D3, hb⟩
    have z4 := hb.size
    replace D1 := D1.below hb
    replace A1 := A1.below hb
    replace T1 := T1.below hb
    replace D2 := D2.below hb
    replace A2 := A2.below hb
    replace bt := below_then bt hb (by omega)
    clear hb
    obtain ⟨b5, o5, c5, e5, _⟩ := id D3.1.1
    subst e5
    have H3 := Lib.hid D3.2
    obtain ⟨⟨T1a, T1b⟩, T1c, T1d⟩ := id T1
    go_wp2_with fail
    refine (iPutRow _ (.slice (some ⟨b2, o2, none⟩) rl.length c2) ⟨ri, rl⟩ ps _ w4 (by have := H1.out.1; omega) (fun p hp => by have := (H1.out.2 p hp).1; omega) D1.1.1 D1.1.2 (Nat.le_trans HF1.out.1 (by omega)) (.inr A1) rfl).mono ?_
    rintro e w5 ⟨x, rfl, xs, ox, ex, hb⟩
    clear T1a T1b T1c T1d
    have z5 := hb.size
    replace D1 := D1.below hb
    replace A1 := A1.below hb
    replace T1 := T1.below hb
    replace D2 := D2.below hb
    replace A2 := A2.below hb
    replace D3 := D3.below hb
    replace bt := below_then bt hb (by omega)
    clear hb
    have HX := Lib.hid ex
    clear ex
    obtain ⟨xa, xc, exx⟩ := ox.1.sl
    have HXN : Hid (xs.length = ps.length + 1) := by
      have := congrArg List.length HX.out
      rw [List.length_map, putL_len, List.length_map] at this
      exact this
    subst exx
    go_wp2_with fail
    refine (iDropRows _ _ zs ms _ w5 (by have := HZ.out; omega) (AtN.rd (.inr A2)) (by have := H2.out.1; omega) (fun p hp => by have := (H2.out.2 p hp).1; omega) D2.1.rdN rfl).mono ?_
    rintro e w6 ⟨y, rfl, ys, oy, ey, hb⟩
    have z6 := hb.size
    replace ox := ox.below hb (by omega)
    replace D1 := D1.below hb
    replace A1 := A1.below hb
    replace T1 := T1.below hb
    replace D2 := D2.below hb
    replace A2 := A2.below hb
    replace D3 := D3.below hb
    replace bt := below_then bt hb (by omega)
    clear hb
    have HY := Lib.hid ey
    clear ey
    obtain ⟨ya, yc, eyy⟩ := oy.1.sl
    subst eyy
    go_wp2_with fail
    refine (iFindRow _ n fs _ w6 (by have := H3.out.1; omega) (fun p hp => by have := (H3.out.2 p hp).1; omega) D3.1.rdN rfl).mono ?_
    rintro e w7 ⟨f, rfl, of, hb⟩
    have z7 := hb.size
    replace ox := ox.below hb (by omega)
    replace oy := oy.below hb (by omega)
    replace D1 := D1.below hb
    replace A1 := A1.below hb
    replace T1 := T1.below hb
    replace D2 := D2.below hb
    replace A2 := A2.below hb
    replace D3 := D3.below hb
    replace bt := below_then bt hb (by omega)
    clear hb
    generalize hrf : (findL (fs.map (·.1)) n).getD R.zero = rf at of ⊢
    generalize hsf : (findL (fs.map (·.1)) n).isSome = sf
    have HRF := Lib.hid hrf
    have HSF := Lib.hid hsf
    clear hrf hsf
    obtain ⟨fi, fl⟩ := rf
    obtain ⟨fa, fc, eff⟩ := of.atN.sl
    simp only at eff
    subst eff
    have hb := below_alloc w7 (.cells #[.int .i64 fi, .slice fa fl.length fc] 27)
    have Tf := two_new w7 (.int .i64 fi) (.slice fa fl.length fc) 27
    have hsTf : (w7.alloc (.cells #[.int .i64 fi, .slice fa fl.length fc] 27)).heap.size = w7.heap.size + 1 := World.size_alloc _ _
    replace ox := ox.below hb (by omega)
    replace oy := oy.below hb (by omega)
    replace of := of.below hb (by omega)
    replace D1 := D1.below hb
    replace A1 := A1.below hb
    replace T1 := T1.below hb
    replace D2 := D2.below hb
    replace A2 := A2.below hb
    replace D3 := D3.below hb
    replace bt := below_then bt hb (by omega)
    clear hb
    generalize hw : w7.alloc (.cells #[.int .i64 fi, .slice fa fl.length fc] 27) = w8 at bt Tf hsTf ox oy of D1 A1 T1 D2 A2 D3
    have Hw8 := Lib.hid hw
    clear hw
    go_wp2_with fail
    rw [Hw8.out]
    refine (sFindRow _ n fs _ w8 (by have := H3.out.1; omega) (fun p hp => by have := (H3.out.2 p hp).1; omega) D3.1.rdN rfl).mono ?_
    rintro e w9 ⟨g, rfl, og, hb⟩
    have z9 := hb.size
    replace ox := ox.below hb (by omega)
    replace oy := oy.below hb (by omega)
    replace of := of.below hb (by omega)
    replace D1 := D1.below hb
    replace A1 := A1.below hb
    replace T1 := T1.below hb
    replace D2 := D2.below hb
    replace A2 := A2.below hb
    replace D3 := D3.below hb
    replace Tf := Tf.below hb
    replace bt := below_then bt hb (by omega)
    clear hb
    rw [HRF.out] at og ⊢
    rw [HSF.out]
    obtain ⟨ga, gc, egg⟩ := og.atN.sl
    simp only at egg
    subst egg
    have hb := below_alloc w9 (.cells #[.int .i64 fi, .slice ga fl.length gc] 27)
    have Tg := two_new w9 (.int .i64 fi) (.slice ga fl.length gc) 27
    have hsTg : (w9.alloc (.cells #[.int .i64 fi, .slice ga fl.length gc] 27)).heap.size = w9.heap.size + 1 := World.size_alloc _ _
    replace ox := ox.below hb (by omega)
    replace oy := oy.below hb (by omega)
    replace of := of.below hb (by omega)
    replace og := og.below hb (by omega)
    replace D1 := D1.below hb
    replace A1 := A1.below hb
    replace T1 := T1.below hb
    replace D2 := D2.below hb
    replace A2 := A2.below hb
    replace D3 := D3.below hb
    replace Tf := Tf.below hb
    replace bt := below_then bt hb (by omega)
    clear hb
    obtain ⟨⟨T1a, T1b⟩, T1c, T1d⟩ := id T1
    generalize hw : w9.alloc (.cells #[.int .i64 fi, .slice ga fl.length gc] 27) = w10 at bt Tg hsTg ox oy of og D1 A1 T1 D2 A2 D3 Tf
    have Hw10 := Lib.hid hw
    clear hw
    go_wp2_with fail
    rw [Hw10.out]
    refine (sPutRow _ (.slice (some ⟨b2, o2, none⟩) rl.length c2) ⟨ri, rl⟩ ps _ w10 (by have := H1.out.1; omega) (fun p hp => by have := (H1.out.2 p hp).1; omega) D1.1.1 D1.1.2 (Nat.le_trans HF1.out.1 (by omega)) (.inr A1) rfl).mono ?_
    rintro e w11 ⟨x2, rfl, xs2, ox2, ex2, hb⟩
    clear T1a T1b T1c T1d
    have z11 := hb.size
    replace ox := ox.below hb (by omega)
    replace oy := oy.below hb (by omega)
    replace of := of.below hb (by omega)
    replace og := og.below hb (by omega)
    replace D1 := D1.below hb
    replace A1 := A1.below hb
    replace T1 := T1.below hb
    replace D2 := D2.below hb
    replace A2 := A2.below hb
    replace D3 := D3.below hb
    replace Tf := Tf.below hb
    replace Tg := Tg.below hb
    replace bt := below_then bt hb (by omega)
    clear hb
    have HX2 := Lib.hid ex2
    clear ex2
    go_wp2_with fail
    refine (sameRows _ x2 xs.length xs xs2 w11 rfl (HX.out.trans HX2.out.symm) ox.rd ox2.rd).mono ?_
    rintro e w12 ⟨rfl, hb⟩
    have z12 := hb.size
    replace ox := ox.below hb (by omega)
    replace oy := oy.below hb (by omega)
    replace of := of.below hb (by omega)
    replace og := og.below hb (by omega)
    replace ox2 := ox2.below hb (by omega)
    replace D1 := D1.below hb
    replace A1 := A1.below hb
    replace T1 := T1.below hb
    replace D2 := D2.below hb
    replace A2 := A2.below hb
    replace D3 := D3.below hb
    replace Tf := Tf.below hb
    replace Tg := Tg.below hb
    replace bt := below_then bt hb (by omega)
    clear hb
    clear ox2
    go_wp2_with fail
    refine (sDropRows _ _ zs ms _ w12 (by have := HZ.out; omega) (AtN.rd (.inr A2)) (by have := H2.out.1; omega) (fun p hp => by have := (H2.out.2 p hp).1; omega) D2.1.rdN rfl).mono ?_
    rintro e w13 ⟨y2, rfl, ys2, oy2, ey2, hb⟩
    have z13 := hb.size
    replace ox := ox.below hb (by omega)
    replace oy := oy.below hb (by omega)
    replace of := of.below hb (by omega)
    replace og := og.below hb (by omega)
    replace D1 := D1.below hb
    replace A1 := A1.below hb
    replace T1 := T1.below hb
    replace D2 := D2.below hb
    replace A2 := A2.below hb
    replace D3 := D3.below hb
    replace Tf := Tf.below hb
    replace Tg := Tg.below hb
    replace bt := below_then bt hb (by omega)
    clear hb
    have HY2 := Lib.hid ey2
    clear ey2
    obtain ⟨⟨Tfa, Tfb⟩, Tfc, Tfd⟩ := id Tf
    obtain ⟨⟨Tga, Tgb⟩, Tgc, Tgd⟩ := id Tg
    go_wp2_with fail
    refine (sameRows _ y2 ys.length ys ys2 w13 rfl (HY.out.trans HY2.out.symm) oy.rd oy2.rd).mono ?_
    rintro e w14 ⟨rfl, hb⟩
    clear Tfa Tfb Tfc Tfd Tga Tgb Tgc Tgd
    have z14 := hb.size
    replace ox := ox.below hb (by omega)
    replace oy := oy.below hb (by omega)
    replace of := of.below hb (by omega)
    replace og := og.below hb (by omega)
    replace oy2 := oy2.below hb (by omega)
    replace D1 := D1.below hb
    replace A1 := A1.below hb
    replace T1 := T1.below hb
    replace D2 := D2.below hb
    replace A2 := A2.below hb
    replace D3 := D3.below hb
    replace Tf := Tf.below hb
    replace Tg := Tg.below hb
    replace bt := below_then bt hb (by omega)
    clear hb
    clear oy2
    obtain ⟨⟨Tfa, Tfb⟩, Tfc, Tfd⟩ := id Tf
    obtain ⟨⟨Tga, Tgb⟩, Tgc, Tgd⟩ := id Tg
    go_wp2_with fail
    refine (sameVals _ _ fl.length fl w14 rfl of.rd og.rd).mono ?_
    rintro e w15 ⟨rfl, hb⟩
    clear Tfa Tfb Tfc Tfd Tga Tgb Tgc Tgd
    have z15 := hb.size
    replace ox := ox.below hb (by omega)
    replace oy := oy.below hb (by omega)
    replace of := of.below hb (by omega)
    replace og := og.below hb (by omega)
    replace D1 := D1.below hb
    replace A1 := A1.below hb
    replace T1 := T1.below hb
    replace D2 := D2.below hb
    replace A2 := A2.below hb
    replace D3 := D3.below hb
    replace Tf := Tf.below hb
    replace Tg := Tg.below hb
    replace bt := below_then bt hb (by omega)
    clear hb
    have hpl : ps.length ≤ 9 := H1.out.1
    have hbb : (sf != sf) = false := by simp
    have hxl : ((xs.length : Int) != (ps.length : Int) + 1) = false := by simp [HXN.out]
    obtain ⟨⟨T1a, T1b⟩, T1c, T1d⟩ := id T1
    have HFT : Hid ((findL (xs.map (·.1)) ri).isSome = true) := by
      rw [HX.out]
      exact findL_put _ ⟨ri, rl⟩
    have HXS : Hid (xs.length ≤ 1048576 ∧ ∀ q ∈ xs, q.1.l.length ≤ 1048576) := by
      refine ⟨by have := HXN.out; have := H1.out.1; omega, fun q hq => ?_⟩
      have hm : q.1 ∈ xs.map (·.1) := List.mem_map.2 ⟨q, hq, rfl⟩
      rw [HX.out] at hm
      unfold putL at hm
      rcases List.mem_append.1 hm with hm | hm
      · obtain ⟨p, hp, e⟩ := List.mem_map.1 (List.mem_of_mem_take hm)
        rw [← e]
        exact Nat.le_trans (H1.out.2 p hp).1 (by omega)
      · rcases List.mem_cons.1 hm with hm | hm
        · rw [hm]
          exact Nat.le_trans HF1.out.1 (by omega)
        · obtain ⟨p, hp, e⟩ := List.mem_map.1 (List.mem_of_mem_drop hm)
          rw [← e]
          exact Nat.le_trans (H1.out.2 p hp).1 (by omega)
    have HYS : Hid (ys.length ≤ 1048576 ∧ ∀ q ∈ ys, q.1.l.length ≤ 1048576) := by
      have hl : ys.length = (dropL (ms.map (·.1)) zs).length := by rw [← HY.out, List.length_map]
      refine ⟨by have := dropL_len (ms.map (·.1)) zs; rw [List.length_map] at this; have := H2.out.1; omega, fun q hq => ?_⟩
      have hm : q.1 ∈ ys.map (·.1) := List.mem_map.2 ⟨q, hq, rfl⟩
      rw [HY.out] at hm
      unfold dropL at hm
      obtain ⟨p, hp, e⟩ := List.mem_map.1 (List.mem_filter.1 hm).1
      rw [← e]
      exact Nat.le_trans (H2.out.2 p hp).1 (by omega)
    have HYN : Hid (∀ k, k < ys.length → hasI zs (ys.getD k P.zero).1.id = false) := fun k hk => by
      have e : ys.getD k P.zero = ys[k] := by simp [hk]
      rw [e]
      exact dropL_no _ (by rw [← HY.out]; exact List.mem_map.2 ⟨_, List.getElem_mem hk, rfl⟩)
    have HDD : Hid (dropL (ys.map (·.1)) zs = ys.map (·.1)) := by
      show _ = _
      rw [HY.out, dropL_drop]
    go_wp2_with fail
    refine (iFindRow _ ri xs _ w15 HXS.out.1 HXS.out.2 ox.rdN rfl).mono ?_
    rintro e w16 ⟨t, rfl, ot, hb⟩
    clear T1a T1b T1c T1d
    have z16 := hb.size
    replace ox := ox.below hb (by omega)
    replace oy := oy.below hb (by omega)
    replace of := of.below hb (by omega)
    replace og := og.below hb (by omega)
    replace D1 := D1.below hb
    replace A1 := A1.below hb
    replace T1 := T1.below hb
    replace D2 := D2.below hb
    replace A2 := A2.below hb
    replace D3 := D3.below hb
    replace Tf := Tf.below hb
    replace Tg := Tg.below hb
    replace bt := below_then bt hb (by omega)
    clear hb
    rw [HFT.out]
    generalize (findL (xs.map (·.1)) ri).getD R.zero = rt at ot ⊢
    obtain ⟨ti, tl⟩ := rt
    obtain ⟨ta, tc, ett⟩ := ot.atN.sl
    simp only at ett
    subst ett
    have hb := below_alloc w16 (.cells #[.int .i64 ti, .slice ta tl.length tc] 27)
    have Tt := two_new w16 (.int .i64 ti) (.slice ta tl.length tc) 27
    have hsTt : (w16.alloc (.cells #[.int .i64 ti, .slice ta tl.length tc] 27)).heap.size = w16.heap.size + 1 := World.size_alloc _ _
    replace ox := ox.below hb (by omega)
    replace oy := oy.below hb (by omega)
    replace of := of.below hb (by omega)
    replace og := og.below hb (by omega)
    replace ot := ot.below hb (by omega)
    replace D1 := D1.below hb
    replace A1 := A1.below hb
    replace T1 := T1.below hb
    replace D2 := D2.below hb
    replace A2 := A2.below hb
    replace D3 := D3.below hb
    replace Tf := Tf.below hb
    replace Tg := Tg.below hb
    replace bt := below_then bt hb (by omega)
    clear hb
    generalize hw : w16.alloc (.cells #[.int .i64 ti, .slice ta tl.length tc] 27) = w17 at bt Tt hsTt ox oy of og ot D1 A1 T1 D2 A2 D3 Tf Tg
    have Hw17 := Lib.hid hw
    clear hw
    go_wp2
    rw [Hw17.out]
    have HOY := Lib.hid oy
    have HA2 := Lib.hid A2
    have hyn := HYS.out.1
    generalize hynn : ys.length = yn at hyn HYN
    have HYL := Lib.hid hynn
    clear hynn
    obtain ⟨ya', yc', eyw, _, HWY⟩ := oy.rd.walk HYL.out
    have hye : ya' = ya ∧ yc' = yc := by
      have := HYL.out
      simp only [Value.slice.injEq] at eyw
      exact ⟨eyw.1.symm, eyw.2.2.symm⟩
    obtain ⟨rfl, rfl⟩ := hye
    clear eyw
    try rw [HYL.out]
    go_loopw [17] (fun i wr => ∃ k : Nat, k ≤ yn ∧ i = .int .i64 k ∧ Below w17.heap.size w17 wr) (fun i _ => yn - (intOf i).toNat)
    case atStart => exact ⟨0, Nat.zero_le _, rfl, Below.refl _ _⟩
    case round =>
      obtain ⟨k, hk, rfl, hbr⟩ := hrel
      by_cases hlt : k < yn
      · obtain ⟨b, off, rfl, p0, _, _⟩ := HWY.out k hlt wr hbr
        have hno := HYN.out k hlt
        generalize (ys.getD k P.zero).1.id = yi at p0 hno
        have HIN := Lib.hid (inNo _ zs.length zs yi wr rfl (AtN.rd (.inr (HA2.out.below hbr))) hno)
        clear hno
        go_wp2_with fail
        refine HIN.out.mono ?_
        rintro e w' ⟨rfl, rfl⟩
        go_wp2
        go_roundw
        case rel => exact ⟨k + 1, by omega, by go_num, hbr⟩
        case measure => simp [intOf]; omega
      · obtain rfl : k = yn := by omega
        have hbt := bt.trans (hbr.mono bt.size)
        have HD := Lib.hid (iDropRows _ _ zs ys _ wr (by have := HZ.out; omega) (AtN.rd (.inr (HA2.out.below hbr))) HYS.out.1 HYS.out.2 (HOY.out.rdN.below hbr) rfl)
        try rw [HYL.out] at HD
        go_wp2_with fail
        refine HD.out.mono ?_
        rintro e w' ⟨y3, rfl, ys3, oy3, ey3, hb3⟩
        have HS3 := Lib.hid (sameRows _ _ ys3.length ys3 ys w' rfl (ey3.trans HDD.out) oy3.rd ((HOY.out.rdN.below hbr).below hb3).rd)
        try rw [HYL.out] at HS3
        go_wp2_with fail
        refine HS3.out.mono ?_
        rintro e w'' ⟨rfl, hb4⟩
        have hb5 := below_then (below_then hbt hb3 hbt.size) hb4 (below_then hbt hb3 hbt.size).size
        go_wp2
        go_ret
        exact ⟨rfl, hb5⟩

end Go.Proofs.Ytkofafefnlommaa
