/- Texts of this claim, one behind the other: I12b. -/
import Derived.Test.YtafoldpmodipaaaP26
import Derived.Test.YtafoldpmodipaaaP22

/- The program's Meant (written by mk_S12b.py). -/
namespace Go.Proofs.Ytafoldpmodipaaa
open Go.RowKit

set_option maxRecDepth 100000 in
set_option maxHeartbeats 4000000 in
theorem iMeant {Q : Nat → Prop} (qk qc : Int) (t : T) (u : Value) (oa : Option Addr) (on oc : Nat) (v : Value) (ps : List P) (w : World) (hh : CHolds) (hsm : t.Small) (hbk : t.bulk ≤ 1048577) (hpl : ∀ b, Q b → Plain w b) (hss : ∀ p ∈ ps, ∀ x ∈ p.1.l, x.s.size ≤ maxLen) (hr : RdT Q w t u) (hn : ps.length ≤ 1048576) (hli : ∀ p ∈ ps, p.1.l.length ≤ 1048576) (h : RdRsN w v ps) :
    Calls Try.prog 16 #[.agg #[.int .i64 qk, .int .i64 t.kind, .int .i64 t.col, .int .i64 t.op, .int .i64 t.v.ty, .int .i64 t.v.n, .string t.v.s, u, .int .i64 qc, .slice oa on oc], v] w fun e w' => ∃ v', e = .returned v' ∧ ∃ qs, MyRs w.heap.size w'.heap.size w' v' qs ∧ qs.map (·.1) = meantL t (ps.map (·.1)) ∧ Below w.heap.size w w' := by
  generalize hl : ps.length = n at hn
  obtain ⟨a, cap, rfl, _, HC⟩ := h.walk hl
  obtain ⟨ua, uc, rfl, _⟩ := RdT_def.1 hr
  have HSH := Lib.hid (fun (vs : List V) vu W (hW : Below w.heap.size w W) (hvl : vs.length ≤ 1048576) (hvs : ∀ x ∈ vs, x.s.size ≤ maxLen) (hv : Rd 3 W vu vs.length (vals vs)) => hh vs t _ _ vu W hsm hbk hvl hvs (hr.below hW) (fun b hb => (hpl b hb).below hW) hv)
  generalize t.l.length = un at HSH ⊢
  have HLI : Hid (∀ k, k < n → (ps.getD k P.zero).1.l.length ≤ 1048576 ∧ ∀ x ∈ (ps.getD k P.zero).1.l, x.s.size ≤ maxLen) := fun k hk => by
    have hk' : k < ps.length := by omega
    have e : ps.getD k P.zero = ps[k] := by simp [hk']
    rw [e]
    exact ⟨hli _ (List.getElem_mem hk'), hss _ (List.getElem_mem hk')⟩
  have HMT : Hid (∀ j, j < n → meantL t ((ps.map (·.1)).take (j + 1)) = if t.holds (ps.getD j P.zero).1.l = true then meantL t ((ps.map (·.1)).take j) ++ [(ps.getD j P.zero).1] else meantL t ((ps.map (·.1)).take j)) := fun j hj => by
    refine meant_take (by rw [List.length_map]; omega) ?_
    have hk' : j < ps.length := by omega
    rw [getDe _ _ (by rw [List.length_map]; omega), getDe ps P.zero hk', List.getElem_map]
  have HALL : Hid (meantL t ((ps.map (·.1)).take n) = meantL t (ps.map (·.1))) := by
    show _ = _
    rw [← hl, List.take_of_length_le (by rw [List.length_map]; exact Nat.le_refl _)]
  have HMN : Hid (∀ j, (meantL t ((ps.map (·.1)).take j)).length ≤ j) := fun j => Nat.le_trans (meantL_len _ _) (by rw [List.length_take]; omega)
  have B0 := below_alloc w (.cells #[.int .i64 qk, .int .i64 t.kind, .int .i64 t.col, .int .i64 t.op, .int .i64 t.v.ty, .int .i64 t.v.n, .string t.v.s, .slice ua un uc, .int .i64 qc, .slice oa on oc] 48)
  have K0 := blk_new w [.int .i64 qk, .int .i64 t.kind, .int .i64 t.col, .int .i64 t.op, .int .i64 t.v.ty, .int .i64 t.v.n, .string t.v.s, .slice ua un uc, .int .i64 qc, .slice oa on oc] 48
  have B1 := below_then B0 (below_alloc _ (.cells #[] 71)) B0.size
  have K1 := K0.below (below_alloc _ (.cells #[] 71))
  have O1 := own_lit (e := 71) (size := 2) (w.alloc (.cells #[.int .i64 qk, .int .i64 t.kind, .int .i64 t.col, .int .i64 t.op, .int .i64 t.v.ty, .int .i64 t.v.n, .string t.v.s, .slice ua un uc, .int .i64 qc, .slice oa on oc] 48)) #[] 0 (Nat.zero_le _) rfl
  have hz1 : ((w.alloc (.cells #[.int .i64 qk, .int .i64 t.kind, .int .i64 t.col, .int .i64 t.op, .int .i64 t.v.ty, .int .i64 t.v.n, .string t.v.s, .slice ua un uc, .int .i64 qc, .slice oa on oc] 48)).alloc (.cells #[] 71)).heap.size = w.heap.size + 2 := by rw [World.size_alloc, World.size_alloc]
  rw [World.size_alloc] at O1
  generalize hw1 : (w.alloc (.cells #[.int .i64 qk, .int .i64 t.kind, .int .i64 t.col, .int .i64 t.op, .int .i64 t.v.ty, .int .i64 t.v.n, .string t.v.s, .slice ua un uc, .int .i64 qc, .slice oa on oc] 48)).alloc (.cells #[] 71) = w1 at B1 K1 O1 hz1
  have HW1 := Lib.hid hw1
  clear hw1 hl hr h hli hss hpl hbk hsm B0 K0
  go_enter Try.func16, Try.ntmps16
  go_wp2
  rw [HW1.out]
  go_loopw [5, 11] (fun o i wr => ∃ (j : Nat) (qs : List P), j ≤ n ∧ i = .int .i64 j ∧ (∃ g cp, o = .slice (some ⟨g, 0, none⟩) qs.length cp) ∧ MyRs (w.heap.size + 1) wr.heap.size wr o qs ∧ qs.map (·.1) = meantL t ((ps.map (·.1)).take j) ∧ Blk wr w.heap.size [.int .i64 qk, .int .i64 t.kind, .int .i64 t.col, .int .i64 t.op, .int .i64 t.v.ty, .int .i64 t.v.n, .string t.v.s, .slice ua un uc, .int .i64 qc, .slice oa on oc] ∧ Below w.heap.size w wr ∧ w.heap.size + 1 ≤ wr.heap.size) (fun _ i _ => n - (intOf i).toNat)
  case atStart => exact ⟨0, [], Nat.zero_le _, rfl, ⟨_, _, rfl⟩, ⟨.inr (show Own 71 2 (w.heap.size + 1) w1.heap.size w1 _ 0 [] by simpa using O1), fun p hp => (by cases hp), List.Pairwise.nil⟩, rfl, K1, B1, by omega⟩
  case round =>
    obtain ⟨j, qs, hj, rfl, ⟨og, ocp, rfl⟩, hmy, hqs, hK, hbr, hsz⟩ := hrel
    have HMY := Lib.hid hmy
    have HQS := Lib.hid hqs
    have hql : qs.length ≤ j := by
      have e := congrArg List.length hqs
      rw [List.length_map] at e
      rw [e]
      exact HMN.out j
    clear O1 K1 hqs B1 hz1
    by_cases hlt : j < n
    · obtain ⟨b, off, rfl, c0, c1, hat⟩ := HC.out j hlt wr hbr
      have HST := Lib.hid (HMT.out j hlt)
      have hll := HLI.out j hlt
      have HSJ := Lib.hid (fun W (hW : Below wr.heap.size wr W) => HSH.out (ps.getD j P.zero).1.l (ps.getD j P.zero).2 W (below_then hbr hW hbr.size) hll.1 hll.2 (hat.below hW).rd)
      replace hll := hll.1
      generalize hpj : ps.getD j P.zero = pj at c0 c1 hat HST hll HSJ
      clear hpj
      obtain ⟨r, x⟩ := pj
      simp only at c0 c1 hat HST hll HSJ
      obtain ⟨xa, xc, rfl⟩ := hat.sl
      have HAT := Lib.hid (fun W (hW : Below wr.heap.size wr W) => iCopyRow r (.slice xa r.l.length xc) W hll (hat.below hW))
      clear hat
      generalize hhb : t.holds r.l = hb at HSJ
      have HHB := Lib.hid hhb
      clear hhb
      generalize hxl : r.l.length = xn at c1 hll HSJ HAT
      obtain ⟨ri, rl⟩ := r
      simp only at c0 c1 HST HHB HAT
      have HKC : Hid (∀ W, Below wr.heap.size wr W → W.cell? ⟨w.heap.size, 1, none⟩ = some (.int .i64 t.kind) ∧ W.cell? ⟨w.heap.size, 2, none⟩ = some (.int .i64 t.col) ∧ W.cell? ⟨w.heap.size, 3, none⟩ = some (.int .i64 t.op) ∧ W.cell? ⟨w.heap.size, 4, none⟩ = some (.int .i64 t.v.ty) ∧ W.cell? ⟨w.heap.size, 5, none⟩ = some (.int .i64 t.v.n) ∧ W.cell? ⟨w.heap.size, 6, none⟩ = some (.string t.v.s) ∧ W.cell? ⟨w.heap.size, 7, none⟩ = some (.slice ua un uc) ∧ W.cell? ⟨b, off + j * 2 + 1, none⟩ = some (.slice xa xn xc)) := fun W hW => ⟨(hK.below hW 1 _ rfl).1, (hK.below hW 2 _ rfl).1, (hK.below hW 3 _ rfl).1, (hK.below hW 4 _ rfl).1, (hK.below hW 5 _ rfl).1, (hK.below hW 6 _ rfl).1, (hK.below hW 7 _ rfl).1, (hW.cell (p := ⟨b, off + j * 2 + 1, none⟩) (lt_of_cell c1)).trans c1⟩
      have HC0 : Hid (∀ W, Below wr.heap.size wr W → W.cell? ⟨b, off + j * 2, none⟩ = some (.int .i64 ri) ∧ W.cell? ⟨b, off + j * 2 + 1, none⟩ = some (.slice xa xn xc)) := fun W hW => ⟨(hW.cell (p := ⟨b, off + j * 2, none⟩) (lt_of_cell c0)).trans c0, (hW.cell (p := ⟨b, off + j * 2 + 1, none⟩) (lt_of_cell c1)).trans c1⟩
      have HKK := Lib.hid hK
      have HXL := Lib.hid hxl
      clear hmy hK hxl
      have A2 := below_alloc wr (.cells #[.int .i64 ri, .slice xa xn xc] 71)
      have T2 := two_new wr (.int .i64 ri) (.slice xa xn xc) 71
      have hz2 : (wr.alloc (.cells #[.int .i64 ri, .slice xa xn xc] 71)).heap.size = wr.heap.size + 1 := World.size_alloc _ _
      obtain ⟨k1, k2, k3, k4, k5, k6, k7, _⟩ := HKC.out _ A2
      have HS2 := Lib.hid (HSJ.out _ A2)
      generalize hwa : wr.alloc (.cells #[.int .i64 ri, .slice xa xn xc] 71) = wa at A2 T2 HS2 hz2
      have HWA := Lib.hid hwa
      have HT2 := Lib.hid T2
      clear T2 hwa
      cases hb with
      | false =>
        go_wp2_with fail
        rw [HWA.out]
        refine HS2.out.mono ?_
        rintro e w2 ⟨rfl, b2⟩
        have hB' := below_then A2 b2 A2.size
        have HF : Hid (MyRs (w.heap.size + 1) w2.heap.size w2 _ qs ∧ qs.map (·.1) = meantL t ((ps.map (·.1)).take (j + 1)) ∧ Blk w2 w.heap.size [.int .i64 qk, .int .i64 t.kind, .int .i64 t.col, .int .i64 t.op, .int .i64 t.v.ty, .int .i64 t.v.n, .string t.v.s, .slice ua un uc, .int .i64 qc, .slice oa on oc] ∧ Below w.heap.size w w2 ∧ w.heap.size + 1 ≤ w2.heap.size) := ⟨(HMY.out.below hB' (Nat.le_refl _)).wide (Nat.le_refl _) hB'.size, by rw [HST.out, if_neg (by rw [HHB.out]; simp)]; exact HQS.out, HKK.out.below hB', below_then hbr hB' hbr.size, Nat.le_trans hsz hB'.size⟩
        clear k1 k2 k3 k4 k5 k6 k7 b2 hB' A2 HS2 HWA c0 c1
        go_wp2
        go_roundw
        case rel => exact ⟨j + 1, qs, by omega, by go_num, ⟨_, _, rfl⟩, HF.out.1, HF.out.2⟩
        case measure => simp [intOf]; omega
      | true =>
        go_wp2_with fail
        rw [HWA.out]
        refine HS2.out.mono ?_
        rintro e w2 ⟨rfl, b2⟩
        have hB' := below_then A2 b2 A2.size
        have M2 := (HMY.out.below hB' (Nat.le_refl _)).wide (Nat.le_refl _) hB'.size
        have K2 := HKK.out.below hB'
        have B2 := below_then hbr hB' hbr.size
        have hs2 := Nat.le_trans hsz hB'.size
        obtain ⟨⟨e0, e1⟩, _⟩ := HT2.out.below b2
        have HA2 := Lib.hid (HAT.out _ hB')
        clear k1 k2 k3 k4 k5 k6 k7 b2 hB' A2 HS2 HWA c0 c1
        go_wp2_with fail
        refine HA2.out.mono ?_
        rintro e w3 ⟨x3, rfl, o3, b3⟩
        clear e0 e1
        obtain ⟨ya, yc, hy⟩ := o3.atN.sl
        generalize rl.length = yn at hy
        subst hy
        have M4 := M2.below b3 (Nat.le_refl _)
        have K4 := K2.below b3
        have B4 := below_then B2 b3 B2.size
        have hs3 := b3.size
        have O4 := o3
        have hs4 : w2.heap.size ≤ w3.heap.size := hs3
        have HM4 := Lib.hid M4
        have HO4 := Lib.hid O4
        have ONN := M4.1
        have hlo4 : w.heap.size + 1 ≤ w3.heap.size := by omega
        clear o3 b3 M4 O4 M2 K2 B2 HA2 HAT HSJ HKC HC0
        go_wp2_with (at_builtin; refine appendR_law Try.elemRows rfl _ _ rfl (w.heap.size + 1) _ _ _ _ ri ya yn yc rfl ONN hlo4 _ rfl rfl (by unfold maxLen; omega) (by omega) ?_)
        intro v5 w5 o5 e5
        have HF : Hid (MyRs (w.heap.size + 1) w5.heap.size w5 v5 (qs ++ [(⟨ri, rl⟩, .slice ya yn yc)]) ∧ (qs ++ [((⟨ri, rl⟩ : R), Value.slice ya yn yc)]).map (·.1) = meantL t ((ps.map (·.1)).take (j + 1)) ∧ Blk w5 w.heap.size [.int .i64 qk, .int .i64 t.kind, .int .i64 t.col, .int .i64 t.op, .int .i64 t.v.ty, .int .i64 t.v.n, .string t.v.s, .slice ua un uc, .int .i64 qc, .slice oa on oc] ∧ Below w.heap.size w w5 ∧ w.heap.size + 1 ≤ w5.heap.size) := ⟨HM4.out.append (by omega) HO4.out (by omega) o5 e5, by rw [HST.out, if_pos HHB.out, List.map_append, HQS.out]; rfl, K4.ext e5 (ONN.not_low (Nat.lt_succ_self _)), B4.grown e5.grown B4.size (fun k hk => Nat.le_of_not_lt (fun hlt => ONN.not_low (b := k) (by omega) hk)), Nat.le_trans hlo4 e5.grown.size⟩
        obtain ⟨vb, vc, hv5⟩ : ∃ g cp, v5 = .slice (some ⟨g, 0, none⟩) (qs.length + 1) cp := by obtain ⟨g, cp, e, _⟩ := o5; exact ⟨g, cp, e⟩
        subst hv5
        clear o5 e5 K4 B4 ONN
        go_wp2
        go_roundw
        case rel => exact ⟨j + 1, _, by omega, by go_num, ⟨_, _, by rw [List.length_append]; rfl⟩, HF.out.1, HF.out.2⟩
        case measure => simp [intOf]; omega
    · obtain rfl : j = n := by omega
      clear hmy hK
      go_wp2
      go_ret
      exact ⟨_, rfl, qs, HMY.out.wide (by omega) (Nat.le_refl _), HQS.out.trans HALL.out, hbr⟩

end Go.Proofs.Ytafoldpmodipaaa
