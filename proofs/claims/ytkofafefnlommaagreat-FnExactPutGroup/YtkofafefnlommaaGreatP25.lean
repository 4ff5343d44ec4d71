/- Texts of this claim, one behind the other: S7g, M7b, S8, Law7, I7, S8r, S8d, Law8. -/
import Derived.Test.YtkofafefnlommaaGreatP24
import Derived.Test.YtkofafefnlommaaGreatP23
import Derived.Test.YtkofafefnlommaaGreatP16
import Derived.Test.YtkofafefnlommaaGreatP8
import Derived.Test.YtkofafefnlommaaGreatP4
import Derived.Test.YtkofafefnlommaaGreatP5

/- The contract of the model's DecDict. -/
namespace Go.Proofs.YtkofafefnlommaaGreat
open Go.RowKit

theorem getV_bound {zs : List Int} (hb : Num.Bytes zs) {i ty : Int} (h : (getV zs i ty).2.2 = true) : 0 ≤ (getV zs i ty).2.1 ∧ (getV zs i ty).2.1 ≤ zs.length := by
  unfold getV at h ⊢
  split
  · rename_i ht
    rw [if_pos ht] at h
    split
    · rename_i hg
      exact get_bound hb hg
    · rename_i hg
      rw [if_neg hg] at h
      cases h
  · rename_i ht
    rw [if_neg ht] at h
    split
    · rename_i hc
      rw [if_pos hc] at h
      have hi := Num.inB_true.1 hc.2
      unfold getT at h ⊢
      split
      · rename_i hg
        have hlt : i.toNat < zs.length := by omega
        have hm := hb (zs.getD i.toNat 0) (by rw [getDe zs 0 hlt]; exact List.getElem_mem hlt)
        have := hg.1
        simp only
        omega
      · rename_i hg
        rw [if_neg hg] at h
        cases h
    · rename_i hc
      rw [if_neg hc] at h
      cases h

/-- DecDict, behind the values of the dictionary. -/
def decT (zs : List Int) (k : Int) (d : List V) (i : Int) : List V × Bool :=
  if (Bit.unpack (zs.drop i.toNat) (Bit.widthI ((d.length : Int) - 1)) k).2 = true ∧ (pickedL d (Bit.unpack (zs.drop i.toNat) (Bit.widthI ((d.length : Int) - 1)) k).1).2 = true ∧ encD (pickedL d (Bit.unpack (zs.drop i.toNat) (Bit.widthI ((d.length : Int) - 1)) k).1).1 = zs
  then ((pickedL d (Bit.unpack (zs.drop i.toNat) (Bit.widthI ((d.length : Int) - 1)) k).1).1, true) else ([], false)
/-- DecDict. -/
def decD (zs : List Int) (ty k : Int) : List V × Bool :=
  if (Num.get zs 0).2.2 = true ∧ Num.inB k 1 64 = true ∧ Num.inB (Num.get zs 0).1 1 k = true then
    (match decL zs ty (Num.get zs 0).1.toNat (Num.get zs 0).2.1 with
      | some r => decT zs k r.1 r.2
      | none => ([], false))
  else ([], false)
theorem decT_len (zs : List Int) (k : Int) (d : List V) (i : Int) : (decT zs k d i).1.length ≤ 64 := by
  unfold decT
  split
  · exact Nat.le_trans (picked_len _ _) (Bit.unpack_le _ _ _)
  · simp
theorem decD_len (zs : List Int) (ty k : Int) : (decD zs ty k).1.length ≤ 64 := by
  unfold decD
  split
  · split
    · exact decT_len _ _ _ _
    · simp
  · simp
theorem picked_all {d : List V} {p : List Int} {q : V → Prop} (h : ∀ v ∈ d, q v) : ∀ v ∈ (pickedL d p).1, q v := by
  unfold pickedL
  split
  · rename_i ha
    intro v hv
    obtain ⟨x, hx, rfl⟩ := List.mem_map.1 hv
    have h2 := of_decide_eq_true (List.all_eq_true.1 ha x hx)
    have hlt : x.toNat < d.length := by omega
    rw [getDe d V.zero hlt]
    exact h _ (List.getElem_mem hlt)
  · simp
theorem decL_size {zs : List Int} {ty : Int} : ∀ {n : Nat} {i : Int} {r : List V × Int}, decL zs ty n i = some r → ∀ u ∈ r.1, u.s.size ≤ maxLen := by
  intro n
  induction n with
  | zero =>
    intro i r h u hu
    simp only [decL, Option.some.injEq] at h
    subst h
    cases hu
  | succ n ih =>
    intro i r h u hu
    rw [decL] at h
    split at h
    · obtain ⟨q, hq, rfl⟩ := Option.map_eq_some_iff.1 h
      rcases List.mem_cons.1 hu with rfl | hu
      · exact getV_size _ _ _
      · exact ih hq u hu
    · cases h

set_option maxRecDepth 100000 in
set_option maxHeartbeats 4000000 in
theorem sDecDict (u : Value) (n : Nat) (zs : List Int) (ty k : Int) (w : World) (hn : n ≤ 1073741824) (hz : zs.length = n) (hby : Num.Bytes zs) (h : At 1 w u n (ints .u8 zs)) :
    Calls Tryz.prog 91 #[u, .int .i64 ty, .int .i64 k] w fun e w' => RDs w w' e (decD zs ty k) := by
  obtain ⟨W1, hW1⟩ : ∃ W1, w.alloc (.cells #[] 77) = W1 := ⟨_, rfl⟩
  have hs1 : W1.heap.size = w.heap.size + 1 := by rw [← hW1]; simp
  have hN : Own 77 3 w.heap.size W1.heap.size W1 (.slice (some ⟨w.heap.size, 0, none⟩) 0 0) 0 [] := by
    rw [← hW1]
    exact own_lit (e := 77) (size := 3) w #[] 0 (Nat.zero_le _) rfl
  have hb0 : Below w.heap.size w W1 := by rw [← hW1]; exact below_alloc w _
  have hat1 := h.below hb0
  have HG0 := Lib.hid (sGetNum u n zs 0 W1 (by omega) hz hby hat1)
  have HV := Lib.hid (fun i W (hW : Below W1.heap.size W1 W) => sGetVal u n zs i ty W hn hz hby (hat1.below hW))
  have HIK := Lib.hid (fun W => l1In k 1 64 W)
  have HEX : Hid (decD zs ty k = if (Num.get zs 0).2.2 = true ∧ Num.inB k 1 64 = true ∧ Num.inB (Num.get zs 0).1 1 k = true then (match decL zs ty (Num.get zs 0).1.toNat (Num.get zs 0).2.1 with | some r => decT zs k r.1 r.2 | none => ([], false)) else ([], false)) := rfl
  have HFIN : Hid (∀ e w', RDs w w' e ([], false) → decD zs ty k = ([], false) → RDs w w' e (decD zs ty k)) := fun e w' h1 h2 => by rw [h2]; exact h1
  have HB : Hid (∀ i, (getV zs i ty).2.2 = true → 0 ≤ (getV zs i ty).2.1 ∧ (getV zs i ty).2.1 ≤ n) := fun i hi => by
    rw [← hz]
    exact getV_bound hby hi
  obtain ⟨b, off, cap, rfl, hcn, hcm, _, _⟩ := id h
  generalize hg : Num.get zs 0 = g0 at HG0 HEX
  obtain ⟨x0, nx0, ok0⟩ := g0
  unfold getRes at HG0
  simp only at HG0 HEX
  have HIN := Lib.hid (fun W => l1In x0 1 k W)
  have HNO : Hid (∀ W, Below W1.heap.size W1 W → RDs w W (.returned (.tuple #[.slice (some ⟨w.heap.size, 0, none⟩) 0 0, .bool false])) ([], false)) := fun W hW => ⟨_, rfl, (hN.below hW (Nat.le_refl _)).wide hW.size, below_then hb0 hW hb0.size⟩
  clear hg
  by_cases hc : ok0 = true ∧ Num.inB k 1 64 = true ∧ Num.inB x0 1 k = true
  · obtain ⟨rfl, hk, hx⟩ := hc
    rw [if_pos ⟨rfl, hk, hx⟩] at HEX
    rw [hk] at HIK
    rw [hx] at HIN
    obtain ⟨k0, k1⟩ := Num.inB_true.1 hk
    obtain ⟨n0, n1⟩ := Num.inB_true.1 hx
    obtain ⟨N, rfl⟩ := Int.eq_ofNat_of_zero_le (show 0 ≤ x0 by omega)
    rw [Int.toNat_natCast] at HEX
    have hR0 := own_lit (e := 77) (size := 3) W1 #[] 0 (Nat.zero_le _) rfl
    have hbR := below_alloc W1 (.cells #[] 77)
    rw [hs1] at hR0
    have HD0 : Hid (decL zs ty N nx0 = (decL zs ty (N - 0) nx0).map fun r => ([] ++ r.1, r.2)) := by
      show _ = _
      simp
    have HST : Hid (∀ (j : Nat) (i : Int) (pre : List V), j < N → decL zs ty N nx0 = (decL zs ty (N - j) i).map (fun r => (pre ++ r.1, r.2)) → if (getV zs i ty).2.2 = true then decL zs ty N nx0 = (decL zs ty (N - (j + 1)) (getV zs i ty).2.1).map (fun r => ((pre ++ [(getV zs i ty).1]) ++ r.1, r.2)) else decL zs ty N nx0 = none) := fun j i pre hj hd => by
      rw [show N - j = (N - (j + 1)) + 1 by omega, decL] at hd
      split
      · rename_i hg
        rw [if_pos hg] at hd
        rw [hd, Option.map_map]
        congr 1
        funext r
        simp
      · rename_i hg
        rw [if_neg hg] at hd
        rw [hd]
        rfl
    have HFN : Hid (∀ (i : Int) (pre : List V), decL zs ty N nx0 = (decL zs ty (N - N) i).map (fun r => (pre ++ r.1, r.2)) → decL zs ty N nx0 = some (pre, i)) := fun i pre hd => by
      rw [hd, Nat.sub_self]
      simp [decL]
    have HNONE : Hid (decL zs ty N nx0 = none → decD zs ty k = ([], false)) := fun hd => by rw [HEX.out, hd]
    clear hk hx
    go_enter Tryz.func91, Tryz.ntmps91
    go_wp2_with (first | (go_at_call 60; refine HG0.out.mono ?_; rintro e w' ⟨rfl, rfl⟩) | (go_at_call 61; refine (HIK.out _).mono ?_; clear HIK; rintro e w' ⟨rfl, rfl⟩) | (go_at_call 61; refine (HIN.out _).mono ?_; rintro e w' ⟨rfl, rfl⟩))
    go_loopw [10, 12, 13] (fun p o i wr => ∃ (j : Nat) (q : Int) (pre : List V), j ≤ N ∧ i = .int .i64 j ∧ p = .int .i64 q ∧ pre.length = j ∧ (0 < j → 0 ≤ q ∧ q ≤ n) ∧ decL zs ty N nx0 = (decL zs ty (N - j) q).map (fun r => (pre ++ r.1, r.2)) ∧ Own 77 3 (w.heap.size + 1) wr.heap.size wr o pre.length (vals pre) ∧ Below W1.heap.size W1 wr) (fun _ _ i _ => N - (intOf i).toNat)
    case atStart => exact ⟨0, nx0, [], Nat.zero_le _, rfl, rfl, rfl, fun h => by omega, HD0.out, hR0, hbR⟩
    case round =>
      obtain ⟨j, q, pre, hj, rfl, rfl, hpl, hqb, hd, hown, hbr⟩ := hrel
      have HQB := Lib.hid hqb
      clear hqb
      by_cases hlt : j < N
      · have HSJ := Lib.hid (HST.out j q pre hlt hd)
        have HPL := Lib.hid hpl
        clear hd
        have HVJ := Lib.hid (HV.out q wr hbr)
        have HBJ := Lib.hid (HB.out q)
        generalize getV zs q ty = r at HSJ HVJ HBJ
        obtain ⟨⟨xt, xn, xs⟩, nx, ok⟩ := r
        unfold rGet at HVJ
        simp only at HSJ HVJ HBJ
        have HVA : Hid (vals pre ++ V.cs ⟨xt, xn, xs⟩ = vals (pre ++ [(⟨xt, xn, xs⟩ : V)])) := by
          show _ = _
          simp [vals]
        have HLN : Hid ((pre ++ [(⟨xt, xn, xs⟩ : V)]).length = pre.length + 1) := by
          show _ = _
          simp
        have hcl : pre.length ≤ 64 := by omega
        clear hpl
        generalize hcc : pre.length = c at hown HLN hcl HPL
        have HCC := Lib.hid hcc
        clear hcc
        go_wp2_with fail
        refine HVJ.out.mono ?_
        rintro e w2 ⟨rfl, hb2⟩
        have own2 := hown.below hb2 (Nat.le_refl _)
        have b2 := below_then hbr hb2 hbr.size
        have z2 := hb2.size
        clear hown hb2 HVJ
        cases ok with
        | true =>
          have HS2 : Hid (decL zs ty N nx0 = (decL zs ty (N - (j + 1)) nx).map (fun r => ((pre ++ [(⟨xt, xn, xs⟩ : V)]) ++ r.1, r.2))) := by
            have hd := HSJ.out
            rw [if_pos rfl] at hd
            exact hd
          have HNX := Lib.hid (HBJ.out rfl)
          have own3 := (own2.alloc (.cells #[.int .i64 xt, .int .i64 xn, .string xs] 77)).wide (hi' := (w2.alloc (.cells #[.int .i64 xt, .int .i64 xn, .string xs] 77)).heap.size) (by simp; omega)
          have b3 := b2.alloc b2.size (.cells #[.int .i64 xt, .int .i64 xn, .string xs] 77)
          clear own2 HSJ HBJ
          go_wp2_with (at_builtin; refine appendV_law Tryz.elemVals rfl _ _ rfl _ _ _ _ _ ⟨xt, xn, xs⟩ rfl own3 (by show Value.slice (some ⟨w2.heap.size + 1, 0, none⟩) 1 1 = _; rw [World.size_alloc]) (by unfold maxLen; omega) (by omega) ?_)
          intro v4 w4 o4 e4
          have b4 := b3.trans ((e4.below own3).mono (by omega))
          rw [HVA.out] at o4
          have O4 := Lib.hid o4
          clear o4 e4 own3
          go_wp2
          go_roundw
          case rel => exact ⟨j + 1, nx, pre ++ [⟨xt, xn, xs⟩], by omega, by go_num, rfl, by rw [HLN.out, HPL.out], fun _ => HNX.out, HS2.out, by rw [HLN.out]; exact O4.out, b4⟩
          case measure => simp [intOf]; omega
        | false =>
          have HF : Hid (decD zs ty k = ([], false)) := by
            show _ = _
            have hd := HSJ.out
            rw [if_neg (by simp)] at hd
            exact HNONE.out hd
          have b3 := b2.alloc b2.size (.cells #[.int .i64 xt, .int .i64 xn, .string xs] 77)
          have HR := Lib.hid (HNO.out _ b3)
          clear own2 HSJ HBJ
          go_wp2
          go_ret2
          exact HFIN.out _ _ HR.out HF.out
      · obtain rfl : j = N := by omega
        have hdn := HFN.out q pre hd
        have HU := Lib.hid (decL_size hdn)
        rw [hdn] at HEX
        dsimp only at HEX HU
        obtain ⟨q0, q1⟩ := HQB.out (by omega)
        obtain ⟨A, rfl⟩ := Int.eq_ofNat_of_zero_le q0
        have hAn : A ≤ n := by omega
        have hcn' : n ≤ cap := hcn
        unfold decT at HEX
        rw [hpl, Int.toNat_natCast] at HEX
        obtain ⟨tl, htl, HTL⟩ := tail_at cap A b off
        have hatr := hat1.below hbr
        have HWD := Lib.hid (fun W => sWidthOf ((j : Int) - 1) W)
        generalize Bit.widthI ((j : Int) - 1) = wd at HWD HEX
        have HUN := Lib.hid (fun W (hW : Below wr.heap.size wr W) => sUnpackBits _ (n - A) (zs.drop A) (wd : Int) k W (by omega) (by rw [List.length_drop, hz]) (fun x hx => hby x (List.mem_of_mem_drop hx)) (.inr (At.from hz (hatr.below hW) hAn HTL.out)))
        have hun64 := Bit.unpack_le (zs.drop A) wd k
        generalize Bit.unpack (zs.drop A) (wd : Int) k = up at HUN HEX hun64
        clear hd hdn HST HFN HNONE HD0 q0 q1 HQB
        rw [hpl] at hown
        have HPLN := Lib.hid hpl
        clear hpl
        obtain ⟨ga, cga, rfl, hga1, hga2, hrow⟩ := hown
        have hown : Own 77 3 (w.heap.size + 1) wr.heap.size wr (.slice (some ⟨ga, 0, none⟩) j cga) j (vals pre) := ⟨ga, cga, rfl, hga1, hga2, hrow⟩
        have HOWN := Lib.hid hown
        clear hown hga1 hga2 hrow hcn hcm
        have hB' := (Below.refl wr.heap.size wr).drew
        have hwj : IntKind.i64.wrap ((j : Int) - 1) = (j : Int) - 1 := IntWalk.i64_in _ (by omega)
        obtain ⟨p, may⟩ := up
        simp only at HEX hun64
        go_wp2
        refine wp_region_held_drew (S := fun _ => True) (by kernel_rfl) trivial (fun hH => ?_)
        refine takeH (i := 0) (d := some 65) (v := .slice (some ⟨b, off, none⟩) n cap) rfl rfl (by kernel_rfl) (by kernel_rfl) (by kernel_rfl) (fun _ _ _ h => h) (Or.inl ⟨by rfl, fun W hSw => by go_simp⟩) hH ?_
        try simp only [put_some, List.set_cons_zero, List.set_cons_succ]
        refine takeH (i := 1) (d := some 66) (v := .int .i64 (A : Int)) rfl rfl (by kernel_rfl) (by kernel_rfl) (by kernel_rfl) (fun _ _ _ h => h) (Or.inl ⟨by rfl, fun W hSw => by go_simp⟩) hH ?_
        try simp only [put_some, List.set_cons_zero, List.set_cons_succ]
        refine takeH (i := 2) (d := some 67) (v := .slice (some ⟨b, tl, none⟩) (n - A) (cap - A)) rfl rfl (by kernel_rfl) (by kernel_rfl) (by kernel_rfl) (fun _ _ _ h => h) (Or.inl ⟨by rfl, fun W hSw => by go_simp⟩) hH ?_
        try simp only [put_some, List.set_cons_zero, List.set_cons_succ]
        refine takeH (i := 3) (d := some 68) (v := .int .i64 (j : Int)) rfl rfl (by kernel_rfl) (by kernel_rfl) (by kernel_rfl) (fun _ _ _ h => h) (Or.inl ⟨by rfl, fun W hSw => by go_simp⟩) hH ?_
        try simp only [put_some, List.set_cons_zero, List.set_cons_succ]
        refine takeH (i := 4) (d := some 69) (v := .int .i64 ((j : Int) - 1)) rfl rfl (by kernel_rfl) (by kernel_rfl) (by kernel_rfl) (fun _ _ _ h => h) (Or.inl ⟨by rfl, fun W hSw => by go_simp⟩) hH ?_
        try simp only [put_some, List.set_cons_zero, List.set_cons_succ]
        refine takeH (i := 6) (d := some 71) (v := .int .i64 k) rfl rfl (by kernel_rfl) (by kernel_rfl) (by kernel_rfl) (fun _ _ _ h => h) (Or.inl ⟨by rfl, fun W hSw => by go_simp⟩) hH ?_
        try simp only [put_some, List.set_cons_zero, List.set_cons_succ]
        refine wpAnyH_ready (rs := [5]) (by kernel_rfl) (by simp) ?_
        refine AllReadyH.cons rfl (fun K hK => ?_) AllReadyH.nil
        go_simp
        go_at_call 120
        refine (HWD.out _).mono ?_
        rintro e w' ⟨rfl, rfl⟩
        go_wp2_with fail
        refine hK.out _ _ trivial (fun hH => ?_)
        clear hK K
        refine wpAnyH_ready (rs := [7]) (by kernel_rfl) (by simp) ?_
        refine AllReadyH.cons rfl (fun K hK => ?_) AllReadyH.nil
        go_simp
        go_at_call 119
        refine (HUN.out _ hB').mono ?_
        rintro e w2 ⟨v2, rfl, o2, hb2⟩
        simp only at o2
        have b2 := below_then hB' hb2 hB'.size
        have bz := Lib.hid b2
        clear hb2 hB' htl hwj HWD
        go_wp2_with fail
        refine hK.out _ _ trivial (fun hH => ?_)
        clear hK K
        refine takeH (i := 8) (d := some 64) (v := .tuple #[v2, .bool may]) rfl rfl (by kernel_rfl) (by kernel_rfl) (by kernel_rfl) (fun _ _ _ h => h) (Or.inl ⟨by rfl, fun W hSw => by go_simp⟩) hH ?_
        try simp only [put_some, List.set_cons_zero, List.set_cons_succ]
        refine takeH (i := 9) (d := some 73) (v := v2) rfl rfl (by kernel_rfl) (by kernel_rfl) (by kernel_rfl) (fun _ _ _ h => h) (Or.inl ⟨by rfl, fun W hSw => by go_simp⟩) hH ?_
        try simp only [put_some, List.set_cons_zero, List.set_cons_succ]
        refine takeH (i := 10) (d := some 74) (v := .bool may) rfl rfl (by kernel_rfl) (by kernel_rfl) (by kernel_rfl) (fun _ _ _ h => h) (Or.inl ⟨by rfl, fun W hSw => by go_simp⟩) hH ?_
        try simp only [put_some, List.set_cons_zero, List.set_cons_succ]
        refine takeH (i := 11) (d := some 17) (v := v2) rfl rfl (by kernel_rfl) (by kernel_rfl) (by kernel_rfl) (fun _ _ _ h => h) (Or.inl ⟨by rfl, fun W hSw => by go_simp⟩) hH ?_
        try simp only [put_some, List.set_cons_zero, List.set_cons_succ]
        refine takeH (i := 12) (d := some 18) (v := .bool may) rfl rfl (by kernel_rfl) (by kernel_rfl) (by kernel_rfl) (fun _ _ _ h => h) (Or.inl ⟨by rfl, fun W hSw => by go_simp⟩) hH ?_
        try simp only [put_some, List.set_cons_zero, List.set_cons_succ]
        refine wpAnyH_done (by kernel_rfl) ?_ _
        have HPK := Lib.hid (sPicked (.slice (some ⟨ga, 0, none⟩) j cga) v2 pre p w2 (by omega) (by rw [HPLN.out]; exact (HOWN.out.below b2 (Nat.le_refl _)).rd) o2.rd)
        have HLS := Lib.hid (picked_all (p := p) (q := fun v => v.s.size ≤ maxLen) HU.out)
        have hl64 := Nat.le_trans (picked_len pre p) hun64
        generalize pickedL pre p = pc at HPK HLS hl64 HEX
        obtain ⟨l, can⟩ := pc
        unfold RDs at HPK
        simp only at HPK HLS hl64 HEX
        have B2 := below_then hbr b2 hbr.size
        have hzr := Nat.le_trans hbr.size b2.size
        clear o2 b2
        go_wp2_with fail
        refine HPK.out.mono ?_
        rintro e w3 ⟨v3, rfl, o3, hb3⟩
        have b3 := below_then B2 hb3 B2.size
        have HOL := Lib.hid (o3.lower (show w.heap.size ≤ w2.heap.size by omega))
        have O3 := Lib.hid o3
        have HEN := Lib.hid (sEncDict v3 l w3 (by omega) HLS.out o3.rd)
        clear hb3 HPK o3
        by_cases hmc : may = true ∧ can = true
        · obtain ⟨rfl, rfl⟩ := hmc
          go_wp2_with fail
          refine HEN.out.mono ?_
          rintro e w4 ⟨v4, rfl, o4, hb4⟩
          have b4 := below_then b3 hb4 b3.size
          have OL4 := Lib.hid ((HOL.out.below hb4 (Nat.le_refl _)).wide hb4.size)
          have HSM := Lib.hid (l5Same v4 _ (encD l).length n (encD l) zs w4 rfl hz (encD_bytes l) hby o4.at (hat1.below b4))
          clear HEN hb4 HOL o4 O3
          by_cases hen : encD l = zs
          · rw [decide_eq_true hen] at HSM
            have HF : Hid (decD zs ty k = (l, true)) := by
              show _ = _
              rw [HEX.out]
              exact if_pos (by first | exact ⟨trivial, trivial, hen⟩ | exact ⟨rfl, rfl, hen⟩)
            go_wp2_with (go_at_call 93; refine HSM.out.mono ?_; rintro e w' ⟨rfl, rfl⟩)
            go_ret2
            rw [HF.out]
            exact ⟨_, rfl, OL4.out, below_then hb0 b4 hb0.size⟩
          · rw [decide_eq_false hen] at HSM
            have HF : Hid (decD zs ty k = ([], false)) := by
              show _ = _
              rw [HEX.out]
              exact if_neg (fun h => hen h.2.2)
            have HR := Lib.hid (HNO.out _ b4)
            go_wp2_with (go_at_call 93; refine HSM.out.mono ?_; rintro e w' ⟨rfl, rfl⟩)
            go_ret2
            exact HFIN.out _ _ HR.out HF.out
        · have HF : Hid (decD zs ty k = ([], false)) := by
            show _ = _
            rw [HEX.out]
            exact if_neg (fun h => hmc ⟨h.1, h.2.1⟩)
          have HR := Lib.hid (HNO.out _ b3)
          clear HEN HOL O3
          cases may with
          | false =>
            go_wp2
            go_ret2
            exact HFIN.out _ _ HR.out HF.out
          | true =>
            cases can with
            | true => exact absurd ⟨rfl, rfl⟩ hmc
            | false =>
              go_wp2
              go_ret2
              exact HFIN.out _ _ HR.out HF.out
  · have HF : Hid (decD zs ty k = ([], false)) := by
      show _ = _
      rw [HEX.out]
      exact if_neg hc
    have HR := Lib.hid (HNO.out _ (Below.refl _ _))
    have HRW : Hid (w.alloc (.cells #[] 77) = W1) := hW1
    clear hat1 HV hN hb0 hz hby h
    cases ok0 with
    | false =>
      go_enter Tryz.func91, Tryz.ntmps91
      go_wp2_with (first | (go_at_call 60; refine HG0.out.mono ?_; rintro e w' ⟨rfl, rfl⟩))
      go_ret2
      exact HFIN.out _ _ HR.out HF.out
    | true =>
      cases hk : Num.inB k 1 64 with
      | false =>
        rw [hk] at HIK
        clear hk hc
        go_enter Tryz.func91, Tryz.ntmps91
        go_wp2_with (first | (go_at_call 60; refine HG0.out.mono ?_; rintro e w' ⟨rfl, rfl⟩) | (go_at_call 61; refine (HIK.out _).mono ?_; clear HIK; rintro e w' ⟨rfl, rfl⟩))
        go_ret2
        exact HFIN.out _ _ HR.out HF.out
      | true =>
        cases hx : Num.inB x0 1 k with
        | true => exact absurd ⟨rfl, hk, hx⟩ hc
        | false =>
          rw [hk] at HIK
          rw [hx] at HIN
          clear hk hx hc
          go_enter Tryz.func91, Tryz.ntmps91
          go_wp2_with (first | (go_at_call 60; refine HG0.out.mono ?_; rintro e w' ⟨rfl, rfl⟩) | (go_at_call 61; refine (HIK.out _).mono ?_; clear HIK; rintro e w' ⟨rfl, rfl⟩) | (go_at_call 61; refine (HIN.out _).mono ?_; rintro e w' ⟨rfl, rfl⟩))
          go_ret2
          exact HFIN.out _ _ HR.out HF.out

end Go.Proofs.YtkofafefnlommaaGreat

/- Plain mathematics of chapter 7: decoding gives back what was encoded; what decodes is what its values encode to. -/
namespace Go.Proofs.YtkofafefnlommaaGreat
open Go.RowKit

/-- The bytes of values. -/
def bodyV (d : List V) : List Int := d.flatMap valB
theorem putAll_body : ∀ (d : List V) (b : List Int), (∀ v ∈ d, okV v = true) → putAll b d = b ++ bodyV d
  | [], b, _ => by simp [putAll, bodyV]
  | v :: d, b, h => by
    have h1 := h v List.mem_cons_self
    have ih := putAll_body d (b ++ valB v) (fun x hx => h x (List.mem_cons_of_mem _ hx))
    unfold putAll at ih ⊢
    rw [List.foldl_cons, putV_val h1, ih]
    simp [bodyV]
theorem decL_body {ty : Int} : ∀ (d : List V) (b rest : List Int), (∀ v ∈ d, okV v = true ∧ v.ty = ty) → decL (b ++ (bodyV d ++ rest)) ty d.length b.length = some (d, ((b ++ bodyV d).length : Int))
  | [], b, rest, _ => by simp [decL, bodyV]
  | v :: d, b, rest, h => by
    have h1 := h v List.mem_cons_self
    have e1 : b ++ (bodyV (v :: d) ++ rest) = b ++ (valB v ++ (bodyV d ++ rest)) := by simp [bodyV]
    have e3 : b ++ (bodyV (v :: d) ++ rest) = (b ++ valB v) ++ (bodyV d ++ rest) := by simp [bodyV]
    have g : getV (b ++ (bodyV (v :: d) ++ rest)) b.length ty = (v, ((b ++ valB v).length : Int), true) := by
      rw [e1, ← h1.2]
      exact getV_val h1.1 _ _
    have ih := decL_body d (b ++ valB v) rest (fun x hx => h x (List.mem_cons_of_mem _ hx))
    rw [← e3] at ih
    rw [List.length_cons, decL, g]
    simp only [if_true]
    rw [ih]
    simp [bodyV]
theorem places_fit {D l : List V} (h : ∀ v ∈ l, v ∈ D) (h1 : 1 ≤ D.length) (h2 : D.length ≤ 64) : Bit.fitsB (l.map (inI D)) (Bit.widthI ((D.length : Int) - 1) : Nat) = true := by
  refine Bit.digs_fits (fun x hx => ?_) (Bit.widthI_le31 _)
  obtain ⟨v, hv, rfl⟩ := List.mem_map.1 hx
  obtain ⟨i, hi⟩ := inD_mem (h v hv)
  have hlt := (inD_some hi).1
  rw [inI_some hi]
  have hw := (Bit.widthI_in (x := (D.length : Int) - 1) (by omega) (by omega) (Bit.widthI ((D.length : Int) - 1))).1 (Nat.le_refl _)
  exact ⟨by omega, Bit.lt_of_toNat (by omega)⟩
theorem dec_encD {l : List V} (h : ¬ typeV l = 0) : decD (encD l) (typeV l) l.length = (l, true) := by
  obtain ⟨h1, h64, hall⟩ := typeV_parts h
  have hk : Num.inB (l.length : Int) 1 64 = true := Num.inB_true.2 ⟨by omega, by omega⟩
  have hD : ∀ v ∈ dictL l, okV v = true ∧ v.ty = typeV l := dict_all hall
  have hm : ∀ v ∈ l, v ∈ dictL l := fun v hv => mem_dict.2 hv
  have hl := dict_len l
  have hpos : 1 ≤ (dictL l).length := by
    have : l[0] ∈ dictL l := mem_dict.2 (List.getElem_mem _)
    have := List.length_pos_of_mem this
    omega
  have hfit := places_fit hm hpos (by omega)
  have hpm := places_mem hm
  have hpp := picked_places hm
  have hul := Bit.unpack_pack hfit (by simp; omega)
  rw [List.length_map] at hul
  have he : encD l = putAll (Num.put [] (dictL l).length) (dictL l) ++ Bit.pack (l.map (inI (dictL l))) (Bit.widthI ((dictL l).length - 1)) := by
    unfold encD
    rw [if_neg h, hpm]
  have hE := he
  generalize dictL l = D at *
  have hok : Num.ok (D.length : Int) := by unfold Num.ok; omega
  generalize hpk : Bit.pack (l.map (inI D)) (Bit.widthI ((D.length : Int) - 1) : Nat) = pk at *
  generalize hb0 : Num.grp 4 (Num.zig (D.length : Int)) = b0 at *
  have he2 : encD l = b0 ++ (bodyV D ++ pk) := by
    rw [he, putAll_body _ _ (fun v hv => (hD v hv).1), Num.put_ok hok, hb0]
    simp
  have hg : Num.get (encD l) 0 = ((D.length : Int), (b0.length : Int), true) := by
    have := get_grp (b := []) (rest := bodyV D ++ pk) hok
    rw [hb0] at this
    rw [he2]
    exact this
  have hd : decL (encD l) (typeV l) D.length b0.length = some (D, ((b0 ++ bodyV D).length : Int)) := by
    rw [he2]
    exact decL_body D b0 pk hD
  have hdrop : (encD l).drop (b0 ++ bodyV D).length = pk := by
    rw [he2, ← List.append_assoc]
    simp
  unfold decD
  rw [hg]
  simp only
  rw [if_pos ⟨trivial, hk, Num.inB_true.2 ⟨by omega, by omega⟩⟩, Int.toNat_natCast, hd]
  simp only
  unfold decT
  rw [Int.toNat_natCast, hdrop, hul]
  simp only
  rw [hpp]
  simp
theorem decL_ok {zs : List Int} (hb : Num.Bytes zs) {ty : Int} : ∀ {n : Nat} {i : Int} {r : List V × Int}, decL zs ty n i = some r → ∀ v ∈ r.1, okV v = true ∧ v.ty = ty := by
  intro n
  induction n with
  | zero =>
    intro i r h v hv
    simp only [decL, Option.some.injEq] at h
    subst h
    cases hv
  | succ n ih =>
    intro i r h v hv
    rw [decL] at h
    split at h
    · rename_i hg
      obtain ⟨q, hq, rfl⟩ := Option.map_eq_some_iff.1 h
      rcases List.mem_cons.1 hv with rfl | hv
      · exact getV_ok hb hg
      · exact ih hq v hv
    · cases h
theorem picked_true {d : List V} {p : List Int} (h : (pickedL d p).2 = true) : (pickedL d p).1.length = p.length := by
  unfold pickedL at h ⊢
  split
  · simp
  · rename_i hc
    rw [if_neg hc] at h
    cases h
theorem dec_okD {zs : List Int} (hb : Num.Bytes zs) {ty k : Int} (h : (decD zs ty k).2 = true) : encD (decD zs ty k).1 = zs ∧ ((decD zs ty k).1.length : Int) = k ∧ typeV (decD zs ty k).1 = ty := by
  unfold decD at h ⊢
  split
  · rename_i hc
    rw [if_pos hc] at h
    have hkk := Num.inB_true.1 hc.2.1
    split
    · rename_i r hr
      rw [hr] at h
      simp only at h ⊢
      unfold decT at h ⊢
      split
      · rename_i hq
        have hp := picked_true hq.2.1
        have hl : (((Bit.unpack (zs.drop r.2.toNat) (Bit.widthI ((r.1.length : Int) - 1)) k).1.length : Nat) : Int) = k :=
          (Bit.pack_unpack (fun x hx => hb x (List.mem_of_mem_drop hx)) (Prod.ext rfl hq.1)).2
        simp only
        refine ⟨hq.2.2, by rw [hp]; exact hl, typeV_of (by omega) (by omega) ?_⟩
        exact picked_all (decL_ok hb hr)
      · rename_i hq
        rw [if_neg hq] at h
        cases h
    · rename_i hr
      rw [hr] at h
      cases h
  · rename_i hc
    rw [if_neg hc] at h
    cases h
theorem asc_next {d : List V} (h : Asc d) {i : Nat} (hi : i + 1 < d.length) : lessV (d.getD i V.zero) (d.getD (i + 1) V.zero) = true := by
  rw [getDe d V.zero (by omega : i < d.length), getDe d V.zero hi]
  exact (List.pairwise_iff_getElem.1 h) i (i + 1) (by omega) hi (by omega)

end Go.Proofs.YtkofafefnlommaaGreat

/- The contracts of the model's Base, Offsets, Reach, EncFrame. -/
namespace Go.Proofs.YtkofafefnlommaaGreat
open Go.RowKit

set_option maxHeartbeats 1000000 in
theorem sBase (u : Value) (l : List V) (w : World) (h : Rd 3 w u l.length (vals l)) :
    Calls Tryz.prog 145 #[u] w fun e w' => e = .returned (.int .i64 (baseL l)) ∧ w = w' := by
  have HST : Hid (∀ k, k < l.length → baseK l (k + 1) = if (l.getD k V.zero).n < baseK l k then (l.getD k V.zero).n else baseK l k) := fun k hk => baseK_step hk
  have HON : Hid (0 < l.length → baseK l 1 = (l.getD 0 V.zero).n) := baseK_one
  have HEN : Hid (∀ x, (x = if l.length = 0 then 0 else baseK l l.length) → x = baseL l) := fun x hx => by
    rw [hx]
    split
    · rename_i h0
      obtain rfl := List.length_eq_zero_iff.1 h0
      rfl
    · exact baseK_end l
  generalize baseL l = R at HEN
  generalize hl : l.length = n at h HST HON HEN
  obtain ⟨a, cap, rfl, hm, HC⟩ := h.vals hl
  unfold maxLen at hm
  clear h hl
  go_enter Tryz.func145, Tryz.ntmps145
  go_wp2
  go_loop [3, 4] (fun x i => ∃ (k : Nat) (z : Int), k ≤ n ∧ i = .int .i64 k ∧ x = .int .i64 z ∧ z = if k = 0 then 0 else baseK l k) (fun _ i => n - (intOf i).toNat)
  case atStart => exact ⟨0, 0, Nat.zero_le _, rfl, rfl, rfl⟩
  case round =>
    obtain ⟨k, z, hk, rfl, rfl, hz⟩ := hrel
    by_cases hlt : k < n
    · obtain ⟨b, off, rfl, p0, p1, p2⟩ := HC.out k hlt
      have HSK := Lib.hid (HST.out k hlt)
      by_cases hk0 : k = 0
      · subst hk0
        have HO := Lib.hid (HON.out hlt)
        simp only [Nat.zero_mul, Nat.add_zero] at p1
        generalize (l.getD 0 V.zero).n = y at p1 HO
        clear hz HSK p0 p2
        go_wp2
        go_round
        case rel => exact ⟨1, y, by omega, by go_num, rfl, by rw [if_neg (by omega), HO.out]⟩
        case measure => simp [intOf]; omega
      · have hkb : ((k : Int) == 0) = false := by simpa using hk0
        rw [if_neg hk0] at hz
        rw [← hz] at HSK
        generalize (l.getD k V.zero).n = y at p1 HSK
        clear hz p0 p2 hk0
        by_cases hy : y < z
        · rw [if_pos hy] at HSK
          go_wp2
          go_round
          case rel => exact ⟨k + 1, y, by omega, by go_num, rfl, by rw [if_neg (by omega), HSK.out]⟩
          case measure => simp [intOf]; omega
        · rw [if_neg hy] at HSK
          go_wp2
          go_round
          case rel => exact ⟨k + 1, z, by omega, by go_num, rfl, by rw [if_neg (by omega), HSK.out]⟩
          case measure => simp [intOf]; omega
    · obtain rfl : k = n := by omega
      have HR := Lib.hid (HEN.out z hz)
      clear hz
      go_wp2
      go_ret
      exact ⟨ret_int HR.out, rfl⟩

/-- The offsets of the first k values. -/
def ofK (l : List V) (k : Nat) : List Int := (l.take k).map (fun v => v.n - baseL l)
theorem ofK_step {l : List V} {k : Nat} (h : k < l.length) : ints .i64 (ofK l (k + 1)) = ints .i64 (ofK l k) ++ [.int .i64 ((l.getD k V.zero).n - baseL l)] := by
  unfold ofK
  rw [List.take_succ_eq_append_getElem h, List.map_append, ints_append, getDe l V.zero h]
  rfl
theorem ofK_end {l : List V} (h : typeV l = 1) : ofK l l.length = offL l := by
  unfold ofK
  rw [List.take_length, off_yes h]
theorem num_at {l : List V} (h : typeV l = 1) {k : Nat} (hk : k < l.length) : -1000000000 ≤ (l.getD k V.zero).n ∧ (l.getD k V.zero).n ≤ 1000000000 := by
  rw [getDe l V.zero hk]
  exact int_num h _ (List.getElem_mem hk)

set_option maxHeartbeats 1000000 in
theorem sOffsets (u : Value) (l : List V) (w : World) (hss : ∀ v ∈ l, v.s.size ≤ maxLen) (h : Rd 3 w u l.length (vals l)) :
    Calls Tryz.prog 143 #[u] w fun e w' => ∃ v', e = .returned v' ∧ Own 3 1 w.heap.size w'.heap.size w' v' (offL l).length (ints .i64 (offL l)) ∧ Below w.heap.size w w' := by
  have hown0 := own_lit (e := 3) (size := 1) w #[] 0 (Nat.zero_le _) rfl
  have hb0 := below_alloc w (.cells #[] 3)
  have HT := Lib.hid (sTypeOf u l _ hss (h.below hb0))
  have HB := Lib.hid (fun W (hW : Below w.heap.size w W) => sBase u l W (h.below hW))
  have HNO : Hid (¬ typeV l = 1 → offL l = []) := off_no
  have HYES : Hid (typeV l = 1 → ofK l l.length = offL l ∧ l.length ≤ 64 ∧ (-1000000000 ≤ baseL l ∧ baseL l ≤ 1000000000) ∧ ∀ k, k < l.length → -1000000000 ≤ (l.getD k V.zero).n ∧ (l.getD k V.zero).n ≤ 1000000000) := fun h => ⟨ofK_end h, (int_parts h).2.1, base_ok h, fun k hk => num_at h hk⟩
  have HS : Hid (∀ k, k < l.length → ints .i64 (ofK l (k + 1)) = ints .i64 (ofK l k) ++ [.int .i64 ((l.getD k V.zero).n - baseL l)]) := fun k hk => ofK_step hk
  have HTL : Hid (∀ k, k ≤ l.length → (ofK l k).length = k) := fun k hk => by simp [ofK]; omega
  generalize hl : l.length = n at h HT HB HYES HS HTL
  obtain ⟨a, cap, rfl, hm, HC⟩ := h.vals hl
  unfold maxLen at hm
  generalize typeV l = ty at HT HNO HYES
  generalize baseL l = bs at HB HYES HS
  generalize offL l = R at HNO HYES
  clear h hl hss
  go_enter Tryz.func143, Tryz.ntmps143
  go_wp2_with fail
  refine HT.out.mono ?_
  rintro e w1 ⟨rfl, hb1⟩
  have b1 := below_then hb0 hb1 hb0.size
  have O1 := (hown0.below hb1 (by simp)).wide hb1.size
  clear HT hb1 hown0 hb0
  by_cases ht : ty = 1
  · subst ht
    obtain ⟨hR, h64, hbs, HNM⟩ := HYES.out rfl
    have HR := Lib.hid hR
    have HN := Lib.hid HNM
    clear hR HNM HYES HNO
    have e0 : ofK l 0 = [] := by simp [ofK]
    go_wp2_with (go_at_call 145; refine (HB.out _ b1).mono ?_; rintro e w' ⟨rfl, rfl⟩)
    go_loopw [3, 5] (fun o i wr => ∃ k : Nat, k ≤ n ∧ i = .int .i64 k ∧ Own 3 1 w.heap.size wr.heap.size wr o k (ints .i64 (ofK l k)) ∧ Below w.heap.size w wr) (fun _ i _ => n - (intOf i).toNat)
    case atStart => exact ⟨0, Nat.zero_le _, rfl, by rw [e0]; exact O1, b1⟩
    case round =>
      obtain ⟨k, hk, rfl, hown, hbr⟩ := hrel
      by_cases hlt : k < n
      · obtain ⟨b, off, rfl, p0, p1, p2⟩ := HC.out k hlt
        replace p1 := (hbr.cell (p := ⟨b, off + k * 3 + 1, none⟩) (lt_of_cell p1)).trans p1
        have HSK := Lib.hid (HS.out k hlt)
        obtain ⟨y0, y1⟩ := HN.out k hlt
        generalize (l.getD k V.zero).n = y at p1 HSK y0 y1
        clear p0 p2
        go_wp2_with (at_builtin; refine append1_law Tryz.elemInts rfl _ _ rfl _ _ _ _ _ (.int .i64 (y - bs)) rfl rfl hown rfl (by unfold maxLen; omega) (by omega) ?_)
        intro v4 w4 o4 e4
        have b4 := hbr.trans (e4.below hown)
        rw [← HSK.out] at o4
        have O4 := Lib.hid o4
        clear o4 e4 hown p1
        go_wp2
        go_roundw
        case rel => exact ⟨k + 1, by omega, by go_num, O4.out, b4⟩
        case measure => simp [intOf]; omega
      · obtain rfl : k = n := by omega
        have OO := Lib.hid hown
        have HL := Lib.hid (HTL.out k (Nat.le_refl _))
        clear hown
        go_wp2
        go_ret
        exact ⟨_, rfl, by have := OO.out; rw [← HR.out, HL.out]; exact this, hbr⟩
  · have htb : (ty != 1) = true := by simpa using ht
    have HR := Lib.hid (HNO.out ht)
    clear ht
    go_wp2
    go_ret
    rw [HR.out]
    exact ⟨_, rfl, O1, b1⟩

set_option maxHeartbeats 2000000 in
theorem sEncFrame (u : Value) (l : List V) (w : World) (hss : ∀ v ∈ l, v.s.size ≤ maxLen) (h : Rd 3 w u l.length (vals l)) :
    Calls Tryz.prog 112 #[u] w fun e w' => ∃ v', e = .returned v' ∧ Own 5 1 w.heap.size w'.heap.size w' v' (encF l).length (ints .u8 (encF l)) ∧ Below w.heap.size w w' := by
  have HE : Hid (encF l = if typeV l = 1 then (Num.put [] (baseL l) ++ [(Bit.widthFor (offL l) : Int)]) ++ Bit.pack (offL l) (Bit.widthFor (offL l)) else []) := rfl
  have HT := Lib.hid (sTypeOf u l w hss h)
  have HB := Lib.hid (fun W (hW : Below w.heap.size w W) => sBase u l W (h.below hW))
  have HO := Lib.hid (fun W (hW : Below w.heap.size w W) => sOffsets u l W hss (h.below hW))
  have hol := (off_len l).2
  generalize typeV l = ty at HE HT
  generalize baseL l = bs at HE HB
  generalize offL l = o at HE HO hol
  generalize encF l = R at HE
  clear hss h
  go_enter Tryz.func112, Tryz.ntmps112
  go_wp2_with fail
  refine HT.out.mono ?_
  rintro e w1 ⟨rfl, b1⟩
  clear HT
  by_cases ht : ty = 1
  · subst ht
    rw [if_pos rfl] at HE
    go_wp2_with fail
    refine (HO.out w1 b1).mono ?_
    rintro e w2 ⟨v2, rfl, o2, hb2⟩
    have b2 := below_then b1 hb2 b1.size
    have HW := Lib.hid (sWidthFor v2 o.length o w2 rfl (.inr o2.at))
    have hw31 := Bit.widthFor_le31 o
    have hpn := Bit.pack_le o (Bit.widthFor o)
    generalize Bit.widthFor o = wd at HE HW hw31 hpn
    have z2 := hb2.size
    clear HO hb2
    go_wp2_with fail
    refine HW.out.mono ?_
    rintro e w' ⟨rfl, rfl⟩
    clear HW
    have O3 := own_lit (e := 5) (size := 1) w2 #[] 0 (Nat.zero_le _) rfl
    have hb3 := below_alloc w2 (.cells #[] 5)
    have b3 := below_then b2 hb3 b2.size
    have HN := Lib.hid (sPutNum _ 0 [] bs _ (by omega) rfl O3.at)
    have hpl := (Num.put_len [] bs).2
    simp only [List.length_nil] at hpl
    generalize Num.put [] bs = pb at HN HE hpl
    generalize hpbn : pb.length = pbn at HN hpl
    have o3 := o2.below hb3 (Nat.le_refl _)
    clear O3
    go_wp2_with (first | (go_at_call 145; refine (HB.out _ b3).mono ?_; rintro e w' ⟨rfl, rfl⟩) | fail)
    refine HN.out.mono ?_
    rintro e w4 ⟨v4, rfl, o4, hb4⟩
    have b4 := below_then b3 hb4 b3.size
    have own4 := o4.lower (lo' := w2.heap.size) (by simp)
    have op4 := o3.below hb4 (by simp)
    have hz2 : Hid (w.heap.size ≤ w2.heap.size) := b2.size
    have hwdi : (wd : Int) ≤ 31 := by omega
    have HES : Hid (ints .u8 pb ++ .int .u8 (wd : Int) :: ints .u8 (Bit.pack o wd) = ints .u8 R ∧ pbn + 1 + (Bit.pack o wd).length = R.length) := by
      rw [HE.out, ← hpbn]
      refine ⟨?_, by simp only [List.length_append, List.length_cons, List.length_nil]⟩
      rw [ints_append, ints_append, List.append_assoc]
      rfl
    have HPK := Lib.hid (fun W hW => sPackBits v2 o.length o (wd : Int) W (by omega) rfl (.inr hW))
    generalize Bit.pack o (wd : Int) = pk at HPK HES hpn
    generalize pk.length = pn at HPK HES hpn
    generalize o.length = on at *
    obtain ⟨g2, c2, rfl⟩ : ∃ g c, v2 = .slice (some ⟨g, 0, none⟩) on c := by
      obtain ⟨g, c, e, _⟩ := o2
      exact ⟨g, c, e⟩
    clear o2 o3 o4 hb3 hb4 HN HB hpbn HE b1 b2 b3 z2
    go_wp2_with (first | (at_builtin; refine append1_law Tryz.elemBytes rfl _ _ rfl _ _ _ _ _ (.int .u8 (wd : Int)) rfl rfl own4 rfl (by unfold maxLen; omega) (by omega) ?_) | fail)
    intro v5 w5 o5 e5
    have hb5 := e5.below own4
    have b5 := b4.trans (hb5.mono hz2.out)
    have HPK5 := Lib.hid (HPK.out w5 (op4.below hb5 (Nat.le_refl _)).at)
    clear hb5 e5 own4 op4 b4 HPK
    go_wp2_with fail
    refine HPK5.out.mono ?_
    rintro e w6 ⟨v6, rfl, o6, hb6⟩
    have b6 := below_then b5 hb6 b5.size
    have own6 := (o5.below hb6 (Nat.le_refl _)).wide hb6.size
    obtain ⟨g6, off6, cp6, rfl, hn6, hc6, hl6, hcs6⟩ := o6.at
    have HL6 := Lib.hid hl6
    have HC6 := Lib.hid hcs6
    clear hl6 hcs6 o6 hb6 o5 HPK5 b5
    go_wp2_with (at_builtin; refine append_law Tryz.elemBytes rfl _ _ rfl _ _ _ _ _ rfl own6 g6 off6 pn cp6 (ints .u8 pk) rfl HL6.out HC6.out (ints_one _ _) (by unfold maxLen; omega) (by omega) ?_)
    intro v7 w7 o7 e7
    have b7 := b6.trans ((e7.below own6).mono hz2.out)
    rw [HES.out.1, HES.out.2] at o7
    have O7 := Lib.hid (o7.lower hz2.out)
    clear o7 e7 own6
    go_wp2
    go_ret
    exact ⟨_, rfl, O7.out, b7⟩
  · have htb : (ty != 1) = true := by simpa using ht
    rw [if_neg ht] at HE
    have O1 := own_lit (e := 5) (size := 1) w1 #[] 0 (Nat.zero_le _) rfl
    have B1 := b1.alloc b1.size (.cells #[] 5)
    have z1 := b1.size
    go_wp2
    go_ret
    rw [HE.out]
    exact ⟨_, rfl, O1.lower z1, B1⟩

end Go.Proofs.YtkofafefnlommaaGreat

/- Chapter 7's exact laws, walked; the program's own contracts come as hypotheses. -/
namespace Go.Proofs.YtkofafefnlommaaGreat
open Go.RowKit

def CDict : Prop := ∀ (u : Value) (l : List V) (w : World), l.length ≤ 1048576 → (∀ v ∈ l, v.s.size ≤ maxLen) → Rd 3 w u l.length (vals l) → Calls Tryz.prog 155 #[u] w fun e w' => ∃ v', e = .returned v' ∧ Own 77 3 w.heap.size w'.heap.size w' v' (dictL l).length (vals (dictL l)) ∧ Below w.heap.size w w'
def CPlaces : Prop := ∀ (u v : Value) (d l : List V) (w : World), d.length ≤ 1048576 → l.length ≤ 1048576 → Rd 3 w u d.length (vals d) → Rd 3 w v l.length (vals l) → Calls Tryz.prog 156 #[u, v] w (Unpacked w (placesL d l))
def CPicked : Prop := ∀ (u v : Value) (d : List V) (l : List Int) (w : World), d.length ≤ 1048576 → l.length ≤ 1048576 → Rd 3 w u d.length (vals d) → Rd 1 w v l.length (ints .i64 l) → Calls Tryz.prog 168 #[u, v] w fun e w' => RDs w w' e (pickedL d l)
def CEncDict : Prop := ∀ (u : Value) (l : List V) (w : World), l.length ≤ 1048576 → (∀ v ∈ l, v.s.size ≤ maxLen) → Rd 3 w u l.length (vals l) → Calls Tryz.prog 133 #[u] w fun e w' => ∃ v', e = .returned v' ∧ Own 5 1 w.heap.size w'.heap.size w' v' (encD l).length (ints .u8 (encD l)) ∧ Below w.heap.size w w'
def CDecDict : Prop := ∀ (u : Value) (n : Nat) (zs : List Int) (ty k : Int) (w : World), n ≤ 1048576 → zs.length = n → Num.Bytes zs → At 1 w u n (ints .u8 zs) → Calls Tryz.prog 137 #[u, .int .i64 ty, .int .i64 k] w fun e w' => RDs w w' e (decD zs ty k)
theorem encD_len' (l : List V) : (encD l).length ≤ 1024 + l.length := by
  have := encD_len l
  omega

end Go.Proofs.YtkofafefnlommaaGreat

/- The contracts of impl's InDict (with slices.Index) and Picked. -/
namespace Go.Proofs.YtkofafefnlommaaGreat
open Go.RowKit

theorem eqB_comm (x y : V) : x.eqB y = y.eqB x := by
  cases h : y.eqB x with
  | true => exact eqB_true.2 (eqB_true.1 h).symm
  | false => exact eqB_false.2 (fun e => eqB_false.1 h e.symm)

set_option maxHeartbeats 2000000 in
theorem iPicked : CPicked := by
  intro u v d l w hdn hn hd h
  generalize hdl : d.length = m at hd hdn
  obtain ⟨da, dcap, rfl, hdm, HDC⟩ := hd.vals hdl
  generalize hl : l.length = K at h hn
  obtain ⟨a, cap, rfl, hm, HC⟩ := h.ints hl
  unfold maxLen at hm hdm
  have HL := Lib.hid hl
  have HPB : Hid (∀ x : Int, 0 ≤ x → x < m → pickB d x = true) := fun x h0 h1 => decide_eq_true ⟨h0, by omega⟩
  have HPN : Hid (∀ x : Int, (x < 0 ∨ (m : Int) ≤ x) → pickB d x = false) := fun x h1 => decide_eq_false (fun h2 => by omega)
  have HNO : Hid (∀ k, k < K → pickB d (l.getD k 0) = false → pickedL d l = ([], false)) := fun k hk h1 => picked_no (by omega) h1
  have HYES : Hid ((∀ k, k < K → pickB d (l.getD k 0) = true) → pickedL d l = (l.map (fun x => d.getD x.toNat V.zero), true)) := fun h1 => picked_yes (fun k hk => h1 k (by omega))
  have HS : Hid (∀ k, k < K → pkK d l (k + 1) = pkK d l k ++ [d.getD (l.getD k 0).toNat V.zero]) := fun k hk => by
    unfold pkK
    exact map_snoc _ _ 0 _ (by omega)
  have HKL : Hid (∀ k, k ≤ K → (pkK d l k).length = k) := fun k hk => by simp [pkK]; omega
  have HPK0 : Hid (pkK d l 0 = []) := by show _ = _; simp [pkK]
  have HPKE : Hid (pkK d l K = l.map (fun x => d.getD x.toNat V.zero)) := by show _ = _; unfold pkK; rw [← hl, List.take_length]
  generalize pickedL d l = R at HNO HYES
  clear h hl hd hdl
  go_enter Tryz.func168, Tryz.ntmps168
  go_wp2_with (at_make; refine make_law Tryz.elemVals rfl _ _ rfl .i64 .i64 _ _ K rfl rfl rfl rfl (by omega) (by unfold maxLen; omega) ?_)
  intro w1 hown1 hb1
  have hown0 : Own 77 3 w.heap.size w1.heap.size w1 (.slice (some ⟨w.heap.size, 0, none⟩) K K) K (vals (fillV (pkK d l 0) K)) := by
    have e : vals (fillV (pkK d l 0) K) = (madeCells V.zero.cs.toArray (K * 3)).toList := by
      rw [made_flat V.cs V.zero 3 K (by omega) (fun _ => rfl), HPK0.out]
      simp [fillV, vals]
    rw [e]
    exact hown1
  clear hown1
  go_wp2
  go_loopw [14] (fun i wr => ∃ j : Nat, j ≤ K ∧ i = .int .i64 j ∧ (∀ i, i < j → pickB d (l.getD i 0) = true) ∧ wr.ownsRow w.heap.size 77 3 (.slice (some ⟨w.heap.size, 0, none⟩) K K) K (vals (fillV (pkK d l j) K)) ∧ Below w.heap.size w wr) (fun i _ => K - (intOf i).toNat)
  case atStart => exact ⟨0, Nat.zero_le _, rfl, fun i hi => by omega, hown0.row, hb1⟩
  case round =>
    obtain ⟨j, hj, rfl, hno, hown, hbr⟩ := hrel
    have HK := Lib.hid hno
    clear hown0 hb1 hno
    by_cases hlt : j < K
    · obtain ⟨b, off, rfl, p0⟩ := HC.out j hlt
      replace p0 := (hbr.cell (p := ⟨b, off + j, none⟩) (lt_of_cell p0)).trans p0
      have HSJ := Lib.hid (HS.out j hlt)
      have HKJ := Lib.hid (HKL.out j hj)
      have HSET := Lib.hid (fun x => fillV_set (pre := pkK d l j) (K := K) x (by rw [HKJ.out]; exact hlt))
      rw [HKJ.out] at HSET
      have HFL := Lib.hid (fillV_len (pre := pkK d l j) (K := K) (by rw [HKJ.out]; exact hj))
      have HNK := Lib.hid (HNO.out j hlt)
      have HKK : Hid (pickB d (l.getD j 0) = true → ∀ i, i < j + 1 → pickB d (l.getD i 0) = true) := fun h1 i hi => by
        by_cases e : i = j
        · subst e; exact h1
        · exact HK.out i (by omega)
      have HPZ := Lib.hid (HPB.out (l.getD j 0))
      have HPM := Lib.hid (HPN.out (l.getD j 0))
      generalize l.getD j 0 = z at p0 HSJ HNK HKK HPZ HPM
      by_cases hz : z < 0 ∨ (m : Int) ≤ z
      · have HR := Lib.hid (HNK.out (HPM.out hz))
        have OL := own_lit (e := 77) (size := 3) wr #[] 0 (Nat.zero_le _) rfl
        have BL := hbr.alloc hbr.size (.cells #[] 77)
        have hzz := hbr.size
        clear hown
        by_cases hz0 : z < 0
        · go_wp2
          go_ret2
          rw [HR.out]
          exact ⟨_, rfl, OL.lower hzz, BL⟩
        · have hz1 : (m : Int) ≤ z := by omega
          clear hz
          go_wp2
          go_ret2
          rw [HR.out]
          exact ⟨_, rfl, OL.lower hzz, BL⟩
      · have HK2 := Lib.hid (HKK.out (HPZ.out (by omega) (by omega)))
        obtain ⟨A, rfl⟩ := Int.eq_ofNat_of_zero_le (show 0 ≤ z by omega)
        have hAm : A < m := by omega
        obtain ⟨db, doff, rfl, d0, d1, d2⟩ := HDC.out A hAm
        replace d0 := (hbr.cell (p := ⟨db, doff + A * 3, none⟩) (lt_of_cell d0)).trans d0
        replace d1 := (hbr.cell (p := ⟨db, doff + A * 3 + 1, none⟩) (lt_of_cell d1)).trans d1
        replace d2 := (hbr.cell (p := ⟨db, doff + A * 3 + 2, none⟩) (lt_of_cell d2)).trans d2
        rw [Int.toNat_natCast] at HSJ
        generalize d.getD A V.zero = y at d0 d1 d2 HSJ
        obtain ⟨t1, n1, s1⟩ := y
        simp only at d0 d1 d2
        have R := Lib.hid (stored3 hown j ⟨t1, n1, s1⟩ (by rw [HFL.out]; exact hlt))
        rw [HSET.out, ← HSJ.out] at R
        obtain ⟨x0, s0⟩ := cellAt_some hown (j * 3) (by omega)
        obtain ⟨x1, s1'⟩ := cellAt_some hown (j * 3 + 1) (by omega)
        obtain ⟨x2, s2⟩ := cellAt_some hown (j * 3 + 2) (by omega)
        have f0 := hown.frozenAt (j * 3)
        have f1 := hown.frozenAt (j * 3 + 1)
        have f2 := hown.frozenAt (j * 3 + 2)
        have b3 := Lib.hid (((hbr.setCell (p := ⟨w.heap.size, j * 3, none⟩) (Nat.le_refl _) (.int .i64 t1)).setCell (p := ⟨w.heap.size, j * 3 + 1, none⟩) (Nat.le_refl _) (.int .i64 n1)).setCell (p := ⟨w.heap.size, j * 3 + 2, none⟩) (Nat.le_refl _) (.string s1))
        clear hown hbr hz
        go_wp2
        go_roundw
        case rel => exact ⟨j + 1, by omega, by go_num, HK2.out, R.out.1, b3.out⟩
        case measure => simp [intOf]; omega
    · obtain rfl : j = K := by omega
      have HR := Lib.hid (HYES.out HK.out)
      have OO := Lib.hid (own_of_row hown (Nat.le_refl _))
      have HKJ := Lib.hid (HKL.out j hj)
      clear hown
      go_wp2
      go_ret2
      rw [HR.out]
      refine ⟨_, rfl, ?_, hbr⟩
      have := OO.out
      rw [fillV_all HKJ.out, HPKE.out] at this
      show Own _ _ _ _ _ _ (l.map _).length _
      rw [List.length_map, HL.out]
      exact this

end Go.Proofs.YtkofafefnlommaaGreat

/- The contract of the model's Raised. -/
namespace Go.Proofs.YtkofafefnlommaaGreat
open Go.RowKit

theorem upB_in {base x : Int} (h : upB base x = true) : (0 ≤ x ∧ x ≤ 2000000000) ∧ base + x ≤ 1000000000 := by
  have := of_decide_eq_true h
  omega
theorem raised_bad {base : Int} (l : List Int) (h : Num.okB base = false) : raisedL base l = ([], false) := if_neg (fun e => by rw [h] at e; cases e.1)
theorem raised_no {base : Int} {l : List Int} {k : Nat} (hk : k < l.length) (h : upB base (l.getD k 0) = false) : raisedL base l = ([], false) := if_neg (fun e => by
  have h2 := List.all_eq_true.1 e.2 (l[k]) (List.getElem_mem hk)
  rw [getDe l 0 hk, h2] at h
  cases h)
theorem raised_yes {base : Int} {l : List Int} (hb : Num.okB base = true) (h : ∀ k, k < l.length → upB base (l.getD k 0) = true) : raisedL base l = (l.map (upV base), true) := if_pos ⟨hb, List.all_eq_true.2 (fun x hx => by
  obtain ⟨k, hk, rfl⟩ := List.getElem_of_mem hx
  have := h k hk
  rw [getDe l 0 hk] at this
  exact this)⟩
/-- The first k values. -/
def upK (base : Int) (l : List Int) (k : Nat) : List V := (l.take k).map (upV base)
theorem upK_step {base : Int} {l : List Int} {k : Nat} (h : k < l.length) : vals (upK base l (k + 1)) = vals (upK base l k) ++ V.cs ⟨1, base + l.getD k 0, ⟨#[]⟩⟩ := by
  unfold upK
  rw [List.take_succ_eq_append_getElem h, List.map_append, getDe l 0 h]
  simp [vals, upV]

set_option maxHeartbeats 1000000 in
theorem sRaised (v : Value) (base : Int) (l : List Int) (w : World) (hn : l.length ≤ 1048576) (h : Rd 1 w v l.length (ints .i64 l)) :
    Calls Tryz.prog 122 #[.int .i64 base, v] w fun e w' => RDs w w' e (raisedL base l) := by
  have hown0 := own_lit (e := 77) (size := 3) w #[] 0 (Nat.zero_le _) rfl
  have hb0 := below_alloc w (.cells #[] 77)
  have HRT := Lib.hid (fun W => l1Right base W)
  have HIN := Lib.hid (fun x W => l1In x 0 2000000000 W)
  cases hok : Num.okB base with
  | false =>
    have HR := Lib.hid (raised_bad l hok)
    rw [hok] at HRT
    generalize raisedL base l = R at HR
    generalize hl : l.length = n at h hn
    obtain ⟨a, cap, rfl, hm, HC⟩ := h.ints hl
    unfold maxLen at hm
    clear h hl hok
    by_cases h0 : 0 < n
    · obtain ⟨b, off, rfl, p0⟩ := HC.out 0 h0
      have OL := own_lit (e := 77) (size := 3) (w.alloc (.cells #[] 77)) #[] 0 (Nat.zero_le _) rfl
      have BL := hb0.alloc hb0.size (.cells #[] 77)
      have hzz := hb0.size
      replace OL := OL.lower hzz
      rw [show (w.alloc (.cells #[] 77)).heap.size = w.heap.size + 1 by simp] at OL
      clear p0
      go_enter Tryz.func122, Tryz.ntmps122
      go_wp2
      refine wp_loop_rounds 1 ?_
      rw [rounds_succ]
      go_wp2_with (go_at_call 81; refine (HRT.out _).mono ?_; rintro e w' ⟨rfl, rfl⟩)
      go_ret2
      rw [HR.out]
      exact ⟨_, rfl, OL, BL⟩
    · obtain rfl : n = 0 := by omega
      go_enter Tryz.func122, Tryz.ntmps122
      go_wp2
      refine wp_loop_rounds 1 ?_
      rw [rounds_succ]
      go_wp2_with (go_at_call 81; refine (HRT.out _).mono ?_; rintro e w' ⟨rfl, rfl⟩)
      go_ret2
      rw [HR.out]
      exact ⟨_, rfl, hown0, hb0⟩
  | true =>
    obtain ⟨b0, b1⟩ : -1000000000 ≤ base ∧ base ≤ 1000000000 := Num.okB_true.1 hok
    have HNO : Hid (∀ k, k < l.length → upB base (l.getD k 0) = false → raisedL base l = ([], false)) := fun k hk h1 => raised_no hk h1
    have HYES : Hid ((∀ k, k < l.length → upB base (l.getD k 0) = true) → raisedL base l = (l.map (upV base), true)) := fun h1 => raised_yes hok h1
    have HS : Hid (∀ k, k < l.length → vals (upK base l (k + 1)) = vals (upK base l k) ++ V.cs ⟨1, base + l.getD k 0, ⟨#[]⟩⟩) := fun k hk => upK_step hk
    rw [hok] at HRT
    generalize raisedL base l = R at HNO HYES
    generalize hl : l.length = n at h hn HNO HYES HS
    obtain ⟨a, cap, rfl, hm, HC⟩ := h.ints hl
    unfold maxLen at hm
    have HL := Lib.hid hl
    clear h hl hok
    go_enter Tryz.func122, Tryz.ntmps122
    go_wp2
    go_loopw [6, 7] (fun o i wr => ∃ k : Nat, k ≤ n ∧ i = .int .i64 k ∧ (∀ j, j < k → upB base (l.getD j 0) = true) ∧ Own 77 3 w.heap.size wr.heap.size wr o k (vals (upK base l k)) ∧ Below w.heap.size w wr) (fun _ i _ => n - (intOf i).toNat)
    case atStart => exact ⟨0, Nat.zero_le _, rfl, fun j hj => by omega, hown0, hb0⟩
    case round =>
      obtain ⟨k, hk, rfl, hno, hown, hbr⟩ := hrel
      have HK := Lib.hid hno
      clear hno
      by_cases hlt : k < n
      · obtain ⟨b, off, rfl, p0⟩ := HC.out k hlt
        replace p0 := (hbr.cell (p := ⟨b, off + k, none⟩) (lt_of_cell p0)).trans p0
        have HSK := Lib.hid (HS.out k hlt)
        have HNK := Lib.hid (HNO.out k hlt)
        have HKK : Hid (upB base (l.getD k 0) = true → ∀ j, j < k + 1 → upB base (l.getD j 0) = true) := fun h1 j hj => by
          by_cases e : j = k
          · subst e; exact h1
          · exact HK.out j (by omega)
        have HX := Lib.hid (HIN.out (l.getD k 0))
        generalize l.getD k 0 = z at p0 HX HSK HNK HKK
        have OL := own_lit (e := 77) (size := 3) wr #[] 0 (Nat.zero_le _) rfl
        have BL := hbr.alloc hbr.size (.cells #[] 77)
        have hzz := hbr.size
        cases hz : Num.inB z 0 2000000000 with
        | false =>
          have HR : Hid (R = ([], false)) := HNK.out (decide_eq_false fun e => by
            rw [Num.inB_true.2 ⟨e.1, e.2.1⟩] at hz
            cases hz)
          rw [hz] at HX
          clear hown hz
          go_wp2_with (first | (go_at_call 81; refine (HRT.out _).mono ?_; rintro e w' ⟨rfl, rfl⟩) | (go_at_call 61; refine (HX.out _).mono ?_; rintro e w' ⟨rfl, rfl⟩))
          go_ret2
          rw [HR.out]
          exact ⟨_, rfl, OL.lower hzz, BL⟩
        | true =>
          obtain ⟨z0, z1⟩ := Num.inB_true.1 hz
          rw [hz] at HX
          by_cases hsum : base + z ≤ 1000000000
          · have HK2 := Lib.hid (HKK.out (decide_eq_true ⟨z0, z1, hsum⟩))
            have hng : ¬ (1000000000 < base + z) := by omega
            clear hz OL BL
            go_wp2_with (first | (go_at_call 81; refine (HRT.out _).mono ?_; rintro e w' ⟨rfl, rfl⟩) | (go_at_call 61; refine (HX.out _).mono ?_; rintro e w' ⟨rfl, rfl⟩) | (at_builtin; refine appendV_law Tryz.elemVals rfl _ _ rfl _ _ _ _ _ ⟨1, base + z, ⟨#[]⟩⟩ rfl hown rfl (by unfold maxLen; omega) (by omega) ?_))
            intro v4 w4 o4 e4
            have b4 := hbr.trans (e4.below hown)
            rw [← HSK.out] at o4
            have O4 := Lib.hid o4
            clear o4 e4 hown p0
            go_wp2
            go_roundw
            case rel => exact ⟨k + 1, by omega, by go_num, HK2.out, O4.out, b4⟩
            case measure => simp [intOf]; omega
          · have HR : Hid (R = ([], false)) := HNK.out (decide_eq_false fun e => hsum e.2.2)
            have hgt : 1000000000 < base + z := by omega
            clear hown hz
            go_wp2_with (first | (go_at_call 81; refine (HRT.out _).mono ?_; rintro e w' ⟨rfl, rfl⟩) | (go_at_call 61; refine (HX.out _).mono ?_; rintro e w' ⟨rfl, rfl⟩))
            go_ret2
            rw [HR.out]
            exact ⟨_, rfl, OL.lower hzz, BL⟩
      · obtain rfl : k = n := by omega
        have HR := Lib.hid (HYES.out HK.out)
        have OO := Lib.hid hown
        clear hown
        go_wp2_with (go_at_call 81; refine (HRT.out _).mono ?_; rintro e w' ⟨rfl, rfl⟩)
        go_ret2
        rw [HR.out]
        exact ⟨_, rfl, by have := OO.out; unfold upK at this; rw [← HL.out, List.take_length] at this; rw [List.length_map]; exact this, hbr⟩

end Go.Proofs.YtkofafefnlommaaGreat

/- The contract of the model's DecFrame. -/
namespace Go.Proofs.YtkofafefnlommaaGreat
open Go.RowKit

set_option maxRecDepth 100000 in
set_option maxHeartbeats 4000000 in
theorem sDecFrame (u : Value) (n : Nat) (zs : List Int) (k : Int) (w : World) (hn : n ≤ 1073741824) (hz : zs.length = n) (hby : Num.Bytes zs) (h : At 1 w u n (ints .u8 zs)) :
    Calls Tryz.prog 92 #[u, .int .i64 k] w fun e w' => RDs w w' e (decF zs k) := by
  obtain ⟨W1, hW1⟩ : ∃ W1, w.alloc (.cells #[] 77) = W1 := ⟨_, rfl⟩
  have hN : Own 77 3 w.heap.size W1.heap.size W1 (.slice (some ⟨w.heap.size, 0, none⟩) 0 0) 0 [] := by
    rw [← hW1]
    exact own_lit (e := 77) (size := 3) w #[] 0 (Nat.zero_le _) rfl
  have hb0 : Below w.heap.size w W1 := by rw [← hW1]; exact below_alloc w _
  have hat1 := h.below hb0
  have HG0 := Lib.hid (sGetNum u n zs 0 W1 (by omega) hz hby hat1)
  have HIK := Lib.hid (fun W => l1In k 1 64 W)
  have HBD := Lib.hid (get_bound hby (i := 0))
  have HEX : Hid (decF zs k = if (Num.get zs 0).2.2 = true ∧ (Num.get zs 0).2.1 < zs.length ∧ Num.inB k 1 64 = true then decG zs (Num.get zs 0).1 (Bit.unpack (zs.drop ((Num.get zs 0).2.1.toNat + 1)) (zs.getD (Num.get zs 0).2.1.toNat 0) k) else ([], false)) := rfl
  have HFIN : Hid (∀ e w', RDs w w' e ([], false) → decF zs k = ([], false) → RDs w w' e (decF zs k)) := fun e w' h1 h2 => by rw [h2]; exact h1
  obtain ⟨b, off, cap, rfl, hcn, hcm, hlen, hcells⟩ := id h
  generalize Num.get zs 0 = g0 at HG0 HEX HBD
  obtain ⟨x0, nx0, ok0⟩ := g0
  unfold getRes at HG0
  simp only at HG0 HEX HBD
  rw [hz] at HEX HBD
  have HNO : Hid (∀ W, Below W1.heap.size W1 W → RDs w W (.returned (.tuple #[.slice (some ⟨w.heap.size, 0, none⟩) 0 0, .bool false])) ([], false)) := fun W hW => ⟨_, rfl, (hN.below hW (Nat.le_refl _)).wide hW.size, below_then hb0 hW hb0.size⟩
  generalize hres : decF zs k = res at HEX HFIN ⊢
  clear hres
  by_cases hc : ok0 = true ∧ nx0 < (n : Int) ∧ Num.inB k 1 64 = true
  · obtain ⟨rfl, hx, hk⟩ := hc
    rw [if_pos ⟨rfl, hx, hk⟩] at HEX
    rw [hk] at HIK
    obtain ⟨q0, _⟩ := HBD.out rfl
    obtain ⟨A, rfl⟩ := Int.eq_ofNat_of_zero_le q0
    rw [Int.toNat_natCast] at HEX
    have hAn : A + 1 ≤ n := by omega
    have hcn' : n ≤ cap := hcn
    obtain ⟨tl, htl, HTL⟩ := tail_at cap (A + 1) b off
    have hcell : w.cell? ⟨b, off + A, none⟩ = some (.int .u8 (zs.getD A 0)) := At.cell hcells hz (by omega)
    have hzb : 0 ≤ zs.getD A 0 ∧ zs.getD A 0 ≤ 255 := by
      have hA : A < zs.length := by omega
      rw [getDe zs 0 hA]
      have := hby _ (List.getElem_mem hA)
      omega
    have HUN := Lib.hid (fun W (hW : Below W1.heap.size W1 W) => sUnpackBits _ (n - (A + 1)) (zs.drop (A + 1)) (zs.getD A 0) k W (by omega) (by rw [List.length_drop, hz]) (fun x hx => hby x (List.mem_of_mem_drop hx)) (.inr (At.from hz (hat1.below hW) hAn HTL.out)))
    have HCL : Hid (∀ W, Below W1.heap.size W1 W → W.cell? ⟨b, off + A, none⟩ = some (.int .u8 (zs.getD A 0))) := fun W hW => by
      have hbw := hb0.trans (hW.mono hb0.size)
      exact (hbw.cell (p := ⟨b, off + A, none⟩) (lt_of_cell hcell)).trans hcell
    have hun64 := Bit.unpack_le (zs.drop (A + 1)) (zs.getD A 0) k
    generalize Bit.unpack (zs.drop (A + 1)) (zs.getD A 0) k = up at HUN HEX hun64
    obtain ⟨p, may⟩ := up
    unfold decG at HEX
    unfold Unpacked at HUN
    simp only at HEX hun64 HUN
    obtain ⟨z0, z1⟩ := hzb
    generalize zs.getD A 0 = z at HUN HCL z0 z1
    have HHA := Lib.hid hat1
    have HHZ := Lib.hid hz
    have HHB := Lib.hid hby
    have hj : ((A : Int) + 1).toNat = A + 1 := by omega
    have hA0 : 0 ≤ (A : Int) + 1 := by omega
    have hAn2 : A < n := by omega
    have hnA : ((n : Int) < (A : Int) + 1) = False := eq_false (by omega)
    have hwz : IntKind.i64.wrap z = z := IntWalk.i64_in _ (by omega)
    have hwA : IntKind.i64.wrap ((A : Int) + 1) = (A : Int) + 1 := IntWalk.i64_in _ (by omega)
    clear hcell hat1 h hcells hlen hz hby hk q0 hcn hcm HBD hN
    have hB' := (Below.refl W1.heap.size W1).drew
    have hge : ¬ ((n : Int) ≤ (A : Int)) := by omega
    go_enter Tryz.func92, Tryz.ntmps92
    go_wp2_with (first | (go_at_call 60; refine HG0.out.mono ?_; rintro e w' ⟨rfl, rfl⟩) | (go_at_call 61; refine (HIK.out _).mono ?_; clear HIK; rintro e w' ⟨rfl, rfl⟩))
    refine wp_region_held_drew (S := fun W => W.cell? ⟨b, off + A, none⟩ = some (.int .u8 z)) (by kernel_rfl) (HCL.out _ hB') (fun hH => ?_)
    refine takeH (i := 0) (d := some 36) (v := .slice (some ⟨b, off, none⟩) n cap) rfl rfl (by kernel_rfl) (by kernel_rfl) (by kernel_rfl) (fun _ _ _ h => h) (Or.inl ⟨by rfl, fun W hSw => by go_simp⟩) hH ?_
    try simp only [put_some, List.set_cons_zero, List.set_cons_succ]
    refine takeH (i := 1) (d := some 37) (v := .int .i64 (A : Int)) rfl rfl (by kernel_rfl) (by kernel_rfl) (by kernel_rfl) (fun _ _ _ h => h) (Or.inl ⟨by rfl, fun W hSw => by go_simp⟩) hH ?_
    try simp only [put_some, List.set_cons_zero, List.set_cons_succ]
    refine takeH (i := 2) (d := some 38) (v := .int .i64 ((A : Int) + 1)) rfl rfl (by kernel_rfl) (by kernel_rfl) (by kernel_rfl) (fun _ _ _ h => h) (Or.inl ⟨by rfl, fun W hSw => by go_simp⟩) hH ?_
    try simp only [put_some, List.set_cons_zero, List.set_cons_succ]
    refine takeH (i := 3) (d := some 39) (v := .slice (some ⟨b, tl, none⟩) (n - (A + 1)) (cap - (A + 1))) rfl rfl (by kernel_rfl) (by kernel_rfl) (by kernel_rfl) (fun _ _ _ h => h) (Or.inl ⟨by rfl, fun W hSw => by go_simp⟩) hH ?_
    try simp only [put_some, List.set_cons_zero, List.set_cons_succ]
    refine takeH (i := 4) (d := some 40) (v := .slice (some ⟨b, off, none⟩) n cap) rfl rfl (by kernel_rfl) (by kernel_rfl) (by kernel_rfl) (fun _ _ _ h => h) (Or.inl ⟨by rfl, fun W hSw => by go_simp⟩) hH ?_
    try simp only [put_some, List.set_cons_zero, List.set_cons_succ]
    refine takeH (i := 5) (d := some 41) (v := .int .i64 (A : Int)) rfl rfl (by kernel_rfl) (by kernel_rfl) (by kernel_rfl) (fun _ _ _ h => h) (Or.inl ⟨by rfl, fun W hSw => by go_simp⟩) hH ?_
    try simp only [put_some, List.set_cons_zero, List.set_cons_succ]
    refine takeH (i := 6) (d := some 42) (v := .pointer (some ⟨b, off + A, none⟩)) rfl rfl (by kernel_rfl) (by kernel_rfl) (by kernel_rfl) (fun _ _ _ h => h) (Or.inl ⟨by rfl, fun W hSw => by go_simp⟩) hH ?_
    try simp only [put_some, List.set_cons_zero, List.set_cons_succ]
    refine takeH (i := 7) (d := some 43) (v := .int .u8 z) rfl rfl (by kernel_rfl) (by kernel_rfl) (by kernel_rfl) (fun _ _ _ h => h) (Or.inl ⟨by rfl, fun W hSw => by go_simp⟩) hH ?_
    try simp only [put_some, List.set_cons_zero, List.set_cons_succ]
    refine takeH (i := 8) (d := some 44) (v := .int .i64 z) rfl rfl (by kernel_rfl) (by kernel_rfl) (by kernel_rfl) (fun _ _ _ h => h) (Or.inl ⟨by rfl, fun W hSw => by go_simp⟩) hH ?_
    try simp only [put_some, List.set_cons_zero, List.set_cons_succ]
    refine takeH (i := 9) (d := some 45) (v := .int .i64 k) rfl rfl (by kernel_rfl) (by kernel_rfl) (by kernel_rfl) (fun _ _ _ h => h) (Or.inl ⟨by rfl, fun W hSw => by go_simp⟩) hH ?_
    try simp only [put_some, List.set_cons_zero, List.set_cons_succ]
    refine wpAnyH_ready (rs := [10]) (by kernel_rfl) (by simp) ?_
    refine AllReadyH.cons rfl (fun K hK => ?_) AllReadyH.nil
    go_simp
    go_at_call 119
    refine (HUN.out _ hB').mono ?_
    rintro e w2 ⟨v2, rfl, o2, hb2⟩
    have b2 := below_then hB' hb2 hB'.size
    clear hb2 hB' htl hwA hj hnA hwz
    go_wp2_with fail
    refine hK.out _ _ (HCL.out _ b2) (fun hH => ?_)
    clear hK K
    refine takeH (i := 11) (d := some 35) (v := .tuple #[v2, .bool may]) rfl rfl (by kernel_rfl) (by kernel_rfl) (by kernel_rfl) (fun _ _ _ h => h) (Or.inl ⟨by rfl, fun W hSw => by go_simp⟩) hH ?_
    try simp only [put_some, List.set_cons_zero, List.set_cons_succ]
    refine takeH (i := 12) (d := some 47) (v := v2) rfl rfl (by kernel_rfl) (by kernel_rfl) (by kernel_rfl) (fun _ _ _ h => h) (Or.inl ⟨by rfl, fun W hSw => by go_simp⟩) hH ?_
    try simp only [put_some, List.set_cons_zero, List.set_cons_succ]
    refine takeH (i := 13) (d := some 48) (v := .bool may) rfl rfl (by kernel_rfl) (by kernel_rfl) (by kernel_rfl) (fun _ _ _ h => h) (Or.inl ⟨by rfl, fun W hSw => by go_simp⟩) hH ?_
    try simp only [put_some, List.set_cons_zero, List.set_cons_succ]
    refine takeH (i := 14) (d := some 10) (v := v2) rfl rfl (by kernel_rfl) (by kernel_rfl) (by kernel_rfl) (fun _ _ _ h => h) (Or.inl ⟨by rfl, fun W hSw => by go_simp⟩) hH ?_
    try simp only [put_some, List.set_cons_zero, List.set_cons_succ]
    refine takeH (i := 15) (d := some 11) (v := .bool may) rfl rfl (by kernel_rfl) (by kernel_rfl) (by kernel_rfl) (fun _ _ _ h => h) (Or.inl ⟨by rfl, fun W hSw => by go_simp⟩) hH ?_
    try simp only [put_some, List.set_cons_zero, List.set_cons_succ]
    refine wpAnyH_done (by kernel_rfl) ?_ _
    have HPK := Lib.hid (sRaised v2 x0 p w2 (by omega) o2.rd)
    have HLS := Lib.hid (raised_sizes x0 p)
    have hl64 := Nat.le_trans (raised_len x0 p) hun64
    generalize raisedL x0 p = pc at HPK HLS hl64 HEX
    obtain ⟨l, can⟩ := pc
    unfold RDs at HPK
    simp only at HPK HLS hl64 HEX
    have hzr := Nat.le_trans hb0.size b2.size
    clear o2
    go_wp2_with fail
    refine HPK.out.mono ?_
    rintro e w3 ⟨v3, rfl, o3, hb3⟩
    have b3 := below_then b2 hb3 b2.size
    have HOL := Lib.hid (o3.lower hzr)
    have HEN := Lib.hid (sEncFrame v3 l w3 HLS.out o3.rd)
    clear hb3 HPK o3
    by_cases hmc : may = true ∧ can = true
    · obtain ⟨rfl, rfl⟩ := hmc
      go_wp2_with fail
      refine HEN.out.mono ?_
      rintro e w4 ⟨v4, rfl, o4, hb4⟩
      have b4 := below_then b3 hb4 b3.size
      have OL4 := Lib.hid ((HOL.out.below hb4 (Nat.le_refl _)).wide hb4.size)
      have HSM := Lib.hid (l5Same v4 _ (encF l).length n (encF l) zs w4 rfl HHZ.out (encF_bytes l) HHB.out o4.at (HHA.out.below b4))
      clear HEN hb4 HOL o4
      by_cases hen : encF l = zs
      · rw [decide_eq_true hen] at HSM
        have HF : Hid (res = (l, true)) := by
          show _ = _
          rw [HEX.out]
          exact if_pos (by first | exact ⟨trivial, trivial, hen⟩ | exact ⟨rfl, rfl, hen⟩)
        go_wp2_with (go_at_call 93; refine HSM.out.mono ?_; rintro e w' ⟨rfl, rfl⟩)
        go_ret2
        rw [HF.out]
        exact ⟨_, rfl, OL4.out, below_then hb0 b4 hb0.size⟩
      · rw [decide_eq_false hen] at HSM
        have HF : Hid (res = ([], false)) := by
          show _ = _
          rw [HEX.out]
          exact if_neg (fun h => hen h.2.2)
        have HR := Lib.hid (HNO.out _ b4)
        go_wp2_with (go_at_call 93; refine HSM.out.mono ?_; rintro e w' ⟨rfl, rfl⟩)
        go_ret2
        exact HFIN.out _ _ HR.out HF.out
    · have HF : Hid (res = ([], false)) := by
        show _ = _
        rw [HEX.out]
        exact if_neg (fun h => hmc ⟨h.1, h.2.1⟩)
      have HR := Lib.hid (HNO.out _ b3)
      clear HEN HOL
      cases may with
      | false =>
        go_wp2
        go_ret2
        exact HFIN.out _ _ HR.out HF.out
      | true =>
        cases can with
        | true => exact absurd ⟨rfl, rfl⟩ hmc
        | false =>
          go_wp2
          go_ret2
          exact HFIN.out _ _ HR.out HF.out
  · have HF : Hid (res = ([], false)) := by
      show _ = _
      rw [HEX.out]
      exact if_neg hc
    have HR := Lib.hid (HNO.out _ (Below.refl _ _))
    have HRW : Hid (w.alloc (.cells #[] 77) = W1) := hW1
    clear hat1 hN hb0 hz hby h hcells hlen
    cases ok0 with
    | false =>
      go_enter Tryz.func92, Tryz.ntmps92
      go_wp2_with (first | (go_at_call 60; refine HG0.out.mono ?_; rintro e w' ⟨rfl, rfl⟩))
      go_ret2
      exact HFIN.out _ _ HR.out HF.out
    | true =>
      by_cases hx : nx0 < (n : Int)
      · cases hk : Num.inB k 1 64 with
        | true => exact absurd ⟨rfl, hx, hk⟩ hc
        | false =>
          have hge : ¬ ((n : Int) ≤ nx0) := by omega
          rw [hk] at HIK
          clear hk hc
          go_enter Tryz.func92, Tryz.ntmps92
          go_wp2_with (first | (go_at_call 60; refine HG0.out.mono ?_; rintro e w' ⟨rfl, rfl⟩) | (go_at_call 61; refine (HIK.out _).mono ?_; clear HIK; rintro e w' ⟨rfl, rfl⟩))
          go_ret2
          exact HFIN.out _ _ HR.out HF.out
      · have hge : (n : Int) ≤ nx0 := by omega
        clear hc
        go_enter Tryz.func92, Tryz.ntmps92
        go_wp2_with (first | (go_at_call 60; refine HG0.out.mono ?_; rintro e w' ⟨rfl, rfl⟩))
        go_ret2
        exact HFIN.out _ _ HR.out HF.out

end Go.Proofs.YtkofafefnlommaaGreat

/- Chapter 8's exact laws, walked; the program's own contracts come as hypotheses. -/
namespace Go.Proofs.YtkofafefnlommaaGreat
open Go.RowKit

def CBase : Prop := ∀ (u : Value) (l : List V) (w : World), l.length ≤ 1048576 → (∀ v ∈ l, v.s.size ≤ maxLen) → Rd 3 w u l.length (vals l) → Calls Tryz.prog 161 #[u] w fun e w' => e = .returned (.int .i64 (baseL l)) ∧ Below w.heap.size w w'
def COffsets : Prop := ∀ (u : Value) (l : List V) (w : World), l.length ≤ 1048576 → (∀ v ∈ l, v.s.size ≤ maxLen) → Rd 3 w u l.length (vals l) → Calls Tryz.prog 159 #[u] w fun e w' => ∃ v', e = .returned v' ∧ Own 3 1 w.heap.size w'.heap.size w' v' (offL l).length (ints .i64 (offL l)) ∧ Below w.heap.size w w'
def CRaised : Prop := ∀ (v : Value) (base : Int) (l : List Int) (w : World), l.length ≤ 1048576 → Rd 1 w v l.length (ints .i64 l) → Calls Tryz.prog 191 #[.int .i64 base, v] w fun e w' => RDs w w' e (raisedL base l)
def CEncFrame : Prop := ∀ (u : Value) (l : List V) (w : World), l.length ≤ 1048576 → (∀ v ∈ l, v.s.size ≤ maxLen) → Rd 3 w u l.length (vals l) → Calls Tryz.prog 134 #[u] w fun e w' => ∃ v', e = .returned v' ∧ Own 5 1 w.heap.size w'.heap.size w' v' (encF l).length (ints .u8 (encF l)) ∧ Below w.heap.size w w'
def CDecFrame : Prop := ∀ (u : Value) (n : Nat) (zs : List Int) (k : Int) (w : World), n ≤ 1048576 → zs.length = n → Num.Bytes zs → At 1 w u n (ints .u8 zs) → Calls Tryz.prog 169 #[u, .int .i64 k] w fun e w' => RDs w w' e (decF zs k)
theorem encF_len' (l : List V) : (encF l).length ≤ 1024 + l.length := by
  have := encF_len l
  omega
theorem sBaseB (u : Value) (l : List V) (w : World) (h : Rd 3 w u l.length (vals l)) :
    Calls Tryz.prog 145 #[u] w fun e w' => e = .returned (.int .i64 (baseL l)) ∧ Below w.heap.size w w' := by
  refine (sBase u l w h).mono ?_
  rintro e w' ⟨rfl, rfl⟩
  exact ⟨rfl, Below.refl _ _⟩

end Go.Proofs.YtkofafefnlommaaGreat
