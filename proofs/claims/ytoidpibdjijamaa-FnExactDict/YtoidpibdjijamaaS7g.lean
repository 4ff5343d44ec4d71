/- The contract of the model's DecDict. -/
import Derived.Test.YtoidpibdjijamaaS7e
namespace Go.Proofs.Ytoidpibdjijamaa
open Go.RowKit

theorem get_bound {zs : List Int} (hb : Num.Bytes zs) {i : Int} (h : (Num.get zs i).2.2 = true) : 0 ≤ (Num.get zs i).2.1 ∧ (Num.get zs i).2.1 ≤ zs.length := by
  unfold Num.get at h ⊢
  split
  · rename_i hi
    rw [if_pos hi] at h
    split
    · rename_i u k hr
      have hbd : Num.Bytes (zs.drop i.toNat) := fun x hx => hb x (List.mem_of_mem_drop hx)
      have := Num.rd_bd hr hbd (by omega)
      have hl : (zs.drop i.toNat).length = zs.length - i.toNat := List.length_drop
      split
      · simp only
        omega
      · rename_i hu
        rw [hr] at h
        simp only [if_neg hu] at h
        cases h
    · rename_i hr
      rw [hr] at h
      cases h
  · rename_i hi
    rw [if_neg hi] at h
    cases h
theorem getV_bound {zs : List Int} (hb : Num.Bytes zs) {i ty : Int} (h : (getV zs i ty).2.2 = true) : 0 ≤ (getV zs i ty).2.1 ∧ (getV zs i ty).2.1 ≤ zs.length := by
  unfold getV at h ⊢
  split
  · rename_i ht
    rw [if_pos ht] at h
    split
    · rename_i hg
      exact get_bound hb hg
    · rename_i hg
      rw [if_neg hg] at h
      cases h
  · rename_i ht
    rw [if_neg ht] at h
    split
    · rename_i hc
      rw [if_pos hc] at h
      have hi := Num.inB_true.1 hc.2
      unfold getT at h ⊢
      split
      · rename_i hg
        have hlt : i.toNat < zs.length := by omega
        have hm := hb (zs.getD i.toNat 0) (by rw [getDe zs 0 hlt]; exact List.getElem_mem hlt)
        have := hg.1
        simp only
        omega
      · rename_i hg
        rw [if_neg hg] at h
        cases h
    · rename_i hc
      rw [if_neg hc] at h
      cases h

/-- DecDict, behind the values of the dictionary. -/
def decT (zs : List Int) (k : Int) (d : List V) (i : Int) : List V × Bool :=
  if (Bit.unpack (zs.drop i.toNat) (Bit.widthI ((d.length : Int) - 1)) k).2 = true ∧ (pickedL d (Bit.unpack (zs.drop i.toNat) (Bit.widthI ((d.length : Int) - 1)) k).1).2 = true ∧ encD (pickedL d (Bit.unpack (zs.drop i.toNat) (Bit.widthI ((d.length : Int) - 1)) k).1).1 = zs
  then ((pickedL d (Bit.unpack (zs.drop i.toNat) (Bit.widthI ((d.length : Int) - 1)) k).1).1, true) else ([], false)
/-- DecDict. -/
def decD (zs : List Int) (ty k : Int) : List V × Bool :=
  if (Num.get zs 0).2.2 = true ∧ Num.inB k 1 64 = true ∧ Num.inB (Num.get zs 0).1 1 k = true then
    (match decL zs ty (Num.get zs 0).1.toNat (Num.get zs 0).2.1 with
      | some r => decT zs k r.1 r.2
      | none => ([], false))
  else ([], false)
theorem decT_len (zs : List Int) (k : Int) (d : List V) (i : Int) : (decT zs k d i).1.length ≤ 64 := by
  unfold decT
  split
  · exact Nat.le_trans (picked_len _ _) (Bit.unpack_le _ _ _)
  · simp
theorem decD_len (zs : List Int) (ty k : Int) : (decD zs ty k).1.length ≤ 64 := by
  unfold decD
  split
  · split
    · exact decT_len _ _ _ _
    · simp
  · simp
theorem picked_all {d : List V} {p : List Int} {q : V → Prop} (h : ∀ v ∈ d, q v) : ∀ v ∈ (pickedL d p).1, q v := by
  unfold pickedL
  split
  · rename_i ha
    intro v hv
    obtain ⟨x, hx, rfl⟩ := List.mem_map.1 hv
    have h2 := of_decide_eq_true (List.all_eq_true.1 ha x hx)
    have hlt : x.toNat < d.length := by omega
    rw [getDe d V.zero hlt]
    exact h _ (List.getElem_mem hlt)
  · simp
theorem decL_size {zs : List Int} {ty : Int} : ∀ {n : Nat} {i : Int} {r : List V × Int}, decL zs ty n i = some r → ∀ u ∈ r.1, u.s.size ≤ maxLen := by
  intro n
  induction n with
  | zero =>
    intro i r h u hu
    simp only [decL, Option.some.injEq] at h
    subst h
    cases hu
  | succ n ih =>
    intro i r h u hu
    rw [decL] at h
    split at h
    · obtain ⟨q, hq, rfl⟩ := Option.map_eq_some_iff.1 h
      rcases List.mem_cons.1 hu with rfl | hu
      · exact getV_size _ _ _
      · exact ih hq u hu
    · cases h
theorem At.from {w : World} {b off n cap A tl : Nat} {zs : List Int} (hz : zs.length = n) (h : At 1 w (.slice (some ⟨b, off, none⟩) n cap) n (ints .u8 zs)) (hA : A ≤ n) (ht : A < cap → tl = off + A) : At 1 w (.slice (some ⟨b, tl, none⟩) (n - A) (cap - A)) (n - A) (ints .u8 (zs.drop A)) := by
  obtain ⟨b', off', cap', e, h1, h2, h3, h4⟩ := h
  simp only [Value.slice.injEq, Option.some.injEq, Addr.mk.injEq, and_true, true_and] at e
  obtain ⟨⟨rfl, rfl⟩, rfl⟩ := e
  refine ⟨_, _, _, rfl, by omega, by omega, ?_, fun j u hu => ?_⟩
  · rw [ints_len, List.length_drop, hz, Nat.mul_one]
  · have hlt := (List.getElem?_eq_some_iff.1 hu).1
    rw [ints_len, List.length_drop] at hlt
    have e2 : ints .u8 (zs.drop A) = (ints .u8 zs).drop A := by unfold ints; rw [List.map_drop]
    rw [e2, List.getElem?_drop] at hu
    have := h4 (A + j) u hu
    rw [ht (by omega), Nat.add_assoc]
    exact this
theorem tail_at (cap A b off : Nat) : ∃ tl, (if cap = A then some (⟨b, off, none⟩ : Addr) else some ⟨b, off + A, none⟩) = some ⟨b, tl, none⟩ ∧ Hid (A < cap → tl = off + A) := by
  by_cases e : cap = A
  · exact ⟨off, by rw [if_pos e], fun h => by omega⟩
  · exact ⟨off + A, by rw [if_neg e], fun _ => rfl⟩

set_option maxRecDepth 100000 in
set_option maxHeartbeats 4000000 in
theorem sDecDict (u : Value) (n : Nat) (zs : List Int) (ty k : Int) (w : World) (hn : n ≤ 1073741824) (hz : zs.length = n) (hby : Num.Bytes zs) (h : At 1 w u n (ints .u8 zs)) :
    Calls Try.prog 41 #[u, .int .i64 ty, .int .i64 k] w fun e w' => RDs w w' e (decD zs ty k) := by
  obtain ⟨W1, hW1⟩ : ∃ W1, w.alloc (.cells #[] 37) = W1 := ⟨_, rfl⟩
  have hs1 : W1.heap.size = w.heap.size + 1 := by rw [← hW1]; simp
  have hN : Own 37 3 w.heap.size W1.heap.size W1 (.slice (some ⟨w.heap.size, 0, none⟩) 0 0) 0 [] := by
    rw [← hW1]
    exact own_lit (e := 37) (size := 3) w #[] 0 (Nat.zero_le _) rfl
  have hb0 : Below w.heap.size w W1 := by rw [← hW1]; exact below_alloc w _
  have hat1 := h.below hb0
  have HG0 := Lib.hid (sGetNum u n zs 0 W1 (by omega) hz hby hat1)
  have HV := Lib.hid (fun i W (hW : Below W1.heap.size W1 W) => sGetVal u n zs i ty W hn hz hby (hat1.below hW))
  have HIK := Lib.hid (fun W => l1In k 1 64 W)
  have HEX : Hid (decD zs ty k = if (Num.get zs 0).2.2 = true ∧ Num.inB k 1 64 = true ∧ Num.inB (Num.get zs 0).1 1 k = true then (match decL zs ty (Num.get zs 0).1.toNat (Num.get zs 0).2.1 with | some r => decT zs k r.1 r.2 | none => ([], false)) else ([], false)) := rfl
  have HFIN : Hid (∀ e w', RDs w w' e ([], false) → decD zs ty k = ([], false) → RDs w w' e (decD zs ty k)) := fun e w' h1 h2 => by rw [h2]; exact h1
  have HB : Hid (∀ i, (getV zs i ty).2.2 = true → 0 ≤ (getV zs i ty).2.1 ∧ (getV zs i ty).2.1 ≤ n) := fun i hi => by
    rw [← hz]
    exact getV_bound hby hi
  obtain ⟨b, off, cap, rfl, hcn, hcm, _, _⟩ := id h
  generalize hg : Num.get zs 0 = g0 at HG0 HEX
  obtain ⟨x0, nx0, ok0⟩ := g0
  unfold getRes at HG0
  simp only at HG0 HEX
  have HIN := Lib.hid (fun W => l1In x0 1 k W)
  have HNO : Hid (∀ W, Below W1.heap.size W1 W → RDs w W (.returned (.tuple #[.slice (some ⟨w.heap.size, 0, none⟩) 0 0, .bool false])) ([], false)) := fun W hW => ⟨_, rfl, (hN.below hW (Nat.le_refl _)).wide hW.size, below_then hb0 hW hb0.size⟩
  clear hg
  by_cases hc : ok0 = true ∧ Num.inB k 1 64 = true ∧ Num.inB x0 1 k = true
  · obtain ⟨rfl, hk, hx⟩ := hc
    rw [if_pos ⟨rfl, hk, hx⟩] at HEX
    rw [hk] at HIK
    rw [hx] at HIN
    obtain ⟨k0, k1⟩ := Num.inB_true.1 hk
    obtain ⟨n0, n1⟩ := Num.inB_true.1 hx
    obtain ⟨N, rfl⟩ := Int.eq_ofNat_of_zero_le (show 0 ≤ x0 by omega)
    rw [Int.toNat_natCast] at HEX
    have hR0 := own_lit (e := 37) (size := 3) W1 #[] 0 (Nat.zero_le _) rfl
    have hbR := below_alloc W1 (.cells #[] 37)
    rw [hs1] at hR0
    have HD0 : Hid (decL zs ty N nx0 = (decL zs ty (N - 0) nx0).map fun r => ([] ++ r.1, r.2)) := by
      show _ = _
      simp
    have HST : Hid (∀ (j : Nat) (i : Int) (pre : List V), j < N → decL zs ty N nx0 = (decL zs ty (N - j) i).map (fun r => (pre ++ r.1, r.2)) → if (getV zs i ty).2.2 = true then decL zs ty N nx0 = (decL zs ty (N - (j + 1)) (getV zs i ty).2.1).map (fun r => ((pre ++ [(getV zs i ty).1]) ++ r.1, r.2)) else decL zs ty N nx0 = none) := fun j i pre hj hd => by
      rw [show N - j = (N - (j + 1)) + 1 by omega, decL] at hd
      split
      · rename_i hg
        rw [if_pos hg] at hd
        rw [hd, Option.map_map]
        congr 1
        funext r
        simp
      · rename_i hg
        rw [if_neg hg] at hd
        rw [hd]
        rfl
    have HFN : Hid (∀ (i : Int) (pre : List V), decL zs ty N nx0 = (decL zs ty (N - N) i).map (fun r => (pre ++ r.1, r.2)) → decL zs ty N nx0 = some (pre, i)) := fun i pre hd => by
      rw [hd, Nat.sub_self]
      simp [decL]
    have HNONE : Hid (decL zs ty N nx0 = none → decD zs ty k = ([], false)) := fun hd => by rw [HEX.out, hd]
    clear hk hx
    go_enter Try.func41, Try.ntmps41
    go_wp2_with (first | (go_at_call 67; refine HG0.out.mono ?_; rintro e w' ⟨rfl, rfl⟩) | (go_at_call 66; refine (HIK.out _).mono ?_; clear HIK; rintro e w' ⟨rfl, rfl⟩) | (go_at_call 66; refine (HIN.out _).mono ?_; rintro e w' ⟨rfl, rfl⟩))
    go_loopw [10, 12, 13] (fun p o i wr => ∃ (j : Nat) (q : Int) (pre : List V), j ≤ N ∧ i = .int .i64 j ∧ p = .int .i64 q ∧ pre.length = j ∧ (0 < j → 0 ≤ q ∧ q ≤ n) ∧ decL zs ty N nx0 = (decL zs ty (N - j) q).map (fun r => (pre ++ r.1, r.2)) ∧ Own 37 3 (w.heap.size + 1) wr.heap.size wr o pre.length (vals pre) ∧ Below W1.heap.size W1 wr) (fun _ _ i _ => N - (intOf i).toNat)
    case atStart => exact ⟨0, nx0, [], Nat.zero_le _, rfl, rfl, rfl, fun h => by omega, HD0.out, hR0, hbR⟩
    case round =>
      obtain ⟨j, q, pre, hj, rfl, rfl, hpl, hqb, hd, hown, hbr⟩ := hrel
      have HQB := Lib.hid hqb
      clear hqb
      by_cases hlt : j < N
      · have HSJ := Lib.hid (HST.out j q pre hlt hd)
        have HPL := Lib.hid hpl
        clear hd
        have HVJ := Lib.hid (HV.out q wr hbr)
        have HBJ := Lib.hid (HB.out q)
        generalize getV zs q ty = r at HSJ HVJ HBJ
        obtain ⟨⟨xt, xn, xs⟩, nx, ok⟩ := r
        unfold rGet at HVJ
        simp only at HSJ HVJ HBJ
        have HVA : Hid (vals pre ++ V.cs ⟨xt, xn, xs⟩ = vals (pre ++ [(⟨xt, xn, xs⟩ : V)])) := by
          show _ = _
          simp [vals]
        have HLN : Hid ((pre ++ [(⟨xt, xn, xs⟩ : V)]).length = pre.length + 1) := by
          show _ = _
          simp
        have hcl : pre.length ≤ 64 := by omega
        clear hpl
        generalize hcc : pre.length = c at hown HLN hcl HPL
        have HCC := Lib.hid hcc
        clear hcc
        go_wp2_with fail
        refine HVJ.out.mono ?_
        rintro e w2 ⟨rfl, hb2⟩
        have own2 := hown.below hb2 (Nat.le_refl _)
        have b2 := below_then hbr hb2 hbr.size
        have z2 := hb2.size
        clear hown hb2 HVJ
        cases ok with
        | true =>
          have HS2 : Hid (decL zs ty N nx0 = (decL zs ty (N - (j + 1)) nx).map (fun r => ((pre ++ [(⟨xt, xn, xs⟩ : V)]) ++ r.1, r.2))) := by
            have hd := HSJ.out
            rw [if_pos rfl] at hd
            exact hd
          have HNX := Lib.hid (HBJ.out rfl)
          have own3 := (own2.alloc (.cells #[.int .i64 xt, .int .i64 xn, .string xs] 37)).wide (hi' := (w2.alloc (.cells #[.int .i64 xt, .int .i64 xn, .string xs] 37)).heap.size) (by simp; omega)
          have b3 := b2.alloc b2.size (.cells #[.int .i64 xt, .int .i64 xn, .string xs] 37)
          clear own2 HSJ HBJ
          go_wp2_with (at_builtin; refine appendV_law Try.elemVals rfl _ _ rfl _ _ _ _ _ ⟨xt, xn, xs⟩ rfl own3 (by show Value.slice (some ⟨w2.heap.size + 1, 0, none⟩) 1 1 = _; rw [World.size_alloc]) (by unfold maxLen; omega) (by omega) ?_)
          intro v4 w4 o4 e4
          have b4 := b3.trans ((e4.below own3).mono (by omega))
          rw [HVA.out] at o4
          have O4 := Lib.hid o4
          clear o4 e4 own3
          go_wp2
          go_roundw
          case rel => exact ⟨j + 1, nx, pre ++ [⟨xt, xn, xs⟩], by omega, by go_num, rfl, by rw [HLN.out, HPL.out], fun _ => HNX.out, HS2.out, by rw [HLN.out]; exact O4.out, b4⟩
          case measure => simp [intOf]; omega
        | false =>
          have HF : Hid (decD zs ty k = ([], false)) := by
            show _ = _
            have hd := HSJ.out
            rw [if_neg (by simp)] at hd
            exact HNONE.out hd
          have b3 := b2.alloc b2.size (.cells #[.int .i64 xt, .int .i64 xn, .string xs] 37)
          have HR := Lib.hid (HNO.out _ b3)
          clear own2 HSJ HBJ
          go_wp2
          go_ret2
          exact HFIN.out _ _ HR.out HF.out
      · obtain rfl : j = N := by omega
        have hdn := HFN.out q pre hd
        have HU := Lib.hid (decL_size hdn)
        rw [hdn] at HEX
        dsimp only at HEX HU
        obtain ⟨q0, q1⟩ := HQB.out (by omega)
        obtain ⟨A, rfl⟩ := Int.eq_ofNat_of_zero_le q0
        have hAn : A ≤ n := by omega
        have hcn' : n ≤ cap := hcn
        unfold decT at HEX
        rw [hpl, Int.toNat_natCast] at HEX
        obtain ⟨tl, htl, HTL⟩ := tail_at cap A b off
        have hatr := hat1.below hbr
        have HWD := Lib.hid (fun W => sWidthOf ((j : Int) - 1) W)
        generalize Bit.widthI ((j : Int) - 1) = wd at HWD HEX
        have HUN := Lib.hid (fun W (hW : Below wr.heap.size wr W) => sUnpackBits _ (n - A) (zs.drop A) (wd : Int) k W (by omega) (by rw [List.length_drop, hz]) (fun x hx => hby x (List.mem_of_mem_drop hx)) (.inr (At.from hz (hatr.below hW) hAn HTL.out)))
        have hun64 := Bit.unpack_le (zs.drop A) wd k
        generalize Bit.unpack (zs.drop A) (wd : Int) k = up at HUN HEX hun64
        clear hd hdn HST HFN HNONE HD0 q0 q1 HQB
        rw [hpl] at hown
        have HPLN := Lib.hid hpl
        clear hpl
        obtain ⟨ga, cga, rfl, hga1, hga2, hrow⟩ := hown
        have hown : Own 37 3 (w.heap.size + 1) wr.heap.size wr (.slice (some ⟨ga, 0, none⟩) j cga) j (vals pre) := ⟨ga, cga, rfl, hga1, hga2, hrow⟩
        have HOWN := Lib.hid hown
        clear hown hga1 hga2 hrow hcn hcm
        have hB' := (Below.refl wr.heap.size wr).drew
        have hwj : IntKind.i64.wrap ((j : Int) - 1) = (j : Int) - 1 := IntWalk.i64_in _ (by omega)
        obtain ⟨p, may⟩ := up
        simp only at HEX hun64
        go_wp2
        refine wp_region_held_drew (S := fun _ => True) (by kernel_rfl) trivial (fun hH => ?_)
        refine takeH (i := 0) (d := some 65) (v := .slice (some ⟨b, off, none⟩) n cap) rfl rfl (by kernel_rfl) (by kernel_rfl) (by kernel_rfl) (fun _ _ _ h => h) (Or.inl ⟨by rfl, fun W hSw => by go_simp⟩) hH ?_
        try simp only [put_some, List.set_cons_zero, List.set_cons_succ]
        refine takeH (i := 1) (d := some 66) (v := .int .i64 (A : Int)) rfl rfl (by kernel_rfl) (by kernel_rfl) (by kernel_rfl) (fun _ _ _ h => h) (Or.inl ⟨by rfl, fun W hSw => by go_simp⟩) hH ?_
        try simp only [put_some, List.set_cons_zero, List.set_cons_succ]
        refine takeH (i := 2) (d := some 67) (v := .slice (some ⟨b, tl, none⟩) (n - A) (cap - A)) rfl rfl (by kernel_rfl) (by kernel_rfl) (by kernel_rfl) (fun _ _ _ h => h) (Or.inl ⟨by rfl, fun W hSw => by go_simp⟩) hH ?_
        try simp only [put_some, List.set_cons_zero, List.set_cons_succ]
        refine takeH (i := 3) (d := some 68) (v := .int .i64 (j : Int)) rfl rfl (by kernel_rfl) (by kernel_rfl) (by kernel_rfl) (fun _ _ _ h => h) (Or.inl ⟨by rfl, fun W hSw => by go_simp⟩) hH ?_
        try simp only [put_some, List.set_cons_zero, List.set_cons_succ]
        refine takeH (i := 4) (d := some 69) (v := .int .i64 ((j : Int) - 1)) rfl rfl (by kernel_rfl) (by kernel_rfl) (by kernel_rfl) (fun _ _ _ h => h) (Or.inl ⟨by rfl, fun W hSw => by go_simp⟩) hH ?_
        try simp only [put_some, List.set_cons_zero, List.set_cons_succ]
        refine takeH (i := 6) (d := some 71) (v := .int .i64 k) rfl rfl (by kernel_rfl) (by kernel_rfl) (by kernel_rfl) (fun _ _ _ h => h) (Or.inl ⟨by rfl, fun W hSw => by go_simp⟩) hH ?_
        try simp only [put_some, List.set_cons_zero, List.set_cons_succ]
        refine wpAnyH_ready (rs := [5]) (by kernel_rfl) (by simp) ?_
        refine AllReadyH.cons rfl (fun K hK => ?_) AllReadyH.nil
        go_simp
        go_at_call 57
        refine (HWD.out _).mono ?_
        rintro e w' ⟨rfl, rfl⟩
        go_wp2_with fail
        refine hK.out _ _ trivial (fun hH => ?_)
        clear hK K
        refine wpAnyH_ready (rs := [7]) (by kernel_rfl) (by simp) ?_
        refine AllReadyH.cons rfl (fun K hK => ?_) AllReadyH.nil
        go_simp
        go_at_call 69
        refine (HUN.out _ hB').mono ?_
        rintro e w2 ⟨v2, rfl, o2, hb2⟩
        simp only at o2
        have b2 := below_then hB' hb2 hB'.size
        have bz := Lib.hid b2
        clear hb2 hB' htl hwj HWD
        go_wp2_with fail
        refine hK.out _ _ trivial (fun hH => ?_)
        clear hK K
        refine takeH (i := 8) (d := some 64) (v := .tuple #[v2, .bool may]) rfl rfl (by kernel_rfl) (by kernel_rfl) (by kernel_rfl) (fun _ _ _ h => h) (Or.inl ⟨by rfl, fun W hSw => by go_simp⟩) hH ?_
        try simp only [put_some, List.set_cons_zero, List.set_cons_succ]
        refine takeH (i := 9) (d := some 73) (v := v2) rfl rfl (by kernel_rfl) (by kernel_rfl) (by kernel_rfl) (fun _ _ _ h => h) (Or.inl ⟨by rfl, fun W hSw => by go_simp⟩) hH ?_
        try simp only [put_some, List.set_cons_zero, List.set_cons_succ]
        refine takeH (i := 10) (d := some 74) (v := .bool may) rfl rfl (by kernel_rfl) (by kernel_rfl) (by kernel_rfl) (fun _ _ _ h => h) (Or.inl ⟨by rfl, fun W hSw => by go_simp⟩) hH ?_
        try simp only [put_some, List.set_cons_zero, List.set_cons_succ]
        refine takeH (i := 11) (d := some 17) (v := v2) rfl rfl (by kernel_rfl) (by kernel_rfl) (by kernel_rfl) (fun _ _ _ h => h) (Or.inl ⟨by rfl, fun W hSw => by go_simp⟩) hH ?_
        try simp only [put_some, List.set_cons_zero, List.set_cons_succ]
        refine takeH (i := 12) (d := some 18) (v := .bool may) rfl rfl (by kernel_rfl) (by kernel_rfl) (by kernel_rfl) (fun _ _ _ h => h) (Or.inl ⟨by rfl, fun W hSw => by go_simp⟩) hH ?_
        try simp only [put_some, List.set_cons_zero, List.set_cons_succ]
        refine wpAnyH_done (by kernel_rfl) ?_ _
        have HPK := Lib.hid (sPicked (.slice (some ⟨ga, 0, none⟩) j cga) v2 pre p w2 (by omega) (by rw [HPLN.out]; exact (HOWN.out.below b2 (Nat.le_refl _)).rd) o2.rd)
        have HLS := Lib.hid (picked_all (p := p) (q := fun v => v.s.size ≤ maxLen) HU.out)
        have hl64 := Nat.le_trans (picked_len pre p) hun64
        generalize pickedL pre p = pc at HPK HLS hl64 HEX
        obtain ⟨l, can⟩ := pc
        unfold RDs at HPK
        simp only at HPK HLS hl64 HEX
        have B2 := below_then hbr b2 hbr.size
        have hzr := Nat.le_trans hbr.size b2.size
        clear o2 b2
        go_wp2_with fail
        refine HPK.out.mono ?_
        rintro e w3 ⟨v3, rfl, o3, hb3⟩
        have b3 := below_then B2 hb3 B2.size
        have HOL := Lib.hid (o3.lower (show w.heap.size ≤ w2.heap.size by omega))
        have O3 := Lib.hid o3
        have HEN := Lib.hid (sEncDict v3 l w3 (by omega) HLS.out o3.rd)
        clear hb3 HPK o3
        by_cases hmc : may = true ∧ can = true
        · obtain ⟨rfl, rfl⟩ := hmc
          go_wp2_with fail
          refine HEN.out.mono ?_
          rintro e w4 ⟨v4, rfl, o4, hb4⟩
          have b4 := below_then b3 hb4 b3.size
          have OL4 := Lib.hid ((HOL.out.below hb4 (Nat.le_refl _)).wide hb4.size)
          have HSM := Lib.hid (l5Same v4 _ (encD l).length n (encD l) zs w4 rfl hz (encD_bytes l) hby o4.at (hat1.below b4))
          clear HEN hb4 HOL o4 O3
          by_cases hen : encD l = zs
          · rw [decide_eq_true hen] at HSM
            have HF : Hid (decD zs ty k = (l, true)) := by
              show _ = _
              rw [HEX.out]
              exact if_pos (by first | exact ⟨trivial, trivial, hen⟩ | exact ⟨rfl, rfl, hen⟩)
            go_wp2_with (go_at_call 70; refine HSM.out.mono ?_; rintro e w' ⟨rfl, rfl⟩)
            go_ret2
            rw [HF.out]
            exact ⟨_, rfl, OL4.out, below_then hb0 b4 hb0.size⟩
          · rw [decide_eq_false hen] at HSM
            have HF : Hid (decD zs ty k = ([], false)) := by
              show _ = _
              rw [HEX.out]
              exact if_neg (fun h => hen h.2.2)
            have HR := Lib.hid (HNO.out _ b4)
            go_wp2_with (go_at_call 70; refine HSM.out.mono ?_; rintro e w' ⟨rfl, rfl⟩)
            go_ret2
            exact HFIN.out _ _ HR.out HF.out
        · have HF : Hid (decD zs ty k = ([], false)) := by
            show _ = _
            rw [HEX.out]
            exact if_neg (fun h => hmc ⟨h.1, h.2.1⟩)
          have HR := Lib.hid (HNO.out _ b3)
          clear HEN HOL O3
          cases may with
          | false =>
            go_wp2
            go_ret2
            exact HFIN.out _ _ HR.out HF.out
          | true =>
            cases can with
            | true => exact absurd ⟨rfl, rfl⟩ hmc
            | false =>
              go_wp2
              go_ret2
              exact HFIN.out _ _ HR.out HF.out
  · have HF : Hid (decD zs ty k = ([], false)) := by
      show _ = _
      rw [HEX.out]
      exact if_neg hc
    have HR := Lib.hid (HNO.out _ (Below.refl _ _))
    have HRW : Hid (w.alloc (.cells #[] 37) = W1) := hW1
    clear hat1 HV hN hb0 hz hby h
    cases ok0 with
    | false =>
      go_enter Try.func41, Try.ntmps41
      go_wp2_with (first | (go_at_call 67; refine HG0.out.mono ?_; rintro e w' ⟨rfl, rfl⟩))
      go_ret2
      exact HFIN.out _ _ HR.out HF.out
    | true =>
      cases hk : Num.inB k 1 64 with
      | false =>
        rw [hk] at HIK
        clear hk hc
        go_enter Try.func41, Try.ntmps41
        go_wp2_with (first | (go_at_call 67; refine HG0.out.mono ?_; rintro e w' ⟨rfl, rfl⟩) | (go_at_call 66; refine (HIK.out _).mono ?_; clear HIK; rintro e w' ⟨rfl, rfl⟩))
        go_ret2
        exact HFIN.out _ _ HR.out HF.out
      | true =>
        cases hx : Num.inB x0 1 k with
        | true => exact absurd ⟨rfl, hk, hx⟩ hc
        | false =>
          rw [hk] at HIK
          rw [hx] at HIN
          clear hk hx hc
          go_enter Try.func41, Try.ntmps41
          go_wp2_with (first | (go_at_call 67; refine HG0.out.mono ?_; rintro e w' ⟨rfl, rfl⟩) | (go_at_call 66; refine (HIK.out _).mono ?_; clear HIK; rintro e w' ⟨rfl, rfl⟩) | (go_at_call 66; refine (HIN.out _).mono ?_; rintro e w' ⟨rfl, rfl⟩))
          go_ret2
          exact HFIN.out _ _ HR.out HF.out

end Go.Proofs.Ytoidpibdjijamaa
