/- The contracts of the model's EncPlain and DecPlain. -/
import Derived.Test.YteddpefboeikhaaS5p
import Derived.Test.YteddpefboeikhaaS5g
namespace Go.Proofs.Yteddpefboeikhaa
open Go.RowKit

/-- EncPlain. -/
def encAll (l : List V) : List Int := l.foldl putV []
def encP (l : List V) : List Int := if typeV l = 0 then [] else encAll l
theorem encAll_snoc (l : List V) (v : V) : encAll (l ++ [v]) = putV (encAll l) v := by simp [encAll]
theorem encAll_len (l : List V) : (encAll l).length ≤ 7 * l.length := by
  have : ∀ (l : List V) (b : List Int), (l.foldl putV b).length ≤ b.length + 7 * l.length := by
    intro l
    induction l with
    | nil => intro b; simp
    | cons v l ih =>
      intro b
      have h1 := ih (putV b v)
      have h2 := (putV_len b v).2
      simp only [List.foldl_cons, List.length_cons]
      omega
  have := this l []
  simpa [encAll] using this
theorem typeV_len {l : List V} (h : ¬ typeV l = 0) : l.length ≤ 64 := by
  unfold typeV at h
  split at h
  · rename_i h2
    have := Num.inB_true.1 h2.1
    omega
  · exact absurd rfl h

set_option maxHeartbeats 1000000 in
theorem sEncPlain (u : Value) (l : List V) (w : World) (hss : ∀ v ∈ l, v.s.size ≤ maxLen) (h : Rd 3 w u l.length (vals l)) :
    Calls Try.prog 26 #[u] w fun e w' => ∃ v', e = .returned v' ∧ Own 5 1 w.heap.size w'.heap.size w' v' (encP l).length (ints .u8 (encP l)) ∧ Below w.heap.size w w' := by
  have hown0 := own_lit (e := 5) (size := 1) w #[] 0 (Nat.zero_le _) rfl
  have hb0 := below_alloc w (.cells #[] 5)
  have HT := Lib.hid (sTypeOf u l _ hss (h.below hb0))
  have HE : Hid (encP l = if typeV l = 0 then [] else encAll l) := rfl
  have HTL : Hid (¬ typeV l = 0 → l.length ≤ 64) := typeV_len
  generalize hl : l.length = n at h HTL
  obtain ⟨a, cap, rfl, hm, HC⟩ := h.vals hl
  unfold maxLen at hm
  have HL := Lib.hid hl
  have HSS : Hid (∀ k, k < n → (l.getD k V.zero).s.size ≤ maxLen) := fun k hk => by
    have hk' : k < l.length := by omega
    have e : l.getD k V.zero = l[k] := by simp [hk']
    rw [e]
    exact hss _ (List.getElem_mem hk')
  have HS : Hid (∀ k, k < n → encAll (l.take (k + 1)) = putV (encAll (l.take k)) (l.getD k V.zero)) := fun k hk => by
    have hk' : k < l.length := by omega
    have e : l.getD k V.zero = l[k] := by simp [hk']
    rw [e, List.take_succ_eq_append_getElem hk', encAll_snoc]
  have HEL : Hid (∀ k, k ≤ n → (encAll (l.take k)).length ≤ 7 * k) := fun k hk => by
    have := encAll_len (l.take k)
    have e : (l.take k).length = k := by simp; omega
    rw [e] at this
    exact this
  generalize typeV l = ty at HT HE HTL
  clear h hl hss
  go_enter Try.func26, Try.ntmps26
  go_wp2_with fail
  refine HT.out.mono ?_
  rintro e w1 ⟨rfl, b1⟩
  have B1 := below_then hb0 b1 hb0.size
  have O1 := (hown0.below b1 (Nat.le_refl _)).wide b1.size
  clear b1 hb0 hown0 HT
  by_cases ht : ty = 0
  · subst ht
    rw [if_pos rfl] at HE
    go_wp2
    go_ret
    rw [HE.out]
    exact ⟨_, rfl, O1, B1⟩
  · have htb : (ty == 0) = false := by simpa using ht
    have h64 := HTL.out ht
    rw [if_neg ht] at HE
    go_wp2
    go_loopw [3, 4] (fun o i wr => ∃ k : Nat, k ≤ n ∧ i = .int .i64 k ∧ Own 5 1 w.heap.size wr.heap.size wr o (encAll (l.take k)).length (ints .u8 (encAll (l.take k))) ∧ Below w.heap.size w wr) (fun _ i _ => n - (intOf i).toNat)
    case atStart => exact ⟨0, Nat.zero_le _, rfl, O1, B1⟩
    case round =>
      obtain ⟨k, hk, rfl, hown, hbr⟩ := hrel
      by_cases hlt : k < n
      · obtain ⟨b, off, rfl, p0, p1, p2⟩ := HC.out k hlt
        have HSK := Lib.hid (HS.out k hlt)
        have hel := HEL.out k hk
        have HP := Lib.hid (sPutVal _ (encAll (l.take k)).length (encAll (l.take k)) (l.getD k V.zero) wr (by omega) (HSS.out k hlt) rfl hown.at)
        rw [← HSK.out] at HP
        replace p0 := (hbr.cell (p := ⟨b, off + k * 3, none⟩) (lt_of_cell p0)).trans p0
        replace p1 := (hbr.cell (p := ⟨b, off + k * 3 + 1, none⟩) (lt_of_cell p1)).trans p1
        replace p2 := (hbr.cell (p := ⟨b, off + k * 3 + 2, none⟩) (lt_of_cell p2)).trans p2
        generalize l.getD k V.zero = x at p0 p1 p2 HP
        obtain ⟨t1, n1, s1⟩ := x
        simp only at p0 p1 p2
        go_wp2_with fail
        refine HP.out.mono ?_
        rintro e w2 ⟨v2, rfl, o2, hb2⟩
        have B2 := below_then hbr hb2 hbr.size
        have O2 := Lib.hid (o2.lower hbr.size)
        clear o2 hb2 hbr hown HP p0 p1 p2
        go_wp2
        go_roundw
        case rel => exact ⟨k + 1, by omega, by go_num, O2.out, B2⟩
        case measure => simp [intOf]; omega
      · obtain rfl : k = n := by omega
        rw [← HL.out, List.take_length, ← HE.out] at hown
        go_wp2
        go_ret
        exact ⟨_, rfl, hown, hbr⟩

/-- DecPlain. -/
def decL (zs : List Int) (ty : Int) : Nat → Int → Option (List V × Int)
  | 0, i => some ([], i)
  | k + 1, i => if (getV zs i ty).2.2 = true then (decL zs ty k (getV zs i ty).2.1).map fun r => ((getV zs i ty).1 :: r.1, r.2) else none
def decP (zs : List Int) (ty k : Int) : List V × Bool :=
  if Num.inB k 1 64 = true then (match decL zs ty k.toNat 0 with | some r => if r.2 = zs.length then (r.1, true) else ([], false) | none => ([], false)) else ([], false)
/-- What DecPlain returns. -/
def RDs (w w' : World) (e : Ending) (r : List V × Bool) : Prop := ∃ v', e = .returned (.tuple #[v', .bool r.2]) ∧ Own 35 3 w.heap.size w'.heap.size w' v' r.1.length (vals r.1) ∧ Below w.heap.size w w'

set_option maxHeartbeats 2000000 in
theorem sDecPlain (u : Value) (n : Nat) (zs : List Int) (ty k : Int) (w : World) (hn : n ≤ 1073741824) (hz : zs.length = n) (hby : Num.Bytes zs) (h : At 1 w u n (ints .u8 zs)) :
    Calls Try.prog 29 #[u, .int .i64 ty, .int .i64 k] w fun e w' => RDs w w' e (decP zs ty k) := by
  have hown0 := own_lit (e := 35) (size := 3) w #[] 0 (Nat.zero_le _) rfl
  have hb0 := below_alloc w (.cells #[] 35)
  have HI := Lib.hid (fun W => l1In k 1 64 W)
  have HG := Lib.hid (fun i W (hW : Below w.heap.size w W) => sGetVal u n zs i ty W hn hz hby (h.below hW))
  obtain ⟨b, off, cap, rfl, _, _, _, _⟩ := h
  cases hin : Num.inB k 1 64 with
  | false =>
    have HE : Hid (decP zs ty k = ([], false)) := if_neg (by rw [hin]; simp)
    rw [hin] at HI
    clear hin hz hby HG
    go_enter Try.func29, Try.ntmps29
    go_wp2_with (go_at_call 36; refine (HI.out _).mono ?_; rintro e w' ⟨rfl, rfl⟩)
    go_ret2
    rw [HE.out]
    exact ⟨_, rfl, hown0, hb0⟩
  | true =>
    obtain ⟨k0, k1⟩ := Num.inB_true.1 hin
    rw [hin] at HI
    obtain ⟨K, rfl⟩ := Int.eq_ofNat_of_zero_le (show 0 ≤ k by omega)
    have HE : Hid (decP zs ty K = match decL zs ty K 0 with | some r => if r.2 = (n : Int) then (r.1, true) else ([], false) | none => ([], false)) := by
      show _ = _
      unfold decP
      rw [if_pos hin, hz, Int.toNat_natCast]
    have HD0 : Hid (decL zs ty K 0 = (decL zs ty (K - 0) 0).map fun r => ([] ++ r.1, r.2)) := by
      show _ = _
      simp
    have HST : Hid (∀ (j : Nat) (i : Int) (pre : List V), j < K → decL zs ty K 0 = (decL zs ty (K - j) i).map (fun r => (pre ++ r.1, r.2)) → if (getV zs i ty).2.2 = true then decL zs ty K 0 = (decL zs ty (K - (j + 1)) (getV zs i ty).2.1).map (fun r => ((pre ++ [(getV zs i ty).1]) ++ r.1, r.2)) else decL zs ty K 0 = none) := fun j i pre hj hd => by
      rw [show K - j = (K - (j + 1)) + 1 by omega, decL] at hd
      split
      · rename_i hg
        rw [if_pos hg] at hd
        rw [hd, Option.map_map]
        congr 1
        funext r
        simp
      · rename_i hg
        rw [if_neg hg] at hd
        rw [hd]
        rfl
    have HFN : Hid (∀ (i : Int) (pre : List V), decL zs ty K 0 = (decL zs ty (K - K) i).map (fun r => (pre ++ r.1, r.2)) → decL zs ty K 0 = some (pre, i)) := fun i pre hd => by
      rw [hd, Nat.sub_self]
      simp [decL]
    clear hin hz hby k0
    go_enter Try.func29, Try.ntmps29
    go_wp2_with (go_at_call 36; refine (HI.out _).mono ?_; rintro e w' ⟨rfl, rfl⟩)
    go_loopw [8, 9, 10] (fun o p i wr => ∃ (j : Nat) (q : Int) (pre : List V), j ≤ K ∧ i = .int .i64 j ∧ p = .int .i64 q ∧ pre.length = j ∧ decL zs ty K 0 = (decL zs ty (K - j) q).map (fun r => (pre ++ r.1, r.2)) ∧ Own 35 3 w.heap.size wr.heap.size wr o pre.length (vals pre) ∧ Below w.heap.size w wr) (fun _ _ i _ => K - (intOf i).toNat)
    case atStart => exact ⟨0, 0, [], Nat.zero_le _, rfl, rfl, rfl, HD0.out, hown0, hb0⟩
    case round =>
      obtain ⟨j, q, pre, hj, rfl, rfl, hpl, hd, hown, hbr⟩ := hrel
      by_cases hlt : j < K
      · have HSJ := Lib.hid (HST.out j q pre hlt hd)
        have HV := Lib.hid (HG.out q wr hbr)
        have HPL := Lib.hid hpl
        clear hd
        generalize getV zs q ty = r at HSJ HV
        obtain ⟨⟨xt, xn, xs⟩, nx, ok⟩ := r
        unfold rGet at HV
        simp only at HSJ HV
        have HVA : Hid (vals pre ++ V.cs ⟨xt, xn, xs⟩ = vals (pre ++ [(⟨xt, xn, xs⟩ : V)])) := by
          show _ = _
          simp [vals]
        have HLN : Hid ((pre ++ [(⟨xt, xn, xs⟩ : V)]).length = pre.length + 1) := by
          show _ = _
          simp
        have hcl : pre.length ≤ 64 := by omega
        clear hpl
        generalize hc : pre.length = c at hown HLN hcl HPL
        have HCC := Lib.hid hc
        clear hc
        go_wp2_with fail
        refine HV.out.mono ?_
        rintro e w2 ⟨rfl, hb2⟩
        have own2 := hown.below hb2 (Nat.le_refl _)
        have b2 := below_then hbr hb2 hbr.size
        have z2 := hb2.size
        clear hown hb2 HV
        cases ok with
        | false =>
          have HF : Hid (decP zs ty K = ([], false)) := by
            show _ = _
            have hd := HSJ.out
            rw [if_neg (by simp)] at hd
            rw [HE.out, hd]
          have OL := own_lit (e := 35) (size := 3) (w2.alloc (.cells #[.int .i64 xt, .int .i64 xn, .string xs] 35)) #[] 0 (Nat.zero_le _) rfl
          have BL := (b2.alloc b2.size (.cells #[.int .i64 xt, .int .i64 xn, .string xs] 35)).alloc (by simp; have := b2.size; omega) (.cells #[] 35)
          have HSW : Hid ((w2.alloc (.cells #[.int .i64 xt, .int .i64 xn, .string xs] 35)).heap.size = w2.heap.size + 1) := World.size_alloc _ _
          have hzz := b2.size
          clear own2
          go_wp2
          go_ret2
          rw [HF.out]
          exact ⟨_, rfl, by have := OL.lower (lo' := w.heap.size) (by simp; omega); rw [HSW.out] at this; exact this, BL⟩
        | true =>
          have HS2 : Hid (decL zs ty K 0 = (decL zs ty (K - (j + 1)) nx).map (fun r => ((pre ++ [(⟨xt, xn, xs⟩ : V)]) ++ r.1, r.2))) := by
            have hd := HSJ.out
            rw [if_pos rfl] at hd
            exact hd
          have own3 := (own2.alloc (.cells #[.int .i64 xt, .int .i64 xn, .string xs] 35)).wide (hi' := (w2.alloc (.cells #[.int .i64 xt, .int .i64 xn, .string xs] 35)).heap.size) (by simp; omega)
          have b3 := b2.alloc b2.size (.cells #[.int .i64 xt, .int .i64 xn, .string xs] 35)
          clear own2 HSJ
          go_wp2_with (at_builtin; refine appendV_law Try.elemVals rfl _ _ rfl _ _ _ _ _ ⟨xt, xn, xs⟩ rfl own3 (by show Value.slice (some ⟨w2.heap.size + 1, 0, none⟩) 1 1 = _; rw [World.size_alloc]) (by unfold maxLen; omega) (by omega) ?_)
          intro v4 w4 o4 e4
          have b4 := b3.trans (e4.below own3)
          rw [HVA.out] at o4
          have O4 := Lib.hid o4
          clear o4 e4 own3
          go_wp2
          go_roundw
          case rel => exact ⟨j + 1, nx, pre ++ [⟨xt, xn, xs⟩], by omega, by go_num, rfl, by rw [HLN.out, HPL.out], HS2.out, by rw [HLN.out]; exact O4.out, b4⟩
          case measure => simp [intOf]; omega
      · obtain rfl : j = K := by omega
        have HF := Lib.hid (HFN.out q pre hd)
        rw [HF.out] at HE
        clear hd
        by_cases hq : q = (n : Int)
        · have HF2 : Hid (decP zs ty j = (pre, true)) := by
            show _ = _
            rw [HE.out]
            exact if_pos hq
          have hqb : (q != (n : Int)) = false := by simpa using hq
          clear HE hq
          go_wp2
          go_ret2
          rw [HF2.out]
          exact ⟨_, rfl, hown, hbr⟩
        · have HF2 : Hid (decP zs ty j = ([], false)) := by
            show _ = _
            rw [HE.out]
            exact if_neg hq
          have hqb : (q != (n : Int)) = true := by simpa using hq
          have OL := own_lit (e := 35) (size := 3) wr #[] 0 (Nat.zero_le _) rfl
          have BL := hbr.alloc hbr.size (.cells #[] 35)
          have hzz := hbr.size
          clear HE hq hown
          go_wp2
          go_ret2
          rw [HF2.out]
          exact ⟨_, rfl, OL.lower hzz, BL⟩

end Go.Proofs.Yteddpefboeikhaa
