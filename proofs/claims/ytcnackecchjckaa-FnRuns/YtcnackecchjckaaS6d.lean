/- The contract of the model's DecRuns. -/
import Derived.Test.YtcnackecchjckaaS6e
namespace Go.Proofs.Ytcnackecchjckaa
open Go.RowKit

theorem strOfNums_inj {xs ys : List Int} (hx : Num.Bytes xs) (hy : Num.Bytes ys) (h : strOfNums xs = strOfNums ys) : xs = ys := by
  have h2 : xs.map (fun n => UInt8.ofNat n.toNat) = ys.map (fun n => UInt8.ofNat n.toNat) := by
    have := congrArg (fun s : ByteArray => s.data.toList) h
    simpa [strOfNums] using this
  induction xs generalizing ys with
  | nil => cases ys with
    | nil => rfl
    | cons => simp at h2
  | cons x xs ih => cases ys with
    | nil => simp at h2
    | cons y ys =>
      simp only [List.map_cons, List.cons.injEq] at h2
      have h1 := hx x List.mem_cons_self
      have h3 := hy y List.mem_cons_self
      have e : x.toNat = y.toNat := by
        have := congrArg UInt8.toNat h2.1
        simp only [UInt8.toNat_ofNat'] at this
        omega
      have hxs : strOfNums xs = strOfNums ys := by
        unfold strOfNums
        rw [h2.2]
      rw [show x = y by omega, ih (fun z hz => hx z (List.mem_cons_of_mem _ hz)) (fun z hz => hy z (List.mem_cons_of_mem _ hz)) hxs h2.2]
theorem bstr_ne {a b : ByteArray} (h : ¬ a = b) : (a.toList == b.toList) = false := by
  have : ¬ a.toList = b.toList := fun e => h (by
    rw [ByteArray.toList_eq, ByteArray.toList_eq] at e
    apply ByteArray.ext
    exact Array.toList_inj.1 e)
  simpa using this

theorem conv_at {w : World} {v : Value} {n : Nat} {zs : List Int} (hz : zs.length = n) (h : At 1 w v n (ints .u8 zs)) : (convert 22 9 v).run Try.prog w = .ok (.string (strOfNums zs)) w := by
  obtain ⟨b, off, cap, rfl, _, _, _, hc⟩ := h
  exact run_convert_bytes_arg w 22 5 Try.underlying22 Try.underlying5 b off n cap zs hz (fun j hj => At.cell hc hz hj) 9 Try.underlying9

theorem l5Same (u v : Value) (n m : Nat) (xs ys : List Int) (w : World) (hxl : xs.length = n) (hyl : ys.length = m) (hx : Num.Bytes xs) (hy : Num.Bytes ys) (h1 : At 1 w u n (ints .u8 xs)) (h2 : At 1 w v m (ints .u8 ys)) :
    Calls Try.prog 64 #[u, v] w fun e w' => e = .returned (.bool (decide (xs = ys))) ∧ w = w' := by
  have k1 := conv_at hxl h1
  have k2 := conv_at hyl h2
  have HX : Hid (((strOfNums xs).toList == (strOfNums ys).toList) = decide (xs = ys)) := by
    show _ = _
    by_cases he : xs = ys
    · subst he
      simp
    · rw [bstr_ne (fun h => he (strOfNums_inj hx hy h)), decide_eq_false he]
  obtain ⟨b1, o1, c1, rfl, _, _, _, _⟩ := h1
  obtain ⟨b2, o2, c2, rfl, _, _, _, _⟩ := h2
  generalize strOfNums xs = s1 at k1 HX
  generalize strOfNums ys = s2 at k2 HX
  generalize decide (xs = ys) = q at HX
  clear hx hy hxl hyl
  go_enter Try.func64, Try.ntmps64
  go_wp2
  go_ret
  exact ⟨ret_bool HX.out, rfl⟩

/-- DecRuns. -/
def decU (zs : List Int) (ty : Int) : Nat → Int → Option (List U)
  | 0, _ => some []
  | n + 1, i => if (Num.get zs i).2.2 = true ∧ (getV zs (Num.get zs i).2.1 ty).2.2 = true then (decU zs ty n (getV zs (Num.get zs i).2.1 ty).2.1).map fun r => ⟨(getV zs (Num.get zs i).2.1 ty).1, (Num.get zs i).1⟩ :: r else none
def decR (zs : List Int) (ty k : Int) : List V × Bool :=
  if (Num.get zs 0).2.2 = true ∧ Num.inB k 1 64 = true ∧ Num.inB (Num.get zs 0).1 1 64 = true then
    (match decU zs ty (Num.get zs 0).1.toNat (Num.get zs 0).2.1 with
      | some r => if ((spreadL r).length : Int) = k ∧ encR (spreadL r) = zs then (spreadL r, true) else ([], false)
      | none => ([], false))
  else ([], false)
theorem decR_len (zs : List Int) (ty k : Int) : (decR zs ty k).1.length ≤ 64 := by
  unfold decR
  split
  · split
    · split
      · exact spreadL_len _
      · simp
    · simp
  · simp
theorem getV_size (zs : List Int) (i ty : Int) : (getV zs i ty).1.s.size ≤ maxLen := by
  have h6 : ∀ v : V, okV v = true → ¬ v.ty = 1 → v.s.size ≤ maxLen := fun v h ht => Nat.le_trans (okV_txt h ht) (by decide)
  unfold getV
  split
  · split
    · exact Nat.zero_le _
    · exact Nat.zero_le _
  · split
    · unfold getT
      split
      · rename_i h
        exact h6 _ h.2 (fun e => by simp at e)
      · exact Nat.zero_le _
    · exact Nat.zero_le _
theorem decU_size {zs : List Int} {ty : Int} : ∀ {n : Nat} {i : Int} {r : List U}, decU zs ty n i = some r → ∀ u ∈ r, u.v.s.size ≤ maxLen := by
  intro n
  induction n with
  | zero =>
    intro i r h u hu
    simp only [decU, Option.some.injEq] at h
    subst h
    cases hu
  | succ n ih =>
    intro i r h u hu
    rw [decU] at h
    split at h
    · obtain ⟨q, hq, rfl⟩ := Option.map_eq_some_iff.1 h
      rcases List.mem_cons.1 hu with rfl | hu
      · exact getV_size _ _ _
      · exact ih hq u hu
    · cases h
theorem spreadF_all {p : V → Prop} : ∀ {r : List U} {out l : List V}, (∀ u ∈ r, p u.v) → (∀ v ∈ out, p v) → spreadF r out = some l → ∀ v ∈ l, p v
  | [], out, l, _, h2, e => by
    simp only [spreadF, Option.some.injEq] at e
    subst e
    exact h2
  | u :: r, out, l, h1, h2, e => by
    rw [spreadF] at e
    split at e
    · refine spreadF_all (fun x hx => h1 x (List.mem_cons_of_mem _ hx)) (fun v hv => ?_) e
      rcases List.mem_append.1 hv with hv | hv
      · exact h2 v hv
      · rw [List.eq_of_mem_replicate hv]
        exact h1 u List.mem_cons_self
    · cases e
theorem spreadL_all {p : V → Prop} {r : List U} (h : ∀ u ∈ r, p u.v) : ∀ v ∈ spreadL r, p v := by
  unfold spreadL
  cases e : spreadF r [] with
  | none => simp
  | some l => exact spreadF_all h (by simp) e

set_option maxRecDepth 100000 in
set_option maxHeartbeats 4000000 in
theorem sDecRuns (u : Value) (n : Nat) (zs : List Int) (ty k : Int) (w : World) (hn : n ≤ 1073741824) (hz : zs.length = n) (hby : Num.Bytes zs) (h : At 1 w u n (ints .u8 zs)) :
    Calls Try.prog 26 #[u, .int .i64 ty, .int .i64 k] w fun e w' => RDs w w' e (decR zs ty k) := by
  obtain ⟨W1, hW1⟩ : ∃ W1, w.alloc (.cells #[] 34) = W1 := ⟨_, rfl⟩
  have hs1 : W1.heap.size = w.heap.size + 1 := by rw [← hW1]; simp
  have hN : Own 34 3 w.heap.size W1.heap.size W1 (.slice (some ⟨w.heap.size, 0, none⟩) 0 0) 0 [] := by
    rw [← hW1]
    exact own_lit (e := 34) (size := 3) w #[] 0 (Nat.zero_le _) rfl
  have hb0 : Below w.heap.size w W1 := by rw [← hW1]; exact below_alloc w _
  have hat1 := h.below hb0
  have HG := Lib.hid (fun i W (hW : Below W1.heap.size W1 W) => sGetNum u n zs i W (by omega) hz hby (hat1.below hW))
  have HV := Lib.hid (fun i W (hW : Below W1.heap.size W1 W) => sGetVal u n zs i ty W hn hz hby (hat1.below hW))
  have HIK := Lib.hid (fun W => l1In k 1 64 W)
  have HEX : Hid (decR zs ty k = if (Num.get zs 0).2.2 = true ∧ Num.inB k 1 64 = true ∧ Num.inB (Num.get zs 0).1 1 64 = true then (match decU zs ty (Num.get zs 0).1.toNat (Num.get zs 0).2.1 with | some r => if ((spreadL r).length : Int) = k ∧ encR (spreadL r) = zs then (spreadL r, true) else ([], false) | none => ([], false)) else ([], false)) := rfl
  have HG0 := Lib.hid (HG.out 0 W1 (Below.refl _ _))
  have HFIN : Hid (∀ e w', RDs w w' e ([], false) → decR zs ty k = ([], false) → RDs w w' e (decR zs ty k)) := fun e w' h1 h2 => by rw [h2]; exact h1
  obtain ⟨b, off, cap, rfl, _, _, _, _⟩ := id h
  generalize hg : Num.get zs 0 = g0 at HG0 HEX
  obtain ⟨x0, nx0, ok0⟩ := g0
  unfold getRes at HG0
  simp only at HG0 HEX
  have HIN := Lib.hid (fun W => l1In x0 1 64 W)
  have HNO : Hid (∀ W, Below W1.heap.size W1 W → RDs w W (.returned (.tuple #[.slice (some ⟨w.heap.size, 0, none⟩) 0 0, .bool false])) ([], false)) := fun W hW => ⟨_, rfl, (hN.below hW (Nat.le_refl _)).wide hW.size, below_then hb0 hW hb0.size⟩
  clear hg
  by_cases hc : ok0 = true ∧ Num.inB k 1 64 = true ∧ Num.inB x0 1 64 = true
  · obtain ⟨rfl, hk, hx⟩ := hc
    rw [if_pos ⟨rfl, hk, hx⟩] at HEX
    rw [hk] at HIK
    rw [hx] at HIN
    obtain ⟨k0, k1⟩ := Num.inB_true.1 hk
    obtain ⟨n0, n1⟩ := Num.inB_true.1 hx
    obtain ⟨N, rfl⟩ := Int.eq_ofNat_of_zero_le (show 0 ≤ x0 by omega)
    rw [Int.toNat_natCast] at HEX
    have hR0 := own_lit (e := 36) (size := 4) W1 #[] 0 (Nat.zero_le _) rfl
    have hbR := below_alloc W1 (.cells #[] 36)
    rw [hs1] at hR0
    have HD0 : Hid (decU zs ty N nx0 = (decU zs ty (N - 0) nx0).map fun r => [] ++ r) := by
      show _ = _
      simp
    have HST : Hid (∀ (j : Nat) (i : Int) (pre : List U), j < N → decU zs ty N nx0 = (decU zs ty (N - j) i).map (fun r => pre ++ r) → if (Num.get zs i).2.2 = true ∧ (getV zs (Num.get zs i).2.1 ty).2.2 = true then decU zs ty N nx0 = (decU zs ty (N - (j + 1)) (getV zs (Num.get zs i).2.1 ty).2.1).map (fun r => (pre ++ [⟨(getV zs (Num.get zs i).2.1 ty).1, (Num.get zs i).1⟩]) ++ r) else decU zs ty N nx0 = none) := fun j i pre hj hd => by
      rw [show N - j = (N - (j + 1)) + 1 by omega, decU] at hd
      split
      · rename_i hg
        rw [if_pos hg] at hd
        rw [hd, Option.map_map]
        congr 1
        funext r
        simp
      · rename_i hg
        rw [if_neg hg] at hd
        rw [hd]
        rfl
    have HFN : Hid (∀ (i : Int) (pre : List U), decU zs ty N nx0 = (decU zs ty (N - N) i).map (fun r => pre ++ r) → decU zs ty N nx0 = some pre) := fun i pre hd => by
      rw [hd, Nat.sub_self]
      simp [decU]
    have HNONE : Hid (decU zs ty N nx0 = none → decR zs ty k = ([], false)) := fun hd => by rw [HEX.out, hd]
    clear hk hx
    go_enter Try.func26, Try.ntmps26
    go_wp2_with (first | (go_at_call 61; refine HG0.out.mono ?_; rintro e w' ⟨rfl, rfl⟩) | (go_at_call 62; refine (HIK.out _).mono ?_; clear HIK; rintro e w' ⟨rfl, rfl⟩) | (go_at_call 62; refine (HIN.out _).mono ?_; rintro e w' ⟨rfl, rfl⟩))
    go_loopw [10, 12, 13] (fun p o i wr => ∃ (j : Nat) (q : Int) (pre : List U), j ≤ N ∧ i = .int .i64 j ∧ p = .int .i64 q ∧ pre.length = j ∧ decU zs ty N nx0 = (decU zs ty (N - j) q).map (fun r => pre ++ r) ∧ Own 36 4 (w.heap.size + 1) wr.heap.size wr o pre.length (rus pre) ∧ Below W1.heap.size W1 wr) (fun _ _ i _ => N - (intOf i).toNat)
    case atStart => exact ⟨0, nx0, [], Nat.zero_le _, rfl, rfl, rfl, HD0.out, hR0, hbR⟩
    case round =>
      obtain ⟨j, q, pre, hj, rfl, rfl, hpl, hd, hown, hbr⟩ := hrel
      by_cases hlt : j < N
      · have HSJ := Lib.hid (HST.out j q pre hlt hd)
        have HGJ := Lib.hid (HG.out q wr hbr)
        have HPL := Lib.hid hpl
        clear hd
        generalize Num.get zs q = gq at HSJ HGJ
        obtain ⟨xm, nm, om⟩ := gq
        unfold getRes at HGJ
        simp only at HSJ HGJ
        have HVJ := Lib.hid (HV.out nm wr hbr)
        generalize getV zs nm ty = r at HSJ HVJ
        obtain ⟨⟨xt, xn, xs⟩, nx, ok⟩ := r
        unfold rGet at HVJ
        simp only at HSJ HVJ
        have HVA : Hid (rus pre ++ U.cs ⟨⟨xt, xn, xs⟩, xm⟩ = rus (pre ++ [(⟨⟨xt, xn, xs⟩, xm⟩ : U)])) := by
          show _ = _
          simp [rus]
        have HLN : Hid ((pre ++ [(⟨⟨xt, xn, xs⟩, xm⟩ : U)]).length = pre.length + 1) := by
          show _ = _
          simp
        have hcl : pre.length ≤ 64 := by omega
        clear hpl
        generalize hcc : pre.length = c at hown HLN hcl HPL
        have HCC := Lib.hid hcc
        clear hcc
        go_wp2_with fail
        refine HGJ.out.mono ?_
        rintro e wx ⟨rfl, rfl⟩
        go_wp2_with fail
        refine HVJ.out.mono ?_
        rintro e w2 ⟨rfl, hb2⟩
        have own2 := hown.below hb2 (Nat.le_refl _)
        have b2 := below_then hbr hb2 hbr.size
        have z2 := hb2.size
        clear hown hb2 HVJ HGJ
        by_cases hbad : om = true ∧ ok = true
        · obtain ⟨rfl, rfl⟩ := hbad
          have HS2 : Hid (decU zs ty N nx0 = (decU zs ty (N - (j + 1)) nx).map (fun r => (pre ++ [(⟨⟨xt, xn, xs⟩, xm⟩ : U)]) ++ r)) := by
            have hd := HSJ.out
            rw [if_pos ⟨rfl, rfl⟩] at hd
            exact hd
          have own3 := (own2.alloc (.cells #[.int .i64 xt, .int .i64 xn, .string xs] 34)).wide (hi' := (w2.alloc (.cells #[.int .i64 xt, .int .i64 xn, .string xs] 34)).heap.size) (by simp; omega)
          have b3 := b2.alloc b2.size (.cells #[.int .i64 xt, .int .i64 xn, .string xs] 34)
          clear own2 HSJ
          go_wp2_with (at_builtin; refine appendU_law Try.elemRuns rfl _ _ rfl _ _ _ _ _ ⟨⟨xt, xn, xs⟩, xm⟩ rfl own3 (by show Value.slice (some ⟨w2.heap.size + 1, 0, none⟩) 1 1 = _; rw [World.size_alloc]) (by unfold maxLen; omega) (by omega) ?_)
          intro v4 w4 o4 e4
          have b4 := b3.trans ((e4.below own3).mono (by omega))
          rw [HVA.out] at o4
          have O4 := Lib.hid o4
          clear o4 e4 own3
          go_wp2
          go_roundw
          case rel => exact ⟨j + 1, nx, pre ++ [⟨⟨xt, xn, xs⟩, xm⟩], by omega, by go_num, rfl, by rw [HLN.out, HPL.out], HS2.out, by rw [HLN.out]; exact O4.out, b4⟩
          case measure => simp [intOf]; omega
        · have HF : Hid (decR zs ty k = ([], false)) := by
            show _ = _
            have hd := HSJ.out
            rw [if_neg hbad] at hd
            exact HNONE.out hd
          have b3 := b2.alloc b2.size (.cells #[.int .i64 xt, .int .i64 xn, .string xs] 34)
          have HR := Lib.hid (HNO.out _ b3)
          clear own2 HSJ
          cases om with
          | false =>
            go_wp2
            go_ret2
            exact HFIN.out _ _ HR.out HF.out
          | true =>
            cases ok with
            | true => exact absurd ⟨rfl, rfl⟩ hbad
            | false =>
              go_wp2
              go_ret2
              exact HFIN.out _ _ HR.out HF.out
      · obtain rfl : j = N := by omega
        have hdn := HFN.out q pre hd
        have HU := Lib.hid (decU_size hdn)
        rw [hdn] at HEX
        dsimp only at HEX
        have hl64 := spreadL_len pre
        have HLS := Lib.hid (spreadL_all (p := fun v => v.s.size ≤ maxLen) HU.out)
        have HSP := Lib.hid (sSpread _ pre wr hown.rd)
        obtain ⟨ga, cga, rfl, _, _, _⟩ := hown
        clear hd hdn HU HST HFN HNONE HD0 hpl
        generalize spreadL pre = l at HEX hl64 HLS HSP
        generalize pre.length = c at HSP ⊢
        go_wp2_with fail
        refine HSP.out.mono ?_
        rintro e w2 ⟨v2, rfl, o2, hb2⟩
        have b2 := below_then hbr hb2 hbr.size
        have hzr := hbr.size
        clear HSP hb2
        have HEN := Lib.hid (sEncRuns v2 l w2 (by omega) HLS.out o2.rd)
        have HOL := Lib.hid (o2.lower (show w.heap.size ≤ wr.heap.size by omega))
        have O2 := Lib.hid o2
        obtain ⟨gl, cgl, rfl, _, _, _⟩ := o2
        by_cases hlk : (l.length : Int) = k
        · have hlb : ((l.length : Int) != k) = false := by simpa using hlk
          have HLK := Lib.hid hlk
          generalize hll : l.length = ll at *
          have HLL := Lib.hid hll
          clear hlk hll
          go_wp2_with fail
          refine HEN.out.mono ?_
          rintro e w3 ⟨v3, rfl, o3, hb3⟩
          have b3 := below_then b2 hb3 b2.size
          have OL3 := Lib.hid ((HOL.out.below hb3 (Nat.le_refl _)).wide hb3.size)
          have HSM := Lib.hid (l5Same v3 _ (encR l).length n (encR l) zs w3 rfl hz (encR_bytes l) hby o3.at (hat1.below b3))
          obtain ⟨g3, cg3, rfl, _, _, _⟩ := o3
          clear HEN hb3 HOL O2
          by_cases hen : encR l = zs
          · rw [decide_eq_true hen] at HSM
            have HF : Hid (decR zs ty k = (l, true)) := by
              show _ = _
              rw [HEX.out]
              exact if_pos ⟨HLK.out, hen⟩
            generalize (encR l).length = le at *
            go_wp2_with (go_at_call 64; refine HSM.out.mono ?_; rintro e w' ⟨rfl, rfl⟩)
            go_ret2
            rw [HF.out]
            exact ⟨_, rfl, by simp only [HLL.out]; exact OL3.out, below_then hb0 b3 hb0.size⟩
          · rw [decide_eq_false hen] at HSM
            have HF : Hid (decR zs ty k = ([], false)) := by
              show _ = _
              rw [HEX.out]
              exact if_neg (fun h => hen h.2)
            have HR := Lib.hid (HNO.out _ b3)
            generalize (encR l).length = le at *
            go_wp2_with (go_at_call 64; refine HSM.out.mono ?_; rintro e w' ⟨rfl, rfl⟩)
            go_ret2
            exact HFIN.out _ _ HR.out HF.out
        · have hlb : ((l.length : Int) != k) = true := by simpa using hlk
          have HF : Hid (decR zs ty k = ([], false)) := by
            show _ = _
            rw [HEX.out]
            exact if_neg (fun h => hlk h.1)
          have HR := Lib.hid (HNO.out _ b2)
          generalize l.length = ll at *
          clear HEN HOL O2
          go_wp2
          go_ret2
          exact HFIN.out _ _ HR.out HF.out
  · have HF : Hid (decR zs ty k = ([], false)) := by
      show _ = _
      rw [HEX.out, if_neg hc]
    have HR := Lib.hid (HNO.out _ (Below.refl _ _))
    generalize Num.inB k 1 64 = bk at hc HIK
    generalize Num.inB x0 1 64 = bx at hc HIN
    clear HEX
    cases ok0 with
    | false =>
      go_enter Try.func26, Try.ntmps26
      go_wp2_with (go_at_call 61; refine HG0.out.mono ?_; rintro e w' ⟨rfl, rfl⟩)
      go_ret2
      exact HFIN.out _ _ HR.out HF.out
    | true =>
      cases bk with
      | false =>
        go_enter Try.func26, Try.ntmps26
        go_wp2_with (first | (go_at_call 61; refine HG0.out.mono ?_; rintro e w' ⟨rfl, rfl⟩) | (go_at_call 62; refine (HIK.out _).mono ?_; rintro e w' ⟨rfl, rfl⟩))
        go_ret2
        exact HFIN.out _ _ HR.out HF.out
      | true =>
        cases bx with
        | true => exact absurd ⟨rfl, rfl, rfl⟩ hc
        | false =>
          go_enter Try.func26, Try.ntmps26
          go_wp2_with (first | (go_at_call 61; refine HG0.out.mono ?_; rintro e w' ⟨rfl, rfl⟩) | (go_at_call 62; refine (HIK.out _).mono ?_; clear HIK; rintro e w' ⟨rfl, rfl⟩) | (go_at_call 62; refine (HIN.out _).mono ?_; rintro e w' ⟨rfl, rfl⟩))
          go_ret2
          exact HFIN.out _ _ HR.out HF.out

end Go.Proofs.Ytcnackecchjckaa
