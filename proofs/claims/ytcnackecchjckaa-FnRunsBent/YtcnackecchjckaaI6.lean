/- The contracts of impl's Turns, Spread (with spreadLength). -/
import Derived.Test.YtcnackecchjckaaLaw6
import Derived.Test.YtcnackecchjckaaI5
namespace Go.Proofs.Ytcnackecchjckaa
open Go.RowKit Go.Lib

set_option maxHeartbeats 1000000 in
theorem iTurns0 (u : Value) (l : List V) (w : World) (h : Rd 3 w u l.length (vals l)) :
    Calls Try.prog 19 #[u] w fun e w' => e = .returned (.int .i64 (turnsL l : Nat)) ∧ Below w.heap.size w w' := by
  have HE : Hid (turnsL l = turnsK l l.length) := rfl
  generalize hl : l.length = n at h HE
  obtain ⟨a, cap, rfl, hm, HC⟩ := h.vals hl
  unfold maxLen at hm
  have HT : Hid (∀ k, turnsK l (k + 1) = turnsK l k + (if 0 < k ∧ (l.getD k V.zero).eqB (l.getD (k - 1) V.zero) = false then 1 else 0)) := fun k => rfl
  have HLE := Lib.hid (turnsK_le l)
  have H1 : Hid (turnsK l 1 = 0) := rfl
  have H0 : Hid (turnsK l 0 = 0) := rfl
  clear h hl
  rw [HE.out]
  clear HE
  go_enter Try.func19, Try.ntmps19
  go_wp2
  go_loopw [3, 4] (fun c i wr => ∃ k : Nat, 1 ≤ k ∧ (k ≤ n ∨ (n = 0 ∧ k = 1)) ∧ i = .int .i64 k ∧ c = .int .i64 (turnsK l k : Nat) ∧ Below w.heap.size w wr) (fun _ i _ => n - (intOf i).toNat)
  case atStart => exact ⟨1, Nat.le_refl _, by omega, rfl, by rw [H1.out]; rfl, Below.refl _ _⟩
  case round =>
    obtain ⟨k, hk1, hk, rfl, rfl, hbr⟩ := hrel
    by_cases hlt : k < n
    · obtain ⟨j, rfl⟩ : ∃ j, k = j + 1 := ⟨k - 1, by omega⟩
      obtain ⟨b, off, e1, p0, p1, p2⟩ := HC.out (j + 1) hlt
      obtain ⟨b', off', e2, q0, q1, q2⟩ := HC.out j (by omega)
      subst e1
      simp only [Option.some.injEq, Addr.mk.injEq, and_true] at e2
      obtain ⟨rfl, rfl⟩ := e2
      have HTK := Lib.hid (HT.out (j + 1))
      rw [show j + 1 - 1 = j by omega] at HTK
      have hle := HLE.out (j + 1)
      have HQ := Lib.hid (fun W => run_neq_val (l.getD (j + 1) V.zero) (l.getD j V.zero) W)
      generalize turnsK l (j + 1) = c at hle HTK ⊢
      generalize l.getD (j + 1) V.zero = x at p0 p1 p2 HTK HQ
      generalize l.getD j V.zero = y at q0 q1 q2 HTK HQ
      replace p0 := (hbr.cell (p := ⟨b, off + (j + 1) * 3, none⟩) (lt_of_cell p0)).trans p0
      replace p1 := (hbr.cell (p := ⟨b, off + (j + 1) * 3 + 1, none⟩) (lt_of_cell p1)).trans p1
      replace p2 := (hbr.cell (p := ⟨b, off + (j + 1) * 3 + 2, none⟩) (lt_of_cell p2)).trans p2
      replace q0 := (hbr.cell (p := ⟨b, off + j * 3, none⟩) (lt_of_cell q0)).trans q0
      replace q1 := (hbr.cell (p := ⟨b, off + j * 3 + 1, none⟩) (lt_of_cell q1)).trans q1
      replace q2 := (hbr.cell (p := ⟨b, off + j * 3 + 2, none⟩) (lt_of_cell q2)).trans q2
      obtain ⟨t1, n1, s1⟩ := x
      obtain ⟨t2, n2, s2⟩ := y
      simp only at p0 p1 p2 q0 q1 q2
      cases he : V.eqB ⟨t1, n1, s1⟩ ⟨t2, n2, s2⟩ with
      | true =>
        rw [he] at HQ
        rw [he, if_neg (fun h => by cases h.2), Nat.add_zero] at HTK
        have hq := HQ.out
        clear he
        go_wp2
        go_quiet (fail)
        go_wp2
        go_roundw
        case rel => exact ⟨j + 1 + 1, by omega, by omega, by go_num, by rw [HTK.out]; rfl, hbr.trans (below_drewN _ _ _)⟩
        case measure => simp [intOf]; omega
      | false =>
        rw [he] at HQ
        rw [he, if_pos ⟨by omega, rfl⟩] at HTK
        have hq := HQ.out
        clear he
        go_wp2
        go_quiet (fail)
        go_wp2
        go_roundw
        case rel => exact ⟨j + 1 + 1, by omega, by omega, by go_num, by rw [HTK.out]; go_num, hbr.trans (below_drewN _ _ _)⟩
        case measure => simp [intOf]; omega
    · have hkn : turnsK l k = turnsK l n := by
        rcases hk with h | ⟨h1, h2⟩
        · rw [show k = n by omega]
        · rw [h2, h1, H1.out, H0.out]
      rw [hkn]
      go_wp2
      go_ret
      exact ⟨rfl, hbr⟩

/-- LongestRun. -/
theorem iTurns : CTurns := fun u l w _ _ h => iTurns0 u l w h

theorem Four.ext {W W' : World} {b : Nat} {u : U} {v v' : Value} (h : Four W b u) (k : Ext W W' v v') (hne : some b ≠ v.ownBlock) : Four W' b u := by
  have hb := k.grown.block b (lt_of_cell h.1.1) hne
  have hc : ∀ j, W'.cell? ⟨b, j, none⟩ = W.cell? ⟨b, j, none⟩ := fun j => World.cell?_of_block hb
  have hf : ∀ j, W'.frozen? ⟨b, j, none⟩ = W.frozen? ⟨b, j, none⟩ := fun j => World.frozen?_of_block hb
  exact ⟨⟨(hc 0).trans h.1.1, (hc 1).trans h.1.2.1, (hc 2).trans h.1.2.2.1, (hc 3).trans h.1.2.2.2⟩, (hf 0).trans h.2.1, (hf 1).trans h.2.2.1, (hf 2).trans h.2.2.2.1, (hf 3).trans h.2.2.2.2⟩

/-- The sum of the lengths, if each is right. -/
def sumK : List U → Nat → Option Nat
  | [], k => some k
  | u :: r, k => if 1 ≤ u.k ∧ u.k ≤ 64 - (k : Int) then sumK r (k + u.k.toNat) else none
theorem sumK_spread : ∀ (r : List U) (out : List V), sumK r out.length = (spreadF r out).map List.length
  | [], out => rfl
  | u :: r, out => by
    rw [sumK, spreadF]
    split
    · rw [← sumK_spread r, List.length_append, List.length_replicate]
    · rfl

set_option maxHeartbeats 1000000 in
theorem spreadLength (u : Value) (l : List U) (w : World) (h : Rd 4 w u l.length (rus l)) :
    Calls Try.prog 54 #[u] w fun e w' => e = .returned (.tuple #[.int .i64 ((sumK l 0).getD 0 : Nat), .bool (sumK l 0).isSome]) ∧ Below w.heap.size w w' := by
  have HE : Hid (sumK l 0 = sumK (l.drop 0) 0) := rfl
  generalize hl : l.length = n at h
  obtain ⟨a, cap, rfl, hm, HC⟩ := h.runs hl
  unfold maxLen at hm
  have HST : Hid (∀ k s, k < n → sumK (l.drop k) s = if 1 ≤ (l.getD k U.zero).k ∧ (l.getD k U.zero).k ≤ 64 - (s : Int) then sumK (l.drop (k + 1)) (s + (l.getD k U.zero).k.toNat) else none) := fun k s hk => by
    have hk' : k < l.length := by omega
    have e : l.getD k U.zero = l[k] := by simp [hk']
    rw [e, List.drop_eq_getElem_cons hk', sumK]
  have HFN : Hid (∀ s, sumK (l.drop n) s = some s) := fun s => by
    rw [List.drop_of_length_le (by omega)]
    rfl
  clear h hl
  generalize hx : sumK l 0 = X at HE
  clear hx
  go_enter Try.func54, Try.ntmps54
  go_wp2
  go_loopw [4, 9] (fun c i wr => ∃ (k s : Nat), k ≤ n ∧ i = .int .i64 k ∧ s ≤ 64 ∧ c = .int .i64 s ∧ X = sumK (l.drop k) s ∧ Below w.heap.size w wr) (fun _ i _ => n - (intOf i).toNat)
  case atStart => exact ⟨0, 0, Nat.zero_le _, rfl, Nat.zero_le _, rfl, HE.out, Below.refl _ _⟩
  case round =>
    obtain ⟨k, s, hk, rfl, hs, rfl, hsp, hbr⟩ := hrel
    by_cases hlt : k < n
    · obtain ⟨b, off, rfl, c0, c1, c2, c3⟩ := HC.out k hlt wr hbr
      have HSK := Lib.hid (hsp.trans (HST.out k s hlt))
      generalize l.getD k U.zero = x at c0 c1 c2 c3 HSK
      obtain ⟨⟨t1, n1, s1⟩, q⟩ := x
      simp only at c0 c1 c2 c3 HSK
      have BL := hbr.alloc hbr.size (.cells #[.int .i64 t1, .int .i64 n1, .string s1, .int .i64 q] 36)
      clear hsp
      by_cases hq1 : q < 1
      · rw [if_neg (by omega)] at HSK
        go_wp2
        go_ret2
        exact ⟨by rw [HSK.out]; rfl, BL⟩
      by_cases hq2 : 64 - (s : Int) < q
      · rw [if_neg (by omega)] at HSK
        go_wp2
        go_ret2
        exact ⟨by rw [HSK.out]; rfl, BL⟩
      obtain ⟨Q, rfl⟩ := Int.eq_ofNat_of_zero_le (show 0 ≤ q by omega)
      rw [if_pos ⟨by omega, by omega⟩, Int.toNat_natCast] at HSK
      go_wp2
      go_roundw
      case rel => exact ⟨k + 1, s + Q, by omega, by go_num, by omega, by go_num, HSK.out, BL⟩
      case measure => simp [intOf]; omega
    · obtain rfl : k = n := by omega
      rw [HFN.out] at hsp
      go_wp2
      go_ret2
      exact ⟨by rw [hsp]; rfl, hbr⟩

set_option maxHeartbeats 2000000 in
theorem iSpread : CSpread := by
  intro u l w hln hss h
  have HT := Lib.hid (spreadLength u l w h)
  have HE : Hid (spreadL l = (spreadF l []).getD []) := rfl
  have HSU : Hid (sumK l 0 = (spreadF l []).map List.length) := sumK_spread l []
  have HSL : Hid (∀ r, spreadF l [] = some r → r.length ≤ 64) := fun r hr => spreadF_len (by simp) hr
  generalize hl : l.length = n at h
  obtain ⟨a, cap, rfl, hm, HC⟩ := h.runs hl
  unfold maxLen at hm
  have HST : Hid (∀ k out, k < n → spreadF (l.drop k) out = if 1 ≤ (l.getD k U.zero).k ∧ (l.getD k U.zero).k ≤ 64 - (out.length : Int) then spreadF (l.drop (k + 1)) (out ++ List.replicate (l.getD k U.zero).k.toNat (l.getD k U.zero).v) else none) := fun k out hk => by
    have hk' : k < l.length := by omega
    have e : l.getD k U.zero = l[k] := by simp [hk']
    rw [e, List.drop_eq_getElem_cons hk', spreadF]
  have HFN : Hid (∀ out, spreadF (l.drop n) out = some out) := fun out => by
    rw [List.drop_of_length_le (by omega)]
    rfl
  have H0 : Hid (spreadF l [] = spreadF (l.drop 0) []) := rfl
  clear h hl hss hln
  generalize sumK l 0 = sk at HT HSU
  generalize spreadL l = sl at HE ⊢
  generalize spreadF l [] = F at HE HSU HSL H0
  cases F with
  | none =>
    have hsk : sk = none := HSU.out
    subst hsk
    have hsl : sl = [] := HE.out
    subst hsl
    go_enter Try.func22, Try.ntmps22
    go_wp2_with fail
    refine HT.out.mono ?_
    rintro e w1 ⟨rfl, b1⟩
    have OL := own_lit (e := 34) (size := 3) w1 #[] 0 (Nat.zero_le _) rfl
    have BL := b1.alloc b1.size (.cells #[] 34)
    have hzz := b1.size
    go_wp2
    go_ret
    exact ⟨_, rfl, OL.lower hzz, BL⟩
  | some F =>
    have hsk : sk = some F.length := HSU.out
    subst hsk
    have hsl : sl = F := HE.out
    subst hsl
    have h64 := HSL.out _ rfl
    clear HE HSU HSL
    generalize hfl : sl.length = fl at HT h64
    have HFL := Lib.hid hfl
    clear hfl
    go_enter Try.func22, Try.ntmps22
    go_wp2_with fail
    refine HT.out.mono ?_
    rintro e w1 ⟨rfl, b1⟩
    clear HT
    go_wp2_with (at_make; refine make0_law Try.elemVals rfl _ _ rfl .i64 .i64 _ fl rfl rfl rfl (by omega) (by unfold maxLen; omega) ?_)
    intro w2 own2 hb2
    have own2' := Lib.hid (own2.lower b1.size)
    have B2 := below_then b1 hb2 b1.size
    clear own2 hb2
    go_wp2
    go_loopw [5, 20] (fun o i wr => ∃ (k : Nat) (out : List V), k ≤ n ∧ i = .int .i64 k ∧ out.length ≤ 64 ∧ some sl = spreadF (l.drop k) out ∧ Own 34 3 w.heap.size wr.heap.size wr o out.length (vals out) ∧ Below w.heap.size w wr) (fun _ i _ => n - (intOf i).toNat)
    case atStart => exact ⟨0, [], Nat.zero_le _, rfl, by simp, H0.out, own2'.out, B2⟩
    case round =>
      obtain ⟨k, out, hk, rfl, hol, hsp, hown, hbr⟩ := hrel
      by_cases hlt : k < n
      · obtain ⟨b, off, rfl, c0, c1, c2, c3⟩ := HC.out k hlt wr hbr
        have HSK := Lib.hid (hsp.trans (HST.out k out hlt))
        generalize l.getD k U.zero = x at c0 c1 c2 c3 HSK
        obtain ⟨⟨t1, n1, s1⟩, q⟩ := x
        simp only at c0 c1 c2 c3 HSK
        clear hsp
        have hq : 1 ≤ q ∧ q ≤ 64 - (out.length : Int) := by
          by_cases hq : 1 ≤ q ∧ q ≤ 64 - (out.length : Int)
          · exact hq
          · have := HSK.out
            rw [if_neg hq] at this
            cases this
        rw [if_pos hq] at HSK
        obtain ⟨hq1, hq2⟩ := hq
        obtain ⟨Q, rfl⟩ := Int.eq_ofNat_of_zero_le (show 0 ≤ q by omega)
        rw [Int.toNat_natCast] at HSK
        have HR0 : Hid (out ++ List.replicate 0 (⟨t1, n1, s1⟩ : V) = out) := by
          show _ = _
          simp
        generalize hcc : out.length = c at hown hq2 hol
        have HCC := Lib.hid hcc
        clear hcc
        have BL := hbr.alloc hbr.size (.cells #[.int .i64 t1, .int .i64 n1, .string s1, .int .i64 (Q : Nat)] 36)
        have F0 := four_new wr ⟨⟨t1, n1, s1⟩, (Q : Nat)⟩ 36
        have O0 := hown.alloc (.cells #[.int .i64 t1, .int .i64 n1, .string s1, .int .i64 (Q : Nat)] 36)
        obtain ⟨g, cp, rfl, hg1, hg2, hrow⟩ := hown
        have HNE : Hid (some wr.heap.size ≠ (Value.slice (some ⟨g, 0, none⟩) c cp).ownBlock) := by
          intro e
          have e2 : wr.heap.size = g := by simpa [Value.ownBlock] using e
          omega
        clear hg1 hrow
        have hszb : (wr.alloc (.cells #[.int .i64 t1, .int .i64 n1, .string s1, .int .i64 (Q : Nat)] 36)).heap.size = wr.heap.size + 1 := World.size_alloc _ _
        obtain ⟨e0, e1, e2, e3⟩ := F0.1
        simp only at e0 e1 e2 e3
        simp only at F0
        go_wp2_with fail
        generalize hwb : wr.alloc (.cells #[.int .i64 t1, .int .i64 n1, .string s1, .int .i64 (Q : Nat)] 36) = wb at *
        have O0' : Own 34 3 w.heap.size wb.heap.size wb (.slice (some ⟨g, 0, none⟩) c cp) c (vals out) := O0.wide (by omega)
        go_loopw [5, 26] (fun o' i wr' => ∃ j : Nat, j ≤ Q ∧ i = .int .i64 j ∧ Own 34 3 w.heap.size wr'.heap.size wr' o' (c + j) (vals (out ++ List.replicate j ⟨t1, n1, s1⟩)) ∧ Ext wb wr' (.slice (some ⟨g, 0, none⟩) c cp) o' ∧ Below w.heap.size w wr') (fun _ i _ => Q - (intOf i).toNat)
        case atStart => exact ⟨0, Nat.zero_le _, rfl, by rw [HR0.out]; exact O0', Ext.refl _ _, BL⟩
        case round =>
          obtain ⟨j, hj, rfl, hown2, hext, hbr2⟩ := hrel
          have F2 := F0.ext hext HNE.out
          obtain ⟨d0, d1, d2, d3⟩ := F2.1
          simp only at d0 d1 d2 d3
          by_cases hjl : j < Q
          · have HVA : Hid (vals (out ++ List.replicate j (⟨t1, n1, s1⟩ : V)) ++ V.cs ⟨t1, n1, s1⟩ = vals (out ++ List.replicate (j + 1) (⟨t1, n1, s1⟩ : V))) := by
              show _ = _
              rw [List.replicate_succ', ← List.append_assoc]
              simp [vals]
            clear F2
            go_wp2_with (at_builtin; refine appendV_law Try.elemVals rfl _ _ rfl _ _ _ _ _ ⟨t1, n1, s1⟩ rfl hown2 rfl (by unfold maxLen; omega) (by omega) ?_)
            intro v3 w3 o3 e3
            have b3 := hbr2.trans (e3.below hown2)
            have E3 := hext.trans e3
            rw [HVA.out] at o3
            have O3 := Lib.hid o3
            clear o3 e3 hown2 d0 d1 d2 d3 c0 c1 c2 c3
            go_wp2
            go_roundw
            case rel => exact ⟨j + 1, by omega, by go_num, O3.out, E3, b3⟩
            case measure => simp [intOf]; omega
          · obtain rfl : j = Q := by omega
            go_wp2
            go_roundw
            case rel => exact ⟨k + 1, out ++ List.replicate j ⟨t1, n1, s1⟩, by omega, by go_num, by simp [HCC.out]; omega, HSK.out, by simp only [List.length_append, List.length_replicate, HCC.out]; exact hown2, hbr2⟩
            case measure => simp [intOf]; omega
      · obtain rfl : k = n := by omega
        rw [HFN.out] at hsp
        cases hsp
        rw [HFL.out] at hown
        go_wp2
        go_ret
        exact ⟨_, rfl, hown, hbr⟩

end Go.Proofs.Ytcnackecchjckaa
