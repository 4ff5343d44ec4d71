/- The contracts of the model's Turns, LongestRun and Spread. -/
import Derived.Test.YtcnackecchjckaaS6
namespace Go.Proofs.Ytcnackecchjckaa
open Go.RowKit

/-- Turns: among the first k values. -/
def turnsK (l : List V) : Nat → Nat
  | 0 => 0
  | k + 1 => turnsK l k + (if 0 < k ∧ (l.getD k V.zero).eqB (l.getD (k - 1) V.zero) = false then 1 else 0)
def turnsL (l : List V) : Nat := turnsK l l.length
theorem turnsK_le (l : List V) : ∀ k, turnsK l k ≤ k
  | 0 => Nat.le_refl _
  | k + 1 => by
    have := turnsK_le l k
    rw [turnsK]
    split <;> omega

set_option maxHeartbeats 1000000 in
theorem sTurns (u : Value) (l : List V) (w : World) (h : Rd 3 w u l.length (vals l)) :
    Calls Try.prog 20 #[u] w fun e w' => e = .returned (.int .i64 (turnsL l : Nat)) ∧ Below w.heap.size w w' := by
  have HE : Hid (turnsL l = turnsK l l.length) := rfl
  generalize hl : l.length = n at h HE
  obtain ⟨a, cap, rfl, hm, HC⟩ := h.vals hl
  unfold maxLen at hm
  have HT : Hid (∀ k, turnsK l (k + 1) = turnsK l k + (if 0 < k ∧ (l.getD k V.zero).eqB (l.getD (k - 1) V.zero) = false then 1 else 0)) := fun k => rfl
  have HLE := Lib.hid (turnsK_le l)
  have H1 : Hid (turnsK l 1 = 0) := rfl
  have H0 : Hid (turnsK l 0 = 0) := rfl
  clear h hl
  rw [HE.out]
  clear HE
  go_enter Try.func20, Try.ntmps20
  go_wp2
  go_loopw [3, 4] (fun c i wr => ∃ k : Nat, 1 ≤ k ∧ (k ≤ n ∨ (n = 0 ∧ k = 1)) ∧ i = .int .i64 k ∧ c = .int .i64 (turnsK l k : Nat) ∧ Below w.heap.size w wr) (fun _ i _ => n - (intOf i).toNat)
  case atStart => exact ⟨1, Nat.le_refl _, by omega, rfl, by rw [H1.out]; rfl, Below.refl _ _⟩
  case round =>
    obtain ⟨k, hk1, hk, rfl, rfl, hbr⟩ := hrel
    by_cases hlt : k < n
    · obtain ⟨j, rfl⟩ : ∃ j, k = j + 1 := ⟨k - 1, by omega⟩
      obtain ⟨b, off, e1, p0, p1, p2⟩ := HC.out (j + 1) hlt
      obtain ⟨b', off', e2, q0, q1, q2⟩ := HC.out j (by omega)
      subst e1
      simp only [Option.some.injEq, Addr.mk.injEq, and_true] at e2
      obtain ⟨rfl, rfl⟩ := e2
      have HTK := Lib.hid (HT.out (j + 1))
      rw [show j + 1 - 1 = j by omega] at HTK
      have hle := HLE.out (j + 1)
      have HQ := Lib.hid (fun W => run_neq_val (l.getD (j + 1) V.zero) (l.getD j V.zero) W)
      generalize turnsK l (j + 1) = c at hle HTK ⊢
      generalize l.getD (j + 1) V.zero = x at p0 p1 p2 HTK HQ
      generalize l.getD j V.zero = y at q0 q1 q2 HTK HQ
      replace p0 := (hbr.cell (p := ⟨b, off + (j + 1) * 3, none⟩) (lt_of_cell p0)).trans p0
      replace p1 := (hbr.cell (p := ⟨b, off + (j + 1) * 3 + 1, none⟩) (lt_of_cell p1)).trans p1
      replace p2 := (hbr.cell (p := ⟨b, off + (j + 1) * 3 + 2, none⟩) (lt_of_cell p2)).trans p2
      replace q0 := (hbr.cell (p := ⟨b, off + j * 3, none⟩) (lt_of_cell q0)).trans q0
      replace q1 := (hbr.cell (p := ⟨b, off + j * 3 + 1, none⟩) (lt_of_cell q1)).trans q1
      replace q2 := (hbr.cell (p := ⟨b, off + j * 3 + 2, none⟩) (lt_of_cell q2)).trans q2
      obtain ⟨t1, n1, s1⟩ := x
      obtain ⟨t2, n2, s2⟩ := y
      simp only at p0 p1 p2 q0 q1 q2
      cases he : V.eqB ⟨t1, n1, s1⟩ ⟨t2, n2, s2⟩ with
      | true =>
        rw [he] at HQ
        rw [he, if_neg (fun h => by cases h.2), Nat.add_zero] at HTK
        have hq := HQ.out
        clear he
        go_wp2
        go_quiet (fail)
        go_wp2
        go_roundw
        case rel => exact ⟨j + 1 + 1, by omega, by omega, by go_num, by rw [HTK.out]; rfl, hbr.trans (below_drewN _ _ _)⟩
        case measure => simp [intOf]; omega
      | false =>
        rw [he] at HQ
        rw [he, if_pos ⟨by omega, rfl⟩] at HTK
        have hq := HQ.out
        clear he
        go_wp2
        go_quiet (fail)
        go_wp2
        go_roundw
        case rel => exact ⟨j + 1 + 1, by omega, by omega, by go_num, by rw [HTK.out]; go_num, hbr.trans (below_drewN _ _ _)⟩
        case measure => simp [intOf]; omega
    · have hkn : turnsK l k = turnsK l n := by
        rcases hk with h | ⟨h1, h2⟩
        · rw [show k = n by omega]
        · rw [h2, h1, H1.out, H0.out]
      rw [hkn]
      go_wp2
      go_ret
      exact ⟨rfl, hbr⟩

/-- LongestRun. -/
def longK (r : List U) : Int := r.foldl (fun n u => if n < u.k then u.k else n) 0
theorem longK_snoc (r : List U) (u : U) : longK (r ++ [u]) = if longK r < u.k then u.k else longK r := by
  unfold longK
  rw [List.foldl_append]
  rfl
def longL (l : List V) : Int := longK (runsL l)

set_option maxHeartbeats 1000000 in
theorem sLongestRun (u : Value) (l : List V) (w : World) (hn : l.length ≤ 1048576) (h : Rd 3 w u l.length (vals l)) :
    Calls Try.prog 18 #[u] w fun e w' => e = .returned (.int .i64 (longL l)) ∧ Below w.heap.size w w' := by
  have HR := Lib.hid (sRuns u l w hn h)
  have HE : Hid (longL l = longK (runsL l)) := rfl
  have hrl : (runsL l).length ≤ 1048576 := Nat.le_trans (runsL_len l) hn
  obtain ⟨a, cap, rfl, _, _⟩ := h
  generalize runsL l = r at HR HE hrl
  rw [HE.out]
  clear HE
  generalize l.length = n at *
  go_enter Try.func18, Try.ntmps18
  go_wp2_with fail
  refine HR.out.mono ?_
  rintro e w1 ⟨v1, rfl, o1, b1⟩
  generalize hm : r.length = m at o1 hrl
  obtain ⟨a1, c1, rfl, _, HC⟩ := o1.rd.runs hm
  have HM := Lib.hid hm
  have HT : Hid (∀ k, k < m → longK (r.take (k + 1)) = if longK (r.take k) < (r.getD k U.zero).k then (r.getD k U.zero).k else longK (r.take k)) := fun k hk => by
    have hk' : k < r.length := by omega
    have e : r.getD k U.zero = r[k] := by simp [hk']
    rw [e, List.take_succ_eq_append_getElem hk', longK_snoc]
  clear hm HR o1
  go_wp2
  go_loopw [3, 5] (fun c i wr => ∃ k : Nat, k ≤ m ∧ i = .int .i64 k ∧ c = .int .i64 (longK (r.take k)) ∧ Below w1.heap.size w1 wr) (fun _ i _ => m - (intOf i).toNat)
  case atStart => exact ⟨0, Nat.zero_le _, rfl, rfl, Below.refl _ _⟩
  case round =>
    obtain ⟨k, hk, rfl, rfl, hbr⟩ := hrel
    by_cases hlt : k < m
    · obtain ⟨b, off, rfl, c0, c1, c2, c3⟩ := HC.out k hlt wr hbr
      have HTK := Lib.hid (HT.out k hlt)
      have HS := Lib.hid (fun W => sMost (longK (r.take k)) (r.getD k U.zero).k W)
      generalize r.getD k U.zero = x at c0 c1 c2 c3 HTK HS
      obtain ⟨⟨t1, n1, s1⟩, q⟩ := x
      simp only at c0 c1 c2 c3 HTK HS
      generalize longK (r.take k) = z at HTK HS
      rw [← HTK.out] at HS
      generalize hz2 : longK (r.take (k + 1)) = z2 at HTK HS
      have HZ2 := Lib.hid hz2
      clear hz2
      go_wp2_with (go_at_call 53; refine (HS.out _).mono ?_; rintro e w' ⟨rfl, rfl⟩)
      go_roundw
      case rel => exact ⟨k + 1, by omega, by go_num, by rw [HZ2.out], hbr⟩
      case measure => simp [intOf]; omega
    · obtain rfl : k = m := by omega
      rw [← HM.out, List.take_length, HM.out]
      go_wp2
      go_ret
      exact ⟨rfl, below_then b1 hbr b1.size⟩

/-- Spread. -/
def spreadF : List U → List V → Option (List V)
  | [], out => some out
  | u :: r, out => if 1 ≤ u.k ∧ u.k ≤ 64 - (out.length : Int) then spreadF r (out ++ List.replicate u.k.toNat u.v) else none
def spreadL (r : List U) : List V := (spreadF r []).getD []
theorem spreadF_len : ∀ {r : List U} {out l : List V}, out.length ≤ 64 → spreadF r out = some l → l.length ≤ 64
  | [], out, l, h, e => by
    simp only [spreadF, Option.some.injEq] at e
    subst e
    exact h
  | u :: r, out, l, h, e => by
    rw [spreadF] at e
    split at e
    · rename_i hc
      refine spreadF_len ?_ e
      simp only [List.length_append, List.length_replicate]
      omega
    · cases e
theorem spreadL_len (r : List U) : (spreadL r).length ≤ 64 := by
  unfold spreadL
  cases h : spreadF r [] with
  | none => simp
  | some l => exact spreadF_len (by simp) h

set_option maxHeartbeats 2000000 in
theorem sSpread (u : Value) (l : List U) (w : World) (h : Rd 4 w u l.length (rus l)) :
    Calls Try.prog 28 #[u] w fun e w' => ∃ v', e = .returned v' ∧ Own 34 3 w.heap.size w'.heap.size w' v' (spreadL l).length (vals (spreadL l)) ∧ Below w.heap.size w w' := by
  have hown0 := own_lit (e := 34) (size := 3) w #[] 0 (Nat.zero_le _) rfl
  have hb0 := below_alloc w (.cells #[] 34)
  have HE : Hid (spreadL l = (spreadF l []).getD []) := rfl
  generalize hl : l.length = n at h
  obtain ⟨a, cap, rfl, hm, HC⟩ := h.runs hl
  unfold maxLen at hm
  have H0 : Hid (spreadF l [] = spreadF (l.drop 0) []) := rfl
  have HST : Hid (∀ k out, k < n → spreadF (l.drop k) out = if 1 ≤ (l.getD k U.zero).k ∧ (l.getD k U.zero).k ≤ 64 - (out.length : Int) then spreadF (l.drop (k + 1)) (out ++ List.replicate (l.getD k U.zero).k.toNat (l.getD k U.zero).v) else none) := fun k out hk => by
    have hk' : k < l.length := by omega
    have e : l.getD k U.zero = l[k] := by simp [hk']
    rw [e, List.drop_eq_getElem_cons hk', spreadF]
  have HFN : Hid (∀ out, spreadF (l.drop n) out = some out) := fun out => by
    rw [List.drop_of_length_le (by omega)]
    rfl
  clear h hl
  go_enter Try.func28, Try.ntmps28
  go_wp2
  go_loopw [3, 4] (fun o i wr => ∃ (k : Nat) (out : List V), k ≤ n ∧ i = .int .i64 k ∧ out.length ≤ 64 ∧ spreadF l [] = spreadF (l.drop k) out ∧ Own 34 3 w.heap.size wr.heap.size wr o out.length (vals out) ∧ Below w.heap.size w wr) (fun _ i _ => n - (intOf i).toNat)
  case atStart => exact ⟨0, [], Nat.zero_le _, rfl, by simp, H0.out, hown0, hb0⟩
  case round =>
    obtain ⟨k, out, hk, rfl, hol, hsp, hown, hbr⟩ := hrel
    by_cases hlt : k < n
    · obtain ⟨b, off, rfl, c0, c1, c2, c3⟩ := HC.out k hlt wr hbr
      have HSK := Lib.hid (hsp.trans (HST.out k out hlt))
      have HCK : Hid (∀ W, Below w.heap.size w W → W.cell? ⟨b, off + k * 4, none⟩ = some (.int .i64 (l.getD k U.zero).v.ty) ∧ W.cell? ⟨b, off + k * 4 + 1, none⟩ = some (.int .i64 (l.getD k U.zero).v.n) ∧ W.cell? ⟨b, off + k * 4 + 2, none⟩ = some (.string (l.getD k U.zero).v.s) ∧ W.cell? ⟨b, off + k * 4 + 3, none⟩ = some (.int .i64 (l.getD k U.zero).k)) := fun W hW => by
        obtain ⟨_, _, e1, d1⟩ := HC.out k hlt W hW
        cases e1
        exact d1
      generalize l.getD k U.zero = x at c0 c1 c2 c3 HSK HCK
      obtain ⟨⟨t1, n1, s1⟩, q⟩ := x
      simp only at c0 c1 c2 c3 HSK HCK
      clear hsp
      obtain ⟨g, cp, rfl, hg1, hg2, hrow⟩ := hown
      have hown : Own 34 3 w.heap.size wr.heap.size wr (.slice (some ⟨g, 0, none⟩) out.length cp) out.length (vals out) := ⟨g, cp, rfl, hg1, hg2, hrow⟩
      clear hg1 hg2 hrow
      by_cases hq1 : q < 1
      · have HF : Hid (spreadL l = []) := by
          show _ = _
          rw [HE.out, HSK.out, if_neg (by omega)]
          rfl
        have OL := own_lit (e := 34) (size := 3) wr #[] 0 (Nat.zero_le _) rfl
        have BL := hbr.alloc hbr.size (.cells #[] 34)
        have hzz := hbr.size
        clear hown HSK
        generalize out.length = c at *
        go_wp2
        go_ret
        rw [HF.out]
        exact ⟨_, rfl, OL.lower hzz, BL⟩
      by_cases hq2 : 64 - (out.length : Int) < q
      · have HF : Hid (spreadL l = []) := by
          show _ = _
          rw [HE.out, HSK.out, if_neg (by omega)]
          rfl
        have OL := own_lit (e := 34) (size := 3) wr #[] 0 (Nat.zero_le _) rfl
        have BL := hbr.alloc hbr.size (.cells #[] 34)
        have hzz := hbr.size
        clear hown HSK
        generalize out.length = c at *
        go_wp2
        go_ret
        rw [HF.out]
        exact ⟨_, rfl, OL.lower hzz, BL⟩
      obtain ⟨Q, rfl⟩ := Int.eq_ofNat_of_zero_le (show 0 ≤ q by omega)
      rw [if_pos ⟨by omega, by omega⟩, Int.toNat_natCast] at HSK
      have HR0 : Hid (out ++ List.replicate 0 (⟨t1, n1, s1⟩ : V) = out) := by
        show _ = _
        simp
      generalize hcc : out.length = c at hown hq2 hol
      have HCC := Lib.hid hcc
      clear hcc
      go_wp2
      go_loopw [3, 5] (fun o i wr' => ∃ j : Nat, j ≤ Q ∧ i = .int .i64 j ∧ Own 34 3 w.heap.size wr'.heap.size wr' o (c + j) (vals (out ++ List.replicate j ⟨t1, n1, s1⟩)) ∧ Below w.heap.size w wr') (fun _ i _ => Q - (intOf i).toNat)
      case atStart => exact ⟨0, Nat.zero_le _, rfl, by rw [HR0.out]; exact hown, hbr⟩
      case round =>
        obtain ⟨j, hj, rfl, hown2, hbr2⟩ := hrel
        obtain ⟨d0, d1, d2, d3⟩ := HCK.out _ hbr2
        by_cases hjl : j < Q
        · have HVA : Hid (vals (out ++ List.replicate j (⟨t1, n1, s1⟩ : V)) ++ V.cs ⟨t1, n1, s1⟩ = vals (out ++ List.replicate (j + 1) (⟨t1, n1, s1⟩ : V))) := by
            show _ = _
            rw [List.replicate_succ', ← List.append_assoc]
            simp [vals]
          go_wp2_with (at_builtin; refine appendV_law Try.elemVals rfl _ _ rfl _ _ _ _ _ ⟨t1, n1, s1⟩ rfl hown2 rfl (by unfold maxLen; omega) (by omega) ?_)
          intro v3 w3 o3 e3
          have b3 := hbr2.trans (e3.below hown2)
          rw [HVA.out] at o3
          have O3 := Lib.hid o3
          clear o3 e3 hown2 d0 d1 d2 d3 c0 c1 c2 c3
          go_wp2
          go_roundw
          case rel => exact ⟨j + 1, by omega, by go_num, O3.out, b3⟩
          case measure => simp [intOf]; omega
        · obtain rfl : j = Q := by omega
          go_wp2
          go_roundw
          case rel => exact ⟨k + 1, out ++ List.replicate j ⟨t1, n1, s1⟩, by omega, by go_num, by simp [HCC.out]; omega, HSK.out, by simp only [List.length_append, List.length_replicate, HCC.out]; exact hown2, hbr2⟩
          case measure => simp [intOf]; omega
    · obtain rfl : k = n := by omega
      have HF : Hid (spreadL l = out) := by
        show _ = _
        rw [HE.out, hsp, HFN.out]
        rfl
      clear hsp
      go_wp2
      go_ret
      rw [HF.out]
      exact ⟨_, rfl, hown, hbr⟩

end Go.Proofs.Ytcnackecchjckaa
