/- The contracts of the model's chapter 4, more: RowOk, SameRow, SameRows, Column. -/
import Derived.Test.YtdclbpbjdaefhaaS4
namespace Go.Proofs.Ytdclbpbjdaefhaa
open Go.RowKit

/-- RowOk. -/
def rowB (zs : List Int) (r : R) : Bool := decide (0 ≤ r.id) && fitsB zs r.l
theorem sRowOk (u v : Value) (zs : List Int) (r : R) (w : World) (hss : ∀ v ∈ r.l, v.s.size ≤ maxLen) (h : Rd 1 w u zs.length (ints .i64 zs)) (h2 : r.rd w v) :
    Calls Try.prog 19 #[u, r.agg v] w fun e w' => e = .returned (.bool (rowB zs r)) ∧ Below w.heap.size w w' := by
  have B0 := below_alloc w (.cells #[.int .i64 r.id, v] 38)
  have HF := Lib.hid (sFitsCols u v zs r.l _ hss (h.below B0) (h2.below B0))
  have HE : Hid (rowB zs r = (decide (0 ≤ r.id) && fitsB zs r.l)) := rfl
  obtain ⟨a1, c1, rfl, _, _⟩ := h
  obtain ⟨a2, c2, rfl, _, _⟩ := h2
  obtain ⟨i, l⟩ := r
  simp only at HF HE B0
  generalize fitsB zs l = q at HF HE
  generalize rowB zs ⟨i, l⟩ = p at HE ⊢
  generalize l.length = m at *
  generalize zs.length = n at *
  by_cases hi : 0 ≤ i
  · rw [decide_eq_true hi, Bool.true_and] at HE
    go_enter Try.func19, Try.ntmps19
    go_wp2_with fail
    refine HF.out.mono ?_
    rintro e w1 ⟨rfl, b1⟩
    have B1 := below_then B0 b1 B0.size
    clear b1
    go_wp2
    go_ret
    exact ⟨ret_bool HE.out.symm, B1⟩
  · rw [decide_eq_false hi, Bool.false_and] at HE
    go_enter Try.func19, Try.ntmps19
    go_wp2
    go_ret
    exact ⟨ret_bool HE.out.symm, B0⟩

/-- SameRow. -/
def R.eqB (a b : R) : Bool := a.id == b.id && sameV a.l b.l
theorem sSameRow (r q : R) (u v : Value) (w : World) (hu : r.rd w u) (hv : q.rd w v) :
    Calls Try.prog 23 #[r.agg u, q.agg v] w fun e w' => e = .returned (.bool (r.eqB q)) ∧ Below w.heap.size w w' := by
  have B0 := below_alloc2 w (.cells #[.int .i64 r.id, u] 38) (.cells #[.int .i64 q.id, v] 38)
  have HF := Lib.hid (sSameValsR u v r.l.length q.l.length r.l q.l _ rfl rfl (hu.below B0) (hv.below B0))
  have HE : Hid (r.eqB q = (r.id == q.id && sameV r.l q.l)) := rfl
  obtain ⟨a1, c1, rfl, _, _⟩ := hu
  obtain ⟨a2, c2, rfl, _, _⟩ := hv
  obtain ⟨i, l⟩ := r
  obtain ⟨j, m⟩ := q
  simp only at HF HE B0
  generalize sameV l m = z at HF HE
  generalize R.eqB ⟨i, l⟩ ⟨j, m⟩ = p at HE ⊢
  generalize l.length = n1 at *
  generalize m.length = n2 at *
  cases hi : (i == j) with
  | true =>
    rw [hi, Bool.true_and] at HE
    go_enter Try.func23, Try.ntmps23
    go_wp2_with fail
    refine HF.out.mono ?_
    rintro e w1 ⟨rfl, b1⟩
    have B1 := below_then B0 b1 B0.size
    clear b1
    go_wp2
    go_ret
    exact ⟨ret_bool HE.out.symm, B1⟩
  | false =>
    rw [hi, Bool.false_and] at HE
    go_enter Try.func23, Try.ntmps23
    go_wp2
    go_ret
    exact ⟨ret_bool HE.out.symm, B0⟩

/-- SameRows. -/
def sameR (l r : List R) : Bool := all2 R.eqB l r
def R.zero : R := ⟨0, []⟩

set_option maxHeartbeats 1000000 in
theorem sSameRows (u v : Value) (ps qs : List P) (w : World) (hu : RdRs w u ps) (hv : RdRs w v qs) :
    Calls Try.prog 26 #[u, v] w fun e w' => e = .returned (.bool (sameR (ps.map (·.1)) (qs.map (·.1)))) ∧ Below w.heap.size w w' := by
  generalize hl : ps.length = n
  generalize hr : qs.length = m
  obtain ⟨a1, c1, rfl, hm1, HC1⟩ := hu.walk hl
  obtain ⟨a2, c2, rfl, hm2, HC2⟩ := hv.walk hr
  unfold maxLen at hm1 hm2
  have HE : Hid (∀ k, ((ps.map (·.1)).getD k R.zero) = (ps.getD k P.zero).1 ∧ ((qs.map (·.1)).getD k R.zero) = (qs.getD k P.zero).1) := fun k => ⟨(getD_fst ps k).symm, (getD_fst qs k).symm⟩
  have hl' : (ps.map (·.1)).length = n := by simpa using hl
  have hr' : (qs.map (·.1)).length = m := by simpa using hr
  clear hu hv hl hr
  generalize ps.map (·.1) = l at HE hl' ⊢
  generalize qs.map (·.1) = r at HE hr' ⊢
  by_cases hnm : n = m
  · subst hnm
    have hne : ((n : Int) != (n : Int)) = false := by simp
    have HL := Lib.hid hl'
    have HR := Lib.hid hr'
    clear hl' hr'
    go_enter Try.func26, Try.ntmps26
    go_wp2
    go_loopw [5] (fun i wr => ∃ k : Nat, k ≤ n ∧ i = .int .i64 k ∧ (∀ j, j < k → (l.getD j R.zero).eqB (r.getD j R.zero) = true) ∧ Below w.heap.size w wr) (fun i _ => n - (intOf i).toNat)
    case atStart => exact ⟨0, Nat.zero_le _, rfl, fun j hj => by omega, Below.refl _ _⟩
    case round =>
      obtain ⟨k, hk, rfl, hok, hbr⟩ := hrel
      have HOK := Lib.hid hok
      clear hok
      by_cases hlt : k < n
      · obtain ⟨b1, o1, rfl, p0, p1, pr⟩ := HC1.out k hlt wr hbr
        obtain ⟨b2, o2, rfl, q0, q1, qr⟩ := HC2.out k hlt wr hbr
        have HS : Hid ((l.getD k R.zero).eqB (r.getD k R.zero) = true → ∀ j, j < k + 1 → (l.getD j R.zero).eqB (r.getD j R.zero) = true) := fun h j hj => by
          by_cases e : j = k
          · subst e; exact h
          · exact HOK.out j (by omega)
        have HN : Hid ((l.getD k R.zero).eqB (r.getD k R.zero) = false → sameR l r = false) := all2_no R.zero R.zero (by rw [HL.out]; exact hlt) (by rw [HL.out, HR.out])
        rw [(HE.out k).1, (HE.out k).2] at HS HN
        have HX := Lib.hid (fun W (hW : Below wr.heap.size wr W) => sSameRow (ps.getD k P.zero).1 (qs.getD k P.zero).1 (ps.getD k P.zero).2 (qs.getD k P.zero).2 W (pr.below hW) (qr.below hW))
        generalize ps.getD k P.zero = x at p0 p1 pr HS HN HX
        generalize qs.getD k P.zero = y at q0 q1 qr HS HN HX
        obtain ⟨⟨xi, xl⟩, xu⟩ := x
        obtain ⟨⟨yi, yl⟩, yu⟩ := y
        simp only at p0 p1 q0 q1 HS HN HX
        clear pr qr
        have HK : Hid (∀ W, Below wr.heap.size wr W → W.cell? ⟨b1, o1 + k * 2, none⟩ = some (.int .i64 xi) ∧ W.cell? ⟨b1, o1 + k * 2 + 1, none⟩ = some xu ∧ W.cell? ⟨b2, o2 + k * 2, none⟩ = some (.int .i64 yi) ∧ W.cell? ⟨b2, o2 + k * 2 + 1, none⟩ = some yu) := fun W h =>
          ⟨(h.cell (p := ⟨b1, o1 + k * 2, none⟩) (lt_of_cell p0)).trans p0, (h.cell (p := ⟨b1, o1 + k * 2 + 1, none⟩) (lt_of_cell p1)).trans p1, (h.cell (p := ⟨b2, o2 + k * 2, none⟩) (lt_of_cell q0)).trans q0, (h.cell (p := ⟨b2, o2 + k * 2 + 1, none⟩) (lt_of_cell q1)).trans q1⟩
        have hB' := (Below.refl wr.heap.size wr).drew
        clear p0 p1 q0 q1
        cases he : R.eqB ⟨xi, xl⟩ ⟨yi, yl⟩ with
        | true =>
          have HS2 := Lib.hid (HS.out he)
          rw [he] at HX
          clear he HS HN
          go_wp2
          go_region_held3 (fun W => W.cell? ⟨b1, o1 + k * 2, none⟩ = some (.int .i64 xi) ∧ W.cell? ⟨b1, o1 + k * 2 + 1, none⟩ = some xu ∧ W.cell? ⟨b2, o2 + k * 2, none⟩ = some (.int .i64 yi) ∧ W.cell? ⟨b2, o2 + k * 2 + 1, none⟩ = some yu) (exact HK.out _ hB') ((go_at_call 23; (with_reducible refine (HX.out _ hB').mono ?_); rintro e w2 ⟨rfl, hb2⟩; replace hB' := below_then hB' hb2 hB'.size))
          go_wp2
          go_roundw
          case rel => exact ⟨k + 1, by omega, by go_num, HS2.out, below_then hbr hB' hbr.size⟩
          case measure => simp [intOf]; omega
        | false =>
          have HN2 := Lib.hid (HN.out he)
          rw [he] at HX
          clear he HS HN
          go_wp2
          go_region_held3 (fun W => W.cell? ⟨b1, o1 + k * 2, none⟩ = some (.int .i64 xi) ∧ W.cell? ⟨b1, o1 + k * 2 + 1, none⟩ = some xu ∧ W.cell? ⟨b2, o2 + k * 2, none⟩ = some (.int .i64 yi) ∧ W.cell? ⟨b2, o2 + k * 2 + 1, none⟩ = some yu) (exact HK.out _ hB') ((go_at_call 23; (with_reducible refine (HX.out _ hB').mono ?_); rintro e w2 ⟨rfl, hb2⟩; replace hB' := below_then hB' hb2 hB'.size))
          go_wp2
          go_ret
          exact ⟨ret_bool HN2.out.symm, below_then hbr hB' hbr.size⟩
      · obtain rfl : k = n := by omega
        have HA : Hid (sameR l r = true) := all2_all R.zero R.zero (by rw [HL.out, HR.out]) (fun j hj => HOK.out j (by rw [← HL.out]; exact hj))
        go_wp2
        go_ret
        exact ⟨ret_bool HA.out.symm, hbr⟩
  · have hne : ((n : Int) != (m : Int)) = true := by simp; omega
    have HA : Hid (sameR l r = false) := all2_len (by omega)
    clear hl' hr'
    go_enter Try.func26, Try.ntmps26
    go_wp2
    go_ret
    exact ⟨ret_bool HA.out.symm, Below.refl _ _⟩

/-- Column. -/
def colR (l : List R) (k : Int) : List V := l.filterMap fun r => if Num.inB k 0 ((r.l.length : Int) - 1) = true then r.l[k.toNat]? else none
theorem colR_le (l : List R) (k : Int) : (colR l k).length ≤ l.length := List.length_filterMap_le _ _
theorem colR_snoc (l : List R) (r : R) (k : Int) : colR (l ++ [r]) k = colR l k ++ (if Num.inB k 0 ((r.l.length : Int) - 1) = true then r.l[k.toNat]? else none).toList := by
  unfold colR
  rw [List.filterMap_append]
  congr 1

set_option maxHeartbeats 1000000 in
theorem sColumn (u : Value) (ps : List P) (k : Int) (w : World) (hn : ps.length ≤ 1048576) (h : RdRs w u ps) :
    Calls Try.prog 30 #[u, .int .i64 k] w fun e w' => ∃ v', e = .returned v' ∧ Own 58 3 w.heap.size w'.heap.size w' v' (colR (ps.map (·.1)) k).length (vals (colR (ps.map (·.1)) k)) ∧ Below w.heap.size w w' := by
  have hown0 := own_lit (e := 58) (size := 3) w #[] 0 (Nat.zero_le _) rfl
  have hb0 := below_alloc w (.cells #[] 58)
  generalize hl : ps.length = n at hn
  obtain ⟨a, cap, rfl, _, HC⟩ := h.walk hl
  have hl' : (ps.map (·.1)).length = n := by simpa using hl
  have HE : Hid (∀ j, ((ps.map (·.1)).getD j R.zero) = (ps.getD j P.zero).1) := fun j => (getD_fst ps j).symm
  clear h hl
  generalize ps.map (·.1) = l at HE hl' ⊢
  have HL := Lib.hid hl'
  have HT : Hid (∀ j, j < n → colR (l.take (j + 1)) k = colR (l.take j) k ++ (if Num.inB k 0 (((ps.getD j P.zero).1.l.length : Int) - 1) = true then (ps.getD j P.zero).1.l[k.toNat]? else none).toList) := fun j hj => by
    have hj' : j < l.length := by omega
    rw [List.take_succ_eq_append_getElem hj', colR_snoc, ← HE.out j]
    simp [hj']
  have HLE : Hid (∀ j, j ≤ n → (colR (l.take j) k).length ≤ j) := fun j hj => Nat.le_trans (colR_le _ _) (by simp; omega)
  clear hl'
  go_enter Try.func30, Try.ntmps30
  go_wp2
  go_loopw [5, 6] (fun o i wr => ∃ j : Nat, j ≤ n ∧ i = .int .i64 j ∧ Own 58 3 w.heap.size wr.heap.size wr o (colR (l.take j) k).length (vals (colR (l.take j) k)) ∧ Below w.heap.size w wr) (fun _ i _ => n - (intOf i).toNat)
  case atStart => exact ⟨0, Nat.zero_le _, rfl, hown0, hb0⟩
  case round =>
    obtain ⟨j, hj, rfl, hown, hbr⟩ := hrel
    by_cases hlt : j < n
    · obtain ⟨b, off, rfl, c0, c1, hr⟩ := HC.out j hlt wr hbr
      have HTJ := Lib.hid (HT.out j hlt)
      have hcl := HLE.out j (by omega)
      generalize ps.getD j P.zero = p at c0 c1 hr HTJ
      obtain ⟨⟨i, rl⟩, ru⟩ := p
      simp only at c0 c1 HTJ
      have HR := Lib.hid hr
      obtain ⟨a', cap', hu, hmx, hx⟩ := hr
      simp only at hu hmx hx
      subst hu
      have HI := Lib.hid (fun W => l1In k 0 ((rl.length : Int) - 1) W)
      unfold maxLen at hmx
      cases hin : Num.inB k 0 ((rl.length : Int) - 1) with
      | false =>
        rw [hin] at HI HTJ
        rw [if_neg (by simp), Option.toList_none, List.append_nil] at HTJ
        clear hin hx HR
        generalize rl.length = m at *
        go_wp2_with (go_at_call 35; refine (HI.out _).mono ?_; rintro e w' ⟨rfl, rfl⟩)
        go_roundw
        case rel => exact ⟨j + 1, by omega, by go_num, by rw [HTJ.out]; exact hown, hbr⟩
        case measure => simp [intOf]; omega
      | true =>
        obtain ⟨k0, k1⟩ := Num.inB_true.1 hin
        rw [hin] at HI HTJ
        obtain ⟨K, rfl⟩ := Int.eq_ofNat_of_zero_le k0
        have hK : K < rl.length := by omega
        rw [if_pos rfl, Int.toNat_natCast, List.getElem?_eq_getElem hK, Option.toList_some] at HTJ
        obtain ⟨b', o', rfl, hc⟩ : ∃ b off, a' = some ⟨b, off, none⟩ ∧ ∀ j u, (vals rl)[j]? = some u → wr.cell? ⟨b, off + j, none⟩ = some u := by
          rcases hx.2 with h0 | h0
          · omega
          · exact h0
        obtain ⟨d0, d1, d2⟩ := cells3 hc hK
        generalize rl[K] = x at d0 d1 d2 HTJ
        have HVA : Hid (vals (colR (l.take j) K) ++ x.cs = vals (colR (l.take j) K ++ [x])) := by
          show _ = _
          simp [vals]
        have HLN : Hid ((colR (l.take j) K ++ [x]).length = (colR (l.take j) K).length + 1) := by
          show _ = _
          simp
        clear hin hx HR hc
        generalize rl.length = m at *
        generalize colR (l.take j) K = C at *
        generalize C.length = c at *
        obtain ⟨xt, xn, xs⟩ := x
        simp only at d0 d1 d2
        go_wp2_with (first | (go_at_call 35; refine (HI.out _).mono ?_; rintro e w' ⟨rfl, rfl⟩) | (at_builtin; refine appendV_law Try.elemVals rfl _ _ rfl _ _ _ _ _ ⟨xt, xn, xs⟩ rfl hown rfl (by unfold maxLen; omega) (by omega) ?_))
        intro v3 w3 o3 e3
        have b3 := hbr.trans (e3.below hown)
        rw [HVA.out] at o3
        have O3 := Lib.hid o3
        clear o3 e3 hown d0 d1 d2 c0 c1
        go_wp2
        go_roundw
        case rel => exact ⟨j + 1, by omega, by go_num, by rw [HTJ.out, HLN.out]; exact O3.out, b3⟩
        case measure => simp [intOf]; omega
    · obtain rfl : j = n := by omega
      rw [← HL.out, List.take_length] at hown
      go_wp2
      go_ret
      exact ⟨_, rfl, hown, hbr⟩

end Go.Proofs.Ytdclbpbjdaefhaa
