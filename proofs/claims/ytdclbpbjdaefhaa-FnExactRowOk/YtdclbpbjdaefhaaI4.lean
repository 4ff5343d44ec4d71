/- The contracts of impl's ColsOk, SameRow, SameRows, Column. -/
import Derived.Test.YtdclbpbjdaefhaaLaw4
import Derived.Test.YtdclbpbjdaefhaaIVals
namespace Go.Proofs.Ytdclbpbjdaefhaa
open Go.RowKit

theorem inB12 {z : Int} : Num.inB z 1 2 = true ↔ z = 1 ∨ z = 2 := by
  rw [Num.inB_true]
  omega
theorem colsB_len {zs : List Int} (h : zs.length < 1 ∨ 3 < zs.length) : colsB zs = false := by
  unfold colsB
  rw [Bool.and_eq_false_iff]
  right
  rw [← Bool.not_eq_true, Num.inB_true]
  omega

set_option maxHeartbeats 1000000 in
theorem iColsOk : CColsOk := by
  intro u zs w _ h
  generalize hl : zs.length = n at h
  obtain ⟨a, cap, rfl, hm, HC⟩ := h.ints hl
  unfold maxLen at hm
  have HL := Lib.hid hl
  clear h hl
  by_cases h1 : n < 1
  · have HA : Hid (colsB zs = false) := colsB_len (by rw [HL.out]; exact .inl h1)
    go_enter Try.func11, Try.ntmps11
    go_wp2
    go_ret
    exact ⟨ret_bool HA.out.symm, Below.refl _ _⟩
  by_cases h3 : 3 < n
  · have HA : Hid (colsB zs = false) := colsB_len (by rw [HL.out]; exact .inr h3)
    go_enter Try.func11, Try.ntmps11
    go_wp2
    go_ret
    exact ⟨ret_bool HA.out.symm, Below.refl _ _⟩
  go_enter Try.func11, Try.ntmps11
  go_wp2
  go_loop [15] (fun i => ∃ k : Nat, k ≤ n ∧ i = .int .i64 k ∧ ∀ j, j < k → Num.inB (zs.getD j 0) 1 2 = true) (fun i => n - (intOf i).toNat)
  case atStart => exact ⟨0, Nat.zero_le _, rfl, fun j hj => by omega⟩
  case round =>
    obtain ⟨k, hk, rfl, hok⟩ := hrel
    have HOK := Lib.hid hok
    clear hok
    by_cases hlt : k < n
    · obtain ⟨b, off, rfl, hc⟩ := HC.out k hlt
      have HS : Hid (Num.inB (zs.getD k 0) 1 2 = true → ∀ j, j < k + 1 → Num.inB (zs.getD j 0) 1 2 = true) := fun h j hj => by
        by_cases e : j = k
        · subst e; exact h
        · exact HOK.out j (by omega)
      have HN : Hid (Num.inB (zs.getD k 0) 1 2 = false → colsB zs = false) := colsB_no (by rw [HL.out]; exact hlt)
      generalize zs.getD k 0 = z at hc HS HN
      by_cases z1 : z = 1
      · have HS2 := Lib.hid (HS.out (inB12.2 (.inl z1)))
        subst z1
        clear HS HN
        go_wp2
        go_round
        case rel => exact ⟨k + 1, by omega, by go_num, HS2.out⟩
        case measure => simp [intOf]; omega
      by_cases z2 : z = 2
      · have HS2 := Lib.hid (HS.out (inB12.2 (.inr z2)))
        subst z2
        clear HS HN
        go_wp2
        go_round
        case rel => exact ⟨k + 1, by omega, by go_num, HS2.out⟩
        case measure => simp [intOf]; omega
      · have HN2 := Lib.hid (HN.out (by rw [← Bool.not_eq_true, inB12]; omega))
        have e1 : (z != 1) = true := by simpa using z1
        have e2 : (z != 2) = true := by simpa using z2
        clear HS HN z1 z2
        go_wp2
        go_ret
        exact ⟨ret_bool HN2.out.symm, Below.refl _ _⟩
    · obtain rfl : k = n := by omega
      have HA : Hid (colsB zs = true) := by
        show colsB zs = _
        rw [colsB_all (fun j hj => HOK.out j (by rw [← HL.out]; exact hj)), HL.out, Num.inB_true]
        omega
      go_wp2
      go_ret
      exact ⟨ret_bool HA.out.symm, Below.refl _ _⟩

theorem iSameRow : CSameRow := by
  intro r q u v w _ _ hu hv
  have B0 := below_alloc2 w (.cells #[.int .i64 r.id, u] 38) (.cells #[.int .i64 q.id, v] 38)
  have HF := Lib.hid (iSameValsR u v r.l.length q.l.length r.l q.l _ rfl rfl (hu.below B0) (hv.below B0))
  have HE : Hid (r.eqB q = (r.id == q.id && sameV r.l q.l)) := rfl
  obtain ⟨a1, c1, rfl, _, _⟩ := hu
  obtain ⟨a2, c2, rfl, _, _⟩ := hv
  obtain ⟨i, l⟩ := r
  obtain ⟨j, m⟩ := q
  simp only at HF HE B0
  generalize sameV l m = z at HF HE
  generalize R.eqB ⟨i, l⟩ ⟨j, m⟩ = p at HE ⊢
  generalize l.length = n1 at *
  generalize m.length = n2 at *
  cases hi : (i == j) with
  | true =>
    rw [hi, Bool.true_and] at HE
    go_enter Try.func24, Try.ntmps24
    go_wp2_with fail
    refine HF.out.mono ?_
    rintro e w1 ⟨rfl, b1⟩
    have B1 := below_then B0 b1 B0.size
    clear b1
    go_wp2
    go_ret
    exact ⟨ret_bool HE.out.symm, B1⟩
  | false =>
    rw [hi, Bool.false_and] at HE
    go_enter Try.func24, Try.ntmps24
    go_wp2
    go_ret
    exact ⟨ret_bool HE.out.symm, B0⟩

set_option maxHeartbeats 1000000 in
theorem iEqualRows (u v : Value) (ps qs : List P) (w : World) (h1 : ∀ p ∈ ps, p.1.l.length ≤ 1048576) (h2 : ∀ p ∈ qs, p.1.l.length ≤ 1048576) (hu : RdRs w u ps) (hv : RdRs w v qs) :
    Calls Try.prog 44 #[u, v, .func (.func 24) #[] #[]] w fun e w' => e = .returned (.bool (sameR (ps.map (·.1)) (qs.map (·.1)))) ∧ Below w.heap.size w w' := by
  generalize hl : ps.length = n
  generalize hr : qs.length = m
  obtain ⟨a1, c1, rfl, hm1, HC1⟩ := hu.walk hl
  obtain ⟨a2, c2, rfl, hm2, HC2⟩ := hv.walk hr
  unfold maxLen at hm1 hm2
  have HE : Hid (∀ k, ((ps.map (·.1)).getD k R.zero) = (ps.getD k P.zero).1 ∧ ((qs.map (·.1)).getD k R.zero) = (qs.getD k P.zero).1) := fun k => ⟨(getD_fst ps k).symm, (getD_fst qs k).symm⟩
  have hl' : (ps.map (·.1)).length = n := by simpa using hl
  have hr' : (qs.map (·.1)).length = m := by simpa using hr
  have HB1 : Hid (∀ k, k < n → (ps.getD k P.zero).1.l.length ≤ 1048576) := fun k hk => by
    have hk' : k < ps.length := by omega
    have e : ps.getD k P.zero = ps[k] := by simp [hk']
    rw [e]
    exact h1 _ (List.getElem_mem hk')
  have HB2 : Hid (∀ k, k < m → (qs.getD k P.zero).1.l.length ≤ 1048576) := fun k hk => by
    have hk' : k < qs.length := by omega
    have e : qs.getD k P.zero = qs[k] := by simp [hk']
    rw [e]
    exact h2 _ (List.getElem_mem hk')
  clear hu hv hl hr h1 h2
  generalize ps.map (·.1) = l at HE hl' ⊢
  generalize qs.map (·.1) = r at HE hr' ⊢
  by_cases hnm : n = m
  · subst hnm
    have hne : ((n : Int) != (n : Int)) = false := by simp
    have HL := Lib.hid hl'
    have HR := Lib.hid hr'
    clear hl' hr'
    go_enter Try.func44, Try.ntmps44
    go_wp2
    go_loopw [17] (fun i wr => ∃ k : Nat, k ≤ n ∧ i = .int .i64 k ∧ (∀ j, j < k → (l.getD j R.zero).eqB (r.getD j R.zero) = true) ∧ Below w.heap.size w wr) (fun i _ => n - (intOf i).toNat)
    case atStart => exact ⟨0, Nat.zero_le _, rfl, fun j hj => by omega, Below.refl _ _⟩
    case round =>
      obtain ⟨k, hk, rfl, hok, hbr⟩ := hrel
      have HOK := Lib.hid hok
      clear hok
      by_cases hlt : k < n
      · obtain ⟨b1, o1, rfl, p0, p1, pr⟩ := HC1.out k hlt wr hbr
        obtain ⟨b2, o2, rfl, q0, q1, qr⟩ := HC2.out k hlt wr hbr
        have HS : Hid ((l.getD k R.zero).eqB (r.getD k R.zero) = true → ∀ j, j < k + 1 → (l.getD j R.zero).eqB (r.getD j R.zero) = true) := fun h j hj => by
          by_cases e : j = k
          · subst e; exact h
          · exact HOK.out j (by omega)
        have HN : Hid ((l.getD k R.zero).eqB (r.getD k R.zero) = false → sameR l r = false) := all2_no R.zero R.zero (by rw [HL.out]; exact hlt) (by rw [HL.out, HR.out])
        rw [(HE.out k).1, (HE.out k).2] at HS HN
        have HX := Lib.hid (fun W (hW : Below wr.heap.size wr W) => iSameRow (ps.getD k P.zero).1 (qs.getD k P.zero).1 (ps.getD k P.zero).2 (qs.getD k P.zero).2 W (HB1.out k hlt) (HB2.out k hlt) (pr.below hW) (qr.below hW))
        generalize ps.getD k P.zero = x at p0 p1 pr HS HN HX
        generalize qs.getD k P.zero = y at q0 q1 qr HS HN HX
        obtain ⟨⟨xi, xl⟩, xu⟩ := x
        obtain ⟨⟨yi, yl⟩, yu⟩ := y
        simp only at p0 p1 q0 q1 HS HN HX
        obtain ⟨xa, xc, hxu, _, _⟩ := pr
        obtain ⟨ya, yc, hyu, _, _⟩ := qr
        simp only at hxu hyu
        subst hxu hyu
        have ba := below_alloc wr (.cells #[.int .i64 xi, .slice xa xl.length xc] 38)
        have bb := below_alloc2 wr (.cells #[.int .i64 xi, .slice xa xl.length xc] 38) (.cells #[.int .i64 yi, .slice ya yl.length yc] 38)
        replace q0 := (ba.cell (p := ⟨b2, o2 + k * 2, none⟩) (lt_of_cell q0)).trans q0
        replace q1 := (ba.cell (p := ⟨b2, o2 + k * 2 + 1, none⟩) (lt_of_cell q1)).trans q1
        have HY := Lib.hid (HX.out _ bb)
        have HB := Lib.hid bb
        clear ba bb HX
        generalize xl.length = n1 at *
        generalize yl.length = n2 at *
        cases he : R.eqB ⟨xi, xl⟩ ⟨yi, yl⟩ with
        | true =>
          have HS2 := Lib.hid (HS.out he)
          rw [he] at HY
          clear he HS HN
          go_wp2_with fail
          refine HY.out.mono ?_
          rintro e w2 ⟨rfl, hb2⟩
          have hB' := below_then HB.out hb2 HB.out.size
          clear hb2 HY p0 p1 q0 q1
          go_wp2
          go_roundw
          case rel => exact ⟨k + 1, by omega, by go_num, HS2.out, below_then hbr hB' hbr.size⟩
          case measure => simp [intOf]; omega
        | false =>
          have HN2 := Lib.hid (HN.out he)
          rw [he] at HY
          clear he HS HN
          go_wp2_with fail
          refine HY.out.mono ?_
          rintro e w2 ⟨rfl, hb2⟩
          have hB' := below_then HB.out hb2 HB.out.size
          clear hb2 HY p0 p1 q0 q1
          go_wp2
          go_ret
          exact ⟨ret_bool HN2.out.symm, below_then hbr hB' hbr.size⟩
      · obtain rfl : k = n := by omega
        have HA : Hid (sameR l r = true) := all2_all R.zero R.zero (by rw [HL.out, HR.out]) (fun j hj => HOK.out j (by rw [← HL.out]; exact hj))
        go_wp2
        go_ret
        exact ⟨ret_bool HA.out.symm, hbr⟩
  · have hne : ((n : Int) != (m : Int)) = true := by simp; omega
    have HA : Hid (sameR l r = false) := all2_len (by omega)
    clear hl' hr'
    go_enter Try.func44, Try.ntmps44
    go_wp2
    go_ret
    exact ⟨ret_bool HA.out.symm, Below.refl _ _⟩

theorem iSameRows : CSameRows := by
  intro u v ps qs ls rs w _ _ h1 h2 hu hv e1 e2
  subst e1 e2
  have HF := Lib.hid (iEqualRows u v ps qs w h1 h2 hu hv)
  obtain ⟨⟨a1, c1, rfl, _, _⟩, _⟩ := hu
  obtain ⟨⟨a2, c2, rfl, _, _⟩, _⟩ := hv
  generalize sameR (ps.map (·.1)) (qs.map (·.1)) = z at HF ⊢
  generalize ps.length = n1 at *
  generalize qs.length = n2 at *
  go_enter Try.func28, Try.ntmps28
  go_wp2_with fail
  refine HF.out.mono ?_
  rintro e w1 ⟨rfl, b1⟩
  go_wp2
  go_ret
  exact ⟨rfl, b1⟩

end Go.Proofs.Ytdclbpbjdaefhaa
