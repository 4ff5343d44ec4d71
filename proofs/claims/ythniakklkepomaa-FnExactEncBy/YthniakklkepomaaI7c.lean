/- The contracts of slices.Compact at Vals, and of impl's Dict. -/
import Derived.Test.YthniakklkepomaaI7s
namespace Go.Proofs.Ythniakklkepomaa
open Go.RowKit

theorem run_clear_vals (w : World) (ty : TypeId) (g o n c : Nat) (hn : 0 < n) (hc : ∀ j, j < n * 3 → (w.cell? ⟨g, o + j, none⟩).isSome = true) (hf : ∀ j, j < n * 3 → w.frozen? ⟨g, o + j, none⟩ = false) :
    (Builtin.clear_ #[26] ty #[.slice (some ⟨g, o, none⟩) n c]).run Try.prog w = .ok (.tuple #[]) (w.setCells g o (Builtin.zeroCells V.zero.agg.cells n).toList) := by
  have hzl : (Builtin.zeroCells V.zero.agg.cells n).toList.length = n * 3 := by simp [Builtin.zeroCells, V.zero, Value.cells]
  have hst := run_storeCells_cells (P := Try.prog) g o (Builtin.zeroCells V.zero.agg.cells n).toList 0 w (by rw [hzl]; simpa using hc) (by rw [hzl]; simpa using hf) (by
    intro v hv
    simp [Builtin.zeroCells] at hv
    obtain ⟨a, _, rfl⟩ := hv
    have h4 : V.zero.agg.cells.size = 3 := rfl
    rw [h4]
    have h5 : a % 3 < 3 := Nat.mod_lt _ (by omega)
    generalize a % 3 = q at h5
    match q, h5 with
    | 0, _ => rfl
    | 1, _ => rfl
    | 2, _ => rfl)
  have hv : ∀ W, (zeroValue 41).run Try.prog W = .ok V.zero.agg W := fun W => by
    have hz : Try.t41.zero = some V.zero.agg := by kernel_rfl
    simp [zeroValue, hz]
  simp only [Nat.add_zero] at hst
  obtain ⟨m, rfl⟩ : ∃ m, n = m + 1 := ⟨n - 1, by omega⟩
  simp [Builtin.clear_, run_underlying Try.elemVals.ht, hv, hst]

theorem row_at {w : World} {lo : Nat} {e : TypeId} {g n cap : Nat} {l : List V} (hl : l.length = n) (h : w.ownsRow lo e 3 (.slice (some ⟨g, 0, none⟩) n cap) n (vals l)) {j : Nat} (hj : j < n) :
    w.cell? ⟨g, j * 3, none⟩ = some (.int .i64 (l.getD j V.zero).ty) ∧ w.cell? ⟨g, j * 3 + 1, none⟩ = some (.int .i64 (l.getD j V.zero).n) ∧ w.cell? ⟨g, j * 3 + 2, none⟩ = some (.string (l.getD j V.zero).s) := by
  have hlt : j < l.length := by omega
  have := cells3 (b := g) (off := 0) (fun i u hu => by
    have := h.cells (g := g) rfl i u hu
    rw [addr_add] at this
    exact this) hlt
  rw [getDe l V.zero hlt]
  simpa using this
theorem row_drewN {w : World} {lo : Nat} {e : TypeId} {size : Nat} {v : Value} {n : Nat} {xs : List Value} (h : w.ownsRow lo e size v n xs) (q : Nat) : (w.drewN q).ownsRow lo e size v n xs := h
theorem below_grown {w w' : World} {row : Option Nat} (h : Below w.heap.size w w') : w.grownBy w' row := ⟨h.os, h.tape, h.output, h.size, fun k hk _ => h.block k hk⟩
/-- The slice while it is compacted: its first c elements are what is left of l's first t; from t - 1 on it is as it was. -/
structure Comp (l : List V) (t : Nat) (A : List V) : Prop where
  len : A.length = l.length
  head : A.take (compK l t).length = compK l t
  tail : ∀ j, t ≤ j + 1 → A.getD j V.zero = l.getD j V.zero
  short : (compK l t).length + 1 ≤ t
theorem comp_start {l : List V} {k : Nat} (hk : 0 < k) (hl : k < l.length) (ha : ∀ i, 0 < i → i < k → (l.getD i V.zero).eqB (l.getD (i - 1) V.zero) = false) (he : (l.getD k V.zero).eqB (l.getD (k - 1) V.zero) = true) :
    Comp l (k + 1) l ∧ (compK l (k + 1)).length = k := by
  have e1 : compK l (k + 1) = l.take k := by
    rw [compK, if_neg, compK_all (by omega) ha]
    rintro (h | h)
    · omega
    · rw [h] at he; cases he
  have e2 : (l.take k).length = k := by simp; omega
  refine ⟨⟨rfl, by rw [e1, e2], fun _ _ => rfl, by rw [e1, e2]; omega⟩, by rw [e1, e2]⟩
theorem comp_same {l A : List V} {t : Nat} (h : Comp l t A) (h0 : 0 < t) (he : (l.getD t V.zero).eqB (l.getD (t - 1) V.zero) = true) : Comp l (t + 1) A ∧ (compK l (t + 1)).length = (compK l t).length := by
  have e1 : compK l (t + 1) = compK l t := by
    rw [compK, if_neg]
    rintro (h | h)
    · omega
    · rw [h] at he; cases he
  refine ⟨⟨h.len, by rw [e1]; exact h.head, fun j hj => h.tail j (by omega), by rw [e1]; have := h.short; omega⟩, by rw [e1]⟩
theorem comp_next {l A : List V} {t : Nat} (h : Comp l t A) (ht : t < l.length) (he : (l.getD t V.zero).eqB (l.getD (t - 1) V.zero) = false) : Comp l (t + 1) (A.set (compK l t).length (l.getD t V.zero)) ∧ (compK l (t + 1)).length = (compK l t).length + 1 := by
  have e1 : compK l (t + 1) = compK l t ++ [l.getD t V.zero] := by
    rw [compK, if_pos (.inr he)]
  have hs := h.short
  have hlen := h.len
  have hc : (compK l t).length < A.length := by omega
  refine ⟨⟨by simp [hlen], ?_, fun j hj => ?_, by rw [e1]; simp; omega⟩, by rw [e1]; simp⟩
  · rw [e1, List.length_append, List.length_singleton, List.take_succ_eq_append_getElem (by simpa using hc), List.take_set_of_le (Nat.le_refl _), h.head]
    simp
  · have h2 := h.tail j (by omega)
    simp only [List.getD_eq_getElem?_getD, List.getElem?_set] at h2 ⊢
    rw [if_neg (by omega)]
    exact h2

set_option maxRecDepth 100000 in
set_option maxHeartbeats 4000000 in
theorem iCompact {w : World} {lo : Nat} {g n cap : Nat} {l : List V} (hn : n ≤ 1048576) (hl : l.length = n) (hcap : n ≤ cap) (hcm : cap ≤ maxLen) (h : w.ownsRow lo 41 3 (.slice (some ⟨g, 0, none⟩) n cap) n (vals l)) :
    Calls Try.prog 76 #[.slice (some ⟨g, 0, none⟩) n cap] w fun e w' =>
      e = .returned (.slice (some ⟨g, 0, none⟩) (compK l n).length cap) ∧ w'.ownsRow lo 41 3 (.slice (some ⟨g, 0, none⟩) (compK l n).length cap) (compK l n).length (vals (compK l n)) ∧ w.grownBy w' (some g) := by
  have HL := Lib.hid hl
  have HALL : Hid ((∀ i, 0 < i → i < n → (l.getD i V.zero).eqB (l.getD (i - 1) V.zero) = false) → compK l n = l) := fun h1 => by
    rw [compK_all (by omega) h1, ← hl, List.take_length]
  unfold maxLen at hcm
  by_cases h2 : n < 2
  · have HE := Lib.hid (HALL.out (fun i h0 h1 => by omega))
    rw [HE.out, hl]
    clear hl
    go_enter Try.func76, Try.ntmps76
    go_wp2
    go_ret
    exact ⟨rfl, h, grownBy_refl _ _⟩
  · generalize hR : compK l n = R at HALL
    have HR := Lib.hid hR
    clear hl hR
    go_enter Try.func76, Try.ntmps76
    go_wp2
    go_loopw [3] (fun i wr => ∃ k : Nat, 0 < k ∧ k ≤ n ∧ i = .int .i64 k ∧ (∀ i, 0 < i → i < k → (l.getD i V.zero).eqB (l.getD (i - 1) V.zero) = false) ∧ wr.ownsRow lo 41 3 (.slice (some ⟨g, 0, none⟩) n cap) n (vals l) ∧ w.grownBy wr (some g)) (fun i _ => n - (intOf i).toNat)
    case atStart => exact ⟨1, by omega, by omega, rfl, fun i h0 h1 => by omega, h, grownBy_refl _ _⟩
    case round =>
      obtain ⟨k, hk0, hk, rfl, hno, hrow, hgr⟩ := hrel
      have HNO := Lib.hid hno
      clear hno
      by_cases hlt : k < n
      · obtain ⟨K, rfl⟩ : ∃ K, k = K + 1 := ⟨k - 1, by omega⟩
        have HC : Hid (∀ j, j < n → wr.cell? ⟨g, j * 3, none⟩ = some (.int .i64 (l.getD j V.zero).ty) ∧ wr.cell? ⟨g, j * 3 + 1, none⟩ = some (.int .i64 (l.getD j V.zero).n) ∧ wr.cell? ⟨g, j * 3 + 2, none⟩ = some (.string (l.getD j V.zero).s)) := fun j hj => row_at HL.out hrow hj
        obtain ⟨p0, p1, p2⟩ := HC.out (K + 1) hlt
        obtain ⟨q0, q1, q2⟩ := HC.out K (by omega)
        have hq := fun W => run_eql_val (l.getD (K + 1) V.zero) (l.getD K V.zero) W
        have HNK : Hid ((l.getD (K + 1) V.zero).eqB (l.getD K V.zero) = false → ∀ i, 0 < i → i < K + 2 → (l.getD i V.zero).eqB (l.getD (i - 1) V.zero) = false) := fun h1 i h0 hi => by
          by_cases e : i = K + 1
          · subst e; exact h1
          · exact HNO.out i h0 (by omega)
        have HST : Hid ((l.getD (K + 1) V.zero).eqB (l.getD K V.zero) = true → Comp l (K + 2) l ∧ (compK l (K + 2)).length = K + 1) := fun h1 => comp_start (by omega) (by rw [HL.out]; exact hlt) HNO.out h1
        have hKw : ((K : Int) + 1 - 1) = (K : Int) := by omega
        generalize l.getD (K + 1) V.zero = y at p0 p1 p2 hq HNK HST
        generalize l.getD K V.zero = x at q0 q1 q2 hq HNK HST
        obtain ⟨xt, xn, xs⟩ := x
        obtain ⟨yt, yn, ys⟩ := y
        simp only at p0 p1 p2 q0 q1 q2
        have ROW := Lib.hid hrow
        cases he : V.eqB ⟨yt, yn, ys⟩ ⟨xt, xn, xs⟩ with
        | false =>
          have HS := Lib.hid (HNK.out he)
          rw [he] at hq
          clear he HNK HST hrow
          go_wp2
          go_quiet (fail)
          go_wp2
          go_roundw
          case rel => exact ⟨K + 2, by omega, by omega, by go_num, HS.out, row_drewN ROW.out _, hgr.trans (below_grown (below_drewN _ _ _))⟩
          case measure => simp [intOf]; omega
        | true =>
          obtain ⟨hst, hstl⟩ := HST.out he
          have HS := Lib.hid hst
          have HSL := Lib.hid hstl
          rw [he] at hq
          have hck : (cap = K + 1) = False := by simp; omega
          clear he HNK HST hrow hst hstl HC
          go_wp2
          go_quiet (fail)
          go_wp2
          have ROW2 := Lib.hid (row_drewN ROW.out nq)
          have hgr2 : w.grownBy (wr.drewN nq) (some g) := hgr.trans (below_grown (below_drewN _ _ _))
          generalize wr.drewN nq = W5 at ROW2 hgr2 ⊢
          clear ROW hgr p0 p1 p2 q0 q1 q2 hq hKw
          go_loopw [3, 5] (fun a b wr => ∃ (j : Nat) (A : List V), 0 < j ∧ j ≤ n - (K + 1) ∧ a = .int .i64 ((compK l (K + 1 + j)).length : Nat) ∧ b = .int .i64 j ∧ Comp l (K + 1 + j) A ∧ wr.ownsRow lo 41 3 (.slice (some ⟨g, 0, none⟩) n cap) n (vals A) ∧ w.grownBy wr (some g)) (fun _ b _ => n - (intOf b).toNat)
          case atStart => exact ⟨1, l, by omega, by omega, by rw [HSL.out], rfl, HS.out, ROW2.out, hgr2⟩
          case round =>
            obtain ⟨j, A, hj0, hj, rfl, rfl, hcomp, hrow, hgr⟩ := hrel
            have hcl := hcomp.short
            have HAL : Hid (A.length = n) := hcomp.len.trans HL.out
            clear HS HSL ROW2 hgr2
            by_cases hjl : j < n - (K + 1)
            · obtain ⟨J, rfl⟩ : ∃ J, j = J + 1 := ⟨j - 1, by omega⟩
              obtain ⟨p0, p1, p2⟩ := row_at HAL.out hrow (j := K + 1 + (J + 1)) (by omega)
              obtain ⟨q0, q1, q2⟩ := row_at HAL.out hrow (j := K + 1 + J) (by omega)
              rw [hcomp.tail (K + 1 + (J + 1)) (by omega), show (K + 1 + (J + 1)) * 3 = (K + 1) * 3 + (J + 1) * 3 by omega] at p0
              rw [hcomp.tail (K + 1 + (J + 1)) (by omega), show (K + 1 + (J + 1)) * 3 = (K + 1) * 3 + (J + 1) * 3 by omega] at p1
              rw [hcomp.tail (K + 1 + (J + 1)) (by omega), show (K + 1 + (J + 1)) * 3 = (K + 1) * 3 + (J + 1) * 3 by omega] at p2
              rw [hcomp.tail (K + 1 + J) (by omega), show (K + 1 + J) * 3 = (K + 1) * 3 + J * 3 by omega] at q0
              rw [hcomp.tail (K + 1 + J) (by omega), show (K + 1 + J) * 3 = (K + 1) * 3 + J * 3 by omega] at q1
              rw [hcomp.tail (K + 1 + J) (by omega), show (K + 1 + J) * 3 = (K + 1) * 3 + J * 3 by omega] at q2
              have hq := fun W => run_neq_val (l.getD (K + 1 + (J + 1)) V.zero) (l.getD (K + 1 + J) V.zero) W
              have HSAME : Hid ((l.getD (K + 1 + (J + 1)) V.zero).eqB (l.getD (K + 1 + J) V.zero) = true → Comp l (K + 1 + (J + 2)) A ∧ (compK l (K + 1 + (J + 2))).length = (compK l (K + 1 + (J + 1))).length) := fun h1 => comp_same (t := K + 1 + (J + 1)) hcomp (by omega) h1
              have HNEXT : Hid ((l.getD (K + 1 + (J + 1)) V.zero).eqB (l.getD (K + 1 + J) V.zero) = false → Comp l (K + 1 + (J + 2)) (A.set (compK l (K + 1 + (J + 1))).length (l.getD (K + 1 + (J + 1)) V.zero)) ∧ (compK l (K + 1 + (J + 2))).length = (compK l (K + 1 + (J + 1))).length + 1) := fun h1 => comp_next (t := K + 1 + (J + 1)) hcomp (by rw [HL.out]; omega) h1
              generalize l.getD (K + 1 + (J + 1)) V.zero = y at p0 p1 p2 hq HSAME HNEXT
              generalize l.getD (K + 1 + J) V.zero = x at q0 q1 q2 hq HSAME HNEXT
              generalize hcc : (compK l (K + 1 + (J + 1))).length = c at HSAME HNEXT hcl ⊢
              obtain ⟨xt, xn, xs⟩ := x
              obtain ⟨yt, yn, ys⟩ := y
              simp only at p0 p1 p2 q0 q1 q2
              have hJw : ((J : Int) + 1 - 1) = (J : Int) := by omega
              have HCOMP := Lib.hid hcomp
              have ROW := Lib.hid hrow
              clear hcomp hcc
              cases he : V.eqB ⟨yt, yn, ys⟩ ⟨xt, xn, xs⟩ with
              | true =>
                obtain ⟨m1, m2⟩ := HSAME.out he
                have M1 := Lib.hid m1
                have M2 := Lib.hid m2
                rw [he] at hq
                clear he HSAME HNEXT hrow m1 m2
                go_wp2
                go_quiet (fail)
                go_wp2
                go_roundw
                case rel => exact ⟨J + 2, A, by omega, by omega, by rw [M2.out], by go_num, M1.out, row_drewN ROW.out _, hgr.trans (below_grown (below_drewN _ _ _))⟩
                case measure => simp [intOf]; omega
              | false =>
                obtain ⟨m1, m2⟩ := HNEXT.out he
                have M1 := Lib.hid m1
                have M2 := Lib.hid m2
                rw [he] at hq
                clear he HSAME HNEXT hrow m1 m2
                go_wp2
                go_quiet (fail)
                have row2 := row_drewN ROW.out nq
                have hgr2 : w.grownBy (wr.drewN nq) (some g) := hgr.trans (below_grown (below_drewN _ _ _))
                replace p0 : (wr.drewN nq).cell? ⟨g, (K + 1) * 3 + (J + 1) * 3, none⟩ = some (.int .i64 yt) := p0
                replace p1 : (wr.drewN nq).cell? ⟨g, (K + 1) * 3 + (J + 1) * 3 + 1, none⟩ = some (.int .i64 yn) := p1
                replace p2 : (wr.drewN nq).cell? ⟨g, (K + 1) * 3 + (J + 1) * 3 + 2, none⟩ = some (.string ys) := p2
                generalize wr.drewN nq = W6 at row2 hgr2 p0 p1 p2 ⊢
                have R := Lib.hid (stored3 row2 c ⟨yt, yn, ys⟩ (by rw [HAL.out]; omega))
                obtain ⟨x0, s0⟩ := cellAt_some row2 (c * 3) (by omega)
                obtain ⟨x1, s1⟩ := cellAt_some row2 (c * 3 + 1) (by omega)
                obtain ⟨x2, s2⟩ := cellAt_some row2 (c * 3 + 2) (by omega)
                have f0 := row2.frozenAt (c * 3)
                have f1 := row2.frozenAt (c * 3 + 1)
                have f2 := row2.frozenAt (c * 3 + 2)
                have HG2 := Lib.hid hgr2
                clear row2 hgr hgr2 ROW q0 q1 q2 hq
                go_wp2
                go_roundw
                case rel => exact ⟨J + 2, _, by omega, by omega, by rw [M2.out]; go_num, by go_num, M1.out, R.out.1, HG2.out.trans R.out.2⟩
                case measure => simp [intOf]; omega
            · obtain rfl : j = n - (K + 1) := by omega
              rw [show K + 1 + (n - (K + 1)) = n by omega] at hcomp hcl ⊢
              have HTK : Hid ((vals A).take ((compK l n).length * 3) = vals (compK l n)) := by
                show _ = _
                rw [← vals_take, hcomp.head]
              rw [HR.out] at HTK hcl ⊢
              have r0 := hrow
              obtain ⟨ys, r1, r2, r3⟩ := row_cells (Builtin.zeroCells V.zero.agg.cells (n - R.length)).toList (R.length * 3) wr _ r0
              have R1 := row_shorter r1 (m := R.length) (by omega)
              rw [r2, HTK.out] at R1
              have RR := Lib.hid R1
              have R3 := Lib.hid (hgr.trans r3)
              have hcl2 : ∀ ty, (Builtin.clear_ #[26] ty #[.slice (some ⟨g, R.length * 3, none⟩) (n - R.length) (cap - R.length)]).run Try.prog wr = .ok (.tuple #[]) (wr.setCells g (R.length * 3) (Builtin.zeroCells V.zero.agg.cells (n - R.length)).toList) := fun ty => run_clear_vals wr ty g (R.length * 3) (n - R.length) (cap - R.length) (by omega) (fun j hj => by
                obtain ⟨x, hx⟩ := cellAt_some r0 (R.length * 3 + j) (by omega)
                rw [hx]
                rfl) (fun j hj => r0.frozenAt _)
              generalize wr.setCells g (R.length * 3) (Builtin.zeroCells V.zero.agg.cells (n - R.length)).toList = wc at RR R3 hcl2
              have hc1 : (cap = R.length) = False := by simp; omega
              have hc2 : (cap < R.length) = False := by simp; omega
              clear r0 r1 r2 r3 R1 hrow hgr hcomp HTK
              generalize hRc : R.length = c at hcl hcl2 RR hc1 hc2 ⊢
              have HRC := Lib.hid hRc
              clear hRc
              go_wp2
              go_ret
              obtain rfl := HRC.out
              exact ⟨rfl, RR.out, R3.out⟩
      · obtain rfl : k = n := by omega
        have HE := Lib.hid (HALL.out HNO.out)
        go_wp2
        go_ret
        rw [HE.out, HL.out]
        exact ⟨rfl, hrow, hgr⟩

end Go.Proofs.Ythniakklkepomaa
