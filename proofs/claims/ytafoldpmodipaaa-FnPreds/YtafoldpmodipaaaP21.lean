/- Texts of this claim, one behind the other: M11b. -/
import Derived.Test.YtafoldpmodipaaaP15
import Derived.Test.YtafoldpmodipaaaP20
import Derived.Test.YtafoldpmodipaaaP16

/- Plain mathematics of chapter 11: what the zones of some rows say of a predicate. -/
namespace Go.Proofs.Ytafoldpmodipaaa
open Go.RowKit

/-- Each comparison's operator is one of the six. -/
def T.OpsOk (t : T) : Prop := T.All (fun x => x.kind = 2 → 1 ≤ x.op ∧ x.op ≤ 6) t
theorem T.own_op {cols : List Int} {t : T} (h : t.own cols = true) (hk : t.kind = 2) : 1 ≤ t.op ∧ t.op ≤ 6 := by
  rw [T.own, if_neg (by omega), if_pos hk] at h
  simp only [Bool.and_eq_true] at h
  exact Num.inB_true.1 h.2.2.2.1
theorem deep_ops (cols : List Int) : ∀ (t : T) (d : Int), t.deep cols d = true → t.OpsOk := by
  refine T.induct (fun t ih => ?_)
  intro d h
  rw [T.deep_def] at h
  simp only [Bool.and_eq_true] at h
  unfold T.OpsOk
  rw [T.all_iff]
  refine ⟨fun hk => T.own_op h.2.2 hk, fun x hx => ?_⟩
  have := List.all_eq_true.1 h.2.1 x hx
  exact ih x hx (d + 1) this
theorem ok_ops {cols : List Int} {t : T} (h : t.ok cols = true) : t.OpsOk := by
  unfold T.ok at h
  simp only [Bool.and_eq_true] at h
  exact deep_ops cols t 1 h.1

theorem zonesK_get (l : List R) {q c : Nat} (h : c < q) : (zonesK l q).getD c Zn.zero = zoneL (colR l (c : Int)) := by
  unfold zonesK
  simp [h]
theorem zonesL_ne {l : List R} {m : Nat} (hl : l ≠ []) (hm : ∀ r ∈ l, r.l.length = m) : zonesL l = zonesK l m := by
  cases l with
  | nil => exact absurd rfl hl
  | cons r l =>
    show zonesK (r :: l) r.l.length = _
    rw [hm r List.mem_cons_self]
theorem colR_mem {l : List R} {r : R} (hr : r ∈ l) {c : Nat} (hc : c < r.l.length) : r.l.getD c V.zero ∈ colR l (c : Int) := by
  unfold colR
  rw [List.mem_filterMap]
  refine ⟨r, hr, ?_⟩
  rw [if_pos (Num.inB_true.2 ⟨by omega, by omega⟩), Int.toNat_natCast]
  simp [hc]
/-- A row's value lies in the zone of its column. -/
theorem row_spans {l : List R} {r : R} (hr : r ∈ l) {c : Nat} (hc : c < r.l.length) : Spans (zoneL (colR l (c : Int))) (colR l (c : Int)) :=
  zone_spans (fun e => by have := colR_mem hr hc; rw [e] at this; cases this)

theorem all_true {l : List T} {f : T → Bool} : l.all f = true ↔ ∀ t ∈ l, f t = true := List.all_eq_true
theorem sound {l : List R} {m : Nat} (hm : ∀ r ∈ l, r.l.length = m) {r : R} (hr : r ∈ l) : ∀ t : T, t.OpsOk → (t.holds r.l = true → t.may (zonesL l) = true) ∧ (t.holds r.l = false → t.nmay (zonesL l) = true) := by
  have hz := zonesL_ne (l := l) (m := m) (fun e => by rw [e] at hr; cases hr) hm
  have hlen : (zonesL l).length = m := by rw [hz, zonesK_len]
  have hrm := hm r hr
  refine T.induct (fun t ih ho => ?_)
  unfold T.OpsOk at ho
  rw [T.all_iff] at ho
  obtain ⟨ho, hk⟩ := ho
  have ih2 : ∀ x ∈ t.l, (x.holds r.l = true → x.may (zonesL l) = true) ∧ (x.holds r.l = false → x.nmay (zonesL l) = true) := fun x hx => ih x hx (hk x hx)
  by_cases k1 : t.kind = 1
  · rw [T.holds_1 k1, T.may_1 k1]
    exact ⟨fun _ => rfl, fun h => by cases h⟩
  by_cases k2 : t.kind = 2
  · rw [T.holds_2 k2, T.may_2 k2, T.nmay_2 k2, hlen, hrm]
    have ho2 := ho k2
    cases hin : Num.inB t.col 0 ((m : Int) - 1) with
    | false => exact ⟨fun h => (by cases h), fun _ => rfl⟩
    | true =>
      obtain ⟨h0, h1⟩ := Num.inB_true.1 hin
      obtain ⟨c, hc⟩ := Int.eq_ofNat_of_zero_le h0
      have hcm : c < m := by omega
      have hcr : c < r.l.length := by omega
      rw [hc, Int.toNat_natCast, hz, zonesK_get l hcm]
      have hs := row_spans hr hcr
      have hx := colR_mem hr hcr
      simp only [Bool.true_and, Bool.not_true, Bool.false_or]
      refine ⟨fun h => may_of hs hx h, fun h => may_of hs hx ?_⟩
      rw [holds_opp ho2, h]
      rfl
  by_cases k3 : t.kind = 3
  · rw [T.holds_3 k3, T.may_3 k3, T.nmay_3 k3]
    refine ⟨fun h => List.all_eq_true.2 (fun x hx => (ih2 x hx).1 (List.all_eq_true.1 h x hx)), fun h => ?_⟩
    obtain ⟨x, hx, hn⟩ := List.all_eq_false.1 h
    exact List.any_eq_true.2 ⟨x, hx, (ih2 x hx).2 (Bool.eq_false_iff.2 hn)⟩
  by_cases k4 : t.kind = 4
  · rw [T.holds_4 k4, T.may_4 k4, T.nmay_4 k4]
    refine ⟨fun h => ?_, fun h => List.all_eq_true.2 (fun x hx => (ih2 x hx).2 (Bool.eq_false_iff.2 (List.any_eq_false.1 h x hx)))⟩
    obtain ⟨x, hx, hh⟩ := List.any_eq_true.1 h
    exact List.any_eq_true.2 ⟨x, hx, (ih2 x hx).1 hh⟩
  by_cases k5 : t.kind = 5
  · rw [T.holds_5 k5, T.may_5 k5, T.nmay_5 k5]
    cases hn : (t.l.length == 0) with
    | true => exact ⟨fun _ => rfl, fun h => by cases h⟩
    | false =>
      have hpos : 0 < t.l.length := by
        have : ¬ t.l.length = 0 := by simpa using hn
        omega
      have hx := ih2 _ (kid_mem hpos)
      simp only [Bool.false_or]
      refine ⟨fun h => hx.2 ?_, fun h => hx.1 ?_⟩
      · simpa using h
      · simpa using h
  rw [T.holds_no k1 k2 k3 k4 k5, T.nmay_no k1 k2 k3 k4 k5]
  exact ⟨fun h => (by cases h), fun _ => rfl⟩
/-- Its negation. -/
def T.neg (t : T) : T := .mk 5 0 0 V.zero [t]
theorem neg_holds (t : T) (vs : List V) : t.neg.holds vs = !(t.holds vs) := by
  rw [T.holds_5 (t := t.neg) rfl]
  rfl
theorem neg_may (t : T) (zs : List Zn) : t.neg.may zs = t.nmay zs := by
  rw [T.may_5 (t := t.neg) rfl]
  rfl

end Go.Proofs.Ytafoldpmodipaaa
