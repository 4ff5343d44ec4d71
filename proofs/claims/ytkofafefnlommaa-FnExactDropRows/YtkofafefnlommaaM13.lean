/- Row groups: plain mathematics (RowsOk, FindRow, DropRows, PutRow). -/
import Derived.Test.YtkofafefnlommaaS4b
namespace Go.Proofs.Ytkofafefnlommaa
open Go.RowKit

theorem getD_fstR (ps : List P) (k : Nat) : (ps.map (·.1)).getD k R.zero = (ps.getD k P.zero).1 := (getD_fst ps k).symm

/-- What RowsOk asks of row j. -/
def goodB (zs : List Int) (l : List R) (j : Nat) : Bool := rowB zs (l.getD j R.zero) && (decide ((l.getD j R.zero).id ≤ 1000000000) && (decide (j = 0) || decide ((l.getD (j - 1) R.zero).id < (l.getD j R.zero).id)))
def rowsOkL (zs : List Int) (l : List R) : Bool := colsB zs && (decide (l.length ≤ 12) && (List.range l.length).all (goodB zs l))
theorem rowsOk_no {zs : List Int} {l : List R} {j : Nat} (hj : j < l.length) (h : goodB zs l j = false) : rowsOkL zs l = false := by
  have e : (List.range l.length).all (goodB zs l) = false := by
    rw [List.all_eq_false]
    exact ⟨j, List.mem_range.2 hj, by simp [h]⟩
  unfold rowsOkL
  rw [e, Bool.and_false, Bool.and_false]
theorem rowsOk_end {zs : List Int} {l : List R} (h : ∀ j, j < l.length → goodB zs l j = true) : rowsOkL zs l = (colsB zs && decide (l.length ≤ 12)) := by
  have e : (List.range l.length).all (goodB zs l) = true := by
    rw [List.all_eq_true]
    intro j hj
    exact h j (List.mem_range.1 hj)
  unfold rowsOkL
  rw [e, Bool.and_true]
theorem rowsOk_cols {zs : List Int} {l : List R} (h : colsB zs = false) : rowsOkL zs l = false := by
  unfold rowsOkL
  rw [h, Bool.false_and]
theorem rowsOk_long {zs : List Int} {l : List R} (h : ¬ l.length ≤ 12) : rowsOkL zs l = false := by
  unfold rowsOkL
  rw [decide_eq_false h, Bool.false_and, Bool.and_false]
theorem rowsOk_true {zs : List Int} {l : List R} (h : rowsOkL zs l = true) : colsB zs = true ∧ l.length ≤ 12 ∧ ∀ j, j < l.length → goodB zs l j = true := by
  unfold rowsOkL at h
  simp only [Bool.and_eq_true, decide_eq_true_eq, List.all_eq_true, List.mem_range] at h
  exact h

/-- FindRow. -/
def findL (l : List R) (n : Int) : Option R := l.find? fun r => r.id == n
theorem find_hit {l : List R} {n : Int} {j : Nat} (hj : j < l.length) (hn : ∀ k, k < j → (l.getD k R.zero).id ≠ n) (h : (l.getD j R.zero).id = n) : findL l n = some (l.getD j R.zero) := by
  have e : l.getD j R.zero = l[j] := by simp [hj]
  rw [e] at h
  unfold findL
  rw [e, List.find?_eq_some_iff_getElem]
  refine ⟨by simp [h], j, hj, rfl, fun k hk => ?_⟩
  have hk' : k < l.length := by omega
  have e2 : l.getD k R.zero = l[k] := by simp [hk']
  have := hn k hk
  rw [e2] at this
  simp [this]
theorem find_none {l : List R} {n : Int} (hn : ∀ k, k < l.length → (l.getD k R.zero).id ≠ n) : findL l n = none := by
  unfold findL
  rw [List.find?_eq_none]
  intro x hx
  obtain ⟨k, hk, rfl⟩ := List.getElem_of_mem hx
  have := hn k hk
  simpa [hk] using this

/-- Is n one of them? -/
def hasI (ids : List Int) (n : Int) : Bool := ids.contains n
/-- DropRows. -/
def dropL (l : List R) (ids : List Int) : List R := l.filter fun r => !hasI ids r.id
theorem dropL_take {l : List R} {ids : List Int} {r : R} {j : Nat} (hj : j < l.length) (e : l.getD j R.zero = r) : dropL (l.take (j + 1)) ids = if hasI ids r.id = true then dropL (l.take j) ids else dropL (l.take j) ids ++ [r] := by
  have e' : l[j] = r := by rw [← e]; simp [hj]
  unfold dropL
  rw [List.take_succ_eq_append_getElem hj, List.filter_append, e']
  cases h : hasI ids r.id with
  | true => simp only [List.filter_cons, List.filter_nil, h, Bool.not_true, Bool.false_eq_true, if_false, if_true, List.append_nil]
  | false => simp only [List.filter_cons, List.filter_nil, h, Bool.not_false, Bool.false_eq_true, if_false, if_true]
theorem dropL_len (l : List R) (ids : List Int) : (dropL l ids).length ≤ l.length := List.length_filter_le _ _
theorem contains_hit {ids : List Int} {n : Int} {j : Nat} (hj : j < ids.length) (h : ids.getD j 0 = n) : hasI ids n = true := by
  unfold hasI
  have e : ids.getD j 0 = ids[j] := by simp [hj]
  rw [List.contains_iff_mem, ← h, e]
  exact List.getElem_mem hj
theorem contains_no {ids : List Int} {n : Int} (h : ∀ j, j < ids.length → ids.getD j 0 ≠ n) : hasI ids n = false := by
  unfold hasI
  rw [Bool.eq_false_iff]
  intro hc
  rw [List.contains_iff_mem] at hc
  obtain ⟨j, hj, e⟩ := List.getElem_of_mem hc
  refine h j hj ?_
  rw [← e]
  simp [hj]

/-- PutRow: where the row goes. -/
def putK (l : List R) (n : Int) : Nat := (l.takeWhile fun r => decide (r.id < n)).length
def putL (l : List R) (r : R) : List R := l.take (putK l r.id) ++ r :: l.drop (putK l r.id)
theorem putK_of {l : List R} {n : Int} {k : Nat} (hk : k ≤ l.length) (hl : ∀ j, j < k → (l.getD j R.zero).id < n) (he : k < l.length → ¬ (l.getD k R.zero).id < n) : putK l n = k := by
  induction l generalizing k with
  | nil => simp at hk; subst hk; rfl
  | cons r l ih =>
    cases k with
    | zero =>
      have := he (by simp)
      simp only [List.getD_cons_zero] at this
      unfold putK
      rw [List.takeWhile_cons_of_neg (by simpa using this)]
      rfl
    | succ k =>
      have h0 := hl 0 (by omega)
      simp only [List.getD_cons_zero] at h0
      have := ih (k := k) (by simpa using hk) (fun j hj => by have := hl (j + 1) (by omega); simpa using this) (fun h => by have := he (by simpa using h); simpa using this)
      unfold putK at this ⊢
      rw [List.takeWhile_cons_of_pos (by simpa using h0), List.length_cons, this]
theorem putK_le (l : List R) (n : Int) : putK l n ≤ l.length := (List.takeWhile_sublist _).length_le
theorem putL_len (l : List R) (r : R) : (putL l r).length = l.length + 1 := by
  have := putK_le l r.id
  unfold putL
  rw [List.length_append, List.length_cons, List.length_take, List.length_drop]
  omega

end Go.Proofs.Ytkofafefnlommaa
