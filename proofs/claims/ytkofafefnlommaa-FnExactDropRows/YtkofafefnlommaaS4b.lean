/- The contracts of the model's chapter 4, more: RowOk, SameRow, SameRows, Column. -/
import Derived.Test.YtkofafefnlommaaS4
namespace Go.Proofs.Ytkofafefnlommaa
open Go.RowKit

/-- RowOk. -/
def rowB (zs : List Int) (r : R) : Bool := decide (0 ≤ r.id) && fitsB zs r.l
theorem sRowOk (u v : Value) (zs : List Int) (r : R) (w : World) (hss : ∀ v ∈ r.l, v.s.size ≤ maxLen) (h : Rd 1 w u zs.length (ints .i64 zs)) (h2 : r.rd w v) :
    Calls Try.prog 52 #[u, r.agg v] w fun e w' => e = .returned (.bool (rowB zs r)) ∧ Below w.heap.size w w' := by
  have B0 := below_alloc w (.cells #[.int .i64 r.id, v] 27)
  have HF := Lib.hid (sFitsCols u v zs r.l _ hss (h.below B0) (h2.below B0))
  have HE : Hid (rowB zs r = (decide (0 ≤ r.id) && fitsB zs r.l)) := rfl
  obtain ⟨a1, c1, rfl, _, _⟩ := h
  obtain ⟨a2, c2, rfl, _, _⟩ := h2
  obtain ⟨i, l⟩ := r
  simp only at HF HE B0
  generalize fitsB zs l = q at HF HE
  generalize rowB zs ⟨i, l⟩ = p at HE ⊢
  generalize l.length = m at *
  generalize zs.length = n at *
  by_cases hi : 0 ≤ i
  · rw [decide_eq_true hi, Bool.true_and] at HE
    go_enter Try.func52, Try.ntmps52
    go_wp2_with fail
    refine HF.out.mono ?_
    rintro e w1 ⟨rfl, b1⟩
    have B1 := below_then B0 b1 B0.size
    clear b1
    go_wp2
    go_ret
    exact ⟨ret_bool HE.out.symm, B1⟩
  · rw [decide_eq_false hi, Bool.false_and] at HE
    go_enter Try.func52, Try.ntmps52
    go_wp2
    go_ret
    exact ⟨ret_bool HE.out.symm, B0⟩

/-- SameRow. -/
def R.eqB (a b : R) : Bool := a.id == b.id && sameV a.l b.l
/-- SameRows. -/
def sameR (l r : List R) : Bool := all2 R.eqB l r
def R.zero : R := ⟨0, []⟩

/-- Column. -/
def colR (l : List R) (k : Int) : List V := l.filterMap fun r => if Num.inB k 0 ((r.l.length : Int) - 1) = true then r.l[k.toNat]? else none
theorem colR_le (l : List R) (k : Int) : (colR l k).length ≤ l.length := List.length_filterMap_le _ _
theorem colR_snoc (l : List R) (r : R) (k : Int) : colR (l ++ [r]) k = colR l k ++ (if Num.inB k 0 ((r.l.length : Int) - 1) = true then r.l[k.toNat]? else none).toList := by
  unfold colR
  rw [List.filterMap_append]
  congr 1

end Go.Proofs.Ytkofafefnlommaa
