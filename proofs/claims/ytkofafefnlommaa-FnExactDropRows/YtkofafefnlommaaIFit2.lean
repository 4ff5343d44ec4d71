/- The contracts of impl's FitsCols (whole) and RowOk. -/
import Derived.Test.YtkofafefnlommaaIFits
namespace Go.Proofs.Ytkofafefnlommaa
open Go.RowKit

set_option maxHeartbeats 1000000 in
theorem iFitsOther (a1 a2 : Option Addr) (n m c1 c2 : Nat) (w : World) (hnm : n ≠ m) :
    Calls Try.prog 72 #[.slice a1 n c1, .slice a2 m c2] w fun e w' => e = .returned (.bool false) ∧ Below w.heap.size w w' := by
  have hne : ((m : Int) != (n : Int)) = true := by simp; omega
  go_enter Try.func72, Try.ntmps72
  go_wp2
  refine bodyPost_ret (v := .bool false) (by simp [results, Try.results72, go_sem]) rfl ?_
  exact ⟨rfl, below_alloc2 _ _ _⟩

theorem iFitsCols : CFitsCols := by
  intro u v zs l w _ _ hss h h2
  generalize hl : zs.length = n at h
  generalize hr : l.length = m at h2
  obtain ⟨a1, c1, rfl, _, _⟩ := id h
  obtain ⟨a2, c2, rfl, _, _⟩ := id h2
  by_cases hnm : n = m
  · subst hnm
    exact iFitsSame a1 a2 n c1 c2 zs l w hl hr hss h h2
  · rw [show fitsB zs l = false from all2_len (by omega)]
    exact iFitsOther a1 a2 n m c1 c2 w hnm

theorem iRowOk : CRowOk := by
  intro u v zs r w h1 h2 hss h h3
  have B0 := below_alloc w (.cells #[.int .i64 r.id, v] 27)
  have HF := Lib.hid (iFitsCols u v zs r.l _ h1 h2 hss (h.below B0) (h3.below B0))
  have HE : Hid (rowB zs r = (decide (0 ≤ r.id) && fitsB zs r.l)) := rfl
  obtain ⟨a1, c1, rfl, _, _⟩ := h
  obtain ⟨a2, c2, rfl, _, _⟩ := h3
  obtain ⟨i, l⟩ := r
  simp only at HF HE B0
  clear h1 h2 hss
  generalize fitsB zs l = q at HF HE
  generalize rowB zs ⟨i, l⟩ = p at HE ⊢
  generalize l.length = m at *
  generalize zs.length = n at *
  by_cases hi : 0 ≤ i
  · rw [decide_eq_true hi, Bool.true_and] at HE
    go_enter Try.func55, Try.ntmps55
    go_wp2_with fail
    refine HF.out.mono ?_
    rintro e w1 ⟨rfl, b1⟩
    have B1 := below_then B0 b1 B0.size
    clear b1
    go_wp2
    go_ret
    exact ⟨ret_bool HE.out.symm, B1⟩
  · rw [decide_eq_false hi, Bool.false_and] at HE
    go_enter Try.func55, Try.ntmps55
    go_wp2
    go_ret
    exact ⟨ret_bool HE.out.symm, B0⟩

end Go.Proofs.Ytkofafefnlommaa
