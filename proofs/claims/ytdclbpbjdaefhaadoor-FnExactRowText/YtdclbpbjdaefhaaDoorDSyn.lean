/- The library's sentinel ErrSyntax: where the rows lay it, and that it stays. -/
import Derived.Test.YtdclbpbjdaefhaaDoorDTab
import Derived.Test.YtdclbpbjdaefhaaDoorDSParse
import Derived.Stop.LaidErr
namespace Go.Proofs.YtdclbpbjdaefhaaDoor
open Go.RowKit

theorem gSyn : Tryd.prog.globalNamed "strconv.ErrSyntax" = some 2 := by kernel_rfl
theorem gSynType : (Tryd.prog.globals[2]?).map (·.type) = some 66 := by kernel_rfl
theorem starErr : "*" ++ "errors.errorString" = "*errors.errorString" := by decide
theorem ptrErr (u : TypeId) (h : Tryd.prog.typeName? 3 u = some "*errors.errorString") : u = 117 :=
  typeName_ptr_named (nm := "errors.errorString") (by rw [starErr]; kernel_rfl) (by kernel_rfl) (by decide) u (by rw [starErr]; exact h)
theorem syn_of {W : World} {a b c d : String × DataW Unit} {rest : List (String × DataW Unit)} (h : laidMet Tryd.prog (a :: b :: c :: d :: ("strconv.ErrSyntax", Rows.laid_strconv_ErrSyntax) :: rest) W) : Syn W := by
  obtain ⟨x, _, hv, _, _, _⟩ := laid_sentinel (P := Tryd.prog) h.tail.tail.tail.tail gSyn gSynType Tryd.underlying66 ptrErr Tryd.underlying117 Tryd.underlying119 rfl rfl Tryd.underlying9 (by kernel_rfl) (by kernel_rfl)
  exact ⟨_, _, hv⟩
theorem Syn.below {w w' : World} (h : Syn w) (hb : Below w.heap.size w w') : Syn w' := by
  obtain ⟨tp, p, hv⟩ := h
  refine ⟨tp, p, ?_⟩
  unfold World.var? at hv ⊢
  rw [gSyn] at hv ⊢
  simp only [Option.bind_some] at hv ⊢
  have hlt : 2 < w.heap.size := by
    rcases Nat.lt_or_ge 2 w.heap.size with h' | h'
    · exact h'
    · simp [Array.getElem?_eq_none h'] at hv
  rw [hb.block 2 hlt]
  exact hv

end Go.Proofs.YtdclbpbjdaefhaaDoor
