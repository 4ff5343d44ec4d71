/- The library's sentinel ErrSyntax: where the rows lay it, and that it stays. -/
import Derived.Test.YtfkmbcjhkfecfaaDoorDTab
import Derived.Test.YtfkmbcjhkfecfaaDoorDSParse
import Derived.Stop.LaidErr
namespace Go.Proofs.YtfkmbcjhkfecfaaDoor
open Go.RowKit

theorem gSyn : Tryd.prog.globalNamed "strconv.ErrSyntax" = some 0 := by kernel_rfl
theorem gSynType : (Tryd.prog.globals[0]?).map (·.type) = some 45 := by kernel_rfl
theorem starErr : "*" ++ "errors.errorString" = "*errors.errorString" := by decide
theorem ptrErr (u : TypeId) (h : Tryd.prog.typeName? 3 u = some "*errors.errorString") : u = 79 :=
  typeName_ptr_named (nm := "errors.errorString") (by rw [starErr]; kernel_rfl) (by kernel_rfl) (by decide) u (by rw [starErr]; exact h)
theorem syn_of {W : World} {a b c d : String × DataW Unit} {rest : List (String × DataW Unit)} (h : laidMet Tryd.prog (a :: b :: c :: d :: ("strconv.ErrSyntax", Rows.laid_strconv_ErrSyntax) :: rest) W) : Syn W := by
  obtain ⟨x, _, hv, _, _, _⟩ := laid_sentinel (P := Tryd.prog) h.tail.tail.tail.tail gSyn gSynType Tryd.underlying45 ptrErr Tryd.underlying79 Tryd.underlying81 rfl rfl Tryd.underlying9 (by kernel_rfl) (by kernel_rfl)
  exact ⟨_, _, hv⟩
theorem Syn.below {w w' : World} (h : Syn w) (hb : Below w.heap.size w w') : Syn w' := by
  obtain ⟨tp, p, hv⟩ := h
  refine ⟨tp, p, ?_⟩
  unfold World.var? at hv ⊢
  rw [gSyn] at hv ⊢
  simp only [Option.bind_some] at hv ⊢
  have hlt : 0 < w.heap.size := by
    rcases Nat.lt_or_ge 0 w.heap.size with h' | h'
    · exact h'
    · simp [Array.getElem?_eq_none h'] at hv
  rw [hb.block 0 hlt]
  exact hv

end Go.Proofs.YtfkmbcjhkfecfaaDoor
