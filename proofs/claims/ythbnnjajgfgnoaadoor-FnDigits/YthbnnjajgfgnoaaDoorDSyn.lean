/- The library's sentinel ErrSyntax: where the rows lay it, and that it stays. -/
import Derived.Test.YthbnnjajgfgnoaaDoorDTab
import Derived.Test.YthbnnjajgfgnoaaDoorDSParse
import Derived.Stop.LaidErr
namespace Go.Proofs.YthbnnjajgfgnoaaDoor
open Go.RowKit

theorem gSyn : Tryd.prog.globalNamed "strconv.ErrSyntax" = some 0 := by kernel_rfl
theorem gSynType : (Tryd.prog.globals[0]?).map (·.type) = some 38 := by kernel_rfl
theorem starErr : "*" ++ "errors.errorString" = "*errors.errorString" := by decide
theorem ptrErr (u : TypeId) (h : Tryd.prog.typeName? 3 u = some "*errors.errorString") : u = 70 :=
  typeName_ptr_named (nm := "errors.errorString") (by rw [starErr]; kernel_rfl) (by kernel_rfl) (by decide) u (by rw [starErr]; exact h)
theorem syn_of {W : World} {a b c d : String × DataW Unit} {rest : List (String × DataW Unit)} (h : laidMet Tryd.prog (a :: b :: c :: d :: ("strconv.ErrSyntax", Rows.laid_strconv_ErrSyntax) :: rest) W) : Syn W := by
  obtain ⟨x, _, hv, _, _, _⟩ := laid_sentinel (P := Tryd.prog) h.tail.tail.tail.tail gSyn gSynType Tryd.underlying38 ptrErr Tryd.underlying70 Tryd.underlying72 rfl rfl Tryd.underlying9 (by kernel_rfl) (by kernel_rfl)
  exact ⟨_, _, hv⟩
theorem Syn.below {w w' : World} (h : Syn w) (hb : Below w.heap.size w w') : Syn w' := by
  obtain ⟨tp, p, hv⟩ := h
  refine ⟨tp, p, ?_⟩
  unfold World.var? at hv ⊢
  rw [gSyn] at hv ⊢
  simp only [Option.bind_some] at hv ⊢
  have hlt : 0 < w.heap.size := by
    rcases Nat.lt_or_ge 0 w.heap.size with h' | h'
    · exact h'
    · simp [Array.getElem?_eq_none h'] at hv
  rw [hb.block 0 hlt]
  exact hv

set_option maxHeartbeats 400000 in
theorem lawParseNum (s : ByteArray) (w : World) (hs : s.size ≤ 9223372036854775807) (ht : Tab w) (hv : Syn w) :
    Calls Tryd.prog 5 #[.string s] w fun e w' => e = .returned (.bool true) ∧ Below w.heap.size w w' := by
  obtain ⟨⟨l⟩⟩ := s
  have hl : l.length ≤ 9223372036854775807 := by simpa [ByteArray.size] using hs
  by_cases hbig : 1048576 < l.length
  · have hbig' : 1048576 < (⟨l.toArray⟩ : ByteArray).size := by simpa [ByteArray.size] using hbig
    go_enter Tryd.func5, Tryd.ntmps5
    go_wp2
    go_ret
    exact ⟨rfl, Below.refl _ _⟩
  · have hc1 := fun (w : World) => sParseNum ⟨l.toArray⟩ w hs
    have hc2 := fun (w : World) => iParseNum l w hl
    simp only at hc1
    obtain ⟨n, ok⟩ := Dig.parse l
    go_enter Tryd.func5, Tryd.ntmps5
    go_wp2_with fail
    refine (hc1 w).mono ?_
    rintro e w1 ⟨rfl, b1⟩
    simp only [pRes]
    go_wp2_with fail
    refine (hc2 w1 (ht.below b1) (hv.below b1)).mono ?_
    rintro e w2 ⟨rfl, b2⟩
    have b3 := below_then b1 b2 b1.size
    simp only [pRes]
    go_wp2
    go_ret
    exact ⟨rfl, b3⟩

end Go.Proofs.YthbnnjajgfgnoaaDoor
