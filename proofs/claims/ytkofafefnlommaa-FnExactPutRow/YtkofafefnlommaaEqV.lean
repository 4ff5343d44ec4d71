/- Two Vals are equal where the machine says so. -/
import Derived.Test.YtkofafefnlommaaVSpec
namespace Go.Proofs.Ytkofafefnlommaa
open Go.RowKit

theorem eqB_true {x y : V} : x.eqB y = true ↔ x = y := by
  obtain ⟨t1, n1, s1⟩ := x
  obtain ⟨t2, n2, s2⟩ := y
  simp only [V.eqB, Bool.and_eq_true, beq_iff_eq, V.mk.injEq]
  constructor
  · rintro ⟨h1, h2, h3⟩
    refine ⟨h1, h2, ?_⟩
    rw [ByteArray.toList_eq, ByteArray.toList_eq] at h3
    apply ByteArray.ext
    exact Array.toList_inj.1 h3
  · rintro ⟨rfl, rfl, rfl⟩
    exact ⟨rfl, rfl, rfl⟩
theorem eqB_false {x y : V} : x.eqB y = false ↔ x ≠ y := by
  constructor
  · intro h e
    rw [eqB_true.2 e] at h
    cases h
  · intro h
    cases hb : x.eqB y with
    | false => rfl
    | true => exact absurd (eqB_true.1 hb) h

end Go.Proofs.Ytkofafefnlommaa
