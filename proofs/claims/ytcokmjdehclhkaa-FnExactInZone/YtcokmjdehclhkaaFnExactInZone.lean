/- For every input, laws.FnExactInZone returns true and each argument reads afterwards as it read before. No condition beyond the form's own (each string, slice and map that is read takes at most 2^47 - 4096 bytes). -/
import Derived.Test.YtcokmjdehclhkaaRows
import Derived.Test.YtcokmjdehclhkaaP12
import Derived.Test.YtcokmjdehclhkaaP14
import Derived.WalkKit
import Derived.ProofKit
import Derived.OpenShut
import Derived.ShutString
import Derived.ChangeOld
import Derived.Below
namespace Go.Proofs.Ytcokmjdehclhkaa.fnExactInZone
open Go.ChangeShapes Go.WideShapes Go.ChangeAt Go.RowKit
open Go.ChangeMaps (open_string shut_string)
set_option linter.unusedVariables false

theorem own : ownKnob Try.prog.godebug = none := by kernel_rfl
theorem laidOut : laidOutB Try.prog = true := by kernel_rfl

theorem walk (zz0 : Zn) (v1 : V) (w : World) (w0 : zz0.wf) (w1 : v1.wf) :
    Calls Try.prog 10 #[zz0.agg, v1.agg] w fun e w' => e = .returned (.bool true) ∧ Below w.heap.size w w' := by
  exact lawInZone zz0 v1 w w0.1.2.2 w0.2.2.2 w1.2.2

set_option maxRecDepth 100000 in
theorem lifted (os : Os) (started : os.Started) (H : Type) (enc : TypeId × Value → H) :
    ReturnsInHanded {} Try.checked os 10 .any (Rows.fnExactInZoneSpec.pre6 enc Try.prog Try.f10 Rows.fnExactInZoneRow.domain false) (Rows.fnExactInZoneSpec.post enc Try.prog Try.f10 false true false false) := by
  refine returnsInHanded_of_change (C := Try.checked) own started (by kernel_rfl) Try.func10
    (ChangeSpec.witness6 (enc := enc) (C := Try.checked) false ⟨#[], #[.agg #[.int .i64 0, .int .i64 0, .string ⟨#[]⟩, .int .i64 0, .int .i64 0, .string ⟨#[]⟩], .agg #[.int .i64 0, .int .i64 0, .string ⟨#[]⟩]], []⟩ 8 (by kernel_rfl) (by kernel_rfl) (by kernel_rfl) (by kernel_rfl)) ?_
  intro W base args ds gs before hval0 hW hcnd _
  have hval : ∀ (j : Nat) t v, Try.f10.params[j]? = some t → args[j]? = some v → Value.okWide Try.prog W .any base t v := hval0
  have hW' := hW
  obtain ⟨p, q, hA0, hV, rfl, hfz, hnd⟩ := hW
  have hA : DataW.TrodAll enc Try.prog W 0 (fun _ => true) true Try.f10.params.toList args.toList ds p := hA0
  rw [Try.params10] at hA hval
  obtain ⟨v0V, vs0, d0, ds0, p0, q0, hargs, rfl, rfl, h0, r0⟩ := trodAll_cons hA
  obtain ⟨v1V, vs1, d1, ds1, p1, q1, rfl, rfl, rfl, h1, r1⟩ := trodAll_cons r0
  obtain ⟨rfl, rfl, rfl⟩ := trodAll_nil r1
  obtain rfl : args = #[v0V, v1V] := by cases args; simp_all
  obtain ⟨rfl, rfl⟩ := trodVars_none hV
  have k0 := h0
  have lt0 : ∀ x ∈ p0, x.block < W.heap.size := by obtain ⟨m, hm⟩ := k0; exact DataW.trod_lt m _ _ _ hm
  obtain ⟨zz0, rfl, w0⟩ : ∃ z : Zn, v0V = z.agg ∧ z.wf := by
    obtain ⟨cs, rfl, hsz⟩ := okWide_struct Try.underlying53 (hval 0 53 v0V rfl rfl)
    obtain ⟨fuel, hf⟩ := h0
    obtain ⟨z, hcs, hw⟩ := trod_zone hf
    refine ⟨z, ?_, hw⟩
    have e : cs = z.cs.toArray := by
      apply Array.toList_inj.1
      simpa [Value.cells] using hcs
    rw [e]
    rfl
  have k1 := h1
  have lt1 : ∀ x ∈ p1, x.block < W.heap.size := by obtain ⟨m, hm⟩ := k1; exact DataW.trod_lt m _ _ _ hm
  obtain ⟨v1, rfl, w1⟩ : ∃ v : V, v1V = v.agg ∧ v.wf := by
    obtain ⟨cs, rfl, hsz⟩ := okWide_struct Try.underlying48 (hval 1 48 v1V rfl rfl)
    obtain ⟨fuel, hf⟩ := h1
    obtain ⟨v, hcs, hw⟩ := trod_val hf
    refine ⟨v, ?_, hw⟩
    have e : cs = v.cs.toArray := by
      apply Array.toList_inj.1
      simpa [Value.cells] using hcs
    rw [e]
    rfl
  clear hA0 hval0
  refine (walk zz0 v1 W w0 w1).mono fun e W' ⟨he, bel⟩ => ?_
  subst he
  exact ⟨_, rfl, _, _, _, [], _, [], hW', trodAll_mk1 (shut_bool Try.underlying4 _), (trodAll_cons_mk (Below.trod laidOut (by kernel_rfl) (of_decide_eq_true (by kernel_rfl)) k0 bel lt0) (trodAll_cons_mk (Below.trod laidOut (by kernel_rfl) (of_decide_eq_true (by kernel_rfl)) k1 bel lt1) trodAll_mk0)), rfl, bel.frame _, fun h => by cases h⟩

theorem over : Rows.fnExactInZoneRow.holds Try.pinned (OpenSpec.ofChange Rows.fnExactInZoneSpec) :=
  OpenClaim.holds_of_wide 10 Try.f10 rfl rfl rfl rfl rfl rfl rfl ⟨rfl, rfl, rfl, rfl, rfl⟩ rfl rfl rfl rfl rfl (by kernel_rfl) Try.func10 (by kernel_rfl)
    (of_decide_eq_true (by kernel_rfl)) (by unfold Func.isWrapper; first | (rw [if_pos (by decide +kernel)]; kernel_rfl) | (rw [if_neg (by decide +kernel)]; exact ⟨rfl, rfl⟩))
    (fun os started H enc _ => lifted os started H enc)

theorem proved : Rows.FnExactInZoneSaid := over
end Go.Proofs.Ytcokmjdehclhkaa.fnExactInZone

namespace Go.Proofs.Ytcokmjdehclhkaa
theorem fnExactInZone_holds : Rows.FnExactInZoneSaid := fnExactInZone.proved
end Go.Proofs.Ytcokmjdehclhkaa
