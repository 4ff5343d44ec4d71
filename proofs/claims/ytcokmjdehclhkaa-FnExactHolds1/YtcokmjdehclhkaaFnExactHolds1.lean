/- For every input, laws.FnExactHolds1 returns true and each argument reads afterwards as it read before. No condition beyond the form's own (each string, slice and map that is read takes at most 2^47 - 4096 bytes). -/
import Derived.Test.YtcokmjdehclhkaaRows
import Derived.Test.YtcokmjdehclhkaaP12
import Derived.Test.YtcokmjdehclhkaaP9
import Derived.WalkKit
import Derived.ProofKit
import Derived.OpenShut
import Derived.ShutString
import Derived.ChangeOld
import Derived.Below
namespace Go.Proofs.Ytcokmjdehclhkaa.fnExactHolds1
open Go.ChangeShapes Go.WideShapes Go.ChangeAt Go.RowKit
open Go.ChangeMaps (open_string shut_string)
set_option linter.unusedVariables false

theorem own : ownKnob Try.prog.godebug = none := by kernel_rfl
theorem laidOut : laidOutB Try.prog = true := by kernel_rfl

theorem walk (a0 : Int) (v1 : V) (v2 : V) (w : World) (w0 : (Lit.int .i64 a0).wf = true) (w1 : v1.wf) (w2 : v2.wf) :
    Calls Try.prog 6 #[.int .i64 a0, v1.agg, v2.agg] w fun e w' => e = .returned (.bool true) ∧ Below w.heap.size w w' := by
  exact lawHolds1 a0 v1 v2 w w1.2.2 w2.2.2

set_option maxRecDepth 100000 in
theorem lifted (os : Os) (started : os.Started) (H : Type) (enc : TypeId × Value → H) :
    ReturnsInHanded {} Try.checked os 6 .any (Rows.fnExactHolds1Spec.pre6 enc Try.prog Try.f6 Rows.fnExactHolds1Row.domain false) (Rows.fnExactHolds1Spec.post enc Try.prog Try.f6 false true false false) := by
  refine returnsInHanded_of_change (C := Try.checked) own started (by kernel_rfl) Try.func6
    (ChangeSpec.witness6 (enc := enc) (C := Try.checked) false ⟨#[], #[.int .i64 0, .agg #[.int .i64 0, .int .i64 0, .string ⟨#[]⟩], .agg #[.int .i64 0, .int .i64 0, .string ⟨#[]⟩]], []⟩ 8 (by kernel_rfl) (by kernel_rfl) (by kernel_rfl) (by kernel_rfl)) ?_
  intro W base args ds gs before hval0 hW hcnd _
  have hval : ∀ (j : Nat) t v, Try.f6.params[j]? = some t → args[j]? = some v → Value.okWide Try.prog W .any base t v := hval0
  have hW' := hW
  obtain ⟨p, q, hA0, hV, rfl, hfz, hnd⟩ := hW
  have hA : DataW.TrodAll enc Try.prog W 0 (fun _ => true) true Try.f6.params.toList args.toList ds p := hA0
  rw [Try.params6] at hA hval
  obtain ⟨v0V, vs0, d0, ds0, p0, q0, hargs, rfl, rfl, h0, r0⟩ := trodAll_cons hA
  obtain ⟨v1V, vs1, d1, ds1, p1, q1, rfl, rfl, rfl, h1, r1⟩ := trodAll_cons r0
  obtain ⟨v2V, vs2, d2, ds2, p2, q2, rfl, rfl, rfl, h2, r2⟩ := trodAll_cons r1
  obtain ⟨rfl, rfl, rfl⟩ := trodAll_nil r2
  obtain rfl : args = #[v0V, v1V, v2V] := by cases args; simp_all
  obtain ⟨rfl, rfl⟩ := trodVars_none hV
  obtain ⟨a0, rfl, rfl, rfl, w0⟩ := open_int Try.underlying3 (hval 0 3 v0V rfl rfl) h0
  have k1 := h1
  have lt1 : ∀ x ∈ p1, x.block < W.heap.size := by obtain ⟨m, hm⟩ := k1; exact DataW.trod_lt m _ _ _ hm
  obtain ⟨v1, rfl, w1⟩ : ∃ v : V, v1V = v.agg ∧ v.wf := by
    obtain ⟨cs, rfl, hsz⟩ := okWide_struct Try.underlying48 (hval 1 48 v1V rfl rfl)
    obtain ⟨fuel, hf⟩ := h1
    obtain ⟨v, hcs, hw⟩ := trod_val hf
    refine ⟨v, ?_, hw⟩
    have e : cs = v.cs.toArray := by
      apply Array.toList_inj.1
      simpa [Value.cells] using hcs
    rw [e]
    rfl
  have k2 := h2
  have lt2 : ∀ x ∈ p2, x.block < W.heap.size := by obtain ⟨m, hm⟩ := k2; exact DataW.trod_lt m _ _ _ hm
  obtain ⟨v2, rfl, w2⟩ : ∃ v : V, v2V = v.agg ∧ v.wf := by
    obtain ⟨cs, rfl, hsz⟩ := okWide_struct Try.underlying48 (hval 2 48 v2V rfl rfl)
    obtain ⟨fuel, hf⟩ := h2
    obtain ⟨v, hcs, hw⟩ := trod_val hf
    refine ⟨v, ?_, hw⟩
    have e : cs = v.cs.toArray := by
      apply Array.toList_inj.1
      simpa [Value.cells] using hcs
    rw [e]
    rfl
  clear hA0 hval0
  refine (walk a0 v1 v2 W w0 w1 w2).mono fun e W' ⟨he, bel⟩ => ?_
  subst he
  exact ⟨_, rfl, _, _, _, [], _, [], hW', trodAll_mk1 (shut_bool Try.underlying4 _), (trodAll_cons_mk (shut_int Try.underlying3 w0) (trodAll_cons_mk (Below.trod laidOut (by kernel_rfl) (of_decide_eq_true (by kernel_rfl)) k1 bel lt1) (trodAll_cons_mk (Below.trod laidOut (by kernel_rfl) (of_decide_eq_true (by kernel_rfl)) k2 bel lt2) trodAll_mk0))), rfl, bel.frame _, fun h => by cases h⟩

theorem over : Rows.fnExactHolds1Row.holds Try.pinned (OpenSpec.ofChange Rows.fnExactHolds1Spec) :=
  OpenClaim.holds_of_wide 6 Try.f6 rfl rfl rfl rfl rfl rfl rfl ⟨rfl, rfl, rfl, rfl, rfl⟩ rfl rfl rfl rfl rfl (by kernel_rfl) Try.func6 (by kernel_rfl)
    (of_decide_eq_true (by kernel_rfl)) (by unfold Func.isWrapper; first | (rw [if_pos (by decide +kernel)]; kernel_rfl) | (rw [if_neg (by decide +kernel)]; exact ⟨rfl, rfl⟩))
    (fun os started H enc _ => lifted os started H enc)

theorem proved : Rows.FnExactHolds1Said := over
end Go.Proofs.Ytcokmjdehclhkaa.fnExactHolds1

namespace Go.Proofs.Ytcokmjdehclhkaa
theorem fnExactHolds1_holds : Rows.FnExactHolds1Said := fnExactHolds1.proved
end Go.Proofs.Ytcokmjdehclhkaa
