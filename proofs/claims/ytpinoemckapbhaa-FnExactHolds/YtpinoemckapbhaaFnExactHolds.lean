/- For every input, laws.FnExactHolds returns true and each argument reads afterwards as it read before. No condition beyond the form's own (each string, slice and map that is read takes at most 2^47 - 4096 bytes). -/
import Derived.Test.YtpinoemckapbhaaRows
import Derived.Test.YtpinoemckapbhaaP26
import Derived.Test.YtpinoemckapbhaaP17
import Derived.WalkKit
import Derived.ProofKit
import Derived.OpenShut
import Derived.ShutString
import Derived.ChangeOld
import Derived.Below
namespace Go.Proofs.Ytpinoemckapbhaa.fnExactHolds
open Go.ChangeShapes Go.WideShapes Go.ChangeAt Go.RowKit
open Go.ChangeMaps (open_string shut_string)
set_option linter.unusedVariables false

theorem own : ownKnob Try.prog.godebug = none := by kernel_rfl
theorem laidOut : laidOutB Try.prog = true := by kernel_rfl
def ValsArg (w : World) (a : Option Addr) (len : Nat) (l : List V) : Prop := len ≤ maxLen ∧ l.length = len ∧ (∀ v ∈ l, v.wf) ∧ ArgS 3 w a len (vals l)

theorem walk (tt0 : T) (uu0 : Value) (a1 : Option Addr) (len1 cap1 : Nat) (l1 : List V) (w : World) (w0 : T.wf w tt0 uu0) (w1 : ValsArg w a1 len1 l1) :
    Calls Try.prog 5 #[tt0.agg uu0, .slice a1 len1 cap1] w fun e w' => e = .returned (.bool true) ∧ Below w.heap.size w w' := by
  exact lawHolds iHolds tt0 uu0 a1 len1 cap1 l1 w w0.small w0.rd w1.1 (fun v hv => (w1.2.2.1 v hv).2.2) w1.2.1 w1.2.2.2

set_option maxRecDepth 100000 in
theorem lifted (os : Os) (started : os.Started) (H : Type) (enc : TypeId × Value → H) :
    ReturnsInHanded {} Try.checked os 5 .any (Rows.fnExactHoldsSpec.pre6 enc Try.prog Try.f5 Rows.fnExactHoldsRow.domain false) (Rows.fnExactHoldsSpec.post enc Try.prog Try.f5 false true false false) := by
  refine returnsInHanded_of_change (C := Try.checked) own started (by kernel_rfl) Try.func5
    (ChangeSpec.witness6 (enc := enc) (C := Try.checked) false ⟨#[], #[.agg #[.int .i64 0, .int .i64 0, .int .i64 0, .int .i64 0, .int .i64 0, .string ⟨#[]⟩, .slice none 0 0], .slice none 0 0], []⟩ 8 (by kernel_rfl) (by kernel_rfl) (by kernel_rfl) (by kernel_rfl)) ?_
  intro W base args ds gs before hval0 hW hcnd _
  have hval : ∀ (j : Nat) t v, Try.f5.params[j]? = some t → args[j]? = some v → Value.okWide Try.prog W .any base t v := hval0
  have hW' := hW
  obtain ⟨p, q, hA0, hV, rfl, hfz, hnd⟩ := hW
  have hA : DataW.TrodAll enc Try.prog W 0 (fun _ => true) true Try.f5.params.toList args.toList ds p := hA0
  rw [Try.params5] at hA hval
  obtain ⟨v0V, vs0, d0, ds0, p0, q0, hargs, rfl, rfl, h0, r0⟩ := trodAll_cons hA
  obtain ⟨v1V, vs1, d1, ds1, p1, q1, rfl, rfl, rfl, h1, r1⟩ := trodAll_cons r0
  obtain ⟨rfl, rfl, rfl⟩ := trodAll_nil r1
  obtain rfl : args = #[v0V, v1V] := by cases args; simp_all
  obtain ⟨rfl, rfl⟩ := trodVars_none hV
  have k0 := h0
  have lt0 : ∀ x ∈ p0, x.block < W.heap.size := by obtain ⟨m, hm⟩ := k0; exact DataW.trod_lt m _ _ _ hm
  obtain ⟨tt0, uu0, rfl, w0⟩ : ∃ (t : T) (u : Value), v0V = t.agg u ∧ T.wf W t u := by
    obtain ⟨cs, rfl, hsz⟩ := okWide_struct Try.underlying48 (hval 0 48 v0V rfl rfl)
    obtain ⟨fuel, hf⟩ := h0
    obtain ⟨t, u, hcs, hw⟩ := trod_pred _ _ _ hf
    refine ⟨t, u, ?_, hw⟩
    have e : cs = (T.cs t u).toArray := by
      apply Array.toList_inj.1
      simpa [Value.cells] using hcs
    rw [e]
    rfl
  have k1 := h1
  have lt1 : ∀ x ∈ p1, x.block < W.heap.size := by obtain ⟨m, hm⟩ := k1; exact DataW.trod_lt m _ _ _ hm
  obtain ⟨a1, len1, cap1, rfl⟩ := okWide_slice Try.underlying55 (hval 1 55 v1V rfl rfl)
  obtain ⟨l1, w1⟩ : ∃ l, ValsArg W a1 len1 l := by
    obtain ⟨fuel, hf⟩ := h1
    obtain ⟨a, len, cap, hcs, hle, l, hll, hq, harg⟩ := trod_vals hf
    simp [Value.cells] at hcs
    obtain ⟨rfl, rfl, rfl⟩ := hcs
    exact ⟨l, hle, hll, hq, harg⟩
  clear hA0 hval0
  refine (walk tt0 uu0 a1 len1 cap1 l1 W w0 w1).mono fun e W' ⟨he, bel⟩ => ?_
  subst he
  exact ⟨_, rfl, _, _, _, [], _, [], hW', trodAll_mk1 (shut_bool Try.underlying4 _), (trodAll_cons_mk (Below.trod laidOut (by kernel_rfl) (of_decide_eq_true (by kernel_rfl)) k0 bel lt0) (trodAll_cons_mk (Below.trod laidOut (by kernel_rfl) (of_decide_eq_true (by kernel_rfl)) k1 bel lt1) trodAll_mk0)), rfl, bel.frame _, fun h => by cases h⟩

theorem over : Rows.fnExactHoldsRow.holds Try.pinned (OpenSpec.ofChange Rows.fnExactHoldsSpec) :=
  OpenClaim.holds_of_wide 5 Try.f5 rfl rfl rfl rfl rfl rfl rfl ⟨rfl, rfl, rfl, rfl, rfl⟩ rfl rfl rfl rfl rfl (by kernel_rfl) Try.func5 (by kernel_rfl)
    (of_decide_eq_true (by kernel_rfl)) (by unfold Func.isWrapper; first | (rw [if_pos (by decide +kernel)]; kernel_rfl) | (rw [if_neg (by decide +kernel)]; exact ⟨rfl, rfl⟩))
    (fun os started H enc _ => lifted os started H enc)

theorem proved : Rows.FnExactHoldsSaid := over
end Go.Proofs.Ytpinoemckapbhaa.fnExactHolds

namespace Go.Proofs.Ytpinoemckapbhaa
theorem fnExactHolds_holds : Rows.FnExactHoldsSaid := fnExactHolds.proved
end Go.Proofs.Ytpinoemckapbhaa
