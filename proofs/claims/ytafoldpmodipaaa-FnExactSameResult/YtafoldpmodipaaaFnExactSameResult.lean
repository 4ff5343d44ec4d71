/- For every input, laws.FnExactSameResult returns true and each argument reads afterwards as it read before. No condition beyond the form's own (each string, slice and map that is read takes at most 2^47 - 4096 bytes). -/
import Derived.Test.YtafoldpmodipaaaRows
import Derived.Test.YtafoldpmodipaaaP26
import Derived.Test.YtafoldpmodipaaaP19
import Derived.Test.YtafoldpmodipaaaP24
import Derived.WalkKit
import Derived.ProofKit
import Derived.OpenShut
import Derived.ShutString
import Derived.ChangeOld
import Derived.Below
namespace Go.Proofs.Ytafoldpmodipaaa.fnExactSameResult
open Go.ChangeShapes Go.WideShapes Go.ChangeAt Go.RowKit
open Go.ChangeMaps (open_string shut_string)
set_option linter.unusedVariables false

theorem own : ownKnob Try.prog.godebug = none := by kernel_rfl
theorem laidOut : laidOutB Try.prog = true := by kernel_rfl

theorem walk (a0 : Option Addr) (len0 cap0 : Nat) (ps0 : List P) (n0 : Int) (b0 : Bool) (v0 : V) (a1 : Option Addr) (len1 cap1 : Nat) (ps1 : List P) (n1 : Int) (b1 : Bool) (v1 : V) (w : World) (w0 : ResultArg w a0 len0 ps0 n0 v0) (w1 : ResultArg w a1 len1 ps1 n1 v1) :
    Calls Try.prog 3 #[.agg (scs a0 len0 cap0 n0 b0 v0).toArray, .agg (scs a1 len1 cap1 n1 b1 v1).toArray] w fun e w' => e = .returned (.bool true) ∧ Below w.heap.size w w' := by
  exact lawSameResult a0 len0 cap0 ps0 n0 b0 v0.ty v0.n v0.s a1 len1 cap1 ps1 n1 b1 v1.ty v1.n v1.s w w0.2.2.2.2 (fun p hp v hv => ((w0.1.2.2.1 p hp).2.1 v hv).2.2) (rows_arg w0.1.1 w0.1.2.1 w0.1.2.2.1 w0.1.2.2.2) w1.2.2.2.2 (fun p hp v hv => ((w1.1.2.2.1 p hp).2.1 v hv).2.2) (rows_arg w1.1.1 w1.1.2.1 w1.1.2.2.1 w1.1.2.2.2)

set_option maxRecDepth 100000 in
theorem lifted (os : Os) (started : os.Started) (H : Type) (enc : TypeId × Value → H) :
    ReturnsInHanded {} Try.checked os 3 .any (Rows.fnExactSameResultSpec.pre6 enc Try.prog Try.f3 Rows.fnExactSameResultRow.domain false) (Rows.fnExactSameResultSpec.post enc Try.prog Try.f3 false true false false) := by
  refine returnsInHanded_of_change (C := Try.checked) own started (by kernel_rfl) Try.func3
    (ChangeSpec.witness6 (enc := enc) (C := Try.checked) false ⟨#[], #[.agg #[.slice none 0 0, .int .i64 0, .bool false, .int .i64 0, .int .i64 0, .string ⟨#[]⟩], .agg #[.slice none 0 0, .int .i64 0, .bool false, .int .i64 0, .int .i64 0, .string ⟨#[]⟩]], []⟩ 8 (by kernel_rfl) (by kernel_rfl) (by kernel_rfl) (by kernel_rfl)) ?_
  intro W base args ds gs before hval0 hW hcnd _
  have hval : ∀ (j : Nat) t v, Try.f3.params[j]? = some t → args[j]? = some v → Value.okWide Try.prog W .any base t v := hval0
  have hW' := hW
  obtain ⟨p, q, hA0, hV, rfl, hfz, hnd⟩ := hW
  have hA : DataW.TrodAll enc Try.prog W 0 (fun _ => true) true Try.f3.params.toList args.toList ds p := hA0
  rw [Try.params3] at hA hval
  obtain ⟨v0V, vs0, d0, ds0, p0, q0, hargs, rfl, rfl, h0, r0⟩ := trodAll_cons hA
  obtain ⟨v1V, vs1, d1, ds1, p1, q1, rfl, rfl, rfl, h1, r1⟩ := trodAll_cons r0
  obtain ⟨rfl, rfl, rfl⟩ := trodAll_nil r1
  obtain rfl : args = #[v0V, v1V] := by cases args; simp_all
  obtain ⟨rfl, rfl⟩ := trodVars_none hV
  have k0 := h0
  have lt0 : ∀ x ∈ p0, x.block < W.heap.size := by obtain ⟨m, hm⟩ := k0; exact DataW.trod_lt m _ _ _ hm
  obtain ⟨a0, len0, cap0, ps0, n0, b0, v0, rfl, w0⟩ : ∃ (a : Option Addr) (len cap : Nat) (ps : List P) (n : Int) (has : Bool) (v : V), v0V = .agg (scs a len cap n has v).toArray ∧ ResultArg W a len ps n v := by
    obtain ⟨cs, rfl, hsz⟩ := okWide_struct Try.underlying26 (hval 0 26 v0V rfl rfl)
    obtain ⟨fuel, hf⟩ := h0
    obtain ⟨a, len, cap, ps, n, b, v, hcs, hw⟩ := trod_result hf
    refine ⟨a, len, cap, ps, n, b, v, ?_, hw⟩
    have e : cs = (scs a len cap n b v).toArray := by
      apply Array.toList_inj.1
      simpa [Value.cells] using hcs
    rw [e]
  have k1 := h1
  have lt1 : ∀ x ∈ p1, x.block < W.heap.size := by obtain ⟨m, hm⟩ := k1; exact DataW.trod_lt m _ _ _ hm
  obtain ⟨a1, len1, cap1, ps1, n1, b1, v1, rfl, w1⟩ : ∃ (a : Option Addr) (len cap : Nat) (ps : List P) (n : Int) (has : Bool) (v : V), v1V = .agg (scs a len cap n has v).toArray ∧ ResultArg W a len ps n v := by
    obtain ⟨cs, rfl, hsz⟩ := okWide_struct Try.underlying26 (hval 1 26 v1V rfl rfl)
    obtain ⟨fuel, hf⟩ := h1
    obtain ⟨a, len, cap, ps, n, b, v, hcs, hw⟩ := trod_result hf
    refine ⟨a, len, cap, ps, n, b, v, ?_, hw⟩
    have e : cs = (scs a len cap n b v).toArray := by
      apply Array.toList_inj.1
      simpa [Value.cells] using hcs
    rw [e]
  clear hA0 hval0
  refine (walk a0 len0 cap0 ps0 n0 b0 v0 a1 len1 cap1 ps1 n1 b1 v1 W w0 w1).mono fun e W' ⟨he, bel⟩ => ?_
  subst he
  exact ⟨_, rfl, _, _, _, [], _, [], hW', trodAll_mk1 (shut_bool Try.underlying4 _), (trodAll_cons_mk (Below.trod laidOut (by kernel_rfl) (of_decide_eq_true (by kernel_rfl)) k0 bel lt0) (trodAll_cons_mk (Below.trod laidOut (by kernel_rfl) (of_decide_eq_true (by kernel_rfl)) k1 bel lt1) trodAll_mk0)), rfl, bel.frame _, fun h => by cases h⟩

theorem over : Rows.fnExactSameResultRow.holds Try.pinned (OpenSpec.ofChange Rows.fnExactSameResultSpec) :=
  OpenClaim.holds_of_wide 3 Try.f3 rfl rfl rfl rfl rfl rfl rfl ⟨rfl, rfl, rfl, rfl, rfl⟩ rfl rfl rfl rfl rfl (by kernel_rfl) Try.func3 (by kernel_rfl)
    (of_decide_eq_true (by kernel_rfl)) (by unfold Func.isWrapper; first | (rw [if_pos (by decide +kernel)]; kernel_rfl) | (rw [if_neg (by decide +kernel)]; exact ⟨rfl, rfl⟩))
    (fun os started H enc _ => lifted os started H enc)

theorem proved : Rows.FnExactSameResultSaid := over
end Go.Proofs.Ytafoldpmodipaaa.fnExactSameResult

namespace Go.Proofs.Ytafoldpmodipaaa
theorem fnExactSameResult_holds : Rows.FnExactSameResultSaid := fnExactSameResult.proved
end Go.Proofs.Ytafoldpmodipaaa
