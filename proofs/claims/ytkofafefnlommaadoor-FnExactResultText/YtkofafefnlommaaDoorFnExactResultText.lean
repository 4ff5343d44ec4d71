/- For every input, laws.FnExactResultText returns true and each argument reads afterwards as it read before; the library's listed package-level variables start as the program's text lays them (the card ties them). No other condition beyond the form's own (each string, slice and map that is read takes at most 2^47 - 4096 bytes). -/
import Derived.Test.YtkofafefnlommaaDoorCards
import Derived.Test.YtkofafefnlommaaDoorTie
import Derived.Test.YtkofafefnlommaaDoorP34
import Derived.Test.YtkofafefnlommaaDoorP20
import Derived.Test.YtkofafefnlommaaDoorP23
import Derived.WalkKit
import Derived.ProofKit
import Derived.OpenShut
import Derived.ShutString
import Derived.ChangeOld
import Derived.Below
import Derived.Lay
import Derived.MakeChecks
import Derived.Deep.DeepHandedRow
import Derived.Deep.DeepWitnessRowRef
namespace Go.Proofs.YtkofafefnlommaaDoor.fnExactResultText
open Go.ChangeShapes Go.WideShapes Go.ChangeAt Go.RowKit
open Go.ChangeMaps (open_string shut_string)
set_option linter.unusedVariables false

theorem own : ownKnob Tryd.prog.godebug = none := by kernel_rfl
theorem laidOut : laidOutB Tryd.prog = true := by kernel_rfl

set_option maxRecDepth 100000 in
theorem contract (H : Type) (enc : TypeId × Value → H) (W : World) (base : Nat) (args : Array Value) (ds gs : List (DataW H)) (before : List MemPlace)
    (hval : ∀ (j : Nat) t v, Tryd.f4.params[j]? = some t → args[j]? = some v → Value.okWide Tryd.prog W .any base t v)
    (hW : DataW.Whole enc Tryd.prog Tryd.f4.params.toList Rows.fnExactResultTextSpec.vars false W args.toList ds gs before) (hLH : laidMetH Tryd.prog Rows.fnExactResultTextRow.laid W) :
    Calls Tryd.prog 4 args W fun e W' => ∃ v, e = .returned v ∧ Rows.fnExactResultTextSpec.post enc Tryd.prog Tryd.f4 false true false false W args v W' := by
  have hL : laidMet Tryd.prog Rows.fnExactResultTextRow.laid W := by
    rw [MakeChecks.laidMetH_plain _ _ _ (by kernel_rfl)] at hLH
    exact hLH
  have hW' := hW
  obtain ⟨p, q, hA0, hV, rfl, hfz, hnd⟩ := hW
  have hA : DataW.TrodAll enc Tryd.prog W 0 (fun _ => true) true Tryd.f4.params.toList args.toList ds p := hA0
  rw [Tryd.params4] at hA hval
  obtain ⟨v0V, vs0, d0, ds0, p0, q0, hargs, rfl, rfl, h0, r0⟩ := trodAll_cons hA
  obtain ⟨v1V, vs1, d1, ds1, p1, q1, rfl, rfl, rfl, h1, r1⟩ := trodAll_cons r0
  obtain ⟨rfl, rfl, rfl⟩ := trodAll_nil r1
  obtain rfl : args = #[v0V, v1V] := by cases args; simp_all
  obtain ⟨rfl, rfl⟩ := trodVars_none hV
  have k0 := h0
  have lt0 : ∀ x ∈ p0, x.block < W.heap.size := by obtain ⟨m, hm⟩ := k0; exact DataW.trod_lt m _ _ _ hm
  obtain ⟨qk0, qc0, tt0, uu0, a0, len0, cap0, z0, rfl, w0⟩ : ∃ (qk qc : Int) (t : T) (u : Value) (a : Option Addr) (len cap : Nat) (zs : List Int), v0V = .agg (qcs qk qc t u a len cap).toArray ∧ QueryArg W qk qc t u a len zs := by
    obtain ⟨cs, rfl, hsz⟩ := okWide_struct Tryd.underlying38 (hval 0 38 v0V rfl rfl)
    obtain ⟨fuel, hf⟩ := h0
    obtain ⟨qk, qc, t, u, a, len, cap, zs, hcs, hw⟩ := trod_query hf
    refine ⟨qk, qc, t, u, a, len, cap, zs, ?_, hw⟩
    have e : cs = (qcs qk qc t u a len cap).toArray := by
      apply Array.toList_inj.1
      simpa [Value.cells] using hcs
    rw [e]
  have k1 := h1
  have lt1 : ∀ x ∈ p1, x.block < W.heap.size := by obtain ⟨m, hm⟩ := k1; exact DataW.trod_lt m _ _ _ hm
  obtain ⟨a1, len1, cap1, ps1, n1, b1, v1, rfl, w1⟩ : ∃ (a : Option Addr) (len cap : Nat) (ps : List P) (n : Int) (has : Bool) (v : V), v1V = .agg (scs a len cap n has v).toArray ∧ ResultArg W a len ps n v := by
    obtain ⟨cs, rfl, hsz⟩ := okWide_struct Tryd.underlying41 (hval 1 41 v1V rfl rfl)
    obtain ⟨fuel, hf⟩ := h1
    obtain ⟨a, len, cap, ps, n, b, v, hcs, hw⟩ := trod_result hf
    refine ⟨a, len, cap, ps, n, b, v, ?_, hw⟩
    have e : cs = (scs a len cap n b v).toArray := by
      apply Array.toList_inj.1
      simpa [Value.cells] using hcs
    rw [e]
  clear hA0
  have walk : Calls Tryd.prog 4 #[.agg (qcs qk0 qc0 tt0 uu0 a0 len0 cap0).toArray, .agg (scs a1 len1 cap1 n1 b1 v1).toArray] W fun e w' => e = .returned (.bool true) ∧ Below W.heap.size W w' := by
    exact lawResultText qk0 qc0 tt0 uu0 a0 len0 cap0 z0 a1 len1 cap1 ps1 n1 b1 v1.ty v1.n v1.s W w0.2.1 w0.2.2.1 w0.1.small w0.1.rd w1.2.2.2.2 (fun p hp v hv => ((w1.1.2.2.1 p hp).2.1 v hv).2.2) (rows_arg w1.1.1 w1.1.2.1 w1.1.2.2.1 w1.1.2.2.2) (fun p hp => bounds_i64 (w1.1.2.2.1 p hp).2.2) (bounds_i64 w1.2.1) (tab_of hL)
  refine walk.mono fun e W' ⟨he, bel⟩ => ?_
  subst he
  exact ⟨_, rfl, _, _, _, [], _, [], hW', trodAll_mk1 (shut_bool Tryd.underlying4 _), (trodAll_cons_mk (Below.trod laidOut (by kernel_rfl) (of_decide_eq_true (by kernel_rfl)) k0 bel lt0) (trodAll_cons_mk (Below.trod laidOut (by kernel_rfl) (of_decide_eq_true (by kernel_rfl)) k1 bel lt1) trodAll_mk0)), rfl, bel.frame _, fun h => by cases h⟩

theorem laid_met (os : Os) : laidMet Tryd.prog Rows.fnExactResultTextRow.laid ((World.laidAll Tryd.prog os Rows.fnExactResultTextRow.laid).forCall (fun _ _ => 0) ⟨#[], #[.agg #[.int .i64 0, .int .i64 0, .int .i64 0, .int .i64 0, .int .i64 0, .int .i64 0, .string ⟨#[]⟩, .slice none 0 0, .int .i64 0, .slice none 0 0], .agg #[.slice none 0 0, .int .i64 0, .bool false, .int .i64 0, .int .i64 0, .string ⟨#[]⟩]], []⟩).memory :=
  laidMet_laidAll _ (by kernel_rfl) (by kernel_rfl)
theorem reads (os : Os) {H : Type} (enc : TypeId × Value → H) : ∃ places, DataW.whole enc Tryd.prog ((World.laidAll Tryd.prog os Rows.fnExactResultTextRow.laid).forCall (fun _ _ => 0) ⟨#[], #[.agg #[.int .i64 0, .int .i64 0, .int .i64 0, .int .i64 0, .int .i64 0, .int .i64 0, .string ⟨#[]⟩, .slice none 0 0, .int .i64 0, .slice none 0 0], .agg #[.slice none 0 0, .int .i64 0, .bool false, .int .i64 0, .int .i64 0, .string ⟨#[]⟩]], []⟩).memory Tryd.f4.params.toList Rows.fnExactResultTextSpec.vars false #[(.agg #[.int .i64 0, .int .i64 0, .int .i64 0, .int .i64 0, .int .i64 0, .int .i64 0, .string ⟨#[]⟩, .slice none 0 0, .int .i64 0, .slice none 0 0] : Value), (.agg #[.slice none 0 0, .int .i64 0, .bool false, .int .i64 0, .int .i64 0, .string ⟨#[]⟩] : Value)].toList 8 = some ([.agg [.lit (.int .i64 0), .agg [.lit (.int .i64 0), .lit (.int .i64 0), .lit (.int .i64 0), .agg [.lit (.int .i64 0), .lit (.int .i64 0), .lit (.string [])], .nil], .lit (.int .i64 0), .nil], .agg [.nil, .lit (.int .i64 0), .lit (.bool false), .agg [.lit (.int .i64 0), .lit (.int .i64 0), .lit (.string [])]]], [], places) :=
  ⟨[], by kernel_rfl⟩

set_option maxRecDepth 100000 in
theorem lifted (os : Os) (started : os.Started) (H : Type) (enc : TypeId × Value → H) (F : Stop.Interp) :
    ReturnsInHanded {} Tryd.checked os 4 .any ((OpenSpec.ofChange Rows.fnExactResultTextSpec).preRow enc Tryd.prog Tryd.f4 Rows.fnExactResultTextRow.domain false Rows.fnExactResultTextRow.laid) (((OpenSpec.ofChange Rows.fnExactResultTextSpec).at F).post enc Tryd.prog Tryd.f4 false true false false) := by
  obtain ⟨places, hx⟩ := reads os enc
  refine returnsInHanded_of_row (C := Tryd.checked) (s := OpenSpec.ofChange Rows.fnExactResultTextSpec) own started (by kernel_rfl) Tryd.func4
    (witness_row_atRef (enc := enc) (C := Tryd.checked) false (World.laidAll Tryd.prog os Rows.fnExactResultTextRow.laid) #[.agg #[.int .i64 0, .int .i64 0, .int .i64 0, .int .i64 0, .int .i64 0, .int .i64 0, .string ⟨#[]⟩, .slice none 0 0, .int .i64 0, .slice none 0 0], .agg #[.slice none 0 0, .int .i64 0, .bool false, .int .i64 0, .int .i64 0, .string ⟨#[]⟩]] (World.laidAll_os _ _ _) (by kernel_rfl) (by kernel_rfl) (by kernel_rfl)
      (OpenSpec.preRow_of_cond 8 hx (by kernel_rfl) (fun k hk => by cases hk) (by kernel_rfl) (laid_met os))) ?_
  intro W base args ds gs before hval hW _ _ _ hL _ _
  exact contract H enc W base args ds gs before hval hW hL

theorem said : Rows.FnExactResultTextSaid :=
  OpenClaim.holds_of_cond 4 Tryd.f4 rfl rfl rfl rfl rfl rfl rfl ⟨rfl, rfl, rfl, rfl, rfl⟩ rfl rfl rfl rfl rfl (by kernel_rfl) Tryd.func4 (by kernel_rfl)
    (of_decide_eq_true (by kernel_rfl)) (by unfold Func.isWrapper; first | (rw [if_pos (by decide +kernel)]; kernel_rfl) | (rw [if_neg (by decide +kernel)]; exact ⟨rfl, rfl⟩))
    (fun os started H enc _ F => by rw [OpenClaim.pre_eq_preRow]; exact lifted os started H enc F)

theorem plain (f : FuncId) (fn : Func) (hf : Tryd.pinned.checked.prog.funcNamed "loop.example/g00496/laws.FnExactResultText" = some f) (hfn : Tryd.pinned.checked.prog.funcs[f]? = some fn) :
    true = Tryd.pinned.checked.prog.looks [] ∧ ∀ (j : Nat) t, fn.params[j]? = some t → Tryd.pinned.checked.prog.wantsStandIn t = false := by
  obtain rfl : f = 4 := Option.some.inj ((show Tryd.prog.funcNamed "loop.example/g00496/laws.FnExactResultText" = some 4 by kernel_rfl).symm.trans hf) |>.symm
  obtain rfl : fn = Tryd.f4 := (Option.some.inj (Tryd.func4.symm.trans hfn)).symm
  refine ⟨by kernel_rfl, fun j t ht => ?_⟩
  rw [Tryd.params4] at ht
  have hm : t = 38 ∨ t = 41 := by simpa using Array.mem_of_getElem? ht
  rcases hm with rfl | rfl
  · exact (show Tryd.prog.wantsStandIn 38 = false by kernel_rfl)
  · exact (show Tryd.prog.wantsStandIn 41 = false by kernel_rfl)

theorem card : Rows.FnExactResultTextCardSaid :=
  Claim7.holds_tied_plain_at .later [] _ _ _ _ said (fun _ h => by cases h) (by kernel_rfl) (fun _ h => by cases h) fnExactResultText_row_tie rfl ⟨rfl, rfl⟩ (by kernel_rfl) rfl plain (by kernel_rfl)
end Go.Proofs.YtkofafefnlommaaDoor.fnExactResultText

namespace Go.Proofs.YtkofafefnlommaaDoor
theorem fnExactResultText_holds : Rows.FnExactResultTextCardSaid := fnExactResultText.card
end Go.Proofs.YtkofafefnlommaaDoor
