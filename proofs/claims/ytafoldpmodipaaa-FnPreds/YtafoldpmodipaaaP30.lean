/- Texts of this claim, one behind the other: IInv. -/
import Derived.Test.YtafoldpmodipaaaP28
import Derived.OwnWalkIn
import Derived.TacticsInMore
import Derived.RangeFuncCalls

/- A call through an interface, of whatever dynamic type, within the wide fence: by what the call leads to. -/
namespace Go.Proofs.Ytafoldpmodipaaa
open Go.RowKit

theorem wpListIn_invoke {F : Fence} {n : Nat} {P : Program} {ops : Array Oper} {rest : List Oper} {o : Oper} {a : Act} {Q : Exit → Act → World → Prop} {w : World} (hF : ∀ f, F.fn f) (hd : F.depth = none) (hgd : o.guard = none) (x : Operand) (name : String)
    (ho : o.op = .call { callee := .invoke x name, args := #[], argTypes := #[] }) (cv : Value) (hx : a.eval x = cv) (fo : Nat) (recv : Value) (hcm : (callMethod cv name #[]).run P w = .ok (.enter fo #[recv]) w) (R : Ending → World → Prop) (hC : CallsIn F (n - 1) P fo #[recv] w R)
    (hR : ∀ e w', R e w' → ∃ v, e = .returned v ∧ wpListIn F n P ops Q rest (a.put o.dst v) w') : wpListIn F n P ops Q (o :: rest) a w := by
  refine wpListIn_plain hgd fun K hK => ?_
  unfold Oper.wpIn
  refine ⟨fun f _ => hF f, ?_⟩
  rw [Oper.semAt_plain F _ _ (by rw [ho]; intro c hc'; cases hc')]
  have e : (execOp a.eval o).run P w = .ok (.enter fo #[recv]) w := by
    simp [execOp, ho, resolve, invoke, hx, hcm]
  rw [e]
  refine ⟨fun h => (by rw [hd] at h; cases h), hC.mono (fun e w' he => ?_)⟩
  obtain ⟨v, rfl, hv⟩ := hR e w' he
  exact hK _ _ hv

/-- append(s, x...) within a fence, by its run. -/
theorem wpListIn_append_run {F : Fence} {n : Nat} {P : Program} {ops : Array Oper} {rest : List Oper} {o : Oper} {a : Act} {Q : Exit → Act → World → Prop} {w : World} (hgd : o.guard = none) (s x : Operand) (t : TypeId)
    (ho : o.op = .call { callee := .builtin .append, args := #[s, x], argTypes := #[t, t] }) (vs vx : Value) (hs : a.eval s = vs) (hx : a.eval x = vx) (v' : Value) (w' : World) (hr : ∀ ty, (Builtin.append_ #[t, t] ty #[vs, vx]).run P w = .ok v' w')
    (h : wpListIn F n P ops Q rest (a.put o.dst v') w') : wpListIn F n P ops Q (o :: rest) a w := by
  refine wpListIn_plain hgd fun K hK => ?_
  unfold Oper.wpIn
  refine ⟨by simp [Oper.about, ho, resolve, Target.leads, Sem.run_pure], ?_⟩
  rw [Oper.semAt_plain F _ _ (by rw [ho]; intro c hc'; cases hc')]
  simp [execOp, ho, resolve, invoke, builtin, hs, hx, hr, Result.andThen]
  exact hK _ _ h

/-- A call of a function value that has captured one variable, within a fence. -/
theorem wpListIn_callv {F : Fence} {n : Nat} {P : Program} {ops : Array Oper} {rest : List Oper} {o : Oper} {a : Act} {Q : Exit → Act → World → Prop} {w : World} (hF : ∀ f, F.fn f) (hd : F.depth = none) (hgd : o.guard = none) (x y : Operand) (tys : Array TypeId)
    (ho : o.op = .call { callee := .value x, args := #[y], argTypes := tys }) (fc : Nat) (ca v : Value) (hx : a.eval x = .func (.func fc) #[] #[ca]) (hy : a.eval y = v) (heg : ∀ args w, (callFunc fc args).run P w = .ok (.enter fc args) w) (R : Ending → World → Prop) (hC : CallsIn F (n - 1) P fc #[v, ca] w R)
    (hR : ∀ e w', R e w' → ∃ u, e = .returned u ∧ wpListIn F n P ops Q rest (a.put o.dst u) w') : wpListIn F n P ops Q (o :: rest) a w := by
  refine wpListIn_plain hgd fun K hK => ?_
  unfold Oper.wpIn
  refine ⟨fun f _ => hF f, ?_⟩
  rw [Oper.semAt_plain F _ _ (by rw [ho]; intro c hc'; cases hc')]
  have e : (execOp a.eval o).run P w = .ok (.enter fc #[v, ca]) w := by
    simp [execOp, ho, resolve, invoke, hx, hy, Deferred.ofValue, heg]
  rw [e]
  refine ⟨fun h => (by rw [hd] at h; cases h), hC.mono (fun e w' he => ?_)⟩
  obtain ⟨v, rfl, hv⟩ := hR e w' he
  exact hK _ _ hv

/-- append(s, x...) as one operation, by its run. -/
theorem append_run_op {P : Program} {w : World} {o : Oper} {a : Act} {K : Act → World → Prop} {Q : Exit → Act → World → Prop} (s x : Operand) (t : TypeId) (ho : o.op = .call { callee := .builtin .append, args := #[s, x], argTypes := #[t, t] })
    (vs vx : Value) (hs : a.eval s = vs) (hx : a.eval x = vx) (v' : Value) (w' : World) (hr : ∀ ty, (Builtin.append_ #[t, t] ty #[vs, vx]).run P w = .ok v' w') (h : K (a.put o.dst v') w') : Oper.wp P o a w K Q := by
  unfold Oper.wp execOp
  simp only [ho, resolve, invoke, builtin, Sem.run_bind, Sem.run_pure, Result.andThen_ok, List.map_toArray, List.map_cons, List.map_nil, hs, hx, hr]
  exact h

end Go.Proofs.Ytafoldpmodipaaa
