/- Texts of this claim, one behind the other: Via. -/
import Derived.Test.YtkofafefnlommaaDoorP4
import Derived.Test.YtkofafefnlommaaDoorP3
import Derived.Test.YtkofafefnlommaaDoorP2

/- A code's normal end told by a predicate R: what stands behind it is walked once, however many orders its operations may take. -/
namespace Go.Proofs.YtkofafefnlommaaDoor
open Go.RowKit

/-- R at a normal end; no other end. -/
def Only (R : Act → World → Prop) : Exit → Act → World → Prop
  | .normal, a, w => R a w
  | _, _, _ => False
theorem wp_via {P : Program} {c : Code} {Q : Exit → Act → World → Prop} {a : Act} {w : World} (R : Act → World → Prop) (h1 : c.wp P (Only R) a w) (h2 : ∀ a' w', R a' w' → Q .normal a' w') : c.wp P Q a w :=
  Code.wp_mono (fun e a' w' h => by
    cases e with
    | normal => exact h2 a' w' h
    | _ => exact (h : False).elim) h1
def slot (a : Act) (i : Nat) : Value := a.tmps.toList.getD i undef
theorem within_set (w : World) (b j : Nat) (u : Value) : Within b (b + 1) w (w.setCell ⟨b, j, none⟩ u) :=
  ⟨rfl, rfl, rfl, by simp [World.setCell], fun k _ hr => Below.heap_setCell _ _ _ _ (fun e => by simp at e; omega)⟩

theorem step_of {P : Program} {ops : Array Oper} {o : Oper} {a : Act} {w : World} {K : Act → World → Prop} {Q : Exit → Act → World → Prop} {E : Prop} (hg : o.guard = none) (h : Oper.wp P o a w K Q) :
    if Region.wanted o (yielded ops a.tmps) = true then Oper.wp P o a w K Q else E := by
  rw [if_pos (by simp [Region.wanted, hg])]
  exact h
theorem callTQ_op {w : World} {o : Oper} {a : Act} {K : Act → World → Prop} {Q : Exit → Act → World → Prop} (dst : Tmp) (hdst : o.dst = some dst) (i : Nat) (t1 : TypeId)
    (ho : o.op = .call { callee := .value (.func 14), args := #[.tmp i], argTypes := #[t1] }) (u : Value) (hi : a.eval (.tmp i) = u)
    (h : Calls Tryd.prog 14 #[u] w fun e w' => ∃ r, e = .returned r ∧ K (a.put (some dst) r) w') : Oper.wp Tryd.prog o a w K Q := by
  unfold Oper.wp
  have e : (execOp a.eval o).run Tryd.prog w = .ok (.enter 14 #[u]) w := by
    simp only [Act.eval] at hi
    unfold execOp
    go_simp
  rw [e, Oper.upon_enter]
  refine h.mono ?_
  rintro e w' ⟨r, rfl, hk⟩
  simp only [hdst]
  exact hk
theorem callTR_op {w : World} {o : Oper} {a : Act} {K : Act → World → Prop} {Q : Exit → Act → World → Prop} (dst : Tmp) (hdst : o.dst = some dst) (i : Nat) (t1 : TypeId)
    (ho : o.op = .call { callee := .value (.func 15), args := #[.tmp i], argTypes := #[t1] }) (u : Value) (hi : a.eval (.tmp i) = u)
    (h : Calls Tryd.prog 15 #[u] w fun e w' => ∃ r, e = .returned r ∧ K (a.put (some dst) r) w') : Oper.wp Tryd.prog o a w K Q := by
  unfold Oper.wp
  have e : (execOp a.eval o).run Tryd.prog w = .ok (.enter 15 #[u]) w := by
    simp only [Act.eval] at hi
    unfold execOp
    go_simp
  rw [e, Oper.upon_enter]
  refine h.mono ?_
  rintro e w' ⟨r, rfl, hk⟩
  simp only [hdst]
  exact hk
theorem callSJ_op {w : World} {o : Oper} {a : Act} {K : Act → World → Prop} {Q : Exit → Act → World → Prop} (dst : Tmp) (hdst : o.dst = some dst) (i j l : Nat) (t1 t2 t3 : TypeId)
    (ho : o.op = .call { callee := .value (.func 19), args := #[.tmp i, .tmp j, .tmp l], argTypes := #[t1, t2, t3] }) (u v s : Value) (hi : a.eval (.tmp i) = u) (hj : a.eval (.tmp j) = v) (hl : a.eval (.tmp l) = s)
    (h : Calls Tryd.prog 19 #[u, v, s] w fun e w' => ∃ r, e = .returned r ∧ K (a.put (some dst) r) w') : Oper.wp Tryd.prog o a w K Q := by
  unfold Oper.wp
  have e : (execOp a.eval o).run Tryd.prog w = .ok (.enter 19 #[u, v, s]) w := by
    simp only [Act.eval] at hi hj hl
    unfold execOp
    go_simp
  rw [e, Oper.upon_enter]
  refine h.mono ?_
  rintro e w' ⟨r, rfl, hk⟩
  simp only [hdst]
  exact hk
theorem callIJ_op {w : World} {o : Oper} {a : Act} {K : Act → World → Prop} {Q : Exit → Act → World → Prop} (dst : Tmp) (hdst : o.dst = some dst) (i j l : Nat) (t1 t2 t3 : TypeId)
    (ho : o.op = .call { callee := .value (.func 20), args := #[.tmp i, .tmp j, .tmp l], argTypes := #[t1, t2, t3] }) (u v s : Value) (hi : a.eval (.tmp i) = u) (hj : a.eval (.tmp j) = v) (hl : a.eval (.tmp l) = s)
    (h : Calls Tryd.prog 20 #[u, v, s] w fun e w' => ∃ r, e = .returned r ∧ K (a.put (some dst) r) w') : Oper.wp Tryd.prog o a w K Q := by
  unfold Oper.wp
  have e : (execOp a.eval o).run Tryd.prog w = .ok (.enter 20 #[u, v, s]) w := by
    simp only [Act.eval] at hi hj hl
    unfold execOp
    go_simp
  rw [e, Oper.upon_enter]
  refine h.mono ?_
  rintro e w' ⟨r, rfl, hk⟩
  simp only [hdst]
  exact hk
theorem allocR_op {w : World} {o : Oper} {a : Act} {K : Act → World → Prop} {Q : Exit → Act → World → Prop} (dst : Tmp) (hdst : o.dst = some dst) (ho : o.op = .alloc 50)
    (h : K (a.put (some dst) (.pointer (some ⟨w.heap.size, 0, none⟩))) (w.alloc (.cells #[.slice none 0 0, .int .i64 0, .bool false, .int .i64 0, .int .i64 0, .string ⟨#[]⟩] 50))) : Oper.wp Tryd.prog o a w K Q := by
  unfold Oper.wp
  have e : (execOp a.eval o).run Tryd.prog w = .ok (.value (.pointer (some ⟨w.heap.size, 0, none⟩))) (w.alloc (.cells #[.slice none 0 0, .int .i64 0, .bool false, .int .i64 0, .int .i64 0, .string ⟨#[]⟩] 50)) := by
    unfold execOp
    go_simp
  rw [e, Oper.upon_value, hdst]
  exact h
theorem storeR_op {w : World} {o : Oper} {a : Act} {K : Act → World → Prop} {Q : Exit → Act → World → Prop} (i j : Nat) (hdst : o.dst = none) (ho : o.op = .store 50 (.tmp i) (.tmp j)) (N : Nat) (u0 u1 u2 u3 u4 u5 : Value) (sa : Option Addr) (sn sc : Nat) (x1 x3 x4 : Int) (x2 : Bool) (x5 : ByteArray)
    (hx : a.eval (.tmp i) = .pointer (some ⟨N, 0, none⟩)) (hy : a.eval (.tmp j) = .agg #[(.slice sa sn sc), (.int .i64 x1), (.bool x2), (.int .i64 x3), (.int .i64 x4), (.string x5)]) (hB : Blk w N [u0, u1, u2, u3, u4, u5])
    (h : K a ((((((w.setCell ⟨N, 0, none⟩ (.slice sa sn sc)).setCell ⟨N, 1, none⟩ (.int .i64 x1)).setCell ⟨N, 2, none⟩ (.bool x2)).setCell ⟨N, 3, none⟩ (.int .i64 x3)).setCell ⟨N, 4, none⟩ (.int .i64 x4)).setCell ⟨N, 5, none⟩ (.string x5))) : Oper.wp Tryd.prog o a w K Q := by
  simp only [Act.eval] at hx hy
  obtain ⟨m0, f0⟩ := hB 0 _ rfl
  obtain ⟨m1, f1⟩ := hB 1 _ rfl
  obtain ⟨m2, f2⟩ := hB 2 _ rfl
  obtain ⟨m3, f3⟩ := hB 3 _ rfl
  obtain ⟨m4, f4⟩ := hB 4 _ rfl
  obtain ⟨m5, f5⟩ := hB 5 _ rfl
  unfold Oper.wp execOp
  go_simp
  exact h


end Go.Proofs.YtkofafefnlommaaDoor
