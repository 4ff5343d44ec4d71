/- Texts of this claim, one behind the other: OpLaw. -/
import Derived.Test.YtkofafefnlommaaDoorP3
import Derived.Lib.AppendStr

/- append as one operation of a region that draws its order. -/
namespace Go.Proofs.YtkofafefnlommaaDoor
open Go.RowKit Go.Lib

/-- append(s, x), as one operation: x, one cell, has just been laid in a block of its own. -/
theorem append1_op {P : Program} {t e : TypeId} {z : Value} {bytes : Nat} (T : ElemT P t e z 1 bytes) {w : World} {o : Oper} {a : Act} {K : Act → World → Prop} {Q : Exit → Act → World → Prop} (s x : Operand)
    (ho : o.op = .call { callee := .builtin .append, args := #[s, x], argTypes := #[t, t] })
    (lo hi : Nat) (v : Value) (n : Nat) (xs : List Value) (u : Value) (hu : u.oneCell' = true) (hs : a.eval s = v) (hown : Own e 1 lo hi w v n xs)
    (hx : a.eval x = .slice (some ⟨w.heap.size, 0, none⟩) 1 1)
    (h63 : n + 1 ≤ maxLen) (hbytes : (n + 1) * bytes ≤ 140737488355328)
    (h : ∀ v' w', Own e 1 lo w'.heap.size w' v' (n + 1) (xs ++ [u]) → Ext (w.alloc (.cells #[u] e)) w' v v' → K (a.put o.dst v') w') : Oper.wp P o a (w.alloc (.cells #[u] e)) K Q := by
  obtain ⟨v', w', hr, h2, h3⟩ := append_block (w.alloc (.cells #[u] e)) t o.type e z 1 bytes T lo hi v n xs (hown.alloc _) ⟨w.heap.size, 0, none⟩ 1 1 [u] rfl (fun j y hj => cell_new w u e j y hj) (fun y hy => by simp at hy; subst hy; exact hu) h63 hbytes
  unfold Oper.wp execOp
  simp only [ho, resolve, invoke, builtin, Sem.run_bind, Sem.run_pure, Result.andThen_ok, List.map_toArray, List.map_cons, List.map_nil, hs, hx, hr]
  exact h v' w' h2 h3
/-- The bytes of a string. -/
def sbytes (s : ByteArray) : List Int := s.data.toList.map fun b => (b.toNat : Int)
theorem sbytes_len (s : ByteArray) : (sbytes s).length = s.size := by
  unfold sbytes
  rw [List.length_map, Array.length_toList]
  rfl
theorem strCells_eq (s : ByteArray) : strCells s = ints .u8 (sbytes s) := by
  simp [strCells, sbytes, ints]
/-- append(b, s...), s a string, as one operation. -/
theorem appendS_op {P : Program} {t u e : TypeId} (T : ElemT P t e (.int .u8 0) 1 1) (hu : P.underlying u = some .string) {w : World} {o : Oper} {a : Act} {K : Act → World → Prop} {Q : Exit → Act → World → Prop} (b x : Operand)
    (ho : o.op = .call { callee := .builtin .append, args := #[b, x], argTypes := #[t, u] })
    (lo hi : Nat) (v : Value) (n : Nat) (xs : List Value) (s : ByteArray) (hs : a.eval b = v) (hown : Own e 1 lo hi w v n xs)
    (hx : a.eval x = .string s) (h63 : n + s.size ≤ maxLen) (hbytes : n + s.size ≤ 140737488355328)
    (h : ∀ v' w', Own e 1 lo w'.heap.size w' v' (n + s.size) (xs ++ ints .u8 (sbytes s)) → Below lo w w' → K (a.put o.dst v') w') : Oper.wp P o a w K Q := by
  obtain ⟨i, hi', hz, hsz, hb⟩ := T.info
  obtain ⟨v', w', hr, h2, h3, h4⟩ := run_append_own_string (P := P) w lo t u o.type e i T.ht hu hi' hz hsz hb v n xs hown.row s h63 hbytes hown.lo
  rw [strCells_eq] at h2
  unfold Oper.wp execOp
  simp only [ho, resolve, invoke, builtin, Sem.run_bind, Sem.run_pure, Result.andThen_ok, List.map_toArray, List.map_cons, List.map_nil, hs, hx, hr]
  exact h v' w' (hown.append h2 h4) ((Below.refl lo w).grown h3 hown.lo hown.block)

end Go.Proofs.YtkofafefnlommaaDoor
