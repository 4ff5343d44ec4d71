/- The contracts of l1Nums, l1Bytes, DrawZigZag, DrawZagZig, DrawPutNum, DrawPutNums. -/
import Derived.Test.YtcnackecchjckaaDrawOne
import Derived.Test.YtcnackecchjckaaPut
import Derived.Test.YtcnackecchjckaaInts
namespace Go.Proofs.Ytcnackecchjckaa
open Go.RowKit

/-- An owned slice is not the cursor's block, and outlives a draw. -/
theorem Own.draw {e size lo hi w w' v n xs} {g : Nat} (h : Own e size lo hi w v n xs) (hg : w.grownBy w' (some g)) (hlt : g < lo) : Own e size lo hi w' v n xs :=
  h.grown hg (fun k hk => by simp at hk; omega)
theorem Cur.own {c : Code} {g lo hi : Nat} {e size w w' v v' n xs} (h : Cur c g w) (ho : Own e size lo hi w v n xs) (hx : Ext w w' v v') (hlt : g < lo) (ha : ∀ x, c.a = some x → 0 < c.len → x.block < lo) : Cur c g w' := by
  refine h.grown hx.grown (fun k hk => ?_)
  have := ho.block k hk
  exact ⟨by omega, fun x hx hl => by have := ha x hx hl; omega⟩
theorem Code.In.lt {c : Code} {w : World} (h : c.In w) : ∀ x, c.a = some x → 0 < c.len → x.block < w.heap.size := by
  intro x hx hl
  rcases h.arg.2 with h0 | ⟨b, off, ha, hc⟩
  · omega
  · rw [ha] at hx
    simp at hx
    subst hx
    exact lt_of_cell (hc 0 hl)

/-- A drawn slice of bytes. -/
def DrewBytes (c : Code) (g : Nat) (m : Nat) (w : World) (e : Ending) (w' : World) : Prop :=
  ∃ (v : Value) (zs : List Int), e = .returned v ∧ Num.Bytes zs ∧ zs.length ≤ m ∧ Own 5 1 w.heap.size w'.heap.size w' v zs.length (ints .u8 zs) ∧ Cur c g w' ∧ w.grownBy w' (some g)

theorem ext_grown {w w1 w2 : World} {v v' : Value} {g : Nat} {e size lo hi n xs} (h : w.grownBy w1 (some g)) (ho : Own e size lo hi w1 v n xs) (hl : w.heap.size ≤ lo) (hx : Ext w1 w2 v v') : w.grownBy w2 (some g) := by
  have hs := h.size
  refine ⟨hx.grown.os.trans h.os, hx.grown.tape.trans h.tape, hx.grown.output.trans h.output, Nat.le_trans hs hx.grown.size, fun k hk hne => ?_⟩
  refine (hx.grown.block k (by omega) (fun e => ?_)).trans (h.block k hk hne)
  have := ho.block k e.symm
  omega

/-- A drawn slice of integers. -/
def DrewInts (c : Code) (g : Nat) (m : Nat) (w : World) (e : Ending) (w' : World) : Prop :=
  ∃ (v : Value) (l : List Int), e = .returned v ∧ l.length ≤ m ∧ Own 3 1 w.heap.size w'.heap.size w' v l.length (ints .i64 l) ∧ Cur c g w' ∧ w.grownBy w' (some g)

end Go.Proofs.Ytcnackecchjckaa
