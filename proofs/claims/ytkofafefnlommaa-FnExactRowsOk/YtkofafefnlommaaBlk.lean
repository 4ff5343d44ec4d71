/- A block of cells that may be written, whatever its size. -/
import Derived.Test.YtkofafefnlommaaMem
namespace Go.Proofs.Ytkofafefnlommaa
open Go.RowKit

/-- Block b holds the cells cs, from its start on, and they may be written. -/
def Blk (W : World) (b : Nat) (cs : List Value) : Prop := ∀ i x, cs[i]? = some x → W.cell? ⟨b, i, none⟩ = some x ∧ W.frozen? ⟨b, i, none⟩ = false
theorem Blk.below {W W' : World} {b : Nat} {cs : List Value} (h : Blk W b cs) (hb : Below W.heap.size W W') : Blk W' b cs := fun i x hx =>
  ⟨(hb.cell (p := ⟨b, i, none⟩) (lt_of_cell (h i x hx).1)).trans (h i x hx).1, (hb.frozen (p := ⟨b, i, none⟩) (lt_of_cell (h i x hx).1)).trans (h i x hx).2⟩
theorem Blk.grown {W W' : World} {b : Nat} {row : Option Nat} {cs : List Value} (h : Blk W b cs) (hg : W.grownBy W' row) (hne : some b ≠ row) : Blk W' b cs := fun i x hx => by
  have hb := hg.block b (lt_of_cell (h i x hx).1) hne
  exact ⟨(World.cell?_of_block hb).trans (h i x hx).1, (World.frozen?_of_block hb).trans (h i x hx).2⟩
theorem Blk.draw {W W' : World} {b g : Nat} {cs : List Value} (h : Blk W b cs) (hg : W.grownBy W' (some g)) (hne : b ≠ g) : Blk W' b cs := h.grown hg (fun e => hne (by simpa using e))
theorem Blk.lt {W : World} {b : Nat} {x : Value} {cs : List Value} (h : Blk W b (x :: cs)) : b < W.heap.size := lt_of_cell (h 0 x rfl).1
theorem blk_new (w : World) (cs : List Value) (e : TypeId) : Blk (w.alloc (.cells cs.toArray e)) w.heap.size cs := fun i x hx => by
  constructor
  · rw [World.cell?_alloc_at _ _ _ _ rfl]
    simpa using hx
  · rw [World.frozen?_alloc_at _ _ _ _ rfl]
theorem Blk.other {W : World} {b : Nat} {cs : List Value} (h : Blk W b cs) {p : Addr} (hp : p.block ≠ b) (u : Value) : Blk (W.setCell p u) b cs := fun i x hx => by
  have hne : p ≠ ⟨b, i, none⟩ := fun e => hp (by rw [e])
  exact ⟨(World.cell?_setCell_other _ _ _ _ hne).trans (h i x hx).1, (World.frozen?_setCell _ _ _ _).trans (h i x hx).2⟩
theorem Blk.set {W : World} {b : Nat} {cs : List Value} (h : Blk W b cs) (k : Nat) (u : Value) : Blk (W.setCell ⟨b, k, none⟩ u) b (cs.set k u) := fun i x hx => by
  rw [List.getElem?_set] at hx
  by_cases hk : k = i
  · subst hk
    rw [if_pos rfl] at hx
    split at hx
    · rename_i hlt
      obtain rfl : u = x := by simpa using hx
      have h0 := h k _ (List.getElem?_eq_getElem hlt)
      exact ⟨World.cell?_setCell_same _ _ _ h0.1, (World.frozen?_setCell _ _ _ _).trans h0.2⟩
    · cases hx
  · rw [if_neg hk] at hx
    exact ⟨(World.cell?_setCell_other _ _ _ _ (fun e => hk (by injection e))).trans (h i x hx).1, (World.frozen?_setCell _ _ _ _).trans (h i x hx).2⟩

end Go.Proofs.Ytkofafefnlommaa
