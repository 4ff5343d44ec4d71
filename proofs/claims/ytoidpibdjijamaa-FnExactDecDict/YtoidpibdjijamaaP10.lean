/- Texts of this claim, one behind the other: Bent. -/
import Derived.Test.YtoidpibdjijamaaP8
import Derived.Deep.RegionWith

/- The contract of l1Bent: bytes, mostly with one turned, cut, or with more behind. -/
namespace Go.Proofs.Ytoidpibdjijamaa
open Go.RowKit

theorem Own.take {e size lo hi w n xs} {g cap : Nat} (h : Own e size lo hi w (.slice (some ⟨g, 0, none⟩) n cap) n xs) {k : Nat} (hk : k ≤ n) : Own e size lo hi w (.slice (some ⟨g, 0, none⟩) k cap) k (xs.take (k * size)) := by
  obtain ⟨g', cap', he, h1, h2, h3, h4⟩ := h
  simp at he
  obtain ⟨rfl, rfl⟩ := he
  refine ⟨g, cap, rfl, h1, h2, ?_, ?_⟩
  · rw [List.length_take, h3]; exact Nat.min_eq_left (Nat.mul_le_mul_right _ hk)
  · rcases h4 with ⟨h', _⟩ | ⟨g', cap', cur, h', hbg, hg, hn, hm, hc, ht⟩
    · simp at h'
    · simp at h'
      obtain ⟨rfl, rfl⟩ := h'
      refine .inr ⟨g, cap, cur, rfl, hbg, hg, by omega, hm, hc, ?_⟩
      rw [← ht, List.take_take, Nat.min_eq_left (Nat.mul_le_mul_right _ hk)]
theorem Own.store {k : IntKind} {e lo hi w n zs} {g cap : Nat} (h : Own e 1 lo hi w (.slice (some ⟨g, 0, none⟩) n cap) n (ints k zs)) (j : Nat) (x : Int) :
    Own e 1 lo hi (w.setCell ⟨g, j, none⟩ (.int k x)) (.slice (some ⟨g, 0, none⟩) n cap) n (ints k (zs.set j x)) ∧ w.grownBy (w.setCell ⟨g, j, none⟩ (.int k x)) (some g) := by
  obtain ⟨g', cap', he, h1, h2, h3⟩ := h
  simp at he
  obtain ⟨rfl, rfl⟩ := he
  have hs := h3.stored j (.int k x)
  rw [show (ints k zs).set j (.int k x) = ints k (zs.set j x) by simp [ints, List.map_set]] at hs
  exact ⟨⟨g, cap, rfl, h1, h2, hs.1⟩, hs.2⟩
theorem Own.cellOf {k : IntKind} {e lo hi w n zs} {g cap : Nat} (h : Own e 1 lo hi w (.slice (some ⟨g, 0, none⟩) n cap) n (ints k zs)) (hz : zs.length = n) {j : Nat} (hj : j < n) : w.cell? ⟨g, j, none⟩ = some (.int k (zs.getD j 0)) := by
  have := h.row.cellAt j (by omega)
  rw [this]
  exact ints_get (by omega)
theorem bytes_set {zs : List Int} (h : Num.Bytes zs) (j : Nat) {x : Int} (h0 : 0 ≤ x) (h1 : x ≤ 255) : Num.Bytes (zs.set j x) := by
  intro y hy
  rcases List.mem_or_eq_of_mem_set hy with hy | rfl
  · exact h y hy
  · exact ⟨h0, h1⟩
theorem bytes_snoc {zs : List Int} (h : Num.Bytes zs) {x : Int} (h0 : 0 ≤ x) (h1 : x ≤ 255) : Num.Bytes (zs ++ [x]) := by
  intro y hy
  simp at hy
  rcases hy with hy | rfl
  · exact h y hy
  · exact ⟨h0, h1⟩

theorem draw_cell {w w4 : World} {g gv k : Nat} {u : Value} (g4 : w.grownBy w4 (some g)) (hne : gv ≠ g) (hc : w.cell? ⟨gv, k, none⟩ = some u) : w4.cell? ⟨gv, k, none⟩ = some u :=
  (World.cell?_of_block (w := w) (g4.block gv (lt_of_cell hc) (fun e => hne (by simpa using e)))).trans hc
theorem draw_frozen {w w4 : World} {g gv k : Nat} {u : Value} (g4 : w.grownBy w4 (some g)) (hne : gv ≠ g) (hc : w.cell? ⟨gv, k, none⟩ = some u) (hf : w.frozen? ⟨gv, k, none⟩ = false) : w4.frozen? ⟨gv, k, none⟩ = false :=
  (World.frozen?_of_block (w := w) (g4.block gv (lt_of_cell hc) (fun e => hne (by simpa using e)))).trans hf

theorem bent_store {c : Code} {g gv cv n k : Nat} {zs : List Int} {x : Int} {w w4 : World} (hz : zs.length = n) (hby : Num.Bytes zs) (hgv : gv ≠ g) (hal : ∀ a, c.a = some a → 0 < c.len → a.block < w.heap.size)
    (O4 : Own 5 1 w.heap.size w4.heap.size w4 (.slice (some ⟨gv, 0, none⟩) n cv) n (ints .u8 zs)) (C4 : Cur c g w4) (G4 : w.grownBy w4 (some g)) (h0 : 0 ≤ x) (h1 : x ≤ 255) :
    DrewBytes c g (n + 1) w (.returned (.slice (some ⟨gv, 0, none⟩) n cv)) (w4.setCell ⟨gv, k, none⟩ (.int .u8 x)) := by
  obtain ⟨O5, g5⟩ := O4.store k x
  have hb := O4.block gv rfl
  have C5 := C4.grown g5 (fun q hq => by simp at hq; subst hq; exact ⟨hgv, fun a ha hl => by have := hal a ha hl; omega⟩)
  have G5 : w.grownBy (w4.setCell ⟨gv, k, none⟩ (.int .u8 x)) (some g) := ⟨g5.os.trans G4.os, g5.tape.trans G4.tape, g5.output.trans G4.output, Nat.le_trans G4.size g5.size, fun q hq hne => (g5.block q (by have := G4.size; omega) (fun e => by simp at e; omega)).trans (G4.block q hq hne)⟩
  refine ⟨_, zs.set k x, rfl, bytes_set hby k h0 h1, by rw [List.length_set, hz]; omega, ?_, C5, G5⟩
  rw [List.length_set, hz]
  exact O5.wide (by simp [World.setCell])

end Go.Proofs.Ytoidpibdjijamaa
