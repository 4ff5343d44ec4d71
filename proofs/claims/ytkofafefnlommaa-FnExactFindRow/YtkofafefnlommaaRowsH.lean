/- Small facts about lists of Rows, for exact laws. -/
import Derived.Test.YtkofafefnlommaaLaw4
import Derived.Test.YtkofafefnlommaaBlk
namespace Go.Proofs.Ytkofafefnlommaa
open Go.RowKit

theorem rows_small {ps qs : List P} (h : qs.map (·.1) = ps.map (·.1)) (hp : ∀ p ∈ ps, ∀ v ∈ p.1.l, v.s.size ≤ maxLen) : ∀ q ∈ qs, ∀ v ∈ q.1.l, v.s.size ≤ maxLen := by
  intro q hq
  have : q.1 ∈ ps.map (·.1) := by
    rw [← h]
    exact List.mem_map.2 ⟨q, hq, rfl⟩
  obtain ⟨p, hp', e⟩ := List.mem_map.1 this
  rw [← e]
  exact hp p hp'
def rlenR (l : List R) : Nat := (l.map fun r => 1 + 3 * r.l.length).sum
theorem rlen_R (ps : List P) : rlen ps = rlenR (ps.map (·.1)) := by
  induction ps with
  | nil => rfl
  | cons p ps ih =>
    rw [rlen, ih]
    simp [rlenR]
theorem rlenR_filter (f : R → Bool) (l : List R) : rlenR (l.filter f) ≤ rlenR l := by
  induction l with
  | nil => simp
  | cons r l ih =>
    rw [List.filter_cons]
    have e : rlenR (r :: l) = 1 + 3 * r.l.length + rlenR l := by simp [rlenR]
    split
    · have e2 : rlenR (r :: l.filter f) = 1 + 3 * r.l.length + rlenR (l.filter f) := by simp [rlenR]
      omega
    · omega
theorem Blk.within {lo hi : Nat} {W W' : World} {b : Nat} {cs : List Value} (h : Blk W b cs) (hw : Within lo hi W W') (hb : b < lo ∨ hi ≤ b) : Blk W' b cs := fun i x hx =>
  have hk := hw.2.2.2.2 b (lt_of_cell (h i x hx).1) hb
  ⟨(World.cell?_of_block hk).trans (h i x hx).1, (World.frozen?_of_block hk).trans (h i x hx).2⟩


end Go.Proofs.Ytkofafefnlommaa
