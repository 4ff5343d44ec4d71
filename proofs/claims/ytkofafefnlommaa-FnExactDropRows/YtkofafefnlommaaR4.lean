/- Rows: what they are, and the laws' own helpers over one Row: szRow, toRow, eqRow. -/
import Derived.Test.YtkofafefnlommaaVSpec
namespace Go.Proofs.Ytkofafefnlommaa
open Go.RowKit

/-- A Row. -/
structure R where
  id : Int
  l : List V
/-- A Row as the machine holds it: its number and the slice of its values. -/
abbrev R.agg (r : R) (u : Value) : Value := .agg #[.int .i64 r.id, u]
/-- The slice of a Row reads as its values. -/
def R.rd (w : World) (r : R) (u : Value) : Prop := Rd 3 w u r.l.length (vals r.l)
theorem R.rd.below {w w' : World} {r : R} {u : Value} (h : r.rd w u) (hb : Below w.heap.size w w') : r.rd w' u := Rd.below h hb

theorem szRow (r : R) (u : Value) (left : Int) (w : World) (h0 : 0 ≤ left) (h1 : left ≤ 1048576) (hss : ∀ v ∈ r.l, v.s.size ≤ maxLen) (h : r.rd w u) :
    Calls Try.prog 34 #[r.agg u, .int .i64 left] w fun e w' => ∃ z : Int, e = .returned (.int .i64 z) ∧ (z < 0 ∨ (0 ≤ z ∧ (r.l.length : Int) + bulk r.l ≤ left - z)) ∧ Below w.heap.size w w' := by
  have B0 := below_alloc w (.cells #[.int .i64 r.id, u] 57)
  have h' := h.below B0
  obtain ⟨a, cap, rfl, hn, hx⟩ := h'
  have HZ := Lib.hid (szValS a r.l.length cap r.l left (w.alloc (.cells #[.int .i64 r.id, .slice a r.l.length cap] 57)) h0 h1 hn hss rfl hx)
  obtain ⟨i, l⟩ := r
  simp only at HZ B0
  generalize l.length = m at *
  generalize bulk l = k at *
  clear h hx hss
  go_enter Try.func34, Try.ntmps34
  go_wp2_with fail
  refine HZ.out.mono ?_
  rintro e w1 ⟨z, rfl, hz, b1⟩
  have B1 := below_then B0 b1 B0.size
  clear b1 HZ
  by_cases hneg : z < 0
  · go_wp2
    go_ret
    exact ⟨_, rfl, .inl (by omega), B1⟩
  · go_wp2
    go_ret
    exact ⟨_, rfl, hz, B1⟩

/-- Two cells of a block that may be written. -/
def Two (W : World) (b : Nat) (x y : Value) : Prop :=
  (W.cell? ⟨b, 0, none⟩ = some x ∧ W.cell? ⟨b, 1, none⟩ = some y) ∧ W.frozen? ⟨b, 0, none⟩ = false ∧ W.frozen? ⟨b, 1, none⟩ = false
theorem Two.below {W W' : World} {b : Nat} {x y : Value} (h : Two W b x y) (hb : Below W.heap.size W W') : Two W' b x y := by
  have hlt := lt_of_cell h.1.1
  exact ⟨⟨(hb.cell (p := ⟨b, 0, none⟩) hlt).trans h.1.1, (hb.cell (p := ⟨b, 1, none⟩) hlt).trans h.1.2⟩, (hb.frozen (p := ⟨b, 0, none⟩) hlt).trans h.2.1, (hb.frozen (p := ⟨b, 1, none⟩) hlt).trans h.2.2⟩
theorem two_new (w : World) (x y : Value) (e : TypeId) : Two (w.alloc (.cells #[x, y] e)) w.heap.size x y := ⟨⟨by simp, by simp⟩, by simp, by simp⟩

theorem Own.setBelow {e size lo hi w v n xs} (h : Own e size lo hi w v n xs) {a : Addr} (ha : a.block < lo) (u : Value) : Own e size lo hi (w.setCell a u) v n xs := by
  obtain ⟨g, cap, rfl, h1, h2, h3⟩ := h
  exact ⟨g, cap, rfl, h1, h2, ownsRow_setCell_below h3 ha u⟩
theorem Own.size {e size lo hi w v n xs} (h : Own e size lo hi w v n xs) (hi' : Nat) (hh : hi ≤ hi') : Own e size lo hi' w v n xs := by
  obtain ⟨g, cap, rfl, h1, h2, h3⟩ := h
  exact ⟨g, cap, rfl, h1, by omega, h3⟩

set_option maxHeartbeats 400000 in
theorem toRow (r : R) (u : Value) (w : World) (hle : r.l.length ≤ 1073741824) (h : r.rd w u) :
    Calls Try.prog 35 #[r.agg u] w fun e w' => ∃ v, e = .returned (r.agg v) ∧ Own 76 3 w.heap.size w'.heap.size w' v r.l.length (vals r.l) ∧ Below w.heap.size w w' := by
  have B0 := below_alloc3 w (.cells #[.int .i64 r.id, u] 57) (.cells #[.int .i64 0, .slice none 0 0] 27) (.cells #[.int .i64 r.id, .slice none 0 0] 27)
  have h' := h.below B0
  obtain ⟨a, cap, rfl, hn, hx⟩ := h'
  have Z1 := (two_new (w.alloc (.cells #[.int .i64 r.id, .slice a r.l.length cap] 57)) (.int .i64 0) (.slice none 0 0) 27).below (below_alloc _ (.cells #[.int .i64 r.id, .slice none 0 0] 27))
  have Z2 := two_new ((w.alloc (.cells #[.int .i64 r.id, .slice a r.l.length cap] 57)).alloc (.cells #[.int .i64 0, .slice none 0 0] 27)) (.int .i64 r.id) (.slice none 0 0) 27
  have HT := Lib.hid (toValS a r.l.length cap r.l (((w.alloc (.cells #[.int .i64 r.id, .slice a r.l.length cap] 57)).alloc (.cells #[.int .i64 0, .slice none 0 0] 27)).alloc (.cells #[.int .i64 r.id, .slice none 0 0] 27)) hle rfl hx)
  rw [World.size_alloc] at Z1
  rw [World.size_alloc, World.size_alloc] at Z2
  obtain ⟨i, l⟩ := r
  simp only at HT B0 Z1 Z2 hle hn
  generalize vals l = xs at *
  generalize l.length = m at *
  clear h hx
  go_enter Try.func35, Try.ntmps35
  go_wp2_with fail
  refine HT.out.mono ?_
  rintro e w1 ⟨v, rfl, o1, b1⟩
  have B1 := below_then B0 b1 B0.size
  obtain ⟨⟨p0, p1⟩, p2, p3⟩ := Z1.below b1
  obtain ⟨⟨q0, q1⟩, q2, q3⟩ := Z2.below b1
  have O1 := Lib.hid o1
  obtain ⟨g, cp, rfl⟩ : ∃ g cp, v = .slice (some ⟨g, 0, none⟩) m cp := by
    obtain ⟨g, cp, e, _⟩ := o1
    exact ⟨g, cp, e⟩
  clear Z1 Z2 b1 B0 HT o1
  go_wp2
  refine bodyPost_ret (v := .agg #[.int .i64 i, .slice (some ⟨g, 0, none⟩) m cp]) (by simp [results, Try.results35, go_sem, *]) rfl ⟨_, rfl, ?_, ?_⟩
  · have := ((O1.out.setBelow (a := ⟨w.heap.size + 1 + 1, 1, none⟩) (by simp) (.slice (some ⟨g, 0, none⟩) m cp)).setBelow (a := ⟨w.heap.size + 1, 0, none⟩) (by simp) (.int .i64 i)).setBelow (a := ⟨w.heap.size + 1, 1, none⟩) (by simp) (.slice (some ⟨g, 0, none⟩) m cp)
    simp only [World.size_alloc] at this
    exact (this.lower (by omega)).wide (by simp)
  · exact ((B1.setCell (by simp; omega) _).setCell (by simp) _).setCell (by simp) _

theorem eqRow (r : R) (u v : Value) (w : World) (hu : r.rd w u) (hv : r.rd w v) :
    Calls Try.prog 28 #[r.agg u, r.agg v] w fun e w' => e = .returned (.bool true) ∧ Below w.heap.size w w' := by
  have B0 := below_alloc2 w (.cells #[.int .i64 r.id, u] 27) (.cells #[.int .i64 r.id, v] 27)
  have HT := Lib.hid (eqValR u v r.l.length r.l _ rfl (hu.below B0) (hv.below B0))
  obtain ⟨a1, c1, rfl, _, _⟩ := hu
  obtain ⟨a2, c2, rfl, _, _⟩ := hv
  obtain ⟨i, l⟩ := r
  simp only at HT B0
  have hne : (i != i) = false := by simp
  generalize l.length = m at *
  go_enter Try.func28, Try.ntmps28
  go_wp2_with fail
  refine HT.out.mono ?_
  rintro e w1 ⟨rfl, b1⟩
  have B1 := below_then B0 b1 B0.size
  clear b1
  go_wp2
  go_ret
  exact ⟨rfl, B1⟩

end Go.Proofs.Ytkofafefnlommaa
