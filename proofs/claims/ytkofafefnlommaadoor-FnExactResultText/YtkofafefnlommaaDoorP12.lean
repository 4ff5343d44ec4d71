/- Texts of this claim, one behind the other: Open. -/
import Derived.Test.YtkofafefnlommaaDoorP4
import Derived.Deep.Slices
import Derived.Deep.Strs
import Derived.ChangeSame

/- What the row's reading says of arguments of the types Val and []Val. -/
namespace Go.Proofs.YtkofafefnlommaaDoor
open Go.RowKit Go.ChangeShapes Go.WideShapes Go.Deep

section
variable {H : Type} {enc : TypeId × Value → H} {w : World} {base : Nat} {spare : Nat → Bool} {held : Bool} {fuel : Nat} {cs : List Value} {x : DataW H × List MemPlace}

/-- A value that the row reads as a Val. -/
def V.wf (v : V) : Prop := (Lit.int .i64 v.ty).wf = true ∧ (Lit.int .i64 v.n).wf = true ∧ v.s.size ≤ maxLen

set_option maxRecDepth 100000 in
theorem trod_val (h : DataW.trod enc Tryd.prog w base spare held fuel 23 cs = some x) : ∃ v : V, cs = v.cs ∧ v.wf := by
  obtain ⟨y0, y1, y2, n, _, hl, h0, h1, h2⟩ := trod_struct3 Tryd.underlying23 h
  have hl3 : cs.length = 3 := hl.trans (by kernel_rfl)
  have e3 : Tryd.prog.cellsOf 3 = 1 := by kernel_rfl
  have e9 : Tryd.prog.cellsOf 9 = 1 := by kernel_rfl
  match cs, hl3 with
  | [c0, c1, c2], _ =>
    simp only [e3, e9, List.drop_zero, List.drop_succ_cons, List.take_succ_cons, List.take_zero] at h0 h1 h2
    obtain ⟨t, ht, _, wt⟩ := DataW.trod_int Tryd.underlying3 h0
    obtain ⟨m, hm, _, wm⟩ := DataW.trod_int Tryd.underlying3 h1
    obtain ⟨s, hs, _, ws⟩ := DataW.trod_string Tryd.underlying9 h2
    simp only [List.cons.injEq, and_true] at ht hm hs
    subst ht hm hs
    exact ⟨⟨t, m, s⟩, rfl, wt, wm, ws⟩

/-- A slice whose elements are flat. -/
theorem trod_flat {α : Type} {t e : TypeId} {f : α → List Value} {c : Nat} {Q : α → Prop} (hf : ∀ y, (f y).length = c) (ht : Tryd.prog.underlying t = some (.slice e)) (hc : Tryd.prog.cellsOf e = c)
    (hel : ∀ (n : Nat) (cs : List Value) (x : DataW H × List MemPlace), DataW.trod enc Tryd.prog w base spare held n e cs = some x → ∃ y, cs = f y ∧ Q y) (h0 : 0 < c)
    (h : DataW.trod enc Tryd.prog w base spare held fuel t cs = some x) :
    ∃ a len cap, cs = [.slice a len cap] ∧ len ≤ maxLen ∧ ∃ l : List α, l.length = len ∧ (∀ y ∈ l, Q y) ∧ ArgS c w a len (l.flatMap f) := by
  rcases open_slice ht h with ⟨rfl, _⟩ | ⟨a, len, cap, m, n, D, Pl, rfl, hb, hl, hm, hmm, hxx, hi⟩
  · exact ⟨none, 0, 0, rfl, Nat.zero_le _, [], rfl, by simp, by simp, .inl rfl⟩
  · have hlm : len ≤ m := by rw [hmm]; split <;> omega
    have key : ∀ i, i < len → ∃ y, Q y ∧ ∀ j u, (f y)[j]? = some u → w.cell? (a.add (i * c + j)) = some u := by
      intro i hil
      obtain ⟨cs', hcs, htr⟩ := hi i (by omega)
      obtain ⟨y, rfl, hq⟩ := hel _ _ _ htr
      refine ⟨y, hq, fun j u hu => ?_⟩
      obtain ⟨_, hcl, hat⟩ := World.cells?_some hcs
      have hj : j < Tryd.prog.cellsOf e := by
        rw [hc, ← hf y]
        exact (List.getElem?_eq_some_iff.1 hu).1
      have := hat j hj
      rw [hu, Go.Deep.add_add, hc] at this
      exact this
    obtain ⟨l, hll, hq, hcell⟩ : ∃ l : List α, l.length = len ∧ (∀ y ∈ l, Q y) ∧ ∀ j u, (l.flatMap f)[j]? = some u → w.cell? (a.add j) = some u := by
      clear hi hl hm hmm hlm hxx h
      induction len with
      | zero => exact ⟨[], rfl, by simp, by simp⟩
      | succ k ih =>
        obtain ⟨l, hll, hq, hcell⟩ := ih (fun i hi => key i (by omega))
        obtain ⟨y, hy, hyc⟩ := key k (by omega)
        refine ⟨l ++ [y], by simp [hll], fun z hz => ?_, fun j u hu => ?_⟩
        · rcases List.mem_append.1 hz with hz | hz
          · exact hq z hz
          · rw [List.mem_singleton.1 hz]; exact hy
        · rw [List.flatMap_append] at hu
          have hfl : (l.flatMap f).length = k * c := by rw [flat_len f c hf, hll]
          by_cases hj : j < k * c
          · rw [List.getElem?_append_left (by omega)] at hu
            exact hcell j u hu
          · rw [List.getElem?_append_right (by omega), hfl] at hu
            have := hyc (j - k * c) u (by simpa using hu)
            rw [show k * c + (j - k * c) = j by omega] at this
            exact this
    refine ⟨some a, len, cap, rfl, by omega, l, hll, hq, by rw [flat_len f c hf, hll], ?_⟩
    by_cases hz : len = 0
    · exact .inl hz
    · right
      obtain ⟨b, off, spot⟩ := a
      have hfl : (l.flatMap f).length = len * c := by rw [flat_len f c hf, hll]
      have hpos : 0 < (l.flatMap f).length := by rw [hfl]; exact Nat.mul_pos (by omega) h0
      have hc0 := hcell 0 _ (List.getElem?_eq_getElem hpos)
      have hspot : spot = none := by simpa [Addr.add] using World.cell?_spot hc0
      subst hspot
      refine ⟨b, off, rfl, fun j u hu => ?_⟩
      have := hcell j u hu
      rw [addr_add] at this
      exact this

theorem trod_vals (h : DataW.trod enc Tryd.prog w base spare held fuel 129 cs = some x) :
    ∃ a len cap, cs = [.slice a len cap] ∧ len ≤ maxLen ∧ ∃ l : List V, l.length = len ∧ (∀ v ∈ l, v.wf) ∧ ArgS 3 w a len (vals l) :=
  trod_flat (f := V.cs) (Q := V.wf) (fun _ => rfl) Tryd.underlying129 (by kernel_rfl) (fun _ _ _ h => trod_val h) (by omega) h
end

end Go.Proofs.YtkofafefnlommaaDoor
