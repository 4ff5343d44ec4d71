/- Texts of this claim, one behind the other: ICpy. -/
import Derived.Test.YtkofafefnlommaaP3
import Derived.Laws.CopyRow
import Derived.Laws.CopyOwn

/- The builtin copy on slices whose elements have k cells; a block written from one place on; one element put into a list of cells. -/
namespace Go.Proofs.Ytkofafefnlommaa
open Go.RowKit

theorem run_copy_rowK {P : Program} (k : Nat) (w : World) (dT sT ty elem : TypeId) (g o dLen dCap : Nat) (a : Addr) (sLen sCap : Nat) (cur : Array Value) (t : TypeId) (cs : List Value)
    (hu : P.underlying dT = some (.slice elem)) (hs : (P.info? elem).map (·.size) = some k)
    (hg : w.heap[g]? = some (.cells cur t (0, 0))) (hn : cs.length = Nat.min sLen dLen * k)
    (hsrc : ∀ j v, cs[j]? = some v → w.cell? (a.add j) = some v) (hfit : o + cs.length ≤ cur.size) (h1 : ∀ v ∈ cs, v.oneCell' = true) :
    (Builtin.copy_ #[dT, sT] ty #[.slice (some ⟨g, o, none⟩) dLen dCap, .slice (some a) sLen sCap]).run P w =
      .ok (goInt (Nat.min sLen dLen)) (w.setRow g (cur.toList.take o ++ cs ++ cur.toList.drop (o + cs.length)).toArray) := by
  have hl := run_loadCells_list (P := P) w a cs hsrc
  have hst := run_storeCells_at P g o t cs 0 cur w hg (by simpa using hfit) h1
  cases hq : P.info? elem with
  | none => simp [hq] at hs
  | some i =>
    have hi : i.size = k := by simpa [hq] using hs
    simp [Builtin.copy_, run_underlying hu, Builtin.lenOf, Builtin.firstCells, sizeOf, typeInfo, hq, hi, ← hn, hl, hst]
theorem grown_setRow (w : World) (g : Nat) (cs : Array Value) : w.grownBy (w.setRow g cs) (some g) :=
  ⟨rfl, rfl, rfl, by simp [World.setRow], fun k _ hne => setRow_other w g k cs (fun e => hne (by rw [e]))⟩
theorem size_setRow (w : World) (g : Nat) (cs : Array Value) : (w.setRow g cs).heap.size = w.heap.size := by simp [World.setRow]
/-- A slice of one's own, its block in sight. -/
theorem Own.opened {e size lo hi w v n xs} (h : Own e size lo hi w v n xs) : ∃ g cap cur, v = .slice (some ⟨g, 0, none⟩) n cap ∧ lo ≤ g ∧ g < hi ∧ w.heap[g]? = some (.cells cur e (0, 0)) ∧ n ≤ cap ∧ cap ≤ maxLen ∧ cur.size = cap * size ∧ cur.toList.take (n * size) = xs ∧ xs.length = n * size := by
  obtain ⟨g, cap, rfl, h1, h2, h3, h4⟩ := h
  rcases h4 with ⟨h', _⟩ | ⟨g', cap', cur, h', _, h5, h6, h7, h8, h9⟩
  · simp at h'
  · simp only [Value.slice.injEq, Option.some.injEq, Addr.mk.injEq, and_true, true_and] at h'
    obtain ⟨rfl, rfl⟩ := h'
    exact ⟨g, cap, cur, rfl, h1, h2, h5, h6, h7, h8, h9, h3⟩
theorem Own.closed {e : TypeId} {size lo hi : Nat} {w : World} {g n cap : Nat} {cur : Array Value} {xs : List Value} (h1 : lo ≤ g) (h2 : g < hi) (h3 : w.heap[g]? = some (.cells cur e (0, 0))) (h4 : n ≤ cap) (h5 : cap ≤ maxLen) (h6 : cur.size = cap * size) (h7 : cur.toList.take (n * size) = xs) (h8 : xs.length = n * size) : Own e size lo hi w (.slice (some ⟨g, 0, none⟩) n cap) n xs :=
  ⟨g, cap, rfl, h1, h2, h8, .inr ⟨g, cap, cur, rfl, h1, h3, h4, h5, h6, h7⟩⟩
/-- Shifted up by s from a on, then r laid at a. -/
theorem shift_in {α : Type} (X xs r : List α) (a s m : Nat) (hx : xs.length = a + m) (hX : X.take (a + m) = xs) (hr : r.length = s) (hl : a + m + s ≤ X.length) :
    ((X.take (a + s) ++ xs.drop a ++ X.drop (a + s + m)).take a ++ r ++ (X.take (a + s) ++ xs.drop a ++ X.drop (a + s + m)).drop (a + s)).take (a + m + s) = xs.take a ++ r ++ xs.drop a ∧
      (X.take (a + s) ++ xs.drop a ++ X.drop (a + s + m)).length = X.length ∧ ((X.take (a + s) ++ xs.drop a ++ X.drop (a + s + m)).take a ++ r ++ (X.take (a + s) ++ xs.drop a ++ X.drop (a + s + m)).drop (a + s)).length = X.length := by
  have l1 : (X.take (a + s)).length = a + s := by rw [List.length_take]; omega
  have l2 : (xs.drop a).length = m := by rw [List.length_drop]; omega
  have l3 : (X.take (a + s) ++ xs.drop a ++ X.drop (a + s + m)).length = X.length := by
    rw [List.length_append, List.length_append, l1, l2, List.length_drop]; omega
  have hA : (X.take (a + s) ++ xs.drop a ++ X.drop (a + s + m)).take a = xs.take a := by
    rw [List.append_assoc, List.take_append_of_le_length (by omega), List.take_take, Nat.min_eq_left (by omega), ← hX, List.take_take, Nat.min_eq_left (by omega)]
  have hB : (X.take (a + s) ++ xs.drop a ++ X.drop (a + s + m)).drop (a + s) = xs.drop a ++ X.drop (a + s + m) := by
    rw [List.append_assoc, List.drop_append_of_le_length (by omega), List.drop_of_length_le (by omega), List.nil_append]
  rw [hA, hB, l3]
  have l4 : (xs.take a).length = a := by rw [List.length_take]; omega
  refine ⟨?_, rfl, ?_⟩
  · rw [← List.append_assoc, List.take_append_of_le_length (by rw [List.length_append, List.length_append, l4, l2]; omega), List.take_of_length_le (by rw [List.length_append, List.length_append, l4, l2]; omega)]
  · rw [List.length_append, List.length_append, List.length_append, l4, l2, List.length_drop]; omega
/-- r laid at a in a fresh row that begins with xs.take a, then xs.drop a behind it. -/
theorem laid_in {α : Type} (X xs r : List α) (a s m : Nat) (hx : xs.length = a + m) (hX : X.take a = xs.take a) (hr : r.length = s) (hl : a + m + s ≤ X.length) :
    ((X.take a ++ r ++ X.drop (a + s)).take (a + s) ++ xs.drop a ++ (X.take a ++ r ++ X.drop (a + s)).drop (a + s + m)).take (a + m + s) = xs.take a ++ r ++ xs.drop a ∧
      (X.take a ++ r ++ X.drop (a + s)).length = X.length ∧ ((X.take a ++ r ++ X.drop (a + s)).take (a + s) ++ xs.drop a ++ (X.take a ++ r ++ X.drop (a + s)).drop (a + s + m)).length = X.length := by
  have l2 : (xs.drop a).length = m := by rw [List.length_drop]; omega
  have l4 : (xs.take a).length = a := by rw [List.length_take]; omega
  rw [hX]
  have l3 : (xs.take a ++ r ++ X.drop (a + s)).length = X.length := by
    rw [List.length_append, List.length_append, l4, List.length_drop]; omega
  have hA : (xs.take a ++ r ++ X.drop (a + s)).take (a + s) = xs.take a ++ r := by
    rw [List.take_append_of_le_length (by rw [List.length_append, l4]; omega), List.take_of_length_le (by rw [List.length_append, l4]; omega)]
  rw [hA, l3]
  refine ⟨?_, rfl, ?_⟩
  · rw [List.take_append_of_le_length (by rw [List.length_append, List.length_append, l4, l2]; omega), List.take_of_length_le (by rw [List.length_append, List.length_append, l4, l2]; omega)]
  · rw [List.length_append, List.length_append, List.length_append, l4, l2, List.length_drop, l3]; omega

end Go.Proofs.Ytkofafefnlommaa
