/- The laws' markText, and their helpers over slices of strings. -/
import Derived.Test.YtfkmbcjhkfecfaaDoorVSlice
import Derived.Test.YtfkmbcjhkfecfaaDoorDText
namespace Go.Proofs.YtfkmbcjhkfecfaaDoor
open Go.RowKit

/-- What markText returns from 1 on. -/
def mtext (k : Nat) : ByteArray := ⟨(109 :: Lib.decDigits k).toArray⟩
theorem str_m (l : List UInt8) : ({ data := #[109] } ++ { data := l.toArray } : ByteArray) = { data := (109 :: l).toArray } := by
  rw [ByteArray.mk_append_mk]
  simp

theorem grown_of_below_at {w w' : World} {row : Option Nat} (h : Below w.heap.size w w') : w.grownBy w' row := ⟨h.os, h.tape, h.output, h.size, fun k hk _ => h.block k hk⟩

/-! ### Slices of strings -/
def strs (l : List ByteArray) : List Value := l.map Value.string
theorem strs_len (l : List ByteArray) : (strs l).length = l.length := by simp [strs]
theorem strs_get {l : List ByteArray} {k : Nat} (h : k < l.length) : (strs l)[k]? = some (.string (l.getD k ⟨#[]⟩)) := by simp [strs, h]
theorem strs_set (l : List ByteArray) (k : Nat) (s : ByteArray) : strs (l.set k s) = (strs l).set k (.string s) := by simp [strs, List.map_set]
theorem At.str {w : World} {b off n : Nat} {l : List ByteArray} (hc : ∀ j u, (strs l)[j]? = some u → w.cell? ⟨b, off + j, none⟩ = some u) (hl : l.length = n) {k : Nat} (hk : k < n) :
    w.cell? ⟨b, off + k, none⟩ = some (.string (l.getD k ⟨#[]⟩)) := hc k _ (strs_get (by omega))

/-- The marks that a law writes into n strings. -/
def tmarks (s n : Nat) : List ByteArray := (List.range n).map fun i => mtext (s + i)
theorem tmarks_len (s n : Nat) : (tmarks s n).length = n := by simp [tmarks]
theorem tmarks_get {s n i : Nat} (h : i < n) : (tmarks s n).getD i ⟨#[]⟩ = mtext (s + i) := by simp [tmarks, h]
def tmarked (s : Nat) (l : List ByteArray) (k : Nat) : List ByteArray := tmarks s k ++ l.drop k
theorem tmarked_zero (s : Nat) (l : List ByteArray) : tmarked s l 0 = l := by simp [tmarked, tmarks]
theorem tmarked_all (s : Nat) (l : List ByteArray) : tmarked s l l.length = tmarks s l.length := by simp [tmarked]
theorem tmarked_set {s : Nat} {l : List ByteArray} {k : Nat} (h : k < l.length) : (tmarked s l k).set k (mtext (s + k)) = tmarked s l (k + 1) := by
  have hl : (tmarks s k).length = k := tmarks_len s k
  unfold tmarked
  rw [List.set_append_right _ _ (by omega), hl, Nat.sub_self, List.drop_eq_getElem_cons h, List.set_cons_zero]
  simp [tmarks, List.range_succ]

end Go.Proofs.YtfkmbcjhkfecfaaDoor
