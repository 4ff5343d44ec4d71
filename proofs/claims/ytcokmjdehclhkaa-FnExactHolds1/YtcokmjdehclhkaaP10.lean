/- Texts of this claim, one behind the other: VText. -/
import Derived.Test.YtcokmjdehclhkaaP7
import Derived.Test.YtcokmjdehclhkaaP8

/- The laws' markText, and their helpers over slices of strings. -/
namespace Go.Proofs.Ytcokmjdehclhkaa
open Go.RowKit

/-- What markText returns from 1 on. -/
def mtext (k : Nat) : ByteArray := ⟨(109 :: Lib.decDigits k).toArray⟩
theorem str_m (l : List UInt8) : ({ data := #[109] } ++ { data := l.toArray } : ByteArray) = { data := (109 :: l).toArray } := by
  rw [ByteArray.mk_append_mk]
  simp

theorem grown_of_below_at {w w' : World} {row : Option Nat} (h : Below w.heap.size w w') : w.grownBy w' row := ⟨h.os, h.tape, h.output, h.size, fun k hk _ => h.block k hk⟩

/-- What markValS leaves. -/
def vmarks (s n : Nat) : List V := (List.range n).map fun j => ⟨(s + 3 * j : Nat), ((s + 3 * j : Nat) : Int) + 1, mtext (s + 3 * j + 2)⟩
theorem vmarks_len (s n : Nat) : (vmarks s n).length = n := by simp [vmarks]
theorem vmarks_get {s n k : Nat} (h : k < n) : (vmarks s n).getD k V.zero = ⟨(s + 3 * k : Nat), ((s + 3 * k : Nat) : Int) + 1, mtext (s + 3 * k + 2)⟩ := by simp [vmarks, h]
theorem vmarks_set {s k m : Nat} {l : List V} (h : k < l.length) (hm : s + 3 * k = m) : (vmarks s k ++ l.drop k).set k ⟨m, (m : Int) + 1, mtext (m + 2)⟩ = vmarks s (k + 1) ++ l.drop (k + 1) := by
  subst hm
  rw [List.set_append_right _ _ (by rw [vmarks_len]; exact Nat.le_refl _), vmarks_len, Nat.sub_self, List.drop_eq_getElem_cons h, List.set_cons_zero]
  unfold vmarks
  rw [List.range_succ, List.map_append, List.append_assoc]
  rfl

/-! ### Slices of strings -/
def strs (l : List ByteArray) : List Value := l.map Value.string
theorem strs_len (l : List ByteArray) : (strs l).length = l.length := by simp [strs]
theorem strs_get {l : List ByteArray} {k : Nat} (h : k < l.length) : (strs l)[k]? = some (.string (l.getD k ⟨#[]⟩)) := by simp [strs, h]
theorem strs_set (l : List ByteArray) (k : Nat) (s : ByteArray) : strs (l.set k s) = (strs l).set k (.string s) := by simp [strs, List.map_set]
theorem At.str {w : World} {b off n : Nat} {l : List ByteArray} (hc : ∀ j u, (strs l)[j]? = some u → w.cell? ⟨b, off + j, none⟩ = some u) (hl : l.length = n) {k : Nat} (hk : k < n) :
    w.cell? ⟨b, off + k, none⟩ = some (.string (l.getD k ⟨#[]⟩)) := hc k _ (strs_get (by omega))

/-- The marks that a law writes into n strings. -/
def tmarks (s n : Nat) : List ByteArray := (List.range n).map fun i => mtext (s + i)
theorem tmarks_len (s n : Nat) : (tmarks s n).length = n := by simp [tmarks]
theorem tmarks_get {s n i : Nat} (h : i < n) : (tmarks s n).getD i ⟨#[]⟩ = mtext (s + i) := by simp [tmarks, h]
def tmarked (s : Nat) (l : List ByteArray) (k : Nat) : List ByteArray := tmarks s k ++ l.drop k
theorem tmarked_zero (s : Nat) (l : List ByteArray) : tmarked s l 0 = l := by simp [tmarked, tmarks]
theorem tmarked_all (s : Nat) (l : List ByteArray) : tmarked s l l.length = tmarks s l.length := by simp [tmarked]
theorem tmarked_set {s : Nat} {l : List ByteArray} {k : Nat} (h : k < l.length) : (tmarked s l k).set k (mtext (s + k)) = tmarked s l (k + 1) := by
  have hl : (tmarks s k).length = k := tmarks_len s k
  unfold tmarked
  rw [List.set_append_right _ _ (by omega), hl, Nat.sub_self, List.drop_eq_getElem_cons h, List.set_cons_zero]
  simp [tmarks, List.range_succ]

end Go.Proofs.Ytcokmjdehclhkaa
