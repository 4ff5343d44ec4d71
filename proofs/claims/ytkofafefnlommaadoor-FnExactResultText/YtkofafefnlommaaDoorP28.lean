/- Texts of this claim, one behind the other: DParse, DSParse. -/
import Derived.Test.YtkofafefnlommaaDoorP26
import Derived.Test.YtkofafefnlommaaDoorP2
import Derived.Test.YtkofafefnlommaaDoorP4
import Derived.Lib.AtoiErrMem

/- The contracts of the program's and the model's ParseNum. -/
namespace Go.Proofs.YtkofafefnlommaaDoor
open Go.RowKit

/-- The library's sentinel lies where its text lays it. -/
def Syn (w : World) : Prop := ∃ tp p, w.var? Tryd.prog "strconv.ErrSyntax" = some #[.iface tp p]

/-- What ParseNum returns. -/
def pRes (r : Int × Bool) : Value := .tuple #[.int .i64 r.1, .bool r.2]

end Go.Proofs.YtkofafefnlommaaDoor

/- The contract of the model's ParseNum. -/
namespace Go.Proofs.YtkofafefnlommaaDoor
open Go.RowKit

/-- After k bytes, of which the first o are the sign: their value is m. -/
def Spelt (l : List UInt8) (o k m : Nat) : Prop := Lib.decFrom 0 ((l.take k).drop o) = some m ∧ m < 10 ^ k
theorem spelt_start (l : List UInt8) (o : Nat) : Spelt l o 0 0 := by simp [Spelt, Lib.decFrom]
theorem spelt_skip (l : List UInt8) : Spelt l 1 1 0 := by
  refine ⟨?_, by omega⟩
  have : (l.take 1).drop 1 = [] := List.drop_eq_nil_of_le (by rw [List.length_take]; omega)
  rw [this]; rfl
theorem take_bytes (s : ByteArray) (k : Nat) (h : k < s.size) : s.data.toList.take (k + 1) = s.data.toList.take k ++ [s[k]] := by
  rw [List.take_succ_eq_append_getElem (by simpa using h)]; rfl
theorem drop_snoc {l : List UInt8} {o k : Nat} {b : UInt8} (ho : o ≤ k) (hk : k < l.length) (ht : l.take (k + 1) = l.take k ++ [b]) : (l.take (k + 1)).drop o = (l.take k).drop o ++ [b] := by
  rw [ht, List.drop_append_of_le_length (by rw [List.length_take]; omega)]
theorem spelt_step {s : ByteArray} {o k m : Nat} (h : Spelt s.data.toList o k m) (ho : o ≤ k) (hk : k < s.size) (h1 : 48 ≤ s[k].toNat) (h2 : s[k].toNat ≤ 57) : Spelt s.data.toList o (k + 1) (10 * m + (s[k].toNat - 48)) := by
  refine ⟨?_, ?_⟩
  · rw [drop_snoc ho (by simpa using hk) (take_bytes s k hk), Dig.decFrom_append, h.1]
    simp only [Option.bind_some, Lib.decFrom, Lib.digitVal]
    rw [if_pos ⟨h1, h2⟩]
    simp only
    congr 1
    omega
  · have := h.2
    rw [Nat.pow_succ]
    omega
theorem decFrom_bad (l m : List UInt8) (acc : Nat) (h : Lib.decFrom acc l = none) : Lib.decFrom acc (l ++ m) = none := by
  rw [Dig.decFrom_append, h]; rfl
theorem spelt_bad {s : ByteArray} {o k m : Nat} (h : Spelt s.data.toList o k m) (ho : o ≤ k) (hk : k < s.size) (hb : ¬ (48 ≤ s[k].toNat ∧ s[k].toNat ≤ 57)) : Lib.decFrom 0 (s.data.toList.drop o) = none := by
  have e : s.data.toList.drop o = (s.data.toList.take (k + 1)).drop o ++ s.data.toList.drop (k + 1) := by
    rw [← List.drop_append_of_le_length (by rw [List.length_take]; have : s.data.toList.length = s.size := Array.length_toList
                                            omega), List.take_append_drop]
  rw [e]
  refine decFrom_bad _ _ _ ?_
  rw [drop_snoc ho (by simpa using hk) (take_bytes s k hk), Dig.decFrom_append, h.1]
  simp only [Option.bind_some, Lib.decFrom, Lib.digitVal]
  rw [if_neg hb]
theorem spelt_end {s : ByteArray} {o m : Nat} (h : Spelt s.data.toList o s.size m) : Lib.decFrom 0 (s.data.toList.drop o) = some m := by
  have := h.1
  rw [show List.take s.size s.data.toList = s.data.toList from List.take_of_length_le (Nat.le_of_eq Array.length_toList)] at this
  exact this
theorem sval_neg {s : ByteArray} (h : 0 < s.size) (hb : s[0] = 45) : Dig.sval s.data.toList = (Lib.decFrom 0 (s.data.toList.drop 1)).map fun (m : Nat) => -(m : Int) := by
  obtain ⟨⟨l⟩⟩ := s
  cases l with
  | nil => simp [ByteArray.size] at h
  | cons b r =>
    have : b = 45 := hb
    subst this
    simp [Dig.sval]
theorem sval_pos {s : ByteArray} (h : 0 < s.size) (hb : ¬ s[0] = 45) : Dig.sval s.data.toList = (Lib.decFrom 0 (s.data.toList.drop 0)).map fun (m : Nat) => (m : Int) := by
  obtain ⟨⟨l⟩⟩ := s
  cases l with
  | nil => simp [ByteArray.size] at h
  | cons b r =>
    have hb' : ¬ b = 45 := hb
    simp [Dig.sval, hb']

theorem bytes_ne {l : List UInt8} {s : ByteArray} (h : ¬ l = s.data.toList) : ((⟨l.toArray⟩ : ByteArray).toList == s.toList) = false := by
  refine beq_false_of_ne (fun e => h ?_)
  rw [ByteArray.toList_eq, ByteArray.toList_eq] at e
  exact e
theorem spelt_small {l : List UInt8} {o k m : Nat} (h : Spelt l o k m) (hk : k ≤ 11) : m < 100000000000 :=
  Nat.lt_of_lt_of_le h.2 (Nat.pow_le_pow_right (n := 10) (by omega) hk)
theorem spelt_zero {l : List UInt8} {o m : Nat} (h : Spelt l o 0 m) : m = 0 := by
  have := h.2
  simp at this
  exact this

end Go.Proofs.YtkofafefnlommaaDoor
