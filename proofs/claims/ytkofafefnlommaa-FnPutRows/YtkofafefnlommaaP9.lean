/- Texts of this claim, one behind the other: DText. -/
import Derived.Test.YtkofafefnlommaaP3
import Derived.Lib.ItoaMem
import Derived.Lib.ItoaLen
import Derived.Laws.IdiomStrings
import Derived.Laws.Concat

/- The contracts of the model's NumText: the decimal digits of an integer. -/
namespace Go.Proofs.Ytkofafefnlommaa
open Go.RowKit

/-- After some rounds: a is what is left, l the digits that were made. -/
def Digs (u a : Nat) (l : List UInt8) : Prop := (0 < a → Lib.decDigits u = Lib.decDigits a ++ l) ∧ (a = 0 → Lib.decDigits u = l)
theorem digs_start {u : Nat} (h : 0 < u) : Digs u u [] := ⟨fun _ => by simp, fun e => by omega⟩
theorem digs_step {u a : Nat} {l : List UInt8} (h : Digs u a l) (ha : 0 < a) : Digs u (a / 10) (UInt8.ofNat (48 + a % 10) :: l) := by
  have h1 := h.1 ha
  by_cases h10 : a < 10
  · refine ⟨fun h => by omega, fun _ => ?_⟩
    rw [h1, Lib.decDigits_one h10, Nat.mod_eq_of_lt h10]
    rfl
  · refine ⟨fun _ => ?_, fun e => by omega⟩
    rw [h1, Lib.decDigits, dif_neg h10]
    simp
theorem digs_end {u : Nat} {l : List UInt8} (h : Digs u 0 l) : Lib.decDigits u = l := h.2 rfl
theorem tmod_neg (a : Nat) : (-(a : Int)).tmod 10 = -((a % 10 : Nat) : Int) := by
  rw [Int.neg_tmod, Int.tmod_eq_emod_of_nonneg (by omega)]; omega
theorem tdiv_neg (a : Nat) : (-(a : Int)).tdiv 10 = -((a / 10 : Nat) : Int) := by
  rw [Int.neg_tdiv, Int.tdiv_eq_ediv_of_nonneg (by omega)]; omega

/-- string([]byte{z}), the slice just laid. -/
theorem conv_one (w : World) (d : Nat) (hd : d < 10) : (convert 22 9 (.slice (some ⟨w.heap.size, 0, none⟩) 1 1)).run Try.prog (w.alloc (.cells #[.int .u8 (48 + (d : Int))] 5)) =
    .ok (.string ⟨#[UInt8.ofNat (48 + d)]⟩) (w.alloc (.cells #[.int .u8 (48 + (d : Int))] 5)) := by
  refine run_convert_bytes_back (P := Try.prog) _ 22 9 5 ⟨w.heap.size, 0, none⟩ 1 [UInt8.ofNat (48 + d)] Try.underlying22 Try.underlying5 Try.underlying9 ?_
  intro j hj
  obtain rfl : j = 0 := by simpa using hj
  have e : ((UInt8.ofNat (48 + d)).toNat : Int) = 48 + (d : Int) := by
    rw [UInt8.toNat_ofNat']
    omega
  simp only [List.getElem_cons_zero]
  rw [e]
  have := cell_new w (.int .u8 (48 + (d : Int))) 5 0 _ rfl
  exact this

theorem conv_int (w : World) (z : Int) (d : Nat) (hz : z = (d : Int)) (hd : d < 10) : (convert 22 9 (.slice (some ⟨w.heap.size, 0, none⟩) 1 1)).run Try.prog (w.alloc (.cells #[.int .u8 (48 + z)] 5)) =
    .ok (.string ⟨#[UInt8.ofNat (48 + d)]⟩) (w.alloc (.cells #[.int .u8 (48 + z)] 5)) := by
  subst hz
  exact conv_one w d hd

theorem digs_len {u a : Nat} {l : List UInt8} (h : Digs u a l) (hu : u < 18446744073709551616) : l.length ≤ 20 := by
  have h20 := Lib.nDigits_le20 u hu
  rw [← Lib.decDigits_length] at h20
  by_cases ha : 0 < a
  · rw [h.1 ha, List.length_append] at h20
    omega
  · rw [h.2 (by omega)] at h20
    exact h20
theorem str_cons (d : Nat) (l : List UInt8) : Value.string ({ data := #[48 + UInt8.ofNat d] } ++ { data := l.toArray }) = Value.string { data := (UInt8.ofNat (48 + d) :: l).toArray } := by
  rw [ByteArray.mk_append_mk]
  simp [UInt8.ofNat_add]
theorem str_minus (l : List UInt8) : Ending.returned (Value.string ({ data := #[45] } ++ { data := l.toArray })) = .returned (Value.string { data := (45 :: l).toArray }) := by
  rw [ByteArray.mk_append_mk]
  simp

end Go.Proofs.Ytkofafefnlommaa
