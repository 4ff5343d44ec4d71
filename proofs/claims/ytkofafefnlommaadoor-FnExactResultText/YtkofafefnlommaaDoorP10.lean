/- Texts of this claim, one behind the other: DText. -/
import Derived.Test.YtkofafefnlommaaDoorP3
import Derived.Lib.ItoaMem
import Derived.Lib.ItoaLen
import Derived.Laws.IdiomStrings
import Derived.Laws.Concat

/- The contracts of the model's NumText: the decimal digits of an integer. -/
namespace Go.Proofs.YtkofafefnlommaaDoor
open Go.RowKit

/-- After some rounds: a is what is left, l the digits that were made. -/
def Digs (u a : Nat) (l : List UInt8) : Prop := (0 < a → Lib.decDigits u = Lib.decDigits a ++ l) ∧ (a = 0 → Lib.decDigits u = l)
theorem digs_start {u : Nat} (h : 0 < u) : Digs u u [] := ⟨fun _ => by simp, fun e => by omega⟩
theorem digs_step {u a : Nat} {l : List UInt8} (h : Digs u a l) (ha : 0 < a) : Digs u (a / 10) (UInt8.ofNat (48 + a % 10) :: l) := by
  have h1 := h.1 ha
  by_cases h10 : a < 10
  · refine ⟨fun h => by omega, fun _ => ?_⟩
    rw [h1, Lib.decDigits_one h10, Nat.mod_eq_of_lt h10]
    rfl
  · refine ⟨fun _ => ?_, fun e => by omega⟩
    rw [h1, Lib.decDigits, dif_neg h10]
    simp
theorem digs_end {u : Nat} {l : List UInt8} (h : Digs u 0 l) : Lib.decDigits u = l := h.2 rfl
theorem tmod_neg (a : Nat) : (-(a : Int)).tmod 10 = -((a % 10 : Nat) : Int) := by
  rw [Int.neg_tmod, Int.tmod_eq_emod_of_nonneg (by omega)]; omega
theorem tdiv_neg (a : Nat) : (-(a : Int)).tdiv 10 = -((a / 10 : Nat) : Int) := by
  rw [Int.neg_tdiv, Int.tdiv_eq_ediv_of_nonneg (by omega)]; omega

/-- string([]byte{z}), the slice just laid. -/
theorem conv_one (w : World) (d : Nat) (hd : d < 10) : (convert 68 9 (.slice (some ⟨w.heap.size, 0, none⟩) 1 1)).run Tryd.prog (w.alloc (.cells #[.int .u8 (48 + (d : Int))] 5)) =
    .ok (.string ⟨#[UInt8.ofNat (48 + d)]⟩) (w.alloc (.cells #[.int .u8 (48 + (d : Int))] 5)) := by
  refine run_convert_bytes_back (P := Tryd.prog) _ 68 9 5 ⟨w.heap.size, 0, none⟩ 1 [UInt8.ofNat (48 + d)] Tryd.underlying68 Tryd.underlying5 Tryd.underlying9 ?_
  intro j hj
  obtain rfl : j = 0 := by simpa using hj
  have e : ((UInt8.ofNat (48 + d)).toNat : Int) = 48 + (d : Int) := by
    rw [UInt8.toNat_ofNat']
    omega
  simp only [List.getElem_cons_zero]
  rw [e]
  have := cell_new w (.int .u8 (48 + (d : Int))) 5 0 _ rfl
  exact this

theorem conv_int (w : World) (z : Int) (d : Nat) (hz : z = (d : Int)) (hd : d < 10) : (convert 68 9 (.slice (some ⟨w.heap.size, 0, none⟩) 1 1)).run Tryd.prog (w.alloc (.cells #[.int .u8 (48 + z)] 5)) =
    .ok (.string ⟨#[UInt8.ofNat (48 + d)]⟩) (w.alloc (.cells #[.int .u8 (48 + z)] 5)) := by
  subst hz
  exact conv_one w d hd

theorem digs_len {u a : Nat} {l : List UInt8} (h : Digs u a l) (hu : u < 18446744073709551616) : l.length ≤ 20 := by
  have h20 := Lib.nDigits_le20 u hu
  rw [← Lib.decDigits_length] at h20
  by_cases ha : 0 < a
  · rw [h.1 ha, List.length_append] at h20
    omega
  · rw [h.2 (by omega)] at h20
    exact h20
theorem str_cons (d : Nat) (l : List UInt8) : Value.string ({ data := #[48 + UInt8.ofNat d] } ++ { data := l.toArray }) = Value.string { data := (UInt8.ofNat (48 + d) :: l).toArray } := by
  rw [ByteArray.mk_append_mk]
  simp [UInt8.ofNat_add]
theorem str_minus (l : List UInt8) : Ending.returned (Value.string ({ data := #[45] } ++ { data := l.toArray })) = .returned (Value.string { data := (45 :: l).toArray }) := by
  rw [ByteArray.mk_append_mk]
  simp

set_option maxHeartbeats 1000000 in
theorem sNumText (n : Int) (w : World) (h0 : -9223372036854775808 ≤ n) (h1 : n ≤ 9223372036854775807) :
    Calls Tryd.prog 26 #[.int .i64 n] w fun e w' => e = .returned (.string ⟨(Lib.itoa n).toArray⟩) ∧ Below w.heap.size w w' := by
  by_cases hz : n = 0
  · subst hz
    have e : Lib.itoa 0 = [48] := by decide +kernel
    rw [e]
    go_enter Tryd.func26, Tryd.ntmps26
    go_wp2
    go_ret
    exact ⟨rfl, Below.refl _ _⟩
  · have hzb : (n == 0) = false := by simp [hz]
    by_cases hneg : n < 0
    · obtain ⟨u, rfl⟩ : ∃ u : Nat, n = -(u : Int) := ⟨n.natAbs, by omega⟩
      have HI := Lib.hid (Lib.itoa_neg u (by omega))
      have hu : 0 < u := by omega
      have hu2 : u < 18446744073709551616 := by omega
      clear hz
      go_enter Tryd.func26, Tryd.ntmps26
      go_wp2
      go_loopw [3, 4] (fun s x wr => ∃ (a : Nat) (l : List UInt8), x = .int .i64 (-(a : Int)) ∧ s = .string ⟨l.toArray⟩ ∧ Digs u a l ∧ a ≤ 9223372036854775808 ∧ Below w.heap.size w wr) (fun _ x _ => (-(intOf x)).toNat)
      case atStart => exact ⟨u, [], rfl, rfl, digs_start hu, by omega, Below.refl _ _⟩
      case round =>
        obtain ⟨a, l, rfl, rfl, hd, ha, hbr⟩ := hrel
        have HD := Lib.hid hd
        clear hd
        have hl20 := digs_len HD.out hu2
        have hno : ¬ 9223372036854775807 < 1 + l.length := by omega
        by_cases hpos : 0 < a
        · have hne : ((-(a : Int)) != 0) = true := by simp; omega
          have htm := tmod_neg a
          have htd := tdiv_neg a
          have kc1 := fun (W : World) => conv_int W ((a : Int) % 10) (a % 10) (by omega) (by omega)
          by_cases hm : a % 10 = 0
          · have kc2 := fun (W : World) => conv_int W (-((a : Int) % 10)) (a % 10) (by omega) (by omega)
            have hmi : decide ((0 : Int) < (a : Int) % 10) = false := by simp; omega
            clear hm
            go_wp2
            go_roundw
            case rel => exact ⟨a / 10, UInt8.ofNat (48 + a % 10) :: l, by go_num, str_cons _ _, digs_step HD.out hpos, by omega, hbr.alloc hbr.size _⟩
            case measure => simp [intOf]; omega
          · have hmi : (0 : Int) < (a : Int) % 10 := by omega
            clear hm
            go_wp2
            go_roundw
            case rel => exact ⟨a / 10, UInt8.ofNat (48 + a % 10) :: l, by go_num, str_cons _ _, digs_step HD.out hpos, by omega, hbr.alloc hbr.size _⟩
            case measure => simp [intOf]; omega
        · have hne : ((-(a : Int)) != 0) = false := by simp; omega
          have HE : Hid (Lib.decDigits u = l) := HD.out.2 (by omega)
          go_wp2
          go_ret
          exact ⟨by rw [HI.out, HE.out]; exact str_minus l, hbr⟩
    · obtain ⟨u, rfl⟩ : ∃ u : Nat, n = (u : Int) := ⟨n.toNat, by omega⟩
      have HI := Lib.hid (Lib.itoa_nonneg u)
      have hu : 0 < u := by omega
      have hu2 : u < 18446744073709551616 := by omega
      clear hz
      go_enter Tryd.func26, Tryd.ntmps26
      go_wp2
      go_loopw [3, 4] (fun s x wr => ∃ (a : Nat) (l : List UInt8), x = .int .i64 (a : Int) ∧ s = .string ⟨l.toArray⟩ ∧ Digs u a l ∧ a ≤ 9223372036854775807 ∧ Below w.heap.size w wr) (fun _ x _ => (intOf x).toNat)
      case atStart => exact ⟨u, [], rfl, rfl, digs_start hu, by omega, Below.refl _ _⟩
      case round =>
        obtain ⟨a, l, rfl, rfl, hd, ha, hbr⟩ := hrel
        have HD := Lib.hid hd
        clear hd
        have hl20 := digs_len HD.out hu2
        have hno : ¬ 9223372036854775807 < 1 + l.length := by omega
        by_cases hpos : 0 < a
        · have hne : ((a : Int) != 0) = true := by simp; omega
          have kc1 := fun (W : World) => conv_int W ((a : Int) % 10) (a % 10) (by omega) (by omega)
          have hmi : decide ((a : Int) % 10 < 0) = false := by simp; omega
          go_wp2
          go_roundw
          case rel => exact ⟨a / 10, UInt8.ofNat (48 + a % 10) :: l, by go_num, str_cons _ _, digs_step HD.out hpos, by omega, hbr.alloc hbr.size _⟩
          case measure => simp [intOf]; omega
        · have hne : ((a : Int) != 0) = false := by simp; omega
          have HE : Hid (Lib.decDigits u = l) := HD.out.2 (by omega)
          go_wp2
          go_ret
          exact ⟨by rw [HI.out, HE.out]; rfl, hbr⟩

end Go.Proofs.YtkofafefnlommaaDoor
