/- Where a number that was read ends; a slice's tail b[at:]. -/
import Derived.Test.YthniakklkepomaaM7
import Derived.Test.YthniakklkepomaaL5S
namespace Go.Proofs.Ythniakklkepomaa
open Go.RowKit

theorem get_bound {zs : List Int} (hb : Num.Bytes zs) {i : Int} (h : (Num.get zs i).2.2 = true) : 0 ≤ (Num.get zs i).2.1 ∧ (Num.get zs i).2.1 ≤ zs.length := by
  unfold Num.get at h ⊢
  split
  · rename_i hi
    rw [if_pos hi] at h
    split
    · rename_i u k hr
      have hbd : Num.Bytes (zs.drop i.toNat) := fun x hx => hb x (List.mem_of_mem_drop hx)
      have := Num.rd_bd hr hbd (by omega)
      have hl : (zs.drop i.toNat).length = zs.length - i.toNat := List.length_drop
      split
      · simp only
        omega
      · rename_i hu
        rw [hr] at h
        simp only [if_neg hu] at h
        cases h
    · rename_i hr
      rw [hr] at h
      cases h
  · rename_i hi
    rw [if_neg hi] at h
    cases h
theorem At.from {w : World} {b off n cap A tl : Nat} {zs : List Int} (hz : zs.length = n) (h : At 1 w (.slice (some ⟨b, off, none⟩) n cap) n (ints .u8 zs)) (hA : A ≤ n) (ht : A < cap → tl = off + A) : At 1 w (.slice (some ⟨b, tl, none⟩) (n - A) (cap - A)) (n - A) (ints .u8 (zs.drop A)) := by
  obtain ⟨b', off', cap', e, h1, h2, h3, h4⟩ := h
  simp only [Value.slice.injEq, Option.some.injEq, Addr.mk.injEq, and_true, true_and] at e
  obtain ⟨⟨rfl, rfl⟩, rfl⟩ := e
  refine ⟨_, _, _, rfl, by omega, by omega, ?_, fun j u hu => ?_⟩
  · rw [ints_len, List.length_drop, hz, Nat.mul_one]
  · have hlt := (List.getElem?_eq_some_iff.1 hu).1
    rw [ints_len, List.length_drop] at hlt
    have e2 : ints .u8 (zs.drop A) = (ints .u8 zs).drop A := by unfold ints; rw [List.map_drop]
    rw [e2, List.getElem?_drop] at hu
    have := h4 (A + j) u hu
    rw [ht (by omega), Nat.add_assoc]
    exact this
theorem tail_at (cap A b off : Nat) : ∃ tl, (if cap = A then some (⟨b, off, none⟩ : Addr) else some ⟨b, off + A, none⟩) = some ⟨b, tl, none⟩ ∧ Hid (A < cap → tl = off + A) := by
  by_cases e : cap = A
  · exact ⟨off, by rw [if_pos e], fun h => by omega⟩
  · exact ⟨off + A, by rw [if_neg e], fun _ => rfl⟩

end Go.Proofs.Ythniakklkepomaa
