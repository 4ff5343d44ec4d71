/- The contracts of the program's readGroups and GetNum, and of the model's GetNum. -/
import Derived.Test.YthniakklkepomaaZig
import Derived.Test.YthniakklkepomaaBytes
namespace Go.Proofs.Ythniakklkepomaa
open Go.RowKit

/-- What readGroups returns. -/
def rdRes : Option (Int × Nat) → Value
  | some (u, k) => .tuple #[.int .i64 u, .int .i64 k]
  | none => .tuple #[.int .i64 0, .int .i64 0]

theorem drop_cons {zs : List Int} {k : Nat} (h : k < zs.length) : zs.drop k = zs.getD k 0 :: zs.drop (k + 1) := by
  rw [List.drop_eq_getElem_cons h]; simp [h]
theorem getD_mem {zs : List Int} {k : Nat} (h : k < zs.length) : zs.getD k 0 ∈ zs := by
  simp [h]

theorem rd_sum {x c : Int} {k : Nat} (hk : k < 5) (hx0 : 0 ≤ x) (hx1 : x < 128 ^ k) :
    wrap64 (x + wrap64 (c % 128 * 2 ^ (7 * k))) = x + c % 128 * 128 ^ k ∧ 0 ≤ x + c % 128 * 128 ^ k ∧ x + c % 128 * 128 ^ k < 128 ^ (k + 1) := by
  have h5 : k = 0 ∨ k = 1 ∨ k = 2 ∨ k = 3 ∨ k = 4 := by omega
  rcases h5 with rfl | rfl | rfl | rfl | rfl <;> simp only [Nat.mul_zero, Nat.reduceMul, Nat.reduceAdd, Nat.zero_add, Int.reducePow, Int.pow_zero, Int.mul_one] at hx1 ⊢ <;>
    (first | rw [IntWalk.wrap64_in (c % 128) (by omega)] | rw [IntWalk.wrap64_in (c % 128 * _) (by omega)]) <;> (rw [IntWalk.wrap64_in _ (by omega)]; omega)

theorem rd_more {f i : Nat} {u c : Int} {r : List Int} (h : 128 ≤ c) : Num.rd (f + 1) i u (c :: r) = Num.rd f (i + 1) (u + c % 128 * 128 ^ i) r := by
  simp only [Num.rd]; rw [if_pos h]
theorem rd_zero {f i : Nat} {u : Int} {r : List Int} (h : 0 < i) : Num.rd (f + 1) i u (0 :: r) = none := by
  simp only [Num.rd]; rw [if_neg (by omega), if_pos (by simp [h])]
theorem rd_end {f i : Nat} {u c : Int} {r : List Int} (h : c < 128) (h2 : ¬ (c = 0 ∧ 0 < i)) : Num.rd (f + 1) i u (c :: r) = some (u + c % 128 * 128 ^ i, i + 1) := by
  simp only [Num.rd]; rw [if_neg (by omega), if_neg h2]
theorem rd_nil {f i : Nat} {u : Int} : Num.rd f i u [] = none := by cases f <;> rfl
theorem fuel {k : Nat} (h : k < 5) : 5 - k = (5 - (k + 1)) + 1 := by omega


/-- What GetNum returns. -/
def getRes (r : Int × Int × Bool) : Value := .tuple #[.int .i64 r.1, .int .i64 r.2.1, .bool r.2.2]

theorem At.drop {k : IntKind} {w : World} {b off n cap m : Nat} {zs : List Int} (hz : zs.length = n) (hm : m ≤ n) (hn : n ≤ cap) (hc : cap ≤ maxLen) (h : ∀ j u, (ints k zs)[j]? = some u → w.cell? ⟨b, off + j, none⟩ = some u) :
    At 1 w (.slice (some ⟨b, off + m, none⟩) (n - m) (cap - m)) (n - m) (ints k (zs.drop m)) := by
  refine ⟨b, off + m, cap - m, rfl, by omega, by unfold maxLen at hc ⊢; omega, by simp [ints]; omega, fun j u hu => ?_⟩
  have := h (m + j) u (by simpa [ints, List.getElem?_drop] using hu)
  rw [Nat.add_assoc]
  exact this

theorem get_out {zs : List Int} {i : Int} (h : ¬ (0 ≤ i ∧ i ≤ zs.length)) : Num.get zs i = (0, 0, false) := by unfold Num.get; rw [if_neg h]
theorem get_end {zs : List Int} {i : Int} (h0 : 0 ≤ i) (h : (zs.length : Int) ≤ i) : Num.get zs i = (0, 0, false) := by
  unfold Num.get
  by_cases h2 : 0 ≤ i ∧ i ≤ zs.length
  · rw [if_pos h2, List.drop_eq_nil_of_le (by omega), rd_nil]
  · rw [if_neg h2]
theorem get_some {zs : List Int} {i : Nat} {u : Int} {k : Nat} (h : i ≤ zs.length) (hr : Num.rd 5 0 0 (zs.drop i) = some (u, k)) (hu : u ≤ 2000000000) : Num.get zs i = (Num.zag u, (i : Int) + k, true) := by
  unfold Num.get; rw [if_pos (by omega), Int.toNat_natCast, hr]; simp only; rw [if_pos hu]
theorem get_great {zs : List Int} {i : Nat} {u : Int} {k : Nat} (h : i ≤ zs.length) (hr : Num.rd 5 0 0 (zs.drop i) = some (u, k)) (hu : 2000000000 < u) : Num.get zs i = (0, 0, false) := by
  unfold Num.get; rw [if_pos (by omega), Int.toNat_natCast, hr]; simp only; rw [if_neg (by omega)]
theorem get_none {zs : List Int} {i : Nat} (h : i ≤ zs.length) (hr : Num.rd 5 0 0 (zs.drop i) = none) : Num.get zs i = (0, 0, false) := by
  unfold Num.get; rw [if_pos (by omega), Int.toNat_natCast, hr]

end Go.Proofs.Ythniakklkepomaa
