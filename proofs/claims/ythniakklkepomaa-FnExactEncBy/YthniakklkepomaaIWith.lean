/- The contracts of impl's allWithin and zeroFrom. -/
import Derived.Test.YthniakklkepomaaIBits
namespace Go.Proofs.Ythniakklkepomaa
open Go.RowKit

theorem pow31 {b : Nat} (h : b ≤ 31) : (1 : Int) ≤ 2 ^ b ∧ (2 : Int) ^ b ≤ 2147483648 := by
  have h1 : 2 ^ b ≤ 2 ^ 31 := Nat.pow_le_pow_right (by omega) h
  have h2 : 0 < 2 ^ b := Nat.pow_pos (by omega)
  have h3 : ((2 ^ b : Nat) : Int) = (2 : Int) ^ b := by simp
  omega
theorem fitsB_of {l : List Int} {b : Nat} (hb : b ≤ 31) (h : ∀ x ∈ l, 0 ≤ x ∧ x < 2 ^ b) : Bit.fitsB l b = true := Bit.digs_fits h hb
theorem fitsB_not {l : List Int} {b k : Nat} (hk : k < l.length) (h : ¬ (0 ≤ l.getD k 0 ∧ l.getD k 0 < 2 ^ b)) : Bit.fitsB l b = false := by
  cases hf : Bit.fitsB l b with
  | false => rfl
  | true => exact absurd (Bit.fits_digs hf (l.getD k 0) (by simp [hk])) h

set_option maxHeartbeats 400000 in
theorem iAllWithin (u : Value) (m : Nat) (l : List Int) (b : Nat) (w : World) (hb : b ≤ 31) (hm : l.length = m) (hl : AtN 1 w u m (ints .i64 l)) :
    Calls Try.prog 79 #[u, .int .i64 b] w fun e w' => e = .returned (.bool (Bit.fitsB l b)) ∧ w = w' := by
  have hp := pow31 hb
  have hw : wrap64 ((2 : Int) ^ b) = 2 ^ b := by unfold wrap64; omega
  rcases hl with ⟨rfl, rfl, _⟩ | ⟨g, off, cap, rfl, h1, h2, h3, hc⟩
  · obtain rfl : l = [] := List.length_eq_zero_iff.1 hm
    have HF : Hid (Bit.fitsB [] b = true) := fitsB_of hb (by simp)
    go_enter Try.func79, Try.ntmps79
    go_wp2
    refine wp_loop_rounds 1 ?_
    rw [rounds_succ]
    go_wp2
    go_ret
    exact ⟨ret_bool HF.out.symm, rfl⟩
  · have HM := Lib.hid hm
    clear hm h3
    unfold maxLen at h2
    go_enter Try.func79, Try.ntmps79
    go_wp2
    go_loop [9] (fun i => ∃ k : Nat, k ≤ m ∧ i = .int .i64 k ∧ ∀ x ∈ l.take k, 0 ≤ x ∧ x < (2 : Int) ^ b) (fun i => m - (intOf i).toNat)
    case atStart => exact ⟨0, Nat.zero_le _, rfl, by simp⟩
    case round =>
      obtain ⟨k, hk, rfl, hok⟩ := hrel
      have HOK := Lib.hid hok
      clear hok
      by_cases hlt : k < m
      · have hcx : w.cell? ⟨g, off + k, none⟩ = some (.int .i64 (l.getD k 0)) := At.cell hc HM.out hlt
        have HS : Hid (0 ≤ l.getD k 0 ∧ l.getD k 0 < 2 ^ b → ∀ x ∈ l.take (k + 1), 0 ≤ x ∧ x < (2 : Int) ^ b) := by
          intro h x hx
          rw [Bit.take_snoc l k (by rw [HM.out]; exact hlt)] at hx
          rcases List.mem_append.1 hx with hx | hx
          · exact HOK.out x hx
          · rw [List.mem_singleton.1 hx]; exact h
        have HN : Hid (¬ (0 ≤ l.getD k 0 ∧ l.getD k 0 < 2 ^ b) → Bit.fitsB l b = false) := fitsB_not (by rw [HM.out]; exact hlt)
        generalize l.getD k 0 = x at hcx HS HN
        clear hc
        by_cases hlo : x < 0
        · have HN2 := Lib.hid (HN.out (by omega))
          go_wp2
          go_ret
          exact ⟨ret_bool HN2.out.symm, rfl⟩
        · by_cases hhi : (2 : Int) ^ b ≤ x
          · have HN2 := Lib.hid (HN.out (by omega))
            go_wp2
            go_ret
            exact ⟨ret_bool HN2.out.symm, rfl⟩
          · have HS2 := Lib.hid (HS.out (by omega))
            go_wp2
            go_round
            case rel => exact ⟨k + 1, by omega, by go_num, HS2.out⟩
            case measure => simp [intOf]; omega
      · obtain rfl : k = m := by omega
        have HF : Hid (Bit.fitsB l b = true) := by
          have := HOK.out
          rw [← HM.out, List.take_length] at this
          exact fitsB_of hb this
        go_wp2
        go_ret
        exact ⟨ret_bool HF.out.symm, rfl⟩

/-- The bits from t on are zero. -/
def zeroB (zs : List Int) (t : Nat) : Bool := decide (Bit.val 8 zs < 2 ^ t)

end Go.Proofs.Ythniakklkepomaa
