/- Texts of this claim, one behind the other: Dig. -/
import Derived.Test.YtkofafefnlommaaDoorP1
import Derived.Lib.ItoaMem
import Derived.Lib.ItoaLen
import Derived.Lib.Atoi
import Derived.Lib.AtoiBound

/- Plain mathematics of decimal numerals: what ParseNum returns, by the program's road (Atoi) and by the model's (digit by digit). -/
namespace Go.Proofs.YtkofafefnlommaaDoor.Dig

/-- What ParseNum returns. -/
def parse (s : List UInt8) : Int × Bool :=
  if s.length ≤ 11 then
    match Lib.atoi s with
    | some n => if Num.okB n = true ∧ Lib.itoa n = s then (n, true) else (0, false)
    | none => (0, false)
  else (0, false)

/-- The model's value: digits behind an optional minus, none needed. -/
def sval : List UInt8 → Option Int
  | [] => some 0
  | b :: r => if b = 45 then (Lib.decFrom 0 r).map fun (m : Nat) => -(m : Int) else (Lib.decFrom 0 (b :: r)).map fun (m : Nat) => (m : Int)

theorem decDigits_ne (u : Nat) : Lib.decDigits u ≠ [] := by
  intro h
  have := Lib.decDigits_length u
  rw [h] at this
  have h2 : 0 < Lib.nDigits u := by
    rw [Lib.nDigits]; split <;> omega
  simp at this
  omega
theorem decDigits_head (u : Nat) : ∃ d : Nat, d < 10 ∧ ∃ r, Lib.decDigits u = UInt8.ofNat (48 + d) :: r := by
  induction u using Nat.strongRecOn with
  | _ u ih =>
    by_cases h : u < 10
    · exact ⟨u, h, [], Lib.decDigits_one h⟩
    · obtain ⟨d, hd, r, hr⟩ := ih (u / 10) (by omega)
      refine ⟨d, hd, r ++ [UInt8.ofNat (48 + u % 10)], ?_⟩
      rw [Lib.decDigits, dif_neg h, hr]
      rfl
theorem byte_digit (d : Nat) (hd : d < 10) : (UInt8.ofNat (48 + d)).toNat = 48 + d := by
  rw [UInt8.toNat_ofNat']; omega
theorem digitVal_of (d : Nat) (hd : d < 10) : Lib.digitVal (UInt8.ofNat (48 + d)) = some d := by
  unfold Lib.digitVal
  rw [byte_digit d hd, if_pos (by omega)]
  congr 1
  omega
theorem decFrom_append (l m : List UInt8) (acc : Nat) : Lib.decFrom acc (l ++ m) = (Lib.decFrom acc l).bind fun a => Lib.decFrom a m := by
  induction l generalizing acc with
  | nil => rfl
  | cons b r ih =>
    simp only [List.cons_append, Lib.decFrom]
    cases Lib.digitVal b with
    | none => rfl
    | some d => exact ih _
theorem decFrom_digits (u : Nat) : Lib.decFrom 0 (Lib.decDigits u) = some u := by
  induction u using Nat.strongRecOn with
  | _ u ih =>
    by_cases h : u < 10
    · rw [Lib.decDigits_one h]
      simp only [Lib.decFrom, digitVal_of u h]
      simp
    · rw [Lib.decDigits, dif_neg h, decFrom_append, ih (u / 10) (by omega)]
      simp only [Option.bind_some, Lib.decFrom, digitVal_of (u % 10) (by omega)]
      congr 1
      omega
theorem decNat_digits (u : Nat) : Lib.decNat (Lib.decDigits u) = some u := by
  unfold Lib.decNat
  rw [if_neg (by simp [decDigits_ne]), decFrom_digits]

theorem itoa_cases (n : Int) : (∃ u : Nat, 1 ≤ u ∧ n = -(u : Int) ∧ Lib.itoa n = 45 :: Lib.decDigits u) ∨ (∃ u : Nat, n = (u : Int) ∧ Lib.itoa n = Lib.decDigits u) := by
  by_cases h : n < 0
  · obtain ⟨u, rfl⟩ : ∃ u : Nat, n = -(u : Int) := ⟨n.natAbs, by omega⟩
    exact .inl ⟨u, by omega, rfl, Lib.itoa_neg u (by omega)⟩
  · obtain ⟨u, rfl⟩ : ∃ u : Nat, n = (u : Int) := ⟨n.toNat, by omega⟩
    exact .inr ⟨u, rfl, Lib.itoa_nonneg u⟩

theorem digit_ne (d : Nat) (hd : d < 10) (c : UInt8) (hc : c.toNat < 48) : UInt8.ofNat (48 + d) ≠ c := by
  intro h
  have := byte_digit d hd
  rw [h] at this
  omega

theorem atoi_itoa (n : Int) : Lib.atoi (Lib.itoa n) = some n := by
  rcases itoa_cases n with ⟨u, hu, rfl, hi⟩ | ⟨u, rfl, hi⟩
  · rw [hi]
    simp only [Lib.atoi]
    rw [if_pos (by decide), decNat_digits]
    rfl
  · rw [hi]
    obtain ⟨d, hd, r, hr⟩ := decDigits_head u
    have h1 := digit_ne d hd 45 (by decide)
    have h2 := digit_ne d hd 43 (by decide)
    have hn := decNat_digits u
    rw [hr] at hn ⊢
    simp only [Lib.atoi]
    rw [if_neg (by simpa using h1), if_neg (by simpa using h2), hn]
    rfl

/-- What the model's road gives is what the program's gives. -/
theorem parse_sval (s : List UInt8) (h1 : 1 ≤ s.length) (h11 : s.length ≤ 11) :
    parse s = match sval s with
      | some n => if Num.okB n = true ∧ Lib.itoa n = s then (n, true) else (0, false)
      | none => (0, false) := by
  unfold parse
  rw [if_pos h11]
  cases s with
  | nil => simp at h1
  | cons b r =>
    by_cases hb : b = 45
    · subst hb
      simp only [Lib.atoi, sval, if_true]
      rw [if_pos (by decide)]
      cases r with
      | nil =>
        have e : Lib.itoa 0 = [48] := by decide +kernel
        simp [Lib.decNat, Lib.decFrom, e]
      | cons c t => simp [Lib.decNat]
    · by_cases hp : b = 43
      · subst hp
        have hs : sval (43 :: r) = none := by
          simp only [sval]
          rw [if_neg (by decide)]
          simp [Lib.decFrom, Lib.digitVal]
        rw [hs]
        cases ha : Lib.atoi (43 :: r) with
        | none => rfl
        | some n =>
          simp only
          rw [if_neg]
          rintro ⟨_, hi⟩
          rcases itoa_cases n with ⟨u, hu, rfl, hj⟩ | ⟨u, rfl, hj⟩
          · rw [hj] at hi; simp at hi
          · obtain ⟨d, hd, t, ht⟩ := decDigits_head u
            rw [hj, ht] at hi
            simp only [List.cons.injEq] at hi
            exact digit_ne d hd 43 (by decide) hi.1
      · simp only [Lib.atoi, sval]
        rw [if_neg (by simpa using hb), if_neg (by simpa using hp), if_neg hb]
        simp [Lib.decNat]

theorem parse_true {s : List UInt8} {n : Int} (h : parse s = (n, true)) : Lib.itoa n = s ∧ Num.ok n := by
  unfold parse at h
  split at h
  · split at h
    · split at h
      · rename_i hc
        simp at h
        subst h
        exact ⟨hc.2, Num.okB_true.1 hc.1⟩
      · simp at h
    · simp at h
  · simp at h
theorem nDigits_mono_le (u : Nat) (h : u ≤ 1000000000) : Lib.nDigits u ≤ 10 := by
  have key : ∀ k u, u < 10 ^ (k + 1) → Lib.nDigits u ≤ k + 1 := by
    intro k
    induction k with
    | zero => intro u hu; rw [Lib.nDigits_small (by omega)]; omega
    | succ k ih =>
      intro u hu
      by_cases h10 : u < 10
      · rw [Lib.nDigits_small h10]; omega
      · rw [Lib.nDigits_big h10]
        have := ih (u / 10) (by rw [Nat.pow_succ] at hu; omega)
        omega
  exact key 9 u (by omega)
theorem itoa_len11 {n : Int} (h : Num.ok n) : (Lib.itoa n).length ≤ 11 := by
  obtain ⟨h1, h2⟩ := h
  rcases itoa_cases n with ⟨u, hu, rfl, hj⟩ | ⟨u, rfl, hj⟩
  · rw [hj, List.length_cons, Lib.decDigits_length]
    have := nDigits_mono_le u (by omega)
    omega
  · rw [hj, Lib.decDigits_length]
    have := nDigits_mono_le u (by omega)
    omega
theorem parse_itoa_ok {n : Int} (h : Num.ok n) : parse (Lib.itoa n) = (n, true) := by
  unfold parse
  rw [if_pos (itoa_len11 h), atoi_itoa]
  simp only
  rw [if_pos ⟨Num.okB_true.2 h, trivial⟩]
theorem parse_itoa_no {n : Int} (h : ¬ Num.ok n) : parse (Lib.itoa n) = (0, false) := by
  unfold parse
  split
  · rw [atoi_itoa]
    simp only
    rw [if_neg]
    rintro ⟨h1, _⟩
    exact h (Num.okB_true.1 h1)
  · rfl

#print axioms parse_sval
end Go.Proofs.YtkofafefnlommaaDoor.Dig
