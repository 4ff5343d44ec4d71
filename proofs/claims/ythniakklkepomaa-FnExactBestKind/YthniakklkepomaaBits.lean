/- Plain mathematics of packed bits: digits to the base 2^w, and what chapter 2's functions return. -/
import Derived.Test.YthniakklkepomaaNums
namespace Go.Proofs.Ythniakklkepomaa.Bit

/-- The number of binary digits. -/
def width (n : Nat) : Nat := if n = 0 then 0 else width (n / 2) + 1
  termination_by n
  decreasing_by omega
theorem width_zero : width 0 = 0 := by rw [width]; rfl
theorem width_pos {n : Nat} (h : 0 < n) : width n = width (n / 2) + 1 := by
  rw [width, if_neg (by omega)]
theorem width_le (n : Nat) : ∀ k, width n ≤ k ↔ n < 2 ^ k := by
  induction n using Nat.strongRecOn with
  | _ n ih =>
    intro k
    by_cases h : n = 0
    · subst h
      rw [width_zero]
      exact ⟨fun _ => Nat.pow_pos (by omega), fun _ => Nat.zero_le _⟩
    · rw [width_pos (by omega)]
      cases k with
      | zero => simp; omega
      | succ k =>
        have := ih (n / 2) (by omega) k
        rw [Nat.pow_succ]
        omega
/-- WidthOf. -/
def widthI (n : Int) : Nat := if 0 ≤ n ∧ n ≤ 2147483647 then width n.toNat else 0
theorem widthI_le31 (n : Int) : widthI n ≤ 31 := by
  unfold widthI
  split
  · exact (width_le _ 31).2 (by omega)
  · omega
/-- WidthFor. -/
def widthFor (l : List Int) : Nat := l.foldl (fun a x => max a (widthI x)) 0
theorem widthFor_snoc (l : List Int) (x : Int) : widthFor (l ++ [x]) = max (widthFor l) (widthI x) := by simp [widthFor]
theorem widthFor_le31 (l : List Int) : widthFor l ≤ 31 := by
  suffices h : ∀ (l : List Int) (a : Nat), a ≤ 31 → l.foldl (fun a x => max a (widthI x)) a ≤ 31 from h l 0 (by omega)
  intro l
  induction l with
  | nil => intro a h; exact h
  | cons x r ih =>
    intro a h
    have := widthI_le31 x
    exact ih (max a (widthI x)) (by omega)

/-- The number whose digits to the base 2^w are the list's, the least first. -/
def val (w : Nat) : List Int → Nat
  | [] => 0
  | x :: l => x.toNat + 2 ^ w * val w l
/-- k digits to the base 2^w. -/
def dig (w k N : Nat) : List Int := (List.range k).map fun i => ((N / 2 ^ (i * w) % 2 ^ w : Nat) : Int)
theorem dig_len (w k N : Nat) : (dig w k N).length = k := by simp [dig]
theorem dig_get {w k N i : Nat} (h : i < k) : (dig w k N).getD i 0 = ((N / 2 ^ (i * w) % 2 ^ w : Nat) : Int) := by simp [dig, h]
theorem dig_succ (w k N : Nat) : dig w (k + 1) N = dig w k N ++ [((N / 2 ^ (k * w) % 2 ^ w : Nat) : Int)] := by
  simp [dig, List.range_succ]
/-- Digits to the base 2^w. -/
def Digs (w : Nat) (l : List Int) : Prop := ∀ x ∈ l, 0 ≤ x ∧ x < 2 ^ w
theorem dig_digs (w k N : Nat) : Digs w (dig w k N) := by
  intro x hx
  simp only [dig, List.mem_map] at hx
  obtain ⟨i, _, rfl⟩ := hx
  have h : N / 2 ^ (i * w) % 2 ^ w < 2 ^ w := Nat.mod_lt _ (Nat.pow_pos (by omega))
  refine ⟨Int.natCast_nonneg _, ?_⟩
  have h2 : ((2 ^ w : Nat) : Int) = (2 : Int) ^ w := by simp
  rw [← h2]
  exact Int.ofNat_lt.2 h
theorem toNat_lt {x : Int} {w : Nat} (h : x < 2 ^ w) : x.toNat < 2 ^ w := by
  have h2 : ((2 ^ w : Nat) : Int) = (2 : Int) ^ w := by simp
  have h3 : 0 < 2 ^ w := Nat.pow_pos (by omega)
  omega
theorem val_lt {w : Nat} {l : List Int} (h : Digs w l) : val w l < 2 ^ (l.length * w) := by
  induction l with
  | nil => simp [val]
  | cons x r ih =>
    have ih := ih (fun y hy => h y (List.mem_cons_of_mem _ hy))
    have hx := toNat_lt (h x (List.mem_cons_self ..)).2
    simp only [val, List.length_cons]
    rw [Nat.add_mul, Nat.one_mul, Nat.pow_add, Nat.mul_comm (2 ^ (r.length * w))]
    calc x.toNat + 2 ^ w * val w r < 2 ^ w + 2 ^ w * val w r := by omega
      _ = 2 ^ w * (val w r + 1) := by rw [Nat.mul_add, Nat.mul_one, Nat.add_comm]
      _ ≤ 2 ^ w * 2 ^ (r.length * w) := Nat.mul_le_mul_left _ ih
theorem val_digit {w : Nat} {l : List Int} (h : Digs w l) : ∀ i, i < l.length → val w l / 2 ^ (i * w) % 2 ^ w = (l.getD i 0).toNat := by
  induction l with
  | nil => intro i hi; simp at hi
  | cons x r ih =>
    intro i hi
    have hx := toNat_lt (h x (List.mem_cons_self ..)).2
    cases i with
    | zero =>
      simp only [val, Nat.zero_mul, Nat.pow_zero, Nat.div_one, List.getD_cons_zero]
      rw [Nat.add_mul_mod_self_left, Nat.mod_eq_of_lt hx]
    | succ i =>
      simp only [val, List.getD_cons_succ]
      rw [← ih (fun y hy => h y (List.mem_cons_of_mem _ hy)) i (by simpa using hi), Nat.add_mul, Nat.one_mul, Nat.add_comm (i * w), Nat.pow_add, ← Nat.div_div_eq_div_mul,
        Nat.add_mul_div_left _ _ (Nat.pow_pos (by omega)), Nat.div_eq_of_lt hx, Nat.zero_add]
theorem dig_val {w : Nat} {l : List Int} (h : Digs w l) : dig w l.length (val w l) = l := by
  apply List.ext_getElem
  · rw [dig_len]
  · intro i h1 h2
    have e := val_digit h i h2
    have hx := (h l[i] (List.getElem_mem h2)).1
    simp only [dig, List.getElem_map, List.getElem_range]
    rw [e]
    simp [h2]
    omega
theorem val_dig (w k N : Nat) : val w (dig w k N) = N % 2 ^ (k * w) := by
  induction k generalizing N with
  | zero => simp [dig, val, Nat.mod_one]
  | succ k ih =>
    have e : dig w (k + 1) N = ((N % 2 ^ w : Nat) : Int) :: dig w k (N / 2 ^ w) := by
      simp only [dig, List.range_succ_eq_map, List.map_cons, List.map_map]
      congr 1
      · simp
      · apply List.map_congr_left
        intro i _
        simp only [Function.comp]
        rw [Nat.succ_mul, Nat.add_comm, Nat.pow_add, ← Nat.div_div_eq_div_mul]
    rw [e, val, ih, Int.toNat_natCast, Nat.add_mul, Nat.one_mul, Nat.add_comm (k * w), Nat.pow_add, Nat.mod_mul]

/-! What chapter 2's functions return. -/
def fitsB (l : List Int) (w : Int) : Bool := l.all (fun x => decide (0 ≤ x ∧ x ≤ 2147483647 ∧ (widthI x : Int) ≤ w)) && decide (0 ≤ w ∧ w ≤ 31)
def pack (l : List Int) (w : Int) : List Int := if fitsB l w = true then dig 8 ((l.length * w.toNat + 7) / 8) (val w.toNat l) else []
def bitAt (zs : List Int) (n : Int) : Int := if n < 0 then 0 else ((val 8 zs / 2 ^ n.toNat % 2 : Nat) : Int)
def bytesFor (k w : Int) : Int := if (0 ≤ k ∧ k ≤ 64) ∧ 0 ≤ w ∧ w ≤ 31 then (k * w + 7) / 8 else 0
def unpack (zs : List Int) (w k : Int) : List Int × Bool :=
  if (0 ≤ k ∧ k ≤ 64) ∧ (0 ≤ w ∧ w ≤ 31) ∧ zs.length = (k.toNat * w.toNat + 7) / 8 ∧ val 8 zs < 2 ^ (k.toNat * w.toNat) then (dig w.toNat k.toNat (val 8 zs), true) else ([], false)

/-- What PackBits asks of an element. -/
def okB (x w : Int) : Bool := decide (0 ≤ x ∧ x ≤ 2147483647 ∧ (widthI x : Int) ≤ w)
theorem fitsB_eq (l : List Int) (w : Int) : fitsB l w = (l.all (fun x => okB x w) && decide (0 ≤ w ∧ w ≤ 31)) := rfl
theorem okB_true {x w : Int} (h : 0 ≤ x ∧ x ≤ 2147483647) (h2 : (widthI x : Int) ≤ w) : okB x w = true := decide_eq_true ⟨h.1, h.2, h2⟩
theorem okB_out {x w : Int} (h : ¬ (0 ≤ x ∧ x ≤ 2147483647)) : okB x w = false := decide_eq_false (fun k => h ⟨k.1, k.2.1⟩)
theorem okB_wide {x w : Int} (h : ¬ (widthI x : Int) ≤ w) : okB x w = false := decide_eq_false (fun k => h k.2.2)
theorem fits_no {l : List Int} {w : Int} {k : Nat} (h : k < l.length) (hk : okB (l.getD k 0) w = false) : fitsB l w = false := by
  rw [fitsB_eq, Bool.and_eq_false_iff]
  left
  rw [List.all_eq_false]
  exact ⟨l.getD k 0, by simp [h], by rw [hk]; simp⟩
theorem all_snoc (l : List Int) (x w : Int) : (l ++ [x]).all (fun x => okB x w) = (l.all (fun x => okB x w) && okB x w) := by simp
theorem take_snoc (l : List Int) (k : Nat) (h : k < l.length) : l.take (k + 1) = l.take k ++ [l.getD k 0] := by
  rw [List.take_succ_eq_append_getElem h]
  simp [h]
theorem fits_true {l : List Int} {w : Int} : fitsB l w = true ↔ (∀ x ∈ l, 0 ≤ x ∧ x ≤ 2147483647 ∧ (widthI x : Int) ≤ w) ∧ 0 ≤ w ∧ w ≤ 31 := by
  simp [fitsB]
theorem widthI_in {x : Int} (h0 : 0 ≤ x) (h1 : x ≤ 2147483647) (w : Nat) : widthI x ≤ w ↔ x.toNat < 2 ^ w := by
  unfold widthI
  rw [if_pos ⟨h0, h1⟩]
  exact width_le _ _
theorem lt_of_toNat {x : Int} {w : Nat} (h : x.toNat < 2 ^ w) : x < 2 ^ w := by
  have h2 : ((2 ^ w : Nat) : Int) = (2 : Int) ^ w := by simp
  omega
theorem fits_digs {l : List Int} {w : Nat} (h : fitsB l w = true) : Digs w l := by
  intro x hx
  obtain ⟨h0, h1, h2⟩ := (fits_true.1 h).1 x hx
  exact ⟨h0, lt_of_toNat ((widthI_in h0 h1 w).1 (by omega))⟩
theorem digs_fits {l : List Int} {w : Nat} (h : Digs w l) (hw : w ≤ 31) : fitsB l w = true := by
  refine fits_true.2 ⟨fun x hx => ?_, by omega, by omega⟩
  obtain ⟨h0, h1⟩ := h x hx
  have h3 := toNat_lt h1
  have h4 : 2 ^ w ≤ 2 ^ 31 := Nat.pow_le_pow_right (by omega) hw
  have h5 : x ≤ 2147483647 := by omega
  exact ⟨h0, h5, by have := (widthI_in h0 h5 w).2 h3; omega⟩

/-! Bits. -/
theorem pow_split (n : Nat) : 2 ^ n = 2 ^ (n / 8 * 8) * 2 ^ (n % 8) := by
  rw [← Nat.pow_add]
  congr 1
  omega
theorem mod_bit {M w k : Nat} (h : k < w) : M % 2 ^ w / 2 ^ k % 2 = M / 2 ^ k % 2 := by
  have e : w = k + (1 + (w - k - 1)) := by omega
  rw [e, Nat.pow_add, Nat.mod_mul_right_div_self, Nat.pow_add, Nat.pow_one, Nat.mod_mul_right_mod]
theorem val_bit {w : Nat} {l : List Int} (h : Digs w l) {i k : Nat} (hi : i < l.length) (hk : k < w) : val w l / 2 ^ (i * w + k) % 2 = (l.getD i 0).toNat / 2 ^ k % 2 := by
  rw [← val_digit h i hi, mod_bit hk, Nat.pow_add, Nat.div_div_eq_div_mul]
theorem mod_step (N n : Nat) : N % 2 ^ (n + 1) = N % 2 ^ n + 2 ^ n * (N / 2 ^ n % 2) := Nat.mod_pow_succ
theorem dig_high {j m X c : Nat} (h : j < m) : (X + 2 ^ (m * 8) * c) / 2 ^ (j * 8) % 2 ^ 8 = X / 2 ^ (j * 8) % 2 ^ 8 := by
  have e : m * 8 = j * 8 + (8 + (m - j - 1) * 8) := by omega
  rw [e, Nat.pow_add, Nat.mul_assoc, Nat.add_mul_div_left _ _ (Nat.pow_pos (by omega)), Nat.pow_add, Nat.mul_assoc, Nat.add_mul_mod_self_left]
theorem dig_same {m X c : Nat} : dig 8 m (X + 2 ^ (m * 8) * c) = dig 8 m X := by
  unfold dig
  refine List.map_congr_left (fun j hj => ?_)
  rw [dig_high (List.mem_range.1 hj)]
/-- A new byte. -/
theorem pack_new {n X : Nat} (h8 : n % 8 = 0) (hX : X < 2 ^ n) : dig 8 ((n + 7) / 8) X ++ [0] = dig 8 (n / 8 + 1) X := by
  have e : X / 2 ^ (n / 8 * 8) = 0 := Nat.div_eq_of_lt (by rw [show n / 8 * 8 = n by omega]; exact hX)
  rw [show (n + 7) / 8 = n / 8 by omega, dig_succ, e]
  rfl
/-- A bit set in the last byte. -/
theorem pack_set {n X : Nat} (hX : X < 2 ^ n) : (dig 8 (n / 8 + 1) X).set (n / 8) ((X / 2 ^ (n / 8 * 8) + 2 ^ (n % 8) : Nat) : Int) = dig 8 (n / 8 + 1) (X + 2 ^ n) := by
  have hq : X / 2 ^ (n / 8 * 8) < 2 ^ (n % 8) := by
    rw [Nat.div_lt_iff_lt_mul (Nat.pow_pos (by omega)), Nat.mul_comm, ← pow_split]
    exact hX
  have h8 : 2 ^ (n % 8) ≤ 2 ^ 7 := Nat.pow_le_pow_right (by omega) (by omega)
  rw [dig_succ, dig_succ, List.set_append_right _ _ (by rw [dig_len]; omega), dig_len, Nat.sub_self, List.set_cons_zero]
  congr 1
  · rw [pow_split n, dig_same]
  · have e : (X / 2 ^ (n / 8 * 8) + 2 ^ (n % 8)) % 2 ^ 8 = X / 2 ^ (n / 8 * 8) + 2 ^ (n % 8) := Nat.mod_eq_of_lt (by omega)
    rw [pow_split n, Nat.add_mul_div_left _ _ (Nat.pow_pos (by omega)), e]
theorem last_byte {n X : Nat} (hX : X < 2 ^ n) : (dig 8 (n / 8 + 1) X).getD (n / 8) 0 = ((X / 2 ^ (n / 8 * 8) : Nat) : Int) ∧ X / 2 ^ (n / 8 * 8) < 2 ^ (n % 8) := by
  have hq : X / 2 ^ (n / 8 * 8) < 2 ^ (n % 8) := by
    rw [Nat.div_lt_iff_lt_mul (Nat.pow_pos (by omega)), Nat.mul_comm, ← pow_split]
    exact hX
  have h8 : 2 ^ (n % 8) ≤ 2 ^ 7 := Nat.pow_le_pow_right (by omega) (by omega)
  refine ⟨?_, hq⟩
  rw [dig_get (by omega), Nat.mod_eq_of_lt (by omega)]
/-- Bits that are all zero from a on. -/
theorem lt_of_bits {N a : Nat} : ∀ b, N < 2 ^ b → (∀ n, a ≤ n → n < b → N / 2 ^ n % 2 = 0) → N < 2 ^ a ∨ b < a := by
  intro b
  induction b with
  | zero =>
    intro h _
    by_cases ha : a = 0
    · subst ha; exact .inl h
    · exact .inr (by omega)
  | succ b ih =>
    intro h hz
    by_cases hb : a ≤ b
    · have h0 := hz b hb (by omega)
      have h1 : N / 2 ^ b < 2 := by
        rw [Nat.div_lt_iff_lt_mul (Nat.pow_pos (by omega)), Nat.mul_comm, ← Nat.pow_succ]
        exact h
      have h2 : N / 2 ^ b = 0 := by
        revert h0 h1
        generalize N / 2 ^ b = q
        intro h0 h1
        omega
      have h3 : N < 2 ^ b := by
        rcases Nat.lt_or_ge N (2 ^ b) with h | h
        · exact h
        · have := Nat.div_pos h (Nat.pow_pos (by omega))
          rw [h2] at this
          omega
      rcases ih h3 (fun n h1 h2 => hz n h1 (by omega)) with h | h
      · exact .inl h
      · omega
    · by_cases ha : a = b + 1
      · subst ha; exact .inl h
      · exact .inr (by omega)
theorem ge_of_bit {N a n : Nat} (ha : a ≤ n) (h : ¬ N / 2 ^ n % 2 = 0) : ¬ N < 2 ^ a := by
  intro hlt
  have : N < 2 ^ n := Nat.lt_of_lt_of_le hlt (Nat.pow_le_pow_right (by omega) ha)
  rw [Nat.div_eq_of_lt this] at h
  exact h rfl

/-! The laws' own facts. -/
theorem digs_bytes {zs : List Int} : Digs 8 zs ↔ Num.Bytes zs := by
  constructor
  · intro h x hx
    have := h x hx
    exact ⟨this.1, by have := this.2; omega⟩
  · intro h x hx
    have := h x hx
    exact ⟨this.1, by have := this.2; omega⟩
theorem pack_bytes (l : List Int) (w : Int) : Num.Bytes (pack l w) := by
  unfold pack
  split
  · exact digs_bytes.1 (dig_digs _ _ _)
  · intro x hx; simp at hx
theorem pack_len {l : List Int} {w : Nat} (h : fitsB l w = true) : (pack l w).length = (l.length * w + 7) / 8 := by
  unfold pack
  rw [if_pos h, dig_len, Int.toNat_natCast]
theorem pack_le (l : List Int) (w : Int) : (pack l w).length ≤ 4 * l.length := by
  unfold pack
  split
  next h =>
    have hw := (fits_true.1 h).2
    rw [dig_len]
    have h2 : l.length * w.toNat ≤ l.length * 31 := Nat.mul_le_mul_left _ (by omega)
    omega
  next => simp
theorem unpack_le (zs : List Int) (w k : Int) : (unpack zs w k).1.length ≤ 64 := by
  unfold unpack
  split
  next h => simp only [dig_len]; omega
  next => simp
theorem val_pack {l : List Int} {w : Nat} (h : fitsB l w = true) : val 8 (pack l w) = val w l := by
  unfold pack
  rw [if_pos h, Int.toNat_natCast, val_dig]
  refine Nat.mod_eq_of_lt (Nat.lt_of_lt_of_le (val_lt (fits_digs h)) (Nat.pow_le_pow_right (by omega) ?_))
  omega
theorem unpack_pack {l : List Int} {w : Nat} (h : fitsB l w = true) (hl : l.length ≤ 64) : unpack (pack l w) w l.length = (l, true) := by
  have hw := (fits_true.1 h).2
  unfold unpack
  rw [val_pack h, pack_len h]
  simp only [Int.toNat_natCast]
  rw [if_pos ⟨by omega, by omega, trivial, val_lt (fits_digs h)⟩, dig_val (fits_digs h)]
theorem pack_unpack {zs l : List Int} {w k : Int} (hz : Num.Bytes zs) (h : unpack zs w k = (l, true)) : pack l w = zs ∧ (l.length : Int) = k := by
  unfold unpack at h
  split at h
  next hc =>
    obtain ⟨⟨k0, k1⟩, ⟨w0, w1⟩, hlen, hlt⟩ := hc
    obtain ⟨k, rfl⟩ := Int.eq_ofNat_of_zero_le k0
    obtain ⟨w, rfl⟩ := Int.eq_ofNat_of_zero_le w0
    simp only [Int.toNat_natCast] at hlen hlt h
    obtain rfl : dig w k (val 8 zs) = l := congrArg Prod.fst h
    refine ⟨?_, by rw [dig_len]⟩
    unfold pack
    rw [if_pos (digs_fits (dig_digs _ _ _) (by omega)), dig_len, Int.toNat_natCast, val_dig, Nat.mod_eq_of_lt hlt, ← hlen, dig_val (digs_bytes.2 hz)]
  next => simp at h
theorem bitAt_in {zs : List Int} {k : Nat} (hz : Num.Bytes zs) (h : k / 8 < zs.length) : bitAt zs k = (((zs.getD (k / 8) 0).toNat / 2 ^ (k % 8) % 2 : Nat) : Int) := by
  unfold bitAt
  rw [if_neg (by omega), Int.toNat_natCast, ← val_bit (digs_bytes.2 hz) h (Nat.mod_lt _ (by omega)), Nat.div_add_mod']
theorem bitAt_out {zs : List Int} {k : Nat} (hz : Num.Bytes zs) (h : ¬ k / 8 < zs.length) : bitAt zs k = 0 := by
  unfold bitAt
  rw [if_neg (by omega), Int.toNat_natCast, Nat.div_eq_of_lt (Nat.lt_of_lt_of_le (val_lt (digs_bytes.2 hz)) (Nat.pow_le_pow_right (by omega) (by omega)))]
  rfl
theorem bit_pack {l : List Int} {w i : Nat} (h : fitsB l w = true) (hi : i < l.length) (hw : 0 < w) : bitAt (pack l w) ((i * w : Nat) : Int) = l.getD i 0 % 2 := by
  have hx := ((fits_true.1 h).1 (l.getD i 0) (by simp [hi])).1
  unfold bitAt
  rw [if_neg (by omega), val_pack h, Int.toNat_natCast]
  have := val_bit (fits_digs h) hi hw
  rw [Nat.add_zero] at this
  rw [this, Nat.pow_zero, Nat.div_one]
  omega

end Go.Proofs.Ythniakklkepomaa.Bit
