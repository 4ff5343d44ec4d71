/- Texts of this claim, one behind the other: Nums, Bits. -/

/- Plain mathematics of chapter 1 (variable-length integers): zigzag, groups of seven bits, reading them back. No Go in it. -/
namespace Go.Proofs.YtkofafefnlommaaGreat.Num

abbrev ok (n : Int) : Prop := -1000000000 ≤ n ∧ n ≤ 1000000000
def inB (x a b : Int) : Bool := decide (a ≤ x ∧ x ≤ b)
theorem inB_true {x a b : Int} : inB x a b = true ↔ (a ≤ x ∧ x ≤ b) := by simp [inB]
theorem inB_false {x a b : Int} : inB x a b = false ↔ ¬ (a ≤ x ∧ x ≤ b) := by simp [inB]
def okB (n : Int) : Bool := inB n (-1000000000) 1000000000
theorem okB_true {n : Int} : okB n = true ↔ ok n := inB_true
theorem okB_false {n : Int} : okB n = false ↔ ¬ ok n := inB_false

def zig (n : Int) : Int := if ok n then (if n < 0 then -2 * n - 1 else 2 * n) else 0
def zag (n : Int) : Int := if 0 ≤ n ∧ n ≤ 2000000000 then (if n % 2 = 1 then -((n + 1) / 2) else n / 2) else 0

theorem zig_bd (n : Int) : 0 ≤ zig n ∧ zig n ≤ 2000000000 := by
  unfold zig
  by_cases h : ok n
  · rw [if_pos h]; unfold ok at h; by_cases h0 : n < 0
    · rw [if_pos h0]; omega
    · rw [if_neg h0]; omega
  · rw [if_neg h]; omega
theorem zag_bd (n : Int) : ok (zag n) := by
  unfold zag ok; split
  · split <;> omega
  · omega
theorem zag_zig {n : Int} (h : ok n) : zag (zig n) = n := by
  unfold zag zig; rw [if_pos h]; unfold ok at h
  by_cases h0 : n < 0
  · rw [if_pos h0, if_pos (by omega), if_pos (by omega)]; omega
  · rw [if_neg h0, if_pos (by omega), if_neg (by omega)]; omega
theorem zig_zag {u : Int} (h0 : 0 ≤ u) (h : u ≤ 2000000000) : zig (zag u) = u := by
  have e : zag u = if u % 2 = 1 then -((u + 1) / 2) else u / 2 := by unfold zag; exact if_pos ⟨h0, h⟩
  have hb := zag_bd u
  unfold zig; rw [if_pos hb, e]
  by_cases h1 : u % 2 = 1
  · rw [if_pos h1, if_pos (by omega)]; omega
  · rw [if_neg h1, if_neg (by omega)]; omega

/-- The groups of u, at most f + 1 of them. -/
def grp : Nat → Int → List Int
  | 0, u => [u]
  | f + 1, u => if 128 ≤ u then (u % 128 + 128) :: grp f (u / 128) else [u]

theorem grp_step {f : Nat} {u : Int} (h : 128 ≤ u) : grp (f + 1) u = (u % 128 + 128) :: grp f (u / 128) := by simp [grp, h]
theorem grp_last {f : Nat} {u : Int} (h : u < 128) : grp f u = [u] := by
  cases f with
  | zero => rfl
  | succ f => simp [grp]; omega
theorem grp_len (f : Nat) (u : Int) : 1 ≤ (grp f u).length ∧ (grp f u).length ≤ f + 1 := by
  induction f generalizing u with
  | zero => simp [grp]
  | succ f ih =>
    unfold grp; split
    · have := ih (u / 128); simp; omega
    · simp

def put (b : List Int) (n : Int) : List Int := if ok n then b ++ grp 4 (zig n) else b
theorem put_ok {b : List Int} {n : Int} (h : ok n) : put b n = b ++ grp 4 (zig n) := by simp [put, h]
theorem put_no {b : List Int} {n : Int} (h : ¬ ok n) : put b n = b := by simp [put, h]
theorem put_len (b : List Int) (n : Int) : b.length ≤ (put b n).length ∧ (put b n).length ≤ b.length + 5 := by
  unfold put; split
  · have := grp_len 4 (zig n); simp; omega
  · omega

/-- Bytes. -/
def Bytes (l : List Int) : Prop := ∀ x ∈ l, 0 ≤ x ∧ x ≤ 255
theorem grp_bytes {f : Nat} : ∀ {u : Int}, 0 ≤ u → u < 128 ^ (f + 1) → Bytes (grp f u) := by
  induction f with
  | zero => intro u h0 h1; simp [grp, Bytes]; simp at h1; omega
  | succ f ih =>
    intro u h0 h1
    unfold grp; split
    · intro x hx
      rw [List.mem_cons] at hx
      rcases hx with rfl | hx
      · omega
      · refine ih (u := u / 128) (by omega) ?_ x hx
        have : u < 128 ^ (f + 1) * 128 := by rw [Int.pow_succ] at h1; exact h1
        omega
    · intro x hx; simp at hx; omega
theorem put_bytes {b : List Int} (hb : Bytes b) (n : Int) : Bytes (put b n) := by
  unfold put; split
  · intro x hx
    rw [List.mem_append] at hx
    rcases hx with hx | hx
    · exact hb x hx
    · have hz := zig_bd n
      exact grp_bytes (f := 4) hz.1 (by have : (128 : Int) ^ (4 + 1) = 34359738368 := by decide
                                        omega) x hx
  · exact hb

/-- Reading groups: f more at most, i read, u so far. -/
def rd : Nat → Nat → Int → List Int → Option (Int × Nat)
  | 0, _, _, _ => none
  | _ + 1, _, _, [] => none
  | f + 1, i, u, c :: r => if 128 ≤ c then rd f (i + 1) (u + (c % 128) * 128 ^ i) r else if c = 0 ∧ 0 < i then none else some (u + (c % 128) * 128 ^ i, i + 1)

def get (b : List Int) (at_ : Int) : Int × Int × Bool :=
  if 0 ≤ at_ ∧ at_ ≤ b.length then
    match rd 5 0 0 (b.drop at_.toNat) with
    | some (u, k) => if u ≤ 2000000000 then (zag u, at_ + k, true) else (0, 0, false)
    | none => (0, 0, false)
  else (0, 0, false)

theorem rd_bd {f i : Nat} {u : Int} {l : List Int} {x : Int} {k : Nat} (h : rd f i u l = some (x, k)) (hb : Bytes l) (hu : 0 ≤ u) : u ≤ x ∧ i < k ∧ k ≤ i + f ∧ k ≤ i + l.length := by
  induction f generalizing i u l with
  | zero => simp [rd] at h
  | succ f ih =>
    cases l with
    | nil => simp [rd] at h
    | cons c r =>
      have hc := hb c (by simp)
      have hp : (0 : Int) ≤ (c % 128) * 128 ^ i := Int.mul_nonneg (by omega) (Int.pow_nonneg (by omega))
      unfold rd at h
      split at h
      · have := ih h (fun x hx => hb x (by simp [hx])) (by omega)
        simp; omega
      · split at h
        · simp at h
        · simp at h; simp; omega

/-- What grp writes rd reads, whatever follows. -/
theorem rd_grp {f : Nat} : ∀ {i : Nat} {u v : Int} {rest : List Int}, 0 ≤ u → u < 128 ^ (f + 1) → (i = 0 ∨ 0 < u) → rd (f + 1) i v (grp f u ++ rest) = some (v + u * 128 ^ i, i + (grp f u).length) := by
  induction f with
  | zero =>
    intro i u v rest h0 h1 hi
    simp at h1
    simp only [grp, List.cons_append, List.nil_append, rd]
    rw [if_neg (by omega), if_neg (by omega)]
    simp only [List.length_cons, List.length_nil]
    rw [show u % 128 = u by omega]
  | succ f ih =>
    intro i u v rest h0 h1 hi
    by_cases h : 128 ≤ u
    · rw [grp_step h]
      simp only [List.cons_append, rd]
      rw [if_pos (by omega)]
      have h1' : u < 128 ^ (f + 1) * 128 := by rw [Int.pow_succ] at h1; exact h1
      rw [ih (u := u / 128) (by omega) (by omega) (Or.inr (by omega))]
      simp only [List.length_cons]
      refine congrArg some (Prod.ext ?_ ?_)
      · show v + (u % 128 + 128) % 128 * 128 ^ i + u / 128 * 128 ^ (i + 1) = v + u * 128 ^ i
        have e1 : (u % 128 + 128) % 128 = u % 128 := by omega
        have e2 : u = u % 128 + 128 * (u / 128) := by omega
        rw [e1, Int.pow_succ]
        generalize hp : (128 : Int) ^ i = p
        have : u * p = (u % 128 + 128 * (u / 128)) * p := by rw [← e2]
        rw [this, Int.add_mul]
        have : u / 128 * (p * 128) = 128 * (u / 128) * p := by rw [Int.mul_comm p 128, ← Int.mul_assoc, Int.mul_comm (u / 128) 128]
        omega
      · show i + 1 + (grp f (u / 128)).length = i + ((grp f (u / 128)).length + 1)
        omega
    · rw [grp_last (by omega)]
      simp only [List.cons_append, List.nil_append, rd]
      rw [if_neg h, if_neg (by omega)]
      simp only [List.length_cons, List.length_nil]
      rw [show u % 128 = u by omega]

theorem get_put {b rest : List Int} {n : Int} (h : ok n) : get (put b n ++ rest) b.length = (n, ((put b n).length : Int), true) := by
  have hz := zig_bd n
  have e5 : (128 : Int) ^ (4 + 1) = 34359738368 := by decide
  unfold get
  rw [if_pos (by have := put_len b n; simp; omega)]
  rw [put_ok h]
  have hd : (b ++ grp 4 (zig n) ++ rest).drop (b.length : Int).toNat = grp 4 (zig n) ++ rest := by
    rw [List.append_assoc, Int.toNat_natCast, List.drop_left]
  rw [hd, rd_grp (f := 4) hz.1 (by omega) (Or.inl rfl)]
  simp only [Int.pow_zero, Int.mul_one, Int.zero_add, Nat.zero_add]
  rw [if_pos hz.2, zag_zig h]
  simp

/-- What rd reads grp writes. -/
theorem grp_rd {f : Nat} : ∀ {i : Nat} {u x : Int} {k : Nat} {l : List Int}, Bytes l → rd (f + 1) i u l = some (x, k) →
    ∃ y, 0 ≤ y ∧ y < 128 ^ (f + 1) ∧ x = u + y * 128 ^ i ∧ (i = 0 ∨ 0 < y) ∧ l.take (k - i) = grp f y ∧ i < k := by
  induction f with
  | zero =>
    intro i u x k l hb h
    cases l with
    | nil => simp [rd] at h
    | cons c r =>
      have hc := hb c (by simp)
      simp only [rd] at h
      split at h
      · simp at h
      · split at h
        · simp at h
        · simp at h
          obtain ⟨rfl, rfl⟩ := h
          refine ⟨c, by omega, by simp; omega, by rw [show c % 128 = c by omega], by omega, ?_, by omega⟩
          simp [grp]
  | succ f ih =>
    intro i u x k l hb h
    cases l with
    | nil => simp [rd] at h
    | cons c r =>
      have hc := hb c (by simp)
      unfold rd at h
      split at h
      · rename_i hge
        obtain ⟨y, hy0, hy1, hx, hyi, ht, hk⟩ := ih (fun x hx => hb x (by simp [hx])) h
        have hy : 0 < y := by omega
        have hg : grp (f + 1) (c % 128 + 128 * y) = c :: grp f y := by
          rw [grp_step (by omega)]
          rw [show (c % 128 + 128 * y) / 128 = y by omega, show (c % 128 + 128 * y) % 128 + 128 = c by omega]
        refine ⟨c % 128 + 128 * y, by omega, ?_, ?_, by omega, ?_, by omega⟩
        · rw [Int.pow_succ]; omega
        · rw [hx, Int.pow_succ, Int.add_mul, Int.add_assoc]
          generalize (128 : Int) ^ i = p
          rw [show y * (p * 128) = 128 * y * p by rw [Int.mul_comm p 128, ← Int.mul_assoc, Int.mul_comm y 128]]
        · rw [hg, show k - i = (k - (i + 1)) + 1 by omega, List.take_succ_cons, ht]
      · split at h
        · simp at h
        · simp at h
          obtain ⟨rfl, rfl⟩ := h
          refine ⟨c, by omega, ?_, by rw [show c % 128 = c by omega], by omega, ?_, by omega⟩
          · have : (128 : Int) ≤ 128 ^ (f + 1 + 1) := by
              rw [Int.pow_succ]
              have : (1 : Int) ≤ 128 ^ (f + 1) := Int.pow_pos (by omega)
              omega
            omega
          · rw [grp_last (by omega)]; simp

theorem put_get {b : List Int} (hb : Bytes b) {i n next : Int} (h : get b i = (n, next, true)) :
    0 ≤ i ∧ i ≤ b.length ∧ i < next ∧ next ≤ b.length ∧ ok n ∧ put (b.take i.toNat) n = b.take next.toNat := by
  unfold get at h
  split at h
  · rename_i hi
    split at h
    · rename_i u k hr
      split at h
      · rename_i hu
        simp at h
        obtain ⟨rfl, rfl⟩ := h
        have hbd : Bytes (b.drop i.toNat) := fun x hx => hb x (List.mem_of_mem_drop hx)
        have hk := rd_bd hr hbd (by omega)
        simp at hk
        obtain ⟨y, hy0, hy1, hx, hyi, ht, _⟩ := grp_rd (f := 4) hbd hr
        simp at hx; subst hx
        refine ⟨hi.1, hi.2, by omega, by omega, zag_bd u, ?_⟩
        rw [put_ok (zag_bd u), zig_zag hy0 hu]
        have : (i + k).toNat = i.toNat + k := by omega
        rw [this, List.take_add]
        congr 1
        exact ht.symm
      · simp at h
    · simp at h
  · simp at h

theorem get_bd {b : List Int} (hb : Bytes b) (i : Int) : (get b i).2.2 = true → (get b i).2.1 ≤ b.length := by
  intro h
  have : get b i = ((get b i).1, (get b i).2.1, true) := by rw [← h]
  exact (put_get hb this).2.2.2.1

/-- The numbers of l, one behind the other. -/
def puts (b : List Int) (l : List Int) : List Int := l.foldl (fun b n => b ++ grp 4 (zig n)) b
theorem puts_snoc (b l : List Int) (n : Int) : puts b (l ++ [n]) = puts b l ++ grp 4 (zig n) := by simp [puts]
theorem puts_one (b : List Int) (n : Int) : puts b [n] = b ++ grp 4 (zig n) := by simp [puts]
theorem puts_cons (b l : List Int) (n : Int) : puts b (n :: l) = puts (b ++ grp 4 (zig n)) l := by simp [puts]
theorem puts_len (b l : List Int) : b.length ≤ (puts b l).length ∧ (puts b l).length ≤ b.length + 5 * l.length := by
  unfold puts
  induction l generalizing b with
  | nil => simp
  | cons n r ih =>
    have h1 := ih (b ++ grp 4 (zig n))
    have h2 := grp_len 4 (zig n)
    simp only [List.foldl_cons, List.length_cons, List.length_append] at h1 ⊢
    omega
theorem puts_app (b l : List Int) : ∃ r, puts b l = b ++ r := by
  induction l generalizing b with
  | nil => exact ⟨[], by simp [puts]⟩
  | cons n r ih =>
    obtain ⟨s, hs⟩ := ih (b ++ grp 4 (zig n))
    exact ⟨grp 4 (zig n) ++ s, by rw [puts_cons, hs, List.append_assoc]⟩
def okAll (l : List Int) : Bool := l.all okB
theorem okAll_snoc (l : List Int) (n : Int) : okAll (l ++ [n]) = (okAll l && okB n) := by simp [okAll]
/-- PutNums. -/
def putL (b l : List Int) : List Int := if okAll l = true then puts b ((l.length : Int) :: l) else b
theorem putL_ok {b l : List Int} (h : okAll l = true) : putL b l = puts b ((l.length : Int) :: l) := if_pos h
theorem putL_no {b l : List Int} (h : okAll l = false) : putL b l = b := if_neg (by simp [h])
theorem putL_len (b l : List Int) : b.length ≤ (putL b l).length ∧ (putL b l).length ≤ b.length + 5 + 5 * l.length := by
  unfold putL; split
  · have := puts_len b ((l.length : Int) :: l); simp only [List.length_cons] at this; omega
  · omega
theorem puts_bytes {b : List Int} (hb : Bytes b) (l : List Int) : Bytes (puts b l) := by
  induction l generalizing b with
  | nil => exact hb
  | cons n r ih =>
    rw [puts_cons]
    refine ih ?_
    intro x hx
    rw [List.mem_append] at hx
    rcases hx with hx | hx
    · exact hb x hx
    · have hz := zig_bd n
      exact grp_bytes (f := 4) hz.1 (by have : (128 : Int) ^ (4 + 1) = 34359738368 := by decide
                                        omega) x hx
theorem putL_bytes {b : List Int} (hb : Bytes b) (l : List Int) : Bytes (putL b l) := by
  unfold putL; split
  · exact puts_bytes hb _
  · exact hb

/-- k numbers from next on. -/
def gets : Nat → List Int → Int → Option (List Int × Int)
  | 0, _, next => some ([], next)
  | k + 1, b, next => if (get b next).2.2 = true then (gets k b (get b next).2.1).map (fun p => ((get b next).1 :: p.1, p.2)) else none
/-- GetNums. -/
def getL (b : List Int) (at_ : Int) : List Int × Int × Bool :=
  if (get b at_).2.2 = true ∧ 0 ≤ (get b at_).1 ∧ (get b at_).1 ≤ 64 then
    match gets (get b at_).1.toNat b (get b at_).2.1 with
    | some (l, e) => (l, e, true)
    | none => ([], 0, false)
  else ([], 0, false)
theorem gets_len {k : Nat} : ∀ {b : List Int} {next : Int} {l : List Int} {e : Int}, gets k b next = some (l, e) → l.length = k := by
  induction k with
  | zero => intro b next l e h; simp [gets] at h; simp [h.1]
  | succ k ih =>
    intro b next l e h
    unfold gets at h
    split at h
    · simp only [Option.map_eq_some_iff] at h
      obtain ⟨p, hp, he⟩ := h
      simp at he
      obtain ⟨rfl, rfl⟩ := he
      simp [ih (l := p.1) (e := p.2) hp]
    · simp at h
theorem getL_len (b : List Int) (i : Int) : (getL b i).1.length ≤ 64 := by
  unfold getL
  split
  · rename_i h
    split
    · rename_i l e hg
      have := gets_len hg
      simp only
      omega
    · simp
  · simp

#print axioms put_get
#print axioms get_put
end Go.Proofs.YtkofafefnlommaaGreat.Num

/- Plain mathematics of packed bits: digits to the base 2^w, and what chapter 2's functions return. -/
namespace Go.Proofs.YtkofafefnlommaaGreat.Bit

/-- The number of binary digits. -/
def width (n : Nat) : Nat := if n = 0 then 0 else width (n / 2) + 1
  termination_by n
  decreasing_by omega
theorem width_zero : width 0 = 0 := by rw [width]; rfl
theorem width_pos {n : Nat} (h : 0 < n) : width n = width (n / 2) + 1 := by
  rw [width, if_neg (by omega)]
theorem width_le (n : Nat) : ∀ k, width n ≤ k ↔ n < 2 ^ k := by
  induction n using Nat.strongRecOn with
  | _ n ih =>
    intro k
    by_cases h : n = 0
    · subst h
      rw [width_zero]
      exact ⟨fun _ => Nat.pow_pos (by omega), fun _ => Nat.zero_le _⟩
    · rw [width_pos (by omega)]
      cases k with
      | zero => simp; omega
      | succ k =>
        have := ih (n / 2) (by omega) k
        rw [Nat.pow_succ]
        omega
/-- WidthOf. -/
def widthI (n : Int) : Nat := if 0 ≤ n ∧ n ≤ 2147483647 then width n.toNat else 0
theorem widthI_le31 (n : Int) : widthI n ≤ 31 := by
  unfold widthI
  split
  · exact (width_le _ 31).2 (by omega)
  · omega
/-- WidthFor. -/
def widthFor (l : List Int) : Nat := l.foldl (fun a x => max a (widthI x)) 0
theorem widthFor_snoc (l : List Int) (x : Int) : widthFor (l ++ [x]) = max (widthFor l) (widthI x) := by simp [widthFor]
theorem widthFor_le31 (l : List Int) : widthFor l ≤ 31 := by
  suffices h : ∀ (l : List Int) (a : Nat), a ≤ 31 → l.foldl (fun a x => max a (widthI x)) a ≤ 31 from h l 0 (by omega)
  intro l
  induction l with
  | nil => intro a h; exact h
  | cons x r ih =>
    intro a h
    have := widthI_le31 x
    exact ih (max a (widthI x)) (by omega)

/-- The number whose digits to the base 2^w are the list's, the least first. -/
def val (w : Nat) : List Int → Nat
  | [] => 0
  | x :: l => x.toNat + 2 ^ w * val w l
/-- k digits to the base 2^w. -/
def dig (w k N : Nat) : List Int := (List.range k).map fun i => ((N / 2 ^ (i * w) % 2 ^ w : Nat) : Int)
theorem dig_len (w k N : Nat) : (dig w k N).length = k := by simp [dig]
theorem dig_get {w k N i : Nat} (h : i < k) : (dig w k N).getD i 0 = ((N / 2 ^ (i * w) % 2 ^ w : Nat) : Int) := by simp [dig, h]
theorem dig_succ (w k N : Nat) : dig w (k + 1) N = dig w k N ++ [((N / 2 ^ (k * w) % 2 ^ w : Nat) : Int)] := by
  simp [dig, List.range_succ]
/-- Digits to the base 2^w. -/
def Digs (w : Nat) (l : List Int) : Prop := ∀ x ∈ l, 0 ≤ x ∧ x < 2 ^ w
theorem dig_digs (w k N : Nat) : Digs w (dig w k N) := by
  intro x hx
  simp only [dig, List.mem_map] at hx
  obtain ⟨i, _, rfl⟩ := hx
  have h : N / 2 ^ (i * w) % 2 ^ w < 2 ^ w := Nat.mod_lt _ (Nat.pow_pos (by omega))
  refine ⟨Int.natCast_nonneg _, ?_⟩
  have h2 : ((2 ^ w : Nat) : Int) = (2 : Int) ^ w := by simp
  rw [← h2]
  exact Int.ofNat_lt.2 h
theorem toNat_lt {x : Int} {w : Nat} (h : x < 2 ^ w) : x.toNat < 2 ^ w := by
  have h2 : ((2 ^ w : Nat) : Int) = (2 : Int) ^ w := by simp
  have h3 : 0 < 2 ^ w := Nat.pow_pos (by omega)
  omega
theorem val_lt {w : Nat} {l : List Int} (h : Digs w l) : val w l < 2 ^ (l.length * w) := by
  induction l with
  | nil => simp [val]
  | cons x r ih =>
    have ih := ih (fun y hy => h y (List.mem_cons_of_mem _ hy))
    have hx := toNat_lt (h x (List.mem_cons_self ..)).2
    simp only [val, List.length_cons]
    rw [Nat.add_mul, Nat.one_mul, Nat.pow_add, Nat.mul_comm (2 ^ (r.length * w))]
    calc x.toNat + 2 ^ w * val w r < 2 ^ w + 2 ^ w * val w r := by omega
      _ = 2 ^ w * (val w r + 1) := by rw [Nat.mul_add, Nat.mul_one, Nat.add_comm]
      _ ≤ 2 ^ w * 2 ^ (r.length * w) := Nat.mul_le_mul_left _ ih
theorem val_digit {w : Nat} {l : List Int} (h : Digs w l) : ∀ i, i < l.length → val w l / 2 ^ (i * w) % 2 ^ w = (l.getD i 0).toNat := by
  induction l with
  | nil => intro i hi; simp at hi
  | cons x r ih =>
    intro i hi
    have hx := toNat_lt (h x (List.mem_cons_self ..)).2
    cases i with
    | zero =>
      simp only [val, Nat.zero_mul, Nat.pow_zero, Nat.div_one, List.getD_cons_zero]
      rw [Nat.add_mul_mod_self_left, Nat.mod_eq_of_lt hx]
    | succ i =>
      simp only [val, List.getD_cons_succ]
      rw [← ih (fun y hy => h y (List.mem_cons_of_mem _ hy)) i (by simpa using hi), Nat.add_mul, Nat.one_mul, Nat.add_comm (i * w), Nat.pow_add, ← Nat.div_div_eq_div_mul,
        Nat.add_mul_div_left _ _ (Nat.pow_pos (by omega)), Nat.div_eq_of_lt hx, Nat.zero_add]
theorem dig_val {w : Nat} {l : List Int} (h : Digs w l) : dig w l.length (val w l) = l := by
  apply List.ext_getElem
  · rw [dig_len]
  · intro i h1 h2
    have e := val_digit h i h2
    have hx := (h l[i] (List.getElem_mem h2)).1
    simp only [dig, List.getElem_map, List.getElem_range]
    rw [e]
    simp [h2]
    omega
theorem val_dig (w k N : Nat) : val w (dig w k N) = N % 2 ^ (k * w) := by
  induction k generalizing N with
  | zero => simp [dig, val, Nat.mod_one]
  | succ k ih =>
    have e : dig w (k + 1) N = ((N % 2 ^ w : Nat) : Int) :: dig w k (N / 2 ^ w) := by
      simp only [dig, List.range_succ_eq_map, List.map_cons, List.map_map]
      congr 1
      · simp
      · apply List.map_congr_left
        intro i _
        simp only [Function.comp]
        rw [Nat.succ_mul, Nat.add_comm, Nat.pow_add, ← Nat.div_div_eq_div_mul]
    rw [e, val, ih, Int.toNat_natCast, Nat.add_mul, Nat.one_mul, Nat.add_comm (k * w), Nat.pow_add, Nat.mod_mul]

/-! What chapter 2's functions return. -/
def fitsB (l : List Int) (w : Int) : Bool := l.all (fun x => decide (0 ≤ x ∧ x ≤ 2147483647 ∧ (widthI x : Int) ≤ w)) && decide (0 ≤ w ∧ w ≤ 31)
def pack (l : List Int) (w : Int) : List Int := if fitsB l w = true then dig 8 ((l.length * w.toNat + 7) / 8) (val w.toNat l) else []
def bitAt (zs : List Int) (n : Int) : Int := if n < 0 then 0 else ((val 8 zs / 2 ^ n.toNat % 2 : Nat) : Int)
def bytesFor (k w : Int) : Int := if (0 ≤ k ∧ k ≤ 64) ∧ 0 ≤ w ∧ w ≤ 31 then (k * w + 7) / 8 else 0
def unpack (zs : List Int) (w k : Int) : List Int × Bool :=
  if (0 ≤ k ∧ k ≤ 64) ∧ (0 ≤ w ∧ w ≤ 31) ∧ zs.length = (k.toNat * w.toNat + 7) / 8 ∧ val 8 zs < 2 ^ (k.toNat * w.toNat) then (dig w.toNat k.toNat (val 8 zs), true) else ([], false)

/-- What PackBits asks of an element. -/
def okB (x w : Int) : Bool := decide (0 ≤ x ∧ x ≤ 2147483647 ∧ (widthI x : Int) ≤ w)
theorem fitsB_eq (l : List Int) (w : Int) : fitsB l w = (l.all (fun x => okB x w) && decide (0 ≤ w ∧ w ≤ 31)) := rfl
theorem okB_true {x w : Int} (h : 0 ≤ x ∧ x ≤ 2147483647) (h2 : (widthI x : Int) ≤ w) : okB x w = true := decide_eq_true ⟨h.1, h.2, h2⟩
theorem okB_out {x w : Int} (h : ¬ (0 ≤ x ∧ x ≤ 2147483647)) : okB x w = false := decide_eq_false (fun k => h ⟨k.1, k.2.1⟩)
theorem okB_wide {x w : Int} (h : ¬ (widthI x : Int) ≤ w) : okB x w = false := decide_eq_false (fun k => h k.2.2)
theorem fits_no {l : List Int} {w : Int} {k : Nat} (h : k < l.length) (hk : okB (l.getD k 0) w = false) : fitsB l w = false := by
  rw [fitsB_eq, Bool.and_eq_false_iff]
  left
  rw [List.all_eq_false]
  exact ⟨l.getD k 0, by simp [h], by rw [hk]; simp⟩
theorem all_snoc (l : List Int) (x w : Int) : (l ++ [x]).all (fun x => okB x w) = (l.all (fun x => okB x w) && okB x w) := by simp
theorem take_snoc (l : List Int) (k : Nat) (h : k < l.length) : l.take (k + 1) = l.take k ++ [l.getD k 0] := by
  rw [List.take_succ_eq_append_getElem h]
  simp [h]
theorem fits_true {l : List Int} {w : Int} : fitsB l w = true ↔ (∀ x ∈ l, 0 ≤ x ∧ x ≤ 2147483647 ∧ (widthI x : Int) ≤ w) ∧ 0 ≤ w ∧ w ≤ 31 := by
  simp [fitsB]
theorem widthI_in {x : Int} (h0 : 0 ≤ x) (h1 : x ≤ 2147483647) (w : Nat) : widthI x ≤ w ↔ x.toNat < 2 ^ w := by
  unfold widthI
  rw [if_pos ⟨h0, h1⟩]
  exact width_le _ _
theorem lt_of_toNat {x : Int} {w : Nat} (h : x.toNat < 2 ^ w) : x < 2 ^ w := by
  have h2 : ((2 ^ w : Nat) : Int) = (2 : Int) ^ w := by simp
  omega
theorem fits_digs {l : List Int} {w : Nat} (h : fitsB l w = true) : Digs w l := by
  intro x hx
  obtain ⟨h0, h1, h2⟩ := (fits_true.1 h).1 x hx
  exact ⟨h0, lt_of_toNat ((widthI_in h0 h1 w).1 (by omega))⟩
theorem digs_fits {l : List Int} {w : Nat} (h : Digs w l) (hw : w ≤ 31) : fitsB l w = true := by
  refine fits_true.2 ⟨fun x hx => ?_, by omega, by omega⟩
  obtain ⟨h0, h1⟩ := h x hx
  have h3 := toNat_lt h1
  have h4 : 2 ^ w ≤ 2 ^ 31 := Nat.pow_le_pow_right (by omega) hw
  have h5 : x ≤ 2147483647 := by omega
  exact ⟨h0, h5, by have := (widthI_in h0 h5 w).2 h3; omega⟩

/-! Bits. -/
theorem pow_split (n : Nat) : 2 ^ n = 2 ^ (n / 8 * 8) * 2 ^ (n % 8) := by
  rw [← Nat.pow_add]
  congr 1
  omega
theorem mod_bit {M w k : Nat} (h : k < w) : M % 2 ^ w / 2 ^ k % 2 = M / 2 ^ k % 2 := by
  have e : w = k + (1 + (w - k - 1)) := by omega
  rw [e, Nat.pow_add, Nat.mod_mul_right_div_self, Nat.pow_add, Nat.pow_one, Nat.mod_mul_right_mod]
theorem val_bit {w : Nat} {l : List Int} (h : Digs w l) {i k : Nat} (hi : i < l.length) (hk : k < w) : val w l / 2 ^ (i * w + k) % 2 = (l.getD i 0).toNat / 2 ^ k % 2 := by
  rw [← val_digit h i hi, mod_bit hk, Nat.pow_add, Nat.div_div_eq_div_mul]
theorem mod_step (N n : Nat) : N % 2 ^ (n + 1) = N % 2 ^ n + 2 ^ n * (N / 2 ^ n % 2) := Nat.mod_pow_succ
theorem dig_high {j m X c : Nat} (h : j < m) : (X + 2 ^ (m * 8) * c) / 2 ^ (j * 8) % 2 ^ 8 = X / 2 ^ (j * 8) % 2 ^ 8 := by
  have e : m * 8 = j * 8 + (8 + (m - j - 1) * 8) := by omega
  rw [e, Nat.pow_add, Nat.mul_assoc, Nat.add_mul_div_left _ _ (Nat.pow_pos (by omega)), Nat.pow_add, Nat.mul_assoc, Nat.add_mul_mod_self_left]
theorem dig_same {m X c : Nat} : dig 8 m (X + 2 ^ (m * 8) * c) = dig 8 m X := by
  unfold dig
  refine List.map_congr_left (fun j hj => ?_)
  rw [dig_high (List.mem_range.1 hj)]
/-- A new byte. -/
theorem pack_new {n X : Nat} (h8 : n % 8 = 0) (hX : X < 2 ^ n) : dig 8 ((n + 7) / 8) X ++ [0] = dig 8 (n / 8 + 1) X := by
  have e : X / 2 ^ (n / 8 * 8) = 0 := Nat.div_eq_of_lt (by rw [show n / 8 * 8 = n by omega]; exact hX)
  rw [show (n + 7) / 8 = n / 8 by omega, dig_succ, e]
  rfl
/-- A bit set in the last byte. -/
theorem pack_set {n X : Nat} (hX : X < 2 ^ n) : (dig 8 (n / 8 + 1) X).set (n / 8) ((X / 2 ^ (n / 8 * 8) + 2 ^ (n % 8) : Nat) : Int) = dig 8 (n / 8 + 1) (X + 2 ^ n) := by
  have hq : X / 2 ^ (n / 8 * 8) < 2 ^ (n % 8) := by
    rw [Nat.div_lt_iff_lt_mul (Nat.pow_pos (by omega)), Nat.mul_comm, ← pow_split]
    exact hX
  have h8 : 2 ^ (n % 8) ≤ 2 ^ 7 := Nat.pow_le_pow_right (by omega) (by omega)
  rw [dig_succ, dig_succ, List.set_append_right _ _ (by rw [dig_len]; omega), dig_len, Nat.sub_self, List.set_cons_zero]
  congr 1
  · rw [pow_split n, dig_same]
  · have e : (X / 2 ^ (n / 8 * 8) + 2 ^ (n % 8)) % 2 ^ 8 = X / 2 ^ (n / 8 * 8) + 2 ^ (n % 8) := Nat.mod_eq_of_lt (by omega)
    rw [pow_split n, Nat.add_mul_div_left _ _ (Nat.pow_pos (by omega)), e]
theorem last_byte {n X : Nat} (hX : X < 2 ^ n) : (dig 8 (n / 8 + 1) X).getD (n / 8) 0 = ((X / 2 ^ (n / 8 * 8) : Nat) : Int) ∧ X / 2 ^ (n / 8 * 8) < 2 ^ (n % 8) := by
  have hq : X / 2 ^ (n / 8 * 8) < 2 ^ (n % 8) := by
    rw [Nat.div_lt_iff_lt_mul (Nat.pow_pos (by omega)), Nat.mul_comm, ← pow_split]
    exact hX
  have h8 : 2 ^ (n % 8) ≤ 2 ^ 7 := Nat.pow_le_pow_right (by omega) (by omega)
  refine ⟨?_, hq⟩
  rw [dig_get (by omega), Nat.mod_eq_of_lt (by omega)]
/-- Bits that are all zero from a on. -/
theorem lt_of_bits {N a : Nat} : ∀ b, N < 2 ^ b → (∀ n, a ≤ n → n < b → N / 2 ^ n % 2 = 0) → N < 2 ^ a ∨ b < a := by
  intro b
  induction b with
  | zero =>
    intro h _
    by_cases ha : a = 0
    · subst ha; exact .inl h
    · exact .inr (by omega)
  | succ b ih =>
    intro h hz
    by_cases hb : a ≤ b
    · have h0 := hz b hb (by omega)
      have h1 : N / 2 ^ b < 2 := by
        rw [Nat.div_lt_iff_lt_mul (Nat.pow_pos (by omega)), Nat.mul_comm, ← Nat.pow_succ]
        exact h
      have h2 : N / 2 ^ b = 0 := by
        revert h0 h1
        generalize N / 2 ^ b = q
        intro h0 h1
        omega
      have h3 : N < 2 ^ b := by
        rcases Nat.lt_or_ge N (2 ^ b) with h | h
        · exact h
        · have := Nat.div_pos h (Nat.pow_pos (by omega))
          rw [h2] at this
          omega
      rcases ih h3 (fun n h1 h2 => hz n h1 (by omega)) with h | h
      · exact .inl h
      · omega
    · by_cases ha : a = b + 1
      · subst ha; exact .inl h
      · exact .inr (by omega)
theorem ge_of_bit {N a n : Nat} (ha : a ≤ n) (h : ¬ N / 2 ^ n % 2 = 0) : ¬ N < 2 ^ a := by
  intro hlt
  have : N < 2 ^ n := Nat.lt_of_lt_of_le hlt (Nat.pow_le_pow_right (by omega) ha)
  rw [Nat.div_eq_of_lt this] at h
  exact h rfl

/-! The laws' own facts. -/
theorem digs_bytes {zs : List Int} : Digs 8 zs ↔ Num.Bytes zs := by
  constructor
  · intro h x hx
    have := h x hx
    exact ⟨this.1, by have := this.2; omega⟩
  · intro h x hx
    have := h x hx
    exact ⟨this.1, by have := this.2; omega⟩
theorem pack_bytes (l : List Int) (w : Int) : Num.Bytes (pack l w) := by
  unfold pack
  split
  · exact digs_bytes.1 (dig_digs _ _ _)
  · intro x hx; simp at hx
theorem pack_len {l : List Int} {w : Nat} (h : fitsB l w = true) : (pack l w).length = (l.length * w + 7) / 8 := by
  unfold pack
  rw [if_pos h, dig_len, Int.toNat_natCast]
theorem pack_le (l : List Int) (w : Int) : (pack l w).length ≤ 4 * l.length := by
  unfold pack
  split
  next h =>
    have hw := (fits_true.1 h).2
    rw [dig_len]
    have h2 : l.length * w.toNat ≤ l.length * 31 := Nat.mul_le_mul_left _ (by omega)
    omega
  next => simp
theorem unpack_le (zs : List Int) (w k : Int) : (unpack zs w k).1.length ≤ 64 := by
  unfold unpack
  split
  next h => simp only [dig_len]; omega
  next => simp
theorem val_pack {l : List Int} {w : Nat} (h : fitsB l w = true) : val 8 (pack l w) = val w l := by
  unfold pack
  rw [if_pos h, Int.toNat_natCast, val_dig]
  refine Nat.mod_eq_of_lt (Nat.lt_of_lt_of_le (val_lt (fits_digs h)) (Nat.pow_le_pow_right (by omega) ?_))
  omega
theorem unpack_pack {l : List Int} {w : Nat} (h : fitsB l w = true) (hl : l.length ≤ 64) : unpack (pack l w) w l.length = (l, true) := by
  have hw := (fits_true.1 h).2
  unfold unpack
  rw [val_pack h, pack_len h]
  simp only [Int.toNat_natCast]
  rw [if_pos ⟨by omega, by omega, trivial, val_lt (fits_digs h)⟩, dig_val (fits_digs h)]
theorem pack_unpack {zs l : List Int} {w k : Int} (hz : Num.Bytes zs) (h : unpack zs w k = (l, true)) : pack l w = zs ∧ (l.length : Int) = k := by
  unfold unpack at h
  split at h
  next hc =>
    obtain ⟨⟨k0, k1⟩, ⟨w0, w1⟩, hlen, hlt⟩ := hc
    obtain ⟨k, rfl⟩ := Int.eq_ofNat_of_zero_le k0
    obtain ⟨w, rfl⟩ := Int.eq_ofNat_of_zero_le w0
    simp only [Int.toNat_natCast] at hlen hlt h
    obtain rfl : dig w k (val 8 zs) = l := congrArg Prod.fst h
    refine ⟨?_, by rw [dig_len]⟩
    unfold pack
    rw [if_pos (digs_fits (dig_digs _ _ _) (by omega)), dig_len, Int.toNat_natCast, val_dig, Nat.mod_eq_of_lt hlt, ← hlen, dig_val (digs_bytes.2 hz)]
  next => simp at h
theorem bitAt_in {zs : List Int} {k : Nat} (hz : Num.Bytes zs) (h : k / 8 < zs.length) : bitAt zs k = (((zs.getD (k / 8) 0).toNat / 2 ^ (k % 8) % 2 : Nat) : Int) := by
  unfold bitAt
  rw [if_neg (by omega), Int.toNat_natCast, ← val_bit (digs_bytes.2 hz) h (Nat.mod_lt _ (by omega)), Nat.div_add_mod']
theorem bitAt_out {zs : List Int} {k : Nat} (hz : Num.Bytes zs) (h : ¬ k / 8 < zs.length) : bitAt zs k = 0 := by
  unfold bitAt
  rw [if_neg (by omega), Int.toNat_natCast, Nat.div_eq_of_lt (Nat.lt_of_lt_of_le (val_lt (digs_bytes.2 hz)) (Nat.pow_le_pow_right (by omega) (by omega)))]
  rfl
theorem bit_pack {l : List Int} {w i : Nat} (h : fitsB l w = true) (hi : i < l.length) (hw : 0 < w) : bitAt (pack l w) ((i * w : Nat) : Int) = l.getD i 0 % 2 := by
  have hx := ((fits_true.1 h).1 (l.getD i 0) (by simp [hi])).1
  unfold bitAt
  rw [if_neg (by omega), val_pack h, Int.toNat_natCast]
  have := val_bit (fits_digs h) hi hw
  rw [Nat.add_zero] at this
  rw [this, Nat.pow_zero, Nat.div_one]
  omega

end Go.Proofs.YtkofafefnlommaaGreat.Bit
