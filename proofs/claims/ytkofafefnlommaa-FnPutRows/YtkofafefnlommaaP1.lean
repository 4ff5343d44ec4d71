/- Texts of this claim, one behind the other: Nums. -/

/- Plain mathematics of chapter 1 (variable-length integers): zigzag, groups of seven bits, reading them back. No Go in it. -/
namespace Go.Proofs.Ytkofafefnlommaa.Num

abbrev ok (n : Int) : Prop := -1000000000 ≤ n ∧ n ≤ 1000000000
def inB (x a b : Int) : Bool := decide (a ≤ x ∧ x ≤ b)
theorem inB_true {x a b : Int} : inB x a b = true ↔ (a ≤ x ∧ x ≤ b) := by simp [inB]
theorem inB_false {x a b : Int} : inB x a b = false ↔ ¬ (a ≤ x ∧ x ≤ b) := by simp [inB]
def okB (n : Int) : Bool := inB n (-1000000000) 1000000000
theorem okB_true {n : Int} : okB n = true ↔ ok n := inB_true
theorem okB_false {n : Int} : okB n = false ↔ ¬ ok n := inB_false

def zig (n : Int) : Int := if ok n then (if n < 0 then -2 * n - 1 else 2 * n) else 0
def zag (n : Int) : Int := if 0 ≤ n ∧ n ≤ 2000000000 then (if n % 2 = 1 then -((n + 1) / 2) else n / 2) else 0

theorem zig_bd (n : Int) : 0 ≤ zig n ∧ zig n ≤ 2000000000 := by
  unfold zig
  by_cases h : ok n
  · rw [if_pos h]; unfold ok at h; by_cases h0 : n < 0
    · rw [if_pos h0]; omega
    · rw [if_neg h0]; omega
  · rw [if_neg h]; omega
theorem zag_bd (n : Int) : ok (zag n) := by
  unfold zag ok; split
  · split <;> omega
  · omega
theorem zag_zig {n : Int} (h : ok n) : zag (zig n) = n := by
  unfold zag zig; rw [if_pos h]; unfold ok at h
  by_cases h0 : n < 0
  · rw [if_pos h0, if_pos (by omega), if_pos (by omega)]; omega
  · rw [if_neg h0, if_pos (by omega), if_neg (by omega)]; omega
theorem zig_zag {u : Int} (h0 : 0 ≤ u) (h : u ≤ 2000000000) : zig (zag u) = u := by
  have e : zag u = if u % 2 = 1 then -((u + 1) / 2) else u / 2 := by unfold zag; exact if_pos ⟨h0, h⟩
  have hb := zag_bd u
  unfold zig; rw [if_pos hb, e]
  by_cases h1 : u % 2 = 1
  · rw [if_pos h1, if_pos (by omega)]; omega
  · rw [if_neg h1, if_neg (by omega)]; omega

/-- The groups of u, at most f + 1 of them. -/
def grp : Nat → Int → List Int
  | 0, u => [u]
  | f + 1, u => if 128 ≤ u then (u % 128 + 128) :: grp f (u / 128) else [u]

theorem grp_step {f : Nat} {u : Int} (h : 128 ≤ u) : grp (f + 1) u = (u % 128 + 128) :: grp f (u / 128) := by simp [grp, h]
theorem grp_last {f : Nat} {u : Int} (h : u < 128) : grp f u = [u] := by
  cases f with
  | zero => rfl
  | succ f => simp [grp]; omega
theorem grp_len (f : Nat) (u : Int) : 1 ≤ (grp f u).length ∧ (grp f u).length ≤ f + 1 := by
  induction f generalizing u with
  | zero => simp [grp]
  | succ f ih =>
    unfold grp; split
    · have := ih (u / 128); simp; omega
    · simp

def put (b : List Int) (n : Int) : List Int := if ok n then b ++ grp 4 (zig n) else b
theorem put_ok {b : List Int} {n : Int} (h : ok n) : put b n = b ++ grp 4 (zig n) := by simp [put, h]
theorem put_no {b : List Int} {n : Int} (h : ¬ ok n) : put b n = b := by simp [put, h]
theorem put_len (b : List Int) (n : Int) : b.length ≤ (put b n).length ∧ (put b n).length ≤ b.length + 5 := by
  unfold put; split
  · have := grp_len 4 (zig n); simp; omega
  · omega

/-- Bytes. -/
def Bytes (l : List Int) : Prop := ∀ x ∈ l, 0 ≤ x ∧ x ≤ 255
theorem grp_bytes {f : Nat} : ∀ {u : Int}, 0 ≤ u → u < 128 ^ (f + 1) → Bytes (grp f u) := by
  induction f with
  | zero => intro u h0 h1; simp [grp, Bytes]; simp at h1; omega
  | succ f ih =>
    intro u h0 h1
    unfold grp; split
    · intro x hx
      rw [List.mem_cons] at hx
      rcases hx with rfl | hx
      · omega
      · refine ih (u := u / 128) (by omega) ?_ x hx
        have : u < 128 ^ (f + 1) * 128 := by rw [Int.pow_succ] at h1; exact h1
        omega
    · intro x hx; simp at hx; omega
theorem put_bytes {b : List Int} (hb : Bytes b) (n : Int) : Bytes (put b n) := by
  unfold put; split
  · intro x hx
    rw [List.mem_append] at hx
    rcases hx with hx | hx
    · exact hb x hx
    · have hz := zig_bd n
      exact grp_bytes (f := 4) hz.1 (by have : (128 : Int) ^ (4 + 1) = 34359738368 := by decide
                                        omega) x hx
  · exact hb

/-- Reading groups: f more at most, i read, u so far. -/
def rd : Nat → Nat → Int → List Int → Option (Int × Nat)
  | 0, _, _, _ => none
  | _ + 1, _, _, [] => none
  | f + 1, i, u, c :: r => if 128 ≤ c then rd f (i + 1) (u + (c % 128) * 128 ^ i) r else if c = 0 ∧ 0 < i then none else some (u + (c % 128) * 128 ^ i, i + 1)

def get (b : List Int) (at_ : Int) : Int × Int × Bool :=
  if 0 ≤ at_ ∧ at_ ≤ b.length then
    match rd 5 0 0 (b.drop at_.toNat) with
    | some (u, k) => if u ≤ 2000000000 then (zag u, at_ + k, true) else (0, 0, false)
    | none => (0, 0, false)
  else (0, 0, false)

theorem rd_bd {f i : Nat} {u : Int} {l : List Int} {x : Int} {k : Nat} (h : rd f i u l = some (x, k)) (hb : Bytes l) (hu : 0 ≤ u) : u ≤ x ∧ i < k ∧ k ≤ i + f ∧ k ≤ i + l.length := by
  induction f generalizing i u l with
  | zero => simp [rd] at h
  | succ f ih =>
    cases l with
    | nil => simp [rd] at h
    | cons c r =>
      have hc := hb c (by simp)
      have hp : (0 : Int) ≤ (c % 128) * 128 ^ i := Int.mul_nonneg (by omega) (Int.pow_nonneg (by omega))
      unfold rd at h
      split at h
      · have := ih h (fun x hx => hb x (by simp [hx])) (by omega)
        simp; omega
      · split at h
        · simp at h
        · simp at h; simp; omega

/-- What grp writes rd reads, whatever follows. -/
theorem rd_grp {f : Nat} : ∀ {i : Nat} {u v : Int} {rest : List Int}, 0 ≤ u → u < 128 ^ (f + 1) → (i = 0 ∨ 0 < u) → rd (f + 1) i v (grp f u ++ rest) = some (v + u * 128 ^ i, i + (grp f u).length) := by
  induction f with
  | zero =>
    intro i u v rest h0 h1 hi
    simp at h1
    simp only [grp, List.cons_append, List.nil_append, rd]
    rw [if_neg (by omega), if_neg (by omega)]
    simp only [List.length_cons, List.length_nil]
    rw [show u % 128 = u by omega]
  | succ f ih =>
    intro i u v rest h0 h1 hi
    by_cases h : 128 ≤ u
    · rw [grp_step h]
      simp only [List.cons_append, rd]
      rw [if_pos (by omega)]
      have h1' : u < 128 ^ (f + 1) * 128 := by rw [Int.pow_succ] at h1; exact h1
      rw [ih (u := u / 128) (by omega) (by omega) (Or.inr (by omega))]
      simp only [List.length_cons]
      refine congrArg some (Prod.ext ?_ ?_)
      · show v + (u % 128 + 128) % 128 * 128 ^ i + u / 128 * 128 ^ (i + 1) = v + u * 128 ^ i
        have e1 : (u % 128 + 128) % 128 = u % 128 := by omega
        have e2 : u = u % 128 + 128 * (u / 128) := by omega
        rw [e1, Int.pow_succ]
        generalize hp : (128 : Int) ^ i = p
        have : u * p = (u % 128 + 128 * (u / 128)) * p := by rw [← e2]
        rw [this, Int.add_mul]
        have : u / 128 * (p * 128) = 128 * (u / 128) * p := by rw [Int.mul_comm p 128, ← Int.mul_assoc, Int.mul_comm (u / 128) 128]
        omega
      · show i + 1 + (grp f (u / 128)).length = i + ((grp f (u / 128)).length + 1)
        omega
    · rw [grp_last (by omega)]
      simp only [List.cons_append, List.nil_append, rd]
      rw [if_neg h, if_neg (by omega)]
      simp only [List.length_cons, List.length_nil]
      rw [show u % 128 = u by omega]

theorem get_put {b rest : List Int} {n : Int} (h : ok n) : get (put b n ++ rest) b.length = (n, ((put b n).length : Int), true) := by
  have hz := zig_bd n
  have e5 : (128 : Int) ^ (4 + 1) = 34359738368 := by decide
  unfold get
  rw [if_pos (by have := put_len b n; simp; omega)]
  rw [put_ok h]
  have hd : (b ++ grp 4 (zig n) ++ rest).drop (b.length : Int).toNat = grp 4 (zig n) ++ rest := by
    rw [List.append_assoc, Int.toNat_natCast, List.drop_left]
  rw [hd, rd_grp (f := 4) hz.1 (by omega) (Or.inl rfl)]
  simp only [Int.pow_zero, Int.mul_one, Int.zero_add, Nat.zero_add]
  rw [if_pos hz.2, zag_zig h]
  simp

/-- What rd reads grp writes. -/
theorem grp_rd {f : Nat} : ∀ {i : Nat} {u x : Int} {k : Nat} {l : List Int}, Bytes l → rd (f + 1) i u l = some (x, k) →
    ∃ y, 0 ≤ y ∧ y < 128 ^ (f + 1) ∧ x = u + y * 128 ^ i ∧ (i = 0 ∨ 0 < y) ∧ l.take (k - i) = grp f y ∧ i < k := by
  induction f with
  | zero =>
    intro i u x k l hb h
    cases l with
    | nil => simp [rd] at h
    | cons c r =>
      have hc := hb c (by simp)
      simp only [rd] at h
      split at h
      · simp at h
      · split at h
        · simp at h
        · simp at h
          obtain ⟨rfl, rfl⟩ := h
          refine ⟨c, by omega, by simp; omega, by rw [show c % 128 = c by omega], by omega, ?_, by omega⟩
          simp [grp]
  | succ f ih =>
    intro i u x k l hb h
    cases l with
    | nil => simp [rd] at h
    | cons c r =>
      have hc := hb c (by simp)
      unfold rd at h
      split at h
      · rename_i hge
        obtain ⟨y, hy0, hy1, hx, hyi, ht, hk⟩ := ih (fun x hx => hb x (by simp [hx])) h
        have hy : 0 < y := by omega
        have hg : grp (f + 1) (c % 128 + 128 * y) = c :: grp f y := by
          rw [grp_step (by omega)]
          rw [show (c % 128 + 128 * y) / 128 = y by omega, show (c % 128 + 128 * y) % 128 + 128 = c by omega]
        refine ⟨c % 128 + 128 * y, by omega, ?_, ?_, by omega, ?_, by omega⟩
        · rw [Int.pow_succ]; omega
        · rw [hx, Int.pow_succ, Int.add_mul, Int.add_assoc]
          generalize (128 : Int) ^ i = p
          rw [show y * (p * 128) = 128 * y * p by rw [Int.mul_comm p 128, ← Int.mul_assoc, Int.mul_comm y 128]]
        · rw [hg, show k - i = (k - (i + 1)) + 1 by omega, List.take_succ_cons, ht]
      · split at h
        · simp at h
        · simp at h
          obtain ⟨rfl, rfl⟩ := h
          refine ⟨c, by omega, ?_, by rw [show c % 128 = c by omega], by omega, ?_, by omega⟩
          · have : (128 : Int) ≤ 128 ^ (f + 1 + 1) := by
              rw [Int.pow_succ]
              have : (1 : Int) ≤ 128 ^ (f + 1) := Int.pow_pos (by omega)
              omega
            omega
          · rw [grp_last (by omega)]; simp

theorem put_get {b : List Int} (hb : Bytes b) {i n next : Int} (h : get b i = (n, next, true)) :
    0 ≤ i ∧ i ≤ b.length ∧ i < next ∧ next ≤ b.length ∧ ok n ∧ put (b.take i.toNat) n = b.take next.toNat := by
  unfold get at h
  split at h
  · rename_i hi
    split at h
    · rename_i u k hr
      split at h
      · rename_i hu
        simp at h
        obtain ⟨rfl, rfl⟩ := h
        have hbd : Bytes (b.drop i.toNat) := fun x hx => hb x (List.mem_of_mem_drop hx)
        have hk := rd_bd hr hbd (by omega)
        simp at hk
        obtain ⟨y, hy0, hy1, hx, hyi, ht, _⟩ := grp_rd (f := 4) hbd hr
        simp at hx; subst hx
        refine ⟨hi.1, hi.2, by omega, by omega, zag_bd u, ?_⟩
        rw [put_ok (zag_bd u), zig_zag hy0 hu]
        have : (i + k).toNat = i.toNat + k := by omega
        rw [this, List.take_add]
        congr 1
        exact ht.symm
      · simp at h
    · simp at h
  · simp at h

theorem get_bd {b : List Int} (hb : Bytes b) (i : Int) : (get b i).2.2 = true → (get b i).2.1 ≤ b.length := by
  intro h
  have : get b i = ((get b i).1, (get b i).2.1, true) := by rw [← h]
  exact (put_get hb this).2.2.2.1

/-- The numbers of l, one behind the other. -/
def puts (b : List Int) (l : List Int) : List Int := l.foldl (fun b n => b ++ grp 4 (zig n)) b
theorem puts_snoc (b l : List Int) (n : Int) : puts b (l ++ [n]) = puts b l ++ grp 4 (zig n) := by simp [puts]
theorem puts_one (b : List Int) (n : Int) : puts b [n] = b ++ grp 4 (zig n) := by simp [puts]
theorem puts_cons (b l : List Int) (n : Int) : puts b (n :: l) = puts (b ++ grp 4 (zig n)) l := by simp [puts]
theorem puts_len (b l : List Int) : b.length ≤ (puts b l).length ∧ (puts b l).length ≤ b.length + 5 * l.length := by
  unfold puts
  induction l generalizing b with
  | nil => simp
  | cons n r ih =>
    have h1 := ih (b ++ grp 4 (zig n))
    have h2 := grp_len 4 (zig n)
    simp only [List.foldl_cons, List.length_cons, List.length_append] at h1 ⊢
    omega
theorem puts_app (b l : List Int) : ∃ r, puts b l = b ++ r := by
  induction l generalizing b with
  | nil => exact ⟨[], by simp [puts]⟩
  | cons n r ih =>
    obtain ⟨s, hs⟩ := ih (b ++ grp 4 (zig n))
    exact ⟨grp 4 (zig n) ++ s, by rw [puts_cons, hs, List.append_assoc]⟩
def okAll (l : List Int) : Bool := l.all okB
theorem okAll_snoc (l : List Int) (n : Int) : okAll (l ++ [n]) = (okAll l && okB n) := by simp [okAll]
/-- PutNums. -/
def putL (b l : List Int) : List Int := if okAll l = true then puts b ((l.length : Int) :: l) else b
theorem putL_ok {b l : List Int} (h : okAll l = true) : putL b l = puts b ((l.length : Int) :: l) := if_pos h
theorem putL_no {b l : List Int} (h : okAll l = false) : putL b l = b := if_neg (by simp [h])
theorem putL_len (b l : List Int) : b.length ≤ (putL b l).length ∧ (putL b l).length ≤ b.length + 5 + 5 * l.length := by
  unfold putL; split
  · have := puts_len b ((l.length : Int) :: l); simp only [List.length_cons] at this; omega
  · omega
theorem puts_bytes {b : List Int} (hb : Bytes b) (l : List Int) : Bytes (puts b l) := by
  induction l generalizing b with
  | nil => exact hb
  | cons n r ih =>
    rw [puts_cons]
    refine ih ?_
    intro x hx
    rw [List.mem_append] at hx
    rcases hx with hx | hx
    · exact hb x hx
    · have hz := zig_bd n
      exact grp_bytes (f := 4) hz.1 (by have : (128 : Int) ^ (4 + 1) = 34359738368 := by decide
                                        omega) x hx
theorem putL_bytes {b : List Int} (hb : Bytes b) (l : List Int) : Bytes (putL b l) := by
  unfold putL; split
  · exact puts_bytes hb _
  · exact hb

/-- k numbers from next on. -/
def gets : Nat → List Int → Int → Option (List Int × Int)
  | 0, _, next => some ([], next)
  | k + 1, b, next => if (get b next).2.2 = true then (gets k b (get b next).2.1).map (fun p => ((get b next).1 :: p.1, p.2)) else none
/-- GetNums. -/
def getL (b : List Int) (at_ : Int) : List Int × Int × Bool :=
  if (get b at_).2.2 = true ∧ 0 ≤ (get b at_).1 ∧ (get b at_).1 ≤ 64 then
    match gets (get b at_).1.toNat b (get b at_).2.1 with
    | some (l, e) => (l, e, true)
    | none => ([], 0, false)
  else ([], 0, false)
theorem gets_len {k : Nat} : ∀ {b : List Int} {next : Int} {l : List Int} {e : Int}, gets k b next = some (l, e) → l.length = k := by
  induction k with
  | zero => intro b next l e h; simp [gets] at h; simp [h.1]
  | succ k ih =>
    intro b next l e h
    unfold gets at h
    split at h
    · simp only [Option.map_eq_some_iff] at h
      obtain ⟨p, hp, he⟩ := h
      simp at he
      obtain ⟨rfl, rfl⟩ := he
      simp [ih (l := p.1) (e := p.2) hp]
    · simp at h
theorem getL_len (b : List Int) (i : Int) : (getL b i).1.length ≤ 64 := by
  unfold getL
  split
  · rename_i h
    split
    · rename_i l e hg
      have := gets_len hg
      simp only
      omega
    · simp
  · simp

#print axioms put_get
#print axioms get_put
end Go.Proofs.Ytkofafefnlommaa.Num
