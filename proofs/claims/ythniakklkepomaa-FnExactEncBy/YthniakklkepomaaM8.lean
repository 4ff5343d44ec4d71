/- Plain mathematics of chapter 8: the smallest integer, the offsets, their encoding; decoding gives back what was encoded; what decodes is what its values encode to. -/
import Derived.Test.YthniakklkepomaaM5
import Derived.Test.YthniakklkepomaaM7
import Derived.Test.YthniakklkepomaaBits
import Derived.Test.YthniakklkepomaaL5S
namespace Go.Proofs.Ythniakklkepomaa
open Go.RowKit

/-- The smallest of a and the integers of l. -/
def lowL (a : Int) (l : List V) : Int := l.foldl (fun a v => if v.n < a then v.n else a) a
theorem lowL_snoc (a : Int) (l : List V) (v : V) : lowL a (l ++ [v]) = if v.n < lowL a l then v.n else lowL a l := by unfold lowL; rw [List.foldl_append]; rfl
theorem lowL_le (l : List V) (a : Int) : lowL a l ≤ a ∧ ∀ v ∈ l, lowL a l ≤ v.n := by
  induction l generalizing a with
  | nil => exact ⟨Int.le_refl _, fun v hv => by cases hv⟩
  | cons x l ih =>
    have h := ih (if x.n < a then x.n else a)
    have e : lowL a (x :: l) = lowL (if x.n < a then x.n else a) l := rfl
    rw [e]
    refine ⟨?_, fun v hv => ?_⟩
    · have := h.1
      split at this <;> split <;> omega
    · rcases List.mem_cons.1 hv with rfl | hv
      · have := h.1
        split at this <;> split <;> omega
      · exact h.2 v hv
theorem lowL_mem (l : List V) (a : Int) : lowL a l = a ∨ ∃ v ∈ l, v.n = lowL a l := by
  induction l generalizing a with
  | nil => exact .inl rfl
  | cons x l ih =>
    have e : lowL a (x :: l) = lowL (if x.n < a then x.n else a) l := rfl
    rw [e]
    rcases ih (if x.n < a then x.n else a) with h | ⟨v, hv, h⟩
    · rw [h]
      split
      · exact .inr ⟨x, List.mem_cons_self, rfl⟩
      · exact .inl rfl
    · exact .inr ⟨v, List.mem_cons_of_mem _ hv, h⟩
/-- Base. -/
def baseL (l : List V) : Int := lowL (l.getD 0 V.zero).n l
theorem base_le {l : List V} : ∀ v ∈ l, baseL l ≤ v.n := (lowL_le l _).2
theorem base_mem {l : List V} (h : 1 ≤ l.length) : ∃ v ∈ l, v.n = baseL l := by
  rcases lowL_mem l (l.getD 0 V.zero).n with e | e
  · refine ⟨l.getD 0 V.zero, ?_, e.symm⟩
    rw [getDe l V.zero h]
    exact List.getElem_mem h
  · exact e
/-- What Base holds before the k-th value. -/
def baseK (l : List V) (k : Nat) : Int := lowL (l.getD 0 V.zero).n (l.take k)
theorem baseK_step {l : List V} {k : Nat} (h : k < l.length) : baseK l (k + 1) = if (l.getD k V.zero).n < baseK l k then (l.getD k V.zero).n else baseK l k := by
  unfold baseK
  rw [getDe l V.zero h, List.take_succ_eq_append_getElem h, lowL_snoc]
theorem baseK_one {l : List V} (h : 0 < l.length) : baseK l 1 = (l.getD 0 V.zero).n := by
  rw [baseK_step h]
  have : baseK l 0 = (l.getD 0 V.zero).n := by simp [baseK, lowL]
  rw [this]
  simp
theorem baseK_zero (l : List V) : baseK l 0 = (l.getD 0 V.zero).n := by simp [baseK, lowL]
theorem baseK_end (l : List V) : baseK l l.length = baseL l := by simp [baseK, baseL]

/-- Offsets. -/
def offL (l : List V) : List Int := if typeV l = 1 then l.map (fun v => v.n - baseL l) else []
theorem off_yes {l : List V} (h : typeV l = 1) : offL l = l.map (fun v => v.n - baseL l) := if_pos h
theorem off_no {l : List V} (h : ¬ typeV l = 1) : offL l = [] := if_neg h
theorem int_parts {l : List V} (h : typeV l = 1) : 1 ≤ l.length ∧ l.length ≤ 64 ∧ ∀ v ∈ l, okV v = true ∧ v.ty = 1 := by
  have := typeV_parts (l := l) (by omega)
  rw [h] at this
  exact this
theorem int_num {l : List V} (h : typeV l = 1) : ∀ v ∈ l, -1000000000 ≤ v.n ∧ v.n ≤ 1000000000 := fun v hv => by
  have h1 := (int_parts h).2.2 v hv
  exact okV_num h1.1 h1.2
theorem base_ok {l : List V} (h : typeV l = 1) : -1000000000 ≤ baseL l ∧ baseL l ≤ 1000000000 := by
  obtain ⟨v, hv, e⟩ := base_mem (int_parts h).1
  rw [← e]
  exact int_num h v hv
theorem off_len (l : List V) : (offL l).length ≤ l.length ∧ (offL l).length ≤ 64 := by
  by_cases h : typeV l = 1
  · have := int_parts h
    rw [off_yes h, List.length_map]
    omega
  · rw [off_no h]
    simp
theorem off_in (l : List V) : ∀ x ∈ offL l, 0 ≤ x ∧ x ≤ 2000000000 := by
  by_cases h : typeV l = 1
  · rw [off_yes h]
    intro x hx
    obtain ⟨v, hv, rfl⟩ := List.mem_map.1 hx
    have h1 := int_num h v hv
    have h2 := base_ok h
    have h3 := base_le v hv
    omega
  · rw [off_no h]
    exact fun x hx => by cases hx
theorem off_zero {l : List V} (h : typeV l = 1) : 0 ∈ offL l := by
  obtain ⟨v, hv, e⟩ := base_mem (int_parts h).1
  rw [off_yes h]
  exact List.mem_map.2 ⟨v, hv, by omega⟩
/-- The greatest of a and the integers of l. -/
def topL (a : Int) (l : List Int) : Int := l.foldl (fun a x => if a < x then x else a) a
theorem topL_snoc (a : Int) (l : List Int) (x : Int) : topL a (l ++ [x]) = if topL a l < x then x else topL a l := by unfold topL; rw [List.foldl_append]; rfl
theorem topL_mem (l : List Int) (a : Int) : topL a l = a ∨ topL a l ∈ l := by
  induction l generalizing a with
  | nil => exact .inl rfl
  | cons x l ih =>
    have e : topL a (x :: l) = topL (if a < x then x else a) l := rfl
    rw [e]
    rcases ih (if a < x then x else a) with h | h
    · rw [h]
      split
      · exact .inr List.mem_cons_self
      · exact .inl rfl
    · exact .inr (List.mem_cons_of_mem _ h)
/-- Reach. -/
def reachL (l : List V) : Int := topL 0 (offL l)
theorem reach_mem {l : List V} (h : typeV l = 1) : reachL l ∈ offL l := by
  rcases topL_mem (offL l) 0 with e | e
  · unfold reachL
    rw [e]
    exact off_zero h
  · exact e
theorem width_mem {l : List Int} : ∀ x ∈ l, Bit.widthI x ≤ Bit.widthFor l := by
  have : ∀ (l : List Int) (a : Nat), a ≤ l.foldl (fun a x => max a (Bit.widthI x)) a ∧ ∀ x ∈ l, Bit.widthI x ≤ l.foldl (fun a x => max a (Bit.widthI x)) a := by
    intro l
    induction l with
    | nil => exact fun a => ⟨Nat.le_refl _, fun x hx => by cases hx⟩
    | cons y l ih =>
      intro a
      have h := ih (max a (Bit.widthI y))
      simp only [List.foldl_cons]
      refine ⟨by omega, fun x hx => ?_⟩
      rcases List.mem_cons.1 hx with rfl | hx
      · omega
      · exact h.2 x hx
  exact (this l 0).2
theorem off_fits (l : List V) : Bit.fitsB (offL l) (Bit.widthFor (offL l) : Nat) = true := by
  refine Bit.digs_fits (fun x hx => ?_) (Bit.widthFor_le31 _)
  have h1 := off_in l x hx
  have h2 := (Bit.widthI_in (by omega) (by omega) (Bit.widthFor (offL l))).1 (width_mem x hx)
  exact ⟨h1.1, Bit.lt_of_toNat h2⟩

/-- EncFrame. -/
def encF (l : List V) : List Int := if typeV l = 1 then (Num.put [] (baseL l) ++ [(Bit.widthFor (offL l) : Int)]) ++ Bit.pack (offL l) (Bit.widthFor (offL l)) else []
theorem encF_bytes (l : List V) : Num.Bytes (encF l) := by
  unfold encF
  split
  · refine bytes_append (bytes_append (Num.put_bytes nil_bytes _) (fun x hx => ?_)) (Bit.pack_bytes _ _)
    have := Bit.widthFor_le31 (offL l)
    obtain rfl := List.mem_singleton.1 hx
    omega
  · exact nil_bytes
theorem encF_len (l : List V) : (encF l).length ≤ 1024 := by
  unfold encF
  split
  · have h1 := Num.put_len [] (baseL l)
    have h2 := Bit.pack_le (offL l) (Bit.widthFor (offL l))
    have h3 := off_len l
    simp only [List.length_append, List.length_nil, List.length_cons] at *
    omega
  · simp

/-- Whether Raised takes x. -/
def upB (base x : Int) : Bool := decide (0 ≤ x ∧ x ≤ 2000000000 ∧ base + x ≤ 1000000000)
def upV (base x : Int) : V := ⟨1, base + x, ⟨#[]⟩⟩
/-- Raised. -/
def raisedL (base : Int) (l : List Int) : List V × Bool := if Num.okB base = true ∧ l.all (upB base) = true then (l.map (upV base), true) else ([], false)
theorem raised_len (base : Int) (l : List Int) : (raisedL base l).1.length ≤ l.length := by
  unfold raisedL
  split
  · simp
  · simp
theorem raised_sizes (base : Int) (l : List Int) : ∀ v ∈ (raisedL base l).1, v.s.size ≤ maxLen := by
  unfold raisedL
  split
  · intro v hv
    obtain ⟨x, _, rfl⟩ := List.mem_map.1 hv
    exact Nat.zero_le _
  · exact fun v hv => by cases hv
theorem raised_true {base : Int} {l : List Int} (h : (raisedL base l).2 = true) : (raisedL base l).1.length = l.length := by
  unfold raisedL at h ⊢
  split
  · simp
  · rename_i hc
    rw [if_neg hc] at h
    cases h
theorem raised_off {l : List V} (h : typeV l = 1) : raisedL (baseL l) (offL l) = (l, true) := by
  have hb := base_ok h
  have hu : (offL l).all (upB (baseL l)) = true := by
    rw [List.all_eq_true, off_yes h]
    intro x hx
    obtain ⟨v, hv, rfl⟩ := List.mem_map.1 hx
    have h1 := int_num h v hv
    have h3 := base_le v hv
    exact decide_eq_true (by omega)
  unfold raisedL
  rw [if_pos ⟨Num.okB_true.2 hb, hu⟩, off_yes h, List.map_map]
  congr 1
  conv => rhs; rw [← List.map_id l]
  refine List.map_congr_left (fun v hv => ?_)
  obtain ⟨ho, ht⟩ := (int_parts h).2.2 v hv
  obtain ⟨t, n, s⟩ := v
  simp only at ht
  subst ht
  have hs : s = ⟨#[]⟩ := by
    unfold okV at ho
    simp only [if_true, Bool.and_eq_true, beq_iff_eq] at ho
    apply ByteArray.ext
    apply Array.eq_empty_of_size_eq_zero
    exact ho.2
  subst hs
  simp only [Function.comp_apply, upV, id_eq]
  congr 1
  omega

/-- DecFrame, of the base and the offsets. -/
def decG (zs : List Int) (base : Int) (o : List Int × Bool) : List V × Bool :=
  if o.2 = true ∧ (raisedL base o.1).2 = true ∧ encF (raisedL base o.1).1 = zs then ((raisedL base o.1).1, true) else ([], false)
/-- DecFrame. -/
def decF (zs : List Int) (k : Int) : List V × Bool :=
  if (Num.get zs 0).2.2 = true ∧ (Num.get zs 0).2.1 < zs.length ∧ Num.inB k 1 64 = true then
    decG zs (Num.get zs 0).1 (Bit.unpack (zs.drop ((Num.get zs 0).2.1.toNat + 1)) (zs.getD (Num.get zs 0).2.1.toNat 0) k)
  else ([], false)
theorem decG_len (zs : List Int) (base : Int) (o : List Int × Bool) : (decG zs base o).1.length ≤ o.1.length := by
  unfold decG
  split
  · exact raised_len _ _
  · simp
theorem decF_len (zs : List Int) (k : Int) : (decF zs k).1.length ≤ 64 := by
  unfold decF
  split
  · exact Nat.le_trans (decG_len _ _ _) (Bit.unpack_le _ _ _)
  · simp
theorem decF_sizes (zs : List Int) (k : Int) : ∀ v ∈ (decF zs k).1, v.s.size ≤ maxLen := by
  unfold decF
  split
  · unfold decG
    split
    · exact raised_sizes _ _
    · exact fun v hv => by cases hv
  · exact fun v hv => by cases hv
theorem dec_encF {l : List V} (h : typeV l = 1) : decF (encF l) l.length = (l, true) := by
  obtain ⟨h1, h64, _⟩ := int_parts h
  have hb := base_ok h
  have hup := Bit.unpack_pack (off_fits l) (off_len l).2
  have hol : (offL l).length = l.length := by rw [off_yes h, List.length_map]
  rw [hol] at hup
  have hro := raised_off h
  have he : encF l = (Num.put [] (baseL l) ++ [(Bit.widthFor (offL l) : Int)]) ++ Bit.pack (offL l) (Bit.widthFor (offL l)) := if_pos h
  generalize Bit.pack (offL l) (Bit.widthFor (offL l) : Nat) = pk at *
  generalize (Bit.widthFor (offL l) : Int) = wd at *
  have hok : Num.ok (baseL l) := hb
  generalize hb0 : Num.grp 4 (Num.zig (baseL l)) = b0 at *
  have he2 : encF l = b0 ++ (wd :: pk) := by
    rw [he, Num.put_ok hok, hb0]
    simp
  have hg : Num.get (encF l) 0 = (baseL l, (b0.length : Int), true) := by
    have := get_grp (b := []) (rest := wd :: pk) hok
    rw [hb0] at this
    rw [he2]
    exact this
  unfold decF
  rw [hg]
  simp only
  rw [if_pos ⟨trivial, by rw [he2]; simp; omega, Num.inB_true.2 ⟨by omega, by omega⟩⟩, Int.toNat_natCast]
  have e1 : (encF l).drop (b0.length + 1) = pk := by
    rw [he2]
    simp [List.drop_append]
  have e2 : (encF l).getD b0.length 0 = wd := by
    rw [he2]
    simp [List.getD]
  rw [e1, e2, hup]
  unfold decG
  simp only
  rw [hro]
  simp
theorem dec_okF {zs : List Int} (hb : Num.Bytes zs) {k : Int} (h : (decF zs k).2 = true) : encF (decF zs k).1 = zs ∧ ((decF zs k).1.length : Int) = k := by
  unfold decF at h ⊢
  split
  · rename_i hc
    rw [if_pos hc] at h
    have hbd : Num.Bytes (zs.drop ((Num.get zs 0).2.1.toNat + 1)) := fun x hx => hb x (List.mem_of_mem_drop hx)
    generalize hu : Bit.unpack (zs.drop ((Num.get zs 0).2.1.toNat + 1)) (zs.getD (Num.get zs 0).2.1.toNat 0) k = u at h ⊢
    obtain ⟨o, is⟩ := u
    unfold decG at h ⊢
    split
    · rename_i hd
      simp only at hd
      obtain ⟨rfl, hr, he⟩ := hd
      refine ⟨he, ?_⟩
      simp only
      rw [raised_true hr]
      exact (Bit.pack_unpack hbd hu).2
    · rename_i hd
      rw [if_neg hd] at h
      cases h
  · rename_i hc
    rw [if_neg hc] at h
    cases h

end Go.Proofs.Ythniakklkepomaa
