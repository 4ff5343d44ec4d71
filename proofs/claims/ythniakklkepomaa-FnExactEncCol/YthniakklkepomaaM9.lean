/- Plain mathematics of chapter 9: the kinds of encodings, the shortest one, a column's encoding and its reading. -/
import Derived.Test.YthniakklkepomaaM6
import Derived.Test.YthniakklkepomaaM7b
import Derived.Test.YthniakklkepomaaM8
import Derived.Test.YthniakklkepomaaLaw5b
namespace Go.Proofs.Ythniakklkepomaa
open Go.RowKit

/- A value that was read is the bytes that were read. -/
theorem okV_ty {v : V} (h : okV v = true) : v.ty = 1 ∨ v.ty = 2 := by
  unfold okV at h
  split at h
  · left
    assumption
  · right
    simp only [Bool.and_eq_true] at h
    simpa using h.1
theorem typeV_in {l : List V} (h : ¬ typeV l = 0) : Num.inB (typeV l) 1 2 = true := by
  obtain ⟨h1, _, hall⟩ := typeV_parts h
  have h2 := hall _ (List.getElem_mem h1)
  have h3 := okV_ty h2.1
  rw [h2.2] at h3
  exact Num.inB_true.2 ⟨by omega, by omega⟩
theorem sbytes_str {xs : List Int} (h : Num.Bytes xs) : sbytes (strOfNums xs) = xs := strOfNums_inj (sbytes_bytes _) h (str_sbytes _)
theorem getV_take {zs : List Int} (hb : Num.Bytes zs) {i ty : Int} (h : (getV zs i ty).2.2 = true) : putV (zs.take i.toNat) (getV zs i ty).1 = zs.take (getV zs i ty).2.1.toNat := by
  have hok := (getV_ok hb h).1
  rw [putV_val hok]
  unfold getV at h hok ⊢
  split
  · rename_i ht
    rw [if_pos ht] at h hok
    split
    · rename_i hg
      have hp : Num.get zs i = ((Num.get zs i).1, (Num.get zs i).2.1, true) := by rw [← hg]
      have hq := Num.put_get hb hp
      rw [Num.put_ok hq.2.2.2.2.1] at hq
      unfold valB
      rw [if_pos rfl]
      exact hq.2.2.2.2.2
    · rename_i hg
      rw [if_neg hg] at h
      cases h
  · rename_i ht
    rw [if_neg ht] at h hok
    split
    · rename_i hc
      rw [if_pos hc] at h hok
      have hi := Num.inB_true.1 hc.2
      obtain ⟨n, rfl⟩ := Int.eq_ofNat_of_zero_le hi.1
      rw [Int.toNat_natCast] at h hok ⊢
      have hn : n < zs.length := by omega
      unfold getT at h hok ⊢
      split
      · rename_i hd
        have hz := hb _ (List.getElem_mem hn)
        have hg := getDe zs 0 hn
        obtain ⟨m, hm⟩ := Int.eq_ofNat_of_zero_le hz.1
        have hd1 := hd.1
        rw [hg, hm] at hd1
        rw [hg, hm]
        unfold valB
        have hxb : Num.Bytes ((zs.drop (n + 1)).take m) := fun x hx => hb x (List.mem_of_mem_drop (List.mem_of_mem_take hx))
        have hs := sbytes_str hxb
        have hl := sbytes_len (strOfNums ((zs.drop (n + 1)).take m))
        rw [hs, List.length_take, List.length_drop] at hl
        simp only [Int.toNat_natCast]
        rw [if_neg (by decide), hs, ← hl, Nat.min_eq_left (by omega)]
        have e : ((n : Int) + 1 + (m : Int)).toNat = n + 1 + m := by omega
        rw [e, List.take_add, List.take_succ_eq_append_getElem hn, hm]
        simp
      · rename_i hd
        rw [if_neg hd] at h
        cases h
    · rename_i hc
      rw [if_neg hc] at h
      cases h
theorem decL_take {zs : List Int} (hb : Num.Bytes zs) {ty : Int} : ∀ {k : Nat} {i : Int} {r : List V × Int}, decL zs ty k i = some r → r.1.foldl putV (zs.take i.toNat) = zs.take r.2.toNat ∧ r.1.length = k ∧ ∀ v ∈ r.1, okV v = true ∧ v.ty = ty
  | 0, i, r, h => by
    obtain rfl := Option.some.inj h
    exact ⟨rfl, rfl, fun v hv => by cases hv⟩
  | k + 1, i, r, h => by
    unfold decL at h
    split at h
    · rename_i hg
      cases hd : decL zs ty k (getV zs i ty).2.1 with
      | none => rw [hd] at h; cases h
      | some q =>
        rw [hd] at h
        obtain rfl := Option.some.inj h
        obtain ⟨h1, h2, h3⟩ := decL_take hb hd
        refine ⟨?_, by simp [h2], fun v hv => ?_⟩
        · simp only [List.foldl_cons]
          rw [getV_take hb hg]
          exact h1
        · rcases List.mem_cons.1 hv with rfl | hv
          · exact getV_ok hb hg
          · exact h3 v hv
    · cases h
theorem dec_okP {zs : List Int} (hb : Num.Bytes zs) {ty k : Int} (h : (decP zs ty k).2 = true) : encP (decP zs ty k).1 = zs ∧ ((decP zs ty k).1.length : Int) = k ∧ typeV (decP zs ty k).1 = ty := by
  unfold decP at h ⊢
  split
  · rename_i hk
    rw [if_pos hk] at h
    have hkk := Num.inB_true.1 hk
    cases hd : decL zs ty k.toNat 0 with
    | none => rw [hd] at h; cases h
    | some r =>
      rw [hd] at h
      simp only at h ⊢
      split
      · rename_i he
        obtain ⟨h1, h2, h3⟩ := decL_take hb hd
        have hty := typeV_of (by omega) (by omega) h3
        have h0 : ¬ ty = 0 := by
          rintro rfl
          have hp : 0 < r.1.length := by omega
          have := h3 _ (List.getElem_mem hp)
          have h2 := okV_ty this.1
          omega
        refine ⟨?_, by simp only; omega, hty⟩
        unfold encP encAll
        rw [if_neg (by rw [hty]; exact h0)]
        rw [he] at h1
        simpa using h1
      · rename_i he
        rw [if_neg he] at h
        cases h
  · rename_i hk
    rw [if_neg hk] at h
    cases h
theorem dec_encP {l : List V} (h : ¬ typeV l = 0) : decP (encP l) (typeV l) l.length = (l, true) := by
  obtain ⟨h1, h64, hall⟩ := typeV_parts h
  have hk : Num.inB (l.length : Int) 1 64 = true := Num.inB_true.2 ⟨by omega, by omega⟩
  have he : encP l = [] ++ (bodyV l ++ []) := by
    unfold encP
    rw [if_neg h]
    have := putAll_body l [] (fun v hv => (hall v hv).1)
    simpa [putAll, encAll] using this
  have hd : decL (encP l) (typeV l) l.length 0 = some (l, ((encP l).length : Int)) := by
    rw [he]
    have := decL_body l [] [] hall
    simpa using this
  unfold decP
  rw [if_pos hk, Int.toNat_natCast, hd]
  simp
theorem encP_bytes (l : List V) : Num.Bytes (encP l) := by
  have : ∀ (l : List V) (b : List Int), Num.Bytes b → Num.Bytes (l.foldl putV b) := by
    intro l
    induction l with
    | nil => exact fun b hb => hb
    | cons v l ih => exact fun b hb => ih _ (putV_bytes hb v)
  unfold encP
  split
  · exact nil_bytes
  · exact this l [] nil_bytes

/-- EncBy. -/
def encB (k : Int) (l : List V) : List Int := if k = 0 then encP l else if k = 1 then encR l else if k = 2 then encD l else if k = 3 then encF l else []
theorem encB0 (l : List V) : encB 0 l = encP l := rfl
theorem encB1 (l : List V) : encB 1 l = encR l := rfl
theorem encB2 (l : List V) : encB 2 l = encD l := rfl
theorem encB3 (l : List V) : encB 3 l = encF l := rfl
theorem encB_no {k : Int} (h : ¬ (0 ≤ k ∧ k ≤ 3)) (l : List V) : encB k l = [] := by
  unfold encB
  rw [if_neg (by omega), if_neg (by omega), if_neg (by omega), if_neg (by omega)]
theorem encB_bytes (k : Int) (l : List V) : Num.Bytes (encB k l) := by
  unfold encB
  split
  · exact encP_bytes l
  split
  · exact encR_bytes l
  split
  · exact encD_bytes l
  split
  · exact encF_bytes l
  · exact nil_bytes
theorem encB_len (k : Int) (l : List V) : (encB k l).length ≤ 1024 := by
  unfold encB
  split
  · have h1 := encP_len l
    by_cases h : typeV l = 0
    · unfold encP
      rw [if_pos h]
      simp
    · have := typeV_len h
      omega
  split
  · have := encR_len l
    omega
  split
  · exact encD_len l
  split
  · exact encF_len l
  · simp
/-- The best of the kinds 0 to k. -/
def bestK (l : List V) : Nat → Nat
  | 0 => 0
  | k + 1 => if (k + 1 ≠ 3 ∨ typeV l = 1) ∧ (encB ((k + 1 : Nat) : Int) l).length < (encB (bestK l k) l).length then k + 1 else bestK l k
theorem bestK_le (l : List V) : ∀ k, bestK l k ≤ k
  | 0 => Nat.le_refl _
  | k + 1 => by
    have := bestK_le l k
    unfold bestK
    split <;> omega
theorem bestK_min (l : List V) : ∀ {k j : Nat}, j ≤ k → (j ≠ 3 ∨ typeV l = 1) → (encB (bestK l k) l).length ≤ (encB j l).length
  | 0, j, h, _ => by
    obtain rfl : j = 0 := by omega
    exact Nat.le_refl _
  | k + 1, j, h, h3 => by
    by_cases hj : j = k + 1
    · subst hj
      unfold bestK
      split
      · exact Nat.le_refl _
      · rename_i hc
        have : ¬ (encB ((k + 1 : Nat) : Int) l).length < (encB (bestK l k) l).length := fun hl => hc ⟨h3, hl⟩
        omega
    · have ih := bestK_min l (k := k) (j := j) (by omega) h3
      unfold bestK
      split
      · rename_i hc
        have := hc.2
        omega
      · exact ih
/-- BestKind. -/
def bestL (l : List V) : Int := if typeV l = 0 then -1 else bestK l 3
theorem bestL_no {l : List V} (h : typeV l = 0) : bestL l = -1 := if_pos h
theorem bestL_yes {l : List V} (h : ¬ typeV l = 0) : bestL l = bestK l 3 := if_neg h
theorem bestL_in (l : List V) : -1 ≤ bestL l ∧ bestL l ≤ 3 := by
  have := bestK_le l 3
  unfold bestL
  split <;> omega
theorem bestL_int {l : List V} (h : bestL l = 3) : typeV l = 1 := by
  by_cases h0 : typeV l = 0
  · rw [bestL_no h0] at h
    omega
  · rw [bestL_yes h0] at h
    unfold bestK at h
    split at h
    · rename_i hc
      rcases hc.1 with h1 | h1
      · exact absurd rfl h1
      · exact h1
    · have := bestK_le l 2
      omega
/-- EncCol. -/
def encC (l : List V) : List Int := if typeV l = 0 then [] else bestL l :: encB (bestL l) l
theorem encC_no {l : List V} (h : typeV l = 0) : encC l = [] := if_pos h
theorem encC_yes {l : List V} (h : ¬ typeV l = 0) : encC l = bestL l :: encB (bestL l) l := if_neg h
theorem encC_bytes (l : List V) : Num.Bytes (encC l) := by
  unfold encC
  split
  · exact nil_bytes
  · rename_i h
    intro x hx
    rcases List.mem_cons.1 hx with rfl | hx
    · have := bestK_le l 3
      rw [bestL_yes h]
      omega
    · exact encB_bytes _ l x hx
theorem encC_len (l : List V) : (encC l).length ≤ 1025 := by
  have := encB_len (bestL l) l
  unfold encC
  split
  · simp
  · simp
    omega
theorem encC_min {l : List V} (h : ¬ typeV l = 0) {k : Int} (hk : 0 < (encB k l).length) : (encC l).length ≤ (encB k l).length + 1 := by
  rw [encC_yes h, List.length_cons, bestL_yes h]
  by_cases hin : 0 ≤ k ∧ k ≤ 3
  · obtain ⟨j, rfl⟩ := Int.eq_ofNat_of_zero_le hin.1
    have := bestK_min l (k := 3) (j := j) (by omega) (by
      by_cases h3 : j = 3
      · right
        subst h3
        have e : encB ((3 : Nat) : Int) l = encF l := rfl
        rw [e] at hk
        unfold encF at hk
        split at hk
        · assumption
        · simp at hk
      · exact .inl h3)
    omega
  · rw [encB_no hin] at hk
    simp at hk
theorem encC_plain (l : List V) : (encC l).length ≤ (encP l).length + 1 := by
  by_cases h : typeV l = 0
  · rw [encC_no h]
    simp
  · rw [encC_yes h, List.length_cons, bestL_yes h]
    have := bestK_min l (k := 3) (j := 0) (by omega) (.inl (by omega))
    have e : encB ((0 : Nat) : Int) l = encP l := rfl
    rw [e] at this
    omega
/-- Saved. -/
def savedL (l : List V) : Int := ((encP l).length : Int) - ((encC l).length : Int)
/-- The decoder of a kind. -/
def decB (d : Int) (zs : List Int) (ty k : Int) : List V × Bool := if d = 0 then decP zs ty k else if d = 1 then decR zs ty k else if d = 2 then decD zs ty k else if d = 3 then decF zs k else ([], false)
theorem decB_len (d : Int) (zs : List Int) (ty k : Int) : (decB d zs ty k).1.length ≤ 64 := by
  unfold decB
  split
  · exact decP_len zs ty k
  split
  · exact decR_len zs ty k
  split
  · exact decD_len zs ty k
  split
  · exact decF_len zs k
  · simp
theorem decB_ok {zs : List Int} (hb : Num.Bytes zs) {d ty k : Int} (h : (decB d zs ty k).2 = true) : encB d (decB d zs ty k).1 = zs ∧ ((decB d zs ty k).1.length : Int) = k := by
  unfold decB encB at *
  split
  · rename_i h0
    rw [if_pos h0] at h
    exact ⟨(dec_okP hb h).1, (dec_okP hb h).2.1⟩
  rename_i h0
  rw [if_neg h0] at h
  split
  · rename_i h0
    rw [if_pos h0] at h
    exact ⟨(dec_ok hb h).1, (dec_ok hb h).2.1⟩
  rename_i h0
  rw [if_neg h0] at h
  split
  · rename_i h0
    rw [if_pos h0] at h
    exact ⟨(dec_okD hb h).1, (dec_okD hb h).2.1⟩
  rename_i h0
  rw [if_neg h0] at h
  split
  · rename_i h0
    rw [if_pos h0] at h
    exact dec_okF hb h
  · rename_i h0
    rw [if_neg h0] at h
    cases h
/-- DecCol. -/
def decC (zs : List Int) (ty k : Int) : List V × Bool :=
  if zs.length = 0 ∨ Num.inB ty 1 2 = false then ([], false)
  else if (decB (zs.getD 0 0) (zs.drop 1) ty k).2 = true ∧ typeV (decB (zs.getD 0 0) (zs.drop 1) ty k).1 = ty ∧ encC (decB (zs.getD 0 0) (zs.drop 1) ty k).1 = zs then ((decB (zs.getD 0 0) (zs.drop 1) ty k).1, true)
  else ([], false)
theorem decC_len (zs : List Int) (ty k : Int) : (decC zs ty k).1.length ≤ 64 := by
  unfold decC
  split
  · simp
  split
  · exact decB_len _ _ _ _
  · simp
theorem decC_ok {zs : List Int} (hb : Num.Bytes zs) {ty k : Int} (h : (decC zs ty k).2 = true) : encC (decC zs ty k).1 = zs ∧ ((decC zs ty k).1.length : Int) = k ∧ typeV (decC zs ty k).1 = ty := by
  unfold decC at h ⊢
  split
  · rename_i h0
    rw [if_pos h0] at h
    cases h
  rename_i h0
  rw [if_neg h0] at h
  split
  · rename_i h1
    exact ⟨h1.2.2, (decB_ok (fun x hx => hb x (List.mem_of_mem_drop hx)) h1.1).2, h1.2.1⟩
  · rename_i h1
    rw [if_neg h1] at h
    cases h
theorem decC_enc {l : List V} (h : ¬ typeV l = 0) : decC (encC l) (typeV l) l.length = (l, true) := by
  have hin := bestK_le l 3
  have he := encC_yes h
  have hty := typeV_in h
  have h0 : (encC l).getD 0 0 = bestL l := by rw [he]; rfl
  have h1 : (encC l).drop 1 = encB (bestL l) l := by rw [he]; rfl
  have hd : decB (bestL l) (encB (bestL l) l) (typeV l) l.length = (l, true) := by
    have h3 := bestL_int (l := l)
    have hb := bestL_in l
    have hbe := bestL_yes h
    unfold decB encB
    split
    · exact dec_encP h
    split
    · exact dec_enc h
    split
    · exact dec_encD h
    split
    · rename_i e
      exact dec_encF (h3 e)
    · omega
  unfold decC
  rw [if_neg (by rw [he, hty]; simp), h0, h1, hd]
  simp
/-- DecCol as the program goes: the type within the decoder of the kind, the best kind behind it. -/
theorem decC_prog {zs : List Int} (hb : Num.Bytes zs) (h : 0 < zs.length) (ty k : Int) :
    decC zs ty k = if (decB (zs.getD 0 0) (zs.drop 1) ty k).2 = true ∧ (zs.getD 0 0 = 3 → ty = 1) ∧ bestL (decB (zs.getD 0 0) (zs.drop 1) ty k).1 = zs.getD 0 0 then ((decB (zs.getD 0 0) (zs.drop 1) ty k).1, true) else ([], false) := by
  have hbd : Num.Bytes (zs.drop 1) := fun x hx => hb x (List.mem_of_mem_drop hx)
  have hcons : zs = zs.getD 0 0 :: zs.drop 1 := by
    cases zs with
    | nil => simp at h
    | cons x l => simp
  have h0 : 0 ≤ zs.getD 0 0 := by
    rw [getDe zs 0 h]
    exact (hb _ (List.getElem_mem h)).1
  have HOK := decB_ok (d := zs.getD 0 0) (ty := ty) (k := k) hbd
  have HTY : (decB (zs.getD 0 0) (zs.drop 1) ty k).2 = true → zs.getD 0 0 ≠ 3 → typeV (decB (zs.getD 0 0) (zs.drop 1) ty k).1 = ty := by
    intro hr h3
    unfold decB at hr ⊢
    split
    · rename_i e
      rw [if_pos e] at hr
      exact (dec_okP hbd hr).2.2
    rename_i e
    rw [if_neg e] at hr
    split
    · rename_i e
      rw [if_pos e] at hr
      exact (dec_ok hbd hr).2.2
    rename_i e
    rw [if_neg e] at hr
    split
    · rename_i e
      rw [if_pos e] at hr
      exact (dec_okD hbd hr).2.2
    rename_i e
    rw [if_neg e, if_neg h3] at hr
    cases hr
  unfold decC
  generalize zs.getD 0 0 = d at *
  generalize decB d (zs.drop 1) ty k = r at *
  by_cases hc : r.2 = true ∧ (d = 3 → ty = 1) ∧ bestL r.1 = d
  · obtain ⟨h1, h2, h3⟩ := hc
    have ht0 : ¬ typeV r.1 = 0 := fun e => by
      rw [bestL_no e] at h3
      omega
    have hty : typeV r.1 = ty := by
      by_cases e : d = 3
      · rw [h2 e]
        exact bestL_int (h3.trans e)
      · exact HTY h1 e
    have hin : Num.inB ty 1 2 = true := by
      rw [← hty]
      exact typeV_in ht0
    have hl : ¬ (zs.length = 0 ∨ Num.inB ty 1 2 = false) := by
      rw [hin]
      rintro (h5 | h5)
      · omega
      · cases h5
    have he : encC r.1 = zs := by
      rw [encC_yes ht0, h3, (HOK h1).1]
      exact hcons.symm
    rw [if_neg hl, if_pos (⟨h1, h2, h3⟩ : r.2 = true ∧ (d = 3 → ty = 1) ∧ bestL r.1 = d), if_pos ⟨h1, hty, he⟩]
  · rw [if_neg hc]
    split
    · rfl
    split
    · rename_i hn hy
      exfalso
      apply hc
      have ht0 : ¬ typeV r.1 = 0 := fun e => by
        have e2 := hy.2.2
        rw [encC_no e] at e2
        rw [← e2] at h
        simp at h
      have e2 := hy.2.2
      rw [encC_yes ht0, hcons] at e2
      have e3 := (List.cons.inj e2).1
      exact ⟨hy.1, fun e => by rw [← hy.2.1]; exact bestL_int (e3.trans e), e3⟩
    · rfl

/-- KindText. -/
def kindT (n : Int) : ByteArray := if n = 0 then strOfNums [112, 108, 97, 105, 110] else if n = 1 then strOfNums [114, 117, 110, 115] else if n = 2 then strOfNums [100, 105, 99, 116] else if n = 3 then strOfNums [102, 114, 97, 109, 101] else ⟨#[]⟩

end Go.Proofs.Ythniakklkepomaa
