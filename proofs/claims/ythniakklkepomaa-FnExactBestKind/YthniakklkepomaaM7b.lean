/- Plain mathematics of chapter 7: decoding gives back what was encoded; what decodes is what its values encode to. -/
import Derived.Test.YthniakklkepomaaS7g
import Derived.Test.YthniakklkepomaaM5
namespace Go.Proofs.Ythniakklkepomaa
open Go.RowKit

/-- The bytes of values. -/
def bodyV (d : List V) : List Int := d.flatMap valB
theorem putAll_body : ∀ (d : List V) (b : List Int), (∀ v ∈ d, okV v = true) → putAll b d = b ++ bodyV d
  | [], b, _ => by simp [putAll, bodyV]
  | v :: d, b, h => by
    have h1 := h v List.mem_cons_self
    have ih := putAll_body d (b ++ valB v) (fun x hx => h x (List.mem_cons_of_mem _ hx))
    unfold putAll at ih ⊢
    rw [List.foldl_cons, putV_val h1, ih]
    simp [bodyV]
theorem decL_body {ty : Int} : ∀ (d : List V) (b rest : List Int), (∀ v ∈ d, okV v = true ∧ v.ty = ty) → decL (b ++ (bodyV d ++ rest)) ty d.length b.length = some (d, ((b ++ bodyV d).length : Int))
  | [], b, rest, _ => by simp [decL, bodyV]
  | v :: d, b, rest, h => by
    have h1 := h v List.mem_cons_self
    have e1 : b ++ (bodyV (v :: d) ++ rest) = b ++ (valB v ++ (bodyV d ++ rest)) := by simp [bodyV]
    have e3 : b ++ (bodyV (v :: d) ++ rest) = (b ++ valB v) ++ (bodyV d ++ rest) := by simp [bodyV]
    have g : getV (b ++ (bodyV (v :: d) ++ rest)) b.length ty = (v, ((b ++ valB v).length : Int), true) := by
      rw [e1, ← h1.2]
      exact getV_val h1.1 _ _
    have ih := decL_body d (b ++ valB v) rest (fun x hx => h x (List.mem_cons_of_mem _ hx))
    rw [← e3] at ih
    rw [List.length_cons, decL, g]
    simp only [if_true]
    rw [ih]
    simp [bodyV]
theorem places_fit {D l : List V} (h : ∀ v ∈ l, v ∈ D) (h1 : 1 ≤ D.length) (h2 : D.length ≤ 64) : Bit.fitsB (l.map (inI D)) (Bit.widthI ((D.length : Int) - 1) : Nat) = true := by
  refine Bit.digs_fits (fun x hx => ?_) (Bit.widthI_le31 _)
  obtain ⟨v, hv, rfl⟩ := List.mem_map.1 hx
  obtain ⟨i, hi⟩ := inD_mem (h v hv)
  have hlt := (inD_some hi).1
  rw [inI_some hi]
  have hw := (Bit.widthI_in (x := (D.length : Int) - 1) (by omega) (by omega) (Bit.widthI ((D.length : Int) - 1))).1 (Nat.le_refl _)
  exact ⟨by omega, Bit.lt_of_toNat (by omega)⟩
theorem dec_encD {l : List V} (h : ¬ typeV l = 0) : decD (encD l) (typeV l) l.length = (l, true) := by
  obtain ⟨h1, h64, hall⟩ := typeV_parts h
  have hk : Num.inB (l.length : Int) 1 64 = true := Num.inB_true.2 ⟨by omega, by omega⟩
  have hD : ∀ v ∈ dictL l, okV v = true ∧ v.ty = typeV l := dict_all hall
  have hm : ∀ v ∈ l, v ∈ dictL l := fun v hv => mem_dict.2 hv
  have hl := dict_len l
  have hpos : 1 ≤ (dictL l).length := by
    have : l[0] ∈ dictL l := mem_dict.2 (List.getElem_mem _)
    have := List.length_pos_of_mem this
    omega
  have hfit := places_fit hm hpos (by omega)
  have hpm := places_mem hm
  have hpp := picked_places hm
  have hul := Bit.unpack_pack hfit (by simp; omega)
  rw [List.length_map] at hul
  have he : encD l = putAll (Num.put [] (dictL l).length) (dictL l) ++ Bit.pack (l.map (inI (dictL l))) (Bit.widthI ((dictL l).length - 1)) := by
    unfold encD
    rw [if_neg h, hpm]
  have hE := he
  generalize dictL l = D at *
  have hok : Num.ok (D.length : Int) := by unfold Num.ok; omega
  generalize hpk : Bit.pack (l.map (inI D)) (Bit.widthI ((D.length : Int) - 1) : Nat) = pk at *
  generalize hb0 : Num.grp 4 (Num.zig (D.length : Int)) = b0 at *
  have he2 : encD l = b0 ++ (bodyV D ++ pk) := by
    rw [he, putAll_body _ _ (fun v hv => (hD v hv).1), Num.put_ok hok, hb0]
    simp
  have hg : Num.get (encD l) 0 = ((D.length : Int), (b0.length : Int), true) := by
    have := get_grp (b := []) (rest := bodyV D ++ pk) hok
    rw [hb0] at this
    rw [he2]
    exact this
  have hd : decL (encD l) (typeV l) D.length b0.length = some (D, ((b0 ++ bodyV D).length : Int)) := by
    rw [he2]
    exact decL_body D b0 pk hD
  have hdrop : (encD l).drop (b0 ++ bodyV D).length = pk := by
    rw [he2, ← List.append_assoc]
    simp
  unfold decD
  rw [hg]
  simp only
  rw [if_pos ⟨trivial, hk, Num.inB_true.2 ⟨by omega, by omega⟩⟩, Int.toNat_natCast, hd]
  simp only
  unfold decT
  rw [Int.toNat_natCast, hdrop, hul]
  simp only
  rw [hpp]
  simp
theorem decL_ok {zs : List Int} (hb : Num.Bytes zs) {ty : Int} : ∀ {n : Nat} {i : Int} {r : List V × Int}, decL zs ty n i = some r → ∀ v ∈ r.1, okV v = true ∧ v.ty = ty := by
  intro n
  induction n with
  | zero =>
    intro i r h v hv
    simp only [decL, Option.some.injEq] at h
    subst h
    cases hv
  | succ n ih =>
    intro i r h v hv
    rw [decL] at h
    split at h
    · rename_i hg
      obtain ⟨q, hq, rfl⟩ := Option.map_eq_some_iff.1 h
      rcases List.mem_cons.1 hv with rfl | hv
      · exact getV_ok hb hg
      · exact ih hq v hv
    · cases h
theorem picked_true {d : List V} {p : List Int} (h : (pickedL d p).2 = true) : (pickedL d p).1.length = p.length := by
  unfold pickedL at h ⊢
  split
  · simp
  · rename_i hc
    rw [if_neg hc] at h
    cases h
theorem dec_okD {zs : List Int} (hb : Num.Bytes zs) {ty k : Int} (h : (decD zs ty k).2 = true) : encD (decD zs ty k).1 = zs ∧ ((decD zs ty k).1.length : Int) = k ∧ typeV (decD zs ty k).1 = ty := by
  unfold decD at h ⊢
  split
  · rename_i hc
    rw [if_pos hc] at h
    have hkk := Num.inB_true.1 hc.2.1
    split
    · rename_i r hr
      rw [hr] at h
      simp only at h ⊢
      unfold decT at h ⊢
      split
      · rename_i hq
        have hp := picked_true hq.2.1
        have hl : (((Bit.unpack (zs.drop r.2.toNat) (Bit.widthI ((r.1.length : Int) - 1)) k).1.length : Nat) : Int) = k :=
          (Bit.pack_unpack (fun x hx => hb x (List.mem_of_mem_drop hx)) (Prod.ext rfl hq.1)).2
        simp only
        refine ⟨hq.2.2, by rw [hp]; exact hl, typeV_of (by omega) (by omega) ?_⟩
        exact picked_all (decL_ok hb hr)
      · rename_i hq
        rw [if_neg hq] at h
        cases h
    · rename_i hr
      rw [hr] at h
      cases h
  · rename_i hc
    rw [if_neg hc] at h
    cases h
theorem asc_next {d : List V} (h : Asc d) {i : Nat} (hi : i + 1 < d.length) : lessV (d.getD i V.zero) (d.getD (i + 1) V.zero) = true := by
  rw [getDe d V.zero (by omega : i < d.length), getDe d V.zero hi]
  exact (List.pairwise_iff_getElem.1 h) i (i + 1) (by omega) hi (by omega)

end Go.Proofs.Ythniakklkepomaa
