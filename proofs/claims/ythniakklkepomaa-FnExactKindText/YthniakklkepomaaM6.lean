/- Plain mathematics of chapter 6: what runs spread to, that neighbours differ, that decoding gives back what was encoded. -/
import Derived.Test.YthniakklkepomaaI6d
import Derived.Test.YthniakklkepomaaEqV
import Derived.Test.YthniakklkepomaaM5
namespace Go.Proofs.Ythniakklkepomaa
open Go.RowKit

theorem last_split {r : List U} {m : Nat} (hm : r.length = m + 1) : r = r.take m ++ [r.getD m U.zero] := by
  have h : m < r.length := by omega
  have e : r.getD m U.zero = r[m] := by simp [h]
  rw [e, ← List.take_succ_eq_append_getElem h, List.take_of_length_le (by omega)]
theorem set_last {r : List U} {m : Nat} (hm : r.length = m + 1) (x : U) : r.set m x = r.take m ++ [x] := by
  have h : m < r.length := by omega
  have h1 := take_set_snoc r m x h
  rw [List.take_of_length_le (by rw [List.length_set]; omega)] at h1
  exact h1
theorem addRun_cases (r : List U) (v : V) : (∃ m, r.length = m + 1 ∧ (r.getD m U.zero).v = v ∧ addRun r v = r.take m ++ [⟨v, (r.getD m U.zero).k + 1⟩]) ∨ ((r.length = 0 ∨ ∃ m, r.length = m + 1 ∧ (r.getD m U.zero).v ≠ v) ∧ addRun r v = r ++ [⟨v, 1⟩]) := by
  by_cases h0 : r.length = 0
  · exact .inr ⟨.inl h0, addRun_new h0⟩
  · obtain ⟨m, hm⟩ : ∃ m, r.length = m + 1 := ⟨r.length - 1, by omega⟩
    have hl : lastU r = r.getD m U.zero := by
      unfold lastU
      rw [show r.length - 1 = m by omega]
    cases he : (r.getD m U.zero).v.eqB v with
    | true =>
      have e := eqB_true.1 he
      refine .inl ⟨m, hm, e, ?_⟩
      rw [addRun_eq hm he, set_last hm, e]
    | false => exact .inr ⟨.inr ⟨m, hm, eqB_false.1 he⟩, addRun_ne (by rw [hl]; exact he)⟩

/-- What runs stand for. -/
def flatU (r : List U) : List V := r.flatMap fun u => List.replicate u.k.toNat u.v
theorem flatU_append (a b : List U) : flatU (a ++ b) = flatU a ++ flatU b := by simp [flatU]
theorem flatU_one (u : U) : flatU [u] = List.replicate u.k.toNat u.v := by simp [flatU]
theorem flatU_cons (u : U) (r : List U) : flatU (u :: r) = List.replicate u.k.toNat u.v ++ flatU r := by simp [flatU]
theorem addRun_pos {r : List U} (h : ∀ u ∈ r, 1 ≤ u.k) (v : V) : ∀ u ∈ addRun r v, 1 ≤ u.k := by
  intro u hu
  rcases addRun_cases r v with ⟨m, hm, hv, e⟩ | ⟨_, e⟩
  · rw [e] at hu
    rcases List.mem_append.1 hu with h1 | h1
    · exact h u (List.mem_of_mem_take h1)
    · have hlt : m < r.length := by omega
      have e2 : r.getD m U.zero = r[m] := by simp [hlt]
      have := h _ (List.getElem_mem hlt)
      rw [← e2] at this
      obtain rfl := List.mem_singleton.1 h1
      show 1 ≤ (r.getD m U.zero).k + 1
      omega
  · rw [e] at hu
    rcases List.mem_append.1 hu with h1 | h1
    · exact h u h1
    · obtain rfl := List.mem_singleton.1 h1
      exact Int.le_refl _
theorem flatU_addRun {r : List U} (h : ∀ u ∈ r, 1 ≤ u.k) (v : V) : flatU (addRun r v) = flatU r ++ [v] := by
  rcases addRun_cases r v with ⟨m, hm, hv, e⟩ | ⟨_, e⟩
  · have hs := last_split hm
    have hlt : m < r.length := by omega
    have e2 : r.getD m U.zero = r[m] := by simp [hlt]
    have hk := h _ (List.getElem_mem hlt)
    rw [← e2] at hk
    rw [e, flatU_append, flatU_one]
    have hf : flatU r = flatU (r.take m) ++ List.replicate (r.getD m U.zero).k.toNat v := by
      rw [hs, flatU_append, flatU_one]
      congr 1
      · congr 1
        rw [← hs]
      · rw [← hs, hv]
    rw [hf, List.append_assoc, show ((r.getD m U.zero).k + 1).toNat = (r.getD m U.zero).k.toNat + 1 by omega]
    show _ ++ List.replicate ((r.getD m U.zero).k.toNat + 1) v = _
    rw [List.replicate_succ']
  · rw [e, flatU_append, flatU_one]
    rfl
theorem flatU_fold (l : List V) : ∀ (r : List U), (∀ u ∈ r, 1 ≤ u.k) → flatU (l.foldl addRun r) = flatU r ++ l := by
  induction l with
  | nil => intro r _; simp
  | cons v l ih =>
    intro r h
    rw [List.foldl_cons, ih _ (addRun_pos h v), flatU_addRun h]
    simp
theorem flatU_runs (l : List V) : flatU (runsL l) = l := by
  have := flatU_fold l [] (fun _ h => by cases h)
  simpa [flatU, runsL] using this
theorem runsL_pos (l : List V) : ∀ u ∈ runsL l, 1 ≤ u.k := fun u hu => (runsL_k l u hu).1
theorem spreadF_flat : ∀ (r : List U) (out : List V), (∀ u ∈ r, 1 ≤ u.k) → out.length + (flatU r).length ≤ 64 → spreadF r out = some (out ++ flatU r)
  | [], out, _, _ => by simp [spreadF, flatU]
  | u :: r, out, hp, hl => by
    have h1 := hp u List.mem_cons_self
    rw [flatU_cons, List.length_append, List.length_replicate] at hl
    rw [spreadF, if_pos ⟨h1, by omega⟩, spreadF_flat r _ (fun x hx => hp x (List.mem_cons_of_mem _ hx)) (by rw [List.length_append, List.length_replicate]; omega), flatU_cons, List.append_assoc]
theorem spread_runs {l : List V} (h : l.length ≤ 64) : spreadL (runsL l) = l := by
  have h1 := spreadF_flat (runsL l) [] (runsL_pos l) (by rw [flatU_runs]; simpa using h)
  unfold spreadL
  rw [h1, flatU_runs]
  simp

/-- The sum of the lengths. -/
def totU (r : List U) : Int := (r.map fun u => u.k).sum
theorem totU_flat : ∀ {r : List U}, (∀ u ∈ r, 1 ≤ u.k) → totU r = ((flatU r).length : Nat)
  | [], _ => rfl
  | u :: r, h => by
    have h1 := h u List.mem_cons_self
    have ih := totU_flat (r := r) (fun x hx => h x (List.mem_cons_of_mem _ hx))
    unfold totU at ih ⊢
    rw [flatU_cons, List.length_append, List.length_replicate, List.map_cons, List.sum_cons, ih]
    omega
theorem totU_runs (l : List V) : totU (runsL l) = (l.length : Nat) := by rw [totU_flat (runsL_pos l), flatU_runs]
theorem totU_take {r : List U} {k : Nat} (h : k < r.length) : totU (r.take (k + 1)) = totU (r.take k) + (r.getD k U.zero).k := by
  have e : r.getD k U.zero = r[k] := by simp [h]
  rw [e, List.take_succ_eq_append_getElem h]
  unfold totU
  rw [List.map_append, List.sum_append]
  simp only [List.map_cons, List.map_nil, List.sum_cons, List.sum_nil, Int.add_zero]

/-- No two neighbours are alike. -/
def ApartV (l : List V) : Prop := ∀ i, i + 1 < l.length → l.getD (i + 1) V.zero ≠ l.getD i V.zero
theorem apart_snoc {l : List V} {v : V} (h : ApartV l) (hv : ∀ m, l.length = m + 1 → l.getD m V.zero ≠ v) : ApartV (l ++ [v]) := by
  intro i hi
  rw [List.length_append, List.length_singleton] at hi
  by_cases hl : i + 1 < l.length
  · have := h i hl
    simp only [List.getD, List.getElem?_append_left hl, List.getElem?_append_left (show i < l.length by omega)] at this ⊢
    exact this
  · have he : i + 1 = l.length := by omega
    have := hv i (by omega)
    intro e
    apply this
    have e1 : (l ++ [v]).getD (i + 1) V.zero = v := by
      rw [he]
      simp [List.getD]
    have e2 : (l ++ [v]).getD i V.zero = l.getD i V.zero := by
      simp only [List.getD, List.getElem?_append_left (show i < l.length by omega)]
    rw [e1, e2] at e
    exact e.symm
theorem map_addRun (r : List U) (v : V) : (addRun r v).map (·.v) = r.map (·.v) ∨ (addRun r v).map (·.v) = r.map (·.v) ++ [v] ∧ ∀ m, r.length = m + 1 → (r.getD m U.zero).v ≠ v := by
  rcases addRun_cases r v with ⟨m, hm, hv, e⟩ | ⟨hne, e⟩
  · left
    rw [e]
    have hs := last_split hm
    conv => rhs; rw [hs]
    rw [List.map_append, List.map_append]
    show _ ++ [v] = _ ++ [(r.getD m U.zero).v]
    rw [hv]
  · right
    refine ⟨by rw [e]; simp, fun m hm => ?_⟩
    rcases hne with h0 | ⟨m', hm', h⟩
    · omega
    · obtain rfl : m = m' := by omega
      exact h
theorem getD_mapV (r : List U) (k : Nat) : (r.map (·.v)).getD k V.zero = (r.getD k U.zero).v := by
  simp only [List.getD, List.getElem?_map]
  cases r[k]? <;> rfl
theorem apart_fold (l : List V) : ∀ (r : List U), ApartV (r.map (·.v)) → ApartV ((l.foldl addRun r).map (·.v)) := by
  induction l with
  | nil => intro r h; exact h
  | cons v l ih =>
    intro r h
    rw [List.foldl_cons]
    apply ih
    rcases map_addRun r v with e | ⟨e, hne⟩
    · rw [e]; exact h
    · rw [e]
      refine apart_snoc h (fun m hm => ?_)
      rw [getD_mapV]
      exact hne m (by simpa using hm)
theorem runs_apart (l : List V) {i : Nat} (hi : i + 1 < (runsL l).length) : ((runsL l).getD (i + 1) U.zero).v.eqB ((runsL l).getD i U.zero).v = false := by
  have h := apart_fold l [] (fun i hi => by simp at hi)
  have := h i (by simpa [runsL] using hi)
  rw [getD_mapV, getD_mapV] at this
  exact eqB_false.2 this
theorem turns_runs (l : List V) : ∀ k, k < l.length → (runsL (l.take (k + 1))).length = turnsK l (k + 1) + 1 ∧ (lastU (runsL (l.take (k + 1)))).v = l.getD k V.zero
  | 0, h => by
    have e : runsL (l.take 1) = [⟨l.getD 0 V.zero, 1⟩] := by
      rw [runs_step h]
      rfl
    rw [e]
    exact ⟨rfl, rfl⟩
  | k + 1, h => by
    obtain ⟨h1, h2⟩ := turns_runs l k (by omega)
    rw [runs_step h]
    rw [show turnsK l (k + 1 + 1) = turnsK l (k + 1) + (if 0 < k + 1 ∧ (l.getD (k + 1) V.zero).eqB (l.getD (k + 1 - 1) V.zero) = false then 1 else 0) from rfl]
    rw [show k + 1 - 1 = k by omega]
    generalize runsL (l.take (k + 1)) = r at h1 h2
    have hl : ∀ m, r.length = m + 1 → r.getD m U.zero = lastU r := fun m hm => by
      unfold lastU
      rw [show r.length - 1 = m by omega]
    rcases addRun_cases r (l.getD (k + 1) V.zero) with ⟨m, hm, hv, e⟩ | ⟨hne, e⟩
    · rw [hl m hm, h2] at hv
      rw [if_neg (fun h => by rw [hv, eqB_true.2 rfl] at h; cases h.2), e]
      have hlen : (r.take m ++ [(⟨l.getD (k + 1) V.zero, (r.getD m U.zero).k + 1⟩ : U)]).length = m + 1 := by
        simp
        omega
      refine ⟨by rw [hlen]; omega, ?_⟩
      unfold lastU
      rw [hlen]
      have : (r.take m).length = m := by simp; omega
      simp [List.getD, this]
    · have hd : l.getD (k + 1) V.zero ≠ l.getD k V.zero := by
        rcases hne with h0 | ⟨m, hm, hx⟩
        · omega
        · rw [hl m hm, h2] at hx
          exact fun e => hx e.symm
      rw [if_pos ⟨by omega, eqB_false.2 hd⟩, e]
      refine ⟨by simp; omega, ?_⟩
      unfold lastU
      simp [List.getD]
theorem runs_turns {l : List V} (h : 0 < l.length) : (runsL l).length = turnsL l + 1 := by
  obtain ⟨k, hk⟩ : ∃ k, l.length = k + 1 := ⟨l.length - 1, by omega⟩
  have := (turns_runs l k (by omega)).1
  rw [List.take_of_length_le (by omega)] at this
  unfold turnsL
  rw [hk]
  exact this

/-! Decoding gives back what was encoded. -/
/-- The bytes of runs. -/
def bodyU (r : List U) : List Int := r.flatMap fun u => Num.grp 4 (Num.zig u.k) ++ valB u.v
theorem bodyU_cons (u : U) (r : List U) : bodyU (u :: r) = Num.grp 4 (Num.zig u.k) ++ (valB u.v ++ bodyU r) := by simp [bodyU]
theorem encU_body : ∀ (r : List U) (b : List Int), (∀ u ∈ r, Num.ok u.k ∧ okV u.v = true) → encU b r = b ++ bodyU r
  | [], b, _ => by simp [encU, bodyU]
  | u :: r, b, h => by
    have h1 := h u List.mem_cons_self
    have ih := encU_body r (putV (Num.put b u.k) u.v) (fun x hx => h x (List.mem_cons_of_mem _ hx))
    have e : encU b (u :: r) = encU (putV (Num.put b u.k) u.v) r := rfl
    rw [e, ih, putV_val h1.2, Num.put_ok h1.1, bodyU_cons]
    simp
theorem decU_body {ty : Int} : ∀ (r : List U) (b rest : List Int), (∀ u ∈ r, Num.ok u.k ∧ okV u.v = true ∧ u.v.ty = ty) → decU (b ++ (bodyU r ++ rest)) ty r.length b.length = some r
  | [], b, rest, _ => rfl
  | u :: r, b, rest, h => by
    have h1 := h u List.mem_cons_self
    have e1 : b ++ (bodyU (u :: r) ++ rest) = b ++ (Num.grp 4 (Num.zig u.k) ++ (valB u.v ++ (bodyU r ++ rest))) := by
      rw [bodyU_cons]
      simp
    have e2 : b ++ (bodyU (u :: r) ++ rest) = (b ++ Num.grp 4 (Num.zig u.k)) ++ (valB u.v ++ (bodyU r ++ rest)) := by
      rw [e1]
      simp
    have e3 : b ++ (bodyU (u :: r) ++ rest) = ((b ++ Num.grp 4 (Num.zig u.k)) ++ valB u.v) ++ (bodyU r ++ rest) := by
      rw [e2]
      simp
    have g1 : Num.get (b ++ (bodyU (u :: r) ++ rest)) b.length = (u.k, ((b ++ Num.grp 4 (Num.zig u.k)).length : Int), true) := by
      rw [e1]
      exact get_grp h1.1
    have g2 : getV (b ++ (bodyU (u :: r) ++ rest)) ((b ++ Num.grp 4 (Num.zig u.k)).length : Int) ty = (u.v, (((b ++ Num.grp 4 (Num.zig u.k)) ++ valB u.v).length : Int), true) := by
      rw [e2, ← h1.2.2]
      exact getV_val h1.2.1 _ _
    have ih := decU_body r ((b ++ Num.grp 4 (Num.zig u.k)) ++ valB u.v) rest (fun x hx => h x (List.mem_cons_of_mem _ hx))
    rw [← e3] at ih
    rw [List.length_cons, decU, g1]
    simp only
    rw [g2]
    simp only [and_self, if_true]
    rw [ih]
    rfl
theorem dec_enc {l : List V} (h : ¬ typeV l = 0) : decR (encR l) (typeV l) l.length = (l, true) := by
  obtain ⟨h1, h64, hall⟩ := typeV_parts h
  have hk : Num.inB (l.length : Int) 1 64 = true := Num.inB_true.2 ⟨by omega, by omega⟩
  have hru : ∀ u ∈ runsL l, Num.ok u.k ∧ okV u.v = true ∧ u.v.ty = typeV l := fun u hu => by
    have k1 := runsL_k l u hu
    have k2 := runsL_all (p := fun v => okV v = true ∧ v.ty = typeV l) hall u hu
    exact ⟨by unfold Num.ok; omega, k2⟩
  have hrl := runsL_len l
  have hpos : 0 < (runsL l).length := by
    rw [runs_turns (by omega)]
    omega
  have hok : Num.ok ((runsL l).length : Int) := by unfold Num.ok; omega
  have he : encR l = [] ++ (Num.grp 4 (Num.zig ((runsL l).length : Int)) ++ bodyU (runsL l)) := by
    unfold encR
    rw [if_neg h, encU_body _ _ (fun u hu => ⟨(hru u hu).1, (hru u hu).2.1⟩), Num.put_ok hok]
    simp
  have hg : Num.get (encR l) 0 = (((runsL l).length : Int), (([] ++ Num.grp 4 (Num.zig ((runsL l).length : Int))).length : Int), true) := by
    rw [he]
    exact get_grp (b := []) hok
  have hd : decU (encR l) (typeV l) (runsL l).length (([] ++ Num.grp 4 (Num.zig ((runsL l).length : Int))).length : Int) = some (runsL l) := by
    have := decU_body (ty := typeV l) (runsL l) ([] ++ Num.grp 4 (Num.zig ((runsL l).length : Int))) [] hru
    rw [List.append_nil, List.append_assoc, ← he] at this
    exact this
  rw [decR_get hk]
  have hgu : getU (encR l) (typeV l) = some (runsL l) := by
    unfold getU
    rw [hg]
    simp only
    rw [if_pos ⟨trivial, by omega, by omega⟩, Int.toNat_natCast, hd]
  rw [hgu]
  simp only
  rw [spread_runs h64, if_pos ⟨rfl, rfl⟩]
theorem decU_ok {zs : List Int} (hb : Num.Bytes zs) {ty : Int} : ∀ {n : Nat} {i : Int} {r : List U}, decU zs ty n i = some r → ∀ u ∈ r, okV u.v = true ∧ u.v.ty = ty
  | 0, i, r, h => by
    simp only [decU, Option.some.injEq] at h
    subst h
    exact fun _ h => by cases h
  | n + 1, i, r, h => by
    rw [decU] at h
    split at h
    · rename_i hc
      cases hd : decU zs ty n (getV zs (Num.get zs i).2.1 ty).2.1 with
      | none => rw [hd] at h; cases h
      | some r' =>
        rw [hd] at h
        simp only [Option.map_some, Option.some.injEq] at h
        subst h
        intro u hu
        rcases List.mem_cons.1 hu with rfl | hu
        · exact getV_ok hb hc.2
        · exact decU_ok hb hd u hu
    · cases h
theorem dec_ok {zs : List Int} (hb : Num.Bytes zs) {ty k : Int} (h : (decR zs ty k).2 = true) : encR (decR zs ty k).1 = zs ∧ ((decR zs ty k).1.length : Int) = k ∧ typeV (decR zs ty k).1 = ty := by
  cases hk : Num.inB k 1 64 with
  | false => rw [decR_none hk] at h; cases h
  | true =>
    have hkk := Num.inB_true.1 hk
    rw [decR_get hk] at h ⊢
    cases hg : getU zs ty with
    | none => rw [hg] at h; cases h
    | some r =>
      rw [hg] at h
      simp only at h ⊢
      split
      · rename_i hc
        refine ⟨hc.2, hc.1, typeV_of (l := spreadL r) (by omega) (by omega) ?_⟩
        have hr : ∀ u ∈ r, okV u.v = true ∧ u.v.ty = ty := by
          unfold getU at hg
          split at hg
          · exact decU_ok hb hg
          · cases hg
        exact spreadL_all (p := fun v => okV v = true ∧ v.ty = ty) hr
      · rename_i hc
        rw [if_neg hc] at h
        cases h

end Go.Proofs.Ythniakklkepomaa
