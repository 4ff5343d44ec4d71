/- Plain mathematics of chapter 1's lists: what PutNums writes GetNums reads, and back. -/
import Derived.Test.YthbnnjajgfgnoaaNums
namespace Go.Proofs.Ythbnnjajgfgnoaa.Num

theorem okAll_cons {n : Int} {l : List Int} : okAll (n :: l) = true ↔ ok n ∧ okAll l = true := by
  simp only [okAll, List.all_cons, Bool.and_eq_true, okB_true]

theorem gets_puts : ∀ (l b rest : List Int), okAll l = true → gets l.length (puts b l ++ rest) b.length = some (l, ((puts b l).length : Int)) := by
  intro l
  induction l with
  | nil => intro b rest _; simp [gets, puts]
  | cons n l ih =>
    intro b rest h
    obtain ⟨hn, hl⟩ := okAll_cons.1 h
    have e := puts_cons b l n
    obtain ⟨r, hr⟩ := puts_app (b ++ grp 4 (zig n)) l
    have hg : get (puts b (n :: l) ++ rest) b.length = (n, ((put b n).length : Int), true) := by
      rw [e, hr, ← put_ok hn, List.append_assoc]
      exact get_put hn
    have hi := ih (b ++ grp 4 (zig n)) rest hl
    rw [List.length_cons]
    unfold gets
    rw [hg]
    simp only [if_true]
    rw [put_ok hn, e, hi]
    simp

theorem getL_putL {b l rest : List Int} (h : okAll l = true) (hl : l.length ≤ 64) : getL (putL b l ++ rest) b.length = (l, ((putL b l).length : Int), true) := by
  have hm : ok (l.length : Int) := ⟨by omega, by omega⟩
  rw [putL_ok h, puts_cons]
  obtain ⟨r, hr⟩ := puts_app (b ++ grp 4 (zig l.length)) l
  have hg : get (puts (b ++ grp 4 (zig l.length)) l ++ rest) b.length = ((l.length : Int), ((put b l.length).length : Int), true) := by
    rw [hr, ← put_ok hm, List.append_assoc]
    exact get_put hm
  have hi := gets_puts l (b ++ grp 4 (zig l.length)) rest h
  unfold getL
  rw [hg]
  simp only [true_and]
  rw [if_pos (by omega), Int.toNat_natCast, put_ok hm, hi]

theorem puts_gets {b : List Int} (hb : Bytes b) : ∀ (k : Nat) (nx : Int) (l : List Int) (e : Int), 0 ≤ nx → nx ≤ b.length → gets k b nx = some (l, e) →
    nx ≤ e ∧ e ≤ b.length ∧ okAll l = true ∧ l.length = k ∧ puts (b.take nx.toNat) l = b.take e.toNat := by
  intro k
  induction k with
  | zero =>
    intro nx l e h0 h1 h
    simp [gets] at h
    obtain ⟨rfl, rfl⟩ := h
    exact ⟨by omega, h1, rfl, rfl, rfl⟩
  | succ k ih =>
    intro nx l e h0 h1 h
    unfold gets at h
    split at h
    · rename_i hok
      simp only [Option.map_eq_some_iff] at h
      obtain ⟨p, hp, he⟩ := h
      simp at he
      obtain ⟨rfl, rfl⟩ := he
      have hg : get b nx = ((get b nx).1, (get b nx).2.1, true) := by rw [← hok]
      obtain ⟨a1, a2, a3, a4, a5, a6⟩ := put_get hb hg
      obtain ⟨c1, c2, c3, c4, c5⟩ := ih (get b nx).2.1 p.1 p.2 (by omega) a4 hp
      refine ⟨by omega, c2, okAll_cons.2 ⟨a5, c3⟩, by simp [c4], ?_⟩
      rw [puts_cons, ← put_ok a5, a6, c5]
    · simp at h

theorem putL_getL {b : List Int} (hb : Bytes b) {i e : Int} {l : List Int} (h : getL b i = (l, e, true)) :
    0 ≤ i ∧ i ≤ b.length ∧ 0 ≤ e ∧ e ≤ b.length ∧ putL (b.take i.toNat) l = b.take e.toNat := by
  unfold getL at h
  split at h
  · rename_i hc
    obtain ⟨hok, h0, h64⟩ := hc
    have hg : get b i = ((get b i).1, (get b i).2.1, true) := by rw [← hok]
    obtain ⟨a1, a2, a3, a4, a5, a6⟩ := put_get hb hg
    split at h
    · rename_i l' e' hs
      simp at h
      obtain ⟨rfl, rfl⟩ := h
      obtain ⟨c1, c2, c3, c4, c5⟩ := puts_gets hb _ _ _ _ (by omega) a4 hs
      refine ⟨a1, a2, by omega, c2, ?_⟩
      have el : (l'.length : Int) = (get b i).1 := by omega
      rw [putL_ok c3, puts_cons, el, ← put_ok a5, a6, c5]
    · simp at h
  · simp at h

theorem okAll_bad {l : List Int} (h : okAll l = false) : ∃ k, k < l.length ∧ okB (l.getD k 0) = false := by
  unfold okAll at h
  rw [List.all_eq_false] at h
  obtain ⟨x, hx, hb⟩ := h
  obtain ⟨k, hk, rfl⟩ := List.getElem_of_mem hx
  exact ⟨k, hk, by simpa [hk] using hb⟩

#print axioms putL_getL
#print axioms getL_putL
end Go.Proofs.Ythbnnjajgfgnoaa.Num
