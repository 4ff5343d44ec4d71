/- The contracts of impl's getRuns, DecRuns. -/
import Derived.Test.YthniakklkepomaaI6e
import Derived.Test.YthniakklkepomaaI5d
namespace Go.Proofs.Ythniakklkepomaa
open Go.RowKit Go.Lib

/-- The runs at the start of some bytes. -/
def getU (zs : List Int) (ty : Int) : Option (List U) :=
  if (Num.get zs 0).2.2 = true ∧ 0 ≤ (Num.get zs 0).1 ∧ (Num.get zs 0).1 ≤ 64 then decU zs ty (Num.get zs 0).1.toNat (Num.get zs 0).2.1 else none
def RUs (w w' : World) (e : Ending) (r : Option (List U)) : Prop :=
  (r = none → e = .returned (.tuple #[.slice none 0 0, .bool false])) ∧ (∀ l, r = some l → ∃ v', e = .returned (.tuple #[v', .bool true]) ∧ Own 57 4 w.heap.size w'.heap.size w' v' l.length (rus l)) ∧ Below w.heap.size w w'
theorem rus_none {w w' : World} (h : Below w.heap.size w w') : RUs w w' (.returned (.tuple #[.slice none 0 0, .bool false])) none := ⟨fun _ => rfl, fun _ h' => (by cases h'), h⟩
def fillU (pre : List U) (n : Nat) : List U := pre ++ List.replicate (n - pre.length) U.zero
theorem fillU_len {pre : List U} {n : Nat} (h : pre.length ≤ n) : (fillU pre n).length = n := by simp [fillU]; omega
theorem fillU_set {pre : List U} {n : Nat} (x : U) (h : pre.length < n) : (fillU pre n).set pre.length x = fillU (pre ++ [x]) n := by
  unfold fillU
  rw [List.set_append_right _ _ (Nat.le_refl _), Nat.sub_self, show n - pre.length = (n - (pre ++ [x]).length) + 1 by simp; omega, List.replicate_succ, List.set_cons_zero]
  simp
theorem fillU_full {pre : List U} {n : Nat} (h : pre.length = n) : fillU pre n = pre := by simp [fillU, h]

theorem rus_setV (l : List U) (k : Nat) (x : U) (hk : k < l.length) (hx : (l.getD k U.zero).k = x.k) : rus (l.set k x) = (((rus l).set (k * 4) (.int .i64 x.v.ty)).set (k * 4 + 1) (.int .i64 x.v.n)).set (k * 4 + 2) (.string x.v.s) := by
  rw [rus_set l k x hk]
  apply set_same
  have h1 := rus_get (j := 3) hk (by omega)
  have e : l.getD k U.zero = l[k] := by simp [hk]
  rw [e] at hx
  rw [List.getElem?_set_ne (by omega), List.getElem?_set_ne (by omega), List.getElem?_set_ne (by omega), h1]
  simp [U.cs, hx]
/-- The first three cells of Run k of an owned slice, stored anew. -/
theorem stored43 {w : World} {lo : Nat} {e : TypeId} {g n cap : Nat} {l : List U} (h : w.ownsRow lo e 4 (.slice (some ⟨g, 0, none⟩) n cap) n (rus l)) (k : Nat) (x : U) (hk : k < l.length) (hx : (l.getD k U.zero).k = x.k) :
    (((w.setCell ⟨g, k * 4, none⟩ (.int .i64 x.v.ty)).setCell ⟨g, k * 4 + 1, none⟩ (.int .i64 x.v.n)).setCell ⟨g, k * 4 + 2, none⟩ (.string x.v.s)).ownsRow lo e 4 (.slice (some ⟨g, 0, none⟩) n cap) n (rus (l.set k x)) ∧
      w.grownBy (((w.setCell ⟨g, k * 4, none⟩ (.int .i64 x.v.ty)).setCell ⟨g, k * 4 + 1, none⟩ (.int .i64 x.v.n)).setCell ⟨g, k * 4 + 2, none⟩ (.string x.v.s)) (some g) := by
  have s1 := h.stored (k * 4) (.int .i64 x.v.ty)
  have s2 := s1.1.stored (k * 4 + 1) (.int .i64 x.v.n)
  have s3 := s2.1.stored (k * 4 + 2) (.string x.v.s)
  rw [rus_setV l k x hk hx]
  exact ⟨s3.1, (s1.2.trans s2.2).trans s3.2⟩
theorem fillU_setK {pre : List U} {n : Nat} (h : pre.length < n) (m : Int) (x : U) (hx : x.k = m) : ((fillU pre n).set pre.length ⟨((fillU pre n).getD pre.length U.zero).v, m⟩).set pre.length x = fillU (pre ++ [x]) n ∧ (((fillU pre n).set pre.length ⟨((fillU pre n).getD pre.length U.zero).v, m⟩).getD pre.length U.zero).k = x.k := by
  have hl : pre.length < (fillU pre n).length := by rw [fillU_len (by omega)]; exact h
  refine ⟨by rw [List.set_set, fillU_set x h], ?_⟩
  simp [hl, hx]

theorem decU_zero (zs : List Int) (ty i : Int) : decU zs ty 0 i = some [] := rfl
theorem decR_none {zs : List Int} {ty k : Int} (hk : Num.inB k 1 64 = false) : decR zs ty k = ([], false) := by
  unfold decR
  rw [if_neg (by rw [hk]; simp)]
theorem decR_get {zs : List Int} {ty k : Int} (hk : Num.inB k 1 64 = true) : decR zs ty k = match getU zs ty with
    | some r => if ((spreadL r).length : Int) = k ∧ encR (spreadL r) = zs then (spreadL r, true) else ([], false)
    | none => ([], false) := by
  unfold decR getU
  obtain ⟨k0, k1⟩ := Num.inB_true.1 hk
  by_cases hok : (Num.get zs 0).2.2 = true
  · by_cases h0 : 0 ≤ (Num.get zs 0).1 ∧ (Num.get zs 0).1 ≤ 64
    · by_cases h1 : (Num.get zs 0).1 = 0
      · have hz : Num.inB (Num.get zs 0).1 1 64 = false := by
          rw [h1]
          rfl
        rw [if_neg (by rw [hz]; simp), if_pos ⟨hok, h0.1, h0.2⟩, h1]
        have e : (spreadL ([] : List U)).length = 0 := rfl
        simp only [Int.toNat_zero, decU_zero, e]
        rw [if_neg (by omega)]
      · rw [if_pos ⟨hok, hk, Num.inB_true.2 ⟨by omega, h0.2⟩⟩, if_pos ⟨hok, h0.1, h0.2⟩]
        cases decU zs ty (Num.get zs 0).1.toNat (Num.get zs 0).2.1 <;> rfl
    · rw [if_neg, if_neg (fun h => h0 h.2)]
      rintro ⟨_, _, h2⟩
      have := Num.inB_true.1 h2
      omega
  · rw [if_neg (fun h => hok h.1), if_neg (fun h => hok h.1)]
theorem decU_sizes {zs : List Int} {ty : Int} : ∀ {n : Nat} {i : Int} {r : List U}, decU zs ty n i = some r → r.length = n ∧ ∀ u ∈ r, u.v.s.size ≤ maxLen
  | 0, i, r, h => by
    simp only [decU, Option.some.injEq] at h
    subst h
    exact ⟨rfl, fun _ h => by cases h⟩
  | n + 1, i, r, h => by
    rw [decU] at h
    split at h
    · cases hd : decU zs ty n (getV zs (Num.get zs i).2.1 ty).2.1 with
      | none => rw [hd] at h; cases h
      | some r' =>
        rw [hd] at h
        simp only [Option.map_some, Option.some.injEq] at h
        subst h
        have ih := decU_sizes hd
        refine ⟨by simp [ih.1], fun u hu => ?_⟩
        rcases List.mem_cons.1 hu with rfl | hu
        · exact getV_size _ _ _
        · exact ih.2 u hu
    · cases h

end Go.Proofs.Ythniakklkepomaa
