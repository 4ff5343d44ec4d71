/- The contracts of the model's EncPlain and DecPlain. -/
import Derived.Test.YthniakklkepomaaS5p
import Derived.Test.YthniakklkepomaaS5g
namespace Go.Proofs.Ythniakklkepomaa
open Go.RowKit

/-- EncPlain. -/
def encAll (l : List V) : List Int := l.foldl putV []
def encP (l : List V) : List Int := if typeV l = 0 then [] else encAll l
theorem encAll_snoc (l : List V) (v : V) : encAll (l ++ [v]) = putV (encAll l) v := by simp [encAll]
theorem encAll_len (l : List V) : (encAll l).length ≤ 7 * l.length := by
  have : ∀ (l : List V) (b : List Int), (l.foldl putV b).length ≤ b.length + 7 * l.length := by
    intro l
    induction l with
    | nil => intro b; simp
    | cons v l ih =>
      intro b
      have h1 := ih (putV b v)
      have h2 := (putV_len b v).2
      simp only [List.foldl_cons, List.length_cons]
      omega
  have := this l []
  simpa [encAll] using this
theorem typeV_len {l : List V} (h : ¬ typeV l = 0) : l.length ≤ 64 := by
  unfold typeV at h
  split at h
  · rename_i h2
    have := Num.inB_true.1 h2.1
    omega
  · exact absurd rfl h

set_option maxHeartbeats 1000000 in
theorem sEncPlain (u : Value) (l : List V) (w : World) (hss : ∀ v ∈ l, v.s.size ≤ maxLen) (h : Rd 3 w u l.length (vals l)) :
    Calls Try.prog 26 #[u] w fun e w' => ∃ v', e = .returned v' ∧ Own 5 1 w.heap.size w'.heap.size w' v' (encP l).length (ints .u8 (encP l)) ∧ Below w.heap.size w w' := by
  have hown0 := own_lit (e := 5) (size := 1) w #[] 0 (Nat.zero_le _) rfl
  have hb0 := below_alloc w (.cells #[] 5)
  have HT := Lib.hid (sTypeOf u l _ hss (h.below hb0))
  have HE : Hid (encP l = if typeV l = 0 then [] else encAll l) := rfl
  have HTL : Hid (¬ typeV l = 0 → l.length ≤ 64) := typeV_len
  generalize hl : l.length = n at h HTL
  obtain ⟨a, cap, rfl, hm, HC⟩ := h.vals hl
  unfold maxLen at hm
  have HL := Lib.hid hl
  have HSS : Hid (∀ k, k < n → (l.getD k V.zero).s.size ≤ maxLen) := fun k hk => by
    have hk' : k < l.length := by omega
    have e : l.getD k V.zero = l[k] := by simp [hk']
    rw [e]
    exact hss _ (List.getElem_mem hk')
  have HS : Hid (∀ k, k < n → encAll (l.take (k + 1)) = putV (encAll (l.take k)) (l.getD k V.zero)) := fun k hk => by
    have hk' : k < l.length := by omega
    have e : l.getD k V.zero = l[k] := by simp [hk']
    rw [e, List.take_succ_eq_append_getElem hk', encAll_snoc]
  have HEL : Hid (∀ k, k ≤ n → (encAll (l.take k)).length ≤ 7 * k) := fun k hk => by
    have := encAll_len (l.take k)
    have e : (l.take k).length = k := by simp; omega
    rw [e] at this
    exact this
  generalize typeV l = ty at HT HE HTL
  clear h hl hss
  go_enter Try.func26, Try.ntmps26
  go_wp2_with fail
  refine HT.out.mono ?_
  rintro e w1 ⟨rfl, b1⟩
  have B1 := below_then hb0 b1 hb0.size
  have O1 := (hown0.below b1 (Nat.le_refl _)).wide b1.size
  clear b1 hb0 hown0 HT
  by_cases ht : ty = 0
  · subst ht
    rw [if_pos rfl] at HE
    go_wp2
    go_ret
    rw [HE.out]
    exact ⟨_, rfl, O1, B1⟩
  · have htb : (ty == 0) = false := by simpa using ht
    have h64 := HTL.out ht
    rw [if_neg ht] at HE
    go_wp2
    go_loopw [3, 4] (fun o i wr => ∃ k : Nat, k ≤ n ∧ i = .int .i64 k ∧ Own 5 1 w.heap.size wr.heap.size wr o (encAll (l.take k)).length (ints .u8 (encAll (l.take k))) ∧ Below w.heap.size w wr) (fun _ i _ => n - (intOf i).toNat)
    case atStart => exact ⟨0, Nat.zero_le _, rfl, O1, B1⟩
    case round =>
      obtain ⟨k, hk, rfl, hown, hbr⟩ := hrel
      by_cases hlt : k < n
      · obtain ⟨b, off, rfl, p0, p1, p2⟩ := HC.out k hlt
        have HSK := Lib.hid (HS.out k hlt)
        have hel := HEL.out k hk
        have HP := Lib.hid (sPutVal _ (encAll (l.take k)).length (encAll (l.take k)) (l.getD k V.zero) wr (by omega) (HSS.out k hlt) rfl hown.at)
        rw [← HSK.out] at HP
        replace p0 := (hbr.cell (p := ⟨b, off + k * 3, none⟩) (lt_of_cell p0)).trans p0
        replace p1 := (hbr.cell (p := ⟨b, off + k * 3 + 1, none⟩) (lt_of_cell p1)).trans p1
        replace p2 := (hbr.cell (p := ⟨b, off + k * 3 + 2, none⟩) (lt_of_cell p2)).trans p2
        generalize l.getD k V.zero = x at p0 p1 p2 HP
        obtain ⟨t1, n1, s1⟩ := x
        simp only at p0 p1 p2
        go_wp2_with fail
        refine HP.out.mono ?_
        rintro e w2 ⟨v2, rfl, o2, hb2⟩
        have B2 := below_then hbr hb2 hbr.size
        have O2 := Lib.hid (o2.lower hbr.size)
        clear o2 hb2 hbr hown HP p0 p1 p2
        go_wp2
        go_roundw
        case rel => exact ⟨k + 1, by omega, by go_num, O2.out, B2⟩
        case measure => simp [intOf]; omega
      · obtain rfl : k = n := by omega
        rw [← HL.out, List.take_length, ← HE.out] at hown
        go_wp2
        go_ret
        exact ⟨_, rfl, hown, hbr⟩

/-- DecPlain. -/
def decL (zs : List Int) (ty : Int) : Nat → Int → Option (List V × Int)
  | 0, i => some ([], i)
  | k + 1, i => if (getV zs i ty).2.2 = true then (decL zs ty k (getV zs i ty).2.1).map fun r => ((getV zs i ty).1 :: r.1, r.2) else none
def decP (zs : List Int) (ty k : Int) : List V × Bool :=
  if Num.inB k 1 64 = true then (match decL zs ty k.toNat 0 with | some r => if r.2 = zs.length then (r.1, true) else ([], false) | none => ([], false)) else ([], false)
/-- What DecPlain returns. -/
def RDs (w w' : World) (e : Ending) (r : List V × Bool) : Prop := ∃ v', e = .returned (.tuple #[v', .bool r.2]) ∧ Own 41 3 w.heap.size w'.heap.size w' v' r.1.length (vals r.1) ∧ Below w.heap.size w w'

end Go.Proofs.Ythniakklkepomaa
