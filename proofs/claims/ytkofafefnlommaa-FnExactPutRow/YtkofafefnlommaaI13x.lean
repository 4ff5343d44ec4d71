/- The program's copyRows, slices.IndexFunc with PutRow's closure (written by mk_I13p.py). -/
import Derived.Test.YtkofafefnlommaaM13
import Derived.Test.YtkofafefnlommaaRowsA
namespace Go.Proofs.Ytkofafefnlommaa
open Go.RowKit

set_option maxRecDepth 100000 in
set_option maxHeartbeats 4000000 in
theorem iCopyRows (v : Value) (ps : List P) (w : World) (hn : ps.length ≤ 1048576) (hli : ∀ p ∈ ps, p.1.l.length ≤ 1048576) (h : RdRsN w v ps) :
    Calls Try.prog 43 #[v] w fun e w' => ∃ v' qs, e = .returned v' ∧ MyRs w.heap.size w'.heap.size w' v' qs ∧ qs.map (·.1) = ps.map (·.1) ∧ (∃ g cp, v' = .slice (some ⟨g, 0, none⟩) qs.length cp) ∧ Below w.heap.size w w' := by
  generalize hl : ps.length = n at hn
  obtain ⟨a, cap, rfl, _, HC⟩ := h.walk hl
  have HLI : Hid (∀ k, k < n → (ps.getD k P.zero).1.l.length ≤ 1048576) := fun k hk => by
    have hk' : k < ps.length := by omega
    have e : ps.getD k P.zero = ps[k] := by simp [hk']
    rw [e]
    exact hli _ (List.getElem_mem hk')
  have HMT : Hid (∀ j, j < n → (ps.map (·.1)).take (j + 1) = (ps.map (·.1)).take j ++ [(ps.getD j P.zero).1]) := fun j hj => by
    have hk' : j < (ps.map (·.1)).length := by rw [List.length_map]; omega
    rw [List.take_succ_eq_append_getElem hk', ← getD_fstR]
    simp [hl, hj]
  have HALL : Hid ((ps.map (·.1)).take n = ps.map (·.1)) := by
    show _ = _
    rw [← hl, List.take_of_length_le (by rw [List.length_map]; exact Nat.le_refl _)]
  have B1 := below_alloc w (.cells #[] 27)
  have O1 := own_lit (e := 27) (size := 2) w #[] 0 (Nat.zero_le _) rfl
  have hz1 : (w.alloc (.cells #[] 27)).heap.size = w.heap.size + 1 := World.size_alloc _ _
  generalize hw1 : w.alloc (.cells #[] 27) = w1 at B1 O1 hz1
  have HW1 := Lib.hid hw1
  clear hw1 hl h hli
  go_enter Try.func43, Try.ntmps43
  go_wp2
  rw [HW1.out]
  go_loopw [3, 9] (fun o i wr => ∃ (j : Nat) (qs : List P), j ≤ n ∧ i = .int .i64 j ∧ (∃ g cp, o = .slice (some ⟨g, 0, none⟩) qs.length cp) ∧ MyRs w.heap.size wr.heap.size wr o qs ∧ qs.map (·.1) = (ps.map (·.1)).take j ∧ qs.length = j ∧ Below w.heap.size w wr) (fun _ i _ => n - (intOf i).toNat)
  case atStart => exact ⟨0, [], Nat.zero_le _, rfl, ⟨_, _, rfl⟩, ⟨.inr (show Own 27 2 w.heap.size w1.heap.size w1 _ 0 [] by simpa using O1), fun p hp => (by cases hp), List.Pairwise.nil⟩, rfl, rfl, B1⟩
  case round =>
    obtain ⟨j, qs, hj, rfl, ⟨og, ocp, rfl⟩, hmy, hqs, hql, hbr⟩ := hrel
    have HMY := Lib.hid hmy
    have HQS := Lib.hid hqs
    have HQL := Lib.hid hql
    have hsz := hbr.size
    have hqn : qs.length ≤ 1048576 := by omega
    clear O1 hqs B1 hz1 hql
    by_cases hlt : j < n
    · obtain ⟨b, off, rfl, c0, c1, hat⟩ := HC.out j hlt wr hbr
      have HST : Hid (∀ y : Value, (qs ++ [((ps.getD j P.zero).1, y)]).map (·.1) = (ps.map (·.1)).take (j + 1)) := fun y => by
        rw [HMT.out j hlt, List.map_append, HQS.out]
        rfl
      have hll := HLI.out j hlt
      generalize hpj : ps.getD j P.zero = pj at c0 c1 hat HST hll
      clear hpj
      obtain ⟨r, x⟩ := pj
      simp only at c0 c1 hat HST hll
      obtain ⟨xa, xc, rfl⟩ := hat.sl
      have HAT := Lib.hid (fun W (hW : Below wr.heap.size wr W) => iCopyRow r (.slice xa r.l.length xc) W hll (hat.below hW))
      clear hat
      generalize hxl : r.l.length = xn at c1 hll HAT
      obtain ⟨ri, rl⟩ := r
      simp only at c0 c1 HST HAT hll
      have HXL := Lib.hid hxl
      clear hmy hxl
      have BW := below_alloc wr (.cells #[.int .i64 ri, .slice xa xn xc] 27)
      have T2 := two_new wr (.int .i64 ri) (.slice xa xn xc) 27
      generalize hwa : wr.alloc (.cells #[.int .i64 ri, .slice xa xn xc] 27) = wa at BW T2
      have HWA := Lib.hid hwa
      obtain ⟨⟨t0, t1⟩, t2, t3⟩ := T2
      clear hwa
      have M2 := (HMY.out.below BW (Nat.le_refl _)).wide (Nat.le_refl _) BW.size
      have B2 := below_then hbr BW hbr.size
      have HA2 := Lib.hid (HAT.out _ BW)
      go_wp2_with fail
      rw [HWA.out]
      refine HA2.out.mono ?_
      rintro e w3 ⟨x3, rfl, o3, b3⟩
      clear c0 c1 t0 t1 t2 t3
      obtain ⟨ya, yc, hy⟩ := o3.atN.sl
      generalize rl.length = yn at hy
      subst hy
      have M4 := (M2.below b3 (Nat.le_refl _))
      have B4 := below_then B2 b3 B2.size
      have hs3 := b3.size
      have hs2 := B2.size
      have HM4 := Lib.hid M4
      have HO4 := Lib.hid o3
      have ONN := M4.1
      have hlo4 : w.heap.size ≤ w3.heap.size := B4.size
      clear o3 b3 M4 M2 B2 HA2 HAT
      go_wp2_with (at_builtin; refine appendR_law Try.elemRows rfl _ _ rfl w.heap.size _ _ _ _ ri ya yn yc rfl ONN hlo4 _ rfl rfl (by unfold maxLen; omega) (by omega) ?_)
      intro v5 w5 o5 e5
      have HF : Hid (MyRs w.heap.size w5.heap.size w5 v5 (qs ++ [(⟨ri, rl⟩, .slice ya yn yc)]) ∧ (qs ++ [((⟨ri, rl⟩ : R), Value.slice ya yn yc)]).map (·.1) = (ps.map (·.1)).take (j + 1) ∧ (qs ++ [((⟨ri, rl⟩ : R), Value.slice ya yn yc)]).length = j + 1 ∧ Below w.heap.size w w5) := ⟨HM4.out.append (by omega) HO4.out (by omega) o5 e5, HST.out _, by rw [List.length_append, HQL.out]; rfl, B4.grown e5.grown B4.size (fun k hk => Nat.le_of_not_lt (fun hlt => ONN.not_low (b := k) (by omega) hk))⟩
      obtain ⟨vb, vc, hv5⟩ : ∃ g cp, v5 = .slice (some ⟨g, 0, none⟩) (qs.length + 1) cp := by obtain ⟨g, cp, e, _⟩ := o5; exact ⟨g, cp, e⟩
      subst hv5
      clear o5 e5 B4 ONN
      go_wp2
      go_roundw
      case rel => exact ⟨j + 1, _, by omega, by go_num, ⟨_, _, by rw [List.length_append]; rfl⟩, HF.out⟩
      case measure => simp [intOf]; omega
    · obtain rfl : j = n := by omega
      clear hmy
      go_wp2
      go_ret
      exact ⟨_, rfl, qs, HMY.out, HQS.out.trans HALL.out, ⟨_, _, rfl⟩, hbr⟩

set_option maxHeartbeats 400000 in
theorem iPutRow1 (xi ri : Int) (xu : Value) (q : Nat) (w : World) (hq : w.cell? ⟨q, 0, none⟩ = some (.int .i64 ri)) :
    Calls Try.prog 45 #[.agg #[.int .i64 xi, xu], .pointer (some ⟨q, 0, none⟩)] w fun e w' => e = .returned (.bool (decide (ri ≤ xi))) ∧ Below w.heap.size w w' := by
  have B0 := below_alloc w (.cells #[.int .i64 xi, xu] 27)
  have h1 := (B0.cell (p := ⟨q, 0, none⟩) (lt_of_cell hq)).trans hq
  go_enter Try.func45, Try.ntmps45
  go_wp2
  go_ret
  exact ⟨ret_bool (by simp), B0⟩

/-- Where the first Row stands whose number is not less. -/
def putAt (l : List R) (n : Int) : Int := if putK l n = l.length then -1 else (putK l n : Int)

set_option maxRecDepth 100000 in
set_option maxHeartbeats 1000000 in
theorem iIndexRow (v : Value) (ps : List P) (ri : Int) (q : Nat) (w : World) (hn : ps.length ≤ 1048576) (h : RdRs w v ps) (hq : w.cell? ⟨q, 0, none⟩ = some (.int .i64 ri)) :
    Calls Try.prog 44 #[v, .func (.func 45) #[] #[.pointer (some ⟨q, 0, none⟩)]] w fun e w' => e = .returned (.int .i64 (putAt (ps.map (·.1)) ri)) ∧ Below w.heap.size w w' := by
  generalize hl : ps.length = n at hn
  obtain ⟨a, cap, rfl, _, HC⟩ := h.walk hl
  have HL : Hid ((ps.map (·.1)).length = n) := by show _ = _; rw [List.length_map, hl]
  have HG : Hid (∀ k, (ps.map (·.1)).getD k R.zero = (ps.getD k P.zero).1) := fun k => getD_fstR ps k
  clear hl h
  go_enter Try.func44, Try.ntmps44
  go_wp2
  go_loopw [8] (fun i wr => ∃ k : Nat, k ≤ n ∧ i = .int .i64 k ∧ (∀ j, j < k → (ps.getD j P.zero).1.id < ri) ∧ Below w.heap.size w wr) (fun i _ => n - (intOf i).toNat)
  case atStart => exact ⟨0, Nat.zero_le _, rfl, fun j hj => by omega, Below.refl _ _⟩
  case round =>
    obtain ⟨k, hk, rfl, hok, hbr⟩ := hrel
    have HOK := Lib.hid hok
    clear hok
    by_cases hlt : k < n
    · obtain ⟨b, off, rfl, c0, c1, hrd⟩ := HC.out k hlt wr hbr
      have HS : Hid ((ps.getD k P.zero).1.id < ri → ∀ j, j < k + 1 → (ps.getD j P.zero).1.id < ri) := fun h j hj => by
        by_cases e : j = k
        · subst e; exact h
        · exact HOK.out j (by omega)
      have HE : Hid (¬ (ps.getD k P.zero).1.id < ri → putAt (ps.map (·.1)) ri = (k : Int)) := fun hh => by
        have e := putK_of (l := ps.map (·.1)) (n := ri) (k := k) (by rw [HL.out]; omega) (fun j hj => by rw [HG.out]; exact HOK.out j hj) (fun _ => by rw [HG.out]; exact hh)
        unfold putAt
        rw [e, HL.out, if_neg (by omega)]
      obtain ⟨xa, xc, hx, _⟩ := hrd
      generalize ps.getD k P.zero = pk at c0 c1 hx HS HE
      obtain ⟨⟨xi, xl⟩, x⟩ := pk
      simp only at c0 c1 hx HS HE
      generalize xl.length = xn at hx
      subst hx
      have HP := Lib.hid (iPutRow1 xi ri (.slice xa xn xc) q wr ((hbr.cell (p := ⟨q, 0, none⟩) (lt_of_cell hq)).trans hq))
      by_cases hd : ri ≤ xi
      · have HE2 := Lib.hid (HE.out (by omega))
        rw [decide_eq_true hd] at HP
        clear HS HE hd
        go_wp2_with fail
        refine HP.out.mono ?_
        rintro e w2 ⟨rfl, b2⟩
        have B2 := below_then hbr b2 hbr.size
        clear b2 HP c0 c1
        go_wp2
        go_ret
        exact ⟨ret_int HE2.out.symm, B2⟩
      · have HS2 := Lib.hid (HS.out (by omega))
        rw [decide_eq_false hd] at HP
        clear HS HE hd
        go_wp2_with fail
        refine HP.out.mono ?_
        rintro e w2 ⟨rfl, b2⟩
        have B2 := below_then hbr b2 hbr.size
        clear b2 HP c0 c1
        go_wp2
        go_roundw
        case rel => exact ⟨k + 1, by omega, by go_num, HS2.out, B2⟩
        case measure => simp [intOf]; omega
    · obtain rfl : k = n := by omega
      have HE : Hid (putAt (ps.map (·.1)) ri = -1) := by
        show _ = _
        have e := putK_of (l := ps.map (·.1)) (n := ri) (k := k) (by rw [HL.out]; omega) (fun j hj => by rw [HG.out]; exact HOK.out j hj) (fun hh => by rw [HL.out] at hh; omega)
        unfold putAt
        rw [e, HL.out, if_pos rfl]
      go_wp2
      go_ret
      exact ⟨ret_int HE.out.symm, hbr⟩

end Go.Proofs.Ytkofafefnlommaa
