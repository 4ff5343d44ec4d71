/- The model's l4All (written by mk_S12j.py). -/
import Derived.Test.YtkofafefnlommaaRowsA
import Derived.Test.YtkofafefnlommaaM7
namespace Go.Proofs.Ytkofafefnlommaa
open Go.RowKit

set_option maxRecDepth 100000 in
set_option maxHeartbeats 4000000 in
theorem sL4All (v : Value) (ps : List P) (w : World) (hn : ps.length ≤ 1048576) (hli : ∀ p ∈ ps, p.1.l.length ≤ 1048576) (h : RdRsN w v ps) :
    Calls Try.prog 50 #[v] w fun e w' => ∃ v' qs, e = .returned v' ∧ MyRs w.heap.size w'.heap.size w' v' qs ∧ qs.map (·.1) = ps.map (·.1) ∧ (∃ g cp, v' = .slice (some ⟨g, 0, none⟩) qs.length cp) ∧ Below w.heap.size w w' := by
  generalize hl : ps.length = n at hn
  obtain ⟨a, cap, rfl, _, HC⟩ := h.walk hl
  have HLI : Hid (∀ k, k < n → (ps.getD k P.zero).1.l.length ≤ 1048576) := fun k hk => by
    have hk' : k < ps.length := by omega
    have e : ps.getD k P.zero = ps[k] := by simp [hk']
    rw [e]
    exact hli _ (List.getElem_mem hk')
  have HMT : Hid (∀ j, j < n → (ps.map (·.1)).take (j + 1) = (ps.map (·.1)).take j ++ [(ps.getD j P.zero).1]) := fun j hj => by
    have hk' : j < ps.length := by omega
    rw [List.take_succ_eq_append_getElem (by rw [List.length_map]; omega), getDe ps P.zero hk', List.getElem_map]
  have HALL : Hid ((ps.map (·.1)).take n = ps.map (·.1)) := by
    show _ = _
    rw [← hl, List.take_of_length_le (by rw [List.length_map]; exact Nat.le_refl _)]
  have B1 := below_alloc w (.cells #[] 27)
  have O1 := own_lit (e := 27) (size := 2) w #[] 0 (Nat.zero_le _) rfl
  have hz1 : (w.alloc (.cells #[] 27)).heap.size = w.heap.size + 1 := World.size_alloc _ _
  generalize hw1 : w.alloc (.cells #[] 27) = w1 at B1 O1 hz1
  have HW1 := Lib.hid hw1
  clear hw1 hl h hli
  go_enter Try.func50, Try.ntmps50
  go_wp2
  rw [HW1.out]
  go_loopw [3, 4] (fun o i wr => ∃ (j : Nat) (qs : List P), j ≤ n ∧ i = .int .i64 j ∧ (∃ g cp, o = .slice (some ⟨g, 0, none⟩) qs.length cp) ∧ MyRs w.heap.size wr.heap.size wr o qs ∧ qs.map (·.1) = (ps.map (·.1)).take j ∧ qs.length = j ∧ Below w.heap.size w wr ∧ w.heap.size ≤ wr.heap.size) (fun _ i _ => n - (intOf i).toNat)
  case atStart => exact ⟨0, [], Nat.zero_le _, rfl, ⟨_, _, rfl⟩, ⟨.inr (show Own 27 2 w.heap.size w1.heap.size w1 _ 0 [] by simpa using O1), fun p hp => (by cases hp), List.Pairwise.nil⟩, rfl, rfl, B1, by omega⟩
  case round =>
    obtain ⟨j, qs, hj, rfl, ⟨og, ocp, rfl⟩, hmy, hqs, hql, hbr, hsz⟩ := hrel
    have HMY := Lib.hid hmy
    have HQS := Lib.hid hqs
    have HQL := Lib.hid hql
    clear O1 hqs B1 hz1 hql
    by_cases hlt : j < n
    · obtain ⟨b, off, rfl, c0, c1, hat⟩ := HC.out j hlt wr hbr
      have HST : Hid (∀ y : Value, (qs ++ [((ps.getD j P.zero).1, y)]).map (·.1) = (ps.map (·.1)).take (j + 1)) := fun y => by
        rw [HMT.out j hlt, List.map_append, HQS.out]
        rfl
      have hll := HLI.out j hlt
      generalize hpj : ps.getD j P.zero = pj at c0 c1 hat HST hll
      clear hpj
      obtain ⟨r, x⟩ := pj
      simp only at c0 c1 hat hll
      obtain ⟨xa, xc, rfl⟩ := hat.sl
      have HAT := Lib.hid (sL4Copy r (.slice xa r.l.length xc) wr hll hat)
      clear hat
      generalize r.l.length = xn at c1 hll HAT
      obtain ⟨ri, rl⟩ := r
      simp only [R.agg] at c0 c1 HAT
      clear hmy
      go_wp2_with fail
      refine HAT.out.mono ?_
      rintro e w3 ⟨x3, rfl, o3, b3⟩
      obtain ⟨ya, yc, hy⟩ := o3.atN.sl
      generalize rl.length = yn at hy
      subst hy
      have A4 := below_alloc w3 (.cells #[.int .i64 ri, .slice ya yn yc] 27)
      have M4 := ((HMY.out.below b3 (Nat.le_refl _)).below A4 b3.size)
      have B4 := below_then (below_then hbr b3 hbr.size) A4 (below_then hbr b3 hbr.size).size
      have O4 := (o3.below A4 (Nat.le_refl _)).wide (Nat.le_refl _) A4.size
      have hs3 := b3.size
      have hs4 := A4.size
      have HZ4 : Hid ((w3.alloc (.cells #[.int .i64 ri, .slice ya yn yc] 27)).heap.size = w3.heap.size + 1) := World.size_alloc _ _
      generalize hw4 : w3.alloc (.cells #[.int .i64 ri, .slice ya yn yc] 27) = w4 at M4 B4 O4 hs4 HZ4
      have HW4 := Lib.hid hw4
      clear hw4 A4
      have HM4 := Lib.hid M4
      have HO4 := Lib.hid O4
      have ONN := M4.1
      have hlo4 : w.heap.size ≤ w4.heap.size := by omega
      clear o3 b3 M4 O4 HAT c0 c1
      go_wp2_with (at_builtin; rw [HW4.out]; refine appendR_law Try.elemRows rfl _ _ rfl w.heap.size _ _ _ _ ri ya yn yc rfl ONN hlo4 _ HZ4.out rfl (by have := HQL.out; unfold maxLen; omega) (by have := HQL.out; omega) ?_)
      intro v5 w5 o5 e5
      have HF : Hid (MyRs w.heap.size w5.heap.size w5 v5 (qs ++ [(⟨ri, rl⟩, .slice ya yn yc)]) ∧ (qs ++ [((⟨ri, rl⟩ : R), Value.slice ya yn yc)]).map (·.1) = (ps.map (·.1)).take (j + 1) ∧ (qs ++ [((⟨ri, rl⟩ : R), Value.slice ya yn yc)]).length = j + 1 ∧ Below w.heap.size w w5 ∧ w.heap.size ≤ w5.heap.size) := ⟨HM4.out.append (by omega) HO4.out (by omega) o5 e5, HST.out _, by rw [List.length_append, HQL.out]; rfl, B4.grown e5.grown B4.size (fun k hk => Nat.le_of_not_lt (fun hlt => ONN.not_low (b := k) (by omega) hk)), Nat.le_trans hlo4 e5.grown.size⟩
      obtain ⟨vb, vc, hv5⟩ : ∃ g cp, v5 = .slice (some ⟨g, 0, none⟩) (qs.length + 1) cp := by obtain ⟨g, cp, e, _⟩ := o5; exact ⟨g, cp, e⟩
      subst hv5
      clear o5 e5 B4 ONN
      go_wp2
      go_roundw
      case rel => exact ⟨j + 1, _, by omega, by go_num, ⟨_, _, by rw [List.length_append]; rfl⟩, HF.out.1, HF.out.2⟩
      case measure => simp [intOf]; omega
    · obtain rfl : j = n := by omega
      clear hmy
      go_wp2
      go_ret
      exact ⟨_, rfl, qs, HMY.out, HQS.out.trans HALL.out, ⟨_, _, rfl⟩, hbr⟩

end Go.Proofs.Ytkofafefnlommaa
