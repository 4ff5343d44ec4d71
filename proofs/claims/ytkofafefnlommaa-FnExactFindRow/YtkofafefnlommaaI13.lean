/- The program's slices.Index, slices.Contains, DropRows (written by mk_S13.py). -/
import Derived.Test.YtkofafefnlommaaC13
namespace Go.Proofs.Ytkofafefnlommaa
open Go.RowKit

set_option maxHeartbeats 400000 in
theorem iIndexInt (u : Value) (zs : List Int) (x : Int) (w : World) (h : Rd 1 w u zs.length (ints .i64 zs)) :
    Calls Try.prog 69 #[u, .int .i64 x] w fun e w' => ∃ z : Int, e = .returned (.int .i64 z) ∧ decide (0 ≤ z) = hasI zs x ∧ w = w' := by
  generalize hl : zs.length = n at h
  obtain ⟨a, cap, rfl, hm, HC⟩ := h.ints hl
  unfold maxLen at hm
  have HL := Lib.hid hl
  clear h hl
  go_enter Try.func69, Try.ntmps69
  go_wp2
  go_loop [8] (fun i => ∃ k : Nat, k ≤ n ∧ i = .int .i64 k ∧ ∀ j, j < k → zs.getD j 0 ≠ x) (fun i => n - (intOf i).toNat)
  case atStart => exact ⟨0, Nat.zero_le _, rfl, fun j hj => by omega⟩
  case round =>
    obtain ⟨k, hk, rfl, hok⟩ := hrel
    have HOK := Lib.hid hok
    clear hok
    by_cases hlt : k < n
    · obtain ⟨b, off, rfl, hc⟩ := HC.out k hlt
      by_cases hzx : zs.getD k 0 = x
      · have HY : Hid (hasI zs x = true) := contains_hit (by rw [HL.out]; exact hlt) hzx
        rw [hzx] at hc
        clear hzx
        have hb1 : (x == x) = true := by simp
        go_wp2
        go_ret
        exact ⟨_, rfl, by rw [HY.out]; simp, rfl⟩
      · have HS : Hid (∀ j, j < k + 1 → zs.getD j 0 ≠ x) := fun j hj => by
          by_cases e : j = k
          · subst e; exact hzx
          · exact HOK.out j (by omega)
        generalize zs.getD k 0 = z at hc hzx
        have hb1 : (z == x) = false := by simpa using hzx
        have hb2 : (x == z) = false := by simpa using fun e => hzx e.symm
        clear hzx
        go_wp2
        go_round
        case rel => exact ⟨k + 1, by omega, by go_num, HS.out⟩
        case measure => simp [intOf]; omega
    · obtain rfl : k = n := by omega
      have HA : Hid (hasI zs x = false) := contains_no (fun j hj => HOK.out j (by rw [← HL.out]; exact hj))
      go_wp2
      go_ret
      exact ⟨_, rfl, by rw [HA.out]; simp, rfl⟩

set_option maxHeartbeats 400000 in
theorem iContains (u : Value) (zs : List Int) (x : Int) (w : World) (h : Rd 1 w u zs.length (ints .i64 zs)) :
    Calls Try.prog 48 #[u, .int .i64 x] w fun e w' => e = .returned (.bool (hasI zs x)) ∧ w = w' := by
  have HI := Lib.hid (iIndexInt u zs x w h)
  obtain ⟨a, cap, rfl, _⟩ := h
  go_enter Try.func48, Try.ntmps48
  go_wp2_with fail
  refine HI.out.mono ?_
  rintro e w1 ⟨z, rfl, hz, rfl⟩
  have HZ := Lib.hid hz
  clear hz HI
  by_cases h0 : 0 ≤ z
  · have hd : decide (0 ≤ z) = true := decide_eq_true h0
    go_wp2
    go_ret
    exact ⟨ret_bool (by rw [← HZ.out]; simp [h0]), rfl⟩
  · have hd : decide (0 ≤ z) = false := decide_eq_false h0
    go_wp2
    go_ret
    exact ⟨ret_bool (by rw [← HZ.out]; simp [h0]), rfl⟩

set_option maxRecDepth 100000 in
set_option maxHeartbeats 4000000 in
theorem iDropRows : CDropRows 13 := by
  intro v u zs ps ls w hz hu hn hli h hls
  subst hls
  generalize hl : ps.length = n at hn
  obtain ⟨a, cap, rfl, _, HC⟩ := h.walk hl
  have HHS := Lib.hid (fun (x : Int) W (hW : Below w.heap.size w W) => iContains u zs x W (hu.below hW))
  obtain ⟨ua, uc, rfl, _⟩ := hu
  generalize zs.length = un at HHS hz ⊢
  have HLI : Hid (∀ k, k < n → (ps.getD k P.zero).1.l.length ≤ 1048576) := fun k hk => by
    have hk' : k < ps.length := by omega
    have e : ps.getD k P.zero = ps[k] := by simp [hk']
    rw [e]
    exact hli _ (List.getElem_mem hk')
  have HMT : Hid (∀ j, j < n → dropL ((ps.map (·.1)).take (j + 1)) zs = if hasI zs (ps.getD j P.zero).1.id = true then dropL ((ps.map (·.1)).take j) zs else dropL ((ps.map (·.1)).take j) zs ++ [(ps.getD j P.zero).1]) := fun j hj => by
    refine dropL_take (by rw [List.length_map]; omega) ?_
    exact (getD_fst ps j).symm
  have HALL : Hid (dropL ((ps.map (·.1)).take n) zs = dropL (ps.map (·.1)) zs) := by
    show _ = _
    rw [← hl, List.take_of_length_le (by rw [List.length_map]; exact Nat.le_refl _)]
  have HMN : Hid (∀ j, (dropL ((ps.map (·.1)).take j) zs).length ≤ j) := fun j => Nat.le_trans (dropL_len _ _) (by rw [List.length_take]; omega)
  have B1 := below_alloc w (.cells #[] 27)
  have O1 := own_lit (e := 27) (size := 2) w #[] 0 (Nat.zero_le _) rfl
  have hz1 : (w.alloc (.cells #[] 27)).heap.size = w.heap.size + 1 := World.size_alloc _ _
  generalize hw1 : w.alloc (.cells #[] 27) = w1 at B1 O1 hz1
  have HW1 := Lib.hid hw1
  clear hw1 hl h hli
  go_enter Try.func13, Try.ntmps13
  go_wp2
  rw [HW1.out]
  go_loopw [5, 11] (fun o i wr => ∃ (j : Nat) (qs : List P), j ≤ n ∧ i = .int .i64 j ∧ (∃ g cp, o = .slice (some ⟨g, 0, none⟩) qs.length cp) ∧ MyRs w.heap.size wr.heap.size wr o qs ∧ qs.map (·.1) = dropL ((ps.map (·.1)).take j) zs ∧ Below w.heap.size w wr) (fun _ i _ => n - (intOf i).toNat)
  case atStart => exact ⟨0, [], Nat.zero_le _, rfl, ⟨_, _, rfl⟩, ⟨.inr (show Own 27 2 w.heap.size w1.heap.size w1 _ 0 [] by simpa using O1), fun p hp => (by cases hp), List.Pairwise.nil⟩, rfl, B1⟩
  case round =>
    obtain ⟨j, qs, hj, rfl, ⟨og, ocp, rfl⟩, hmy, hqs, hbr⟩ := hrel
    have HMY := Lib.hid hmy
    have HQS := Lib.hid hqs
    have hsz := hbr.size
    have hql : qs.length ≤ j := by
      have e := congrArg List.length hqs
      rw [List.length_map] at e
      rw [e]
      exact HMN.out j
    clear O1 hqs B1 hz1
    by_cases hlt : j < n
    · obtain ⟨b, off, rfl, c0, c1, hat⟩ := HC.out j hlt wr hbr
      have HST := Lib.hid (HMT.out j hlt)
      have hll := HLI.out j hlt
      have HSJ := Lib.hid (fun W (hW : Below wr.heap.size wr W) => HHS.out (ps.getD j P.zero).1.id W (below_then hbr hW hbr.size))
      generalize hpj : ps.getD j P.zero = pj at c0 c1 hat HST hll HSJ
      clear hpj
      obtain ⟨r, x⟩ := pj
      simp only at c0 c1 hat HST hll HSJ
      obtain ⟨xa, xc, rfl⟩ := hat.sl
      have HAT := Lib.hid (fun W (hW : Below wr.heap.size wr W) => iCopyRow r (.slice xa r.l.length xc) W hll (hat.below hW))
      clear hat
      generalize hhb : hasI zs r.id = hb at HSJ
      have HHB := Lib.hid hhb
      clear hhb
      generalize hxl : r.l.length = xn at c1 hll HSJ HAT
      obtain ⟨ri, rl⟩ := r
      simp only at c0 c1 HST HHB HAT HSJ hll
      have HXL := Lib.hid hxl
      clear hmy hxl
      have BW := below_alloc wr (.cells #[.int .i64 ri, .slice xa xn xc] 27)
      have T2 := two_new wr (.int .i64 ri) (.slice xa xn xc) 27
      generalize hwa : wr.alloc (.cells #[.int .i64 ri, .slice xa xn xc] 27) = wa at BW T2
      have HWA := Lib.hid hwa
      obtain ⟨⟨t0, t1⟩, t2, t3⟩ := T2
      clear hwa
      cases hb with
      | true =>
        have HF : Hid (MyRs w.heap.size wa.heap.size wa _ qs ∧ qs.map (·.1) = dropL ((ps.map (·.1)).take (j + 1)) zs ∧ Below w.heap.size w wa) := ⟨(HMY.out.below BW (Nat.le_refl _)).wide (Nat.le_refl _) BW.size, by rw [HST.out, if_pos HHB.out]; exact HQS.out, below_then hbr BW hbr.size⟩
        go_wp2_with fail
        rw [HWA.out]
        refine (HSJ.out _ BW).mono ?_
        rintro e w' ⟨rfl, rfl⟩
        go_wp2
        go_roundw
        case rel => exact ⟨j + 1, qs, by omega, by go_num, ⟨_, _, rfl⟩, HF.out⟩
        case measure => simp [intOf]; omega
      | false =>
        have M2 := (HMY.out.below BW (Nat.le_refl _)).wide (Nat.le_refl _) BW.size
        have B2 := below_then hbr BW hbr.size
        have HA2 := Lib.hid (HAT.out _ BW)
        go_wp2_with fail
        rw [HWA.out]
        refine (HSJ.out _ BW).mono ?_
        rintro e w' ⟨rfl, rfl⟩
        clear HSJ
        go_wp2_with fail
        refine HA2.out.mono ?_
        rintro e w3 ⟨x3, rfl, o3, b3⟩
        clear c0 c1 t0 t1 t2 t3
        obtain ⟨ya, yc, hy⟩ := o3.atN.sl
        generalize rl.length = yn at hy
        subst hy
        have M3 := (M2.below b3 (Nat.le_refl _))
        have B3 := below_then B2 b3 B2.size
        have hs3 := b3.size
        have hs2 := B2.size
        have M4 := M3
        have B4 := B3
        have O4 := o3
        have hs4 := hs3
        have HM4 := Lib.hid M4
        have HO4 := Lib.hid O4
        have ONN := M4.1
        have hlo4 : w.heap.size ≤ w3.heap.size := B4.size
        clear o3 b3 M4 O4 M2 M3 B2 HA2 HAT
        go_wp2_with (at_builtin; refine appendR_law Try.elemRows rfl _ _ rfl w.heap.size _ _ _ _ ri ya yn yc rfl ONN hlo4 _ rfl rfl (by unfold maxLen; omega) (by omega) ?_)
        intro v5 w5 o5 e5
        have HF : Hid (MyRs w.heap.size w5.heap.size w5 v5 (qs ++ [(⟨ri, rl⟩, .slice ya yn yc)]) ∧ (qs ++ [((⟨ri, rl⟩ : R), Value.slice ya yn yc)]).map (·.1) = dropL ((ps.map (·.1)).take (j + 1)) zs ∧ Below w.heap.size w w5) := ⟨HM4.out.append (by omega) HO4.out (by omega) o5 e5, by rw [HST.out, if_neg (by rw [HHB.out]; simp), List.map_append, HQS.out]; rfl, B4.grown e5.grown B4.size (fun k hk => Nat.le_of_not_lt (fun hlt => ONN.not_low (b := k) (by omega) hk))⟩
        obtain ⟨vb, vc, hv5⟩ : ∃ g cp, v5 = .slice (some ⟨g, 0, none⟩) (qs.length + 1) cp := by obtain ⟨g, cp, e, _⟩ := o5; exact ⟨g, cp, e⟩
        subst hv5
        clear o5 e5 B4 ONN
        go_wp2
        go_roundw
        case rel => exact ⟨j + 1, _, by omega, by go_num, ⟨_, _, by rw [List.length_append]; rfl⟩, HF.out⟩
        case measure => simp [intOf]; omega
    · obtain rfl : j = n := by omega
      clear hmy
      go_wp2
      go_ret
      exact ⟨_, rfl, qs, HMY.out, HQS.out.trans HALL.out, hbr⟩

end Go.Proofs.Ytkofafefnlommaa
