/- The contract of impl's EncRuns. -/
import Derived.Test.YthniakklkepomaaI6s
import Derived.Test.YthniakklkepomaaI5b
import Derived.Test.YthniakklkepomaaIEq
namespace Go.Proofs.Ythniakklkepomaa
open Go.RowKit Go.Lib


set_option maxHeartbeats 2000000 in
theorem iEncRuns : CEncRuns := by
  intro u l w hn hss h
  have hown0 := own_lit (e := 5) (size := 1) w #[] 0 (Nat.zero_le _) rfl
  have hb0 := below_alloc w (.cells #[] 5)
  have HT := Lib.hid (iTypeOf u l _ hn hss (h.below hb0))
  have HR := Lib.hid (fun W (hW : Below w.heap.size w W) => iRuns u l W hn hss (h.below hW))
  have HE : Hid (encR l = if typeV l = 0 then [] else encU (Num.put [] (runsL l).length) (runsL l)) := rfl
  have HRL := Lib.hid (runsL_len l)
  have HRK := Lib.hid (runsL_k l)
  have HTL : Hid (¬ typeV l = 0 → l.length ≤ 64) := typeV_len
  have HROK : Hid (¬ typeV l = 0 → ∀ u ∈ runsL l, okV u.v = true) := fun h => runsL_all (p := fun v => okV v = true) (fun v hv => by
    obtain ⟨k, hk, rfl⟩ := List.getElem_of_mem hv
    have := typeV_ok h hk
    have e : l.getD k V.zero = l[k] := by simp [hk]
    rw [e] at this
    exact this)
  obtain ⟨a, cap, rfl, _, _⟩ := h
  generalize typeV l = ty at HT HE HTL HROK
  generalize runsL l = r at HR HE HRL HRK HROK
  clear hss
  generalize hln : l.length = n at *
  go_enter Try.func49, Try.ntmps49
  go_wp2_with fail
  refine HT.out.mono ?_
  rintro e w1 ⟨rfl, b1⟩
  have B1 := below_then hb0 b1 hb0.size
  have O1 := (hown0.below b1 (Nat.le_refl _)).wide b1.size
  clear b1 hb0 hown0 HT
  by_cases ht : ty = 0
  · subst ht
    rw [if_pos rfl] at HE
    go_wp2
    go_ret
    rw [HE.out]
    exact ⟨_, rfl, O1, B1⟩
  · have htb : (ty == 0) = false := by simpa using ht
    have h64 := HTL.out ht
    have hrl := HRL.out
    have HROK2 := Lib.hid (HROK.out ht)
    rw [if_neg ht] at HE
    go_wp2_with fail
    refine (HR.out _ B1).mono ?_
    rintro e w2 ⟨v2, rfl, o2, b2⟩
    have B2 := below_then B1 b2 B1.size
    have O2 := (O1.below b2 (Nat.le_refl _)).wide b2.size
    clear HR b2 O1 B1
    generalize hm : r.length = m at o2 hrl HE
    obtain ⟨g2, c2, rfl, _, _, _⟩ : ∃ g c, v2 = .slice (some ⟨g, 0, none⟩) m c ∧ True ∧ True ∧ True := by
      obtain ⟨g, c, e, _⟩ := o2
      exact ⟨g, c, e, trivial, trivial, trivial⟩
    have HM := Lib.hid hm
    have HS : Hid (∀ k, k < m → encU (Num.put [] (m : Int)) (r.take (k + 1)) = putV (Num.put (encU (Num.put [] (m : Int)) (r.take k)) (r.getD k U.zero).k) (r.getD k U.zero).v) := fun k hk => by
      have hk' : k < r.length := by omega
      have e : r.getD k U.zero = r[k] := by simp [hk']
      rw [e, List.take_succ_eq_append_getElem hk', encU_snoc]
    have HSS : Hid (∀ k, k < m → okV (r.getD k U.zero).v = true ∧ 1 ≤ (r.getD k U.zero).k ∧ (r.getD k U.zero).k ≤ 64) := fun k hk => by
      have hk' : k < r.length := by omega
      have e : r.getD k U.zero = r[k] := by simp [hk']
      rw [e]
      have h1 := HRK.out _ (List.getElem_mem hk')
      exact ⟨HROK2.out _ (List.getElem_mem hk'), by omega, by omega⟩
    have HEL : Hid (∀ k, k ≤ m → (encU (Num.put [] (m : Int)) (r.take k)).length ≤ 5 + 12 * k) := fun k hk => by
      have h1 := encU_len (Num.put [] (m : Int)) (r.take k)
      have h2 := (Num.put_len [] (m : Int)).2
      have e : (r.take k).length = k := by simp; omega
      rw [e] at h1
      simp only [List.length_nil] at h2
      omega
    have HZ : Hid (encU (Num.put [] (m : Int)) (r.take 0) = Num.puts [] [(m : Int)]) := by
      show Num.put [] (m : Int) = _
      exact putNum_puts (by unfold Num.ok; omega)
    clear hm HRK HROK HROK2
    have hl : At 1 (w2.alloc (.cells #[.int .i64 (m : Int)] 3)) (.slice (some ⟨w2.heap.size, 0, none⟩) 1 1) 1 (ints .i64 [(m : Int)]) := (own_lit w2 #[.int .i64 (m : Int)] 1 (by unfold maxLen; omega) rfl).at
    have HA := Lib.hid (appendNums _ _ _ _ 0 1 [] [(m : Int)] _ rfl rfl (by omega) (by omega) (O2.alloc (.cells #[.int .i64 (m : Int)] 3)) hl (fun _ => own_ne O2 (Nat.le_refl _)))
    have o2' := (o2.alloc (.cells #[.int .i64 (m : Int)] 3))
    have NE2 := O2.blocks_ne o2 (by decide)
    go_wp2_with fail
    refine HA.out.mono ?_
    rintro e w3 ⟨v3, rfl, o3, e3⟩
    rw [← HZ.out] at o3
    have B3 : Below w.heap.size w w3 := (B2.alloc O2.lo _).trans (e3.below (O2.alloc _))
    have R3 := (o2'.other e3.grown NE2).wide (Nat.le_trans (by simp) e3.grown.size)
    clear HA hl o2 o2' NE2 e3 B2 O2
    go_wp2
    go_loopw [3, 21] (fun o i wr => ∃ k : Nat, k ≤ m ∧ i = .int .i64 k ∧ Own 5 1 w.heap.size wr.heap.size wr o (encU (Num.put [] (m : Int)) (r.take k)).length (ints .u8 (encU (Num.put [] (m : Int)) (r.take k))) ∧ Own 57 4 w1.heap.size wr.heap.size wr (.slice (some ⟨g2, 0, none⟩) m c2) m (rus r) ∧ Below w.heap.size w wr) (fun _ i _ => m - (intOf i).toNat)
    case atStart => exact ⟨0, Nat.zero_le _, rfl, o3, R3, B3⟩
    case round =>
      obtain ⟨k, hk, rfl, hown, hrr, hbr⟩ := hrel
      by_cases hlt : k < m
      · obtain ⟨b', off', cp', e', _, _, _, hcs⟩ := hrr.at
        simp only [Value.slice.injEq, Option.some.injEq, Addr.mk.injEq, and_true, true_and] at e'
        obtain ⟨⟨rfl, rfl⟩, rfl⟩ := e'
        have hkr : k < r.length := by rw [HM.out]; exact hlt
        obtain ⟨q0, q1, q2, q3⟩ := cells4 hcs hkr
        have hgd : r.getD k U.zero = r[k] := by simp [hkr]
        rw [← hgd] at q0 q1 q2 q3
        simp only [Nat.zero_add] at q0 q1 q2 q3
        have HSK := Lib.hid (HS.out k hlt)
        have hel := HEL.out k hk
        have hss := HSS.out k hlt
        clear hgd hkr hcs
        generalize r.getD k U.zero = x at q0 q1 q2 q3 HSK hss
        have ba := below_alloc wr (.cells #[.int .i64 x.v.ty, .int .i64 x.v.n, .string x.v.s, .int .i64 x.k] 57)
        have F0 := four_new wr x 57
        have NE := hown.blocks_ne hrr (by decide)
        obtain ⟨hok, hx1, hx2⟩ := hss
        generalize encU (Num.put [] (m : Int)) (r.take k) = zs at hown hel HSK
        have hpp : Hid (Num.put zs x.k = Num.puts zs [x.k]) := putNum_puts (by unfold Num.ok; omega)
        have hpl := (Num.put_len zs x.k).2
        have HPV := Lib.hid (fun v hi W (h : Own 5 1 w.heap.size hi W v (Num.put zs x.k).length (ints .u8 (Num.put zs x.k))) => appendValG v w.heap.size hi (Num.put zs x.k).length (Num.put zs x.k) x.v W (by omega) rfl hok h)
        rw [← HSK.out] at HPV
        obtain ⟨g, cp, rfl, hg1, hg2, hrow⟩ := hown
        have hown : Own 5 1 w.heap.size wr.heap.size wr (.slice (some ⟨g, 0, none⟩) zs.length cp) zs.length (ints .u8 zs) := ⟨g, cp, rfl, hg1, hg2, hrow⟩
        have HG2 := Lib.hid hg2
        clear hg1 hg2 hrow hok
        obtain ⟨⟨t1, n1, s1⟩, q⟩ := x
        simp only at q0 q1 q2 q3 HPV ba F0 hx1 hx2 hpp hpl
        have hszb : (wr.alloc (.cells #[.int .i64 t1, .int .i64 n1, .string s1, .int .i64 q] 57)).heap.size = wr.heap.size + 1 := World.size_alloc _ _
        have O1 := hown.alloc (.cells #[.int .i64 t1, .int .i64 n1, .string s1, .int .i64 q] 57)
        have rr1 := hrr.alloc (.cells #[.int .i64 t1, .int .i64 n1, .string s1, .int .i64 q] 57)
        have bt := hbr.alloc hbr.size (.cells #[.int .i64 t1, .int .i64 n1, .string s1, .int .i64 q] 57)
        generalize hwb : wr.alloc (.cells #[.int .i64 t1, .int .i64 n1, .string s1, .int .i64 q] 57) = wb at ba F0 hszb O1 rr1 bt
        have HWB := Lib.hid hwb
        have HSB := Lib.hid hszb
        have HF0 := Lib.hid F0
        have hl : At 1 (wb.drew.alloc (.cells #[.int .i64 q] 3)) (.slice (some ⟨wb.heap.size, 0, none⟩) 1 1) 1 (ints .i64 [q]) := (own_lit wb.drew #[.int .i64 q] 1 (by unfold maxLen; omega) rfl).at
        have HA := Lib.hid (appendNums _ _ _ _ zs.length 1 zs [q] _ rfl rfl (by omega) (by omega) (O1.drew.alloc (.cells #[.int .i64 q] 3)) hl (fun _ => own_ne O1 (by omega)))
        rw [← hpp.out] at HA
        clear hwb hszb hl hown hrr hel hpl hpp
        generalize zs.length = c at *
        go_wp2_with fail
        rw [HWB.out]
        refine wp_region_held_drew (S := fun W => Four W wr.heap.size ⟨⟨t1, n1, s1⟩, q⟩) (by kernel_rfl) F0 (fun hHeld => ?_)
        refine takeH (i := 0) (d := some 25) (v := .slice (some ⟨g, 0, none⟩) c cp) rfl rfl (by kernel_rfl) (by kernel_rfl) (by kernel_rfl) (fun _ _ _ h => h) (Or.inl ⟨by rfl, fun W hSw => by obtain ⟨⟨d0, d1, d2, d3⟩, _⟩ := hSw; go_simp⟩) hHeld ?_
        simp only [put_some, List.set_cons_zero, List.set_cons_succ]
        refine takeH (i := 1) (d := some 26) (v := .pointer (some ⟨wr.heap.size, 3, none⟩)) rfl rfl (by kernel_rfl) (by kernel_rfl) (by kernel_rfl) (fun _ _ _ h => h) (Or.inl ⟨by rfl, fun W hSw => by obtain ⟨⟨d0, d1, d2, d3⟩, _⟩ := hSw; go_simp⟩) hHeld ?_
        simp only [put_some, List.set_cons_zero, List.set_cons_succ]
        refine takeH (i := 2) (d := some 27) (v := .int .i64 q) rfl rfl (by kernel_rfl) (by kernel_rfl) (by kernel_rfl) (fun _ _ _ h => h) (Or.inl ⟨by rfl, fun W hSw => by obtain ⟨⟨d0, d1, d2, d3⟩, _⟩ := hSw; go_simp⟩) hHeld ?_
        simp only [put_some, List.set_cons_zero, List.set_cons_succ]
        refine takeH (i := 5) (d := some 30) (v := .pointer (some ⟨wr.heap.size, 0, none⟩)) rfl rfl (by kernel_rfl) (by kernel_rfl) (by kernel_rfl) (fun _ _ _ h => h) (Or.inl ⟨by rfl, fun W hSw => by obtain ⟨⟨d0, d1, d2, d3⟩, _⟩ := hSw; go_simp⟩) hHeld ?_
        simp only [put_some, List.set_cons_zero, List.set_cons_succ]
        refine takeH (i := 6) (d := some 31) (v := .agg #[.int .i64 t1, .int .i64 n1, .string s1]) rfl rfl (by kernel_rfl) (by kernel_rfl) (by kernel_rfl) (fun _ _ _ h => h) (Or.inl ⟨by rfl, fun W hSw => by obtain ⟨⟨d0, d1, d2, d3⟩, _⟩ := hSw; go_simp⟩) hHeld ?_
        simp only [put_some, List.set_cons_zero, List.set_cons_succ]
        refine wpAnyH_ready (rs := [3]) (by kernel_rfl) (by simp) ?_
        refine AllReadyH.cons rfl (fun K hK => ?_) AllReadyH.nil
        go_simp
        refine hK.out _ _ (hHeld.below (below_alloc wb.drew _)) (fun hHeld => ?_)
        clear hK K
        refine wpAnyH_ready (rs := [4]) (by kernel_rfl) (by simp) ?_
        refine AllReadyH.cons rfl (fun K hK => ?_) AllReadyH.nil
        go_simp
        refine HA.out.mono ?_
        rintro e w4 ⟨v4, rfl, o4, e4⟩
        have hb4 : Below w.heap.size w w4 := ((bt.trans (below_drewN wb w.heap.size 1)).alloc O1.drew.lo _).trans (e4.below (O1.drew.alloc _))
        have E4 : Ext wb.drew w4 (.slice (some ⟨g, 0, none⟩) c cp) v4 := (Ext.alloc _ _).trans e4
        have hne4 : some wr.heap.size ≠ v4.ownBlock := fun hb => by
          rcases E4.blk with h1 | ⟨g', h1, h2⟩
          · rw [← hb] at h1
            have h3 : wr.heap.size = g := by simpa [Value.ownBlock] using h1
            have := HG2.out
            omega
          · rw [← hb] at h1
            obtain rfl : wr.heap.size = g' := by simpa using h1
            have h3 : wb.drew.heap.size = wb.heap.size := rfl
            have := HSB.out
            omega
        have f4 : Four w4 wr.heap.size ⟨⟨t1, n1, s1⟩, q⟩ := Four.ext (W := wb.drew) HF0.out E4 (by
          intro e
          have h3 : wr.heap.size = g := by simpa [Value.ownBlock] using e
          have := HG2.out
          omega)
        have rr4 := (rr1.drew.other E4.grown NE).wide (show wr.heap.size ≤ w4.heap.size by
          have h1 := E4.grown.size
          have h3 : wb.drew.heap.size = wb.heap.size := rfl
          have := HSB.out
          omega)
        have NE4 := o4.blocks_ne rr4 (by decide)
        refine hK.out _ _ f4 (fun hHeld => ?_)
        clear hK K e4 HA
        refine wpAnyH_ready (rs := [7]) (by kernel_rfl) (by simp) ?_
        refine AllReadyH.cons rfl (fun K hK => ?_) AllReadyH.nil
        go_simp
        refine (HPV.out v4 _ w4 o4).mono ?_
        rintro e w5 ⟨v5, rfl, o5, b5, g5⟩
        have hb5 := hb4.trans b5
        have f5 : Four w5 wr.heap.size ⟨⟨t1, n1, s1⟩, q⟩ := by
          have hb := g5.block wr.heap.size (lt_of_cell f4.1.1) hne4
          have hc : ∀ j, w5.cell? ⟨wr.heap.size, j, none⟩ = w4.cell? ⟨wr.heap.size, j, none⟩ := fun j => World.cell?_of_block hb
          have hf : ∀ j, w5.frozen? ⟨wr.heap.size, j, none⟩ = w4.frozen? ⟨wr.heap.size, j, none⟩ := fun j => World.frozen?_of_block hb
          exact ⟨⟨(hc 0).trans f4.1.1, (hc 1).trans f4.1.2.1, (hc 2).trans f4.1.2.2.1, (hc 3).trans f4.1.2.2.2⟩, (hf 0).trans f4.2.1, (hf 1).trans f4.2.2.1, (hf 2).trans f4.2.2.2.1, (hf 3).trans f4.2.2.2.2⟩
        have rr5 := Lib.hid ((rr4.other g5 NE4).wide g5.size)
        have O5 := Lib.hid o5
        obtain ⟨gg5, cp5, hv5⟩ : ∃ g c, v5 = .slice (some ⟨g, 0, none⟩) (encU (Num.put [] (m : Int)) (r.take (k + 1))).length c := by
          obtain ⟨g, c, e, _⟩ := o5
          exact ⟨g, c, e⟩
        refine hK.out _ _ f5 (fun hHeld => ?_)
        clear hK K rr4 o4 o5 NE4 b5 g5 hb4 E4 hne4 f4 f5 HPV rr1 NE
        subst hv5
        generalize hc5 : (encU (Num.put [] (m : Int)) (r.take (k + 1))).length = c5 at O5 ⊢
        have HC5 := Lib.hid hc5
        clear hc5
        refine takeH (i := 8) (d := some 3) (v := .slice (some ⟨gg5, 0, none⟩) c5 cp5) rfl rfl (by kernel_rfl) (by kernel_rfl) (by kernel_rfl) (fun _ _ _ h => h) (Or.inl ⟨by rfl, fun W hSw => by obtain ⟨⟨d0, d1, d2, d3⟩, _⟩ := hSw; go_simp⟩) hHeld ?_
        simp only [put_some, List.set_cons_zero, List.set_cons_succ]
        refine wpAnyH_done (by kernel_rfl) ?_ _
        go_wp2
        go_roundw
        case rel => exact ⟨k + 1, by omega, by go_num, by rw [HC5.out]; exact O5.out, rr5.out, hb5⟩
        case measure => simp [intOf]; omega
      · obtain rfl : k = m := by omega
        rw [← HM.out, List.take_length, HM.out, ← HE.out] at hown
        go_wp2
        go_ret
        exact ⟨_, rfl, hown, hbr⟩

end Go.Proofs.Ythniakklkepomaa
