/- The model's RowsOk, FindRow (written by mk_S13b.py). -/
import Derived.Test.YtkofafefnlommaaC13
import Derived.Test.YtkofafefnlommaaTake
namespace Go.Proofs.Ytkofafefnlommaa
open Go.RowKit

set_option maxRecDepth 100000 in
set_option maxHeartbeats 4000000 in
theorem sRowsOk : CRowsOk 22 := by
  intro u v zs ps ls w hz hu hss hn hli h hls
  subst hls
  generalize hl : ps.length = n at hn
  obtain ⟨a, cap, rfl, _, HC⟩ := h.walk hl
  have HRK := Lib.hid (fun (r : R) (x : Value) W (hW : Below w.heap.size w W) (hs : ∀ v ∈ r.l, v.s.size ≤ maxLen) (hr : r.rd W x) => sRowOk u x zs r W hs (hu.below hW) hr)
  have HCO := Lib.hid (fun W (hW : Below w.heap.size w W) => sColsOk u zs W (hu.below hW))
  obtain ⟨a1, c1, rfl, _⟩ := hu
  have HSS : Hid (∀ k, k < n → ∀ v ∈ (ps.getD k P.zero).1.l, v.s.size ≤ maxLen) := fun k hk => by
    have hk' : k < ps.length := by omega
    have e : ps.getD k P.zero = ps[k] := by simp [hk']
    rw [e]
    exact hss _ (List.getElem_mem hk')
  have HG : Hid (∀ k, (ps.map (·.1)).getD k R.zero = (ps.getD k P.zero).1) := fun k => (getD_fst ps k).symm
  have HL := Lib.hid hl
  have HZL := Lib.hid hz
  generalize hzn : zs.length = zn at HRK HCO ⊢
  clear hss hl h hli hz
  go_enter Try.func22, Try.ntmps22
  go_wp2
  go_loopw [5] (fun i wr => ∃ k : Nat, k ≤ n ∧ i = .int .i64 k ∧ (∀ j, j < k → goodB zs (ps.map (·.1)) j = true) ∧ Below w.heap.size w wr) (fun i _ => n - (intOf i).toNat)
  case atStart => exact ⟨0, Nat.zero_le _, rfl, fun j hj => by omega, Below.refl _ _⟩
  case round =>
    obtain ⟨k, hk, rfl, hok, hbr⟩ := hrel
    have HOK := Lib.hid hok
    clear hok hzn
    by_cases hlt : k < n
    · obtain ⟨b, off, rfl, c0, c1', hrd⟩ := HC.out k hlt wr hbr
      have HGD : Hid (goodB zs (ps.map (·.1)) k = (rowB zs (ps.getD k P.zero).1 && (decide ((ps.getD k P.zero).1.id ≤ 1000000000) && (decide (k = 0) || decide ((ps.getD (k - 1) P.zero).1.id < (ps.getD k P.zero).1.id))))) := by
        show goodB _ _ _ = _
        unfold goodB
        rw [HG.out k, HG.out (k - 1)]
      have HSY : Hid (goodB zs (ps.map (·.1)) k = true → ∀ j, j < k + 1 → goodB zs (ps.map (·.1)) j = true) := fun h j hj => by
        by_cases e : j = k
        · subst e; exact h
        · exact HOK.out j (by omega)
      have HNN : Hid (goodB zs (ps.map (·.1)) k = false → rowsOkL zs (ps.map (·.1)) = false) := rowsOk_no (by rw [List.length_map, HL.out]; exact hlt)
      have HRO := Lib.hid (fun W (hW : Below wr.heap.size wr W) => HRK.out (ps.getD k P.zero).1 (ps.getD k P.zero).2 W (below_then hbr hW hbr.size) (HSS.out k hlt) (hrd.below hW))
      have HPV : Hid (∀ p, k = p + 1 → wr.cell? ⟨b, off + p * 2, none⟩ = some (.int .i64 (ps.getD p P.zero).1.id)) := fun p hp => by
        obtain ⟨b', off', e, d0, _⟩ := HC.out p (by omega) wr hbr
        simp only [Option.some.injEq, Addr.mk.injEq, and_true] at e
        obtain ⟨rfl, rfl⟩ := e
        exact d0
      obtain ⟨q, hq⟩ : ∃ q, rowB zs (ps.getD k P.zero).1 = q := ⟨_, rfl⟩
      rw [hq] at HRO HGD
      clear hq
      generalize ps.getD k P.zero = pk at c0 c1' hrd HRO HGD
      obtain ⟨⟨ri, rl⟩, x⟩ := pk
      obtain ⟨xa, xc, hx, _⟩ := hrd
      simp only at hx c0 c1' HRO HGD
      generalize rl.length = xn at hx
      subst hx
      have HK : Hid (∀ W, Below wr.heap.size wr W → W.cell? ⟨b, off + k * 2, none⟩ = some (.int .i64 ri) ∧ W.cell? ⟨b, off + k * 2 + 1, none⟩ = some (.slice xa xn xc)) := fun W h => ⟨(h.cell (p := ⟨b, off + k * 2, none⟩) (lt_of_cell c0)).trans c0, (h.cell (p := ⟨b, off + k * 2 + 1, none⟩) (lt_of_cell c1')).trans c1'⟩
      have hB' := (Below.refl wr.heap.size wr).drew
      clear c0 c1'
      cases q with
      | false =>
        have HNO := Lib.hid (HNN.out (by rw [HGD.out, Bool.false_and]))
        clear HGD HSY HNN HPV
        go_wp2
        refine wp_region_held_drew (S := fun W => W.cell? ⟨b, off + k * 2, none⟩ = some (.int .i64 ri) ∧ W.cell? ⟨b, off + k * 2 + 1, none⟩ = some (.slice xa xn xc)) (by kernel_rfl) (HK.out _ hB') (fun hH => ?_)
        refine takeH (i := 0) (d := some 12) (v := .slice a1 zn c1) rfl rfl (by kernel_rfl) (by kernel_rfl) (by kernel_rfl) (fun _ _ _ h => h) (Or.inl ⟨by rfl, fun W hSw => by obtain ⟨s0, s1⟩ := hSw; go_simp <;> try omega⟩) hH ?_
        try simp only [put_some, List.set_cons_zero, List.set_cons_succ]
        refine takeH (i := 1) (d := some 13) (v := .slice (some ⟨b, off, none⟩) n cap) rfl rfl (by kernel_rfl) (by kernel_rfl) (by kernel_rfl) (fun _ _ _ h => h) (Or.inl ⟨by rfl, fun W hSw => by obtain ⟨s0, s1⟩ := hSw; go_simp <;> try omega⟩) hH ?_
        try simp only [put_some, List.set_cons_zero, List.set_cons_succ]
        refine takeH (i := 2) (d := some 14) (v := .int .i64 (k : Nat)) rfl rfl (by kernel_rfl) (by kernel_rfl) (by kernel_rfl) (fun _ _ _ h => h) (Or.inl ⟨by rfl, fun W hSw => by obtain ⟨s0, s1⟩ := hSw; go_simp <;> try omega⟩) hH ?_
        try simp only [put_some, List.set_cons_zero, List.set_cons_succ]
        refine takeH (i := 3) (d := some 15) (v := .pointer (some ⟨b, off + k * 2, none⟩)) rfl rfl (by kernel_rfl) (by kernel_rfl) (by kernel_rfl) (fun _ _ _ h => h) (Or.inl ⟨by rfl, fun W hSw => by obtain ⟨s0, s1⟩ := hSw; go_simp <;> try omega⟩) hH ?_
        try simp only [put_some, List.set_cons_zero, List.set_cons_succ]
        refine takeH (i := 4) (d := some 16) (v := .agg #[.int .i64 ri, .slice xa xn xc]) rfl rfl (by kernel_rfl) (by kernel_rfl) (by kernel_rfl) (fun _ _ _ h => h) (Or.inl ⟨by rfl, fun W hSw => by obtain ⟨s0, s1⟩ := hSw; go_simp <;> try omega⟩) hH ?_
        try simp only [put_some, List.set_cons_zero, List.set_cons_succ]
        refine wpAnyH_ready (rs := [5]) (by kernel_rfl) (by simp) ?_
        refine AllReadyH.cons rfl (fun K hK => ?_) AllReadyH.nil
        go_simp
        go_at_call 52
        refine (HRO.out _ hB').mono ?_
        rintro e w2 ⟨rfl, hb2⟩
        replace hB' := below_then hB' hb2 hB'.size
        go_wp2_with fail
        refine hK.out _ _ (HK.out _ hB') (fun hH => ?_)
        clear hK K
        refine takeH (i := 6) (d := some 18) (v := .bool true) rfl rfl (by kernel_rfl) (by kernel_rfl) (by kernel_rfl) (fun _ _ _ h => h) (Or.inl ⟨by rfl, fun W hSw => by obtain ⟨s0, s1⟩ := hSw; go_simp <;> try omega⟩) hH ?_
        try simp only [put_some, List.set_cons_zero, List.set_cons_succ]
        refine takeH (i := 7) (d := some 19) (v := .bool true) rfl rfl (by kernel_rfl) (by kernel_rfl) (by kernel_rfl) (fun _ _ _ h => h) (Or.inl ⟨by rfl, fun W hSw => by obtain ⟨s0, s1⟩ := hSw; go_simp <;> try omega⟩) hH ?_
        try simp only [put_some, List.set_cons_zero, List.set_cons_succ]
        refine takeH (i := 8) (d := some 20) (v := undef) rfl rfl (by kernel_rfl) (by kernel_rfl) (by kernel_rfl) (fun _ _ _ h => h) (Or.inr ⟨by rfl, rfl⟩) hH ?_
        try simp only [put_some, List.set_cons_zero, List.set_cons_succ]
        refine takeH (i := 9) (d := some 21) (v := undef) rfl rfl (by kernel_rfl) (by kernel_rfl) (by kernel_rfl) (fun _ _ _ h => h) (Or.inr ⟨by rfl, rfl⟩) hH ?_
        try simp only [put_some, List.set_cons_zero, List.set_cons_succ]
        refine takeH (i := 10) (d := some 22) (v := undef) rfl rfl (by kernel_rfl) (by kernel_rfl) (by kernel_rfl) (fun _ _ _ h => h) (Or.inr ⟨by rfl, rfl⟩) hH ?_
        try simp only [put_some, List.set_cons_zero, List.set_cons_succ]
        refine takeH (i := 11) (d := some 23) (v := undef) rfl rfl (by kernel_rfl) (by kernel_rfl) (by kernel_rfl) (fun _ _ _ h => h) (Or.inr ⟨by rfl, rfl⟩) hH ?_
        try simp only [put_some, List.set_cons_zero, List.set_cons_succ]
        refine takeH (i := 12) (d := some 24) (v := undef) rfl rfl (by kernel_rfl) (by kernel_rfl) (by kernel_rfl) (fun _ _ _ h => h) (Or.inr ⟨by rfl, rfl⟩) hH ?_
        try simp only [put_some, List.set_cons_zero, List.set_cons_succ]
        refine takeH (i := 13) (d := some 25) (v := undef) rfl rfl (by kernel_rfl) (by kernel_rfl) (by kernel_rfl) (fun _ _ _ h => h) (Or.inr ⟨by rfl, rfl⟩) hH ?_
        try simp only [put_some, List.set_cons_zero, List.set_cons_succ]
        refine takeH (i := 14) (d := some 26) (v := .bool true) rfl rfl (by kernel_rfl) (by kernel_rfl) (by kernel_rfl) (fun _ _ _ h => h) (Or.inl ⟨by rfl, fun W hSw => by obtain ⟨s0, s1⟩ := hSw; go_simp <;> try omega⟩) hH ?_
        try simp only [put_some, List.set_cons_zero, List.set_cons_succ]
        refine takeH (i := 15) (d := some 27) (v := .bool true) rfl rfl (by kernel_rfl) (by kernel_rfl) (by kernel_rfl) (fun _ _ _ h => h) (Or.inl ⟨by rfl, fun W hSw => by obtain ⟨s0, s1⟩ := hSw; go_simp <;> try omega⟩) hH ?_
        try simp only [put_some, List.set_cons_zero, List.set_cons_succ]
        refine takeH (i := 16) (d := some 28) (v := undef) rfl rfl (by kernel_rfl) (by kernel_rfl) (by kernel_rfl) (fun _ _ _ h => h) (Or.inr ⟨by rfl, rfl⟩) hH ?_
        try simp only [put_some, List.set_cons_zero, List.set_cons_succ]
        refine takeH (i := 17) (d := some 29) (v := undef) rfl rfl (by kernel_rfl) (by kernel_rfl) (by kernel_rfl) (fun _ _ _ h => h) (Or.inr ⟨by rfl, rfl⟩) hH ?_
        try simp only [put_some, List.set_cons_zero, List.set_cons_succ]
        refine takeH (i := 18) (d := some 30) (v := undef) rfl rfl (by kernel_rfl) (by kernel_rfl) (by kernel_rfl) (fun _ _ _ h => h) (Or.inr ⟨by rfl, rfl⟩) hH ?_
        try simp only [put_some, List.set_cons_zero, List.set_cons_succ]
        refine takeH (i := 19) (d := some 31) (v := undef) rfl rfl (by kernel_rfl) (by kernel_rfl) (by kernel_rfl) (fun _ _ _ h => h) (Or.inr ⟨by rfl, rfl⟩) hH ?_
        try simp only [put_some, List.set_cons_zero, List.set_cons_succ]
        refine takeH (i := 20) (d := some 32) (v := undef) rfl rfl (by kernel_rfl) (by kernel_rfl) (by kernel_rfl) (fun _ _ _ h => h) (Or.inr ⟨by rfl, rfl⟩) hH ?_
        try simp only [put_some, List.set_cons_zero, List.set_cons_succ]
        refine takeH (i := 21) (d := some 33) (v := undef) rfl rfl (by kernel_rfl) (by kernel_rfl) (by kernel_rfl) (fun _ _ _ h => h) (Or.inr ⟨by rfl, rfl⟩) hH ?_
        try simp only [put_some, List.set_cons_zero, List.set_cons_succ]
        refine takeH (i := 22) (d := some 34) (v := undef) rfl rfl (by kernel_rfl) (by kernel_rfl) (by kernel_rfl) (fun _ _ _ h => h) (Or.inr ⟨by rfl, rfl⟩) hH ?_
        try simp only [put_some, List.set_cons_zero, List.set_cons_succ]
        refine takeH (i := 23) (d := some 35) (v := undef) rfl rfl (by kernel_rfl) (by kernel_rfl) (by kernel_rfl) (fun _ _ _ h => h) (Or.inr ⟨by rfl, rfl⟩) hH ?_
        try simp only [put_some, List.set_cons_zero, List.set_cons_succ]
        refine takeH (i := 24) (d := some 36) (v := undef) rfl rfl (by kernel_rfl) (by kernel_rfl) (by kernel_rfl) (fun _ _ _ h => h) (Or.inr ⟨by rfl, rfl⟩) hH ?_
        try simp only [put_some, List.set_cons_zero, List.set_cons_succ]
        refine takeH (i := 25) (d := some 37) (v := undef) rfl rfl (by kernel_rfl) (by kernel_rfl) (by kernel_rfl) (fun _ _ _ h => h) (Or.inr ⟨by rfl, rfl⟩) hH ?_
        try simp only [put_some, List.set_cons_zero, List.set_cons_succ]
        refine takeH (i := 26) (d := some 38) (v := undef) rfl rfl (by kernel_rfl) (by kernel_rfl) (by kernel_rfl) (fun _ _ _ h => h) (Or.inr ⟨by rfl, rfl⟩) hH ?_
        try simp only [put_some, List.set_cons_zero, List.set_cons_succ]
        refine takeH (i := 27) (d := some 39) (v := undef) rfl rfl (by kernel_rfl) (by kernel_rfl) (by kernel_rfl) (fun _ _ _ h => h) (Or.inr ⟨by rfl, rfl⟩) hH ?_
        try simp only [put_some, List.set_cons_zero, List.set_cons_succ]
        refine takeH (i := 28) (d := some 40) (v := undef) rfl rfl (by kernel_rfl) (by kernel_rfl) (by kernel_rfl) (fun _ _ _ h => h) (Or.inr ⟨by rfl, rfl⟩) hH ?_
        try simp only [put_some, List.set_cons_zero, List.set_cons_succ]
        refine takeH (i := 29) (d := some 41) (v := undef) rfl rfl (by kernel_rfl) (by kernel_rfl) (by kernel_rfl) (fun _ _ _ h => h) (Or.inr ⟨by rfl, rfl⟩) hH ?_
        try simp only [put_some, List.set_cons_zero, List.set_cons_succ]
        refine takeH (i := 30) (d := some 42) (v := undef) rfl rfl (by kernel_rfl) (by kernel_rfl) (by kernel_rfl) (fun _ _ _ h => h) (Or.inr ⟨by rfl, rfl⟩) hH ?_
        try simp only [put_some, List.set_cons_zero, List.set_cons_succ]
        refine takeH (i := 31) (d := some 43) (v := undef) rfl rfl (by kernel_rfl) (by kernel_rfl) (by kernel_rfl) (fun _ _ _ h => h) (Or.inr ⟨by rfl, rfl⟩) hH ?_
        try simp only [put_some, List.set_cons_zero, List.set_cons_succ]
        refine takeH (i := 32) (d := some 44) (v := .bool true) rfl rfl (by kernel_rfl) (by kernel_rfl) (by kernel_rfl) (fun _ _ _ h => h) (Or.inl ⟨by rfl, fun W hSw => by obtain ⟨s0, s1⟩ := hSw; go_simp <;> try omega⟩) hH ?_
        try simp only [put_some, List.set_cons_zero, List.set_cons_succ]
        refine wpAnyH_done (by kernel_rfl) ?_ _
        go_wp2
        go_ret
        exact ⟨ret_bool HNO.out.symm, below_then hbr hB' hbr.size⟩
      | true =>
        by_cases hg : 1000000000 < ri
        · have HNO := Lib.hid (HNN.out (by rw [HGD.out, decide_eq_false (by omega), Bool.false_and, Bool.and_false]))
          clear HGD HSY HNN HPV
          go_wp2
          refine wp_region_held_drew (S := fun W => W.cell? ⟨b, off + k * 2, none⟩ = some (.int .i64 ri) ∧ W.cell? ⟨b, off + k * 2 + 1, none⟩ = some (.slice xa xn xc)) (by kernel_rfl) (HK.out _ hB') (fun hH => ?_)
          refine takeH (i := 0) (d := some 12) (v := .slice a1 zn c1) rfl rfl (by kernel_rfl) (by kernel_rfl) (by kernel_rfl) (fun _ _ _ h => h) (Or.inl ⟨by rfl, fun W hSw => by obtain ⟨s0, s1⟩ := hSw; go_simp <;> try omega⟩) hH ?_
          try simp only [put_some, List.set_cons_zero, List.set_cons_succ]
          refine takeH (i := 1) (d := some 13) (v := .slice (some ⟨b, off, none⟩) n cap) rfl rfl (by kernel_rfl) (by kernel_rfl) (by kernel_rfl) (fun _ _ _ h => h) (Or.inl ⟨by rfl, fun W hSw => by obtain ⟨s0, s1⟩ := hSw; go_simp <;> try omega⟩) hH ?_
          try simp only [put_some, List.set_cons_zero, List.set_cons_succ]
          refine takeH (i := 2) (d := some 14) (v := .int .i64 (k : Nat)) rfl rfl (by kernel_rfl) (by kernel_rfl) (by kernel_rfl) (fun _ _ _ h => h) (Or.inl ⟨by rfl, fun W hSw => by obtain ⟨s0, s1⟩ := hSw; go_simp <;> try omega⟩) hH ?_
          try simp only [put_some, List.set_cons_zero, List.set_cons_succ]
          refine takeH (i := 3) (d := some 15) (v := .pointer (some ⟨b, off + k * 2, none⟩)) rfl rfl (by kernel_rfl) (by kernel_rfl) (by kernel_rfl) (fun _ _ _ h => h) (Or.inl ⟨by rfl, fun W hSw => by obtain ⟨s0, s1⟩ := hSw; go_simp <;> try omega⟩) hH ?_
          try simp only [put_some, List.set_cons_zero, List.set_cons_succ]
          refine takeH (i := 4) (d := some 16) (v := .agg #[.int .i64 ri, .slice xa xn xc]) rfl rfl (by kernel_rfl) (by kernel_rfl) (by kernel_rfl) (fun _ _ _ h => h) (Or.inl ⟨by rfl, fun W hSw => by obtain ⟨s0, s1⟩ := hSw; go_simp <;> try omega⟩) hH ?_
          try simp only [put_some, List.set_cons_zero, List.set_cons_succ]
          refine wpAnyH_ready (rs := [5]) (by kernel_rfl) (by simp) ?_
          refine AllReadyH.cons rfl (fun K hK => ?_) AllReadyH.nil
          go_simp
          go_at_call 52
          refine (HRO.out _ hB').mono ?_
          rintro e w2 ⟨rfl, hb2⟩
          replace hB' := below_then hB' hb2 hB'.size
          go_wp2_with fail
          refine hK.out _ _ (HK.out _ hB') (fun hH => ?_)
          clear hK K
          refine takeH (i := 6) (d := some 18) (v := .bool false) rfl rfl (by kernel_rfl) (by kernel_rfl) (by kernel_rfl) (fun _ _ _ h => h) (Or.inl ⟨by rfl, fun W hSw => by obtain ⟨s0, s1⟩ := hSw; go_simp <;> try omega⟩) hH ?_
          try simp only [put_some, List.set_cons_zero, List.set_cons_succ]
          refine takeH (i := 7) (d := some 19) (v := .bool false) rfl rfl (by kernel_rfl) (by kernel_rfl) (by kernel_rfl) (fun _ _ _ h => h) (Or.inl ⟨by rfl, fun W hSw => by obtain ⟨s0, s1⟩ := hSw; go_simp <;> try omega⟩) hH ?_
          try simp only [put_some, List.set_cons_zero, List.set_cons_succ]
          refine takeH (i := 8) (d := some 20) (v := .slice (some ⟨b, off, none⟩) n cap) rfl rfl (by kernel_rfl) (by kernel_rfl) (by kernel_rfl) (fun _ _ _ h => h) (Or.inl ⟨by rfl, fun W hSw => by obtain ⟨s0, s1⟩ := hSw; go_simp <;> try omega⟩) hH ?_
          try simp only [put_some, List.set_cons_zero, List.set_cons_succ]
          refine takeH (i := 9) (d := some 21) (v := .int .i64 (k : Nat)) rfl rfl (by kernel_rfl) (by kernel_rfl) (by kernel_rfl) (fun _ _ _ h => h) (Or.inl ⟨by rfl, fun W hSw => by obtain ⟨s0, s1⟩ := hSw; go_simp <;> try omega⟩) hH ?_
          try simp only [put_some, List.set_cons_zero, List.set_cons_succ]
          refine takeH (i := 10) (d := some 22) (v := .pointer (some ⟨b, off + k * 2, none⟩)) rfl rfl (by kernel_rfl) (by kernel_rfl) (by kernel_rfl) (fun _ _ _ h => h) (Or.inl ⟨by rfl, fun W hSw => by obtain ⟨s0, s1⟩ := hSw; go_simp <;> try omega⟩) hH ?_
          try simp only [put_some, List.set_cons_zero, List.set_cons_succ]
          refine takeH (i := 11) (d := some 23) (v := .pointer (some ⟨b, off + k * 2, none⟩)) rfl rfl (by kernel_rfl) (by kernel_rfl) (by kernel_rfl) (fun _ _ _ h => h) (Or.inl ⟨by rfl, fun W hSw => by obtain ⟨s0, s1⟩ := hSw; go_simp <;> try omega⟩) hH ?_
          try simp only [put_some, List.set_cons_zero, List.set_cons_succ]
          refine takeH (i := 12) (d := some 24) (v := .int .i64 ri) rfl rfl (by kernel_rfl) (by kernel_rfl) (by kernel_rfl) (fun _ _ _ h => h) (Or.inl ⟨by rfl, fun W hSw => by obtain ⟨s0, s1⟩ := hSw; go_simp <;> try omega⟩) hH ?_
          try simp only [put_some, List.set_cons_zero, List.set_cons_succ]
          refine takeH (i := 13) (d := some 25) (v := .bool true) rfl rfl (by kernel_rfl) (by kernel_rfl) (by kernel_rfl) (fun _ _ _ h => h) (Or.inl ⟨by rfl, fun W hSw => by obtain ⟨s0, s1⟩ := hSw; go_simp <;> try omega⟩) hH ?_
          try simp only [put_some, List.set_cons_zero, List.set_cons_succ]
          refine takeH (i := 14) (d := some 26) (v := .bool true) rfl rfl (by kernel_rfl) (by kernel_rfl) (by kernel_rfl) (fun _ _ _ h => h) (Or.inl ⟨by rfl, fun W hSw => by obtain ⟨s0, s1⟩ := hSw; go_simp <;> try omega⟩) hH ?_
          try simp only [put_some, List.set_cons_zero, List.set_cons_succ]
          refine takeH (i := 15) (d := some 27) (v := .bool true) rfl rfl (by kernel_rfl) (by kernel_rfl) (by kernel_rfl) (fun _ _ _ h => h) (Or.inl ⟨by rfl, fun W hSw => by obtain ⟨s0, s1⟩ := hSw; go_simp <;> try omega⟩) hH ?_
          try simp only [put_some, List.set_cons_zero, List.set_cons_succ]
          refine takeH (i := 16) (d := some 28) (v := undef) rfl rfl (by kernel_rfl) (by kernel_rfl) (by kernel_rfl) (fun _ _ _ h => h) (Or.inr ⟨by rfl, rfl⟩) hH ?_
          try simp only [put_some, List.set_cons_zero, List.set_cons_succ]
          refine takeH (i := 17) (d := some 29) (v := undef) rfl rfl (by kernel_rfl) (by kernel_rfl) (by kernel_rfl) (fun _ _ _ h => h) (Or.inr ⟨by rfl, rfl⟩) hH ?_
          try simp only [put_some, List.set_cons_zero, List.set_cons_succ]
          refine takeH (i := 18) (d := some 30) (v := undef) rfl rfl (by kernel_rfl) (by kernel_rfl) (by kernel_rfl) (fun _ _ _ h => h) (Or.inr ⟨by rfl, rfl⟩) hH ?_
          try simp only [put_some, List.set_cons_zero, List.set_cons_succ]
          refine takeH (i := 19) (d := some 31) (v := undef) rfl rfl (by kernel_rfl) (by kernel_rfl) (by kernel_rfl) (fun _ _ _ h => h) (Or.inr ⟨by rfl, rfl⟩) hH ?_
          try simp only [put_some, List.set_cons_zero, List.set_cons_succ]
          refine takeH (i := 20) (d := some 32) (v := undef) rfl rfl (by kernel_rfl) (by kernel_rfl) (by kernel_rfl) (fun _ _ _ h => h) (Or.inr ⟨by rfl, rfl⟩) hH ?_
          try simp only [put_some, List.set_cons_zero, List.set_cons_succ]
          refine takeH (i := 21) (d := some 33) (v := undef) rfl rfl (by kernel_rfl) (by kernel_rfl) (by kernel_rfl) (fun _ _ _ h => h) (Or.inr ⟨by rfl, rfl⟩) hH ?_
          try simp only [put_some, List.set_cons_zero, List.set_cons_succ]
          refine takeH (i := 22) (d := some 34) (v := undef) rfl rfl (by kernel_rfl) (by kernel_rfl) (by kernel_rfl) (fun _ _ _ h => h) (Or.inr ⟨by rfl, rfl⟩) hH ?_
          try simp only [put_some, List.set_cons_zero, List.set_cons_succ]
          refine takeH (i := 23) (d := some 35) (v := undef) rfl rfl (by kernel_rfl) (by kernel_rfl) (by kernel_rfl) (fun _ _ _ h => h) (Or.inr ⟨by rfl, rfl⟩) hH ?_
          try simp only [put_some, List.set_cons_zero, List.set_cons_succ]
          refine takeH (i := 24) (d := some 36) (v := undef) rfl rfl (by kernel_rfl) (by kernel_rfl) (by kernel_rfl) (fun _ _ _ h => h) (Or.inr ⟨by rfl, rfl⟩) hH ?_
          try simp only [put_some, List.set_cons_zero, List.set_cons_succ]
          refine takeH (i := 25) (d := some 37) (v := undef) rfl rfl (by kernel_rfl) (by kernel_rfl) (by kernel_rfl) (fun _ _ _ h => h) (Or.inr ⟨by rfl, rfl⟩) hH ?_
          try simp only [put_some, List.set_cons_zero, List.set_cons_succ]
          refine takeH (i := 26) (d := some 38) (v := undef) rfl rfl (by kernel_rfl) (by kernel_rfl) (by kernel_rfl) (fun _ _ _ h => h) (Or.inr ⟨by rfl, rfl⟩) hH ?_
          try simp only [put_some, List.set_cons_zero, List.set_cons_succ]
          refine takeH (i := 27) (d := some 39) (v := undef) rfl rfl (by kernel_rfl) (by kernel_rfl) (by kernel_rfl) (fun _ _ _ h => h) (Or.inr ⟨by rfl, rfl⟩) hH ?_
          try simp only [put_some, List.set_cons_zero, List.set_cons_succ]
          refine takeH (i := 28) (d := some 40) (v := undef) rfl rfl (by kernel_rfl) (by kernel_rfl) (by kernel_rfl) (fun _ _ _ h => h) (Or.inr ⟨by rfl, rfl⟩) hH ?_
          try simp only [put_some, List.set_cons_zero, List.set_cons_succ]
          refine takeH (i := 29) (d := some 41) (v := undef) rfl rfl (by kernel_rfl) (by kernel_rfl) (by kernel_rfl) (fun _ _ _ h => h) (Or.inr ⟨by rfl, rfl⟩) hH ?_
          try simp only [put_some, List.set_cons_zero, List.set_cons_succ]
          refine takeH (i := 30) (d := some 42) (v := undef) rfl rfl (by kernel_rfl) (by kernel_rfl) (by kernel_rfl) (fun _ _ _ h => h) (Or.inr ⟨by rfl, rfl⟩) hH ?_
          try simp only [put_some, List.set_cons_zero, List.set_cons_succ]
          refine takeH (i := 31) (d := some 43) (v := undef) rfl rfl (by kernel_rfl) (by kernel_rfl) (by kernel_rfl) (fun _ _ _ h => h) (Or.inr ⟨by rfl, rfl⟩) hH ?_
          try simp only [put_some, List.set_cons_zero, List.set_cons_succ]
          refine takeH (i := 32) (d := some 44) (v := .bool true) rfl rfl (by kernel_rfl) (by kernel_rfl) (by kernel_rfl) (fun _ _ _ h => h) (Or.inl ⟨by rfl, fun W hSw => by obtain ⟨s0, s1⟩ := hSw; go_simp <;> try omega⟩) hH ?_
          try simp only [put_some, List.set_cons_zero, List.set_cons_succ]
          refine wpAnyH_done (by kernel_rfl) ?_ _
          go_wp2
          go_ret
          exact ⟨ret_bool HNO.out.symm, below_then hbr hB' hbr.size⟩
        · rcases Nat.eq_zero_or_pos k with hk0 | hk0
          · have HS2 := Lib.hid (HSY.out (by rw [HGD.out, decide_eq_true (show ri ≤ 1000000000 by omega), decide_eq_true hk0]; rfl))
            clear HGD HSY HNN HPV
            have hkz : ¬ (0 < (k : Int)) := by omega
            have hkn' : (k : Int) < (n : Int) := by omega
            clear hk0
            go_wp2
            refine wp_region_held_drew (S := fun W => W.cell? ⟨b, off + k * 2, none⟩ = some (.int .i64 ri) ∧ W.cell? ⟨b, off + k * 2 + 1, none⟩ = some (.slice xa xn xc)) (by kernel_rfl) (HK.out _ hB') (fun hH => ?_)
            refine takeH (i := 0) (d := some 12) (v := .slice a1 zn c1) rfl rfl (by kernel_rfl) (by kernel_rfl) (by kernel_rfl) (fun _ _ _ h => h) (Or.inl ⟨by rfl, fun W hSw => by obtain ⟨s0, s1⟩ := hSw; go_simp <;> try omega⟩) hH ?_
            try simp only [put_some, List.set_cons_zero, List.set_cons_succ]
            refine takeH (i := 1) (d := some 13) (v := .slice (some ⟨b, off, none⟩) n cap) rfl rfl (by kernel_rfl) (by kernel_rfl) (by kernel_rfl) (fun _ _ _ h => h) (Or.inl ⟨by rfl, fun W hSw => by obtain ⟨s0, s1⟩ := hSw; go_simp <;> try omega⟩) hH ?_
            try simp only [put_some, List.set_cons_zero, List.set_cons_succ]
            refine takeH (i := 2) (d := some 14) (v := .int .i64 (k : Nat)) rfl rfl (by kernel_rfl) (by kernel_rfl) (by kernel_rfl) (fun _ _ _ h => h) (Or.inl ⟨by rfl, fun W hSw => by obtain ⟨s0, s1⟩ := hSw; go_simp <;> try omega⟩) hH ?_
            try simp only [put_some, List.set_cons_zero, List.set_cons_succ]
            refine takeH (i := 3) (d := some 15) (v := .pointer (some ⟨b, off + k * 2, none⟩)) rfl rfl (by kernel_rfl) (by kernel_rfl) (by kernel_rfl) (fun _ _ _ h => h) (Or.inl ⟨by rfl, fun W hSw => by obtain ⟨s0, s1⟩ := hSw; go_simp <;> try omega⟩) hH ?_
            try simp only [put_some, List.set_cons_zero, List.set_cons_succ]
            refine takeH (i := 4) (d := some 16) (v := .agg #[.int .i64 ri, .slice xa xn xc]) rfl rfl (by kernel_rfl) (by kernel_rfl) (by kernel_rfl) (fun _ _ _ h => h) (Or.inl ⟨by rfl, fun W hSw => by obtain ⟨s0, s1⟩ := hSw; go_simp <;> try omega⟩) hH ?_
            try simp only [put_some, List.set_cons_zero, List.set_cons_succ]
            refine wpAnyH_ready (rs := [5]) (by kernel_rfl) (by simp) ?_
            refine AllReadyH.cons rfl (fun K hK => ?_) AllReadyH.nil
            go_simp
            go_at_call 52
            refine (HRO.out _ hB').mono ?_
            rintro e w2 ⟨rfl, hb2⟩
            replace hB' := below_then hB' hb2 hB'.size
            go_wp2_with fail
            refine hK.out _ _ (HK.out _ hB') (fun hH => ?_)
            clear hK K
            refine takeH (i := 6) (d := some 18) (v := .bool false) rfl rfl (by kernel_rfl) (by kernel_rfl) (by kernel_rfl) (fun _ _ _ h => h) (Or.inl ⟨by rfl, fun W hSw => by obtain ⟨s0, s1⟩ := hSw; go_simp <;> try omega⟩) hH ?_
            try simp only [put_some, List.set_cons_zero, List.set_cons_succ]
            refine takeH (i := 7) (d := some 19) (v := .bool false) rfl rfl (by kernel_rfl) (by kernel_rfl) (by kernel_rfl) (fun _ _ _ h => h) (Or.inl ⟨by rfl, fun W hSw => by obtain ⟨s0, s1⟩ := hSw; go_simp <;> try omega⟩) hH ?_
            try simp only [put_some, List.set_cons_zero, List.set_cons_succ]
            refine takeH (i := 8) (d := some 20) (v := .slice (some ⟨b, off, none⟩) n cap) rfl rfl (by kernel_rfl) (by kernel_rfl) (by kernel_rfl) (fun _ _ _ h => h) (Or.inl ⟨by rfl, fun W hSw => by obtain ⟨s0, s1⟩ := hSw; go_simp <;> try omega⟩) hH ?_
            try simp only [put_some, List.set_cons_zero, List.set_cons_succ]
            refine takeH (i := 9) (d := some 21) (v := .int .i64 (k : Nat)) rfl rfl (by kernel_rfl) (by kernel_rfl) (by kernel_rfl) (fun _ _ _ h => h) (Or.inl ⟨by rfl, fun W hSw => by obtain ⟨s0, s1⟩ := hSw; go_simp <;> try omega⟩) hH ?_
            try simp only [put_some, List.set_cons_zero, List.set_cons_succ]
            refine takeH (i := 10) (d := some 22) (v := .pointer (some ⟨b, off + k * 2, none⟩)) rfl rfl (by kernel_rfl) (by kernel_rfl) (by kernel_rfl) (fun _ _ _ h => h) (Or.inl ⟨by rfl, fun W hSw => by obtain ⟨s0, s1⟩ := hSw; go_simp <;> try omega⟩) hH ?_
            try simp only [put_some, List.set_cons_zero, List.set_cons_succ]
            refine takeH (i := 11) (d := some 23) (v := .pointer (some ⟨b, off + k * 2, none⟩)) rfl rfl (by kernel_rfl) (by kernel_rfl) (by kernel_rfl) (fun _ _ _ h => h) (Or.inl ⟨by rfl, fun W hSw => by obtain ⟨s0, s1⟩ := hSw; go_simp <;> try omega⟩) hH ?_
            try simp only [put_some, List.set_cons_zero, List.set_cons_succ]
            refine takeH (i := 12) (d := some 24) (v := .int .i64 ri) rfl rfl (by kernel_rfl) (by kernel_rfl) (by kernel_rfl) (fun _ _ _ h => h) (Or.inl ⟨by rfl, fun W hSw => by obtain ⟨s0, s1⟩ := hSw; go_simp <;> try omega⟩) hH ?_
            try simp only [put_some, List.set_cons_zero, List.set_cons_succ]
            refine takeH (i := 13) (d := some 25) (v := .bool false) rfl rfl (by kernel_rfl) (by kernel_rfl) (by kernel_rfl) (fun _ _ _ h => h) (Or.inl ⟨by rfl, fun W hSw => by obtain ⟨s0, s1⟩ := hSw; go_simp <;> try omega⟩) hH ?_
            try simp only [put_some, List.set_cons_zero, List.set_cons_succ]
            refine takeH (i := 14) (d := some 26) (v := .bool false) rfl rfl (by kernel_rfl) (by kernel_rfl) (by kernel_rfl) (fun _ _ _ h => h) (Or.inl ⟨by rfl, fun W hSw => by obtain ⟨s0, s1⟩ := hSw; go_simp <;> try omega⟩) hH ?_
            try simp only [put_some, List.set_cons_zero, List.set_cons_succ]
            refine takeH (i := 15) (d := some 27) (v := .bool false) rfl rfl (by kernel_rfl) (by kernel_rfl) (by kernel_rfl) (fun _ _ _ h => h) (Or.inl ⟨by rfl, fun W hSw => by obtain ⟨s0, s1⟩ := hSw; go_simp <;> try omega⟩) hH ?_
            try simp only [put_some, List.set_cons_zero, List.set_cons_succ]
            refine takeH (i := 16) (d := some 28) (v := .int .i64 (k : Nat)) rfl rfl (by kernel_rfl) (by kernel_rfl) (by kernel_rfl) (fun _ _ _ h => h) (Or.inl ⟨by rfl, fun W hSw => by obtain ⟨s0, s1⟩ := hSw; go_simp <;> try omega⟩) hH ?_
            try simp only [put_some, List.set_cons_zero, List.set_cons_succ]
            refine takeH (i := 17) (d := some 29) (v := .bool false) rfl rfl (by kernel_rfl) (by kernel_rfl) (by kernel_rfl) (fun _ _ _ h => h) (Or.inl ⟨by rfl, fun W hSw => by obtain ⟨s0, s1⟩ := hSw; go_simp <;> try omega⟩) hH ?_
            try simp only [put_some, List.set_cons_zero, List.set_cons_succ]
            refine takeH (i := 18) (d := some 30) (v := .bool false) rfl rfl (by kernel_rfl) (by kernel_rfl) (by kernel_rfl) (fun _ _ _ h => h) (Or.inl ⟨by rfl, fun W hSw => by obtain ⟨s0, s1⟩ := hSw; go_simp <;> try omega⟩) hH ?_
            try simp only [put_some, List.set_cons_zero, List.set_cons_succ]
            refine takeH (i := 19) (d := some 31) (v := undef) rfl rfl (by kernel_rfl) (by kernel_rfl) (by kernel_rfl) (fun _ _ _ h => h) (Or.inr ⟨by rfl, rfl⟩) hH ?_
            try simp only [put_some, List.set_cons_zero, List.set_cons_succ]
            refine takeH (i := 20) (d := some 32) (v := undef) rfl rfl (by kernel_rfl) (by kernel_rfl) (by kernel_rfl) (fun _ _ _ h => h) (Or.inr ⟨by rfl, rfl⟩) hH ?_
            try simp only [put_some, List.set_cons_zero, List.set_cons_succ]
            refine takeH (i := 21) (d := some 33) (v := undef) rfl rfl (by kernel_rfl) (by kernel_rfl) (by kernel_rfl) (fun _ _ _ h => h) (Or.inr ⟨by rfl, rfl⟩) hH ?_
            try simp only [put_some, List.set_cons_zero, List.set_cons_succ]
            refine takeH (i := 22) (d := some 34) (v := undef) rfl rfl (by kernel_rfl) (by kernel_rfl) (by kernel_rfl) (fun _ _ _ h => h) (Or.inr ⟨by rfl, rfl⟩) hH ?_
            try simp only [put_some, List.set_cons_zero, List.set_cons_succ]
            refine takeH (i := 23) (d := some 35) (v := undef) rfl rfl (by kernel_rfl) (by kernel_rfl) (by kernel_rfl) (fun _ _ _ h => h) (Or.inr ⟨by rfl, rfl⟩) hH ?_
            try simp only [put_some, List.set_cons_zero, List.set_cons_succ]
            refine takeH (i := 24) (d := some 36) (v := undef) rfl rfl (by kernel_rfl) (by kernel_rfl) (by kernel_rfl) (fun _ _ _ h => h) (Or.inr ⟨by rfl, rfl⟩) hH ?_
            try simp only [put_some, List.set_cons_zero, List.set_cons_succ]
            refine takeH (i := 25) (d := some 37) (v := undef) rfl rfl (by kernel_rfl) (by kernel_rfl) (by kernel_rfl) (fun _ _ _ h => h) (Or.inr ⟨by rfl, rfl⟩) hH ?_
            try simp only [put_some, List.set_cons_zero, List.set_cons_succ]
            refine takeH (i := 26) (d := some 38) (v := undef) rfl rfl (by kernel_rfl) (by kernel_rfl) (by kernel_rfl) (fun _ _ _ h => h) (Or.inr ⟨by rfl, rfl⟩) hH ?_
            try simp only [put_some, List.set_cons_zero, List.set_cons_succ]
            refine takeH (i := 27) (d := some 39) (v := undef) rfl rfl (by kernel_rfl) (by kernel_rfl) (by kernel_rfl) (fun _ _ _ h => h) (Or.inr ⟨by rfl, rfl⟩) hH ?_
            try simp only [put_some, List.set_cons_zero, List.set_cons_succ]
            refine takeH (i := 28) (d := some 40) (v := undef) rfl rfl (by kernel_rfl) (by kernel_rfl) (by kernel_rfl) (fun _ _ _ h => h) (Or.inr ⟨by rfl, rfl⟩) hH ?_
            try simp only [put_some, List.set_cons_zero, List.set_cons_succ]
            refine takeH (i := 29) (d := some 41) (v := undef) rfl rfl (by kernel_rfl) (by kernel_rfl) (by kernel_rfl) (fun _ _ _ h => h) (Or.inr ⟨by rfl, rfl⟩) hH ?_
            try simp only [put_some, List.set_cons_zero, List.set_cons_succ]
            refine takeH (i := 30) (d := some 42) (v := undef) rfl rfl (by kernel_rfl) (by kernel_rfl) (by kernel_rfl) (fun _ _ _ h => h) (Or.inr ⟨by rfl, rfl⟩) hH ?_
            try simp only [put_some, List.set_cons_zero, List.set_cons_succ]
            refine takeH (i := 31) (d := some 43) (v := .bool false) rfl rfl (by kernel_rfl) (by kernel_rfl) (by kernel_rfl) (fun _ _ _ h => h) (Or.inl ⟨by rfl, fun W hSw => by obtain ⟨s0, s1⟩ := hSw; go_simp <;> try omega⟩) hH ?_
            try simp only [put_some, List.set_cons_zero, List.set_cons_succ]
            refine takeH (i := 32) (d := some 44) (v := .bool false) rfl rfl (by kernel_rfl) (by kernel_rfl) (by kernel_rfl) (fun _ _ _ h => h) (Or.inl ⟨by rfl, fun W hSw => by obtain ⟨s0, s1⟩ := hSw; go_simp <;> try omega⟩) hH ?_
            try simp only [put_some, List.set_cons_zero, List.set_cons_succ]
            refine wpAnyH_done (by kernel_rfl) ?_ _
            go_wp2
            go_roundw
            case rel => exact ⟨k + 1, by omega, by go_num, HS2.out, below_then hbr hB' hbr.size⟩
            case measure => simp [intOf]; omega
          · obtain ⟨p, hp⟩ : ∃ p, k = p + 1 := ⟨k - 1, by omega⟩
            have d0 := HPV.out p hp
            have e1 : k - 1 = p := by omega
            rw [e1] at HGD
            generalize (ps.getD p P.zero).1.id = pid at d0 HGD
            have HKD : Hid (∀ W, Below wr.heap.size wr W → W.cell? ⟨b, off + k * 2, none⟩ = some (.int .i64 ri) ∧ W.cell? ⟨b, off + k * 2 + 1, none⟩ = some (.slice xa xn xc) ∧ W.cell? ⟨b, off + p * 2, none⟩ = some (.int .i64 pid)) := fun W h => ⟨(HK.out W h).1, (HK.out W h).2, (h.cell (p := ⟨b, off + p * 2, none⟩) (lt_of_cell d0)).trans d0⟩
            have hwp : IntKind.i64.wrap ((k : Int) - 1) = (p : Int) := by rw [IntKind.wrap_i64]; omega
            have hkz : (0 : Int) < (k : Int) := by omega
            have hpn : p < n := by omega
            have hpn' : (p : Int) < (n : Int) := by omega
            have hkn' : (k : Int) < (n : Int) := by omega
            have HP := Lib.hid hp
            have hgd : decide (k = 0) = false := decide_eq_false (by omega)
            rw [hgd, decide_eq_true (show ri ≤ 1000000000 by omega)] at HGD
            simp only [Bool.true_and, Bool.false_or] at HGD
            clear d0 e1 hp HPV hgd hk0
            by_cases hle : ri ≤ pid
            · have HNO := Lib.hid (HNN.out (by rw [HGD.out]; exact decide_eq_false (by omega)))
              clear HGD HSY HNN
              go_wp2
              refine wp_region_held_drew (S := fun W => W.cell? ⟨b, off + k * 2, none⟩ = some (.int .i64 ri) ∧ W.cell? ⟨b, off + k * 2 + 1, none⟩ = some (.slice xa xn xc) ∧ W.cell? ⟨b, off + p * 2, none⟩ = some (.int .i64 pid)) (by kernel_rfl) (HKD.out _ hB') (fun hH => ?_)
              refine takeH (i := 0) (d := some 12) (v := .slice a1 zn c1) rfl rfl (by kernel_rfl) (by kernel_rfl) (by kernel_rfl) (fun _ _ _ h => h) (Or.inl ⟨by rfl, fun W hSw => by obtain ⟨s0, s1, s2⟩ := hSw; go_simp <;> try omega⟩) hH ?_
              try simp only [put_some, List.set_cons_zero, List.set_cons_succ]
              refine takeH (i := 1) (d := some 13) (v := .slice (some ⟨b, off, none⟩) n cap) rfl rfl (by kernel_rfl) (by kernel_rfl) (by kernel_rfl) (fun _ _ _ h => h) (Or.inl ⟨by rfl, fun W hSw => by obtain ⟨s0, s1, s2⟩ := hSw; go_simp <;> try omega⟩) hH ?_
              try simp only [put_some, List.set_cons_zero, List.set_cons_succ]
              refine takeH (i := 2) (d := some 14) (v := .int .i64 (k : Nat)) rfl rfl (by kernel_rfl) (by kernel_rfl) (by kernel_rfl) (fun _ _ _ h => h) (Or.inl ⟨by rfl, fun W hSw => by obtain ⟨s0, s1, s2⟩ := hSw; go_simp <;> try omega⟩) hH ?_
              try simp only [put_some, List.set_cons_zero, List.set_cons_succ]
              refine takeH (i := 3) (d := some 15) (v := .pointer (some ⟨b, off + k * 2, none⟩)) rfl rfl (by kernel_rfl) (by kernel_rfl) (by kernel_rfl) (fun _ _ _ h => h) (Or.inl ⟨by rfl, fun W hSw => by obtain ⟨s0, s1, s2⟩ := hSw; go_simp <;> try omega⟩) hH ?_
              try simp only [put_some, List.set_cons_zero, List.set_cons_succ]
              refine takeH (i := 4) (d := some 16) (v := .agg #[.int .i64 ri, .slice xa xn xc]) rfl rfl (by kernel_rfl) (by kernel_rfl) (by kernel_rfl) (fun _ _ _ h => h) (Or.inl ⟨by rfl, fun W hSw => by obtain ⟨s0, s1, s2⟩ := hSw; go_simp <;> try omega⟩) hH ?_
              try simp only [put_some, List.set_cons_zero, List.set_cons_succ]
              refine wpAnyH_ready (rs := [5]) (by kernel_rfl) (by simp) ?_
              refine AllReadyH.cons rfl (fun K hK => ?_) AllReadyH.nil
              go_simp
              go_at_call 52
              refine (HRO.out _ hB').mono ?_
              rintro e w2 ⟨rfl, hb2⟩
              replace hB' := below_then hB' hb2 hB'.size
              go_wp2_with fail
              refine hK.out _ _ (HKD.out _ hB') (fun hH => ?_)
              clear hK K
              refine takeH (i := 6) (d := some 18) (v := .bool false) rfl rfl (by kernel_rfl) (by kernel_rfl) (by kernel_rfl) (fun _ _ _ h => h) (Or.inl ⟨by rfl, fun W hSw => by obtain ⟨s0, s1, s2⟩ := hSw; go_simp <;> try omega⟩) hH ?_
              try simp only [put_some, List.set_cons_zero, List.set_cons_succ]
              refine takeH (i := 7) (d := some 19) (v := .bool false) rfl rfl (by kernel_rfl) (by kernel_rfl) (by kernel_rfl) (fun _ _ _ h => h) (Or.inl ⟨by rfl, fun W hSw => by obtain ⟨s0, s1, s2⟩ := hSw; go_simp <;> try omega⟩) hH ?_
              try simp only [put_some, List.set_cons_zero, List.set_cons_succ]
              refine takeH (i := 8) (d := some 20) (v := .slice (some ⟨b, off, none⟩) n cap) rfl rfl (by kernel_rfl) (by kernel_rfl) (by kernel_rfl) (fun _ _ _ h => h) (Or.inl ⟨by rfl, fun W hSw => by obtain ⟨s0, s1, s2⟩ := hSw; go_simp <;> try omega⟩) hH ?_
              try simp only [put_some, List.set_cons_zero, List.set_cons_succ]
              refine takeH (i := 9) (d := some 21) (v := .int .i64 (k : Nat)) rfl rfl (by kernel_rfl) (by kernel_rfl) (by kernel_rfl) (fun _ _ _ h => h) (Or.inl ⟨by rfl, fun W hSw => by obtain ⟨s0, s1, s2⟩ := hSw; go_simp <;> try omega⟩) hH ?_
              try simp only [put_some, List.set_cons_zero, List.set_cons_succ]
              refine takeH (i := 10) (d := some 22) (v := .pointer (some ⟨b, off + k * 2, none⟩)) rfl rfl (by kernel_rfl) (by kernel_rfl) (by kernel_rfl) (fun _ _ _ h => h) (Or.inl ⟨by rfl, fun W hSw => by obtain ⟨s0, s1, s2⟩ := hSw; go_simp <;> try omega⟩) hH ?_
              try simp only [put_some, List.set_cons_zero, List.set_cons_succ]
              refine takeH (i := 11) (d := some 23) (v := .pointer (some ⟨b, off + k * 2, none⟩)) rfl rfl (by kernel_rfl) (by kernel_rfl) (by kernel_rfl) (fun _ _ _ h => h) (Or.inl ⟨by rfl, fun W hSw => by obtain ⟨s0, s1, s2⟩ := hSw; go_simp <;> try omega⟩) hH ?_
              try simp only [put_some, List.set_cons_zero, List.set_cons_succ]
              refine takeH (i := 12) (d := some 24) (v := .int .i64 ri) rfl rfl (by kernel_rfl) (by kernel_rfl) (by kernel_rfl) (fun _ _ _ h => h) (Or.inl ⟨by rfl, fun W hSw => by obtain ⟨s0, s1, s2⟩ := hSw; go_simp <;> try omega⟩) hH ?_
              try simp only [put_some, List.set_cons_zero, List.set_cons_succ]
              refine takeH (i := 13) (d := some 25) (v := .bool false) rfl rfl (by kernel_rfl) (by kernel_rfl) (by kernel_rfl) (fun _ _ _ h => h) (Or.inl ⟨by rfl, fun W hSw => by obtain ⟨s0, s1, s2⟩ := hSw; go_simp <;> try omega⟩) hH ?_
              try simp only [put_some, List.set_cons_zero, List.set_cons_succ]
              refine takeH (i := 14) (d := some 26) (v := .bool false) rfl rfl (by kernel_rfl) (by kernel_rfl) (by kernel_rfl) (fun _ _ _ h => h) (Or.inl ⟨by rfl, fun W hSw => by obtain ⟨s0, s1, s2⟩ := hSw; go_simp <;> try omega⟩) hH ?_
              try simp only [put_some, List.set_cons_zero, List.set_cons_succ]
              refine takeH (i := 15) (d := some 27) (v := .bool false) rfl rfl (by kernel_rfl) (by kernel_rfl) (by kernel_rfl) (fun _ _ _ h => h) (Or.inl ⟨by rfl, fun W hSw => by obtain ⟨s0, s1, s2⟩ := hSw; go_simp <;> try omega⟩) hH ?_
              try simp only [put_some, List.set_cons_zero, List.set_cons_succ]
              refine takeH (i := 16) (d := some 28) (v := .int .i64 (k : Nat)) rfl rfl (by kernel_rfl) (by kernel_rfl) (by kernel_rfl) (fun _ _ _ h => h) (Or.inl ⟨by rfl, fun W hSw => by obtain ⟨s0, s1, s2⟩ := hSw; go_simp <;> try omega⟩) hH ?_
              try simp only [put_some, List.set_cons_zero, List.set_cons_succ]
              refine takeH (i := 17) (d := some 29) (v := .bool true) rfl rfl (by kernel_rfl) (by kernel_rfl) (by kernel_rfl) (fun _ _ _ h => h) (Or.inl ⟨by rfl, fun W hSw => by obtain ⟨s0, s1, s2⟩ := hSw; go_simp <;> try omega⟩) hH ?_
              try simp only [put_some, List.set_cons_zero, List.set_cons_succ]
              refine takeH (i := 18) (d := some 30) (v := .bool true) rfl rfl (by kernel_rfl) (by kernel_rfl) (by kernel_rfl) (fun _ _ _ h => h) (Or.inl ⟨by rfl, fun W hSw => by obtain ⟨s0, s1, s2⟩ := hSw; go_simp <;> try omega⟩) hH ?_
              try simp only [put_some, List.set_cons_zero, List.set_cons_succ]
              refine takeH (i := 19) (d := some 31) (v := .slice (some ⟨b, off, none⟩) n cap) rfl rfl (by kernel_rfl) (by kernel_rfl) (by kernel_rfl) (fun _ _ _ h => h) (Or.inl ⟨by rfl, fun W hSw => by obtain ⟨s0, s1, s2⟩ := hSw; go_simp <;> try omega⟩) hH ?_
              try simp only [put_some, List.set_cons_zero, List.set_cons_succ]
              refine takeH (i := 20) (d := some 32) (v := .int .i64 (k : Nat)) rfl rfl (by kernel_rfl) (by kernel_rfl) (by kernel_rfl) (fun _ _ _ h => h) (Or.inl ⟨by rfl, fun W hSw => by obtain ⟨s0, s1, s2⟩ := hSw; go_simp <;> try omega⟩) hH ?_
              try simp only [put_some, List.set_cons_zero, List.set_cons_succ]
              refine takeH (i := 21) (d := some 33) (v := .int .i64 (p : Nat)) rfl rfl (by kernel_rfl) (by kernel_rfl) (by kernel_rfl) (fun _ _ _ h => h) (Or.inl ⟨by rfl, fun W hSw => by obtain ⟨s0, s1, s2⟩ := hSw; go_simp <;> try omega⟩) hH ?_
              try simp only [put_some, List.set_cons_zero, List.set_cons_succ]
              refine takeH (i := 22) (d := some 34) (v := .pointer (some ⟨b, off + p * 2, none⟩)) rfl rfl (by kernel_rfl) (by kernel_rfl) (by kernel_rfl) (fun _ _ _ h => h) (Or.inl ⟨by rfl, fun W hSw => by obtain ⟨s0, s1, s2⟩ := hSw; go_simp <;> try omega⟩) hH ?_
              try simp only [put_some, List.set_cons_zero, List.set_cons_succ]
              refine takeH (i := 23) (d := some 35) (v := .pointer (some ⟨b, off + p * 2, none⟩)) rfl rfl (by kernel_rfl) (by kernel_rfl) (by kernel_rfl) (fun _ _ _ h => h) (Or.inl ⟨by rfl, fun W hSw => by obtain ⟨s0, s1, s2⟩ := hSw; go_simp <;> try omega⟩) hH ?_
              try simp only [put_some, List.set_cons_zero, List.set_cons_succ]
              refine takeH (i := 24) (d := some 36) (v := .int .i64 pid) rfl rfl (by kernel_rfl) (by kernel_rfl) (by kernel_rfl) (fun _ _ _ h => h) (Or.inl ⟨by rfl, fun W hSw => by obtain ⟨s0, s1, s2⟩ := hSw; go_simp <;> try omega⟩) hH ?_
              try simp only [put_some, List.set_cons_zero, List.set_cons_succ]
              refine takeH (i := 25) (d := some 37) (v := .slice (some ⟨b, off, none⟩) n cap) rfl rfl (by kernel_rfl) (by kernel_rfl) (by kernel_rfl) (fun _ _ _ h => h) (Or.inl ⟨by rfl, fun W hSw => by obtain ⟨s0, s1, s2⟩ := hSw; go_simp <;> try omega⟩) hH ?_
              try simp only [put_some, List.set_cons_zero, List.set_cons_succ]
              refine takeH (i := 26) (d := some 38) (v := .int .i64 (k : Nat)) rfl rfl (by kernel_rfl) (by kernel_rfl) (by kernel_rfl) (fun _ _ _ h => h) (Or.inl ⟨by rfl, fun W hSw => by obtain ⟨s0, s1, s2⟩ := hSw; go_simp <;> try omega⟩) hH ?_
              try simp only [put_some, List.set_cons_zero, List.set_cons_succ]
              refine takeH (i := 27) (d := some 39) (v := .pointer (some ⟨b, off + k * 2, none⟩)) rfl rfl (by kernel_rfl) (by kernel_rfl) (by kernel_rfl) (fun _ _ _ h => h) (Or.inl ⟨by rfl, fun W hSw => by obtain ⟨s0, s1, s2⟩ := hSw; go_simp <;> try omega⟩) hH ?_
              try simp only [put_some, List.set_cons_zero, List.set_cons_succ]
              refine takeH (i := 28) (d := some 40) (v := .pointer (some ⟨b, off + k * 2, none⟩)) rfl rfl (by kernel_rfl) (by kernel_rfl) (by kernel_rfl) (fun _ _ _ h => h) (Or.inl ⟨by rfl, fun W hSw => by obtain ⟨s0, s1, s2⟩ := hSw; go_simp <;> try omega⟩) hH ?_
              try simp only [put_some, List.set_cons_zero, List.set_cons_succ]
              refine takeH (i := 29) (d := some 41) (v := .int .i64 ri) rfl rfl (by kernel_rfl) (by kernel_rfl) (by kernel_rfl) (fun _ _ _ h => h) (Or.inl ⟨by rfl, fun W hSw => by obtain ⟨s0, s1, s2⟩ := hSw; go_simp <;> try omega⟩) hH ?_
              try simp only [put_some, List.set_cons_zero, List.set_cons_succ]
              refine takeH (i := 30) (d := some 42) (v := .bool true) rfl rfl (by kernel_rfl) (by kernel_rfl) (by kernel_rfl) (fun _ _ _ h => h) (Or.inl ⟨by rfl, fun W hSw => by obtain ⟨s0, s1, s2⟩ := hSw; go_simp <;> try omega⟩) hH ?_
              try simp only [put_some, List.set_cons_zero, List.set_cons_succ]
              refine takeH (i := 31) (d := some 43) (v := .bool true) rfl rfl (by kernel_rfl) (by kernel_rfl) (by kernel_rfl) (fun _ _ _ h => h) (Or.inl ⟨by rfl, fun W hSw => by obtain ⟨s0, s1, s2⟩ := hSw; go_simp <;> try omega⟩) hH ?_
              try simp only [put_some, List.set_cons_zero, List.set_cons_succ]
              refine takeH (i := 32) (d := some 44) (v := .bool true) rfl rfl (by kernel_rfl) (by kernel_rfl) (by kernel_rfl) (fun _ _ _ h => h) (Or.inl ⟨by rfl, fun W hSw => by obtain ⟨s0, s1, s2⟩ := hSw; go_simp <;> try omega⟩) hH ?_
              try simp only [put_some, List.set_cons_zero, List.set_cons_succ]
              refine wpAnyH_done (by kernel_rfl) ?_ _
              go_wp2
              go_ret
              exact ⟨ret_bool HNO.out.symm, below_then hbr hB' hbr.size⟩
            · have HS2 := Lib.hid (HSY.out (by rw [HGD.out]; exact decide_eq_true (by omega)))
              clear HGD HSY HNN
              go_wp2
              refine wp_region_held_drew (S := fun W => W.cell? ⟨b, off + k * 2, none⟩ = some (.int .i64 ri) ∧ W.cell? ⟨b, off + k * 2 + 1, none⟩ = some (.slice xa xn xc) ∧ W.cell? ⟨b, off + p * 2, none⟩ = some (.int .i64 pid)) (by kernel_rfl) (HKD.out _ hB') (fun hH => ?_)
              refine takeH (i := 0) (d := some 12) (v := .slice a1 zn c1) rfl rfl (by kernel_rfl) (by kernel_rfl) (by kernel_rfl) (fun _ _ _ h => h) (Or.inl ⟨by rfl, fun W hSw => by obtain ⟨s0, s1, s2⟩ := hSw; go_simp <;> try omega⟩) hH ?_
              try simp only [put_some, List.set_cons_zero, List.set_cons_succ]
              refine takeH (i := 1) (d := some 13) (v := .slice (some ⟨b, off, none⟩) n cap) rfl rfl (by kernel_rfl) (by kernel_rfl) (by kernel_rfl) (fun _ _ _ h => h) (Or.inl ⟨by rfl, fun W hSw => by obtain ⟨s0, s1, s2⟩ := hSw; go_simp <;> try omega⟩) hH ?_
              try simp only [put_some, List.set_cons_zero, List.set_cons_succ]
              refine takeH (i := 2) (d := some 14) (v := .int .i64 (k : Nat)) rfl rfl (by kernel_rfl) (by kernel_rfl) (by kernel_rfl) (fun _ _ _ h => h) (Or.inl ⟨by rfl, fun W hSw => by obtain ⟨s0, s1, s2⟩ := hSw; go_simp <;> try omega⟩) hH ?_
              try simp only [put_some, List.set_cons_zero, List.set_cons_succ]
              refine takeH (i := 3) (d := some 15) (v := .pointer (some ⟨b, off + k * 2, none⟩)) rfl rfl (by kernel_rfl) (by kernel_rfl) (by kernel_rfl) (fun _ _ _ h => h) (Or.inl ⟨by rfl, fun W hSw => by obtain ⟨s0, s1, s2⟩ := hSw; go_simp <;> try omega⟩) hH ?_
              try simp only [put_some, List.set_cons_zero, List.set_cons_succ]
              refine takeH (i := 4) (d := some 16) (v := .agg #[.int .i64 ri, .slice xa xn xc]) rfl rfl (by kernel_rfl) (by kernel_rfl) (by kernel_rfl) (fun _ _ _ h => h) (Or.inl ⟨by rfl, fun W hSw => by obtain ⟨s0, s1, s2⟩ := hSw; go_simp <;> try omega⟩) hH ?_
              try simp only [put_some, List.set_cons_zero, List.set_cons_succ]
              refine wpAnyH_ready (rs := [5]) (by kernel_rfl) (by simp) ?_
              refine AllReadyH.cons rfl (fun K hK => ?_) AllReadyH.nil
              go_simp
              go_at_call 52
              refine (HRO.out _ hB').mono ?_
              rintro e w2 ⟨rfl, hb2⟩
              replace hB' := below_then hB' hb2 hB'.size
              go_wp2_with fail
              refine hK.out _ _ (HKD.out _ hB') (fun hH => ?_)
              clear hK K
              refine takeH (i := 6) (d := some 18) (v := .bool false) rfl rfl (by kernel_rfl) (by kernel_rfl) (by kernel_rfl) (fun _ _ _ h => h) (Or.inl ⟨by rfl, fun W hSw => by obtain ⟨s0, s1, s2⟩ := hSw; go_simp <;> try omega⟩) hH ?_
              try simp only [put_some, List.set_cons_zero, List.set_cons_succ]
              refine takeH (i := 7) (d := some 19) (v := .bool false) rfl rfl (by kernel_rfl) (by kernel_rfl) (by kernel_rfl) (fun _ _ _ h => h) (Or.inl ⟨by rfl, fun W hSw => by obtain ⟨s0, s1, s2⟩ := hSw; go_simp <;> try omega⟩) hH ?_
              try simp only [put_some, List.set_cons_zero, List.set_cons_succ]
              refine takeH (i := 8) (d := some 20) (v := .slice (some ⟨b, off, none⟩) n cap) rfl rfl (by kernel_rfl) (by kernel_rfl) (by kernel_rfl) (fun _ _ _ h => h) (Or.inl ⟨by rfl, fun W hSw => by obtain ⟨s0, s1, s2⟩ := hSw; go_simp <;> try omega⟩) hH ?_
              try simp only [put_some, List.set_cons_zero, List.set_cons_succ]
              refine takeH (i := 9) (d := some 21) (v := .int .i64 (k : Nat)) rfl rfl (by kernel_rfl) (by kernel_rfl) (by kernel_rfl) (fun _ _ _ h => h) (Or.inl ⟨by rfl, fun W hSw => by obtain ⟨s0, s1, s2⟩ := hSw; go_simp <;> try omega⟩) hH ?_
              try simp only [put_some, List.set_cons_zero, List.set_cons_succ]
              refine takeH (i := 10) (d := some 22) (v := .pointer (some ⟨b, off + k * 2, none⟩)) rfl rfl (by kernel_rfl) (by kernel_rfl) (by kernel_rfl) (fun _ _ _ h => h) (Or.inl ⟨by rfl, fun W hSw => by obtain ⟨s0, s1, s2⟩ := hSw; go_simp <;> try omega⟩) hH ?_
              try simp only [put_some, List.set_cons_zero, List.set_cons_succ]
              refine takeH (i := 11) (d := some 23) (v := .pointer (some ⟨b, off + k * 2, none⟩)) rfl rfl (by kernel_rfl) (by kernel_rfl) (by kernel_rfl) (fun _ _ _ h => h) (Or.inl ⟨by rfl, fun W hSw => by obtain ⟨s0, s1, s2⟩ := hSw; go_simp <;> try omega⟩) hH ?_
              try simp only [put_some, List.set_cons_zero, List.set_cons_succ]
              refine takeH (i := 12) (d := some 24) (v := .int .i64 ri) rfl rfl (by kernel_rfl) (by kernel_rfl) (by kernel_rfl) (fun _ _ _ h => h) (Or.inl ⟨by rfl, fun W hSw => by obtain ⟨s0, s1, s2⟩ := hSw; go_simp <;> try omega⟩) hH ?_
              try simp only [put_some, List.set_cons_zero, List.set_cons_succ]
              refine takeH (i := 13) (d := some 25) (v := .bool false) rfl rfl (by kernel_rfl) (by kernel_rfl) (by kernel_rfl) (fun _ _ _ h => h) (Or.inl ⟨by rfl, fun W hSw => by obtain ⟨s0, s1, s2⟩ := hSw; go_simp <;> try omega⟩) hH ?_
              try simp only [put_some, List.set_cons_zero, List.set_cons_succ]
              refine takeH (i := 14) (d := some 26) (v := .bool false) rfl rfl (by kernel_rfl) (by kernel_rfl) (by kernel_rfl) (fun _ _ _ h => h) (Or.inl ⟨by rfl, fun W hSw => by obtain ⟨s0, s1, s2⟩ := hSw; go_simp <;> try omega⟩) hH ?_
              try simp only [put_some, List.set_cons_zero, List.set_cons_succ]
              refine takeH (i := 15) (d := some 27) (v := .bool false) rfl rfl (by kernel_rfl) (by kernel_rfl) (by kernel_rfl) (fun _ _ _ h => h) (Or.inl ⟨by rfl, fun W hSw => by obtain ⟨s0, s1, s2⟩ := hSw; go_simp <;> try omega⟩) hH ?_
              try simp only [put_some, List.set_cons_zero, List.set_cons_succ]
              refine takeH (i := 16) (d := some 28) (v := .int .i64 (k : Nat)) rfl rfl (by kernel_rfl) (by kernel_rfl) (by kernel_rfl) (fun _ _ _ h => h) (Or.inl ⟨by rfl, fun W hSw => by obtain ⟨s0, s1, s2⟩ := hSw; go_simp <;> try omega⟩) hH ?_
              try simp only [put_some, List.set_cons_zero, List.set_cons_succ]
              refine takeH (i := 17) (d := some 29) (v := .bool true) rfl rfl (by kernel_rfl) (by kernel_rfl) (by kernel_rfl) (fun _ _ _ h => h) (Or.inl ⟨by rfl, fun W hSw => by obtain ⟨s0, s1, s2⟩ := hSw; go_simp <;> try omega⟩) hH ?_
              try simp only [put_some, List.set_cons_zero, List.set_cons_succ]
              refine takeH (i := 18) (d := some 30) (v := .bool true) rfl rfl (by kernel_rfl) (by kernel_rfl) (by kernel_rfl) (fun _ _ _ h => h) (Or.inl ⟨by rfl, fun W hSw => by obtain ⟨s0, s1, s2⟩ := hSw; go_simp <;> try omega⟩) hH ?_
              try simp only [put_some, List.set_cons_zero, List.set_cons_succ]
              refine takeH (i := 19) (d := some 31) (v := .slice (some ⟨b, off, none⟩) n cap) rfl rfl (by kernel_rfl) (by kernel_rfl) (by kernel_rfl) (fun _ _ _ h => h) (Or.inl ⟨by rfl, fun W hSw => by obtain ⟨s0, s1, s2⟩ := hSw; go_simp <;> try omega⟩) hH ?_
              try simp only [put_some, List.set_cons_zero, List.set_cons_succ]
              refine takeH (i := 20) (d := some 32) (v := .int .i64 (k : Nat)) rfl rfl (by kernel_rfl) (by kernel_rfl) (by kernel_rfl) (fun _ _ _ h => h) (Or.inl ⟨by rfl, fun W hSw => by obtain ⟨s0, s1, s2⟩ := hSw; go_simp <;> try omega⟩) hH ?_
              try simp only [put_some, List.set_cons_zero, List.set_cons_succ]
              refine takeH (i := 21) (d := some 33) (v := .int .i64 (p : Nat)) rfl rfl (by kernel_rfl) (by kernel_rfl) (by kernel_rfl) (fun _ _ _ h => h) (Or.inl ⟨by rfl, fun W hSw => by obtain ⟨s0, s1, s2⟩ := hSw; go_simp <;> try omega⟩) hH ?_
              try simp only [put_some, List.set_cons_zero, List.set_cons_succ]
              refine takeH (i := 22) (d := some 34) (v := .pointer (some ⟨b, off + p * 2, none⟩)) rfl rfl (by kernel_rfl) (by kernel_rfl) (by kernel_rfl) (fun _ _ _ h => h) (Or.inl ⟨by rfl, fun W hSw => by obtain ⟨s0, s1, s2⟩ := hSw; go_simp <;> try omega⟩) hH ?_
              try simp only [put_some, List.set_cons_zero, List.set_cons_succ]
              refine takeH (i := 23) (d := some 35) (v := .pointer (some ⟨b, off + p * 2, none⟩)) rfl rfl (by kernel_rfl) (by kernel_rfl) (by kernel_rfl) (fun _ _ _ h => h) (Or.inl ⟨by rfl, fun W hSw => by obtain ⟨s0, s1, s2⟩ := hSw; go_simp <;> try omega⟩) hH ?_
              try simp only [put_some, List.set_cons_zero, List.set_cons_succ]
              refine takeH (i := 24) (d := some 36) (v := .int .i64 pid) rfl rfl (by kernel_rfl) (by kernel_rfl) (by kernel_rfl) (fun _ _ _ h => h) (Or.inl ⟨by rfl, fun W hSw => by obtain ⟨s0, s1, s2⟩ := hSw; go_simp <;> try omega⟩) hH ?_
              try simp only [put_some, List.set_cons_zero, List.set_cons_succ]
              refine takeH (i := 25) (d := some 37) (v := .slice (some ⟨b, off, none⟩) n cap) rfl rfl (by kernel_rfl) (by kernel_rfl) (by kernel_rfl) (fun _ _ _ h => h) (Or.inl ⟨by rfl, fun W hSw => by obtain ⟨s0, s1, s2⟩ := hSw; go_simp <;> try omega⟩) hH ?_
              try simp only [put_some, List.set_cons_zero, List.set_cons_succ]
              refine takeH (i := 26) (d := some 38) (v := .int .i64 (k : Nat)) rfl rfl (by kernel_rfl) (by kernel_rfl) (by kernel_rfl) (fun _ _ _ h => h) (Or.inl ⟨by rfl, fun W hSw => by obtain ⟨s0, s1, s2⟩ := hSw; go_simp <;> try omega⟩) hH ?_
              try simp only [put_some, List.set_cons_zero, List.set_cons_succ]
              refine takeH (i := 27) (d := some 39) (v := .pointer (some ⟨b, off + k * 2, none⟩)) rfl rfl (by kernel_rfl) (by kernel_rfl) (by kernel_rfl) (fun _ _ _ h => h) (Or.inl ⟨by rfl, fun W hSw => by obtain ⟨s0, s1, s2⟩ := hSw; go_simp <;> try omega⟩) hH ?_
              try simp only [put_some, List.set_cons_zero, List.set_cons_succ]
              refine takeH (i := 28) (d := some 40) (v := .pointer (some ⟨b, off + k * 2, none⟩)) rfl rfl (by kernel_rfl) (by kernel_rfl) (by kernel_rfl) (fun _ _ _ h => h) (Or.inl ⟨by rfl, fun W hSw => by obtain ⟨s0, s1, s2⟩ := hSw; go_simp <;> try omega⟩) hH ?_
              try simp only [put_some, List.set_cons_zero, List.set_cons_succ]
              refine takeH (i := 29) (d := some 41) (v := .int .i64 ri) rfl rfl (by kernel_rfl) (by kernel_rfl) (by kernel_rfl) (fun _ _ _ h => h) (Or.inl ⟨by rfl, fun W hSw => by obtain ⟨s0, s1, s2⟩ := hSw; go_simp <;> try omega⟩) hH ?_
              try simp only [put_some, List.set_cons_zero, List.set_cons_succ]
              refine takeH (i := 30) (d := some 42) (v := .bool false) rfl rfl (by kernel_rfl) (by kernel_rfl) (by kernel_rfl) (fun _ _ _ h => h) (Or.inl ⟨by rfl, fun W hSw => by obtain ⟨s0, s1, s2⟩ := hSw; go_simp <;> try omega⟩) hH ?_
              try simp only [put_some, List.set_cons_zero, List.set_cons_succ]
              refine takeH (i := 31) (d := some 43) (v := .bool false) rfl rfl (by kernel_rfl) (by kernel_rfl) (by kernel_rfl) (fun _ _ _ h => h) (Or.inl ⟨by rfl, fun W hSw => by obtain ⟨s0, s1, s2⟩ := hSw; go_simp <;> try omega⟩) hH ?_
              try simp only [put_some, List.set_cons_zero, List.set_cons_succ]
              refine takeH (i := 32) (d := some 44) (v := .bool false) rfl rfl (by kernel_rfl) (by kernel_rfl) (by kernel_rfl) (fun _ _ _ h => h) (Or.inl ⟨by rfl, fun W hSw => by obtain ⟨s0, s1, s2⟩ := hSw; go_simp <;> try omega⟩) hH ?_
              try simp only [put_some, List.set_cons_zero, List.set_cons_succ]
              refine wpAnyH_done (by kernel_rfl) ?_ _
              go_wp2
              go_roundw
              case rel => exact ⟨k + 1, by omega, by go_num, HS2.out, below_then hbr hB' hbr.size⟩
              case measure => simp [intOf]; omega
    · obtain rfl : k = n := by omega
      have HA : Hid (rowsOkL zs (ps.map (·.1)) = (colsB zs && decide (k ≤ 12))) := by
        show _ = _
        have e := rowsOk_end (zs := zs) (l := ps.map (·.1)) (fun j hj => HOK.out j (by rw [List.length_map, HL.out] at hj; exact hj))
        rw [List.length_map, HL.out] at e
        exact e
      generalize colsB zs = q at HCO HA
      cases q with
      | false =>
        go_wp2_with fail
        refine (HCO.out _ hbr).mono ?_
        rintro e w' ⟨rfl, rfl⟩
        go_wp2
        go_ret
        exact ⟨ret_bool (by rw [HA.out]; rfl), hbr⟩
      | true =>
        by_cases h12 : k ≤ 12
        · have h12' : (k : Int) ≤ 12 := by omega
          have HE : Hid (rowsOkL zs (ps.map (·.1)) = true) := by show _ = _; rw [HA.out, decide_eq_true h12]; rfl
          go_wp2_with fail
          refine (HCO.out _ hbr).mono ?_
          rintro e w' ⟨rfl, rfl⟩
          go_wp2
          go_ret
          exact ⟨ret_bool (by rw [HE.out] <;> try simp <;> try omega), hbr⟩
        · have h12' : ¬ ((k : Int) ≤ 12) := by omega
          have HE : Hid (rowsOkL zs (ps.map (·.1)) = false) := by show _ = _; rw [HA.out, decide_eq_false h12]; rfl
          go_wp2_with fail
          refine (HCO.out _ hbr).mono ?_
          rintro e w' ⟨rfl, rfl⟩
          go_wp2
          go_ret
          exact ⟨ret_bool (by rw [HE.out] <;> try simp <;> try omega), hbr⟩

set_option maxRecDepth 100000 in
set_option maxHeartbeats 4000000 in
theorem sFindRow : CFindRow 15 := by
  intro v id ps ls w hn hli h hls
  subst hls
  generalize hl : ps.length = n at hn
  obtain ⟨a, cap, rfl, _, HC⟩ := h.walk hl
  have HLI : Hid (∀ k, k < n → (ps.getD k P.zero).1.l.length ≤ 1048576) := fun k hk => by
    have hk' : k < ps.length := by omega
    have e : ps.getD k P.zero = ps[k] := by simp [hk']
    rw [e]
    exact hli _ (List.getElem_mem hk')
  have HHIT : Hid (∀ j, j < n → (∀ k, k < j → (ps.getD k P.zero).1.id ≠ id) → (ps.getD j P.zero).1.id = id → findL (ps.map (·.1)) id = some (ps.getD j P.zero).1) := fun j hj hk he => by
    have := find_hit (l := ps.map (·.1)) (n := id) (j := j) (by rw [List.length_map]; omega) (fun k hkj => by rw [getD_fstR]; exact hk k hkj) (by rw [getD_fstR]; exact he)
    rw [this, getD_fstR]
  have HNONE : Hid ((∀ k, k < n → (ps.getD k P.zero).1.id ≠ id) → findL (ps.map (·.1)) id = none) := fun hk => find_none (fun k hkj => by rw [getD_fstR]; exact hk k (by rw [List.length_map] at hkj; omega))
  have B1 := below_alloc w (.cells #[.int .i64 0, .slice none 0 0] 27)
  have T1 := two_new w (.int .i64 0) (.slice none 0 0) 27
  have hz1 : (w.alloc (.cells #[.int .i64 0, .slice none 0 0] 27)).heap.size = w.heap.size + 1 := World.size_alloc _ _
  generalize hw1 : w.alloc (.cells #[.int .i64 0, .slice none 0 0] 27) = w1 at B1 T1 hz1
  have HW1 := Lib.hid hw1
  clear hw1 hl h hli
  go_enter Try.func15, Try.ntmps15
  go_wp2
  rw [HW1.out]
  go_loopw [6] (fun i wr => ∃ j : Nat, j ≤ n ∧ i = .int .i64 j ∧ (∀ k, k < j → (ps.getD k P.zero).1.id ≠ id) ∧ Two wr w.heap.size (.int .i64 0) (.slice none 0 0) ∧ Below w.heap.size w wr ∧ w.heap.size + 1 ≤ wr.heap.size) (fun i _ => n - (intOf i).toNat)
  case atStart => exact ⟨0, Nat.zero_le _, rfl, fun k hk => by omega, T1, B1, by omega⟩
  case round =>
    obtain ⟨j, hj, rfl, hno, hT, hbr, hsz⟩ := hrel
    have HNO := Lib.hid hno
    clear hno T1 B1 hz1
    by_cases hlt : j < n
    · obtain ⟨b, off, rfl, c0, c1, hat⟩ := HC.out j hlt wr hbr
      have hll := HLI.out j hlt
      have HSTEP : Hid ((ps.getD j P.zero).1.id ≠ id → ∀ k, k < j + 1 → (ps.getD k P.zero).1.id ≠ id) := fun he k hk => by
        by_cases e : k = j
        · subst e; exact he
        · exact HNO.out k (by omega)
      have HFD := Lib.hid (HHIT.out j hlt HNO.out)
      generalize ps.getD j P.zero = pj at c0 c1 hat hll HSTEP HFD
      obtain ⟨r, x⟩ := pj
      simp only at c0 c1 hat hll HSTEP HFD
      obtain ⟨xa, xc, rfl⟩ := hat.sl
      have HAT := Lib.hid (fun W (hW : Below wr.heap.size wr W) => sL4Copy r (.slice xa r.l.length xc) W hll (hat.below hW))
      clear hat
      generalize hxl : r.l.length = xn at c1 hll HAT
      obtain ⟨ri, rl⟩ := r
      simp only at c0 c1 HAT HSTEP HFD
      clear hxl
      have BW := Below.refl wr.heap.size wr
      by_cases he : ri = id
      · have HF := Lib.hid (HFD.out he)
        subst he
        have hb1 : (ri == ri) = true := by simp
        have HA2 := Lib.hid (HAT.out _ BW)
        have hT2 := hT
        have B2 := below_then hbr BW hbr.size
        have hs2 := BW.size
        clear HFD HSTEP HAT
        go_wp2_with fail
        refine HA2.out.mono ?_
        rintro e w3 ⟨x3, rfl, o3, b3⟩
        clear c0 c1
        obtain ⟨ya, yc, hy⟩ := o3.atN.sl
        generalize rl.length = yn at hy
        subst hy
        have hs3 := b3.size
        have B3 := below_then B2 b3 B2.size
        have O3 := Lib.hid o3
        obtain ⟨⟨p0, p1⟩, p2, p3⟩ := hT2.below b3
        clear o3 b3 HA2 hT2
        go_wp2
        refine bodyPost_ret (v := .tuple #[.agg #[.int .i64 ri, .slice ya yn yc], .bool true]) (by simp [results, Try.results15, go_sem, *]) rfl ⟨.slice ya yn yc, ?_, ?_, ?_⟩
        · rw [HF.out]; rfl
        · rw [HF.out]
          exact ((O3.out.setBelow (by simp; omega) _).setBelow (by simp; omega) _).wide (by omega) (by simp)
        · exact (B3.setCell (by simp) _).setCell (by simp) _
      · have HS2 := Lib.hid (HSTEP.out he)
        have hb1 : (ri == id) = false := by simpa using he
        have hT2 := Lib.hid hT
        have B2 := below_then hbr BW hbr.size
        have hs2 := BW.size
        clear HFD HSTEP HAT he
        go_wp2
        go_roundw
        case rel => exact ⟨j + 1, by omega, by go_num, HS2.out, hT2.out, B2, by omega⟩
        case measure => simp [intOf]; omega
    · obtain rfl : j = n := by omega
      have HF := Lib.hid (HNONE.out HNO.out)
      obtain ⟨⟨p0, p1⟩, p2, p3⟩ := hT
      go_wp2
      refine bodyPost_ret (v := .tuple #[.agg #[.int .i64 0, .slice none 0 0], .bool false]) (by simp [results, Try.results15, go_sem, *]) rfl ⟨.slice none 0 0, ?_, ?_, ?_⟩
      · rw [HF.out]; rfl
      · rw [HF.out]; exact .inl ⟨rfl, rfl, rfl⟩
      · exact (hbr.setCell (by simp) _).setCell (by simp) _

end Go.Proofs.Ytkofafefnlommaa
