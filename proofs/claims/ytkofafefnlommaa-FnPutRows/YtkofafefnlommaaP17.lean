/- Texts of this claim, one behind the other: S13b, S13p, I13x. -/
import Derived.Test.YtkofafefnlommaaP16
import Derived.Test.YtkofafefnlommaaP5
import Derived.Test.YtkofafefnlommaaP12

/- The model's RowsOk, FindRow (written by mk_S13b.py). -/
namespace Go.Proofs.Ytkofafefnlommaa
open Go.RowKit

set_option maxRecDepth 100000 in
set_option maxHeartbeats 4000000 in
theorem sRowsOk : CRowsOk 22 := by
  intro u v zs ps ls w hz hu hss hn hli h hls
  subst hls
  generalize hl : ps.length = n at hn
  obtain ⟨a, cap, rfl, _, HC⟩ := h.walk hl
  have HRK := Lib.hid (fun (r : R) (x : Value) W (hW : Below w.heap.size w W) (hs : ∀ v ∈ r.l, v.s.size ≤ maxLen) (hr : r.rd W x) => sRowOk u x zs r W hs (hu.below hW) hr)
  have HCO := Lib.hid (fun W (hW : Below w.heap.size w W) => sColsOk u zs W (hu.below hW))
  obtain ⟨a1, c1, rfl, _⟩ := hu
  have HSS : Hid (∀ k, k < n → ∀ v ∈ (ps.getD k P.zero).1.l, v.s.size ≤ maxLen) := fun k hk => by
    have hk' : k < ps.length := by omega
    have e : ps.getD k P.zero = ps[k] := by simp [hk']
    rw [e]
    exact hss _ (List.getElem_mem hk')
  have HG : Hid (∀ k, (ps.map (·.1)).getD k R.zero = (ps.getD k P.zero).1) := fun k => (getD_fst ps k).symm
  have HL := Lib.hid hl
  have HZL := Lib.hid hz
  generalize hzn : zs.length = zn at HRK HCO ⊢
  clear hss hl h hli hz
  go_enter Try.func22, Try.ntmps22
  go_wp2
  go_loopw [5] (fun i wr => ∃ k : Nat, k ≤ n ∧ i = .int .i64 k ∧ (∀ j, j < k → goodB zs (ps.map (·.1)) j = true) ∧ Below w.heap.size w wr) (fun i _ => n - (intOf i).toNat)
  case atStart => exact ⟨0, Nat.zero_le _, rfl, fun j hj => by omega, Below.refl _ _⟩
  case round =>
    obtain ⟨k, hk, rfl, hok, hbr⟩ := hrel
    have HOK := Lib.hid hok
    clear hok hzn
    by_cases hlt : k < n
    · obtain ⟨b, off, rfl, c0, c1', hrd⟩ := HC.out k hlt wr hbr
      have HGD : Hid (goodB zs (ps.map (·.1)) k = (rowB zs (ps.getD k P.zero).1 && (decide ((ps.getD k P.zero).1.id ≤ 1000000000) && (decide (k = 0) || decide ((ps.getD (k - 1) P.zero).1.id < (ps.getD k P.zero).1.id))))) := by
        show goodB _ _ _ = _
        unfold goodB
        rw [HG.out k, HG.out (k - 1)]
      have HSY : Hid (goodB zs (ps.map (·.1)) k = true → ∀ j, j < k + 1 → goodB zs (ps.map (·.1)) j = true) := fun h j hj => by
        by_cases e : j = k
        · subst e; exact h
        · exact HOK.out j (by omega)
      have HNN : Hid (goodB zs (ps.map (·.1)) k = false → rowsOkL zs (ps.map (·.1)) = false) := rowsOk_no (by rw [List.length_map, HL.out]; exact hlt)
      have HRO := Lib.hid (fun W (hW : Below wr.heap.size wr W) => HRK.out (ps.getD k P.zero).1 (ps.getD k P.zero).2 W (below_then hbr hW hbr.size) (HSS.out k hlt) (hrd.below hW))
      have HPV : Hid (∀ p, k = p + 1 → wr.cell? ⟨b, off + p * 2, none⟩ = some (.int .i64 (ps.getD p P.zero).1.id)) := fun p hp => by
        obtain ⟨b', off', e, d0, _⟩ := HC.out p (by omega) wr hbr
        simp only [Option.some.injEq, Addr.mk.injEq, and_true] at e
        obtain ⟨rfl, rfl⟩ := e
        exact d0
      obtain ⟨q, hq⟩ : ∃ q, rowB zs (ps.getD k P.zero).1 = q := ⟨_, rfl⟩
      rw [hq] at HRO HGD
      clear hq
      generalize ps.getD k P.zero = pk at c0 c1' hrd HRO HGD
      obtain ⟨⟨ri, rl⟩, x⟩ := pk
      obtain ⟨xa, xc, hx, _⟩ := hrd
      simp only at hx c0 c1' HRO HGD
      generalize rl.length = xn at hx
      subst hx
      have HK : Hid (∀ W, Below wr.heap.size wr W → W.cell? ⟨b, off + k * 2, none⟩ = some (.int .i64 ri) ∧ W.cell? ⟨b, off + k * 2 + 1, none⟩ = some (.slice xa xn xc)) := fun W h => ⟨(h.cell (p := ⟨b, off + k * 2, none⟩) (lt_of_cell c0)).trans c0, (h.cell (p := ⟨b, off + k * 2 + 1, none⟩) (lt_of_cell c1')).trans c1'⟩
      have hB' := (Below.refl wr.heap.size wr).drew
      clear c0 c1'
      cases q with
      | false =>
        have HNO := Lib.hid (HNN.out (by rw [HGD.out, Bool.false_and]))
        clear HGD HSY HNN HPV
        go_wp2
        refine wp_region_held_drew (S := fun W => W.cell? ⟨b, off + k * 2, none⟩ = some (.int .i64 ri) ∧ W.cell? ⟨b, off + k * 2 + 1, none⟩ = some (.slice xa xn xc)) (by kernel_rfl) (HK.out _ hB') (fun hH => ?_)
        refine takeH (i := 0) (d := some 12) (v := .slice a1 zn c1) rfl rfl (by kernel_rfl) (by kernel_rfl) (by kernel_rfl) (fun _ _ _ h => h) (Or.inl ⟨by rfl, fun W hSw => by obtain ⟨s0, s1⟩ := hSw; go_simp <;> try omega⟩) hH ?_
        try simp only [put_some, List.set_cons_zero, List.set_cons_succ]
        refine takeH (i := 1) (d := some 13) (v := .slice (some ⟨b, off, none⟩) n cap) rfl rfl (by kernel_rfl) (by kernel_rfl) (by kernel_rfl) (fun _ _ _ h => h) (Or.inl ⟨by rfl, fun W hSw => by obtain ⟨s0, s1⟩ := hSw; go_simp <;> try omega⟩) hH ?_
        try simp only [put_some, List.set_cons_zero, List.set_cons_succ]
        refine takeH (i := 2) (d := some 14) (v := .int .i64 (k : Nat)) rfl rfl (by kernel_rfl) (by kernel_rfl) (by kernel_rfl) (fun _ _ _ h => h) (Or.inl ⟨by rfl, fun W hSw => by obtain ⟨s0, s1⟩ := hSw; go_simp <;> try omega⟩) hH ?_
        try simp only [put_some, List.set_cons_zero, List.set_cons_succ]
        refine takeH (i := 3) (d := some 15) (v := .pointer (some ⟨b, off + k * 2, none⟩)) rfl rfl (by kernel_rfl) (by kernel_rfl) (by kernel_rfl) (fun _ _ _ h => h) (Or.inl ⟨by rfl, fun W hSw => by obtain ⟨s0, s1⟩ := hSw; go_simp <;> try omega⟩) hH ?_
        try simp only [put_some, List.set_cons_zero, List.set_cons_succ]
        refine takeH (i := 4) (d := some 16) (v := .agg #[.int .i64 ri, .slice xa xn xc]) rfl rfl (by kernel_rfl) (by kernel_rfl) (by kernel_rfl) (fun _ _ _ h => h) (Or.inl ⟨by rfl, fun W hSw => by obtain ⟨s0, s1⟩ := hSw; go_simp <;> try omega⟩) hH ?_
        try simp only [put_some, List.set_cons_zero, List.set_cons_succ]
        refine wpAnyH_ready (rs := [5]) (by kernel_rfl) (by simp) ?_
        refine AllReadyH.cons rfl (fun K hK => ?_) AllReadyH.nil
        go_simp
        go_at_call 52
        refine (HRO.out _ hB').mono ?_
        rintro e w2 ⟨rfl, hb2⟩
        replace hB' := below_then hB' hb2 hB'.size
        go_wp2_with fail
        refine hK.out _ _ (HK.out _ hB') (fun hH => ?_)
        clear hK K
        refine takeH (i := 6) (d := some 18) (v := .bool true) rfl rfl (by kernel_rfl) (by kernel_rfl) (by kernel_rfl) (fun _ _ _ h => h) (Or.inl ⟨by rfl, fun W hSw => by obtain ⟨s0, s1⟩ := hSw; go_simp <;> try omega⟩) hH ?_
        try simp only [put_some, List.set_cons_zero, List.set_cons_succ]
        refine takeH (i := 7) (d := some 19) (v := .bool true) rfl rfl (by kernel_rfl) (by kernel_rfl) (by kernel_rfl) (fun _ _ _ h => h) (Or.inl ⟨by rfl, fun W hSw => by obtain ⟨s0, s1⟩ := hSw; go_simp <;> try omega⟩) hH ?_
        try simp only [put_some, List.set_cons_zero, List.set_cons_succ]
        refine takeH (i := 8) (d := some 20) (v := undef) rfl rfl (by kernel_rfl) (by kernel_rfl) (by kernel_rfl) (fun _ _ _ h => h) (Or.inr ⟨by rfl, rfl⟩) hH ?_
        try simp only [put_some, List.set_cons_zero, List.set_cons_succ]
        refine takeH (i := 9) (d := some 21) (v := undef) rfl rfl (by kernel_rfl) (by kernel_rfl) (by kernel_rfl) (fun _ _ _ h => h) (Or.inr ⟨by rfl, rfl⟩) hH ?_
        try simp only [put_some, List.set_cons_zero, List.set_cons_succ]
        refine takeH (i := 10) (d := some 22) (v := undef) rfl rfl (by kernel_rfl) (by kernel_rfl) (by kernel_rfl) (fun _ _ _ h => h) (Or.inr ⟨by rfl, rfl⟩) hH ?_
        try simp only [put_some, List.set_cons_zero, List.set_cons_succ]
        refine takeH (i := 11) (d := some 23) (v := undef) rfl rfl (by kernel_rfl) (by kernel_rfl) (by kernel_rfl) (fun _ _ _ h => h) (Or.inr ⟨by rfl, rfl⟩) hH ?_
        try simp only [put_some, List.set_cons_zero, List.set_cons_succ]
        refine takeH (i := 12) (d := some 24) (v := undef) rfl rfl (by kernel_rfl) (by kernel_rfl) (by kernel_rfl) (fun _ _ _ h => h) (Or.inr ⟨by rfl, rfl⟩) hH ?_
        try simp only [put_some, List.set_cons_zero, List.set_cons_succ]
        refine takeH (i := 13) (d := some 25) (v := undef) rfl rfl (by kernel_rfl) (by kernel_rfl) (by kernel_rfl) (fun _ _ _ h => h) (Or.inr ⟨by rfl, rfl⟩) hH ?_
        try simp only [put_some, List.set_cons_zero, List.set_cons_succ]
        refine takeH (i := 14) (d := some 26) (v := .bool true) rfl rfl (by kernel_rfl) (by kernel_rfl) (by kernel_rfl) (fun _ _ _ h => h) (Or.inl ⟨by rfl, fun W hSw => by obtain ⟨s0, s1⟩ := hSw; go_simp <;> try omega⟩) hH ?_
        try simp only [put_some, List.set_cons_zero, List.set_cons_succ]
        refine takeH (i := 15) (d := some 27) (v := .bool true) rfl rfl (by kernel_rfl) (by kernel_rfl) (by kernel_rfl) (fun _ _ _ h => h) (Or.inl ⟨by rfl, fun W hSw => by obtain ⟨s0, s1⟩ := hSw; go_simp <;> try omega⟩) hH ?_
        try simp only [put_some, List.set_cons_zero, List.set_cons_succ]
        refine takeH (i := 16) (d := some 28) (v := undef) rfl rfl (by kernel_rfl) (by kernel_rfl) (by kernel_rfl) (fun _ _ _ h => h) (Or.inr ⟨by rfl, rfl⟩) hH ?_
        try simp only [put_some, List.set_cons_zero, List.set_cons_succ]
        refine takeH (i := 17) (d := some 29) (v := undef) rfl rfl (by kernel_rfl) (by kernel_rfl) (by kernel_rfl) (fun _ _ _ h => h) (Or.inr ⟨by rfl, rfl⟩) hH ?_
        try simp only [put_some, List.set_cons_zero, List.set_cons_succ]
        refine takeH (i := 18) (d := some 30) (v := undef) rfl rfl (by kernel_rfl) (by kernel_rfl) (by kernel_rfl) (fun _ _ _ h => h) (Or.inr ⟨by rfl, rfl⟩) hH ?_
        try simp only [put_some, List.set_cons_zero, List.set_cons_succ]
        refine takeH (i := 19) (d := some 31) (v := undef) rfl rfl (by kernel_rfl) (by kernel_rfl) (by kernel_rfl) (fun _ _ _ h => h) (Or.inr ⟨by rfl, rfl⟩) hH ?_
        try simp only [put_some, List.set_cons_zero, List.set_cons_succ]
        refine takeH (i := 20) (d := some 32) (v := undef) rfl rfl (by kernel_rfl) (by kernel_rfl) (by kernel_rfl) (fun _ _ _ h => h) (Or.inr ⟨by rfl, rfl⟩) hH ?_
        try simp only [put_some, List.set_cons_zero, List.set_cons_succ]
        refine takeH (i := 21) (d := some 33) (v := undef) rfl rfl (by kernel_rfl) (by kernel_rfl) (by kernel_rfl) (fun _ _ _ h => h) (Or.inr ⟨by rfl, rfl⟩) hH ?_
        try simp only [put_some, List.set_cons_zero, List.set_cons_succ]
        refine takeH (i := 22) (d := some 34) (v := undef) rfl rfl (by kernel_rfl) (by kernel_rfl) (by kernel_rfl) (fun _ _ _ h => h) (Or.inr ⟨by rfl, rfl⟩) hH ?_
        try simp only [put_some, List.set_cons_zero, List.set_cons_succ]
        refine takeH (i := 23) (d := some 35) (v := undef) rfl rfl (by kernel_rfl) (by kernel_rfl) (by kernel_rfl) (fun _ _ _ h => h) (Or.inr ⟨by rfl, rfl⟩) hH ?_
        try simp only [put_some, List.set_cons_zero, List.set_cons_succ]
        refine takeH (i := 24) (d := some 36) (v := undef) rfl rfl (by kernel_rfl) (by kernel_rfl) (by kernel_rfl) (fun _ _ _ h => h) (Or.inr ⟨by rfl, rfl⟩) hH ?_
        try simp only [put_some, List.set_cons_zero, List.set_cons_succ]
        refine takeH (i := 25) (d := some 37) (v := undef) rfl rfl (by kernel_rfl) (by kernel_rfl) (by kernel_rfl) (fun _ _ _ h => h) (Or.inr ⟨by rfl, rfl⟩) hH ?_
        try simp only [put_some, List.set_cons_zero, List.set_cons_succ]
        refine takeH (i := 26) (d := some 38) (v := undef) rfl rfl (by kernel_rfl) (by kernel_rfl) (by kernel_rfl) (fun _ _ _ h => h) (Or.inr ⟨by rfl, rfl⟩) hH ?_
        try simp only [put_some, List.set_cons_zero, List.set_cons_succ]
        refine takeH (i := 27) (d := some 39) (v := undef) rfl rfl (by kernel_rfl) (by kernel_rfl) (by kernel_rfl) (fun _ _ _ h => h) (Or.inr ⟨by rfl, rfl⟩) hH ?_
        try simp only [put_some, List.set_cons_zero, List.set_cons_succ]
        refine takeH (i := 28) (d := some 40) (v := undef) rfl rfl (by kernel_rfl) (by kernel_rfl) (by kernel_rfl) (fun _ _ _ h => h) (Or.inr ⟨by rfl, rfl⟩) hH ?_
        try simp only [put_some, List.set_cons_zero, List.set_cons_succ]
        refine takeH (i := 29) (d := some 41) (v := undef) rfl rfl (by kernel_rfl) (by kernel_rfl) (by kernel_rfl) (fun _ _ _ h => h) (Or.inr ⟨by rfl, rfl⟩) hH ?_
        try simp only [put_some, List.set_cons_zero, List.set_cons_succ]
        refine takeH (i := 30) (d := some 42) (v := undef) rfl rfl (by kernel_rfl) (by kernel_rfl) (by kernel_rfl) (fun _ _ _ h => h) (Or.inr ⟨by rfl, rfl⟩) hH ?_
        try simp only [put_some, List.set_cons_zero, List.set_cons_succ]
        refine takeH (i := 31) (d := some 43) (v := undef) rfl rfl (by kernel_rfl) (by kernel_rfl) (by kernel_rfl) (fun _ _ _ h => h) (Or.inr ⟨by rfl, rfl⟩) hH ?_
        try simp only [put_some, List.set_cons_zero, List.set_cons_succ]
        refine takeH (i := 32) (d := some 44) (v := .bool true) rfl rfl (by kernel_rfl) (by kernel_rfl) (by kernel_rfl) (fun _ _ _ h => h) (Or.inl ⟨by rfl, fun W hSw => by obtain ⟨s0, s1⟩ := hSw; go_simp <;> try omega⟩) hH ?_
        try simp only [put_some, List.set_cons_zero, List.set_cons_succ]
        refine wpAnyH_done (by kernel_rfl) ?_ _
        go_wp2
        go_ret
        exact ⟨ret_bool HNO.out.symm, below_then hbr hB' hbr.size⟩
      | true =>
        by_cases hg : 1000000000 < ri
        · have HNO := Lib.hid (HNN.out (by rw [HGD.out, decide_eq_false (by omega), Bool.false_and, Bool.and_false]))
          clear HGD HSY HNN HPV
          go_wp2
          refine wp_region_held_drew (S := fun W => W.cell? ⟨b, off + k * 2, none⟩ = some (.int .i64 ri) ∧ W.cell? ⟨b, off + k * 2 + 1, none⟩ = some (.slice xa xn xc)) (by kernel_rfl) (HK.out _ hB') (fun hH => ?_)
          refine takeH (i := 0) (d := some 12) (v := .slice a1 zn c1) rfl rfl (by kernel_rfl) (by kernel_rfl) (by kernel_rfl) (fun _ _ _ h => h) (Or.inl ⟨by rfl, fun W hSw => by obtain ⟨s0, s1⟩ := hSw; go_simp <;> try omega⟩) hH ?_
          try simp only [put_some, List.set_cons_zero, List.set_cons_succ]
          refine takeH (i := 1) (d := some 13) (v := .slice (some ⟨b, off, none⟩) n cap) rfl rfl (by kernel_rfl) (by kernel_rfl) (by kernel_rfl) (fun _ _ _ h => h) (Or.inl ⟨by rfl, fun W hSw => by obtain ⟨s0, s1⟩ := hSw; go_simp <;> try omega⟩) hH ?_
          try simp only [put_some, List.set_cons_zero, List.set_cons_succ]
          refine takeH (i := 2) (d := some 14) (v := .int .i64 (k : Nat)) rfl rfl (by kernel_rfl) (by kernel_rfl) (by kernel_rfl) (fun _ _ _ h => h) (Or.inl ⟨by rfl, fun W hSw => by obtain ⟨s0, s1⟩ := hSw; go_simp <;> try omega⟩) hH ?_
          try simp only [put_some, List.set_cons_zero, List.set_cons_succ]
          refine takeH (i := 3) (d := some 15) (v := .pointer (some ⟨b, off + k * 2, none⟩)) rfl rfl (by kernel_rfl) (by kernel_rfl) (by kernel_rfl) (fun _ _ _ h => h) (Or.inl ⟨by rfl, fun W hSw => by obtain ⟨s0, s1⟩ := hSw; go_simp <;> try omega⟩) hH ?_
          try simp only [put_some, List.set_cons_zero, List.set_cons_succ]
          refine takeH (i := 4) (d := some 16) (v := .agg #[.int .i64 ri, .slice xa xn xc]) rfl rfl (by kernel_rfl) (by kernel_rfl) (by kernel_rfl) (fun _ _ _ h => h) (Or.inl ⟨by rfl, fun W hSw => by obtain ⟨s0, s1⟩ := hSw; go_simp <;> try omega⟩) hH ?_
          try simp only [put_some, List.set_cons_zero, List.set_cons_succ]
          refine wpAnyH_ready (rs := [5]) (by kernel_rfl) (by simp) ?_
          refine AllReadyH.cons rfl (fun K hK => ?_) AllReadyH.nil
          go_simp
          go_at_call 52
          refine (HRO.out _ hB').mono ?_
          rintro e w2 ⟨rfl, hb2⟩
          replace hB' := below_then hB' hb2 hB'.size
          go_wp2_with fail
          refine hK.out _ _ (HK.out _ hB') (fun hH => ?_)
          clear hK K
          refine takeH (i := 6) (d := some 18) (v := .bool false) rfl rfl (by kernel_rfl) (by kernel_rfl) (by kernel_rfl) (fun _ _ _ h => h) (Or.inl ⟨by rfl, fun W hSw => by obtain ⟨s0, s1⟩ := hSw; go_simp <;> try omega⟩) hH ?_
          try simp only [put_some, List.set_cons_zero, List.set_cons_succ]
          refine takeH (i := 7) (d := some 19) (v := .bool false) rfl rfl (by kernel_rfl) (by kernel_rfl) (by kernel_rfl) (fun _ _ _ h => h) (Or.inl ⟨by rfl, fun W hSw => by obtain ⟨s0, s1⟩ := hSw; go_simp <;> try omega⟩) hH ?_
          try simp only [put_some, List.set_cons_zero, List.set_cons_succ]
          refine takeH (i := 8) (d := some 20) (v := .slice (some ⟨b, off, none⟩) n cap) rfl rfl (by kernel_rfl) (by kernel_rfl) (by kernel_rfl) (fun _ _ _ h => h) (Or.inl ⟨by rfl, fun W hSw => by obtain ⟨s0, s1⟩ := hSw; go_simp <;> try omega⟩) hH ?_
          try simp only [put_some, List.set_cons_zero, List.set_cons_succ]
          refine takeH (i := 9) (d := some 21) (v := .int .i64 (k : Nat)) rfl rfl (by kernel_rfl) (by kernel_rfl) (by kernel_rfl) (fun _ _ _ h => h) (Or.inl ⟨by rfl, fun W hSw => by obtain ⟨s0, s1⟩ := hSw; go_simp <;> try omega⟩) hH ?_
          try simp only [put_some, List.set_cons_zero, List.set_cons_succ]
          refine takeH (i := 10) (d := some 22) (v := .pointer (some ⟨b, off + k * 2, none⟩)) rfl rfl (by kernel_rfl) (by kernel_rfl) (by kernel_rfl) (fun _ _ _ h => h) (Or.inl ⟨by rfl, fun W hSw => by obtain ⟨s0, s1⟩ := hSw; go_simp <;> try omega⟩) hH ?_
          try simp only [put_some, List.set_cons_zero, List.set_cons_succ]
          refine takeH (i := 11) (d := some 23) (v := .pointer (some ⟨b, off + k * 2, none⟩)) rfl rfl (by kernel_rfl) (by kernel_rfl) (by kernel_rfl) (fun _ _ _ h => h) (Or.inl ⟨by rfl, fun W hSw => by obtain ⟨s0, s1⟩ := hSw; go_simp <;> try omega⟩) hH ?_
          try simp only [put_some, List.set_cons_zero, List.set_cons_succ]
          refine takeH (i := 12) (d := some 24) (v := .int .i64 ri) rfl rfl (by kernel_rfl) (by kernel_rfl) (by kernel_rfl) (fun _ _ _ h => h) (Or.inl ⟨by rfl, fun W hSw => by obtain ⟨s0, s1⟩ := hSw; go_simp <;> try omega⟩) hH ?_
          try simp only [put_some, List.set_cons_zero, List.set_cons_succ]
          refine takeH (i := 13) (d := some 25) (v := .bool true) rfl rfl (by kernel_rfl) (by kernel_rfl) (by kernel_rfl) (fun _ _ _ h => h) (Or.inl ⟨by rfl, fun W hSw => by obtain ⟨s0, s1⟩ := hSw; go_simp <;> try omega⟩) hH ?_
          try simp only [put_some, List.set_cons_zero, List.set_cons_succ]
          refine takeH (i := 14) (d := some 26) (v := .bool true) rfl rfl (by kernel_rfl) (by kernel_rfl) (by kernel_rfl) (fun _ _ _ h => h) (Or.inl ⟨by rfl, fun W hSw => by obtain ⟨s0, s1⟩ := hSw; go_simp <;> try omega⟩) hH ?_
          try simp only [put_some, List.set_cons_zero, List.set_cons_succ]
          refine takeH (i := 15) (d := some 27) (v := .bool true) rfl rfl (by kernel_rfl) (by kernel_rfl) (by kernel_rfl) (fun _ _ _ h => h) (Or.inl ⟨by rfl, fun W hSw => by obtain ⟨s0, s1⟩ := hSw; go_simp <;> try omega⟩) hH ?_
          try simp only [put_some, List.set_cons_zero, List.set_cons_succ]
          refine takeH (i := 16) (d := some 28) (v := undef) rfl rfl (by kernel_rfl) (by kernel_rfl) (by kernel_rfl) (fun _ _ _ h => h) (Or.inr ⟨by rfl, rfl⟩) hH ?_
          try simp only [put_some, List.set_cons_zero, List.set_cons_succ]
          refine takeH (i := 17) (d := some 29) (v := undef) rfl rfl (by kernel_rfl) (by kernel_rfl) (by kernel_rfl) (fun _ _ _ h => h) (Or.inr ⟨by rfl, rfl⟩) hH ?_
          try simp only [put_some, List.set_cons_zero, List.set_cons_succ]
          refine takeH (i := 18) (d := some 30) (v := undef) rfl rfl (by kernel_rfl) (by kernel_rfl) (by kernel_rfl) (fun _ _ _ h => h) (Or.inr ⟨by rfl, rfl⟩) hH ?_
          try simp only [put_some, List.set_cons_zero, List.set_cons_succ]
          refine takeH (i := 19) (d := some 31) (v := undef) rfl rfl (by kernel_rfl) (by kernel_rfl) (by kernel_rfl) (fun _ _ _ h => h) (Or.inr ⟨by rfl, rfl⟩) hH ?_
          try simp only [put_some, List.set_cons_zero, List.set_cons_succ]
          refine takeH (i := 20) (d := some 32) (v := undef) rfl rfl (by kernel_rfl) (by kernel_rfl) (by kernel_rfl) (fun _ _ _ h => h) (Or.inr ⟨by rfl, rfl⟩) hH ?_
          try simp only [put_some, List.set_cons_zero, List.set_cons_succ]
          refine takeH (i := 21) (d := some 33) (v := undef) rfl rfl (by kernel_rfl) (by kernel_rfl) (by kernel_rfl) (fun _ _ _ h => h) (Or.inr ⟨by rfl, rfl⟩) hH ?_
          try simp only [put_some, List.set_cons_zero, List.set_cons_succ]
          refine takeH (i := 22) (d := some 34) (v := undef) rfl rfl (by kernel_rfl) (by kernel_rfl) (by kernel_rfl) (fun _ _ _ h => h) (Or.inr ⟨by rfl, rfl⟩) hH ?_
          try simp only [put_some, List.set_cons_zero, List.set_cons_succ]
          refine takeH (i := 23) (d := some 35) (v := undef) rfl rfl (by kernel_rfl) (by kernel_rfl) (by kernel_rfl) (fun _ _ _ h => h) (Or.inr ⟨by rfl, rfl⟩) hH ?_
          try simp only [put_some, List.set_cons_zero, List.set_cons_succ]
          refine takeH (i := 24) (d := some 36) (v := undef) rfl rfl (by kernel_rfl) (by kernel_rfl) (by kernel_rfl) (fun _ _ _ h => h) (Or.inr ⟨by rfl, rfl⟩) hH ?_
          try simp only [put_some, List.set_cons_zero, List.set_cons_succ]
          refine takeH (i := 25) (d := some 37) (v := undef) rfl rfl (by kernel_rfl) (by kernel_rfl) (by kernel_rfl) (fun _ _ _ h => h) (Or.inr ⟨by rfl, rfl⟩) hH ?_
          try simp only [put_some, List.set_cons_zero, List.set_cons_succ]
          refine takeH (i := 26) (d := some 38) (v := undef) rfl rfl (by kernel_rfl) (by kernel_rfl) (by kernel_rfl) (fun _ _ _ h => h) (Or.inr ⟨by rfl, rfl⟩) hH ?_
          try simp only [put_some, List.set_cons_zero, List.set_cons_succ]
          refine takeH (i := 27) (d := some 39) (v := undef) rfl rfl (by kernel_rfl) (by kernel_rfl) (by kernel_rfl) (fun _ _ _ h => h) (Or.inr ⟨by rfl, rfl⟩) hH ?_
          try simp only [put_some, List.set_cons_zero, List.set_cons_succ]
          refine takeH (i := 28) (d := some 40) (v := undef) rfl rfl (by kernel_rfl) (by kernel_rfl) (by kernel_rfl) (fun _ _ _ h => h) (Or.inr ⟨by rfl, rfl⟩) hH ?_
          try simp only [put_some, List.set_cons_zero, List.set_cons_succ]
          refine takeH (i := 29) (d := some 41) (v := undef) rfl rfl (by kernel_rfl) (by kernel_rfl) (by kernel_rfl) (fun _ _ _ h => h) (Or.inr ⟨by rfl, rfl⟩) hH ?_
          try simp only [put_some, List.set_cons_zero, List.set_cons_succ]
          refine takeH (i := 30) (d := some 42) (v := undef) rfl rfl (by kernel_rfl) (by kernel_rfl) (by kernel_rfl) (fun _ _ _ h => h) (Or.inr ⟨by rfl, rfl⟩) hH ?_
          try simp only [put_some, List.set_cons_zero, List.set_cons_succ]
          refine takeH (i := 31) (d := some 43) (v := undef) rfl rfl (by kernel_rfl) (by kernel_rfl) (by kernel_rfl) (fun _ _ _ h => h) (Or.inr ⟨by rfl, rfl⟩) hH ?_
          try simp only [put_some, List.set_cons_zero, List.set_cons_succ]
          refine takeH (i := 32) (d := some 44) (v := .bool true) rfl rfl (by kernel_rfl) (by kernel_rfl) (by kernel_rfl) (fun _ _ _ h => h) (Or.inl ⟨by rfl, fun W hSw => by obtain ⟨s0, s1⟩ := hSw; go_simp <;> try omega⟩) hH ?_
          try simp only [put_some, List.set_cons_zero, List.set_cons_succ]
          refine wpAnyH_done (by kernel_rfl) ?_ _
          go_wp2
          go_ret
          exact ⟨ret_bool HNO.out.symm, below_then hbr hB' hbr.size⟩
        · rcases Nat.eq_zero_or_pos k with hk0 | hk0
          · have HS2 := Lib.hid (HSY.out (by rw [HGD.out, decide_eq_true (show ri ≤ 1000000000 by omega), decide_eq_true hk0]; rfl))
            clear HGD HSY HNN HPV
            have hkz : ¬ (0 < (k : Int)) := by omega
            have hkn' : (k : Int) < (n : Int) := by omega
            clear hk0
            go_wp2
            refine wp_region_held_drew (S := fun W => W.cell? ⟨b, off + k * 2, none⟩ = some (.int .i64 ri) ∧ W.cell? ⟨b, off + k * 2 + 1, none⟩ = some (.slice xa xn xc)) (by kernel_rfl) (HK.out _ hB') (fun hH => ?_)
            refine takeH (i := 0) (d := some 12) (v := .slice a1 zn c1) rfl rfl (by kernel_rfl) (by kernel_rfl) (by kernel_rfl) (fun _ _ _ h => h) (Or.inl ⟨by rfl, fun W hSw => by obtain ⟨s0, s1⟩ := hSw; go_simp <;> try omega⟩) hH ?_
            try simp only [put_some, List.set_cons_zero, List.set_cons_succ]
            refine takeH (i := 1) (d := some 13) (v := .slice (some ⟨b, off, none⟩) n cap) rfl rfl (by kernel_rfl) (by kernel_rfl) (by kernel_rfl) (fun _ _ _ h => h) (Or.inl ⟨by rfl, fun W hSw => by obtain ⟨s0, s1⟩ := hSw; go_simp <;> try omega⟩) hH ?_
            try simp only [put_some, List.set_cons_zero, List.set_cons_succ]
            refine takeH (i := 2) (d := some 14) (v := .int .i64 (k : Nat)) rfl rfl (by kernel_rfl) (by kernel_rfl) (by kernel_rfl) (fun _ _ _ h => h) (Or.inl ⟨by rfl, fun W hSw => by obtain ⟨s0, s1⟩ := hSw; go_simp <;> try omega⟩) hH ?_
            try simp only [put_some, List.set_cons_zero, List.set_cons_succ]
            refine takeH (i := 3) (d := some 15) (v := .pointer (some ⟨b, off + k * 2, none⟩)) rfl rfl (by kernel_rfl) (by kernel_rfl) (by kernel_rfl) (fun _ _ _ h => h) (Or.inl ⟨by rfl, fun W hSw => by obtain ⟨s0, s1⟩ := hSw; go_simp <;> try omega⟩) hH ?_
            try simp only [put_some, List.set_cons_zero, List.set_cons_succ]
            refine takeH (i := 4) (d := some 16) (v := .agg #[.int .i64 ri, .slice xa xn xc]) rfl rfl (by kernel_rfl) (by kernel_rfl) (by kernel_rfl) (fun _ _ _ h => h) (Or.inl ⟨by rfl, fun W hSw => by obtain ⟨s0, s1⟩ := hSw; go_simp <;> try omega⟩) hH ?_
            try simp only [put_some, List.set_cons_zero, List.set_cons_succ]
            refine wpAnyH_ready (rs := [5]) (by kernel_rfl) (by simp) ?_
            refine AllReadyH.cons rfl (fun K hK => ?_) AllReadyH.nil
            go_simp
            go_at_call 52
            refine (HRO.out _ hB').mono ?_
            rintro e w2 ⟨rfl, hb2⟩
            replace hB' := below_then hB' hb2 hB'.size
            go_wp2_with fail
            refine hK.out _ _ (HK.out _ hB') (fun hH => ?_)
            clear hK K
            refine takeH (i := 6) (d := some 18) (v := .bool false) rfl rfl (by kernel_rfl) (by kernel_rfl) (by kernel_rfl) (fun _ _ _ h => h) (Or.inl ⟨by rfl, fun W hSw => by obtain ⟨s0, s1⟩ := hSw; go_simp <;> try omega⟩) hH ?_
            try simp only [put_some, List.set_cons_zero, List.set_cons_succ]
            refine takeH (i := 7) (d := some 19) (v := .bool false) rfl rfl (by kernel_rfl) (by kernel_rfl) (by kernel_rfl) (fun _ _ _ h => h) (Or.inl ⟨by rfl, fun W hSw => by obtain ⟨s0, s1⟩ := hSw; go_simp <;> try omega⟩) hH ?_
            try simp only [put_some, List.set_cons_zero, List.set_cons_succ]
            refine takeH (i := 8) (d := some 20) (v := .slice (some ⟨b, off, none⟩) n cap) rfl rfl (by kernel_rfl) (by kernel_rfl) (by kernel_rfl) (fun _ _ _ h => h) (Or.inl ⟨by rfl, fun W hSw => by obtain ⟨s0, s1⟩ := hSw; go_simp <;> try omega⟩) hH ?_
            try simp only [put_some, List.set_cons_zero, List.set_cons_succ]
            refine takeH (i := 9) (d := some 21) (v := .int .i64 (k : Nat)) rfl rfl (by kernel_rfl) (by kernel_rfl) (by kernel_rfl) (fun _ _ _ h => h) (Or.inl ⟨by rfl, fun W hSw => by obtain ⟨s0, s1⟩ := hSw; go_simp <;> try omega⟩) hH ?_
            try simp only [put_some, List.set_cons_zero, List.set_cons_succ]
            refine takeH (i := 10) (d := some 22) (v := .pointer (some ⟨b, off + k * 2, none⟩)) rfl rfl (by kernel_rfl) (by kernel_rfl) (by kernel_rfl) (fun _ _ _ h => h) (Or.inl ⟨by rfl, fun W hSw => by obtain ⟨s0, s1⟩ := hSw; go_simp <;> try omega⟩) hH ?_
            try simp only [put_some, List.set_cons_zero, List.set_cons_succ]
            refine takeH (i := 11) (d := some 23) (v := .pointer (some ⟨b, off + k * 2, none⟩)) rfl rfl (by kernel_rfl) (by kernel_rfl) (by kernel_rfl) (fun _ _ _ h => h) (Or.inl ⟨by rfl, fun W hSw => by obtain ⟨s0, s1⟩ := hSw; go_simp <;> try omega⟩) hH ?_
            try simp only [put_some, List.set_cons_zero, List.set_cons_succ]
            refine takeH (i := 12) (d := some 24) (v := .int .i64 ri) rfl rfl (by kernel_rfl) (by kernel_rfl) (by kernel_rfl) (fun _ _ _ h => h) (Or.inl ⟨by rfl, fun W hSw => by obtain ⟨s0, s1⟩ := hSw; go_simp <;> try omega⟩) hH ?_
            try simp only [put_some, List.set_cons_zero, List.set_cons_succ]
            refine takeH (i := 13) (d := some 25) (v := .bool false) rfl rfl (by kernel_rfl) (by kernel_rfl) (by kernel_rfl) (fun _ _ _ h => h) (Or.inl ⟨by rfl, fun W hSw => by obtain ⟨s0, s1⟩ := hSw; go_simp <;> try omega⟩) hH ?_
            try simp only [put_some, List.set_cons_zero, List.set_cons_succ]
            refine takeH (i := 14) (d := some 26) (v := .bool false) rfl rfl (by kernel_rfl) (by kernel_rfl) (by kernel_rfl) (fun _ _ _ h => h) (Or.inl ⟨by rfl, fun W hSw => by obtain ⟨s0, s1⟩ := hSw; go_simp <;> try omega⟩) hH ?_
            try simp only [put_some, List.set_cons_zero, List.set_cons_succ]
            refine takeH (i := 15) (d := some 27) (v := .bool false) rfl rfl (by kernel_rfl) (by kernel_rfl) (by kernel_rfl) (fun _ _ _ h => h) (Or.inl ⟨by rfl, fun W hSw => by obtain ⟨s0, s1⟩ := hSw; go_simp <;> try omega⟩) hH ?_
            try simp only [put_some, List.set_cons_zero, List.set_cons_succ]
            refine takeH (i := 16) (d := some 28) (v := .int .i64 (k : Nat)) rfl rfl (by kernel_rfl) (by kernel_rfl) (by kernel_rfl) (fun _ _ _ h => h) (Or.inl ⟨by rfl, fun W hSw => by obtain ⟨s0, s1⟩ := hSw; go_simp <;> try omega⟩) hH ?_
            try simp only [put_some, List.set_cons_zero, List.set_cons_succ]
            refine takeH (i := 17) (d := some 29) (v := .bool false) rfl rfl (by kernel_rfl) (by kernel_rfl) (by kernel_rfl) (fun _ _ _ h => h) (Or.inl ⟨by rfl, fun W hSw => by obtain ⟨s0, s1⟩ := hSw; go_simp <;> try omega⟩) hH ?_
            try simp only [put_some, List.set_cons_zero, List.set_cons_succ]
            refine takeH (i := 18) (d := some 30) (v := .bool false) rfl rfl (by kernel_rfl) (by kernel_rfl) (by kernel_rfl) (fun _ _ _ h => h) (Or.inl ⟨by rfl, fun W hSw => by obtain ⟨s0, s1⟩ := hSw; go_simp <;> try omega⟩) hH ?_
            try simp only [put_some, List.set_cons_zero, List.set_cons_succ]
            refine takeH (i := 19) (d := some 31) (v := undef) rfl rfl (by kernel_rfl) (by kernel_rfl) (by kernel_rfl) (fun _ _ _ h => h) (Or.inr ⟨by rfl, rfl⟩) hH ?_
            try simp only [put_some, List.set_cons_zero, List.set_cons_succ]
            refine takeH (i := 20) (d := some 32) (v := undef) rfl rfl (by kernel_rfl) (by kernel_rfl) (by kernel_rfl) (fun _ _ _ h => h) (Or.inr ⟨by rfl, rfl⟩) hH ?_
            try simp only [put_some, List.set_cons_zero, List.set_cons_succ]
            refine takeH (i := 21) (d := some 33) (v := undef) rfl rfl (by kernel_rfl) (by kernel_rfl) (by kernel_rfl) (fun _ _ _ h => h) (Or.inr ⟨by rfl, rfl⟩) hH ?_
            try simp only [put_some, List.set_cons_zero, List.set_cons_succ]
            refine takeH (i := 22) (d := some 34) (v := undef) rfl rfl (by kernel_rfl) (by kernel_rfl) (by kernel_rfl) (fun _ _ _ h => h) (Or.inr ⟨by rfl, rfl⟩) hH ?_
            try simp only [put_some, List.set_cons_zero, List.set_cons_succ]
            refine takeH (i := 23) (d := some 35) (v := undef) rfl rfl (by kernel_rfl) (by kernel_rfl) (by kernel_rfl) (fun _ _ _ h => h) (Or.inr ⟨by rfl, rfl⟩) hH ?_
            try simp only [put_some, List.set_cons_zero, List.set_cons_succ]
            refine takeH (i := 24) (d := some 36) (v := undef) rfl rfl (by kernel_rfl) (by kernel_rfl) (by kernel_rfl) (fun _ _ _ h => h) (Or.inr ⟨by rfl, rfl⟩) hH ?_
            try simp only [put_some, List.set_cons_zero, List.set_cons_succ]
            refine takeH (i := 25) (d := some 37) (v := undef) rfl rfl (by kernel_rfl) (by kernel_rfl) (by kernel_rfl) (fun _ _ _ h => h) (Or.inr ⟨by rfl, rfl⟩) hH ?_
            try simp only [put_some, List.set_cons_zero, List.set_cons_succ]
            refine takeH (i := 26) (d := some 38) (v := undef) rfl rfl (by kernel_rfl) (by kernel_rfl) (by kernel_rfl) (fun _ _ _ h => h) (Or.inr ⟨by rfl, rfl⟩) hH ?_
            try simp only [put_some, List.set_cons_zero, List.set_cons_succ]
            refine takeH (i := 27) (d := some 39) (v := undef) rfl rfl (by kernel_rfl) (by kernel_rfl) (by kernel_rfl) (fun _ _ _ h => h) (Or.inr ⟨by rfl, rfl⟩) hH ?_
            try simp only [put_some, List.set_cons_zero, List.set_cons_succ]
            refine takeH (i := 28) (d := some 40) (v := undef) rfl rfl (by kernel_rfl) (by kernel_rfl) (by kernel_rfl) (fun _ _ _ h => h) (Or.inr ⟨by rfl, rfl⟩) hH ?_
            try simp only [put_some, List.set_cons_zero, List.set_cons_succ]
            refine takeH (i := 29) (d := some 41) (v := undef) rfl rfl (by kernel_rfl) (by kernel_rfl) (by kernel_rfl) (fun _ _ _ h => h) (Or.inr ⟨by rfl, rfl⟩) hH ?_
            try simp only [put_some, List.set_cons_zero, List.set_cons_succ]
            refine takeH (i := 30) (d := some 42) (v := undef) rfl rfl (by kernel_rfl) (by kernel_rfl) (by kernel_rfl) (fun _ _ _ h => h) (Or.inr ⟨by rfl, rfl⟩) hH ?_
            try simp only [put_some, List.set_cons_zero, List.set_cons_succ]
            refine takeH (i := 31) (d := some 43) (v := .bool false) rfl rfl (by kernel_rfl) (by kernel_rfl) (by kernel_rfl) (fun _ _ _ h => h) (Or.inl ⟨by rfl, fun W hSw => by obtain ⟨s0, s1⟩ := hSw; go_simp <;> try omega⟩) hH ?_
            try simp only [put_some, List.set_cons_zero, List.set_cons_succ]
            refine takeH (i := 32) (d := some 44) (v := .bool false) rfl rfl (by kernel_rfl) (by kernel_rfl) (by kernel_rfl) (fun _ _ _ h => h) (Or.inl ⟨by rfl, fun W hSw => by obtain ⟨s0, s1⟩ := hSw; go_simp <;> try omega⟩) hH ?_
            try simp only [put_some, List.set_cons_zero, List.set_cons_succ]
            refine wpAnyH_done (by kernel_rfl) ?_ _
            go_wp2
            go_roundw
            case rel => exact ⟨k + 1, by omega, by go_num, HS2.out, below_then hbr hB' hbr.size⟩
            case measure => simp [intOf]; omega
          · obtain ⟨p, hp⟩ : ∃ p, k = p + 1 := ⟨k - 1, by omega⟩
            have d0 := HPV.out p hp
            have e1 : k - 1 = p := by omega
            rw [e1] at HGD
            generalize (ps.getD p P.zero).1.id = pid at d0 HGD
            have HKD : Hid (∀ W, Below wr.heap.size wr W → W.cell? ⟨b, off + k * 2, none⟩ = some (.int .i64 ri) ∧ W.cell? ⟨b, off + k * 2 + 1, none⟩ = some (.slice xa xn xc) ∧ W.cell? ⟨b, off + p * 2, none⟩ = some (.int .i64 pid)) := fun W h => ⟨(HK.out W h).1, (HK.out W h).2, (h.cell (p := ⟨b, off + p * 2, none⟩) (lt_of_cell d0)).trans d0⟩
            have hwp : IntKind.i64.wrap ((k : Int) - 1) = (p : Int) := by rw [IntKind.wrap_i64]; omega
            have hkz : (0 : Int) < (k : Int) := by omega
            have hpn : p < n := by omega
            have hpn' : (p : Int) < (n : Int) := by omega
            have hkn' : (k : Int) < (n : Int) := by omega
            have HP := Lib.hid hp
            have hgd : decide (k = 0) = false := decide_eq_false (by omega)
            rw [hgd, decide_eq_true (show ri ≤ 1000000000 by omega)] at HGD
            simp only [Bool.true_and, Bool.false_or] at HGD
            clear d0 e1 hp HPV hgd hk0
            by_cases hle : ri ≤ pid
            · have HNO := Lib.hid (HNN.out (by rw [HGD.out]; exact decide_eq_false (by omega)))
              clear HGD HSY HNN
              go_wp2
              refine wp_region_held_drew (S := fun W => W.cell? ⟨b, off + k * 2, none⟩ = some (.int .i64 ri) ∧ W.cell? ⟨b, off + k * 2 + 1, none⟩ = some (.slice xa xn xc) ∧ W.cell? ⟨b, off + p * 2, none⟩ = some (.int .i64 pid)) (by kernel_rfl) (HKD.out _ hB') (fun hH => ?_)
              refine takeH (i := 0) (d := some 12) (v := .slice a1 zn c1) rfl rfl (by kernel_rfl) (by kernel_rfl) (by kernel_rfl) (fun _ _ _ h => h) (Or.inl ⟨by rfl, fun W hSw => by obtain ⟨s0, s1, s2⟩ := hSw; go_simp <;> try omega⟩) hH ?_
              try simp only [put_some, List.set_cons_zero, List.set_cons_succ]
              refine takeH (i := 1) (d := some 13) (v := .slice (some ⟨b, off, none⟩) n cap) rfl rfl (by kernel_rfl) (by kernel_rfl) (by kernel_rfl) (fun _ _ _ h => h) (Or.inl ⟨by rfl, fun W hSw => by obtain ⟨s0, s1, s2⟩ := hSw; go_simp <;> try omega⟩) hH ?_
              try simp only [put_some, List.set_cons_zero, List.set_cons_succ]
              refine takeH (i := 2) (d := some 14) (v := .int .i64 (k : Nat)) rfl rfl (by kernel_rfl) (by kernel_rfl) (by kernel_rfl) (fun _ _ _ h => h) (Or.inl ⟨by rfl, fun W hSw => by obtain ⟨s0, s1, s2⟩ := hSw; go_simp <;> try omega⟩) hH ?_
              try simp only [put_some, List.set_cons_zero, List.set_cons_succ]
              refine takeH (i := 3) (d := some 15) (v := .pointer (some ⟨b, off + k * 2, none⟩)) rfl rfl (by kernel_rfl) (by kernel_rfl) (by kernel_rfl) (fun _ _ _ h => h) (Or.inl ⟨by rfl, fun W hSw => by obtain ⟨s0, s1, s2⟩ := hSw; go_simp <;> try omega⟩) hH ?_
              try simp only [put_some, List.set_cons_zero, List.set_cons_succ]
              refine takeH (i := 4) (d := some 16) (v := .agg #[.int .i64 ri, .slice xa xn xc]) rfl rfl (by kernel_rfl) (by kernel_rfl) (by kernel_rfl) (fun _ _ _ h => h) (Or.inl ⟨by rfl, fun W hSw => by obtain ⟨s0, s1, s2⟩ := hSw; go_simp <;> try omega⟩) hH ?_
              try simp only [put_some, List.set_cons_zero, List.set_cons_succ]
              refine wpAnyH_ready (rs := [5]) (by kernel_rfl) (by simp) ?_
              refine AllReadyH.cons rfl (fun K hK => ?_) AllReadyH.nil
              go_simp
              go_at_call 52
              refine (HRO.out _ hB').mono ?_
              rintro e w2 ⟨rfl, hb2⟩
              replace hB' := below_then hB' hb2 hB'.size
              go_wp2_with fail
              refine hK.out _ _ (HKD.out _ hB') (fun hH => ?_)
              clear hK K
              refine takeH (i := 6) (d := some 18) (v := .bool false) rfl rfl (by kernel_rfl) (by kernel_rfl) (by kernel_rfl) (fun _ _ _ h => h) (Or.inl ⟨by rfl, fun W hSw => by obtain ⟨s0, s1, s2⟩ := hSw; go_simp <;> try omega⟩) hH ?_
              try simp only [put_some, List.set_cons_zero, List.set_cons_succ]
              refine takeH (i := 7) (d := some 19) (v := .bool false) rfl rfl (by kernel_rfl) (by kernel_rfl) (by kernel_rfl) (fun _ _ _ h => h) (Or.inl ⟨by rfl, fun W hSw => by obtain ⟨s0, s1, s2⟩ := hSw; go_simp <;> try omega⟩) hH ?_
              try simp only [put_some, List.set_cons_zero, List.set_cons_succ]
              refine takeH (i := 8) (d := some 20) (v := .slice (some ⟨b, off, none⟩) n cap) rfl rfl (by kernel_rfl) (by kernel_rfl) (by kernel_rfl) (fun _ _ _ h => h) (Or.inl ⟨by rfl, fun W hSw => by obtain ⟨s0, s1, s2⟩ := hSw; go_simp <;> try omega⟩) hH ?_
              try simp only [put_some, List.set_cons_zero, List.set_cons_succ]
              refine takeH (i := 9) (d := some 21) (v := .int .i64 (k : Nat)) rfl rfl (by kernel_rfl) (by kernel_rfl) (by kernel_rfl) (fun _ _ _ h => h) (Or.inl ⟨by rfl, fun W hSw => by obtain ⟨s0, s1, s2⟩ := hSw; go_simp <;> try omega⟩) hH ?_
              try simp only [put_some, List.set_cons_zero, List.set_cons_succ]
              refine takeH (i := 10) (d := some 22) (v := .pointer (some ⟨b, off + k * 2, none⟩)) rfl rfl (by kernel_rfl) (by kernel_rfl) (by kernel_rfl) (fun _ _ _ h => h) (Or.inl ⟨by rfl, fun W hSw => by obtain ⟨s0, s1, s2⟩ := hSw; go_simp <;> try omega⟩) hH ?_
              try simp only [put_some, List.set_cons_zero, List.set_cons_succ]
              refine takeH (i := 11) (d := some 23) (v := .pointer (some ⟨b, off + k * 2, none⟩)) rfl rfl (by kernel_rfl) (by kernel_rfl) (by kernel_rfl) (fun _ _ _ h => h) (Or.inl ⟨by rfl, fun W hSw => by obtain ⟨s0, s1, s2⟩ := hSw; go_simp <;> try omega⟩) hH ?_
              try simp only [put_some, List.set_cons_zero, List.set_cons_succ]
              refine takeH (i := 12) (d := some 24) (v := .int .i64 ri) rfl rfl (by kernel_rfl) (by kernel_rfl) (by kernel_rfl) (fun _ _ _ h => h) (Or.inl ⟨by rfl, fun W hSw => by obtain ⟨s0, s1, s2⟩ := hSw; go_simp <;> try omega⟩) hH ?_
              try simp only [put_some, List.set_cons_zero, List.set_cons_succ]
              refine takeH (i := 13) (d := some 25) (v := .bool false) rfl rfl (by kernel_rfl) (by kernel_rfl) (by kernel_rfl) (fun _ _ _ h => h) (Or.inl ⟨by rfl, fun W hSw => by obtain ⟨s0, s1, s2⟩ := hSw; go_simp <;> try omega⟩) hH ?_
              try simp only [put_some, List.set_cons_zero, List.set_cons_succ]
              refine takeH (i := 14) (d := some 26) (v := .bool false) rfl rfl (by kernel_rfl) (by kernel_rfl) (by kernel_rfl) (fun _ _ _ h => h) (Or.inl ⟨by rfl, fun W hSw => by obtain ⟨s0, s1, s2⟩ := hSw; go_simp <;> try omega⟩) hH ?_
              try simp only [put_some, List.set_cons_zero, List.set_cons_succ]
              refine takeH (i := 15) (d := some 27) (v := .bool false) rfl rfl (by kernel_rfl) (by kernel_rfl) (by kernel_rfl) (fun _ _ _ h => h) (Or.inl ⟨by rfl, fun W hSw => by obtain ⟨s0, s1, s2⟩ := hSw; go_simp <;> try omega⟩) hH ?_
              try simp only [put_some, List.set_cons_zero, List.set_cons_succ]
              refine takeH (i := 16) (d := some 28) (v := .int .i64 (k : Nat)) rfl rfl (by kernel_rfl) (by kernel_rfl) (by kernel_rfl) (fun _ _ _ h => h) (Or.inl ⟨by rfl, fun W hSw => by obtain ⟨s0, s1, s2⟩ := hSw; go_simp <;> try omega⟩) hH ?_
              try simp only [put_some, List.set_cons_zero, List.set_cons_succ]
              refine takeH (i := 17) (d := some 29) (v := .bool true) rfl rfl (by kernel_rfl) (by kernel_rfl) (by kernel_rfl) (fun _ _ _ h => h) (Or.inl ⟨by rfl, fun W hSw => by obtain ⟨s0, s1, s2⟩ := hSw; go_simp <;> try omega⟩) hH ?_
              try simp only [put_some, List.set_cons_zero, List.set_cons_succ]
              refine takeH (i := 18) (d := some 30) (v := .bool true) rfl rfl (by kernel_rfl) (by kernel_rfl) (by kernel_rfl) (fun _ _ _ h => h) (Or.inl ⟨by rfl, fun W hSw => by obtain ⟨s0, s1, s2⟩ := hSw; go_simp <;> try omega⟩) hH ?_
              try simp only [put_some, List.set_cons_zero, List.set_cons_succ]
              refine takeH (i := 19) (d := some 31) (v := .slice (some ⟨b, off, none⟩) n cap) rfl rfl (by kernel_rfl) (by kernel_rfl) (by kernel_rfl) (fun _ _ _ h => h) (Or.inl ⟨by rfl, fun W hSw => by obtain ⟨s0, s1, s2⟩ := hSw; go_simp <;> try omega⟩) hH ?_
              try simp only [put_some, List.set_cons_zero, List.set_cons_succ]
              refine takeH (i := 20) (d := some 32) (v := .int .i64 (k : Nat)) rfl rfl (by kernel_rfl) (by kernel_rfl) (by kernel_rfl) (fun _ _ _ h => h) (Or.inl ⟨by rfl, fun W hSw => by obtain ⟨s0, s1, s2⟩ := hSw; go_simp <;> try omega⟩) hH ?_
              try simp only [put_some, List.set_cons_zero, List.set_cons_succ]
              refine takeH (i := 21) (d := some 33) (v := .int .i64 (p : Nat)) rfl rfl (by kernel_rfl) (by kernel_rfl) (by kernel_rfl) (fun _ _ _ h => h) (Or.inl ⟨by rfl, fun W hSw => by obtain ⟨s0, s1, s2⟩ := hSw; go_simp <;> try omega⟩) hH ?_
              try simp only [put_some, List.set_cons_zero, List.set_cons_succ]
              refine takeH (i := 22) (d := some 34) (v := .pointer (some ⟨b, off + p * 2, none⟩)) rfl rfl (by kernel_rfl) (by kernel_rfl) (by kernel_rfl) (fun _ _ _ h => h) (Or.inl ⟨by rfl, fun W hSw => by obtain ⟨s0, s1, s2⟩ := hSw; go_simp <;> try omega⟩) hH ?_
              try simp only [put_some, List.set_cons_zero, List.set_cons_succ]
              refine takeH (i := 23) (d := some 35) (v := .pointer (some ⟨b, off + p * 2, none⟩)) rfl rfl (by kernel_rfl) (by kernel_rfl) (by kernel_rfl) (fun _ _ _ h => h) (Or.inl ⟨by rfl, fun W hSw => by obtain ⟨s0, s1, s2⟩ := hSw; go_simp <;> try omega⟩) hH ?_
              try simp only [put_some, List.set_cons_zero, List.set_cons_succ]
              refine takeH (i := 24) (d := some 36) (v := .int .i64 pid) rfl rfl (by kernel_rfl) (by kernel_rfl) (by kernel_rfl) (fun _ _ _ h => h) (Or.inl ⟨by rfl, fun W hSw => by obtain ⟨s0, s1, s2⟩ := hSw; go_simp <;> try omega⟩) hH ?_
              try simp only [put_some, List.set_cons_zero, List.set_cons_succ]
              refine takeH (i := 25) (d := some 37) (v := .slice (some ⟨b, off, none⟩) n cap) rfl rfl (by kernel_rfl) (by kernel_rfl) (by kernel_rfl) (fun _ _ _ h => h) (Or.inl ⟨by rfl, fun W hSw => by obtain ⟨s0, s1, s2⟩ := hSw; go_simp <;> try omega⟩) hH ?_
              try simp only [put_some, List.set_cons_zero, List.set_cons_succ]
              refine takeH (i := 26) (d := some 38) (v := .int .i64 (k : Nat)) rfl rfl (by kernel_rfl) (by kernel_rfl) (by kernel_rfl) (fun _ _ _ h => h) (Or.inl ⟨by rfl, fun W hSw => by obtain ⟨s0, s1, s2⟩ := hSw; go_simp <;> try omega⟩) hH ?_
              try simp only [put_some, List.set_cons_zero, List.set_cons_succ]
              refine takeH (i := 27) (d := some 39) (v := .pointer (some ⟨b, off + k * 2, none⟩)) rfl rfl (by kernel_rfl) (by kernel_rfl) (by kernel_rfl) (fun _ _ _ h => h) (Or.inl ⟨by rfl, fun W hSw => by obtain ⟨s0, s1, s2⟩ := hSw; go_simp <;> try omega⟩) hH ?_
              try simp only [put_some, List.set_cons_zero, List.set_cons_succ]
              refine takeH (i := 28) (d := some 40) (v := .pointer (some ⟨b, off + k * 2, none⟩)) rfl rfl (by kernel_rfl) (by kernel_rfl) (by kernel_rfl) (fun _ _ _ h => h) (Or.inl ⟨by rfl, fun W hSw => by obtain ⟨s0, s1, s2⟩ := hSw; go_simp <;> try omega⟩) hH ?_
              try simp only [put_some, List.set_cons_zero, List.set_cons_succ]
              refine takeH (i := 29) (d := some 41) (v := .int .i64 ri) rfl rfl (by kernel_rfl) (by kernel_rfl) (by kernel_rfl) (fun _ _ _ h => h) (Or.inl ⟨by rfl, fun W hSw => by obtain ⟨s0, s1, s2⟩ := hSw; go_simp <;> try omega⟩) hH ?_
              try simp only [put_some, List.set_cons_zero, List.set_cons_succ]
              refine takeH (i := 30) (d := some 42) (v := .bool true) rfl rfl (by kernel_rfl) (by kernel_rfl) (by kernel_rfl) (fun _ _ _ h => h) (Or.inl ⟨by rfl, fun W hSw => by obtain ⟨s0, s1, s2⟩ := hSw; go_simp <;> try omega⟩) hH ?_
              try simp only [put_some, List.set_cons_zero, List.set_cons_succ]
              refine takeH (i := 31) (d := some 43) (v := .bool true) rfl rfl (by kernel_rfl) (by kernel_rfl) (by kernel_rfl) (fun _ _ _ h => h) (Or.inl ⟨by rfl, fun W hSw => by obtain ⟨s0, s1, s2⟩ := hSw; go_simp <;> try omega⟩) hH ?_
              try simp only [put_some, List.set_cons_zero, List.set_cons_succ]
              refine takeH (i := 32) (d := some 44) (v := .bool true) rfl rfl (by kernel_rfl) (by kernel_rfl) (by kernel_rfl) (fun _ _ _ h => h) (Or.inl ⟨by rfl, fun W hSw => by obtain ⟨s0, s1, s2⟩ := hSw; go_simp <;> try omega⟩) hH ?_
              try simp only [put_some, List.set_cons_zero, List.set_cons_succ]
              refine wpAnyH_done (by kernel_rfl) ?_ _
              go_wp2
              go_ret
              exact ⟨ret_bool HNO.out.symm, below_then hbr hB' hbr.size⟩
            · have HS2 := Lib.hid (HSY.out (by rw [HGD.out]; exact decide_eq_true (by omega)))
              clear HGD HSY HNN
              go_wp2
              refine wp_region_held_drew (S := fun W => W.cell? ⟨b, off + k * 2, none⟩ = some (.int .i64 ri) ∧ W.cell? ⟨b, off + k * 2 + 1, none⟩ = some (.slice xa xn xc) ∧ W.cell? ⟨b, off + p * 2, none⟩ = some (.int .i64 pid)) (by kernel_rfl) (HKD.out _ hB') (fun hH => ?_)
              refine takeH (i := 0) (d := some 12) (v := .slice a1 zn c1) rfl rfl (by kernel_rfl) (by kernel_rfl) (by kernel_rfl) (fun _ _ _ h => h) (Or.inl ⟨by rfl, fun W hSw => by obtain ⟨s0, s1, s2⟩ := hSw; go_simp <;> try omega⟩) hH ?_
              try simp only [put_some, List.set_cons_zero, List.set_cons_succ]
              refine takeH (i := 1) (d := some 13) (v := .slice (some ⟨b, off, none⟩) n cap) rfl rfl (by kernel_rfl) (by kernel_rfl) (by kernel_rfl) (fun _ _ _ h => h) (Or.inl ⟨by rfl, fun W hSw => by obtain ⟨s0, s1, s2⟩ := hSw; go_simp <;> try omega⟩) hH ?_
              try simp only [put_some, List.set_cons_zero, List.set_cons_succ]
              refine takeH (i := 2) (d := some 14) (v := .int .i64 (k : Nat)) rfl rfl (by kernel_rfl) (by kernel_rfl) (by kernel_rfl) (fun _ _ _ h => h) (Or.inl ⟨by rfl, fun W hSw => by obtain ⟨s0, s1, s2⟩ := hSw; go_simp <;> try omega⟩) hH ?_
              try simp only [put_some, List.set_cons_zero, List.set_cons_succ]
              refine takeH (i := 3) (d := some 15) (v := .pointer (some ⟨b, off + k * 2, none⟩)) rfl rfl (by kernel_rfl) (by kernel_rfl) (by kernel_rfl) (fun _ _ _ h => h) (Or.inl ⟨by rfl, fun W hSw => by obtain ⟨s0, s1, s2⟩ := hSw; go_simp <;> try omega⟩) hH ?_
              try simp only [put_some, List.set_cons_zero, List.set_cons_succ]
              refine takeH (i := 4) (d := some 16) (v := .agg #[.int .i64 ri, .slice xa xn xc]) rfl rfl (by kernel_rfl) (by kernel_rfl) (by kernel_rfl) (fun _ _ _ h => h) (Or.inl ⟨by rfl, fun W hSw => by obtain ⟨s0, s1, s2⟩ := hSw; go_simp <;> try omega⟩) hH ?_
              try simp only [put_some, List.set_cons_zero, List.set_cons_succ]
              refine wpAnyH_ready (rs := [5]) (by kernel_rfl) (by simp) ?_
              refine AllReadyH.cons rfl (fun K hK => ?_) AllReadyH.nil
              go_simp
              go_at_call 52
              refine (HRO.out _ hB').mono ?_
              rintro e w2 ⟨rfl, hb2⟩
              replace hB' := below_then hB' hb2 hB'.size
              go_wp2_with fail
              refine hK.out _ _ (HKD.out _ hB') (fun hH => ?_)
              clear hK K
              refine takeH (i := 6) (d := some 18) (v := .bool false) rfl rfl (by kernel_rfl) (by kernel_rfl) (by kernel_rfl) (fun _ _ _ h => h) (Or.inl ⟨by rfl, fun W hSw => by obtain ⟨s0, s1, s2⟩ := hSw; go_simp <;> try omega⟩) hH ?_
              try simp only [put_some, List.set_cons_zero, List.set_cons_succ]
              refine takeH (i := 7) (d := some 19) (v := .bool false) rfl rfl (by kernel_rfl) (by kernel_rfl) (by kernel_rfl) (fun _ _ _ h => h) (Or.inl ⟨by rfl, fun W hSw => by obtain ⟨s0, s1, s2⟩ := hSw; go_simp <;> try omega⟩) hH ?_
              try simp only [put_some, List.set_cons_zero, List.set_cons_succ]
              refine takeH (i := 8) (d := some 20) (v := .slice (some ⟨b, off, none⟩) n cap) rfl rfl (by kernel_rfl) (by kernel_rfl) (by kernel_rfl) (fun _ _ _ h => h) (Or.inl ⟨by rfl, fun W hSw => by obtain ⟨s0, s1, s2⟩ := hSw; go_simp <;> try omega⟩) hH ?_
              try simp only [put_some, List.set_cons_zero, List.set_cons_succ]
              refine takeH (i := 9) (d := some 21) (v := .int .i64 (k : Nat)) rfl rfl (by kernel_rfl) (by kernel_rfl) (by kernel_rfl) (fun _ _ _ h => h) (Or.inl ⟨by rfl, fun W hSw => by obtain ⟨s0, s1, s2⟩ := hSw; go_simp <;> try omega⟩) hH ?_
              try simp only [put_some, List.set_cons_zero, List.set_cons_succ]
              refine takeH (i := 10) (d := some 22) (v := .pointer (some ⟨b, off + k * 2, none⟩)) rfl rfl (by kernel_rfl) (by kernel_rfl) (by kernel_rfl) (fun _ _ _ h => h) (Or.inl ⟨by rfl, fun W hSw => by obtain ⟨s0, s1, s2⟩ := hSw; go_simp <;> try omega⟩) hH ?_
              try simp only [put_some, List.set_cons_zero, List.set_cons_succ]
              refine takeH (i := 11) (d := some 23) (v := .pointer (some ⟨b, off + k * 2, none⟩)) rfl rfl (by kernel_rfl) (by kernel_rfl) (by kernel_rfl) (fun _ _ _ h => h) (Or.inl ⟨by rfl, fun W hSw => by obtain ⟨s0, s1, s2⟩ := hSw; go_simp <;> try omega⟩) hH ?_
              try simp only [put_some, List.set_cons_zero, List.set_cons_succ]
              refine takeH (i := 12) (d := some 24) (v := .int .i64 ri) rfl rfl (by kernel_rfl) (by kernel_rfl) (by kernel_rfl) (fun _ _ _ h => h) (Or.inl ⟨by rfl, fun W hSw => by obtain ⟨s0, s1, s2⟩ := hSw; go_simp <;> try omega⟩) hH ?_
              try simp only [put_some, List.set_cons_zero, List.set_cons_succ]
              refine takeH (i := 13) (d := some 25) (v := .bool false) rfl rfl (by kernel_rfl) (by kernel_rfl) (by kernel_rfl) (fun _ _ _ h => h) (Or.inl ⟨by rfl, fun W hSw => by obtain ⟨s0, s1, s2⟩ := hSw; go_simp <;> try omega⟩) hH ?_
              try simp only [put_some, List.set_cons_zero, List.set_cons_succ]
              refine takeH (i := 14) (d := some 26) (v := .bool false) rfl rfl (by kernel_rfl) (by kernel_rfl) (by kernel_rfl) (fun _ _ _ h => h) (Or.inl ⟨by rfl, fun W hSw => by obtain ⟨s0, s1, s2⟩ := hSw; go_simp <;> try omega⟩) hH ?_
              try simp only [put_some, List.set_cons_zero, List.set_cons_succ]
              refine takeH (i := 15) (d := some 27) (v := .bool false) rfl rfl (by kernel_rfl) (by kernel_rfl) (by kernel_rfl) (fun _ _ _ h => h) (Or.inl ⟨by rfl, fun W hSw => by obtain ⟨s0, s1, s2⟩ := hSw; go_simp <;> try omega⟩) hH ?_
              try simp only [put_some, List.set_cons_zero, List.set_cons_succ]
              refine takeH (i := 16) (d := some 28) (v := .int .i64 (k : Nat)) rfl rfl (by kernel_rfl) (by kernel_rfl) (by kernel_rfl) (fun _ _ _ h => h) (Or.inl ⟨by rfl, fun W hSw => by obtain ⟨s0, s1, s2⟩ := hSw; go_simp <;> try omega⟩) hH ?_
              try simp only [put_some, List.set_cons_zero, List.set_cons_succ]
              refine takeH (i := 17) (d := some 29) (v := .bool true) rfl rfl (by kernel_rfl) (by kernel_rfl) (by kernel_rfl) (fun _ _ _ h => h) (Or.inl ⟨by rfl, fun W hSw => by obtain ⟨s0, s1, s2⟩ := hSw; go_simp <;> try omega⟩) hH ?_
              try simp only [put_some, List.set_cons_zero, List.set_cons_succ]
              refine takeH (i := 18) (d := some 30) (v := .bool true) rfl rfl (by kernel_rfl) (by kernel_rfl) (by kernel_rfl) (fun _ _ _ h => h) (Or.inl ⟨by rfl, fun W hSw => by obtain ⟨s0, s1, s2⟩ := hSw; go_simp <;> try omega⟩) hH ?_
              try simp only [put_some, List.set_cons_zero, List.set_cons_succ]
              refine takeH (i := 19) (d := some 31) (v := .slice (some ⟨b, off, none⟩) n cap) rfl rfl (by kernel_rfl) (by kernel_rfl) (by kernel_rfl) (fun _ _ _ h => h) (Or.inl ⟨by rfl, fun W hSw => by obtain ⟨s0, s1, s2⟩ := hSw; go_simp <;> try omega⟩) hH ?_
              try simp only [put_some, List.set_cons_zero, List.set_cons_succ]
              refine takeH (i := 20) (d := some 32) (v := .int .i64 (k : Nat)) rfl rfl (by kernel_rfl) (by kernel_rfl) (by kernel_rfl) (fun _ _ _ h => h) (Or.inl ⟨by rfl, fun W hSw => by obtain ⟨s0, s1, s2⟩ := hSw; go_simp <;> try omega⟩) hH ?_
              try simp only [put_some, List.set_cons_zero, List.set_cons_succ]
              refine takeH (i := 21) (d := some 33) (v := .int .i64 (p : Nat)) rfl rfl (by kernel_rfl) (by kernel_rfl) (by kernel_rfl) (fun _ _ _ h => h) (Or.inl ⟨by rfl, fun W hSw => by obtain ⟨s0, s1, s2⟩ := hSw; go_simp <;> try omega⟩) hH ?_
              try simp only [put_some, List.set_cons_zero, List.set_cons_succ]
              refine takeH (i := 22) (d := some 34) (v := .pointer (some ⟨b, off + p * 2, none⟩)) rfl rfl (by kernel_rfl) (by kernel_rfl) (by kernel_rfl) (fun _ _ _ h => h) (Or.inl ⟨by rfl, fun W hSw => by obtain ⟨s0, s1, s2⟩ := hSw; go_simp <;> try omega⟩) hH ?_
              try simp only [put_some, List.set_cons_zero, List.set_cons_succ]
              refine takeH (i := 23) (d := some 35) (v := .pointer (some ⟨b, off + p * 2, none⟩)) rfl rfl (by kernel_rfl) (by kernel_rfl) (by kernel_rfl) (fun _ _ _ h => h) (Or.inl ⟨by rfl, fun W hSw => by obtain ⟨s0, s1, s2⟩ := hSw; go_simp <;> try omega⟩) hH ?_
              try simp only [put_some, List.set_cons_zero, List.set_cons_succ]
              refine takeH (i := 24) (d := some 36) (v := .int .i64 pid) rfl rfl (by kernel_rfl) (by kernel_rfl) (by kernel_rfl) (fun _ _ _ h => h) (Or.inl ⟨by rfl, fun W hSw => by obtain ⟨s0, s1, s2⟩ := hSw; go_simp <;> try omega⟩) hH ?_
              try simp only [put_some, List.set_cons_zero, List.set_cons_succ]
              refine takeH (i := 25) (d := some 37) (v := .slice (some ⟨b, off, none⟩) n cap) rfl rfl (by kernel_rfl) (by kernel_rfl) (by kernel_rfl) (fun _ _ _ h => h) (Or.inl ⟨by rfl, fun W hSw => by obtain ⟨s0, s1, s2⟩ := hSw; go_simp <;> try omega⟩) hH ?_
              try simp only [put_some, List.set_cons_zero, List.set_cons_succ]
              refine takeH (i := 26) (d := some 38) (v := .int .i64 (k : Nat)) rfl rfl (by kernel_rfl) (by kernel_rfl) (by kernel_rfl) (fun _ _ _ h => h) (Or.inl ⟨by rfl, fun W hSw => by obtain ⟨s0, s1, s2⟩ := hSw; go_simp <;> try omega⟩) hH ?_
              try simp only [put_some, List.set_cons_zero, List.set_cons_succ]
              refine takeH (i := 27) (d := some 39) (v := .pointer (some ⟨b, off + k * 2, none⟩)) rfl rfl (by kernel_rfl) (by kernel_rfl) (by kernel_rfl) (fun _ _ _ h => h) (Or.inl ⟨by rfl, fun W hSw => by obtain ⟨s0, s1, s2⟩ := hSw; go_simp <;> try omega⟩) hH ?_
              try simp only [put_some, List.set_cons_zero, List.set_cons_succ]
              refine takeH (i := 28) (d := some 40) (v := .pointer (some ⟨b, off + k * 2, none⟩)) rfl rfl (by kernel_rfl) (by kernel_rfl) (by kernel_rfl) (fun _ _ _ h => h) (Or.inl ⟨by rfl, fun W hSw => by obtain ⟨s0, s1, s2⟩ := hSw; go_simp <;> try omega⟩) hH ?_
              try simp only [put_some, List.set_cons_zero, List.set_cons_succ]
              refine takeH (i := 29) (d := some 41) (v := .int .i64 ri) rfl rfl (by kernel_rfl) (by kernel_rfl) (by kernel_rfl) (fun _ _ _ h => h) (Or.inl ⟨by rfl, fun W hSw => by obtain ⟨s0, s1, s2⟩ := hSw; go_simp <;> try omega⟩) hH ?_
              try simp only [put_some, List.set_cons_zero, List.set_cons_succ]
              refine takeH (i := 30) (d := some 42) (v := .bool false) rfl rfl (by kernel_rfl) (by kernel_rfl) (by kernel_rfl) (fun _ _ _ h => h) (Or.inl ⟨by rfl, fun W hSw => by obtain ⟨s0, s1, s2⟩ := hSw; go_simp <;> try omega⟩) hH ?_
              try simp only [put_some, List.set_cons_zero, List.set_cons_succ]
              refine takeH (i := 31) (d := some 43) (v := .bool false) rfl rfl (by kernel_rfl) (by kernel_rfl) (by kernel_rfl) (fun _ _ _ h => h) (Or.inl ⟨by rfl, fun W hSw => by obtain ⟨s0, s1, s2⟩ := hSw; go_simp <;> try omega⟩) hH ?_
              try simp only [put_some, List.set_cons_zero, List.set_cons_succ]
              refine takeH (i := 32) (d := some 44) (v := .bool false) rfl rfl (by kernel_rfl) (by kernel_rfl) (by kernel_rfl) (fun _ _ _ h => h) (Or.inl ⟨by rfl, fun W hSw => by obtain ⟨s0, s1, s2⟩ := hSw; go_simp <;> try omega⟩) hH ?_
              try simp only [put_some, List.set_cons_zero, List.set_cons_succ]
              refine wpAnyH_done (by kernel_rfl) ?_ _
              go_wp2
              go_roundw
              case rel => exact ⟨k + 1, by omega, by go_num, HS2.out, below_then hbr hB' hbr.size⟩
              case measure => simp [intOf]; omega
    · obtain rfl : k = n := by omega
      have HA : Hid (rowsOkL zs (ps.map (·.1)) = (colsB zs && decide (k ≤ 12))) := by
        show _ = _
        have e := rowsOk_end (zs := zs) (l := ps.map (·.1)) (fun j hj => HOK.out j (by rw [List.length_map, HL.out] at hj; exact hj))
        rw [List.length_map, HL.out] at e
        exact e
      generalize colsB zs = q at HCO HA
      cases q with
      | false =>
        go_wp2_with fail
        refine (HCO.out _ hbr).mono ?_
        rintro e w' ⟨rfl, rfl⟩
        go_wp2
        go_ret
        exact ⟨ret_bool (by rw [HA.out]; rfl), hbr⟩
      | true =>
        by_cases h12 : k ≤ 12
        · have h12' : (k : Int) ≤ 12 := by omega
          have HE : Hid (rowsOkL zs (ps.map (·.1)) = true) := by show _ = _; rw [HA.out, decide_eq_true h12]; rfl
          go_wp2_with fail
          refine (HCO.out _ hbr).mono ?_
          rintro e w' ⟨rfl, rfl⟩
          go_wp2
          go_ret
          exact ⟨ret_bool (by rw [HE.out] <;> try simp <;> try omega), hbr⟩
        · have h12' : ¬ ((k : Int) ≤ 12) := by omega
          have HE : Hid (rowsOkL zs (ps.map (·.1)) = false) := by show _ = _; rw [HA.out, decide_eq_false h12]; rfl
          go_wp2_with fail
          refine (HCO.out _ hbr).mono ?_
          rintro e w' ⟨rfl, rfl⟩
          go_wp2
          go_ret
          exact ⟨ret_bool (by rw [HE.out] <;> try simp <;> try omega), hbr⟩

set_option maxRecDepth 100000 in
set_option maxHeartbeats 4000000 in
theorem sFindRow : CFindRow 15 := by
  intro v id ps ls w hn hli h hls
  subst hls
  generalize hl : ps.length = n at hn
  obtain ⟨a, cap, rfl, _, HC⟩ := h.walk hl
  have HLI : Hid (∀ k, k < n → (ps.getD k P.zero).1.l.length ≤ 1048576) := fun k hk => by
    have hk' : k < ps.length := by omega
    have e : ps.getD k P.zero = ps[k] := by simp [hk']
    rw [e]
    exact hli _ (List.getElem_mem hk')
  have HHIT : Hid (∀ j, j < n → (∀ k, k < j → (ps.getD k P.zero).1.id ≠ id) → (ps.getD j P.zero).1.id = id → findL (ps.map (·.1)) id = some (ps.getD j P.zero).1) := fun j hj hk he => by
    have := find_hit (l := ps.map (·.1)) (n := id) (j := j) (by rw [List.length_map]; omega) (fun k hkj => by rw [getD_fstR]; exact hk k hkj) (by rw [getD_fstR]; exact he)
    rw [this, getD_fstR]
  have HNONE : Hid ((∀ k, k < n → (ps.getD k P.zero).1.id ≠ id) → findL (ps.map (·.1)) id = none) := fun hk => find_none (fun k hkj => by rw [getD_fstR]; exact hk k (by rw [List.length_map] at hkj; omega))
  have B1 := below_alloc w (.cells #[.int .i64 0, .slice none 0 0] 27)
  have T1 := two_new w (.int .i64 0) (.slice none 0 0) 27
  have hz1 : (w.alloc (.cells #[.int .i64 0, .slice none 0 0] 27)).heap.size = w.heap.size + 1 := World.size_alloc _ _
  generalize hw1 : w.alloc (.cells #[.int .i64 0, .slice none 0 0] 27) = w1 at B1 T1 hz1
  have HW1 := Lib.hid hw1
  clear hw1 hl h hli
  go_enter Try.func15, Try.ntmps15
  go_wp2
  rw [HW1.out]
  go_loopw [6] (fun i wr => ∃ j : Nat, j ≤ n ∧ i = .int .i64 j ∧ (∀ k, k < j → (ps.getD k P.zero).1.id ≠ id) ∧ Two wr w.heap.size (.int .i64 0) (.slice none 0 0) ∧ Below w.heap.size w wr ∧ w.heap.size + 1 ≤ wr.heap.size) (fun i _ => n - (intOf i).toNat)
  case atStart => exact ⟨0, Nat.zero_le _, rfl, fun k hk => by omega, T1, B1, by omega⟩
  case round =>
    obtain ⟨j, hj, rfl, hno, hT, hbr, hsz⟩ := hrel
    have HNO := Lib.hid hno
    clear hno T1 B1 hz1
    by_cases hlt : j < n
    · obtain ⟨b, off, rfl, c0, c1, hat⟩ := HC.out j hlt wr hbr
      have hll := HLI.out j hlt
      have HSTEP : Hid ((ps.getD j P.zero).1.id ≠ id → ∀ k, k < j + 1 → (ps.getD k P.zero).1.id ≠ id) := fun he k hk => by
        by_cases e : k = j
        · subst e; exact he
        · exact HNO.out k (by omega)
      have HFD := Lib.hid (HHIT.out j hlt HNO.out)
      generalize ps.getD j P.zero = pj at c0 c1 hat hll HSTEP HFD
      obtain ⟨r, x⟩ := pj
      simp only at c0 c1 hat hll HSTEP HFD
      obtain ⟨xa, xc, rfl⟩ := hat.sl
      have HAT := Lib.hid (fun W (hW : Below wr.heap.size wr W) => sL4Copy r (.slice xa r.l.length xc) W hll (hat.below hW))
      clear hat
      generalize hxl : r.l.length = xn at c1 hll HAT
      obtain ⟨ri, rl⟩ := r
      simp only at c0 c1 HAT HSTEP HFD
      clear hxl
      have BW := Below.refl wr.heap.size wr
      by_cases he : ri = id
      · have HF := Lib.hid (HFD.out he)
        subst he
        have hb1 : (ri == ri) = true := by simp
        have HA2 := Lib.hid (HAT.out _ BW)
        have hT2 := hT
        have B2 := below_then hbr BW hbr.size
        have hs2 := BW.size
        clear HFD HSTEP HAT
        go_wp2_with fail
        refine HA2.out.mono ?_
        rintro e w3 ⟨x3, rfl, o3, b3⟩
        clear c0 c1
        obtain ⟨ya, yc, hy⟩ := o3.atN.sl
        generalize rl.length = yn at hy
        subst hy
        have hs3 := b3.size
        have B3 := below_then B2 b3 B2.size
        have O3 := Lib.hid o3
        obtain ⟨⟨p0, p1⟩, p2, p3⟩ := hT2.below b3
        clear o3 b3 HA2 hT2
        go_wp2
        refine bodyPost_ret (v := .tuple #[.agg #[.int .i64 ri, .slice ya yn yc], .bool true]) (by simp [results, Try.results15, go_sem, *]) rfl ⟨.slice ya yn yc, ?_, ?_, ?_⟩
        · rw [HF.out]; rfl
        · rw [HF.out]
          exact ((O3.out.setBelow (by simp; omega) _).setBelow (by simp; omega) _).wide (by omega) (by simp)
        · exact (B3.setCell (by simp) _).setCell (by simp) _
      · have HS2 := Lib.hid (HSTEP.out he)
        have hb1 : (ri == id) = false := by simpa using he
        have hT2 := Lib.hid hT
        have B2 := below_then hbr BW hbr.size
        have hs2 := BW.size
        clear HFD HSTEP HAT he
        go_wp2
        go_roundw
        case rel => exact ⟨j + 1, by omega, by go_num, HS2.out, hT2.out, B2, by omega⟩
        case measure => simp [intOf]; omega
    · obtain rfl : j = n := by omega
      have HF := Lib.hid (HNONE.out HNO.out)
      obtain ⟨⟨p0, p1⟩, p2, p3⟩ := hT
      go_wp2
      refine bodyPost_ret (v := .tuple #[.agg #[.int .i64 0, .slice none 0 0], .bool false]) (by simp [results, Try.results15, go_sem, *]) rfl ⟨.slice none 0 0, ?_, ?_, ?_⟩
      · rw [HF.out]; rfl
      · rw [HF.out]; exact .inl ⟨rfl, rfl, rfl⟩
      · exact (hbr.setCell (by simp) _).setCell (by simp) _

end Go.Proofs.Ytkofafefnlommaa

/- The model's PutRow (written by mk_S13p.py). -/
namespace Go.Proofs.Ytkofafefnlommaa
open Go.RowKit

set_option maxRecDepth 100000 in
set_option maxHeartbeats 1500000 in
theorem sPutRow : CPutRow 17 := by
  intro v u r ps ls w hn hli hv hr hrl hu hls
  subst hls
  have HRD : Hid (RdRsN w v ps) := ⟨hv.rd, hr⟩
  generalize hl : ps.length = n at hn hv
  have HL := Lib.hid hl
  obtain ⟨a, cap', hva, _, HC⟩ := HRD.out.walk hl
  obtain ⟨b, off, cap, rfl, hnc, hcm, _, _⟩ := id hv
  simp only [Value.slice.injEq, true_and] at hva
  obtain ⟨rfl, rfl⟩ := hva
  have HLH : Hid (∀ k, k ≤ n → ∀ W, Below w.heap.size w W → Calls Try.prog 50 #[.slice (some ⟨b, off, none⟩) k cap] W fun e w' => ∃ v' qs, e = .returned v' ∧ MyRs W.heap.size w'.heap.size w' v' qs ∧ qs.map (·.1) = (ps.take k).map (·.1) ∧ (∃ g cp, v' = .slice (some ⟨g, 0, none⟩) qs.length cp) ∧ Below W.heap.size W w') := fun k hk W hW =>
    sL4All _ _ W (by rw [List.length_take]; omega) (fun p hp => hli p (List.mem_of_mem_take hp)) (((hv.hd2 hl hr hk)).below hW)
  have HLT : Hid (∀ k tl, k ≤ n → (k < cap → tl = off + k * 2) → ∀ W, Below w.heap.size w W → Calls Try.prog 50 #[.slice (some ⟨b, tl, none⟩) (n - k) (cap - k)] W fun e w' => ∃ v' qs, e = .returned v' ∧ MyRs W.heap.size w'.heap.size w' v' qs ∧ qs.map (·.1) = (ps.drop k).map (·.1) ∧ (∃ g cp, v' = .slice (some ⟨g, 0, none⟩) qs.length cp) ∧ Below W.heap.size W w') := fun k tl hk ht W hW =>
    sL4All _ _ W (by rw [List.length_drop]; omega) (fun p hp => hli p (List.mem_of_mem_drop hp)) (((hv.tl2 hl hr hk ht)).below hW)
  have HCP := Lib.hid (fun W (hW : Below w.heap.size w W) => sL4Copy r u W hrl (hu.below hW))
  obtain ⟨ua, uc, rfl⟩ := hu.sl
  obtain ⟨ri, rl⟩ := r
  generalize hrn : rl.length = rn at HCP hrl ⊢
  have HRN := Lib.hid hrn
  simp only at HCP hrl
  have HG : Hid (∀ k, (ps.map (·.1)).getD k R.zero = (ps.getD k P.zero).1) := fun k => getD_fstR ps k
  have HLM : Hid ((ps.map (·.1)).length = n) := by show _ = _; rw [List.length_map, hl]
  have B0 := below_alloc w (.cells #[.int .i64 ri, .slice ua rn uc] 27)
  have T0 := two_new w (.int .i64 ri) (.slice ua rn uc) 27
  have hz0 : (w.alloc (.cells #[.int .i64 ri, .slice ua rn uc] 27)).heap.size = w.heap.size + 1 := World.size_alloc _ _
  generalize hw0 : w.alloc (.cells #[.int .i64 ri, .slice ua rn uc] 27) = w0 at B0 T0 hz0
  have HW0 := Lib.hid hw0
  unfold maxLen at hcm
  clear hw0 hl hv hr hli hu hrn
  go_enter Try.func17, Try.ntmps17
  go_wp2
  rw [HW0.out]
  go_loopw [5] (fun i wr => ∃ k : Nat, k ≤ n ∧ i = .int .i64 k ∧ (∀ j, j < k → (ps.getD j P.zero).1.id < ri) ∧ Two wr w.heap.size (.int .i64 ri) (.slice ua rn uc) ∧ Below w.heap.size w wr ∧ w.heap.size + 1 ≤ wr.heap.size) (fun i _ => n - (intOf i).toNat)
  case atStart => exact ⟨0, Nat.zero_le _, rfl, fun j hj => by omega, T0, B0, by omega⟩
  case round =>
    obtain ⟨k, hk, rfl, hok, hT, hbr, hsz⟩ := hrel
    have HOK := Lib.hid hok
    clear hok T0 B0 hz0
    by_cases hlt : k < n
    · obtain ⟨b', off', eb, c0, _, _⟩ := HC.out k hlt _ (below_then hbr (Below.refl wr.heap.size wr).drew hbr.size)
      simp only [Option.some.injEq, Addr.mk.injEq, and_true] at eb
      obtain ⟨rfl, rfl⟩ := eb
      have q0 := (hT.below (Below.refl wr.heap.size wr).drew).1.1
      have HS : Hid ((ps.getD k P.zero).1.id < ri → ∀ j, j < k + 1 → (ps.getD j P.zero).1.id < ri) := fun h j hj => by
        by_cases e : j = k
        · subst e; exact h
        · exact HOK.out j (by omega)
      have HE : Hid (¬ (ps.getD k P.zero).1.id < ri → putK (ps.map (·.1)) ri = k) := fun hh => putK_of (by rw [HLM.out]; omega) (fun j hj => by rw [HG.out]; exact HOK.out j hj) (fun _ => by rw [HG.out]; exact hh)
      generalize (ps.getD k P.zero).1.id = pid at c0 HS HE
      have hkn : (k : Int) < (n : Int) := by omega
      by_cases hd : pid < ri
      · have HS2 := Lib.hid (HS.out hd)
        clear HS HE
        go_wp2
        refine wp_region_held_drew (S := fun W => W.cell? ⟨b, off + k * 2, none⟩ = some (.int .i64 pid) ∧ W.cell? ⟨w.heap.size, 0, none⟩ = some (.int .i64 ri)) (by kernel_rfl) ⟨c0, q0⟩ (fun hH => ?_)
        refine takeH (i := 0) (d := some 6) (v := .int .i64 (k : Nat)) rfl rfl (by kernel_rfl) (by kernel_rfl) (by kernel_rfl) (fun _ _ _ h => h) (Or.inl ⟨by rfl, fun W hSw => by obtain ⟨s0, s1⟩ := hSw; go_simp <;> try omega⟩) hH ?_
        try simp only [put_some, List.set_cons_zero, List.set_cons_succ]
        refine takeH (i := 1) (d := some 7) (v := .slice (some ⟨b, off, none⟩) n cap) rfl rfl (by kernel_rfl) (by kernel_rfl) (by kernel_rfl) (fun _ _ _ h => h) (Or.inl ⟨by rfl, fun W hSw => by obtain ⟨s0, s1⟩ := hSw; go_simp <;> try omega⟩) hH ?_
        try simp only [put_some, List.set_cons_zero, List.set_cons_succ]
        refine takeH (i := 2) (d := some 8) (v := .int .i64 (n : Nat)) rfl rfl (by kernel_rfl) (by kernel_rfl) (by kernel_rfl) (fun _ _ _ h => h) (Or.inl ⟨by rfl, fun W hSw => by obtain ⟨s0, s1⟩ := hSw; go_simp <;> try omega⟩) hH ?_
        try simp only [put_some, List.set_cons_zero, List.set_cons_succ]
        refine takeH (i := 3) (d := some 9) (v := .bool true) rfl rfl (by kernel_rfl) (by kernel_rfl) (by kernel_rfl) (fun _ _ _ h => h) (Or.inl ⟨by rfl, fun W hSw => by obtain ⟨s0, s1⟩ := hSw; go_simp <;> try omega⟩) hH ?_
        try simp only [put_some, List.set_cons_zero, List.set_cons_succ]
        refine takeH (i := 4) (d := some 10) (v := .bool true) rfl rfl (by kernel_rfl) (by kernel_rfl) (by kernel_rfl) (fun _ _ _ h => h) (Or.inl ⟨by rfl, fun W hSw => by obtain ⟨s0, s1⟩ := hSw; go_simp <;> try omega⟩) hH ?_
        try simp only [put_some, List.set_cons_zero, List.set_cons_succ]
        refine takeH (i := 5) (d := some 11) (v := .slice (some ⟨b, off, none⟩) n cap) rfl rfl (by kernel_rfl) (by kernel_rfl) (by kernel_rfl) (fun _ _ _ h => h) (Or.inl ⟨by rfl, fun W hSw => by obtain ⟨s0, s1⟩ := hSw; go_simp <;> try omega⟩) hH ?_
        try simp only [put_some, List.set_cons_zero, List.set_cons_succ]
        refine takeH (i := 6) (d := some 12) (v := .int .i64 (k : Nat)) rfl rfl (by kernel_rfl) (by kernel_rfl) (by kernel_rfl) (fun _ _ _ h => h) (Or.inl ⟨by rfl, fun W hSw => by obtain ⟨s0, s1⟩ := hSw; go_simp <;> try omega⟩) hH ?_
        try simp only [put_some, List.set_cons_zero, List.set_cons_succ]
        refine takeH (i := 7) (d := some 13) (v := .pointer (some ⟨b, off + k * 2, none⟩)) rfl rfl (by kernel_rfl) (by kernel_rfl) (by kernel_rfl) (fun _ _ _ h => h) (Or.inl ⟨by rfl, fun W hSw => by obtain ⟨s0, s1⟩ := hSw; go_simp <;> try omega⟩) hH ?_
        try simp only [put_some, List.set_cons_zero, List.set_cons_succ]
        refine takeH (i := 8) (d := some 14) (v := .pointer (some ⟨b, off + k * 2, none⟩)) rfl rfl (by kernel_rfl) (by kernel_rfl) (by kernel_rfl) (fun _ _ _ h => h) (Or.inl ⟨by rfl, fun W hSw => by obtain ⟨s0, s1⟩ := hSw; go_simp <;> try omega⟩) hH ?_
        try simp only [put_some, List.set_cons_zero, List.set_cons_succ]
        refine takeH (i := 9) (d := some 15) (v := .int .i64 pid) rfl rfl (by kernel_rfl) (by kernel_rfl) (by kernel_rfl) (fun _ _ _ h => h) (Or.inl ⟨by rfl, fun W hSw => by obtain ⟨s0, s1⟩ := hSw; go_simp <;> try omega⟩) hH ?_
        try simp only [put_some, List.set_cons_zero, List.set_cons_succ]
        refine takeH (i := 10) (d := some 16) (v := .pointer (some ⟨w.heap.size, 0, none⟩)) rfl rfl (by kernel_rfl) (by kernel_rfl) (by kernel_rfl) (fun _ _ _ h => h) (Or.inl ⟨by rfl, fun W hSw => by obtain ⟨s0, s1⟩ := hSw; go_simp <;> try omega⟩) hH ?_
        try simp only [put_some, List.set_cons_zero, List.set_cons_succ]
        refine takeH (i := 11) (d := some 17) (v := .int .i64 ri) rfl rfl (by kernel_rfl) (by kernel_rfl) (by kernel_rfl) (fun _ _ _ h => h) (Or.inl ⟨by rfl, fun W hSw => by obtain ⟨s0, s1⟩ := hSw; go_simp <;> try omega⟩) hH ?_
        try simp only [put_some, List.set_cons_zero, List.set_cons_succ]
        refine takeH (i := 12) (d := some 18) (v := .bool true) rfl rfl (by kernel_rfl) (by kernel_rfl) (by kernel_rfl) (fun _ _ _ h => h) (Or.inl ⟨by rfl, fun W hSw => by obtain ⟨s0, s1⟩ := hSw; go_simp <;> try omega⟩) hH ?_
        try simp only [put_some, List.set_cons_zero, List.set_cons_succ]
        refine takeH (i := 13) (d := some 19) (v := .bool true) rfl rfl (by kernel_rfl) (by kernel_rfl) (by kernel_rfl) (fun _ _ _ h => h) (Or.inl ⟨by rfl, fun W hSw => by obtain ⟨s0, s1⟩ := hSw; go_simp <;> try omega⟩) hH ?_
        try simp only [put_some, List.set_cons_zero, List.set_cons_succ]
        refine wpAnyH_done (by kernel_rfl) ?_ _
        have HT2 := Lib.hid (hT.below (Below.refl wr.heap.size wr).drew)
        have B2 := below_then hbr (Below.refl wr.heap.size wr).drew hbr.size
        clear c0 q0 hH
        go_wp2
        go_roundw
        case rel => exact ⟨k + 1, by omega, by go_num, HS2.out, HT2.out, B2, hsz⟩
        case measure => simp [intOf]; omega
      · have HPK := Lib.hid (HE.out hd)
        clear HS HE
        go_wp2
        refine wp_region_held_drew (S := fun W => W.cell? ⟨b, off + k * 2, none⟩ = some (.int .i64 pid) ∧ W.cell? ⟨w.heap.size, 0, none⟩ = some (.int .i64 ri)) (by kernel_rfl) ⟨c0, q0⟩ (fun hH => ?_)
        refine takeH (i := 0) (d := some 6) (v := .int .i64 (k : Nat)) rfl rfl (by kernel_rfl) (by kernel_rfl) (by kernel_rfl) (fun _ _ _ h => h) (Or.inl ⟨by rfl, fun W hSw => by obtain ⟨s0, s1⟩ := hSw; go_simp <;> try omega⟩) hH ?_
        try simp only [put_some, List.set_cons_zero, List.set_cons_succ]
        refine takeH (i := 1) (d := some 7) (v := .slice (some ⟨b, off, none⟩) n cap) rfl rfl (by kernel_rfl) (by kernel_rfl) (by kernel_rfl) (fun _ _ _ h => h) (Or.inl ⟨by rfl, fun W hSw => by obtain ⟨s0, s1⟩ := hSw; go_simp <;> try omega⟩) hH ?_
        try simp only [put_some, List.set_cons_zero, List.set_cons_succ]
        refine takeH (i := 2) (d := some 8) (v := .int .i64 (n : Nat)) rfl rfl (by kernel_rfl) (by kernel_rfl) (by kernel_rfl) (fun _ _ _ h => h) (Or.inl ⟨by rfl, fun W hSw => by obtain ⟨s0, s1⟩ := hSw; go_simp <;> try omega⟩) hH ?_
        try simp only [put_some, List.set_cons_zero, List.set_cons_succ]
        refine takeH (i := 3) (d := some 9) (v := .bool true) rfl rfl (by kernel_rfl) (by kernel_rfl) (by kernel_rfl) (fun _ _ _ h => h) (Or.inl ⟨by rfl, fun W hSw => by obtain ⟨s0, s1⟩ := hSw; go_simp <;> try omega⟩) hH ?_
        try simp only [put_some, List.set_cons_zero, List.set_cons_succ]
        refine takeH (i := 4) (d := some 10) (v := .bool true) rfl rfl (by kernel_rfl) (by kernel_rfl) (by kernel_rfl) (fun _ _ _ h => h) (Or.inl ⟨by rfl, fun W hSw => by obtain ⟨s0, s1⟩ := hSw; go_simp <;> try omega⟩) hH ?_
        try simp only [put_some, List.set_cons_zero, List.set_cons_succ]
        refine takeH (i := 5) (d := some 11) (v := .slice (some ⟨b, off, none⟩) n cap) rfl rfl (by kernel_rfl) (by kernel_rfl) (by kernel_rfl) (fun _ _ _ h => h) (Or.inl ⟨by rfl, fun W hSw => by obtain ⟨s0, s1⟩ := hSw; go_simp <;> try omega⟩) hH ?_
        try simp only [put_some, List.set_cons_zero, List.set_cons_succ]
        refine takeH (i := 6) (d := some 12) (v := .int .i64 (k : Nat)) rfl rfl (by kernel_rfl) (by kernel_rfl) (by kernel_rfl) (fun _ _ _ h => h) (Or.inl ⟨by rfl, fun W hSw => by obtain ⟨s0, s1⟩ := hSw; go_simp <;> try omega⟩) hH ?_
        try simp only [put_some, List.set_cons_zero, List.set_cons_succ]
        refine takeH (i := 7) (d := some 13) (v := .pointer (some ⟨b, off + k * 2, none⟩)) rfl rfl (by kernel_rfl) (by kernel_rfl) (by kernel_rfl) (fun _ _ _ h => h) (Or.inl ⟨by rfl, fun W hSw => by obtain ⟨s0, s1⟩ := hSw; go_simp <;> try omega⟩) hH ?_
        try simp only [put_some, List.set_cons_zero, List.set_cons_succ]
        refine takeH (i := 8) (d := some 14) (v := .pointer (some ⟨b, off + k * 2, none⟩)) rfl rfl (by kernel_rfl) (by kernel_rfl) (by kernel_rfl) (fun _ _ _ h => h) (Or.inl ⟨by rfl, fun W hSw => by obtain ⟨s0, s1⟩ := hSw; go_simp <;> try omega⟩) hH ?_
        try simp only [put_some, List.set_cons_zero, List.set_cons_succ]
        refine takeH (i := 9) (d := some 15) (v := .int .i64 pid) rfl rfl (by kernel_rfl) (by kernel_rfl) (by kernel_rfl) (fun _ _ _ h => h) (Or.inl ⟨by rfl, fun W hSw => by obtain ⟨s0, s1⟩ := hSw; go_simp <;> try omega⟩) hH ?_
        try simp only [put_some, List.set_cons_zero, List.set_cons_succ]
        refine takeH (i := 10) (d := some 16) (v := .pointer (some ⟨w.heap.size, 0, none⟩)) rfl rfl (by kernel_rfl) (by kernel_rfl) (by kernel_rfl) (fun _ _ _ h => h) (Or.inl ⟨by rfl, fun W hSw => by obtain ⟨s0, s1⟩ := hSw; go_simp <;> try omega⟩) hH ?_
        try simp only [put_some, List.set_cons_zero, List.set_cons_succ]
        refine takeH (i := 11) (d := some 17) (v := .int .i64 ri) rfl rfl (by kernel_rfl) (by kernel_rfl) (by kernel_rfl) (fun _ _ _ h => h) (Or.inl ⟨by rfl, fun W hSw => by obtain ⟨s0, s1⟩ := hSw; go_simp <;> try omega⟩) hH ?_
        try simp only [put_some, List.set_cons_zero, List.set_cons_succ]
        refine takeH (i := 12) (d := some 18) (v := .bool false) rfl rfl (by kernel_rfl) (by kernel_rfl) (by kernel_rfl) (fun _ _ _ h => h) (Or.inl ⟨by rfl, fun W hSw => by obtain ⟨s0, s1⟩ := hSw; go_simp <;> try omega⟩) hH ?_
        try simp only [put_some, List.set_cons_zero, List.set_cons_succ]
        refine takeH (i := 13) (d := some 19) (v := .bool false) rfl rfl (by kernel_rfl) (by kernel_rfl) (by kernel_rfl) (fun _ _ _ h => h) (Or.inl ⟨by rfl, fun W hSw => by obtain ⟨s0, s1⟩ := hSw; go_simp <;> try omega⟩) hH ?_
        try simp only [put_some, List.set_cons_zero, List.set_cons_succ]
        refine wpAnyH_done (by kernel_rfl) ?_ _
        clear c0 q0 hH
        have TD := hT.below (Below.refl wr.heap.size wr).drew
        have BD := below_then hbr (Below.refl wr.heap.size wr).drew hbr.size
        have hzd : w.heap.size + 1 ≤ wr.drew.heap.size := hsz
        have TDD := TD.below (Below.refl wr.drew.heap.size wr.drew).drew
        have BDD := below_then BD (Below.refl wr.drew.heap.size wr.drew).drew BD.size
        have hzdd : w.heap.size + 1 ≤ wr.drew.drew.heap.size := hsz
        obtain ⟨tl, htl, HTL⟩ := tail2_at cap k b off
        have hkc : k ≤ cap := by omega
        have HLA := Lib.hid (fun W (hW : Below w.heap.size w W) => HLH.out k hk W hW)
        have HLC := Lib.hid (fun W (hW : Below w.heap.size w W) => HLT.out k tl hk HTL.out W hW)
        have htake : (ps.take k).length = k := by rw [List.length_take, HL.out]; omega
        have hdrop : (ps.drop k).length = n - k := by rw [List.length_drop, HL.out]
        have HTK := Lib.hid htake
        have HDR := Lib.hid hdrop
        clear htake hdrop hT TD BD hzd hbr
        go_wp2
        refine wp_region_held_drew (S := fun W => W.cell? ⟨w.heap.size, 0, none⟩ = some (.int .i64 ri) ∧ W.cell? ⟨w.heap.size, 1, none⟩ = some (.slice ua rn uc)) (by kernel_rfl) TDD.1 (fun hH => ?_)
        generalize wr.drew.drew = wd at TDD BDD hzdd hH ⊢
        refine takeH (i := 0) (d := some 22) (v := .slice (some ⟨b, off, none⟩) n cap) rfl rfl (by kernel_rfl) (by kernel_rfl) (by kernel_rfl) (fun _ _ _ h => h) (Or.inl ⟨by rfl, fun W hSw => by obtain ⟨s0, s1⟩ := hSw; go_simp <;> try omega⟩) hH ?_
        try simp only [put_some, List.set_cons_zero, List.set_cons_succ]
        refine takeH (i := 1) (d := some 23) (v := .int .i64 (k : Nat)) rfl rfl (by kernel_rfl) (by kernel_rfl) (by kernel_rfl) (fun _ _ _ h => h) (Or.inl ⟨by rfl, fun W hSw => by obtain ⟨s0, s1⟩ := hSw; go_simp <;> try omega⟩) hH ?_
        try simp only [put_some, List.set_cons_zero, List.set_cons_succ]
        refine takeH (i := 2) (d := some 24) (v := .slice (some ⟨b, off, none⟩) k cap) rfl rfl (by kernel_rfl) (by kernel_rfl) (by kernel_rfl) (fun _ _ _ h => h) (Or.inl ⟨by rfl, fun W hSw => by obtain ⟨s0, s1⟩ := hSw; go_simp <;> try omega⟩) hH ?_
        try simp only [put_some, List.set_cons_zero, List.set_cons_succ]
        refine takeH (i := 4) (d := some 26) (v := .agg #[.int .i64 ri, .slice ua rn uc]) rfl rfl (by kernel_rfl) (by kernel_rfl) (by kernel_rfl) (fun _ _ _ h => h) (Or.inl ⟨by rfl, fun W hSw => by obtain ⟨s0, s1⟩ := hSw; go_simp <;> try omega⟩) hH ?_
        try simp only [put_some, List.set_cons_zero, List.set_cons_succ]
        refine takeH (i := 8) (d := some 30) (v := .slice (some ⟨b, off, none⟩) n cap) rfl rfl (by kernel_rfl) (by kernel_rfl) (by kernel_rfl) (fun _ _ _ h => h) (Or.inl ⟨by rfl, fun W hSw => by obtain ⟨s0, s1⟩ := hSw; go_simp <;> try omega⟩) hH ?_
        try simp only [put_some, List.set_cons_zero, List.set_cons_succ]
        refine takeH (i := 9) (d := some 31) (v := .int .i64 (k : Nat)) rfl rfl (by kernel_rfl) (by kernel_rfl) (by kernel_rfl) (fun _ _ _ h => h) (Or.inl ⟨by rfl, fun W hSw => by obtain ⟨s0, s1⟩ := hSw; go_simp <;> try omega⟩) hH ?_
        try simp only [put_some, List.set_cons_zero, List.set_cons_succ]
        refine takeH (i := 10) (d := some 32) (v := .slice (some ⟨b, tl, none⟩) (n - k) (cap - k)) rfl rfl (by kernel_rfl) (by kernel_rfl) (by kernel_rfl) (fun _ _ _ h => h) (Or.inl ⟨by rfl, fun W hSw => by obtain ⟨s0, s1⟩ := hSw; go_simp <;> try omega⟩) hH ?_
        try simp only [put_some, List.set_cons_zero, List.set_cons_succ]
        refine wpAnyH_ready (rs := [3]) (by kernel_rfl) (by simp) ?_
        refine AllReadyH.cons rfl (fun K hK => ?_) AllReadyH.nil
        go_simp
        go_at_call 50
        refine (HLA.out _ BDD).mono ?_
        rintro e w1 ⟨va, qa, rfl, Ma, Ea, ⟨ga, ca, rfl⟩, b1⟩
        have T1 := TDD.below b1
        have B1 := below_then BDD b1 BDD.size
        have hz1 := b1.size
        go_wp2_with fail
        refine hK.out _ _ T1.1 (fun hH => ?_)
        clear hK K
        refine wpAnyH_ready (rs := [5]) (by kernel_rfl) (by simp) ?_
        refine AllReadyH.cons rfl (fun K hK => ?_) AllReadyH.nil
        go_simp
        go_at_call 49
        refine (HCP.out _ B1).mono ?_
        rintro e w2 ⟨y, rfl, oy, b2⟩
        have T2 := T1.below b2
        have B2 := below_then B1 b2 B1.size
        have hz2 := b2.size
        have M2 := Ma.below b2 (Nat.le_refl _)
        obtain ⟨ya, yc, hy⟩ := oy.atN.sl
        rw [HRN.out] at hy
        subst hy
        go_wp2_with fail
        refine hK.out _ _ T2.1 (fun hH => ?_)
        clear hK K b2 T1 B1
        refine wpAnyH_ready (rs := [6]) (by kernel_rfl) (by simp) ?_
        refine AllReadyH.cons rfl (fun K hK => ?_) AllReadyH.nil
        have A3 := below_alloc w2 (.cells #[.int .i64 ri, .slice ya rn yc] 27)
        have X3 := two_new w2 (.int .i64 ri) (.slice ya rn yc) 27
        have T3 := T2.below A3
        have B3 := below_then B2 A3 B2.size
        have M3 := M2.below A3 (by omega)
        have oy3 := (oy.below A3 (Nat.le_refl _)).wide (Nat.le_refl _) A3.size
        have hz3 : (w2.alloc (.cells #[.int .i64 ri, .slice ya rn yc] 27)).heap.size = w2.heap.size + 1 := World.size_alloc _ _
        go_simp
        refine hK.out _ _ T3.1 (fun hH => ?_)
        clear hK K A3 T2 B2 M2 oy
        generalize w2.alloc (.cells #[.int .i64 ri, .slice ya rn yc] 27) = w3 at X3 T3 B3 M3 oy3 hz3 hH ⊢
        refine wpAnyH_ready (rs := [7]) (by kernel_rfl) (by simp) ?_
        refine AllReadyH.cons rfl (fun K hK => ?_) AllReadyH.nil
        have OA : Own 27 2 wd.heap.size w1.heap.size w3 (.slice (some ⟨ga, 0, none⟩) qa.length ca) qa.length (prs qa) := M3.1.resolve_left (fun h => by cases h.1)
        have LA : Hid (qa.length = k) := by
          show _ = _
          have e := congrArg List.length Ea
          rw [List.length_map, List.length_map, HTK.out] at e
          exact e
        have ha48 : qa.length ≤ 1048576 := by rw [LA.out]; omega
        have HX3 : AtN 2 w3 (.slice (some ⟨w2.heap.size, 0, none⟩) 1 1) 1 [.int .i64 ri, .slice ya rn yc] := .inr ⟨_, _, _, rfl, Nat.le_refl _, by unfold maxLen; omega, rfl, fun j x hj => by
          match j, hj with
          | 0, hj => simp at hj; subst hj; exact X3.1.1
          | 1, hj => simp at hj; subst hj; exact X3.1.2
          | j + 2, hj => simp at hj⟩
        refine appendN_op Try.elemRows (.tmp 25) (.tmp 28) rfl wd.heap.size w1.heap.size (.slice (some ⟨ga, 0, none⟩) qa.length ca) qa.length (prs qa) rfl OA (.slice (some ⟨w2.heap.size, 0, none⟩) 1 1) 1 [.int .i64 ri, .slice ya rn yc] rfl HX3 (fun x hx => by simp at hx; rcases hx with rfl | rfl <;> rfl) (by unfold maxLen; omega) (by omega) ?_
        intro v4 w4 o4 e4
        have M4 := M3.append (p := (⟨ri, rl⟩, .slice ya rn yc)) hz1 oy3 (by omega) o4 e4
        have T4 : Two w4 w.heap.size _ _ := T3.grown e4.grown (by simp [Value.ownBlock]; obtain ⟨_, _, e, h, _⟩ := OA; simp at e; omega)
        have B4 := B3.grown e4.grown B3.size (fun j hj => by simp [Value.ownBlock] at hj; obtain ⟨_, _, e, h, _⟩ := OA; simp at e; omega)
        have hz4 := e4.grown.size
        obtain ⟨g4, c4, rfl⟩ : ∃ g c, v4 = .slice (some ⟨g, 0, none⟩) (qa.length + 1) c := by obtain ⟨g, c, e, _⟩ := o4; exact ⟨g, c, e⟩
        have HO4 := Lib.hid o4
        refine hK.out _ _ T4.1 (fun hH => ?_)
        clear hK K o4 e4 HX3 OA X3 T3 B3 M3 oy3
        refine wpAnyH_ready (rs := [11]) (by kernel_rfl) (by simp) ?_
        refine AllReadyH.cons rfl (fun K hK => ?_) AllReadyH.nil
        go_simp
        go_at_call 50
        refine (HLC.out _ B4).mono ?_
        rintro e w5 ⟨vc, qc, rfl, Mc, Ec, ⟨gc, cc, rfl⟩, b5⟩
        have T5 := T4.below b5
        have B5 := below_then B4 b5 B4.size
        have hz5 := b5.size
        have M5 := M4.below b5 (Nat.le_refl _)
        have o5 := HO4.out.below b5 (Nat.le_refl _)
        go_wp2_with fail
        refine hK.out _ _ T5.1 (fun hH => ?_)
        clear hK K b5 T4 B4 M4
        refine wpAnyH_ready (rs := [12]) (by kernel_rfl) (by simp) ?_
        refine AllReadyH.cons rfl (fun K hK => ?_) AllReadyH.nil
        have hc48 : qa.length + 1 + qc.length ≤ 1048577 := by
          have e := congrArg List.length Ec
          rw [List.length_map, List.length_map, HDR.out] at e
          rw [LA.out, e]
          omega
        have lq : (qa ++ [((⟨ri, rl⟩ : R), Value.slice ya rn yc)]).length = qa.length + 1 := by simp
        have pq : prs (qa ++ [((⟨ri, rl⟩ : R), Value.slice ya rn yc)]) = prs qa ++ [.int .i64 ri, .slice ya rn yc] := by simp [prs, P.cs]
        have o5' : Own 27 2 wd.heap.size w4.heap.size w5 (.slice (some ⟨g4, 0, none⟩) (qa.length + 1) c4) (qa ++ [((⟨ri, rl⟩ : R), Value.slice ya rn yc)]).length (prs (qa ++ [((⟨ri, rl⟩ : R), Value.slice ya rn yc)])) := by rw [lq, pq]; exact o5
        refine appendN_op Try.elemRows (.tmp 29) (.tmp 33) rfl wd.heap.size w4.heap.size (.slice (some ⟨g4, 0, none⟩) (qa.length + 1) c4) (qa.length + 1) _ rfl o5 (.slice (some ⟨gc, 0, none⟩) qc.length cc) qc.length (prs qc) rfl Mc.atN (prs_one Mc) (by unfold maxLen; omega) (by omega) ?_
        intro v6 w6 o6 e6
        have o6' : Own 27 2 wd.heap.size w6.heap.size w6 v6 ((qa ++ [((⟨ri, rl⟩ : R), Value.slice ya rn yc)]).length + qc.length) (prs (qa ++ [((⟨ri, rl⟩ : R), Value.slice ya rn yc)]) ++ prs qc) := by rw [lq, pq]; exact o6
        have M6 := Lib.hid (MyRs.join (lo := w.heap.size) M5 Mc o5' (by omega) (by omega) (by omega) (Nat.le_refl _) (.inl (Nat.le_refl _)) o6' e6)
        have T6 : Two w6 w.heap.size _ _ := T5.grown e6.grown (by simp [Value.ownBlock]; obtain ⟨_, _, e, h, _⟩ := o5; simp at e; omega)
        have B6 := Lib.hid (B5.grown e6.grown B5.size (fun j hj => by simp [Value.ownBlock] at hj; obtain ⟨_, _, e, h, _⟩ := o5; simp at e; omega))
        have HE6 : Hid (((qa ++ [((⟨ri, rl⟩ : R), Value.slice ya rn yc)]) ++ qc).map (·.1) = putL (ps.map (·.1)) ⟨ri, rl⟩) := by
          show _ = _
          unfold putL
          rw [HPK.out, List.map_append, List.map_append, Ea, Ec, List.map_take, List.map_drop, List.append_assoc]
          rfl
        obtain ⟨g6, c6, rfl⟩ : ∃ g c, v6 = .slice (some ⟨g, 0, none⟩) (qa.length + 1 + qc.length) c := by obtain ⟨g, c, e, _⟩ := o6; exact ⟨g, c, e⟩
        refine hK.out _ _ T6.1 (fun hH => ?_)
        clear hK K o6 e6 o6' o5 o5' Mc M5 T5 T6 B5 lq pq
        refine takeH (i := 13) (d := some 4) (v := .slice (some ⟨g6, 0, none⟩) (qa.length + 1 + qc.length) c6) rfl rfl (by kernel_rfl) (by kernel_rfl) (by kernel_rfl) (fun _ _ _ h => h) (Or.inl ⟨by rfl, fun W hSw => by go_simp⟩) hH ?_
        try simp only [put_some, List.set_cons_zero, List.set_cons_succ]
        refine wpAnyH_done (by kernel_rfl) ?_ _
        go_wp2
        go_ret
        exact ⟨_, rfl, _, M6.out, HE6.out, B6.out⟩
    · have HPK : Hid (putK (ps.map (·.1)) ri = k) := putK_of (by rw [HLM.out]; omega) (fun j hj => by rw [HG.out]; exact HOK.out j hj) (fun hh => by rw [HLM.out] at hh; omega)
      have hkk : ¬ ((k : Int) < (n : Int)) := by omega
      go_wp2
      refine wp_region_held_drew (S := fun _ => True) (by kernel_rfl) trivial (fun hH => ?_)
      refine takeH (i := 0) (d := some 6) (v := .int .i64 (k : Nat)) rfl rfl (by kernel_rfl) (by kernel_rfl) (by kernel_rfl) (fun _ _ _ h => h) (Or.inl ⟨by rfl, fun W hSw => by go_simp <;> try omega⟩) hH ?_
      try simp only [put_some, List.set_cons_zero, List.set_cons_succ]
      refine takeH (i := 1) (d := some 7) (v := .slice (some ⟨b, off, none⟩) n cap) rfl rfl (by kernel_rfl) (by kernel_rfl) (by kernel_rfl) (fun _ _ _ h => h) (Or.inl ⟨by rfl, fun W hSw => by go_simp <;> try omega⟩) hH ?_
      try simp only [put_some, List.set_cons_zero, List.set_cons_succ]
      refine takeH (i := 2) (d := some 8) (v := .int .i64 (n : Nat)) rfl rfl (by kernel_rfl) (by kernel_rfl) (by kernel_rfl) (fun _ _ _ h => h) (Or.inl ⟨by rfl, fun W hSw => by go_simp <;> try omega⟩) hH ?_
      try simp only [put_some, List.set_cons_zero, List.set_cons_succ]
      refine takeH (i := 3) (d := some 9) (v := .bool false) rfl rfl (by kernel_rfl) (by kernel_rfl) (by kernel_rfl) (fun _ _ _ h => h) (Or.inl ⟨by rfl, fun W hSw => by go_simp <;> try omega⟩) hH ?_
      try simp only [put_some, List.set_cons_zero, List.set_cons_succ]
      refine takeH (i := 4) (d := some 10) (v := .bool false) rfl rfl (by kernel_rfl) (by kernel_rfl) (by kernel_rfl) (fun _ _ _ h => h) (Or.inl ⟨by rfl, fun W hSw => by go_simp <;> try omega⟩) hH ?_
      try simp only [put_some, List.set_cons_zero, List.set_cons_succ]
      refine takeH (i := 5) (d := some 11) (v := undef) rfl rfl (by kernel_rfl) (by kernel_rfl) (by kernel_rfl) (fun _ _ _ h => h) (Or.inr ⟨by rfl, rfl⟩) hH ?_
      try simp only [put_some, List.set_cons_zero, List.set_cons_succ]
      refine takeH (i := 6) (d := some 12) (v := undef) rfl rfl (by kernel_rfl) (by kernel_rfl) (by kernel_rfl) (fun _ _ _ h => h) (Or.inr ⟨by rfl, rfl⟩) hH ?_
      try simp only [put_some, List.set_cons_zero, List.set_cons_succ]
      refine takeH (i := 7) (d := some 13) (v := undef) rfl rfl (by kernel_rfl) (by kernel_rfl) (by kernel_rfl) (fun _ _ _ h => h) (Or.inr ⟨by rfl, rfl⟩) hH ?_
      try simp only [put_some, List.set_cons_zero, List.set_cons_succ]
      refine takeH (i := 8) (d := some 14) (v := undef) rfl rfl (by kernel_rfl) (by kernel_rfl) (by kernel_rfl) (fun _ _ _ h => h) (Or.inr ⟨by rfl, rfl⟩) hH ?_
      try simp only [put_some, List.set_cons_zero, List.set_cons_succ]
      refine takeH (i := 9) (d := some 15) (v := undef) rfl rfl (by kernel_rfl) (by kernel_rfl) (by kernel_rfl) (fun _ _ _ h => h) (Or.inr ⟨by rfl, rfl⟩) hH ?_
      try simp only [put_some, List.set_cons_zero, List.set_cons_succ]
      refine takeH (i := 10) (d := some 16) (v := undef) rfl rfl (by kernel_rfl) (by kernel_rfl) (by kernel_rfl) (fun _ _ _ h => h) (Or.inr ⟨by rfl, rfl⟩) hH ?_
      try simp only [put_some, List.set_cons_zero, List.set_cons_succ]
      refine takeH (i := 11) (d := some 17) (v := undef) rfl rfl (by kernel_rfl) (by kernel_rfl) (by kernel_rfl) (fun _ _ _ h => h) (Or.inr ⟨by rfl, rfl⟩) hH ?_
      try simp only [put_some, List.set_cons_zero, List.set_cons_succ]
      refine takeH (i := 12) (d := some 18) (v := undef) rfl rfl (by kernel_rfl) (by kernel_rfl) (by kernel_rfl) (fun _ _ _ h => h) (Or.inr ⟨by rfl, rfl⟩) hH ?_
      try simp only [put_some, List.set_cons_zero, List.set_cons_succ]
      refine takeH (i := 13) (d := some 19) (v := .bool false) rfl rfl (by kernel_rfl) (by kernel_rfl) (by kernel_rfl) (fun _ _ _ h => h) (Or.inl ⟨by rfl, fun W hSw => by go_simp <;> try omega⟩) hH ?_
      try simp only [put_some, List.set_cons_zero, List.set_cons_succ]
      refine wpAnyH_done (by kernel_rfl) ?_ _
      clear hH
      have TD := hT.below (Below.refl wr.heap.size wr).drew
      have BD := below_then hbr (Below.refl wr.heap.size wr).drew hbr.size
      have hzd : w.heap.size + 1 ≤ wr.drew.heap.size := hsz
      have TDD := TD.below (Below.refl wr.drew.heap.size wr.drew).drew
      have BDD := below_then BD (Below.refl wr.drew.heap.size wr.drew).drew BD.size
      have hzdd : w.heap.size + 1 ≤ wr.drew.drew.heap.size := hsz
      obtain ⟨tl, htl, HTL⟩ := tail2_at cap k b off
      have hkc : k ≤ cap := by omega
      have HLA := Lib.hid (fun W (hW : Below w.heap.size w W) => HLH.out k hk W hW)
      have HLC := Lib.hid (fun W (hW : Below w.heap.size w W) => HLT.out k tl hk HTL.out W hW)
      have htake : (ps.take k).length = k := by rw [List.length_take, HL.out]; omega
      have hdrop : (ps.drop k).length = n - k := by rw [List.length_drop, HL.out]
      have HTK := Lib.hid htake
      have HDR := Lib.hid hdrop
      clear htake hdrop hT TD BD hzd hbr
      go_wp2
      refine wp_region_held_drew (S := fun W => W.cell? ⟨w.heap.size, 0, none⟩ = some (.int .i64 ri) ∧ W.cell? ⟨w.heap.size, 1, none⟩ = some (.slice ua rn uc)) (by kernel_rfl) TDD.1 (fun hH => ?_)
      generalize wr.drew.drew = wd at TDD BDD hzdd hH ⊢
      refine takeH (i := 0) (d := some 22) (v := .slice (some ⟨b, off, none⟩) n cap) rfl rfl (by kernel_rfl) (by kernel_rfl) (by kernel_rfl) (fun _ _ _ h => h) (Or.inl ⟨by rfl, fun W hSw => by obtain ⟨s0, s1⟩ := hSw; go_simp <;> try omega⟩) hH ?_
      try simp only [put_some, List.set_cons_zero, List.set_cons_succ]
      refine takeH (i := 1) (d := some 23) (v := .int .i64 (k : Nat)) rfl rfl (by kernel_rfl) (by kernel_rfl) (by kernel_rfl) (fun _ _ _ h => h) (Or.inl ⟨by rfl, fun W hSw => by obtain ⟨s0, s1⟩ := hSw; go_simp <;> try omega⟩) hH ?_
      try simp only [put_some, List.set_cons_zero, List.set_cons_succ]
      refine takeH (i := 2) (d := some 24) (v := .slice (some ⟨b, off, none⟩) k cap) rfl rfl (by kernel_rfl) (by kernel_rfl) (by kernel_rfl) (fun _ _ _ h => h) (Or.inl ⟨by rfl, fun W hSw => by obtain ⟨s0, s1⟩ := hSw; go_simp <;> try omega⟩) hH ?_
      try simp only [put_some, List.set_cons_zero, List.set_cons_succ]
      refine takeH (i := 4) (d := some 26) (v := .agg #[.int .i64 ri, .slice ua rn uc]) rfl rfl (by kernel_rfl) (by kernel_rfl) (by kernel_rfl) (fun _ _ _ h => h) (Or.inl ⟨by rfl, fun W hSw => by obtain ⟨s0, s1⟩ := hSw; go_simp <;> try omega⟩) hH ?_
      try simp only [put_some, List.set_cons_zero, List.set_cons_succ]
      refine takeH (i := 8) (d := some 30) (v := .slice (some ⟨b, off, none⟩) n cap) rfl rfl (by kernel_rfl) (by kernel_rfl) (by kernel_rfl) (fun _ _ _ h => h) (Or.inl ⟨by rfl, fun W hSw => by obtain ⟨s0, s1⟩ := hSw; go_simp <;> try omega⟩) hH ?_
      try simp only [put_some, List.set_cons_zero, List.set_cons_succ]
      refine takeH (i := 9) (d := some 31) (v := .int .i64 (k : Nat)) rfl rfl (by kernel_rfl) (by kernel_rfl) (by kernel_rfl) (fun _ _ _ h => h) (Or.inl ⟨by rfl, fun W hSw => by obtain ⟨s0, s1⟩ := hSw; go_simp <;> try omega⟩) hH ?_
      try simp only [put_some, List.set_cons_zero, List.set_cons_succ]
      refine takeH (i := 10) (d := some 32) (v := .slice (some ⟨b, tl, none⟩) (n - k) (cap - k)) rfl rfl (by kernel_rfl) (by kernel_rfl) (by kernel_rfl) (fun _ _ _ h => h) (Or.inl ⟨by rfl, fun W hSw => by obtain ⟨s0, s1⟩ := hSw; go_simp <;> try omega⟩) hH ?_
      try simp only [put_some, List.set_cons_zero, List.set_cons_succ]
      refine wpAnyH_ready (rs := [3]) (by kernel_rfl) (by simp) ?_
      refine AllReadyH.cons rfl (fun K hK => ?_) AllReadyH.nil
      go_simp
      go_at_call 50
      refine (HLA.out _ BDD).mono ?_
      rintro e w1 ⟨va, qa, rfl, Ma, Ea, ⟨ga, ca, rfl⟩, b1⟩
      have T1 := TDD.below b1
      have B1 := below_then BDD b1 BDD.size
      have hz1 := b1.size
      go_wp2_with fail
      refine hK.out _ _ T1.1 (fun hH => ?_)
      clear hK K
      refine wpAnyH_ready (rs := [5]) (by kernel_rfl) (by simp) ?_
      refine AllReadyH.cons rfl (fun K hK => ?_) AllReadyH.nil
      go_simp
      go_at_call 49
      refine (HCP.out _ B1).mono ?_
      rintro e w2 ⟨y, rfl, oy, b2⟩
      have T2 := T1.below b2
      have B2 := below_then B1 b2 B1.size
      have hz2 := b2.size
      have M2 := Ma.below b2 (Nat.le_refl _)
      obtain ⟨ya, yc, hy⟩ := oy.atN.sl
      rw [HRN.out] at hy
      subst hy
      go_wp2_with fail
      refine hK.out _ _ T2.1 (fun hH => ?_)
      clear hK K b2 T1 B1
      refine wpAnyH_ready (rs := [6]) (by kernel_rfl) (by simp) ?_
      refine AllReadyH.cons rfl (fun K hK => ?_) AllReadyH.nil
      have A3 := below_alloc w2 (.cells #[.int .i64 ri, .slice ya rn yc] 27)
      have X3 := two_new w2 (.int .i64 ri) (.slice ya rn yc) 27
      have T3 := T2.below A3
      have B3 := below_then B2 A3 B2.size
      have M3 := M2.below A3 (by omega)
      have oy3 := (oy.below A3 (Nat.le_refl _)).wide (Nat.le_refl _) A3.size
      have hz3 : (w2.alloc (.cells #[.int .i64 ri, .slice ya rn yc] 27)).heap.size = w2.heap.size + 1 := World.size_alloc _ _
      go_simp
      refine hK.out _ _ T3.1 (fun hH => ?_)
      clear hK K A3 T2 B2 M2 oy
      generalize w2.alloc (.cells #[.int .i64 ri, .slice ya rn yc] 27) = w3 at X3 T3 B3 M3 oy3 hz3 hH ⊢
      refine wpAnyH_ready (rs := [7]) (by kernel_rfl) (by simp) ?_
      refine AllReadyH.cons rfl (fun K hK => ?_) AllReadyH.nil
      have OA : Own 27 2 wd.heap.size w1.heap.size w3 (.slice (some ⟨ga, 0, none⟩) qa.length ca) qa.length (prs qa) := M3.1.resolve_left (fun h => by cases h.1)
      have LA : Hid (qa.length = k) := by
        show _ = _
        have e := congrArg List.length Ea
        rw [List.length_map, List.length_map, HTK.out] at e
        exact e
      have ha48 : qa.length ≤ 1048576 := by rw [LA.out]; omega
      have HX3 : AtN 2 w3 (.slice (some ⟨w2.heap.size, 0, none⟩) 1 1) 1 [.int .i64 ri, .slice ya rn yc] := .inr ⟨_, _, _, rfl, Nat.le_refl _, by unfold maxLen; omega, rfl, fun j x hj => by
        match j, hj with
        | 0, hj => simp at hj; subst hj; exact X3.1.1
        | 1, hj => simp at hj; subst hj; exact X3.1.2
        | j + 2, hj => simp at hj⟩
      refine appendN_op Try.elemRows (.tmp 25) (.tmp 28) rfl wd.heap.size w1.heap.size (.slice (some ⟨ga, 0, none⟩) qa.length ca) qa.length (prs qa) rfl OA (.slice (some ⟨w2.heap.size, 0, none⟩) 1 1) 1 [.int .i64 ri, .slice ya rn yc] rfl HX3 (fun x hx => by simp at hx; rcases hx with rfl | rfl <;> rfl) (by unfold maxLen; omega) (by omega) ?_
      intro v4 w4 o4 e4
      have M4 := M3.append (p := (⟨ri, rl⟩, .slice ya rn yc)) hz1 oy3 (by omega) o4 e4
      have T4 : Two w4 w.heap.size _ _ := T3.grown e4.grown (by simp [Value.ownBlock]; obtain ⟨_, _, e, h, _⟩ := OA; simp at e; omega)
      have B4 := B3.grown e4.grown B3.size (fun j hj => by simp [Value.ownBlock] at hj; obtain ⟨_, _, e, h, _⟩ := OA; simp at e; omega)
      have hz4 := e4.grown.size
      obtain ⟨g4, c4, rfl⟩ : ∃ g c, v4 = .slice (some ⟨g, 0, none⟩) (qa.length + 1) c := by obtain ⟨g, c, e, _⟩ := o4; exact ⟨g, c, e⟩
      have HO4 := Lib.hid o4
      refine hK.out _ _ T4.1 (fun hH => ?_)
      clear hK K o4 e4 HX3 OA X3 T3 B3 M3 oy3
      refine wpAnyH_ready (rs := [11]) (by kernel_rfl) (by simp) ?_
      refine AllReadyH.cons rfl (fun K hK => ?_) AllReadyH.nil
      go_simp
      go_at_call 50
      refine (HLC.out _ B4).mono ?_
      rintro e w5 ⟨vc, qc, rfl, Mc, Ec, ⟨gc, cc, rfl⟩, b5⟩
      have T5 := T4.below b5
      have B5 := below_then B4 b5 B4.size
      have hz5 := b5.size
      have M5 := M4.below b5 (Nat.le_refl _)
      have o5 := HO4.out.below b5 (Nat.le_refl _)
      go_wp2_with fail
      refine hK.out _ _ T5.1 (fun hH => ?_)
      clear hK K b5 T4 B4 M4
      refine wpAnyH_ready (rs := [12]) (by kernel_rfl) (by simp) ?_
      refine AllReadyH.cons rfl (fun K hK => ?_) AllReadyH.nil
      have hc48 : qa.length + 1 + qc.length ≤ 1048577 := by
        have e := congrArg List.length Ec
        rw [List.length_map, List.length_map, HDR.out] at e
        rw [LA.out, e]
        omega
      have lq : (qa ++ [((⟨ri, rl⟩ : R), Value.slice ya rn yc)]).length = qa.length + 1 := by simp
      have pq : prs (qa ++ [((⟨ri, rl⟩ : R), Value.slice ya rn yc)]) = prs qa ++ [.int .i64 ri, .slice ya rn yc] := by simp [prs, P.cs]
      have o5' : Own 27 2 wd.heap.size w4.heap.size w5 (.slice (some ⟨g4, 0, none⟩) (qa.length + 1) c4) (qa ++ [((⟨ri, rl⟩ : R), Value.slice ya rn yc)]).length (prs (qa ++ [((⟨ri, rl⟩ : R), Value.slice ya rn yc)])) := by rw [lq, pq]; exact o5
      refine appendN_op Try.elemRows (.tmp 29) (.tmp 33) rfl wd.heap.size w4.heap.size (.slice (some ⟨g4, 0, none⟩) (qa.length + 1) c4) (qa.length + 1) _ rfl o5 (.slice (some ⟨gc, 0, none⟩) qc.length cc) qc.length (prs qc) rfl Mc.atN (prs_one Mc) (by unfold maxLen; omega) (by omega) ?_
      intro v6 w6 o6 e6
      have o6' : Own 27 2 wd.heap.size w6.heap.size w6 v6 ((qa ++ [((⟨ri, rl⟩ : R), Value.slice ya rn yc)]).length + qc.length) (prs (qa ++ [((⟨ri, rl⟩ : R), Value.slice ya rn yc)]) ++ prs qc) := by rw [lq, pq]; exact o6
      have M6 := Lib.hid (MyRs.join (lo := w.heap.size) M5 Mc o5' (by omega) (by omega) (by omega) (Nat.le_refl _) (.inl (Nat.le_refl _)) o6' e6)
      have T6 : Two w6 w.heap.size _ _ := T5.grown e6.grown (by simp [Value.ownBlock]; obtain ⟨_, _, e, h, _⟩ := o5; simp at e; omega)
      have B6 := Lib.hid (B5.grown e6.grown B5.size (fun j hj => by simp [Value.ownBlock] at hj; obtain ⟨_, _, e, h, _⟩ := o5; simp at e; omega))
      have HE6 : Hid (((qa ++ [((⟨ri, rl⟩ : R), Value.slice ya rn yc)]) ++ qc).map (·.1) = putL (ps.map (·.1)) ⟨ri, rl⟩) := by
        show _ = _
        unfold putL
        rw [HPK.out, List.map_append, List.map_append, Ea, Ec, List.map_take, List.map_drop, List.append_assoc]
        rfl
      obtain ⟨g6, c6, rfl⟩ : ∃ g c, v6 = .slice (some ⟨g, 0, none⟩) (qa.length + 1 + qc.length) c := by obtain ⟨g, c, e, _⟩ := o6; exact ⟨g, c, e⟩
      refine hK.out _ _ T6.1 (fun hH => ?_)
      clear hK K o6 e6 o6' o5 o5' Mc M5 T5 T6 B5 lq pq
      refine takeH (i := 13) (d := some 4) (v := .slice (some ⟨g6, 0, none⟩) (qa.length + 1 + qc.length) c6) rfl rfl (by kernel_rfl) (by kernel_rfl) (by kernel_rfl) (fun _ _ _ h => h) (Or.inl ⟨by rfl, fun W hSw => by go_simp⟩) hH ?_
      try simp only [put_some, List.set_cons_zero, List.set_cons_succ]
      refine wpAnyH_done (by kernel_rfl) ?_ _
      go_wp2
      go_ret
      exact ⟨_, rfl, _, M6.out, HE6.out, B6.out⟩

end Go.Proofs.Ytkofafefnlommaa

/- The program's copyRows, slices.IndexFunc with PutRow's closure (written by mk_I13p.py). -/
namespace Go.Proofs.Ytkofafefnlommaa
open Go.RowKit

set_option maxRecDepth 100000 in
set_option maxHeartbeats 4000000 in
theorem iCopyRows (v : Value) (ps : List P) (w : World) (hn : ps.length ≤ 1048576) (hli : ∀ p ∈ ps, p.1.l.length ≤ 1048576) (h : RdRsN w v ps) :
    Calls Try.prog 43 #[v] w fun e w' => ∃ v' qs, e = .returned v' ∧ MyRs w.heap.size w'.heap.size w' v' qs ∧ qs.map (·.1) = ps.map (·.1) ∧ (∃ g cp, v' = .slice (some ⟨g, 0, none⟩) qs.length cp) ∧ Below w.heap.size w w' := by
  generalize hl : ps.length = n at hn
  obtain ⟨a, cap, rfl, _, HC⟩ := h.walk hl
  have HLI : Hid (∀ k, k < n → (ps.getD k P.zero).1.l.length ≤ 1048576) := fun k hk => by
    have hk' : k < ps.length := by omega
    have e : ps.getD k P.zero = ps[k] := by simp [hk']
    rw [e]
    exact hli _ (List.getElem_mem hk')
  have HMT : Hid (∀ j, j < n → (ps.map (·.1)).take (j + 1) = (ps.map (·.1)).take j ++ [(ps.getD j P.zero).1]) := fun j hj => by
    have hk' : j < (ps.map (·.1)).length := by rw [List.length_map]; omega
    rw [List.take_succ_eq_append_getElem hk', ← getD_fstR]
    simp [hl, hj]
  have HALL : Hid ((ps.map (·.1)).take n = ps.map (·.1)) := by
    show _ = _
    rw [← hl, List.take_of_length_le (by rw [List.length_map]; exact Nat.le_refl _)]
  have B1 := below_alloc w (.cells #[] 27)
  have O1 := own_lit (e := 27) (size := 2) w #[] 0 (Nat.zero_le _) rfl
  have hz1 : (w.alloc (.cells #[] 27)).heap.size = w.heap.size + 1 := World.size_alloc _ _
  generalize hw1 : w.alloc (.cells #[] 27) = w1 at B1 O1 hz1
  have HW1 := Lib.hid hw1
  clear hw1 hl h hli
  go_enter Try.func43, Try.ntmps43
  go_wp2
  rw [HW1.out]
  go_loopw [3, 9] (fun o i wr => ∃ (j : Nat) (qs : List P), j ≤ n ∧ i = .int .i64 j ∧ (∃ g cp, o = .slice (some ⟨g, 0, none⟩) qs.length cp) ∧ MyRs w.heap.size wr.heap.size wr o qs ∧ qs.map (·.1) = (ps.map (·.1)).take j ∧ qs.length = j ∧ Below w.heap.size w wr) (fun _ i _ => n - (intOf i).toNat)
  case atStart => exact ⟨0, [], Nat.zero_le _, rfl, ⟨_, _, rfl⟩, ⟨.inr (show Own 27 2 w.heap.size w1.heap.size w1 _ 0 [] by simpa using O1), fun p hp => (by cases hp), List.Pairwise.nil⟩, rfl, rfl, B1⟩
  case round =>
    obtain ⟨j, qs, hj, rfl, ⟨og, ocp, rfl⟩, hmy, hqs, hql, hbr⟩ := hrel
    have HMY := Lib.hid hmy
    have HQS := Lib.hid hqs
    have HQL := Lib.hid hql
    have hsz := hbr.size
    have hqn : qs.length ≤ 1048576 := by omega
    clear O1 hqs B1 hz1 hql
    by_cases hlt : j < n
    · obtain ⟨b, off, rfl, c0, c1, hat⟩ := HC.out j hlt wr hbr
      have HST : Hid (∀ y : Value, (qs ++ [((ps.getD j P.zero).1, y)]).map (·.1) = (ps.map (·.1)).take (j + 1)) := fun y => by
        rw [HMT.out j hlt, List.map_append, HQS.out]
        rfl
      have hll := HLI.out j hlt
      generalize hpj : ps.getD j P.zero = pj at c0 c1 hat HST hll
      clear hpj
      obtain ⟨r, x⟩ := pj
      simp only at c0 c1 hat HST hll
      obtain ⟨xa, xc, rfl⟩ := hat.sl
      have HAT := Lib.hid (fun W (hW : Below wr.heap.size wr W) => iCopyRow r (.slice xa r.l.length xc) W hll (hat.below hW))
      clear hat
      generalize hxl : r.l.length = xn at c1 hll HAT
      obtain ⟨ri, rl⟩ := r
      simp only at c0 c1 HST HAT hll
      have HXL := Lib.hid hxl
      clear hmy hxl
      have BW := below_alloc wr (.cells #[.int .i64 ri, .slice xa xn xc] 27)
      have T2 := two_new wr (.int .i64 ri) (.slice xa xn xc) 27
      generalize hwa : wr.alloc (.cells #[.int .i64 ri, .slice xa xn xc] 27) = wa at BW T2
      have HWA := Lib.hid hwa
      obtain ⟨⟨t0, t1⟩, t2, t3⟩ := T2
      clear hwa
      have M2 := (HMY.out.below BW (Nat.le_refl _)).wide (Nat.le_refl _) BW.size
      have B2 := below_then hbr BW hbr.size
      have HA2 := Lib.hid (HAT.out _ BW)
      go_wp2_with fail
      rw [HWA.out]
      refine HA2.out.mono ?_
      rintro e w3 ⟨x3, rfl, o3, b3⟩
      clear c0 c1 t0 t1 t2 t3
      obtain ⟨ya, yc, hy⟩ := o3.atN.sl
      generalize rl.length = yn at hy
      subst hy
      have M4 := (M2.below b3 (Nat.le_refl _))
      have B4 := below_then B2 b3 B2.size
      have hs3 := b3.size
      have hs2 := B2.size
      have HM4 := Lib.hid M4
      have HO4 := Lib.hid o3
      have ONN := M4.1
      have hlo4 : w.heap.size ≤ w3.heap.size := B4.size
      clear o3 b3 M4 M2 B2 HA2 HAT
      go_wp2_with (at_builtin; refine appendR_law Try.elemRows rfl _ _ rfl w.heap.size _ _ _ _ ri ya yn yc rfl ONN hlo4 _ rfl rfl (by unfold maxLen; omega) (by omega) ?_)
      intro v5 w5 o5 e5
      have HF : Hid (MyRs w.heap.size w5.heap.size w5 v5 (qs ++ [(⟨ri, rl⟩, .slice ya yn yc)]) ∧ (qs ++ [((⟨ri, rl⟩ : R), Value.slice ya yn yc)]).map (·.1) = (ps.map (·.1)).take (j + 1) ∧ (qs ++ [((⟨ri, rl⟩ : R), Value.slice ya yn yc)]).length = j + 1 ∧ Below w.heap.size w w5) := ⟨HM4.out.append (by omega) HO4.out (by omega) o5 e5, HST.out _, by rw [List.length_append, HQL.out]; rfl, B4.grown e5.grown B4.size (fun k hk => Nat.le_of_not_lt (fun hlt => ONN.not_low (b := k) (by omega) hk))⟩
      obtain ⟨vb, vc, hv5⟩ : ∃ g cp, v5 = .slice (some ⟨g, 0, none⟩) (qs.length + 1) cp := by obtain ⟨g, cp, e, _⟩ := o5; exact ⟨g, cp, e⟩
      subst hv5
      clear o5 e5 B4 ONN
      go_wp2
      go_roundw
      case rel => exact ⟨j + 1, _, by omega, by go_num, ⟨_, _, by rw [List.length_append]; rfl⟩, HF.out⟩
      case measure => simp [intOf]; omega
    · obtain rfl : j = n := by omega
      clear hmy
      go_wp2
      go_ret
      exact ⟨_, rfl, qs, HMY.out, HQS.out.trans HALL.out, ⟨_, _, rfl⟩, hbr⟩

set_option maxHeartbeats 400000 in
theorem iPutRow1 (xi ri : Int) (xu : Value) (q : Nat) (w : World) (hq : w.cell? ⟨q, 0, none⟩ = some (.int .i64 ri)) :
    Calls Try.prog 45 #[.agg #[.int .i64 xi, xu], .pointer (some ⟨q, 0, none⟩)] w fun e w' => e = .returned (.bool (decide (ri ≤ xi))) ∧ Below w.heap.size w w' := by
  have B0 := below_alloc w (.cells #[.int .i64 xi, xu] 27)
  have h1 := (B0.cell (p := ⟨q, 0, none⟩) (lt_of_cell hq)).trans hq
  go_enter Try.func45, Try.ntmps45
  go_wp2
  go_ret
  exact ⟨ret_bool (by simp), B0⟩

/-- Where the first Row stands whose number is not less. -/
def putAt (l : List R) (n : Int) : Int := if putK l n = l.length then -1 else (putK l n : Int)

set_option maxRecDepth 100000 in
set_option maxHeartbeats 1000000 in
theorem iIndexRow (v : Value) (ps : List P) (ri : Int) (q : Nat) (w : World) (hn : ps.length ≤ 1048576) (h : RdRs w v ps) (hq : w.cell? ⟨q, 0, none⟩ = some (.int .i64 ri)) :
    Calls Try.prog 44 #[v, .func (.func 45) #[] #[.pointer (some ⟨q, 0, none⟩)]] w fun e w' => e = .returned (.int .i64 (putAt (ps.map (·.1)) ri)) ∧ Below w.heap.size w w' := by
  generalize hl : ps.length = n at hn
  obtain ⟨a, cap, rfl, _, HC⟩ := h.walk hl
  have HL : Hid ((ps.map (·.1)).length = n) := by show _ = _; rw [List.length_map, hl]
  have HG : Hid (∀ k, (ps.map (·.1)).getD k R.zero = (ps.getD k P.zero).1) := fun k => getD_fstR ps k
  clear hl h
  go_enter Try.func44, Try.ntmps44
  go_wp2
  go_loopw [8] (fun i wr => ∃ k : Nat, k ≤ n ∧ i = .int .i64 k ∧ (∀ j, j < k → (ps.getD j P.zero).1.id < ri) ∧ Below w.heap.size w wr) (fun i _ => n - (intOf i).toNat)
  case atStart => exact ⟨0, Nat.zero_le _, rfl, fun j hj => by omega, Below.refl _ _⟩
  case round =>
    obtain ⟨k, hk, rfl, hok, hbr⟩ := hrel
    have HOK := Lib.hid hok
    clear hok
    by_cases hlt : k < n
    · obtain ⟨b, off, rfl, c0, c1, hrd⟩ := HC.out k hlt wr hbr
      have HS : Hid ((ps.getD k P.zero).1.id < ri → ∀ j, j < k + 1 → (ps.getD j P.zero).1.id < ri) := fun h j hj => by
        by_cases e : j = k
        · subst e; exact h
        · exact HOK.out j (by omega)
      have HE : Hid (¬ (ps.getD k P.zero).1.id < ri → putAt (ps.map (·.1)) ri = (k : Int)) := fun hh => by
        have e := putK_of (l := ps.map (·.1)) (n := ri) (k := k) (by rw [HL.out]; omega) (fun j hj => by rw [HG.out]; exact HOK.out j hj) (fun _ => by rw [HG.out]; exact hh)
        unfold putAt
        rw [e, HL.out, if_neg (by omega)]
      obtain ⟨xa, xc, hx, _⟩ := hrd
      generalize ps.getD k P.zero = pk at c0 c1 hx HS HE
      obtain ⟨⟨xi, xl⟩, x⟩ := pk
      simp only at c0 c1 hx HS HE
      generalize xl.length = xn at hx
      subst hx
      have HP := Lib.hid (iPutRow1 xi ri (.slice xa xn xc) q wr ((hbr.cell (p := ⟨q, 0, none⟩) (lt_of_cell hq)).trans hq))
      by_cases hd : ri ≤ xi
      · have HE2 := Lib.hid (HE.out (by omega))
        rw [decide_eq_true hd] at HP
        clear HS HE hd
        go_wp2_with fail
        refine HP.out.mono ?_
        rintro e w2 ⟨rfl, b2⟩
        have B2 := below_then hbr b2 hbr.size
        clear b2 HP c0 c1
        go_wp2
        go_ret
        exact ⟨ret_int HE2.out.symm, B2⟩
      · have HS2 := Lib.hid (HS.out (by omega))
        rw [decide_eq_false hd] at HP
        clear HS HE hd
        go_wp2_with fail
        refine HP.out.mono ?_
        rintro e w2 ⟨rfl, b2⟩
        have B2 := below_then hbr b2 hbr.size
        clear b2 HP c0 c1
        go_wp2
        go_roundw
        case rel => exact ⟨k + 1, by omega, by go_num, HS2.out, B2⟩
        case measure => simp [intOf]; omega
    · obtain rfl : k = n := by omega
      have HE : Hid (putAt (ps.map (·.1)) ri = -1) := by
        show _ = _
        have e := putK_of (l := ps.map (·.1)) (n := ri) (k := k) (by rw [HL.out]; omega) (fun j hj => by rw [HG.out]; exact HOK.out j hj) (fun hh => by rw [HL.out] at hh; omega)
        unfold putAt
        rw [e, HL.out, if_pos rfl]
      go_wp2
      go_ret
      exact ⟨ret_int HE.out.symm, hbr⟩

end Go.Proofs.Ytkofafefnlommaa
