/- The model's PutRow (written by mk_S13p.py). -/
import Derived.Test.YtkofafefnlommaaC13p
import Derived.Test.YtkofafefnlommaaS12j
import Derived.Test.YtkofafefnlommaaTake
namespace Go.Proofs.Ytkofafefnlommaa
open Go.RowKit

set_option maxRecDepth 100000 in
set_option maxHeartbeats 1500000 in
theorem sPutRow : CPutRow 17 := by
  intro v u r ps ls w hn hli hv hr hrl hu hls
  subst hls
  have HRD : Hid (RdRsN w v ps) := ⟨hv.rd, hr⟩
  generalize hl : ps.length = n at hn hv
  have HL := Lib.hid hl
  obtain ⟨a, cap', hva, _, HC⟩ := HRD.out.walk hl
  obtain ⟨b, off, cap, rfl, hnc, hcm, _, _⟩ := id hv
  simp only [Value.slice.injEq, true_and] at hva
  obtain ⟨rfl, rfl⟩ := hva
  have HLH : Hid (∀ k, k ≤ n → ∀ W, Below w.heap.size w W → Calls Try.prog 50 #[.slice (some ⟨b, off, none⟩) k cap] W fun e w' => ∃ v' qs, e = .returned v' ∧ MyRs W.heap.size w'.heap.size w' v' qs ∧ qs.map (·.1) = (ps.take k).map (·.1) ∧ (∃ g cp, v' = .slice (some ⟨g, 0, none⟩) qs.length cp) ∧ Below W.heap.size W w') := fun k hk W hW =>
    sL4All _ _ W (by rw [List.length_take]; omega) (fun p hp => hli p (List.mem_of_mem_take hp)) (((hv.hd2 hl hr hk)).below hW)
  have HLT : Hid (∀ k tl, k ≤ n → (k < cap → tl = off + k * 2) → ∀ W, Below w.heap.size w W → Calls Try.prog 50 #[.slice (some ⟨b, tl, none⟩) (n - k) (cap - k)] W fun e w' => ∃ v' qs, e = .returned v' ∧ MyRs W.heap.size w'.heap.size w' v' qs ∧ qs.map (·.1) = (ps.drop k).map (·.1) ∧ (∃ g cp, v' = .slice (some ⟨g, 0, none⟩) qs.length cp) ∧ Below W.heap.size W w') := fun k tl hk ht W hW =>
    sL4All _ _ W (by rw [List.length_drop]; omega) (fun p hp => hli p (List.mem_of_mem_drop hp)) (((hv.tl2 hl hr hk ht)).below hW)
  have HCP := Lib.hid (fun W (hW : Below w.heap.size w W) => sL4Copy r u W hrl (hu.below hW))
  obtain ⟨ua, uc, rfl⟩ := hu.sl
  obtain ⟨ri, rl⟩ := r
  generalize hrn : rl.length = rn at HCP hrl ⊢
  have HRN := Lib.hid hrn
  simp only at HCP hrl
  have HG : Hid (∀ k, (ps.map (·.1)).getD k R.zero = (ps.getD k P.zero).1) := fun k => getD_fstR ps k
  have HLM : Hid ((ps.map (·.1)).length = n) := by show _ = _; rw [List.length_map, hl]
  have B0 := below_alloc w (.cells #[.int .i64 ri, .slice ua rn uc] 27)
  have T0 := two_new w (.int .i64 ri) (.slice ua rn uc) 27
  have hz0 : (w.alloc (.cells #[.int .i64 ri, .slice ua rn uc] 27)).heap.size = w.heap.size + 1 := World.size_alloc _ _
  generalize hw0 : w.alloc (.cells #[.int .i64 ri, .slice ua rn uc] 27) = w0 at B0 T0 hz0
  have HW0 := Lib.hid hw0
  unfold maxLen at hcm
  clear hw0 hl hv hr hli hu hrn
  go_enter Try.func17, Try.ntmps17
  go_wp2
  rw [HW0.out]
  go_loopw [5] (fun i wr => ∃ k : Nat, k ≤ n ∧ i = .int .i64 k ∧ (∀ j, j < k → (ps.getD j P.zero).1.id < ri) ∧ Two wr w.heap.size (.int .i64 ri) (.slice ua rn uc) ∧ Below w.heap.size w wr ∧ w.heap.size + 1 ≤ wr.heap.size) (fun i _ => n - (intOf i).toNat)
  case atStart => exact ⟨0, Nat.zero_le _, rfl, fun j hj => by omega, T0, B0, by omega⟩
  case round =>
    obtain ⟨k, hk, rfl, hok, hT, hbr, hsz⟩ := hrel
    have HOK := Lib.hid hok
    clear hok T0 B0 hz0
    by_cases hlt : k < n
    · obtain ⟨b', off', eb, c0, _, _⟩ := HC.out k hlt _ (below_then hbr (Below.refl wr.heap.size wr).drew hbr.size)
      simp only [Option.some.injEq, Addr.mk.injEq, and_true] at eb
      obtain ⟨rfl, rfl⟩ := eb
      have q0 := (hT.below (Below.refl wr.heap.size wr).drew).1.1
      have HS : Hid ((ps.getD k P.zero).1.id < ri → ∀ j, j < k + 1 → (ps.getD j P.zero).1.id < ri) := fun h j hj => by
        by_cases e : j = k
        · subst e; exact h
        · exact HOK.out j (by omega)
      have HE : Hid (¬ (ps.getD k P.zero).1.id < ri → putK (ps.map (·.1)) ri = k) := fun hh => putK_of (by rw [HLM.out]; omega) (fun j hj => by rw [HG.out]; exact HOK.out j hj) (fun _ => by rw [HG.out]; exact hh)
      generalize (ps.getD k P.zero).1.id = pid at c0 HS HE
      have hkn : (k : Int) < (n : Int) := by omega
      by_cases hd : pid < ri
      · have HS2 := Lib.hid (HS.out hd)
        clear HS HE
        go_wp2
        refine wp_region_held_drew (S := fun W => W.cell? ⟨b, off + k * 2, none⟩ = some (.int .i64 pid) ∧ W.cell? ⟨w.heap.size, 0, none⟩ = some (.int .i64 ri)) (by kernel_rfl) ⟨c0, q0⟩ (fun hH => ?_)
        refine takeH (i := 0) (d := some 6) (v := .int .i64 (k : Nat)) rfl rfl (by kernel_rfl) (by kernel_rfl) (by kernel_rfl) (fun _ _ _ h => h) (Or.inl ⟨by rfl, fun W hSw => by obtain ⟨s0, s1⟩ := hSw; go_simp <;> try omega⟩) hH ?_
        try simp only [put_some, List.set_cons_zero, List.set_cons_succ]
        refine takeH (i := 1) (d := some 7) (v := .slice (some ⟨b, off, none⟩) n cap) rfl rfl (by kernel_rfl) (by kernel_rfl) (by kernel_rfl) (fun _ _ _ h => h) (Or.inl ⟨by rfl, fun W hSw => by obtain ⟨s0, s1⟩ := hSw; go_simp <;> try omega⟩) hH ?_
        try simp only [put_some, List.set_cons_zero, List.set_cons_succ]
        refine takeH (i := 2) (d := some 8) (v := .int .i64 (n : Nat)) rfl rfl (by kernel_rfl) (by kernel_rfl) (by kernel_rfl) (fun _ _ _ h => h) (Or.inl ⟨by rfl, fun W hSw => by obtain ⟨s0, s1⟩ := hSw; go_simp <;> try omega⟩) hH ?_
        try simp only [put_some, List.set_cons_zero, List.set_cons_succ]
        refine takeH (i := 3) (d := some 9) (v := .bool true) rfl rfl (by kernel_rfl) (by kernel_rfl) (by kernel_rfl) (fun _ _ _ h => h) (Or.inl ⟨by rfl, fun W hSw => by obtain ⟨s0, s1⟩ := hSw; go_simp <;> try omega⟩) hH ?_
        try simp only [put_some, List.set_cons_zero, List.set_cons_succ]
        refine takeH (i := 4) (d := some 10) (v := .bool true) rfl rfl (by kernel_rfl) (by kernel_rfl) (by kernel_rfl) (fun _ _ _ h => h) (Or.inl ⟨by rfl, fun W hSw => by obtain ⟨s0, s1⟩ := hSw; go_simp <;> try omega⟩) hH ?_
        try simp only [put_some, List.set_cons_zero, List.set_cons_succ]
        refine takeH (i := 5) (d := some 11) (v := .slice (some ⟨b, off, none⟩) n cap) rfl rfl (by kernel_rfl) (by kernel_rfl) (by kernel_rfl) (fun _ _ _ h => h) (Or.inl ⟨by rfl, fun W hSw => by obtain ⟨s0, s1⟩ := hSw; go_simp <;> try omega⟩) hH ?_
        try simp only [put_some, List.set_cons_zero, List.set_cons_succ]
        refine takeH (i := 6) (d := some 12) (v := .int .i64 (k : Nat)) rfl rfl (by kernel_rfl) (by kernel_rfl) (by kernel_rfl) (fun _ _ _ h => h) (Or.inl ⟨by rfl, fun W hSw => by obtain ⟨s0, s1⟩ := hSw; go_simp <;> try omega⟩) hH ?_
        try simp only [put_some, List.set_cons_zero, List.set_cons_succ]
        refine takeH (i := 7) (d := some 13) (v := .pointer (some ⟨b, off + k * 2, none⟩)) rfl rfl (by kernel_rfl) (by kernel_rfl) (by kernel_rfl) (fun _ _ _ h => h) (Or.inl ⟨by rfl, fun W hSw => by obtain ⟨s0, s1⟩ := hSw; go_simp <;> try omega⟩) hH ?_
        try simp only [put_some, List.set_cons_zero, List.set_cons_succ]
        refine takeH (i := 8) (d := some 14) (v := .pointer (some ⟨b, off + k * 2, none⟩)) rfl rfl (by kernel_rfl) (by kernel_rfl) (by kernel_rfl) (fun _ _ _ h => h) (Or.inl ⟨by rfl, fun W hSw => by obtain ⟨s0, s1⟩ := hSw; go_simp <;> try omega⟩) hH ?_
        try simp only [put_some, List.set_cons_zero, List.set_cons_succ]
        refine takeH (i := 9) (d := some 15) (v := .int .i64 pid) rfl rfl (by kernel_rfl) (by kernel_rfl) (by kernel_rfl) (fun _ _ _ h => h) (Or.inl ⟨by rfl, fun W hSw => by obtain ⟨s0, s1⟩ := hSw; go_simp <;> try omega⟩) hH ?_
        try simp only [put_some, List.set_cons_zero, List.set_cons_succ]
        refine takeH (i := 10) (d := some 16) (v := .pointer (some ⟨w.heap.size, 0, none⟩)) rfl rfl (by kernel_rfl) (by kernel_rfl) (by kernel_rfl) (fun _ _ _ h => h) (Or.inl ⟨by rfl, fun W hSw => by obtain ⟨s0, s1⟩ := hSw; go_simp <;> try omega⟩) hH ?_
        try simp only [put_some, List.set_cons_zero, List.set_cons_succ]
        refine takeH (i := 11) (d := some 17) (v := .int .i64 ri) rfl rfl (by kernel_rfl) (by kernel_rfl) (by kernel_rfl) (fun _ _ _ h => h) (Or.inl ⟨by rfl, fun W hSw => by obtain ⟨s0, s1⟩ := hSw; go_simp <;> try omega⟩) hH ?_
        try simp only [put_some, List.set_cons_zero, List.set_cons_succ]
        refine takeH (i := 12) (d := some 18) (v := .bool true) rfl rfl (by kernel_rfl) (by kernel_rfl) (by kernel_rfl) (fun _ _ _ h => h) (Or.inl ⟨by rfl, fun W hSw => by obtain ⟨s0, s1⟩ := hSw; go_simp <;> try omega⟩) hH ?_
        try simp only [put_some, List.set_cons_zero, List.set_cons_succ]
        refine takeH (i := 13) (d := some 19) (v := .bool true) rfl rfl (by kernel_rfl) (by kernel_rfl) (by kernel_rfl) (fun _ _ _ h => h) (Or.inl ⟨by rfl, fun W hSw => by obtain ⟨s0, s1⟩ := hSw; go_simp <;> try omega⟩) hH ?_
        try simp only [put_some, List.set_cons_zero, List.set_cons_succ]
        refine wpAnyH_done (by kernel_rfl) ?_ _
        have HT2 := Lib.hid (hT.below (Below.refl wr.heap.size wr).drew)
        have B2 := below_then hbr (Below.refl wr.heap.size wr).drew hbr.size
        clear c0 q0 hH
        go_wp2
        go_roundw
        case rel => exact ⟨k + 1, by omega, by go_num, HS2.out, HT2.out, B2, hsz⟩
        case measure => simp [intOf]; omega
      · have HPK := Lib.hid (HE.out hd)
        clear HS HE
        go_wp2
        refine wp_region_held_drew (S := fun W => W.cell? ⟨b, off + k * 2, none⟩ = some (.int .i64 pid) ∧ W.cell? ⟨w.heap.size, 0, none⟩ = some (.int .i64 ri)) (by kernel_rfl) ⟨c0, q0⟩ (fun hH => ?_)
        refine takeH (i := 0) (d := some 6) (v := .int .i64 (k : Nat)) rfl rfl (by kernel_rfl) (by kernel_rfl) (by kernel_rfl) (fun _ _ _ h => h) (Or.inl ⟨by rfl, fun W hSw => by obtain ⟨s0, s1⟩ := hSw; go_simp <;> try omega⟩) hH ?_
        try simp only [put_some, List.set_cons_zero, List.set_cons_succ]
        refine takeH (i := 1) (d := some 7) (v := .slice (some ⟨b, off, none⟩) n cap) rfl rfl (by kernel_rfl) (by kernel_rfl) (by kernel_rfl) (fun _ _ _ h => h) (Or.inl ⟨by rfl, fun W hSw => by obtain ⟨s0, s1⟩ := hSw; go_simp <;> try omega⟩) hH ?_
        try simp only [put_some, List.set_cons_zero, List.set_cons_succ]
        refine takeH (i := 2) (d := some 8) (v := .int .i64 (n : Nat)) rfl rfl (by kernel_rfl) (by kernel_rfl) (by kernel_rfl) (fun _ _ _ h => h) (Or.inl ⟨by rfl, fun W hSw => by obtain ⟨s0, s1⟩ := hSw; go_simp <;> try omega⟩) hH ?_
        try simp only [put_some, List.set_cons_zero, List.set_cons_succ]
        refine takeH (i := 3) (d := some 9) (v := .bool true) rfl rfl (by kernel_rfl) (by kernel_rfl) (by kernel_rfl) (fun _ _ _ h => h) (Or.inl ⟨by rfl, fun W hSw => by obtain ⟨s0, s1⟩ := hSw; go_simp <;> try omega⟩) hH ?_
        try simp only [put_some, List.set_cons_zero, List.set_cons_succ]
        refine takeH (i := 4) (d := some 10) (v := .bool true) rfl rfl (by kernel_rfl) (by kernel_rfl) (by kernel_rfl) (fun _ _ _ h => h) (Or.inl ⟨by rfl, fun W hSw => by obtain ⟨s0, s1⟩ := hSw; go_simp <;> try omega⟩) hH ?_
        try simp only [put_some, List.set_cons_zero, List.set_cons_succ]
        refine takeH (i := 5) (d := some 11) (v := .slice (some ⟨b, off, none⟩) n cap) rfl rfl (by kernel_rfl) (by kernel_rfl) (by kernel_rfl) (fun _ _ _ h => h) (Or.inl ⟨by rfl, fun W hSw => by obtain ⟨s0, s1⟩ := hSw; go_simp <;> try omega⟩) hH ?_
        try simp only [put_some, List.set_cons_zero, List.set_cons_succ]
        refine takeH (i := 6) (d := some 12) (v := .int .i64 (k : Nat)) rfl rfl (by kernel_rfl) (by kernel_rfl) (by kernel_rfl) (fun _ _ _ h => h) (Or.inl ⟨by rfl, fun W hSw => by obtain ⟨s0, s1⟩ := hSw; go_simp <;> try omega⟩) hH ?_
        try simp only [put_some, List.set_cons_zero, List.set_cons_succ]
        refine takeH (i := 7) (d := some 13) (v := .pointer (some ⟨b, off + k * 2, none⟩)) rfl rfl (by kernel_rfl) (by kernel_rfl) (by kernel_rfl) (fun _ _ _ h => h) (Or.inl ⟨by rfl, fun W hSw => by obtain ⟨s0, s1⟩ := hSw; go_simp <;> try omega⟩) hH ?_
        try simp only [put_some, List.set_cons_zero, List.set_cons_succ]
        refine takeH (i := 8) (d := some 14) (v := .pointer (some ⟨b, off + k * 2, none⟩)) rfl rfl (by kernel_rfl) (by kernel_rfl) (by kernel_rfl) (fun _ _ _ h => h) (Or.inl ⟨by rfl, fun W hSw => by obtain ⟨s0, s1⟩ := hSw; go_simp <;> try omega⟩) hH ?_
        try simp only [put_some, List.set_cons_zero, List.set_cons_succ]
        refine takeH (i := 9) (d := some 15) (v := .int .i64 pid) rfl rfl (by kernel_rfl) (by kernel_rfl) (by kernel_rfl) (fun _ _ _ h => h) (Or.inl ⟨by rfl, fun W hSw => by obtain ⟨s0, s1⟩ := hSw; go_simp <;> try omega⟩) hH ?_
        try simp only [put_some, List.set_cons_zero, List.set_cons_succ]
        refine takeH (i := 10) (d := some 16) (v := .pointer (some ⟨w.heap.size, 0, none⟩)) rfl rfl (by kernel_rfl) (by kernel_rfl) (by kernel_rfl) (fun _ _ _ h => h) (Or.inl ⟨by rfl, fun W hSw => by obtain ⟨s0, s1⟩ := hSw; go_simp <;> try omega⟩) hH ?_
        try simp only [put_some, List.set_cons_zero, List.set_cons_succ]
        refine takeH (i := 11) (d := some 17) (v := .int .i64 ri) rfl rfl (by kernel_rfl) (by kernel_rfl) (by kernel_rfl) (fun _ _ _ h => h) (Or.inl ⟨by rfl, fun W hSw => by obtain ⟨s0, s1⟩ := hSw; go_simp <;> try omega⟩) hH ?_
        try simp only [put_some, List.set_cons_zero, List.set_cons_succ]
        refine takeH (i := 12) (d := some 18) (v := .bool false) rfl rfl (by kernel_rfl) (by kernel_rfl) (by kernel_rfl) (fun _ _ _ h => h) (Or.inl ⟨by rfl, fun W hSw => by obtain ⟨s0, s1⟩ := hSw; go_simp <;> try omega⟩) hH ?_
        try simp only [put_some, List.set_cons_zero, List.set_cons_succ]
        refine takeH (i := 13) (d := some 19) (v := .bool false) rfl rfl (by kernel_rfl) (by kernel_rfl) (by kernel_rfl) (fun _ _ _ h => h) (Or.inl ⟨by rfl, fun W hSw => by obtain ⟨s0, s1⟩ := hSw; go_simp <;> try omega⟩) hH ?_
        try simp only [put_some, List.set_cons_zero, List.set_cons_succ]
        refine wpAnyH_done (by kernel_rfl) ?_ _
        clear c0 q0 hH
        have TD := hT.below (Below.refl wr.heap.size wr).drew
        have BD := below_then hbr (Below.refl wr.heap.size wr).drew hbr.size
        have hzd : w.heap.size + 1 ≤ wr.drew.heap.size := hsz
        have TDD := TD.below (Below.refl wr.drew.heap.size wr.drew).drew
        have BDD := below_then BD (Below.refl wr.drew.heap.size wr.drew).drew BD.size
        have hzdd : w.heap.size + 1 ≤ wr.drew.drew.heap.size := hsz
        obtain ⟨tl, htl, HTL⟩ := tail2_at cap k b off
        have hkc : k ≤ cap := by omega
        have HLA := Lib.hid (fun W (hW : Below w.heap.size w W) => HLH.out k hk W hW)
        have HLC := Lib.hid (fun W (hW : Below w.heap.size w W) => HLT.out k tl hk HTL.out W hW)
        have htake : (ps.take k).length = k := by rw [List.length_take, HL.out]; omega
        have hdrop : (ps.drop k).length = n - k := by rw [List.length_drop, HL.out]
        have HTK := Lib.hid htake
        have HDR := Lib.hid hdrop
        clear htake hdrop hT TD BD hzd hbr
        go_wp2
        refine wp_region_held_drew (S := fun W => W.cell? ⟨w.heap.size, 0, none⟩ = some (.int .i64 ri) ∧ W.cell? ⟨w.heap.size, 1, none⟩ = some (.slice ua rn uc)) (by kernel_rfl) TDD.1 (fun hH => ?_)
        generalize wr.drew.drew = wd at TDD BDD hzdd hH ⊢
        refine takeH (i := 0) (d := some 22) (v := .slice (some ⟨b, off, none⟩) n cap) rfl rfl (by kernel_rfl) (by kernel_rfl) (by kernel_rfl) (fun _ _ _ h => h) (Or.inl ⟨by rfl, fun W hSw => by obtain ⟨s0, s1⟩ := hSw; go_simp <;> try omega⟩) hH ?_
        try simp only [put_some, List.set_cons_zero, List.set_cons_succ]
        refine takeH (i := 1) (d := some 23) (v := .int .i64 (k : Nat)) rfl rfl (by kernel_rfl) (by kernel_rfl) (by kernel_rfl) (fun _ _ _ h => h) (Or.inl ⟨by rfl, fun W hSw => by obtain ⟨s0, s1⟩ := hSw; go_simp <;> try omega⟩) hH ?_
        try simp only [put_some, List.set_cons_zero, List.set_cons_succ]
        refine takeH (i := 2) (d := some 24) (v := .slice (some ⟨b, off, none⟩) k cap) rfl rfl (by kernel_rfl) (by kernel_rfl) (by kernel_rfl) (fun _ _ _ h => h) (Or.inl ⟨by rfl, fun W hSw => by obtain ⟨s0, s1⟩ := hSw; go_simp <;> try omega⟩) hH ?_
        try simp only [put_some, List.set_cons_zero, List.set_cons_succ]
        refine takeH (i := 4) (d := some 26) (v := .agg #[.int .i64 ri, .slice ua rn uc]) rfl rfl (by kernel_rfl) (by kernel_rfl) (by kernel_rfl) (fun _ _ _ h => h) (Or.inl ⟨by rfl, fun W hSw => by obtain ⟨s0, s1⟩ := hSw; go_simp <;> try omega⟩) hH ?_
        try simp only [put_some, List.set_cons_zero, List.set_cons_succ]
        refine takeH (i := 8) (d := some 30) (v := .slice (some ⟨b, off, none⟩) n cap) rfl rfl (by kernel_rfl) (by kernel_rfl) (by kernel_rfl) (fun _ _ _ h => h) (Or.inl ⟨by rfl, fun W hSw => by obtain ⟨s0, s1⟩ := hSw; go_simp <;> try omega⟩) hH ?_
        try simp only [put_some, List.set_cons_zero, List.set_cons_succ]
        refine takeH (i := 9) (d := some 31) (v := .int .i64 (k : Nat)) rfl rfl (by kernel_rfl) (by kernel_rfl) (by kernel_rfl) (fun _ _ _ h => h) (Or.inl ⟨by rfl, fun W hSw => by obtain ⟨s0, s1⟩ := hSw; go_simp <;> try omega⟩) hH ?_
        try simp only [put_some, List.set_cons_zero, List.set_cons_succ]
        refine takeH (i := 10) (d := some 32) (v := .slice (some ⟨b, tl, none⟩) (n - k) (cap - k)) rfl rfl (by kernel_rfl) (by kernel_rfl) (by kernel_rfl) (fun _ _ _ h => h) (Or.inl ⟨by rfl, fun W hSw => by obtain ⟨s0, s1⟩ := hSw; go_simp <;> try omega⟩) hH ?_
        try simp only [put_some, List.set_cons_zero, List.set_cons_succ]
        refine wpAnyH_ready (rs := [3]) (by kernel_rfl) (by simp) ?_
        refine AllReadyH.cons rfl (fun K hK => ?_) AllReadyH.nil
        go_simp
        go_at_call 50
        refine (HLA.out _ BDD).mono ?_
        rintro e w1 ⟨va, qa, rfl, Ma, Ea, ⟨ga, ca, rfl⟩, b1⟩
        have T1 := TDD.below b1
        have B1 := below_then BDD b1 BDD.size
        have hz1 := b1.size
        go_wp2_with fail
        refine hK.out _ _ T1.1 (fun hH => ?_)
        clear hK K
        refine wpAnyH_ready (rs := [5]) (by kernel_rfl) (by simp) ?_
        refine AllReadyH.cons rfl (fun K hK => ?_) AllReadyH.nil
        go_simp
        go_at_call 49
        refine (HCP.out _ B1).mono ?_
        rintro e w2 ⟨y, rfl, oy, b2⟩
        have T2 := T1.below b2
        have B2 := below_then B1 b2 B1.size
        have hz2 := b2.size
        have M2 := Ma.below b2 (Nat.le_refl _)
        obtain ⟨ya, yc, hy⟩ := oy.atN.sl
        rw [HRN.out] at hy
        subst hy
        go_wp2_with fail
        refine hK.out _ _ T2.1 (fun hH => ?_)
        clear hK K b2 T1 B1
        refine wpAnyH_ready (rs := [6]) (by kernel_rfl) (by simp) ?_
        refine AllReadyH.cons rfl (fun K hK => ?_) AllReadyH.nil
        have A3 := below_alloc w2 (.cells #[.int .i64 ri, .slice ya rn yc] 27)
        have X3 := two_new w2 (.int .i64 ri) (.slice ya rn yc) 27
        have T3 := T2.below A3
        have B3 := below_then B2 A3 B2.size
        have M3 := M2.below A3 (by omega)
        have oy3 := (oy.below A3 (Nat.le_refl _)).wide (Nat.le_refl _) A3.size
        have hz3 : (w2.alloc (.cells #[.int .i64 ri, .slice ya rn yc] 27)).heap.size = w2.heap.size + 1 := World.size_alloc _ _
        go_simp
        refine hK.out _ _ T3.1 (fun hH => ?_)
        clear hK K A3 T2 B2 M2 oy
        generalize w2.alloc (.cells #[.int .i64 ri, .slice ya rn yc] 27) = w3 at X3 T3 B3 M3 oy3 hz3 hH ⊢
        refine wpAnyH_ready (rs := [7]) (by kernel_rfl) (by simp) ?_
        refine AllReadyH.cons rfl (fun K hK => ?_) AllReadyH.nil
        have OA : Own 27 2 wd.heap.size w1.heap.size w3 (.slice (some ⟨ga, 0, none⟩) qa.length ca) qa.length (prs qa) := M3.1.resolve_left (fun h => by cases h.1)
        have LA : Hid (qa.length = k) := by
          show _ = _
          have e := congrArg List.length Ea
          rw [List.length_map, List.length_map, HTK.out] at e
          exact e
        have ha48 : qa.length ≤ 1048576 := by rw [LA.out]; omega
        have HX3 : AtN 2 w3 (.slice (some ⟨w2.heap.size, 0, none⟩) 1 1) 1 [.int .i64 ri, .slice ya rn yc] := .inr ⟨_, _, _, rfl, Nat.le_refl _, by unfold maxLen; omega, rfl, fun j x hj => by
          match j, hj with
          | 0, hj => simp at hj; subst hj; exact X3.1.1
          | 1, hj => simp at hj; subst hj; exact X3.1.2
          | j + 2, hj => simp at hj⟩
        refine appendN_op Try.elemRows (.tmp 25) (.tmp 28) rfl wd.heap.size w1.heap.size (.slice (some ⟨ga, 0, none⟩) qa.length ca) qa.length (prs qa) rfl OA (.slice (some ⟨w2.heap.size, 0, none⟩) 1 1) 1 [.int .i64 ri, .slice ya rn yc] rfl HX3 (fun x hx => by simp at hx; rcases hx with rfl | rfl <;> rfl) (by unfold maxLen; omega) (by omega) ?_
        intro v4 w4 o4 e4
        have M4 := M3.append (p := (⟨ri, rl⟩, .slice ya rn yc)) hz1 oy3 (by omega) o4 e4
        have T4 : Two w4 w.heap.size _ _ := T3.grown e4.grown (by simp [Value.ownBlock]; obtain ⟨_, _, e, h, _⟩ := OA; simp at e; omega)
        have B4 := B3.grown e4.grown B3.size (fun j hj => by simp [Value.ownBlock] at hj; obtain ⟨_, _, e, h, _⟩ := OA; simp at e; omega)
        have hz4 := e4.grown.size
        obtain ⟨g4, c4, rfl⟩ : ∃ g c, v4 = .slice (some ⟨g, 0, none⟩) (qa.length + 1) c := by obtain ⟨g, c, e, _⟩ := o4; exact ⟨g, c, e⟩
        have HO4 := Lib.hid o4
        refine hK.out _ _ T4.1 (fun hH => ?_)
        clear hK K o4 e4 HX3 OA X3 T3 B3 M3 oy3
        refine wpAnyH_ready (rs := [11]) (by kernel_rfl) (by simp) ?_
        refine AllReadyH.cons rfl (fun K hK => ?_) AllReadyH.nil
        go_simp
        go_at_call 50
        refine (HLC.out _ B4).mono ?_
        rintro e w5 ⟨vc, qc, rfl, Mc, Ec, ⟨gc, cc, rfl⟩, b5⟩
        have T5 := T4.below b5
        have B5 := below_then B4 b5 B4.size
        have hz5 := b5.size
        have M5 := M4.below b5 (Nat.le_refl _)
        have o5 := HO4.out.below b5 (Nat.le_refl _)
        go_wp2_with fail
        refine hK.out _ _ T5.1 (fun hH => ?_)
        clear hK K b5 T4 B4 M4
        refine wpAnyH_ready (rs := [12]) (by kernel_rfl) (by simp) ?_
        refine AllReadyH.cons rfl (fun K hK => ?_) AllReadyH.nil
        have hc48 : qa.length + 1 + qc.length ≤ 1048577 := by
          have e := congrArg List.length Ec
          rw [List.length_map, List.length_map, HDR.out] at e
          rw [LA.out, e]
          omega
        have lq : (qa ++ [((⟨ri, rl⟩ : R), Value.slice ya rn yc)]).length = qa.length + 1 := by simp
        have pq : prs (qa ++ [((⟨ri, rl⟩ : R), Value.slice ya rn yc)]) = prs qa ++ [.int .i64 ri, .slice ya rn yc] := by simp [prs, P.cs]
        have o5' : Own 27 2 wd.heap.size w4.heap.size w5 (.slice (some ⟨g4, 0, none⟩) (qa.length + 1) c4) (qa ++ [((⟨ri, rl⟩ : R), Value.slice ya rn yc)]).length (prs (qa ++ [((⟨ri, rl⟩ : R), Value.slice ya rn yc)])) := by rw [lq, pq]; exact o5
        refine appendN_op Try.elemRows (.tmp 29) (.tmp 33) rfl wd.heap.size w4.heap.size (.slice (some ⟨g4, 0, none⟩) (qa.length + 1) c4) (qa.length + 1) _ rfl o5 (.slice (some ⟨gc, 0, none⟩) qc.length cc) qc.length (prs qc) rfl Mc.atN (prs_one Mc) (by unfold maxLen; omega) (by omega) ?_
        intro v6 w6 o6 e6
        have o6' : Own 27 2 wd.heap.size w6.heap.size w6 v6 ((qa ++ [((⟨ri, rl⟩ : R), Value.slice ya rn yc)]).length + qc.length) (prs (qa ++ [((⟨ri, rl⟩ : R), Value.slice ya rn yc)]) ++ prs qc) := by rw [lq, pq]; exact o6
        have M6 := Lib.hid (MyRs.join (lo := w.heap.size) M5 Mc o5' (by omega) (by omega) (by omega) (Nat.le_refl _) (.inl (Nat.le_refl _)) o6' e6)
        have T6 : Two w6 w.heap.size _ _ := T5.grown e6.grown (by simp [Value.ownBlock]; obtain ⟨_, _, e, h, _⟩ := o5; simp at e; omega)
        have B6 := Lib.hid (B5.grown e6.grown B5.size (fun j hj => by simp [Value.ownBlock] at hj; obtain ⟨_, _, e, h, _⟩ := o5; simp at e; omega))
        have HE6 : Hid (((qa ++ [((⟨ri, rl⟩ : R), Value.slice ya rn yc)]) ++ qc).map (·.1) = putL (ps.map (·.1)) ⟨ri, rl⟩) := by
          show _ = _
          unfold putL
          rw [HPK.out, List.map_append, List.map_append, Ea, Ec, List.map_take, List.map_drop, List.append_assoc]
          rfl
        obtain ⟨g6, c6, rfl⟩ : ∃ g c, v6 = .slice (some ⟨g, 0, none⟩) (qa.length + 1 + qc.length) c := by obtain ⟨g, c, e, _⟩ := o6; exact ⟨g, c, e⟩
        refine hK.out _ _ T6.1 (fun hH => ?_)
        clear hK K o6 e6 o6' o5 o5' Mc M5 T5 T6 B5 lq pq
        refine takeH (i := 13) (d := some 4) (v := .slice (some ⟨g6, 0, none⟩) (qa.length + 1 + qc.length) c6) rfl rfl (by kernel_rfl) (by kernel_rfl) (by kernel_rfl) (fun _ _ _ h => h) (Or.inl ⟨by rfl, fun W hSw => by go_simp⟩) hH ?_
        try simp only [put_some, List.set_cons_zero, List.set_cons_succ]
        refine wpAnyH_done (by kernel_rfl) ?_ _
        go_wp2
        go_ret
        exact ⟨_, rfl, _, M6.out, HE6.out, B6.out⟩
    · have HPK : Hid (putK (ps.map (·.1)) ri = k) := putK_of (by rw [HLM.out]; omega) (fun j hj => by rw [HG.out]; exact HOK.out j hj) (fun hh => by rw [HLM.out] at hh; omega)
      have hkk : ¬ ((k : Int) < (n : Int)) := by omega
      go_wp2
      refine wp_region_held_drew (S := fun _ => True) (by kernel_rfl) trivial (fun hH => ?_)
      refine takeH (i := 0) (d := some 6) (v := .int .i64 (k : Nat)) rfl rfl (by kernel_rfl) (by kernel_rfl) (by kernel_rfl) (fun _ _ _ h => h) (Or.inl ⟨by rfl, fun W hSw => by go_simp <;> try omega⟩) hH ?_
      try simp only [put_some, List.set_cons_zero, List.set_cons_succ]
      refine takeH (i := 1) (d := some 7) (v := .slice (some ⟨b, off, none⟩) n cap) rfl rfl (by kernel_rfl) (by kernel_rfl) (by kernel_rfl) (fun _ _ _ h => h) (Or.inl ⟨by rfl, fun W hSw => by go_simp <;> try omega⟩) hH ?_
      try simp only [put_some, List.set_cons_zero, List.set_cons_succ]
      refine takeH (i := 2) (d := some 8) (v := .int .i64 (n : Nat)) rfl rfl (by kernel_rfl) (by kernel_rfl) (by kernel_rfl) (fun _ _ _ h => h) (Or.inl ⟨by rfl, fun W hSw => by go_simp <;> try omega⟩) hH ?_
      try simp only [put_some, List.set_cons_zero, List.set_cons_succ]
      refine takeH (i := 3) (d := some 9) (v := .bool false) rfl rfl (by kernel_rfl) (by kernel_rfl) (by kernel_rfl) (fun _ _ _ h => h) (Or.inl ⟨by rfl, fun W hSw => by go_simp <;> try omega⟩) hH ?_
      try simp only [put_some, List.set_cons_zero, List.set_cons_succ]
      refine takeH (i := 4) (d := some 10) (v := .bool false) rfl rfl (by kernel_rfl) (by kernel_rfl) (by kernel_rfl) (fun _ _ _ h => h) (Or.inl ⟨by rfl, fun W hSw => by go_simp <;> try omega⟩) hH ?_
      try simp only [put_some, List.set_cons_zero, List.set_cons_succ]
      refine takeH (i := 5) (d := some 11) (v := undef) rfl rfl (by kernel_rfl) (by kernel_rfl) (by kernel_rfl) (fun _ _ _ h => h) (Or.inr ⟨by rfl, rfl⟩) hH ?_
      try simp only [put_some, List.set_cons_zero, List.set_cons_succ]
      refine takeH (i := 6) (d := some 12) (v := undef) rfl rfl (by kernel_rfl) (by kernel_rfl) (by kernel_rfl) (fun _ _ _ h => h) (Or.inr ⟨by rfl, rfl⟩) hH ?_
      try simp only [put_some, List.set_cons_zero, List.set_cons_succ]
      refine takeH (i := 7) (d := some 13) (v := undef) rfl rfl (by kernel_rfl) (by kernel_rfl) (by kernel_rfl) (fun _ _ _ h => h) (Or.inr ⟨by rfl, rfl⟩) hH ?_
      try simp only [put_some, List.set_cons_zero, List.set_cons_succ]
      refine takeH (i := 8) (d := some 14) (v := undef) rfl rfl (by kernel_rfl) (by kernel_rfl) (by kernel_rfl) (fun _ _ _ h => h) (Or.inr ⟨by rfl, rfl⟩) hH ?_
      try simp only [put_some, List.set_cons_zero, List.set_cons_succ]
      refine takeH (i := 9) (d := some 15) (v := undef) rfl rfl (by kernel_rfl) (by kernel_rfl) (by kernel_rfl) (fun _ _ _ h => h) (Or.inr ⟨by rfl, rfl⟩) hH ?_
      try simp only [put_some, List.set_cons_zero, List.set_cons_succ]
      refine takeH (i := 10) (d := some 16) (v := undef) rfl rfl (by kernel_rfl) (by kernel_rfl) (by kernel_rfl) (fun _ _ _ h => h) (Or.inr ⟨by rfl, rfl⟩) hH ?_
      try simp only [put_some, List.set_cons_zero, List.set_cons_succ]
      refine takeH (i := 11) (d := some 17) (v := undef) rfl rfl (by kernel_rfl) (by kernel_rfl) (by kernel_rfl) (fun _ _ _ h => h) (Or.inr ⟨by rfl, rfl⟩) hH ?_
      try simp only [put_some, List.set_cons_zero, List.set_cons_succ]
      refine takeH (i := 12) (d := some 18) (v := undef) rfl rfl (by kernel_rfl) (by kernel_rfl) (by kernel_rfl) (fun _ _ _ h => h) (Or.inr ⟨by rfl, rfl⟩) hH ?_
      try simp only [put_some, List.set_cons_zero, List.set_cons_succ]
      refine takeH (i := 13) (d := some 19) (v := .bool false) rfl rfl (by kernel_rfl) (by kernel_rfl) (by kernel_rfl) (fun _ _ _ h => h) (Or.inl ⟨by rfl, fun W hSw => by go_simp <;> try omega⟩) hH ?_
      try simp only [put_some, List.set_cons_zero, List.set_cons_succ]
      refine wpAnyH_done (by kernel_rfl) ?_ _
      clear hH
      have TD := hT.below (Below.refl wr.heap.size wr).drew
      have BD := below_then hbr (Below.refl wr.heap.size wr).drew hbr.size
      have hzd : w.heap.size + 1 ≤ wr.drew.heap.size := hsz
      have TDD := TD.below (Below.refl wr.drew.heap.size wr.drew).drew
      have BDD := below_then BD (Below.refl wr.drew.heap.size wr.drew).drew BD.size
      have hzdd : w.heap.size + 1 ≤ wr.drew.drew.heap.size := hsz
      obtain ⟨tl, htl, HTL⟩ := tail2_at cap k b off
      have hkc : k ≤ cap := by omega
      have HLA := Lib.hid (fun W (hW : Below w.heap.size w W) => HLH.out k hk W hW)
      have HLC := Lib.hid (fun W (hW : Below w.heap.size w W) => HLT.out k tl hk HTL.out W hW)
      have htake : (ps.take k).length = k := by rw [List.length_take, HL.out]; omega
      have hdrop : (ps.drop k).length = n - k := by rw [List.length_drop, HL.out]
      have HTK := Lib.hid htake
      have HDR := Lib.hid hdrop
      clear htake hdrop hT TD BD hzd hbr
      go_wp2
      refine wp_region_held_drew (S := fun W => W.cell? ⟨w.heap.size, 0, none⟩ = some (.int .i64 ri) ∧ W.cell? ⟨w.heap.size, 1, none⟩ = some (.slice ua rn uc)) (by kernel_rfl) TDD.1 (fun hH => ?_)
      generalize wr.drew.drew = wd at TDD BDD hzdd hH ⊢
      refine takeH (i := 0) (d := some 22) (v := .slice (some ⟨b, off, none⟩) n cap) rfl rfl (by kernel_rfl) (by kernel_rfl) (by kernel_rfl) (fun _ _ _ h => h) (Or.inl ⟨by rfl, fun W hSw => by obtain ⟨s0, s1⟩ := hSw; go_simp <;> try omega⟩) hH ?_
      try simp only [put_some, List.set_cons_zero, List.set_cons_succ]
      refine takeH (i := 1) (d := some 23) (v := .int .i64 (k : Nat)) rfl rfl (by kernel_rfl) (by kernel_rfl) (by kernel_rfl) (fun _ _ _ h => h) (Or.inl ⟨by rfl, fun W hSw => by obtain ⟨s0, s1⟩ := hSw; go_simp <;> try omega⟩) hH ?_
      try simp only [put_some, List.set_cons_zero, List.set_cons_succ]
      refine takeH (i := 2) (d := some 24) (v := .slice (some ⟨b, off, none⟩) k cap) rfl rfl (by kernel_rfl) (by kernel_rfl) (by kernel_rfl) (fun _ _ _ h => h) (Or.inl ⟨by rfl, fun W hSw => by obtain ⟨s0, s1⟩ := hSw; go_simp <;> try omega⟩) hH ?_
      try simp only [put_some, List.set_cons_zero, List.set_cons_succ]
      refine takeH (i := 4) (d := some 26) (v := .agg #[.int .i64 ri, .slice ua rn uc]) rfl rfl (by kernel_rfl) (by kernel_rfl) (by kernel_rfl) (fun _ _ _ h => h) (Or.inl ⟨by rfl, fun W hSw => by obtain ⟨s0, s1⟩ := hSw; go_simp <;> try omega⟩) hH ?_
      try simp only [put_some, List.set_cons_zero, List.set_cons_succ]
      refine takeH (i := 8) (d := some 30) (v := .slice (some ⟨b, off, none⟩) n cap) rfl rfl (by kernel_rfl) (by kernel_rfl) (by kernel_rfl) (fun _ _ _ h => h) (Or.inl ⟨by rfl, fun W hSw => by obtain ⟨s0, s1⟩ := hSw; go_simp <;> try omega⟩) hH ?_
      try simp only [put_some, List.set_cons_zero, List.set_cons_succ]
      refine takeH (i := 9) (d := some 31) (v := .int .i64 (k : Nat)) rfl rfl (by kernel_rfl) (by kernel_rfl) (by kernel_rfl) (fun _ _ _ h => h) (Or.inl ⟨by rfl, fun W hSw => by obtain ⟨s0, s1⟩ := hSw; go_simp <;> try omega⟩) hH ?_
      try simp only [put_some, List.set_cons_zero, List.set_cons_succ]
      refine takeH (i := 10) (d := some 32) (v := .slice (some ⟨b, tl, none⟩) (n - k) (cap - k)) rfl rfl (by kernel_rfl) (by kernel_rfl) (by kernel_rfl) (fun _ _ _ h => h) (Or.inl ⟨by rfl, fun W hSw => by obtain ⟨s0, s1⟩ := hSw; go_simp <;> try omega⟩) hH ?_
      try simp only [put_some, List.set_cons_zero, List.set_cons_succ]
      refine wpAnyH_ready (rs := [3]) (by kernel_rfl) (by simp) ?_
      refine AllReadyH.cons rfl (fun K hK => ?_) AllReadyH.nil
      go_simp
      go_at_call 50
      refine (HLA.out _ BDD).mono ?_
      rintro e w1 ⟨va, qa, rfl, Ma, Ea, ⟨ga, ca, rfl⟩, b1⟩
      have T1 := TDD.below b1
      have B1 := below_then BDD b1 BDD.size
      have hz1 := b1.size
      go_wp2_with fail
      refine hK.out _ _ T1.1 (fun hH => ?_)
      clear hK K
      refine wpAnyH_ready (rs := [5]) (by kernel_rfl) (by simp) ?_
      refine AllReadyH.cons rfl (fun K hK => ?_) AllReadyH.nil
      go_simp
      go_at_call 49
      refine (HCP.out _ B1).mono ?_
      rintro e w2 ⟨y, rfl, oy, b2⟩
      have T2 := T1.below b2
      have B2 := below_then B1 b2 B1.size
      have hz2 := b2.size
      have M2 := Ma.below b2 (Nat.le_refl _)
      obtain ⟨ya, yc, hy⟩ := oy.atN.sl
      rw [HRN.out] at hy
      subst hy
      go_wp2_with fail
      refine hK.out _ _ T2.1 (fun hH => ?_)
      clear hK K b2 T1 B1
      refine wpAnyH_ready (rs := [6]) (by kernel_rfl) (by simp) ?_
      refine AllReadyH.cons rfl (fun K hK => ?_) AllReadyH.nil
      have A3 := below_alloc w2 (.cells #[.int .i64 ri, .slice ya rn yc] 27)
      have X3 := two_new w2 (.int .i64 ri) (.slice ya rn yc) 27
      have T3 := T2.below A3
      have B3 := below_then B2 A3 B2.size
      have M3 := M2.below A3 (by omega)
      have oy3 := (oy.below A3 (Nat.le_refl _)).wide (Nat.le_refl _) A3.size
      have hz3 : (w2.alloc (.cells #[.int .i64 ri, .slice ya rn yc] 27)).heap.size = w2.heap.size + 1 := World.size_alloc _ _
      go_simp
      refine hK.out _ _ T3.1 (fun hH => ?_)
      clear hK K A3 T2 B2 M2 oy
      generalize w2.alloc (.cells #[.int .i64 ri, .slice ya rn yc] 27) = w3 at X3 T3 B3 M3 oy3 hz3 hH ⊢
      refine wpAnyH_ready (rs := [7]) (by kernel_rfl) (by simp) ?_
      refine AllReadyH.cons rfl (fun K hK => ?_) AllReadyH.nil
      have OA : Own 27 2 wd.heap.size w1.heap.size w3 (.slice (some ⟨ga, 0, none⟩) qa.length ca) qa.length (prs qa) := M3.1.resolve_left (fun h => by cases h.1)
      have LA : Hid (qa.length = k) := by
        show _ = _
        have e := congrArg List.length Ea
        rw [List.length_map, List.length_map, HTK.out] at e
        exact e
      have ha48 : qa.length ≤ 1048576 := by rw [LA.out]; omega
      have HX3 : AtN 2 w3 (.slice (some ⟨w2.heap.size, 0, none⟩) 1 1) 1 [.int .i64 ri, .slice ya rn yc] := .inr ⟨_, _, _, rfl, Nat.le_refl _, by unfold maxLen; omega, rfl, fun j x hj => by
        match j, hj with
        | 0, hj => simp at hj; subst hj; exact X3.1.1
        | 1, hj => simp at hj; subst hj; exact X3.1.2
        | j + 2, hj => simp at hj⟩
      refine appendN_op Try.elemRows (.tmp 25) (.tmp 28) rfl wd.heap.size w1.heap.size (.slice (some ⟨ga, 0, none⟩) qa.length ca) qa.length (prs qa) rfl OA (.slice (some ⟨w2.heap.size, 0, none⟩) 1 1) 1 [.int .i64 ri, .slice ya rn yc] rfl HX3 (fun x hx => by simp at hx; rcases hx with rfl | rfl <;> rfl) (by unfold maxLen; omega) (by omega) ?_
      intro v4 w4 o4 e4
      have M4 := M3.append (p := (⟨ri, rl⟩, .slice ya rn yc)) hz1 oy3 (by omega) o4 e4
      have T4 : Two w4 w.heap.size _ _ := T3.grown e4.grown (by simp [Value.ownBlock]; obtain ⟨_, _, e, h, _⟩ := OA; simp at e; omega)
      have B4 := B3.grown e4.grown B3.size (fun j hj => by simp [Value.ownBlock] at hj; obtain ⟨_, _, e, h, _⟩ := OA; simp at e; omega)
      have hz4 := e4.grown.size
      obtain ⟨g4, c4, rfl⟩ : ∃ g c, v4 = .slice (some ⟨g, 0, none⟩) (qa.length + 1) c := by obtain ⟨g, c, e, _⟩ := o4; exact ⟨g, c, e⟩
      have HO4 := Lib.hid o4
      refine hK.out _ _ T4.1 (fun hH => ?_)
      clear hK K o4 e4 HX3 OA X3 T3 B3 M3 oy3
      refine wpAnyH_ready (rs := [11]) (by kernel_rfl) (by simp) ?_
      refine AllReadyH.cons rfl (fun K hK => ?_) AllReadyH.nil
      go_simp
      go_at_call 50
      refine (HLC.out _ B4).mono ?_
      rintro e w5 ⟨vc, qc, rfl, Mc, Ec, ⟨gc, cc, rfl⟩, b5⟩
      have T5 := T4.below b5
      have B5 := below_then B4 b5 B4.size
      have hz5 := b5.size
      have M5 := M4.below b5 (Nat.le_refl _)
      have o5 := HO4.out.below b5 (Nat.le_refl _)
      go_wp2_with fail
      refine hK.out _ _ T5.1 (fun hH => ?_)
      clear hK K b5 T4 B4 M4
      refine wpAnyH_ready (rs := [12]) (by kernel_rfl) (by simp) ?_
      refine AllReadyH.cons rfl (fun K hK => ?_) AllReadyH.nil
      have hc48 : qa.length + 1 + qc.length ≤ 1048577 := by
        have e := congrArg List.length Ec
        rw [List.length_map, List.length_map, HDR.out] at e
        rw [LA.out, e]
        omega
      have lq : (qa ++ [((⟨ri, rl⟩ : R), Value.slice ya rn yc)]).length = qa.length + 1 := by simp
      have pq : prs (qa ++ [((⟨ri, rl⟩ : R), Value.slice ya rn yc)]) = prs qa ++ [.int .i64 ri, .slice ya rn yc] := by simp [prs, P.cs]
      have o5' : Own 27 2 wd.heap.size w4.heap.size w5 (.slice (some ⟨g4, 0, none⟩) (qa.length + 1) c4) (qa ++ [((⟨ri, rl⟩ : R), Value.slice ya rn yc)]).length (prs (qa ++ [((⟨ri, rl⟩ : R), Value.slice ya rn yc)])) := by rw [lq, pq]; exact o5
      refine appendN_op Try.elemRows (.tmp 29) (.tmp 33) rfl wd.heap.size w4.heap.size (.slice (some ⟨g4, 0, none⟩) (qa.length + 1) c4) (qa.length + 1) _ rfl o5 (.slice (some ⟨gc, 0, none⟩) qc.length cc) qc.length (prs qc) rfl Mc.atN (prs_one Mc) (by unfold maxLen; omega) (by omega) ?_
      intro v6 w6 o6 e6
      have o6' : Own 27 2 wd.heap.size w6.heap.size w6 v6 ((qa ++ [((⟨ri, rl⟩ : R), Value.slice ya rn yc)]).length + qc.length) (prs (qa ++ [((⟨ri, rl⟩ : R), Value.slice ya rn yc)]) ++ prs qc) := by rw [lq, pq]; exact o6
      have M6 := Lib.hid (MyRs.join (lo := w.heap.size) M5 Mc o5' (by omega) (by omega) (by omega) (Nat.le_refl _) (.inl (Nat.le_refl _)) o6' e6)
      have T6 : Two w6 w.heap.size _ _ := T5.grown e6.grown (by simp [Value.ownBlock]; obtain ⟨_, _, e, h, _⟩ := o5; simp at e; omega)
      have B6 := Lib.hid (B5.grown e6.grown B5.size (fun j hj => by simp [Value.ownBlock] at hj; obtain ⟨_, _, e, h, _⟩ := o5; simp at e; omega))
      have HE6 : Hid (((qa ++ [((⟨ri, rl⟩ : R), Value.slice ya rn yc)]) ++ qc).map (·.1) = putL (ps.map (·.1)) ⟨ri, rl⟩) := by
        show _ = _
        unfold putL
        rw [HPK.out, List.map_append, List.map_append, Ea, Ec, List.map_take, List.map_drop, List.append_assoc]
        rfl
      obtain ⟨g6, c6, rfl⟩ : ∃ g c, v6 = .slice (some ⟨g, 0, none⟩) (qa.length + 1 + qc.length) c := by obtain ⟨g, c, e, _⟩ := o6; exact ⟨g, c, e⟩
      refine hK.out _ _ T6.1 (fun hH => ?_)
      clear hK K o6 e6 o6' o5 o5' Mc M5 T5 T6 B5 lq pq
      refine takeH (i := 13) (d := some 4) (v := .slice (some ⟨g6, 0, none⟩) (qa.length + 1 + qc.length) c6) rfl rfl (by kernel_rfl) (by kernel_rfl) (by kernel_rfl) (fun _ _ _ h => h) (Or.inl ⟨by rfl, fun W hSw => by go_simp⟩) hH ?_
      try simp only [put_some, List.set_cons_zero, List.set_cons_succ]
      refine wpAnyH_done (by kernel_rfl) ?_ _
      go_wp2
      go_ret
      exact ⟨_, rfl, _, M6.out, HE6.out, B6.out⟩

end Go.Proofs.Ytkofafefnlommaa
