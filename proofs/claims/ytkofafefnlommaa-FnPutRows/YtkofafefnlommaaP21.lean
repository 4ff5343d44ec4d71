/- Texts of this claim, one behind the other: IFits, IFit2. -/
import Derived.Test.YtkofafefnlommaaP12
import Derived.Test.YtkofafefnlommaaP18
import Derived.Test.YtkofafefnlommaaP10

/- The contracts of impl's FitsCols and RowOk. -/
namespace Go.Proofs.Ytkofafefnlommaa
open Go.RowKit Go.Shelf

attribute [local go_sem] Oper.semAt_some

theorem keeps_below {W W' : World} (h : Below W.heap.size W W') : KeepsOthers W W' := KeepsOthers.of_grownBy (grown_of_below h) (fun _ _ e _ => by cases e)

set_option maxRecDepth 100000 in
set_option maxHeartbeats 4000000 in
theorem iFitsSame (a1 a2 : Option Addr) (n c1 c2 : Nat) (zs : List Int) (l : List V) (w : World) (hl : zs.length = n) (hr : l.length = n) (hss : ∀ v ∈ l, v.s.size ≤ maxLen) (h : Rd 1 w (.slice a1 n c1) n (ints .i64 zs)) (h2 : Rd 3 w (.slice a2 n c2) n (vals l)) :
    Calls Try.prog 72 #[.slice a1 n c1, .slice a2 n c2] w fun e w' => e = .returned (.bool (fitsB zs l)) ∧ Below w.heap.size w w' := by
  obtain ⟨_, _, e1, hm1, HC1⟩ := h.ints hl
  cases e1
  have hm2 := hm1
  unfold maxLen at hm2
  have HSS : Hid (∀ k, k < n → (l.getD k V.zero).s.size ≤ maxLen) := by
    intro k hk
    have hk' : k < l.length := by omega
    have e : l.getD k V.zero = l[k] := by simp [hk']
    rw [e]
    exact hss _ (List.getElem_mem hk')
  have HN : Hid (∀ k, k < n → fitB (zs.getD k 0) (l.getD k V.zero) = false → fitsB zs l = false) := fun k hk => all2_no 0 V.zero (by omega) (by omega)
  have HA : Hid ((∀ k, k < n → fitB (zs.getD k 0) (l.getD k V.zero) = true) → fitsB zs l = true) := fun h => all2_all 0 V.zero (by omega) (fun j hj => h j (by omega))
  have hne : ((n : Int) != (n : Int)) = false := by simp
  have HR := Lib.hid h2
  have HL := Lib.hid hr
  have HM := Lib.hid hm1
  clear h h2 hl hr hss hm1
  refine (callsIn_wide (n := 3)).1 ?_
  refine callsIn_of_wp_marks Try.func72 rfl trivial ?_ rfl
  simp only [Try.ntmps72, List.size_toArray, List.length_cons, List.length_nil, Nat.reduceAdd, Nat.reduceSub, Array.replicate_succ, Array.replicate_zero, List.push_toArray, List.append_toArray, List.nil_append, List.cons_append]
  gi_wp2_with (refine ⟨trivial, ?_⟩; gi_at_call 82; refine (each_in Fence.wide _ trivial rfl _ _ _ _).mono ?_; rintro e w' ⟨rfl, rfl⟩)
  have bC := ((Boxed.new w 30 (.slice a1 n c1)).alloc (.cells #[.bool false] 4)).alloc (.cells #[.slice a2 n c2] 25)
  have bR := (Boxed.new (w.alloc (.cells #[.slice a1 n c1] 30)) 4 (.bool false)).alloc (.cells #[.slice a2 n c2] 25)
  have bN := Boxed.new ((w.alloc (.cells #[.slice a1 n c1] 30)).alloc (.cells #[.bool false] 4)) 25 (.slice a2 n c2)
  simp only [World.size_alloc] at bR bN
  have hB0 : Below w.heap.size w (((w.alloc (.cells #[.slice a1 n c1] 30)).alloc (.cells #[.bool false] 4)).alloc (.cells #[.slice a2 n c2] 25)) := (((Below.refl _ w).alloc (Nat.le_refl _) _).alloc (by simp) _).alloc (by simp; omega) _
  have hsz : (((w.alloc (.cells #[.slice a1 n c1] 30)).alloc (.cells #[.bool false] 4)).alloc (.cells #[.slice a2 n c2] 25)).heap.size = w.heap.size + 3 := by simp
  obtain ⟨W0, hW0⟩ : ∃ W0, ((w.alloc (.cells #[.slice a1 n c1] 30)).alloc (.cells #[.bool false] 4)).alloc (.cells #[.slice a2 n c2] 25) = W0 := ⟨_, rfl⟩
  rw [hW0] at bC bR bN hB0 hsz ⊢
  clear hW0
  refine wpIn_rangeFunc_ownH rfl (by omega) (gf := 88) (lb := #[.pointer (some ⟨w.heap.size + 1 + 1, 0, none⟩)]) rfl trivial (enters_of Try.func88 (by kernel_rfl) rfl)
    (each_stops Fence.wide _ trivial rfl (by omega) (w.heap.size + 1 + 1) n c2 a2 l w W0 HM.out HL.out HR.out hB0 (by omega) bN.cell) belowK_t (belowK_b (by omega)) (Below.refl _ _) (fun _ => rfl)
    (fun pre W => ((∀ k ∈ pre, fitB (zs.getD k.1 0) (l.getD k.1 V.zero) = true) ∧ (Boxed W w.heap.size 30 (.slice a1 n c1) ∧ Boxed W (w.heap.size + 1) 4 (.bool false))) ∧ Below w.heap.size w W)
    (fun c _ W => ((c = .ret ∧ fitsB zs l = false) ∧ Boxed W (w.heap.size + 1) 4 (.bool false)) ∧ Below w.heap.size w W)
    (OwnFrom.and (OwnFrom.and (ownFrom_pure _ _) (OwnFrom.and (Own.from (boxed_own _ _ _) _) (Own.from (boxed_own _ _ _) _))) (ownFrom_below (Nat.le_refl _) (by omega)))
    (fun c => OwnFrom.and (OwnFrom.and (ownFrom_pure _ (fun _ => c = .ret ∧ fitsB zs l = false)) (Own.from (boxed_own _ _ _) _)) (ownFrom_below (Nat.le_refl _) (by omega)))
    ⟨⟨by simp, bC, bR⟩, hB0⟩
    (fun x a' W => ∃ Bx, (W.cell? ⟨Bx, 0, none⟩ = some (.int .i64 (l.getD x.1 V.zero).ty) ∧ W.cell? ⟨Bx, 1, none⟩ = some (.int .i64 (l.getD x.1 V.zero).n) ∧ W.cell? ⟨Bx, 2, none⟩ = some (.string (l.getD x.1 V.zero).s)) ∧ a' = { tmps := #[.slice a1 n c1, .slice a2 n c2, .pointer (some ⟨w.heap.size, 0, none⟩), undef, .pointer (some ⟨w.heap.size + 1, 0, none⟩), .int .i64 (x.1 : Int), .pointer (some ⟨Bx, 0, none⟩), .slice a2 n c2, .int .i64 (n : Int), .slice a1 n c1, .int .i64 (n : Int), .bool false, .slice a2 n c2, .func (.func 88) #[] #[.pointer (some ⟨w.heap.size + 1 + 1, 0, none⟩)], .int .i64 (x.1 : Int), (l.getD x.1 V.zero).agg, undef, undef, undef, undef, undef, undef, undef, undef, undef, undef, undef, undef], defers := [] })
    (fun x a' _ X Y row hs hg hr => by obtain ⟨Bx, ⟨h1, h2, h3⟩, h4⟩ := hs; exact ⟨Bx, ⟨cell_kept h1 hg (fun r e => (hr r e).2), cell_kept h2 hg (fun r e => (hr r e).2), cell_kept h3 hg (fun r e => (hr r e).2)⟩, h4⟩)
    ?assign ?body ?done ?stop
  case assign =>
    rintro lp pre ⟨k, hk⟩ W K ⟨⟨hp, b1, b2⟩, hB1⟩ hK
    unfold ecs
    simp only at hK ⊢
    generalize hx : l.getD k V.zero = x at hK ⊢
    obtain ⟨t2, n2, s2⟩ := x
    have HK2 := Lib.hid (hK _ (W.alloc (.cells #[.int .i64 t2, .int .i64 n2, .string s2] 76)) ((KeepsOthers.alloc _ _).from _) ((Below.refl _ W).alloc hB1.size _) ⟨⟨hp, b1.alloc _, b2.alloc _⟩, hB1.alloc hB1.size _⟩ ⟨W.heap.size, ⟨by simp, by simp, by simp⟩, rfl⟩)
    clear hK
    gi_wp2
    exact HK2.out
  case body =>
    rintro lp pre ⟨k, hk⟩ a' W _ _ ⟨⟨hp, bC1, bR1⟩, hB1⟩ ⟨Bx, ⟨x0, x1, x2⟩, rfl⟩ _
    obtain ⟨b1, o1, rfl, p0⟩ := HC1.out k hk
    have HO := Lib.hid (fun W => iValOk (l.getD k V.zero) W (HSS.out k hk))
    have HNK := Lib.hid (HN.out k hk)
    have HS : Hid (fitB (zs.getD k 0) (l.getD k V.zero) = true → ∀ j ∈ pre ++ [⟨k, hk⟩], fitB (zs.getD j.1 0) (l.getD j.1 V.zero) = true) := fun h j hj => by
      rcases List.mem_append.1 hj with hj | hj
      · exact hp j hj
      · rw [List.mem_singleton.1 hj]
        exact h
    simp only at x0 x1 x2
    generalize l.getD k V.zero = x at x0 x1 x2 HO HNK HS ⊢
    generalize zs.getD k 0 = z at p0 HNK HS
    have HF : Hid (fitB z x = (okV x && x.ty == z)) := rfl
    obtain ⟨t2, n2, s2⟩ := x
    simp only at x0 x1 x2 HF
    replace p0 := (hB1.cell (p := ⟨b1, o1 + k, none⟩) (lt_of_cell p0)).trans p0
    have cC := bC1.cell
    have HK : Hid (∀ W', Below W.heap.size W W' → W'.cell? ⟨w.heap.size, 0, none⟩ = some (.slice (some ⟨b1, o1, none⟩) n c1) ∧ W'.cell? ⟨Bx, 0, none⟩ = some (.int .i64 t2) ∧ W'.cell? ⟨Bx, 1, none⟩ = some (.int .i64 n2) ∧ W'.cell? ⟨Bx, 2, none⟩ = some (.string s2) ∧ W'.cell? ⟨b1, o1 + k, none⟩ = some (.int .i64 z)) := fun W' h =>
      ⟨(h.cell (p := ⟨w.heap.size, 0, none⟩) (lt_of_cell cC)).trans cC, (h.cell (p := ⟨Bx, 0, none⟩) (lt_of_cell x0)).trans x0, (h.cell (p := ⟨Bx, 1, none⟩) (lt_of_cell x1)).trans x1, (h.cell (p := ⟨Bx, 2, none⟩) (lt_of_cell x2)).trans x2, (h.cell (p := ⟨b1, o1 + k, none⟩) (lt_of_cell p0)).trans p0⟩
    have hB' := (Below.refl W.heap.size W).drew
    have HBR := Lib.hid bR1
    have HBC := Lib.hid bC1
    have HB1 := Lib.hid hB1
    clear p0 x0 x1 x2 cC hp HC1 HR bC1 bR1 hB1
    cases ht : (t2 == z) with
    | false =>
      have HN2 := Lib.hid (HNK.out (by rw [HF.out, ht, Bool.and_false]))
      have hzz : (t2 != z) = true := by simpa using ht
      clear ht HNK HS HF HO
      gi_wp2
      refine round_held (S := fun W => W.cell? ⟨w.heap.size, 0, none⟩ = some (.slice (some ⟨b1, o1, none⟩) n c1) ∧ W.cell? ⟨Bx, 0, none⟩ = some (.int .i64 t2) ∧ W.cell? ⟨Bx, 1, none⟩ = some (.int .i64 n2) ∧ W.cell? ⟨Bx, 2, none⟩ = some (.string s2) ∧ W.cell? ⟨b1, o1 + k, none⟩ = some (.int .i64 z)) (by kernel_rfl) (by kernel_rfl) (HK.out _ hB') (fun hHeld => ?_)
      refine takeH (i := 0) (d := some 16) (v := .pointer (some ⟨Bx, 0, none⟩)) rfl rfl (by kernel_rfl) (by kernel_rfl) (by kernel_rfl) (fun _ _ _ h => h) (Or.inl ⟨by rfl, fun W hSw => by obtain ⟨d0, d1, d2, d3, d4⟩ := hSw; go_simp⟩) hHeld ?_
      simp only [put_some, List.set_cons_zero, List.set_cons_succ]
      refine takeH (i := 1) (d := some 17) (v := .int .i64 t2) rfl rfl (by kernel_rfl) (by kernel_rfl) (by kernel_rfl) (fun _ _ _ h => h) (Or.inl ⟨by rfl, fun W hSw => by obtain ⟨d0, d1, d2, d3, d4⟩ := hSw; go_simp⟩) hHeld ?_
      simp only [put_some, List.set_cons_zero, List.set_cons_succ]
      refine takeH (i := 2) (d := some 18) (v := .slice (some ⟨b1, o1, none⟩) n c1) rfl rfl (by kernel_rfl) (by kernel_rfl) (by kernel_rfl) (fun _ _ _ h => h) (Or.inl ⟨by rfl, fun W hSw => by obtain ⟨d0, d1, d2, d3, d4⟩ := hSw; go_simp⟩) hHeld ?_
      simp only [put_some, List.set_cons_zero, List.set_cons_succ]
      refine takeH (i := 3) (d := some 19) (v := .int .i64 k) rfl rfl (by kernel_rfl) (by kernel_rfl) (by kernel_rfl) (fun _ _ _ h => h) (Or.inl ⟨by rfl, fun W hSw => by obtain ⟨d0, d1, d2, d3, d4⟩ := hSw; go_simp⟩) hHeld ?_
      simp only [put_some, List.set_cons_zero, List.set_cons_succ]
      refine takeH (i := 4) (d := some 20) (v := .pointer (some ⟨b1, o1 + k, none⟩)) rfl rfl (by kernel_rfl) (by kernel_rfl) (by kernel_rfl) (fun _ _ _ h => h) (Or.inl ⟨by rfl, fun W hSw => by obtain ⟨d0, d1, d2, d3, d4⟩ := hSw; go_simp⟩) hHeld ?_
      simp only [put_some, List.set_cons_zero, List.set_cons_succ]
      refine takeH (i := 5) (d := some 21) (v := .int .i64 z) rfl rfl (by kernel_rfl) (by kernel_rfl) (by kernel_rfl) (fun _ _ _ h => h) (Or.inl ⟨by rfl, fun W hSw => by obtain ⟨d0, d1, d2, d3, d4⟩ := hSw; go_simp⟩) hHeld ?_
      simp only [put_some, List.set_cons_zero, List.set_cons_succ]
      refine takeH (i := 6) (d := some 22) (v := .bool true) rfl rfl (by kernel_rfl) (by kernel_rfl) (by kernel_rfl) (fun _ _ _ h => h) (Or.inl ⟨by rfl, fun W hSw => by obtain ⟨d0, d1, d2, d3, d4⟩ := hSw; go_simp⟩) hHeld ?_
      simp only [put_some, List.set_cons_zero, List.set_cons_succ]
      refine takeH (i := 7) (d := some 23) (v := .bool true) rfl rfl (by kernel_rfl) (by kernel_rfl) (by kernel_rfl) (fun _ _ _ h => h) (Or.inl ⟨by rfl, fun W hSw => by obtain ⟨d0, d1, d2, d3, d4⟩ := hSw; go_simp⟩) hHeld ?_
      simp only [put_some, List.set_cons_zero, List.set_cons_succ]
      refine takeH (i := 8) (d := some 24) (v := undef) rfl rfl (by kernel_rfl) (by kernel_rfl) (by kernel_rfl) (fun _ _ _ h => h) (Or.inr ⟨by rfl, rfl⟩) hHeld ?_
      simp only [put_some, List.set_cons_zero, List.set_cons_succ]
      refine takeH (i := 9) (d := some 25) (v := undef) rfl rfl (by kernel_rfl) (by kernel_rfl) (by kernel_rfl) (fun _ _ _ h => h) (Or.inr ⟨by rfl, rfl⟩) hHeld ?_
      simp only [put_some, List.set_cons_zero, List.set_cons_succ]
      refine takeH (i := 10) (d := some 26) (v := undef) rfl rfl (by kernel_rfl) (by kernel_rfl) (by kernel_rfl) (fun _ _ _ h => h) (Or.inr ⟨by rfl, rfl⟩) hHeld ?_
      simp only [put_some, List.set_cons_zero, List.set_cons_succ]
      refine takeH (i := 11) (d := some 27) (v := .bool true) rfl rfl (by kernel_rfl) (by kernel_rfl) (by kernel_rfl) (fun _ _ _ h => h) (Or.inl ⟨by rfl, fun W hSw => by obtain ⟨d0, d1, d2, d3, d4⟩ := hSw; go_simp⟩) hHeld ?_
      simp only [put_some, List.set_cons_zero, List.set_cons_succ]
      refine wpAnyH_done (by kernel_rfl) ?_ _
      refine noOut_then ?_
      have bR2 : Boxed W.drew (w.heap.size + 1) 4 (.bool false) := HBR.out
      have cR := bR2.cell
      have fR := bR2.frozen
      gi_wp2
      exact ⟨((keeps_below hB').trans (KeepsOthers.setCell _ _ _)).from _, ⟨⟨rfl, HN2.out⟩, bR2.set _⟩, (HB1.out.trans (hB'.mono HB1.out.size)).setCell (p := ⟨w.heap.size + 1, 0, none⟩) (by simp) _⟩
    | true =>
      have hzz : (t2 != z) = false := by simpa using ht
      cases hv : okV ⟨t2, n2, s2⟩ with
      | false =>
        have HN2 := Lib.hid (HNK.out (by rw [HF.out, hv, Bool.false_and]))
        rw [hv] at HO
        clear ht hv HNK HS HF
        gi_wp2
        refine round_held (S := fun W => W.cell? ⟨w.heap.size, 0, none⟩ = some (.slice (some ⟨b1, o1, none⟩) n c1) ∧ W.cell? ⟨Bx, 0, none⟩ = some (.int .i64 t2) ∧ W.cell? ⟨Bx, 1, none⟩ = some (.int .i64 n2) ∧ W.cell? ⟨Bx, 2, none⟩ = some (.string s2) ∧ W.cell? ⟨b1, o1 + k, none⟩ = some (.int .i64 z)) (by kernel_rfl) (by kernel_rfl) (HK.out _ hB') (fun hHeld => ?_)
        refine takeH (i := 0) (d := some 16) (v := .pointer (some ⟨Bx, 0, none⟩)) rfl rfl (by kernel_rfl) (by kernel_rfl) (by kernel_rfl) (fun _ _ _ h => h) (Or.inl ⟨by rfl, fun W hSw => by obtain ⟨d0, d1, d2, d3, d4⟩ := hSw; go_simp⟩) hHeld ?_
        simp only [put_some, List.set_cons_zero, List.set_cons_succ]
        refine takeH (i := 1) (d := some 17) (v := .int .i64 t2) rfl rfl (by kernel_rfl) (by kernel_rfl) (by kernel_rfl) (fun _ _ _ h => h) (Or.inl ⟨by rfl, fun W hSw => by obtain ⟨d0, d1, d2, d3, d4⟩ := hSw; go_simp⟩) hHeld ?_
        simp only [put_some, List.set_cons_zero, List.set_cons_succ]
        refine takeH (i := 2) (d := some 18) (v := .slice (some ⟨b1, o1, none⟩) n c1) rfl rfl (by kernel_rfl) (by kernel_rfl) (by kernel_rfl) (fun _ _ _ h => h) (Or.inl ⟨by rfl, fun W hSw => by obtain ⟨d0, d1, d2, d3, d4⟩ := hSw; go_simp⟩) hHeld ?_
        simp only [put_some, List.set_cons_zero, List.set_cons_succ]
        refine takeH (i := 3) (d := some 19) (v := .int .i64 k) rfl rfl (by kernel_rfl) (by kernel_rfl) (by kernel_rfl) (fun _ _ _ h => h) (Or.inl ⟨by rfl, fun W hSw => by obtain ⟨d0, d1, d2, d3, d4⟩ := hSw; go_simp⟩) hHeld ?_
        simp only [put_some, List.set_cons_zero, List.set_cons_succ]
        refine takeH (i := 4) (d := some 20) (v := .pointer (some ⟨b1, o1 + k, none⟩)) rfl rfl (by kernel_rfl) (by kernel_rfl) (by kernel_rfl) (fun _ _ _ h => h) (Or.inl ⟨by rfl, fun W hSw => by obtain ⟨d0, d1, d2, d3, d4⟩ := hSw; go_simp⟩) hHeld ?_
        simp only [put_some, List.set_cons_zero, List.set_cons_succ]
        refine takeH (i := 5) (d := some 21) (v := .int .i64 z) rfl rfl (by kernel_rfl) (by kernel_rfl) (by kernel_rfl) (fun _ _ _ h => h) (Or.inl ⟨by rfl, fun W hSw => by obtain ⟨d0, d1, d2, d3, d4⟩ := hSw; go_simp⟩) hHeld ?_
        simp only [put_some, List.set_cons_zero, List.set_cons_succ]
        refine takeH (i := 6) (d := some 22) (v := .bool false) rfl rfl (by kernel_rfl) (by kernel_rfl) (by kernel_rfl) (fun _ _ _ h => h) (Or.inl ⟨by rfl, fun W hSw => by obtain ⟨d0, d1, d2, d3, d4⟩ := hSw; go_simp⟩) hHeld ?_
        simp only [put_some, List.set_cons_zero, List.set_cons_succ]
        refine takeH (i := 7) (d := some 23) (v := .bool false) rfl rfl (by kernel_rfl) (by kernel_rfl) (by kernel_rfl) (fun _ _ _ h => h) (Or.inl ⟨by rfl, fun W hSw => by obtain ⟨d0, d1, d2, d3, d4⟩ := hSw; go_simp⟩) hHeld ?_
        simp only [put_some, List.set_cons_zero, List.set_cons_succ]
        refine takeH (i := 8) (d := some 24) (v := .agg #[.int .i64 t2, .int .i64 n2, .string s2]) rfl rfl (by kernel_rfl) (by kernel_rfl) (by kernel_rfl) (fun _ _ _ h => h) (Or.inl ⟨by rfl, fun W hSw => by obtain ⟨d0, d1, d2, d3, d4⟩ := hSw; go_simp⟩) hHeld ?_
        simp only [put_some, List.set_cons_zero, List.set_cons_succ]
        refine wpAnyH_ready (rs := [9]) (by kernel_rfl) (by simp) ?_
        refine AllReadyH.cons rfl (fun K hK => ?_) AllReadyH.nil
        go_simp
        go_at_call 83
        refine (HO.out _).mono ?_
        rintro e w2 ⟨rfl, hb2⟩
        replace hB' := below_then hB' hb2 hB'.size
        go_wp2_with fail
        refine hK.out _ _ (HK.out _ hB') (fun hHeld => ?_)
        clear hK K
        refine takeH (i := 10) (d := some 26) (v := .bool true) rfl rfl (by kernel_rfl) (by kernel_rfl) (by kernel_rfl) (fun _ _ _ h => h) (Or.inl ⟨by rfl, fun W hSw => by obtain ⟨d0, d1, d2, d3, d4⟩ := hSw; go_simp⟩) hHeld ?_
        simp only [put_some, List.set_cons_zero, List.set_cons_succ]
        refine takeH (i := 11) (d := some 27) (v := .bool true) rfl rfl (by kernel_rfl) (by kernel_rfl) (by kernel_rfl) (fun _ _ _ h => h) (Or.inl ⟨by rfl, fun W hSw => by obtain ⟨d0, d1, d2, d3, d4⟩ := hSw; go_simp⟩) hHeld ?_
        simp only [put_some, List.set_cons_zero, List.set_cons_succ]
        refine wpAnyH_done (by kernel_rfl) ?_ _
        refine noOut_then ?_
        have bR2 : Boxed w2 (w.heap.size + 1) 4 (.bool false) := (hB'.block _ HBR.out.lt).trans HBR.out
        have cR := bR2.cell
        have fR := bR2.frozen
        gi_wp2
        exact ⟨((keeps_below hB').trans (KeepsOthers.setCell _ _ _)).from _, ⟨⟨rfl, HN2.out⟩, bR2.set _⟩, (HB1.out.trans (hB'.mono HB1.out.size)).setCell (p := ⟨w.heap.size + 1, 0, none⟩) (by simp) _⟩
      | true =>
        have HS2 := Lib.hid (HS.out (by rw [HF.out, hv, ht, Bool.and_true]))
        rw [hv] at HO
        clear ht hv HNK HS HF
        gi_wp2
        refine round_held (S := fun W => W.cell? ⟨w.heap.size, 0, none⟩ = some (.slice (some ⟨b1, o1, none⟩) n c1) ∧ W.cell? ⟨Bx, 0, none⟩ = some (.int .i64 t2) ∧ W.cell? ⟨Bx, 1, none⟩ = some (.int .i64 n2) ∧ W.cell? ⟨Bx, 2, none⟩ = some (.string s2) ∧ W.cell? ⟨b1, o1 + k, none⟩ = some (.int .i64 z)) (by kernel_rfl) (by kernel_rfl) (HK.out _ hB') (fun hHeld => ?_)
        refine takeH (i := 0) (d := some 16) (v := .pointer (some ⟨Bx, 0, none⟩)) rfl rfl (by kernel_rfl) (by kernel_rfl) (by kernel_rfl) (fun _ _ _ h => h) (Or.inl ⟨by rfl, fun W hSw => by obtain ⟨d0, d1, d2, d3, d4⟩ := hSw; go_simp⟩) hHeld ?_
        simp only [put_some, List.set_cons_zero, List.set_cons_succ]
        refine takeH (i := 1) (d := some 17) (v := .int .i64 t2) rfl rfl (by kernel_rfl) (by kernel_rfl) (by kernel_rfl) (fun _ _ _ h => h) (Or.inl ⟨by rfl, fun W hSw => by obtain ⟨d0, d1, d2, d3, d4⟩ := hSw; go_simp⟩) hHeld ?_
        simp only [put_some, List.set_cons_zero, List.set_cons_succ]
        refine takeH (i := 2) (d := some 18) (v := .slice (some ⟨b1, o1, none⟩) n c1) rfl rfl (by kernel_rfl) (by kernel_rfl) (by kernel_rfl) (fun _ _ _ h => h) (Or.inl ⟨by rfl, fun W hSw => by obtain ⟨d0, d1, d2, d3, d4⟩ := hSw; go_simp⟩) hHeld ?_
        simp only [put_some, List.set_cons_zero, List.set_cons_succ]
        refine takeH (i := 3) (d := some 19) (v := .int .i64 k) rfl rfl (by kernel_rfl) (by kernel_rfl) (by kernel_rfl) (fun _ _ _ h => h) (Or.inl ⟨by rfl, fun W hSw => by obtain ⟨d0, d1, d2, d3, d4⟩ := hSw; go_simp⟩) hHeld ?_
        simp only [put_some, List.set_cons_zero, List.set_cons_succ]
        refine takeH (i := 4) (d := some 20) (v := .pointer (some ⟨b1, o1 + k, none⟩)) rfl rfl (by kernel_rfl) (by kernel_rfl) (by kernel_rfl) (fun _ _ _ h => h) (Or.inl ⟨by rfl, fun W hSw => by obtain ⟨d0, d1, d2, d3, d4⟩ := hSw; go_simp⟩) hHeld ?_
        simp only [put_some, List.set_cons_zero, List.set_cons_succ]
        refine takeH (i := 5) (d := some 21) (v := .int .i64 z) rfl rfl (by kernel_rfl) (by kernel_rfl) (by kernel_rfl) (fun _ _ _ h => h) (Or.inl ⟨by rfl, fun W hSw => by obtain ⟨d0, d1, d2, d3, d4⟩ := hSw; go_simp⟩) hHeld ?_
        simp only [put_some, List.set_cons_zero, List.set_cons_succ]
        refine takeH (i := 6) (d := some 22) (v := .bool false) rfl rfl (by kernel_rfl) (by kernel_rfl) (by kernel_rfl) (fun _ _ _ h => h) (Or.inl ⟨by rfl, fun W hSw => by obtain ⟨d0, d1, d2, d3, d4⟩ := hSw; go_simp⟩) hHeld ?_
        simp only [put_some, List.set_cons_zero, List.set_cons_succ]
        refine takeH (i := 7) (d := some 23) (v := .bool false) rfl rfl (by kernel_rfl) (by kernel_rfl) (by kernel_rfl) (fun _ _ _ h => h) (Or.inl ⟨by rfl, fun W hSw => by obtain ⟨d0, d1, d2, d3, d4⟩ := hSw; go_simp⟩) hHeld ?_
        simp only [put_some, List.set_cons_zero, List.set_cons_succ]
        refine takeH (i := 8) (d := some 24) (v := .agg #[.int .i64 t2, .int .i64 n2, .string s2]) rfl rfl (by kernel_rfl) (by kernel_rfl) (by kernel_rfl) (fun _ _ _ h => h) (Or.inl ⟨by rfl, fun W hSw => by obtain ⟨d0, d1, d2, d3, d4⟩ := hSw; go_simp⟩) hHeld ?_
        simp only [put_some, List.set_cons_zero, List.set_cons_succ]
        refine wpAnyH_ready (rs := [9]) (by kernel_rfl) (by simp) ?_
        refine AllReadyH.cons rfl (fun K hK => ?_) AllReadyH.nil
        go_simp
        go_at_call 83
        refine (HO.out _).mono ?_
        rintro e w2 ⟨rfl, hb2⟩
        replace hB' := below_then hB' hb2 hB'.size
        go_wp2_with fail
        refine hK.out _ _ (HK.out _ hB') (fun hHeld => ?_)
        clear hK K
        refine takeH (i := 10) (d := some 26) (v := .bool false) rfl rfl (by kernel_rfl) (by kernel_rfl) (by kernel_rfl) (fun _ _ _ h => h) (Or.inl ⟨by rfl, fun W hSw => by obtain ⟨d0, d1, d2, d3, d4⟩ := hSw; go_simp⟩) hHeld ?_
        simp only [put_some, List.set_cons_zero, List.set_cons_succ]
        refine takeH (i := 11) (d := some 27) (v := .bool false) rfl rfl (by kernel_rfl) (by kernel_rfl) (by kernel_rfl) (fun _ _ _ h => h) (Or.inl ⟨by rfl, fun W hSw => by obtain ⟨d0, d1, d2, d3, d4⟩ := hSw; go_simp⟩) hHeld ?_
        simp only [put_some, List.set_cons_zero, List.set_cons_succ]
        refine wpAnyH_done (by kernel_rfl) ?_ _
        refine noOut_then ?_
        have bR2 : Boxed w2 (w.heap.size + 1) 4 (.bool false) := (hB'.block _ HBR.out.lt).trans HBR.out
        have bC2 : Boxed w2 w.heap.size 30 (.slice (some ⟨b1, o1, none⟩) n c1) := (hB'.block _ HBC.out.lt).trans HBC.out
        gi_wp2
        exact ⟨(keeps_below hB').from _, hB'.mono HB1.out.size, ⟨HS2.out, bC2, bR2⟩, HB1.out.trans (hB'.mono HB1.out.size)⟩
  case done =>
    rintro D ys W hD rfl ⟨⟨hp, bC1, bR1⟩, hB1⟩ hK
    have HT := Lib.hid (HA.out (fun k hk => hp ⟨k, hk⟩ (by simp)))
    have cR := bR1.cell
    have fR := bR1.frozen
    clear hp
    gi_wp2
    have hK' := (KeepsOthers.setCell W ⟨w.heap.size + 1, 0, none⟩ (.bool true)).same D _ hK rfl
    refine ⟨by simp, .inl ⟨_, _, rfl, run_takeDeferred hK', ?_⟩⟩
    have hc5 := cell_kept (World.cell?_setCell_same' W ⟨w.heap.size + 1, 0, none⟩ (.bool true) (by rw [cR]; rfl)) (grownBy_putObj' _ D (.deferred none)) (fun r e => by cases e; exact ⟨_, hK', rfl⟩)
    refine ⟨.bool true, ?_, ret_bool HT.out.symm, (hB1.setCell (p := ⟨w.heap.size + 1, 0, none⟩) (by simp) _).trans (belowK_b (w := w) (Nat.le_refl _) _ D _ _ (by omega) hK' rfl rfl)⟩
    simp [results, Try.results72, go_sem, hc5]
  case stop =>
    rintro D c pre W hD _ ⟨⟨⟨rfl, hN⟩, bR1⟩, hB1⟩ hK
    have cR := bR1.cell
    gi_wp2
    refine ⟨by simp, .inl ⟨_, _, rfl, run_takeDeferred hK, ?_⟩⟩
    have hc5 := cell_kept cR (grownBy_putObj' _ D (.deferred none)) (fun r e => by cases e; exact ⟨_, hK, rfl⟩)
    refine ⟨.bool false, ?_, ret_bool hN.symm, hB1.trans (belowK_b (w := w) (Nat.le_refl _) W D _ _ (by omega) hK rfl rfl)⟩
    simp [results, Try.results72, go_sem, hc5]

end Go.Proofs.Ytkofafefnlommaa

/- The contracts of impl's FitsCols (whole) and RowOk. -/
namespace Go.Proofs.Ytkofafefnlommaa
open Go.RowKit

set_option maxHeartbeats 1000000 in
theorem iFitsOther (a1 a2 : Option Addr) (n m c1 c2 : Nat) (w : World) (hnm : n ≠ m) :
    Calls Try.prog 72 #[.slice a1 n c1, .slice a2 m c2] w fun e w' => e = .returned (.bool false) ∧ Below w.heap.size w w' := by
  have hne : ((m : Int) != (n : Int)) = true := by simp; omega
  go_enter Try.func72, Try.ntmps72
  go_wp2
  refine bodyPost_ret (v := .bool false) (by simp [results, Try.results72, go_sem]) rfl ?_
  exact ⟨rfl, below_alloc2 _ _ _⟩

theorem iFitsCols : CFitsCols := by
  intro u v zs l w _ _ hss h h2
  generalize hl : zs.length = n at h
  generalize hr : l.length = m at h2
  obtain ⟨a1, c1, rfl, _, _⟩ := id h
  obtain ⟨a2, c2, rfl, _, _⟩ := id h2
  by_cases hnm : n = m
  · subst hnm
    exact iFitsSame a1 a2 n c1 c2 zs l w hl hr hss h h2
  · rw [show fitsB zs l = false from all2_len (by omega)]
    exact iFitsOther a1 a2 n m c1 c2 w hnm

theorem iRowOk : CRowOk := by
  intro u v zs r w h1 h2 hss h h3
  have B0 := below_alloc w (.cells #[.int .i64 r.id, v] 27)
  have HF := Lib.hid (iFitsCols u v zs r.l _ h1 h2 hss (h.below B0) (h3.below B0))
  have HE : Hid (rowB zs r = (decide (0 ≤ r.id) && fitsB zs r.l)) := rfl
  obtain ⟨a1, c1, rfl, _, _⟩ := h
  obtain ⟨a2, c2, rfl, _, _⟩ := h3
  obtain ⟨i, l⟩ := r
  simp only at HF HE B0
  clear h1 h2 hss
  generalize fitsB zs l = q at HF HE
  generalize rowB zs ⟨i, l⟩ = p at HE ⊢
  generalize l.length = m at *
  generalize zs.length = n at *
  by_cases hi : 0 ≤ i
  · rw [decide_eq_true hi, Bool.true_and] at HE
    go_enter Try.func55, Try.ntmps55
    go_wp2_with fail
    refine HF.out.mono ?_
    rintro e w1 ⟨rfl, b1⟩
    have B1 := below_then B0 b1 B0.size
    clear b1
    go_wp2
    go_ret
    exact ⟨ret_bool HE.out.symm, B1⟩
  · rw [decide_eq_false hi, Bool.false_and] at HE
    go_enter Try.func55, Try.ntmps55
    go_wp2
    go_ret
    exact ⟨ret_bool HE.out.symm, B0⟩

end Go.Proofs.Ytkofafefnlommaa
