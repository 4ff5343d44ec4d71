/- Texts of this claim, one behind the other: Draw13b, Draw13c, Draw13d. -/
import Derived.Test.YtkofafefnlommaaP14
import Derived.Test.YtkofafefnlommaaP16

/- Chapter 13's draws: l13Rows (written by mk_Draw13b.py). -/
namespace Go.Proofs.Ytkofafefnlommaa
open Go.RowKit

/-- The rows drawn so far, of whatever values: each one's values lie in a block of their own, apart from the slice out. -/
structure DrewAny (lo : Nat) (w : World) (out : Value) (ps : List P) : Prop where
  vals : ∀ p ∈ ps, At 3 w p.2 p.1.l.length (vals p.1.l)
  own : ∀ p ∈ ps, ∃ b, p.2.ownBlock = some b ∧ lo ≤ b ∧ b < w.heap.size
  ne : ∀ p ∈ ps, p.2.ownBlock ≠ out.ownBlock
  fair : ∀ p ∈ ps, p.1.l.length ≤ 1001 ∧ ∀ x ∈ p.1.l, Fair x
theorem DrewAny.draw {lo g : Nat} {w w' : World} {out : Value} {ps : List P} (h : DrewAny lo w out ps) (hg : w.grownBy w' (some g)) (hl : g < lo) : DrewAny lo w' out ps :=
  ⟨fun p hp => (h.vals p hp).grown hg (fun e => by obtain ⟨b, h1, h2, _⟩ := h.own p hp; rw [h1] at e; have : b = g := by simpa using e
                                                   omega),
    fun p hp => by obtain ⟨b, h1, h2, h3⟩ := h.own p hp; exact ⟨b, h1, h2, Nat.lt_of_lt_of_le h3 hg.size⟩, h.ne, h.fair⟩
theorem DrewAny.below {lo : Nat} {w w' : World} {out : Value} {ps : List P} (h : DrewAny lo w out ps) (hb : Below w.heap.size w w') : DrewAny lo w' out ps :=
  ⟨fun p hp => (h.vals p hp).below hb, fun p hp => by obtain ⟨b, h1, h2, h3⟩ := h.own p hp; exact ⟨b, h1, h2, Nat.lt_of_lt_of_le h3 hb.size⟩, h.ne, h.fair⟩
theorem DrewAny.add {lo : Nat} {w w' : World} {out out' : Value} {ps : List P} (h : DrewAny lo w out ps) (he : Ext w w' out out') {p : P} (hv : At 3 w p.2 p.1.l.length (Go.Proofs.Ytkofafefnlommaa.vals p.1.l)) (ho : ∃ b, p.2.ownBlock = some b ∧ lo ≤ b ∧ b < w.heap.size) (hne : p.2.ownBlock ≠ out.ownBlock)
    (hf : p.1.l.length ≤ 1001 ∧ ∀ x ∈ p.1.l, Fair x) : DrewAny lo w' out' (ps ++ [p]) := by
  have key : ∀ q ∈ ps ++ [p], At 3 w q.2 q.1.l.length (Go.Proofs.Ytkofafefnlommaa.vals q.1.l) ∧ (∃ b, q.2.ownBlock = some b ∧ lo ≤ b ∧ b < w.heap.size) ∧ q.2.ownBlock ≠ out.ownBlock ∧ (q.1.l.length ≤ 1001 ∧ ∀ x ∈ q.1.l, Fair x) := by
    intro q hq
    rcases List.mem_append.1 hq with hq | hq
    · exact ⟨h.vals q hq, h.own q hq, h.ne q hq, h.fair q hq⟩
    · rw [List.mem_singleton.1 hq]
      exact ⟨hv, ho, hne, hf⟩
  refine ⟨fun q hq => ?_, fun q hq => ?_, fun q hq => ?_, fun q hq => (key q hq).2.2.2⟩
  · exact (key q hq).1.grown he.grown (key q hq).2.2.1
  · obtain ⟨b, h1, h2, h3⟩ := (key q hq).2.1
    exact ⟨b, h1, h2, Nat.lt_of_lt_of_le h3 he.grown.size⟩
  · obtain ⟨b, h1, h2, h3⟩ := (key q hq).2.1
    rcases he.blk with hb | ⟨g', hb, hge⟩
    · rw [hb]
      exact (key q hq).2.2.1
    · rw [hb, h1]
      intro e
      have : b = g' := by simpa using e
      omega
/-- Rows that lie in an array, each one's values too. -/
def AtRs (w : World) (v : Value) (ps : List P) : Prop := At 2 w v ps.length (prs ps) ∧ ∀ p ∈ ps, AtN 3 w p.2 p.1.l.length (vals p.1.l)
theorem AtRs.rdN {w : World} {v : Value} {ps : List P} (h : AtRs w v ps) : RdRsN w v ps := ⟨AtN.rd (.inr h.1), h.2⟩
theorem AtRs.below {w w' : World} {v : Value} {ps : List P} (h : AtRs w v ps) (hb : Below w.heap.size w w') : AtRs w' v ps := ⟨h.1.below hb, fun p hp => (h.2 p hp).below hb⟩
theorem DrewAny.atRs {lo : Nat} {w : World} {out : Value} {ps : List P} (h : DrewAny lo w out ps) {lo' hi : Nat} (ho : Own 27 2 lo' hi w out ps.length (prs ps)) : AtRs w out ps := ⟨ho.at, fun p hp => .inr (h.vals p hp)⟩
theorem DrewRows.any {lo : Nat} {w : World} {out : Value} {cols : List Int} {ps : List P} (h : DrewRows lo w out cols ps) (hn : cols.length ≤ 1000) : DrewAny lo w out ps :=
  ⟨h.vals, h.own, h.ne, fun p hp => ⟨by rw [h.len p hp]; omega, fair_of_tys (h.ty p hp)⟩⟩

theorem DrewAny.lower {lo lo' : Nat} {w : World} {out : Value} {ps : List P} (h : DrewAny lo w out ps) (hl : lo' ≤ lo) : DrewAny lo' w out ps :=
  ⟨h.vals, fun p hp => by obtain ⟨b, h1, h2, h3⟩ := h.own p hp; exact ⟨b, h1, Nat.le_trans hl h2, h3⟩, h.ne, h.fair⟩
theorem colsD_len {cols : List Int} (h : cols ∈ colsD) : cols.length ≤ 3 := by
  revert h
  simp only [colsD, List.mem_cons, List.not_mem_nil, or_false]
  rintro (rfl | rfl | rfl | rfl | rfl | rfl) <;> decide

set_option maxRecDepth 100000 in
set_option maxHeartbeats 1600000 in
theorem l13Rows (c : Code) (g : Nat) (w : World) (h : Cur c g w) :
    Calls Try.prog 41 #[.pointer (some ⟨g, 0, none⟩)] w fun e w' => ∃ (uc u : Value) (cols : List Int) (ps : List P), e = .returned (.tuple #[uc, u]) ∧ ps.length ≤ 9 ∧ cols ∈ colsD ∧ Own 27 2 w.heap.size w'.heap.size w' u ps.length (prs ps) ∧ DrewAny w.heap.size w' u ps ∧ ColS w.heap.size w' uc cols ∧ Going c g w w' := by
  have hgl := h.lt
  go_enter Try.func41, Try.ntmps41
  go_wp2_with fail
  refine (l4Cols c g _ h).mono ?_
  rintro e w1 ⟨v, cols, rfl, hcd, V1, G1⟩
  have hc3 := colsD_len hcd
  have hlt1 := V1
  obtain ⟨vb, rfl, hvb, hvB⟩ := hlt1
  have hvw : vb < w1.heap.size := lt_of_cell (hvB 0 _ (ints_get (by
    have : 0 < cols.length := by
      revert hcd
      simp only [colsD, List.mem_cons, List.not_mem_nil, or_false]
      rintro (rfl | rfl | rfl | rfl | rfl | rfl) <;> decide
    exact this))).1
  clear hvB
  go_wp2_with fail
  refine (l4Rows c g w.heap.size _ cols 8 w1 (by omega) (by omega) hgl V1 (fun b hb => by simp [Value.ownBlock] at hb; omega) G1.cur).mono ?_
  rintro e w2 ⟨u, ps, rfl, hps, O2, D2, G2'⟩
  have G2 := G1.next G2'.cur G2'.grown
  have V2 := V1.draw G2'.grown hgl
  have hs12 := G2'.grown.size
  have hs01 := G1.grown.size
  have D2' := (D2.any (by omega)).lower hs01
  obtain ⟨og, oc, ho, hog1, hog2, _⟩ := id O2
  subst ho
  have HN0 : Hid (ps.length = ps.length) := rfl
  generalize hn : ps.length = n at hps O2 HN0 D2'
  have HN := Lib.hid hn
  have O2' := O2.lower hs01
  clear hn HN0 O2 D2 V1 G1 G2'
  go_wp2_with fail
  refine (l1Below c g _ _ G2.cur).mono ?_
  rintro e w3 ⟨k, rfl, hk, hc3', hg3⟩
  have G3 := G2.next hc3' hg3
  have V3 := V2.draw hg3 hgl
  have D3 := D2'.draw hg3 hgl
  have O3 := (O2'.draw hg3 hgl).wide hg3.size
  have hs23 := hg3.size
  clear hk hc3' hg3 V2 D2' O2'
  by_cases hk0 : k = 0
  · subst hk0
    go_wp2_with fail
    refine (l1IntLit c g [-1, 0, 99, 1000000000, 1000000001] 5 w3 rfl (by omega) (by omega) G3.cur _ rfl).mono ?_
    rintro e w4 ⟨y, rfl, _, hc4, hg4⟩
    have G4 := G3.next hc4 hg4
    have V4 := V3.draw hg4 hgl
    have D4 := D3.draw hg4 hgl
    have O4 := (O3.draw hg4 hgl).wide hg4.size
    have hs34 := hg4.size
    clear hc4 hg4 V3 D3 O3 G3
    go_wp2_with fail
    refine (l4Vals c g w.heap.size _ cols w4 (by omega) hgl V4 G4.cur).mono ?_
    rintro e w5 ⟨uv, lv, rfl, hlv, hty, ov, G5'⟩
    have GX := G4.next G5'.cur G5'.grown
    have VX := V4.draw G5'.grown hgl
    have DX := D4.draw G5'.grown hgl
    have OX := (O4.draw G5'.grown hgl).wide G5'.grown.size
    have HFR : Hid (lv.length ≤ 1001 ∧ ∀ x ∈ lv, Fair x) := ⟨by rw [hlv]; omega, fair_of_tys hty⟩
    clear hlv hty G5' V4 D4 O4 G4
    obtain ⟨ub, uc, hu, hu1, hu2, _⟩ := id ov
    subst hu
    have HOV := Lib.hid ov.at
    have HOB : Hid (∃ b, (Value.slice (some ⟨ub, 0, none⟩) lv.length uc).ownBlock = some b ∧ w.heap.size ≤ b ∧ b < w5.heap.size) := ⟨ub, rfl, by have := G2.grown.size; have := hs23; omega, hu2⟩
    have HON : Hid ((Value.slice (some ⟨ub, 0, none⟩) lv.length uc).ownBlock ≠ (Value.slice (some ⟨og, 0, none⟩) n oc).ownBlock) := fun e => by
      have : ub = og := by simpa [Value.ownBlock] using e
      omega
    have HPA : Hid (prs ps ++ [.int .i64 y, .slice (some ⟨ub, 0, none⟩) lv.length uc] = prs (ps ++ [((⟨y, lv⟩ : R), Value.slice (some ⟨ub, 0, none⟩) lv.length uc)])) := by
      show _ = _
      simp [prs, P.cs]
    have HADD := Lib.hid (fun w' out' (he : Ext w5 w' (.slice (some ⟨og, 0, none⟩) n oc) out') => DX.add he (p := (⟨y, lv⟩, .slice (some ⟨ub, 0, none⟩) lv.length uc)) HOV.out HOB.out HON.out HFR.out)
    have HPL : Hid ((ps ++ [((⟨y, lv⟩ : R), Value.slice (some ⟨ub, 0, none⟩) lv.length uc)]).length = n + 1) := by show _ = _; rw [List.length_append, HN.out]; rfl
    generalize hps2 : ps ++ [((⟨y, lv⟩ : R), Value.slice (some ⟨ub, 0, none⟩) lv.length uc)] = ps2 at HPA HADD HPL
    generalize lv.length = ln at HPA HADD
    clear hps2 ov HOV HOB HON DX
    go_wp2_with (at_builtin; refine appendRd_law Try.elemRows rfl _ _ rfl _ _ _ _ _ (y)  (some ⟨ub, 0, none⟩) ln uc rfl OX rfl (by unfold maxLen; omega) (by omega) ?_)
    intro vA wA oA eA
    have GA := Lib.hid (GX.ext OX (Nat.le_refl _) eA)
    have DA := Lib.hid (HADD.out _ _ eA)
    have VA : Hid (ColS w.heap.size wA (.slice (some ⟨vb, 0, none⟩) cols.length cols.length) cols) := by
      obtain ⟨vb', hvb, hvl, hvB⟩ := VX
      refine ⟨vb', hvb, hvl, hvB.grown eA.grown (fun e => ?_)⟩
      have hxx : vb' = og := by simpa [Value.ownBlock] using e
      simp at hvb
    rw [HPA.out] at oA
    have OA := Lib.hid oA
    clear oA eA OX GX VX HADD HPA
    go_wp2
    go_ret2
    exact ⟨_, _, cols, ps2, rfl, by rw [HPL.out]; omega, hcd, by rw [HPL.out]; exact OA.out, DA.out, VA.out, GA.out⟩
  by_cases hk1 : k = 1
  · subst hk1
    go_wp2_with fail
    refine (l4Any c g w.heap.size _ cols w3 (by omega) hgl V3 G3.cur).mono ?_
    rintro e w5 ⟨uv, lv, rfl, hlv, hfr, ov, G5'⟩
    have GX := G3.next G5'.cur G5'.grown
    have VX := V3.draw G5'.grown hgl
    have DX := D3.draw G5'.grown hgl
    have OX := (O3.draw G5'.grown hgl).wide G5'.grown.size
    have HFR : Hid (lv.length ≤ 1001 ∧ ∀ x ∈ lv, Fair x) := ⟨by omega, hfr⟩
    clear hlv hfr G5' V3 D3 O3 G3
    obtain ⟨ub, uc, hu, hu1, hu2, _⟩ := id ov
    subst hu
    have HOV := Lib.hid ov.at
    have HOB : Hid (∃ b, (Value.slice (some ⟨ub, 0, none⟩) lv.length uc).ownBlock = some b ∧ w.heap.size ≤ b ∧ b < w5.heap.size) := ⟨ub, rfl, by have := G2.grown.size; have := hs23; omega, hu2⟩
    have HON : Hid ((Value.slice (some ⟨ub, 0, none⟩) lv.length uc).ownBlock ≠ (Value.slice (some ⟨og, 0, none⟩) n oc).ownBlock) := fun e => by
      have : ub = og := by simpa [Value.ownBlock] using e
      omega
    have HPA : Hid (prs ps ++ [.int .i64 90, .slice (some ⟨ub, 0, none⟩) lv.length uc] = prs (ps ++ [((⟨90, lv⟩ : R), Value.slice (some ⟨ub, 0, none⟩) lv.length uc)])) := by
      show _ = _
      simp [prs, P.cs]
    have HADD := Lib.hid (fun w' out' (he : Ext w5 w' (.slice (some ⟨og, 0, none⟩) n oc) out') => DX.add he (p := (⟨90, lv⟩, .slice (some ⟨ub, 0, none⟩) lv.length uc)) HOV.out HOB.out HON.out HFR.out)
    have HPL : Hid ((ps ++ [((⟨90, lv⟩ : R), Value.slice (some ⟨ub, 0, none⟩) lv.length uc)]).length = n + 1) := by show _ = _; rw [List.length_append, HN.out]; rfl
    generalize hps2 : ps ++ [((⟨90, lv⟩ : R), Value.slice (some ⟨ub, 0, none⟩) lv.length uc)] = ps2 at HPA HADD HPL
    generalize lv.length = ln at HPA HADD
    clear hps2 ov HOV HOB HON DX
    go_wp2_with (at_builtin; refine appendRd_law Try.elemRows rfl _ _ rfl _ _ _ _ _ (90)  (some ⟨ub, 0, none⟩) ln uc rfl OX rfl (by unfold maxLen; omega) (by omega) ?_)
    intro vA wA oA eA
    have GA := Lib.hid (GX.ext OX (Nat.le_refl _) eA)
    have DA := Lib.hid (HADD.out _ _ eA)
    have VA : Hid (ColS w.heap.size wA (.slice (some ⟨vb, 0, none⟩) cols.length cols.length) cols) := by
      obtain ⟨vb', hvb, hvl, hvB⟩ := VX
      refine ⟨vb', hvb, hvl, hvB.grown eA.grown (fun e => ?_)⟩
      have hxx : vb' = og := by simpa [Value.ownBlock] using e
      simp at hvb
    rw [HPA.out] at oA
    have OA := Lib.hid oA
    clear oA eA OX GX VX HADD HPA
    go_wp2
    go_ret2
    exact ⟨_, _, cols, ps2, rfl, by rw [HPL.out]; omega, hcd, by rw [HPL.out]; exact OA.out, DA.out, VA.out, GA.out⟩
  by_cases hk2 : k = 2
  · subst hk2
    go_wp2_with fail
    refine (l4Cols c g _ G3.cur).mono ?_
    rintro e w5 ⟨v2, cols2, rfl, hcd2, V5, G5'⟩
    have GX := Lib.hid (G3.next G5'.cur G5'.grown)
    have DX := Lib.hid (D3.draw G5'.grown hgl)
    have OX := Lib.hid ((O3.draw G5'.grown hgl).wide G5'.grown.size)
    have hs03 := G3.grown.size
    have VX : Hid (ColS w.heap.size w5 v2 cols2) := by obtain ⟨b, h1, h2, h3⟩ := V5; exact ⟨b, h1, by omega, h3⟩
    clear G5' V3 D3 O3 G3 V5
    go_wp2
    go_ret2
    exact ⟨_, _, cols2, ps, rfl, by rw [HN.out]; omega, hcd2, by rw [HN.out]; exact OX.out, DX.out, VX.out, GX.out⟩
  · have GX := Lib.hid G3
    have DX := Lib.hid D3
    have OX := Lib.hid O3
    have VX := Lib.hid V3
    clear V3 D3 O3 G3
    go_wp2
    go_ret2
    exact ⟨_, _, cols, ps, rfl, by rw [HN.out]; omega, hcd, by rw [HN.out]; exact OX.out, DX.out, VX.out, GX.out⟩

end Go.Proofs.Ytkofafefnlommaa

/- Chapter 13's draws: DrawDropRows, DrawFindRow. -/
namespace Go.Proofs.Ytkofafefnlommaa
open Go.RowKit

/-- Rows that have been drawn, as they are read. -/
def DrawnRows (w : World) (u : Value) (ps : List P) : Prop := AtRs w u ps ∧ ps.length ≤ 9 ∧ ∀ p ∈ ps, p.1.l.length ≤ 1001 ∧ ∀ x ∈ p.1.l, Fair x

theorem DrawnRows.below {w w' : World} {v : Value} {ps : List P} (h : DrawnRows w v ps) (hb : Below w.heap.size w w') : DrawnRows w' v ps := ⟨h.1.below hb, h.2⟩

set_option maxRecDepth 100000 in
set_option maxHeartbeats 1600000 in
theorem drawDropRows (c : Code) (w : World) (h : c.In w) :
    Calls Try.prog 10 #[.slice c.a c.len c.cap] w fun e w' => ∃ (u ui : Value) (ps : List P) (zs : List Int), e = .returned (.tuple #[u, ui]) ∧ DrawnRows w' u ps ∧ zs.length ≤ 4 ∧ At 1 w' ui zs.length (ints .i64 zs) ∧ Below w.heap.size w w' := by
  go_enter Try.func10, Try.ntmps10
  go_wp2_with fail
  refine (l1New c _ h).mono ?_
  rintro e w1 ⟨rfl, hc1, hb1⟩
  generalize hgg : w.heap.size = g at hc1 hb1 ⊢
  have HG := Lib.hid hgg
  have hgl := hc1.lt
  go_wp2_with fail
  refine (l13Rows c g w1 hc1).mono ?_
  rintro e w2 ⟨uc, u, cols, ps, rfl, hps, _, O2, D2, _, G2⟩
  have hgl2 : g < w2.heap.size := Nat.lt_of_lt_of_le hgl G2.grown.size
  obtain ⟨og, oc, ho, hog⟩ := id O2
  subst ho
  have O3 := own_lit (e := 3) (size := 1) w2 #[] 0 (Nat.zero_le _) rfl
  have G3 := (Going.start G2.cur).alloc (.cells #[] 3)
  generalize hw3 : w2.alloc (.cells #[] 3) = w3 at O3 G3
  have HW3 := Lib.hid hw3
  have HO2 := Lib.hid O2
  have HD2 := Lib.hid D2
  have HG2 := Lib.hid G2
  have HPS := Lib.hid hps
  generalize hpn : ps.length = pn at O2
  have HPN := Lib.hid hpn
  clear hw3 O2 D2 G2 hps hpn
  go_wp2_with fail
  rw [HW3.out]
  refine (l1Below c g _ _ G3.cur).mono ?_
  rintro e w4 ⟨N, rfl, hN, hc4, hg4⟩
  have G4 := G3.next hc4 hg4
  have O4 := (O3.draw hg4 hgl2).wide hg4.size
  obtain ⟨N, rfl⟩ := Int.eq_ofNat_of_zero_le hN.1
  have hNm : N ≤ 4 := by omega
  clear hN O3 G3 hc4 hg4
  go_wp2
  go_loopw [7, 8] (fun o i wr => ∃ (j : Nat) (zs : List Int), j ≤ N ∧ i = .int .i64 ((N : Int) - j) ∧ zs.length = j ∧ (∃ b cp, o = .slice (some ⟨b, 0, none⟩) j cp) ∧ Own 3 1 w2.heap.size wr.heap.size wr o j (ints .i64 zs) ∧ Going c g w2 wr) (fun _ i _ => (intOf i).toNat)
  case atStart => exact ⟨0, [], Nat.zero_le _, by simp, rfl, ⟨_, _, rfl⟩, O4, G4⟩
  case round =>
    obtain ⟨j, zs, hj, rfl, hzl, ⟨ob, ocp, rfl⟩, hown, G⟩ := hrel
    have HZL := Lib.hid hzl
    clear hzl O4 G4
    by_cases hlt : j < N
    · have hij : (0 : Int) < (N : Int) - j := by omega
      go_wp2_with fail
      refine (l1Below c g _ _ G.cur).mono ?_
      rintro e w5 ⟨x, rfl, _, hc5, hg5⟩
      have G5 := G.next hc5 hg5
      have O5 := (hown.draw hg5 hgl2).wide hg5.size
      clear hc5 hg5 G hown
      go_wp2_with (at_builtin; refine append1_law Try.elemInts rfl _ _ rfl _ _ _ _ _ (.int .i64 x) rfl rfl O5 rfl (by unfold maxLen; omega) (by omega) ?_)
      intro v6 w6 o6 e6
      have G6 := Lib.hid (G5.ext O5 (Nat.le_refl _) e6)
      have HXA : Hid (ints .i64 zs ++ [.int .i64 x] = ints .i64 (zs ++ [x])) := by show _ = _; simp [ints]
      rw [HXA.out] at o6
      have O6 := Lib.hid o6
      obtain ⟨vb, vc, hv6⟩ : ∃ g cp, v6 = .slice (some ⟨g, 0, none⟩) (j + 1) cp := by obtain ⟨g, cp, e, _⟩ := o6; exact ⟨g, cp, e⟩
      subst hv6
      clear o6 e6 O5 G5
      go_wp2
      go_roundw
      case rel => exact ⟨j + 1, zs ++ [x], by omega, by go_num, by rw [List.length_append, HZL.out]; rfl, ⟨_, _, rfl⟩, O6.out, G6.out⟩
      case measure => simp [intOf]; omega
    · obtain rfl : j = N := by omega
      have HO := Lib.hid hown
      have HGG := Lib.hid G
      clear hown G
      go_wp2
      go_ret2
      have O7 := HO2.out.draw HGG.out.grown hgl
      have D7 := HD2.out.draw HGG.out.grown hgl
      have R7 := D7.atRs O7
      rw [HPN.out] at R7
      refine ⟨_, _, ps, zs, rfl, ⟨R7, HPS.out, D7.fair⟩, by rw [HZL.out]; exact hNm, by rw [HZL.out]; exact HO.out.at, ?_⟩
      rw [HG.out]
      exact hb1.grown (HG2.out.next HGG.out.cur HGG.out.grown).grown (Nat.le_of_lt hgl) (fun k hk => by simp at hk; omega)

set_option maxRecDepth 100000 in
set_option maxHeartbeats 1600000 in
theorem drawFindRow (c : Code) (w : World) (h : c.In w) :
    Calls Try.prog 11 #[.slice c.a c.len c.cap] w fun e w' => ∃ (u : Value) (ps : List P) (n : Int), e = .returned (.tuple #[u, .int .i64 n]) ∧ DrawnRows w' u ps ∧ Below w.heap.size w w' := by
  go_enter Try.func11, Try.ntmps11
  go_wp2_with fail
  refine (l1New c _ h).mono ?_
  rintro e w1 ⟨rfl, hc1, hb1⟩
  generalize hgg : w.heap.size = g at hc1 hb1 ⊢
  have HG := Lib.hid hgg
  have hgl := hc1.lt
  go_wp2_with fail
  refine (l13Rows c g w1 hc1).mono ?_
  rintro e w2 ⟨uc, u, cols, ps, rfl, hps, _, O2, D2, _, G2⟩
  have hgl2 : g < w2.heap.size := Nat.lt_of_lt_of_le hgl G2.grown.size
  obtain ⟨og, oc, ho, hog⟩ := id O2
  subst ho
  have HEND : Hid (∀ wr, Going c g w2 wr → DrawnRows wr (.slice (some ⟨og, 0, none⟩) ps.length oc) ps ∧ Below g w wr) := fun wr G => by
    have D7 := D2.draw G.grown hgl
    exact ⟨⟨D7.atRs (O2.draw G.grown hgl), hps, D7.fair⟩, hb1.grown (G2.next G.cur G.grown).grown (Nat.le_of_lt hgl) (fun k hk => by simp at hk; omega)⟩
  have HAT : Hid (∀ wr k, Going c g w2 wr → k < ps.length → wr.cell? ⟨og, k * 2, none⟩ = some (.int .i64 (ps.getD k P.zero).1.id)) := fun wr k G hk => by
    have D7 := D2.draw G.grown hgl
    obtain ⟨a, cp, e1, _, HC⟩ := (D7.atRs (O2.draw G.grown hgl)).rdN.rd.walk rfl
    simp only [Value.slice.injEq, true_and] at e1
    obtain ⟨rfl, rfl⟩ := e1
    obtain ⟨b, off, e2, c0, _⟩ := HC.out k hk wr (Below.refl _ _)
    simp only [Option.some.injEq, Addr.mk.injEq, and_true] at e2
    obtain ⟨rfl, rfl⟩ := e2
    rw [Nat.zero_add] at c0
    exact c0
  have G20 := Going.start G2.cur
  generalize hpn : ps.length = pn at HEND HAT hps
  have HPN := Lib.hid hpn
  clear hpn O2 D2 G2 hb1
  by_cases hn0 : pn = 0
  · subst hn0
    go_wp2_with fail
    refine (l1Below c g _ _ G20.cur).mono ?_
    rintro e w4 ⟨x, rfl, _, hc4, hg4⟩
    have G4 := Lib.hid (G20.next hc4 hg4)
    clear hc4 hg4 G20
    go_wp2
    go_ret2
    rw [HG.out]
    exact ⟨_, ps, x, rfl, HEND.out _ G4.out⟩
  · have hni : (0 : Int) < (pn : Int) := by omega
    clear hn0
    go_wp2_with fail
    refine (l1Once c g _ _ G20.cur).mono ?_
    rintro e w4 ⟨b, rfl, hc4, hg4⟩
    have G4 := G20.next hc4 hg4
    clear hc4 hg4 G20
    cases b with
    | false =>
      go_wp2_with fail
      refine (l1Below c g _ _ G4.cur).mono ?_
      rintro e w5 ⟨x, rfl, _, hc5, hg5⟩
      have G5 := Lib.hid (G4.next hc5 hg5)
      clear hc5 hg5 G4
      go_wp2
      go_ret2
      rw [HG.out]
      exact ⟨_, ps, x, rfl, HEND.out _ G5.out⟩
    | true =>
      have hbd : Below w4.heap.size w4 w4.drew := (Below.refl _ _).drew
      have G4d := G4.below hbd
      go_wp2_with fail
      go_region_with (go_at_call 39; refine (l1Below c g _ _ G4d.cur).mono ?_; rintro e w5 ⟨x, rfl, hx, hc5, hg5⟩; have G5 := G4d.next hc5 hg5; obtain ⟨k, rfl⟩ := Int.eq_ofNat_of_zero_le hx.1; have hk : k < pn := (by omega); have hki : (k : Int) < (pn : Int) := (by omega); have c0 := HAT.out w5 k G5 hk)
      all_goals
        have HG5 := Lib.hid G5
        clear hc5 hg5 G4 hx G5 G4d hbd
        go_wp2
        go_ret2
        rw [HG.out]
        exact ⟨_, ps, _, rfl, HEND.out _ HG5.out⟩

end Go.Proofs.Ytkofafefnlommaa

/- Chapter 13's draws: DrawPutRow. -/
namespace Go.Proofs.Ytkofafefnlommaa
open Go.RowKit

set_option maxRecDepth 100000 in
set_option maxHeartbeats 1600000 in
theorem drawPutRow (c : Code) (w : World) (h : c.In w) :
    Calls Try.prog 9 #[.slice c.a c.len c.cap] w fun e w' => ∃ (u ur : Value) (ps : List P) (i : Int) (l : List V), e = .returned (.tuple #[u, .agg #[.int .i64 i, ur]]) ∧ DrawnRows w' u ps ∧ (l.length ≤ 1001 ∧ ∀ x ∈ l, Fair x) ∧ At 3 w' ur l.length (vals l) ∧ Below w.heap.size w w' := by
  have R0 := blk_new w [.int .i64 0, .slice none 0 0] 27
  have B0 := below_alloc w (.cells #[.int .i64 0, .slice none 0 0] 27)
  have hs0 : (w.alloc (.cells #[.int .i64 0, .slice none 0 0] 27)).heap.size = w.heap.size + 1 := World.size_alloc _ _
  generalize hw0 : w.alloc (.cells #[.int .i64 0, .slice none 0 0] 27) = w0 at R0 B0 hs0
  have HW0 := Lib.hid hw0
  have HS0 := Lib.hid hs0
  clear hw0
  go_enter Try.func9, Try.ntmps9
  go_wp2_with fail
  rw [HW0.out]
  refine (l1New c _ ⟨h.arg.below B0, h.byt, h.small⟩).mono ?_
  rintro e w1 ⟨rfl, hc1, hb1⟩
  have R1 := R0.below hb1
  have B1 := below_then B0 hb1 B0.size
  generalize hgg : w0.heap.size = g at hc1 hb1 HS0 ⊢
  have hg : g = w.heap.size + 1 := HS0.out
  have hgl := hc1.lt
  have HG := Lib.hid hg
  clear hg hgg R0 B0 hs0 hb1 HW0 h
  go_wp2_with fail
  refine (l4Cols c g w1 hc1).mono ?_
  rintro e w2 ⟨vc, cols, rfl, hcd, V2, G2⟩
  have hc3 := colsD_len hcd
  obtain ⟨vb, rfl, hvb, hvB⟩ := id V2
  have hvw : vb < w2.heap.size := lt_of_cell (hvB 0 _ (ints_get (by
    have : 0 < cols.length := by
      revert hcd
      simp only [colsD, List.mem_cons, List.not_mem_nil, or_false]
      rintro (rfl | rfl | rfl | rfl | rfl | rfl) <;> decide
    exact this))).1
  have R2 := R1.draw G2.grown (by have := HG.out; omega)
  have hs12 := G2.grown.size
  clear hvB R1
  go_wp2_with fail
  refine (l4Rows c g w1.heap.size _ cols 5 w2 (by omega) (by omega) hgl V2 (fun b hb => by simp [Value.ownBlock] at hb; omega) G2.cur).mono ?_
  rintro e w3 ⟨u, ps, rfl, hps, O3, D3, G3'⟩
  have G3 := G2.next G3'.cur G3'.grown
  have V3 := V2.draw G3'.grown hgl
  have R3 := R2.draw G3'.grown (by have := HG.out; omega)
  have D3' := (D3.any (by omega)).lower hs12
  have O3' := O3.lower hs12
  have hs23 := G3'.grown.size
  obtain ⟨og, oc, ho, hog⟩ := id O3
  subst ho
  have HD3 := Lib.hid D3'
  have HO3 := Lib.hid O3'
  have HPS : Hid (ps.length ≤ 9) := by show _ ≤ _; omega
  generalize hpn : ps.length = pn
  have HPN := Lib.hid hpn
  clear V2 G2 R2 G3' O3 D3 D3' O3' hps hpn
  go_wp2_with fail
  refine (l1Below c g _ _ G3.cur).mono ?_
  rintro e w4 ⟨x, rfl, _, hc4, hg4⟩
  have G4 := G3.next hc4 hg4
  have V4 := V3.draw hg4 hgl
  have R4 := R3.draw hg4 (by have := HG.out; omega)
  have HD4 := Lib.hid (HD3.out.draw hg4 hgl)
  have HO4 := Lib.hid (HO3.out.draw hg4 hgl)
  have hs34 := hg4.size
  clear hc4 hg4 V3 R3 G3 HD3 HO3
  go_wp2_with fail
  refine (l4Vals c g w1.heap.size _ cols w4 (by omega) hgl V4 G4.cur).mono ?_
  rintro e w5 ⟨ur, l, rfl, hl, hty, OV, G5'⟩
  have R5 := R4.draw G5'.grown (by have := HG.out; omega)
  have HD5 := Lib.hid (HD4.out.draw G5'.grown hgl)
  have HO5 := Lib.hid (HO4.out.draw G5'.grown hgl)
  have HB := Lib.hid (B1.grown (G4.next G5'.cur G5'.grown).grown B1.size (fun k hk => by simp at hk; have := HG.out; omega))
  have HF : Hid (l.length ≤ 1001 ∧ ∀ x ∈ l, Fair x) := ⟨by rw [hl]; omega, fair_of_tys hty⟩
  have HOV := Lib.hid OV
  obtain ⟨ub, uc, hu, hu1, hu2, _⟩ := OV
  subst hu
  generalize hln : l.length = ln
  have HLN := Lib.hid hln
  obtain ⟨m0, n0⟩ := R5 0 _ rfl
  obtain ⟨m1, n1⟩ := R5 1 _ rfl
  have hbx : w.heap.size < w1.heap.size := by have := HG.out; omega
  clear R4 R5 V4 G4 G5' hty hl hln HD4 HO4 B1
  go_wp2
  have g1 := grownBy_setCell w5 w.heap.size 0 (.int .i64 x)
  have g2 := grownBy_setCell (w5.setCell ⟨w.heap.size, 0, none⟩ (.int .i64 x)) w.heap.size 1 (.slice (some ⟨ub, 0, none⟩) ln uc)
  have D7 := (HD5.out.draw g1 hbx).draw g2 hbx
  have R7 := D7.atRs ((HO5.out.draw g1 hbx).draw g2 hbx)
  have A7 := ((HOV.out.draw g1 (by omega)).draw g2 (by omega)).at
  rw [HPN.out] at R7
  rw [HLN.out] at A7
  refine bodyPost_ret (v := .tuple #[.slice (some ⟨og, 0, none⟩) pn oc, .agg #[.int .i64 x, .slice (some ⟨ub, 0, none⟩) ln uc]]) (by simp [results, Try.results9, go_sem, *]) rfl ⟨_, _, ps, x, l, rfl, ⟨R7, HPS.out, D7.fair⟩, HF.out, by rw [HLN.out]; exact A7, (HB.out.setCell (by simp) _).setCell (by simp) _⟩

end Go.Proofs.Ytkofafefnlommaa
