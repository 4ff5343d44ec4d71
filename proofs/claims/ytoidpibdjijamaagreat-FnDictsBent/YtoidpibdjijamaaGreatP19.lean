/- Texts of this claim, one behind the other: Draw7, Draw7b, M5, M7b, Law5b, Law7, I5b, I5c, I5d, I7. -/
import Derived.Test.YtoidpibdjijamaaGreatP16
import Derived.Test.YtoidpibdjijamaaGreatP10
import Derived.Test.YtoidpibdjijamaaGreatP18
import Derived.Test.YtoidpibdjijamaaGreatP17
import Derived.Test.YtoidpibdjijamaaGreatP4
import Derived.Test.YtoidpibdjijamaaGreatP14
import Derived.Laws.BytesArg

/- The contracts of DrawDict, DrawDecDict, l7Pair, DrawInDict, DrawPlaces, DrawPicked. -/
namespace Go.Proofs.YtoidpibdjijamaaGreat
open Go.RowKit

set_option maxHeartbeats 1000000 in
theorem drawDecDict (c : Code) (w : World) (h : c.In w) :
    Calls Tryz.prog 5 #[.slice c.a c.len c.cap] w fun e w' => ∃ (v : Value) (zs : List Int) (ty k : Int), e = .returned (.tuple #[v, .int .i64 ty, .int .i64 k]) ∧ I64 ty ∧ I64 k ∧ Num.Bytes zs ∧ zs.length ≤ 2000 ∧ Own 5 1 w.heap.size w'.heap.size w' v zs.length (ints .u8 zs) ∧ Below w.heap.size w w' := by
  go_enter Tryz.func5, Tryz.ntmps5
  go_wp2_with fail
  refine (l1New c _ h).mono ?_
  rintro e w1 ⟨rfl, hc1, hb1⟩
  go_wp2_with fail
  refine (l5Draw c _ _ hc1).mono ?_
  rintro e w2 ⟨v2, l, rfl, hl, o2, hc2, hg2⟩
  have G2 := (Going.start hc1).next hc2 hg2
  have HA := Lib.hid hl.any
  obtain ⟨hl1, hl2, _⟩ := hl
  clear hc2 hg2
  go_wp2_with fail
  refine (l5Type c _ v2 l.length l w2 rfl hl1 (by omega) HA.out.2 o2.rd G2.cur).mono ?_
  rintro e w3 ⟨ty, k, rfl, ht, hk, hc3, hg3⟩
  have G3 := G2.next hc3 hg3
  have O3 := (o2.draw hg3 hc1.lt).wide hg3.size
  clear hc3 hg3 o2 G2
  have HE := Lib.hid (sEncDict v2 l w3 (by omega) HA.out.sizes O3.rd)
  have HEL := Lib.hid (encD_len l)
  obtain ⟨b2, cp2, rfl⟩ : ∃ b cp, v2 = .slice (some ⟨b, 0, none⟩) l.length cp := by
    obtain ⟨b, cp, e, _⟩ := O3
    exact ⟨b, cp, e⟩
  generalize l.length = lc at *
  go_wp2_with fail
  refine HE.out.mono ?_
  rintro e w4 ⟨v4, rfl, o4, b4⟩
  have G4 := G3.below b4
  have hel := HEL.out
  clear HE G3 O3
  go_wp2_with fail
  refine (l1Bent c _ v4 (encD l).length (encD l) w4 (by omega) rfl (encD_bytes l) o4.at G4.cur).mono ?_
  rintro e w5 ⟨v5, zs, rfl, hby, hzl, o5, hc5, hg5⟩
  have G5 := G4.next hc5 hg5
  have HB5 := Lib.hid (below_cur hb1 G5.grown)
  have O5 := Lib.hid (o5.lower (show w.heap.size ≤ w4.heap.size by
    have h1 := hb1.size
    have h2 := G4.grown.size
    omega))
  have HZ : Hid (zs.length ≤ 2000) := by
    show _ ≤ _
    omega
  have HBY := Lib.hid hby
  obtain ⟨b5, cp5, rfl⟩ : ∃ b cp, v5 = .slice (some ⟨b, 0, none⟩) zs.length cp := by
    obtain ⟨b, cp, e, _⟩ := o5
    exact ⟨b, cp, e⟩
  clear o4 o5 hc5 hg5 hzl G4 G5 b4 hby
  go_wp2
  go_ret3
  exact ⟨_, zs, ty, k, rfl, ht, hk, HBY.out, HZ.out, O5.out, HB5.out⟩

theorem At.from3 {w : World} {b off n cap A tl : Nat} {l : List V} (hz : l.length = n) (h : At 3 w (.slice (some ⟨b, off, none⟩) n cap) n (vals l)) (hA : A ≤ n) (ht : A < cap → tl = off + A * 3) : At 3 w (.slice (some ⟨b, tl, none⟩) (n - A) (cap - A)) (n - A) (vals (l.drop A)) := by
  obtain ⟨b', off', cap', e, h1, h2, h3, h4⟩ := h
  simp only [Value.slice.injEq, Option.some.injEq, Addr.mk.injEq, and_true, true_and] at e
  obtain ⟨⟨rfl, rfl⟩, rfl⟩ := e
  refine ⟨_, _, _, rfl, by omega, by omega, ?_, fun j u hu => ?_⟩
  · rw [vals_len, List.length_drop, hz]
  · have hlt := (List.getElem?_eq_some_iff.1 hu).1
    rw [vals_len, List.length_drop] at hlt
    rw [vals_drop, List.getElem?_drop] at hu
    have := h4 (A * 3 + j) u hu
    rw [ht (by omega), Nat.add_assoc]
    exact this
/-- What l7Pair draws. -/
structure Pair (g lo : Nat) (w : World) (vd vl : Value) (d l : List V) : Prop where
  dl : d.length ≤ 16
  ll : 1 ≤ l.length ∧ l.length ≤ 16
  ds : ∀ v ∈ d, v.s.size ≤ maxLen
  ls : ∀ v ∈ l, v.s.size ≤ maxLen
  da : At 3 w vd d.length (vals d)
  la : At 3 w vl l.length (vals l)
  dn : ∀ b, vd.ownBlock = some b → lo ≤ b
  ln : ∀ b, vl.ownBlock = some b → lo ≤ b
  gl : g < lo
  dh : ∀ b, vd.ownBlock = some b → b < w.heap.size
theorem Pair.draw {g lo : Nat} {w w' : World} {vd vl : Value} {d l : List V} (h : Pair g lo w vd vl d l) (hg : w.grownBy w' (some g)) : Pair g lo w' vd vl d l :=
  ⟨h.dl, h.ll, h.ds, h.ls, h.da.grown hg (fun e => by have := h.dn g e; have := h.gl; omega), h.la.grown hg (fun e => by have := h.ln g e; have := h.gl; omega), h.dn, h.ln, h.gl, fun b hb => Nat.lt_of_lt_of_le (h.dh b hb) hg.size⟩
theorem Pair.below {g lo : Nat} {w w' : World} {vd vl : Value} {d l : List V} (h : Pair g lo w vd vl d l) (hb : Below w.heap.size w w') : Pair g lo w' vd vl d l :=
  ⟨h.dl, h.ll, h.ds, h.ls, h.da.below hb, h.la.below hb, h.dn, h.ln, h.gl, fun b h2 => Nat.lt_of_lt_of_le (h.dh b h2) hb.size⟩

set_option maxHeartbeats 1000000 in
theorem l7Pair (c : Code) (g : Nat) (w : World) (h : Cur c g w) :
    Calls Tryz.prog 37 #[.pointer (some ⟨g, 0, none⟩)] w fun e w' => ∃ (vd vl : Value) (d l : List V), e = .returned (.tuple #[vd, vl]) ∧ Pair g w.heap.size w' vd vl d l ∧ Cur c g w' ∧ w.grownBy w' (some g) := by
  have hgl := h.lt
  go_enter Tryz.func37, Tryz.ntmps37
  go_wp2_with fail
  refine (l5Draw c _ _ h).mono ?_
  rintro e w2 ⟨v2, l, rfl, hl, o2, hc2, hg2⟩
  have G2 := (Going.start h).next hc2 hg2
  have HA := Lib.hid hl.any
  obtain ⟨hl1, hl2, _⟩ := hl
  clear hc2 hg2
  have HD := Lib.hid (sDict v2 l w2 (by omega) o2.rd)
  have HDL := Lib.hid (dict_len l)
  have HDS := Lib.hid (dict_all HA.out.sizes)
  have HDP : Hid (1 ≤ (dictL l).length) := by
    have : l[0] ∈ dictL l := mem_dict.2 (List.getElem_mem _)
    exact List.length_pos_of_mem this
  generalize dictL l = D at HD HDL HDS HDP
  go_wp2_with fail
  refine HD.out.mono ?_
  rintro e w3 ⟨v3, rfl, o3, b3⟩
  have G3 := G2.below b3
  have O2 := (o2.below b3 (Nat.le_refl _))
  have O3 := o3.lower G2.grown.size
  have hgl3 : g < w3.heap.size := Nat.lt_of_lt_of_le hgl G3.grown.size
  clear o2 o3 b3 HD G2
  go_wp2_with fail
  refine (l1Once c g _ _ G3.cur).mono ?_
  rintro e w4 ⟨bo, rfl, hc4, hg4⟩
  have G4 := G3.next hc4 hg4
  have O24 := O2.draw hg4 hgl
  have O34 := O3.draw hg4 hgl
  have hg4s := hg4.size
  clear O2 O3 hc4 hg4 G3
  obtain ⟨g2, c2, rfl, ga, _, _⟩ := id O24
  obtain ⟨g3, c3, rfl, gb, gc, _⟩ := id O34
  have gd := hg4s
  have hdl := HDL.out
  have hdp := HDP.out
  obtain ⟨b', off', c', e', hcc, hcm, _, _⟩ := O34.at
  simp only [Value.slice.injEq, Option.some.injEq, Addr.mk.injEq, and_true, true_and] at e'
  obtain ⟨⟨rfl, rfl⟩, rfl⟩ := e'
  have HC := Lib.hid hcm
  cases bo with
  | false =>
    have HP : Hid (Pair g w.heap.size w4 (.slice (some ⟨g3, 0, none⟩) D.length c3) (.slice (some ⟨g2, 0, none⟩) l.length c2) D l) :=
      ⟨by omega, ⟨hl1, by omega⟩, HDS.out, HA.out.sizes, O34.at, O24.at, fun b hb => by simp [Value.ownBlock] at hb; omega, fun b hb => by simp [Value.ownBlock] at hb; omega, hgl, fun b hb => by simp [Value.ownBlock] at hb; have := G4.grown.size; omega⟩
    have HG := Lib.hid G4
    clear O24 O34 hcm G4
    go_wp2
    go_ret2
    exact ⟨_, _, D, l, rfl, HP.out, HG.out.cur, HG.out.grown⟩
  | true =>
    obtain ⟨tl, htl, HTL⟩ : ∃ tl, (if c3 = 1 then some (⟨g3, 0, none⟩ : Addr) else some ⟨g3, 3, none⟩) = some ⟨g3, tl, none⟩ ∧ Hid (1 < c3 → tl = 0 + 1 * 3) := by
      by_cases e : c3 = 1
      · exact ⟨0, by rw [if_pos e], fun h => by omega⟩
      · exact ⟨3, by rw [if_neg e], fun _ => rfl⟩
    have HP : Hid (Pair g w.heap.size w4 (.slice (some ⟨g3, tl, none⟩) (D.length - 1) (c3 - 1)) (.slice (some ⟨g2, 0, none⟩) l.length c2) (D.drop 1) l) :=
      ⟨by simp; omega, ⟨hl1, by omega⟩, fun v hv => HDS.out v (List.mem_of_mem_drop hv), HA.out.sizes, by rw [List.length_drop]; exact At.from3 rfl O34.at (by omega) HTL.out, O24.at, fun b hb => by simp [Value.ownBlock] at hb; omega, fun b hb => by simp [Value.ownBlock] at hb; omega, hgl, fun b hb => by simp [Value.ownBlock] at hb; have := G4.grown.size; omega⟩
    have HG := Lib.hid G4
    have hd1 : (D.length < 1) = False := by simp only [eq_iff_iff, iff_false]; omega
    have hd2 : (c3 < 1) = False := by simp only [eq_iff_iff, iff_false]; omega
    have hd3 : (1 ≤ D.length) := hdp
    unfold maxLen at hcm
    clear O24 O34 G4
    generalize D.length = dn at *
    go_wp2
    go_ret2
    exact ⟨_, _, D.drop 1, l, rfl, HP.out, HG.out.cur, HG.out.grown⟩

theorem drawPlaces (c : Code) (w : World) (h : c.In w) :
    Calls Tryz.prog 12 #[.slice c.a c.len c.cap] w fun e w' => ∃ (vd vl : Value) (d l : List V), e = .returned (.tuple #[vd, vl]) ∧ (∃ lo, Pair w.heap.size lo w' vd vl d l) ∧ Below w.heap.size w w' := by
  go_enter Tryz.func12, Tryz.ntmps12
  go_wp2_with fail
  refine (l1New c _ h).mono ?_
  rintro e w1 ⟨rfl, hc1, hb1⟩
  go_wp2_with fail
  refine (l7Pair c _ _ hc1).mono ?_
  rintro e w2 ⟨vd, vl, d, l, rfl, hp, hc2, hg2⟩
  have HP := Lib.hid hp
  have HB := Lib.hid (below_cur hb1 hg2)
  clear hp hc2 hg2
  go_wp2
  go_ret2
  exact ⟨_, _, d, l, rfl, ⟨_, HP.out⟩, HB.out⟩

/-- What DrawPicked draws. -/
def Picks (w : World) (vd vp : Value) (d : List V) (p : List Int) : Prop := d.length ≤ 16 ∧ p.length ≤ 17 ∧ (∀ v ∈ d, v.s.size ≤ maxLen) ∧ At 3 w vd d.length (vals d) ∧ At 1 w vp p.length (ints .i64 p)
theorem Picks.below {w w' : World} {vd vp : Value} {d : List V} {p : List Int} (h : Picks w vd vp d p) (hb : Below w.heap.size w w') : Picks w' vd vp d p := ⟨h.1, h.2.1, h.2.2.1, h.2.2.2.1.below hb, h.2.2.2.2.below hb⟩

set_option maxHeartbeats 1000000 in
theorem drawPicked (c : Code) (w : World) (h : c.In w) :
    Calls Tryz.prog 9 #[.slice c.a c.len c.cap] w fun e w' => ∃ (vd vp : Value) (d : List V) (p : List Int), e = .returned (.tuple #[vd, vp]) ∧ Picks w' vd vp d p ∧ Below w.heap.size w w' := by
  go_enter Tryz.func9, Tryz.ntmps9
  go_wp2_with fail
  refine (l1New c _ h).mono ?_
  rintro e w1 ⟨rfl, hc1, hb1⟩
  generalize hgg : w.heap.size = g at hc1 hb1 ⊢
  have HGG := Lib.hid hgg
  clear hgg
  go_wp2_with fail
  refine (l7Pair c _ _ hc1).mono ?_
  rintro e w2 ⟨vd, vl, d, l, rfl, hp, hc2, hg2⟩
  have G2 := (Going.start hc1).next hc2 hg2
  have HPL := Lib.hid (sPlaces vd vl d l w2 (by have := hp.ll; omega) hp.da.rd hp.la.rd)
  have HL16 := Lib.hid (Nat.le_trans (places_len d l) hp.ll.2)
  generalize placesL d l = r at HPL HL16
  obtain ⟨p, ok⟩ := r
  unfold Unpacked at HPL
  simp only at HPL HL16
  clear hc2 hg2
  go_wp2_with fail
  refine HPL.out.mono ?_
  rintro e w3 ⟨v3, rfl, o3, b3⟩
  have G3 := G2.below b3
  have P3 := hp.below b3
  have HDH := Lib.hid hp.dh
  have hgl2 : g < w2.heap.size := Nat.lt_of_lt_of_le hc1.lt G2.grown.size
  have z3 := b3.size
  clear HPL hp b3
  go_wp2_with fail
  refine (l1Once c g _ _ G3.cur).mono ?_
  rintro e w4 ⟨bo, rfl, hc4, hg4⟩
  have G4 := G3.next hc4 hg4
  have P4 := P3.draw hg4
  have O4 := (o3.draw hg4 hgl2).wide hg4.size
  have HB1 := Lib.hid hb1
  clear o3 P3 hc4 hg4 G3
  have hp16 := HL16.out
  cases bo with
  | false =>
    have HP : Hid (Picks w4 vd v3 d p) := ⟨P4.dl, by omega, P4.ds, P4.da, O4.at⟩
    have HB : Hid (Below w.heap.size w w4) := by
      have := below_cur (w := w) (by rw [HGG.out]; exact HB1.out) (by rw [HGG.out]; exact G4.grown)
      exact this
    clear O4 P4 G4
    go_wp2
    go_ret2
    exact ⟨_, _, d, p, rfl, HP.out, HB.out⟩
  | true =>
    obtain ⟨b', off', c', e', _, hcm, _, _⟩ := P4.da
    subst e'
    have hdl := P4.dl
    have HLI := Lib.hid (l1IntLit c g [-1, (d.length : Int), 0] 3 w4 rfl (by omega) (by omega) G4.cur _ rfl)
    simp only [ints, List.map_cons, List.map_nil] at HLI
    have HP4 := Lib.hid P4
    have HO4 := Lib.hid O4
    have HG4 := Lib.hid G4
    clear P4 O4 G4
    generalize hdn : d.length = dn at *
    have HDN := Lib.hid hdn
    clear hdn
    go_wp2_with fail
    refine HLI.out.mono ?_
    rintro e w5 ⟨x, rfl, hx, hc5, hg5⟩
    have G5 := HG4.out.next hc5 hg5
    have P5 := HP4.out.draw hg5
    have O5 := (HO4.out.draw hg5 hgl2).wide hg5.size
    clear hc5 hg5 HLI
    go_wp2_with (at_builtin; refine append1_law Tryz.elemInts rfl _ _ rfl _ _ _ _ _ (.int .i64 x) rfl rfl O5 rfl (by unfold maxLen; omega) (by omega) ?_)
    intro v6 w6 o6 e6
    have G6 := G5.ext O5 (by have := G2.grown.size; omega) e6
    have P6 : Hid (At 3 w6 (.slice (some ⟨b', off', none⟩) dn c') dn (vals d)) := by
      have h1 := P5.da
      rw [HDN.out] at h1
      refine h1.ext e6 (fun e => ?_)
      obtain ⟨gv, cv, rfl, hv1, _, _⟩ := O5
      have h2 := HDH.out gv e
      omega
    have HP : Hid (Picks w6 (.slice (some ⟨b', off', none⟩) dn c') v6 d (p ++ [x])) := by
      refine ⟨by rw [HDN.out]; omega, by simp; omega, P5.ds, by rw [HDN.out]; exact P6.out, ?_⟩
      have := o6.at
      rw [show ints .i64 p ++ [.int .i64 x] = ints .i64 (p ++ [x]) by simp [ints]] at this
      simpa using this
    have HB : Hid (Below w.heap.size w w6) := by
      have := below_cur (w := w) (by rw [HGG.out]; exact HB1.out) (by rw [HGG.out]; exact G6.grown)
      exact this
    clear o6 e6 O5 P5 G5 G6
    go_wp2
    go_ret2
    exact ⟨_, _, d, p ++ [x], rfl, HP.out, HB.out⟩

end Go.Proofs.YtoidpibdjijamaaGreat

/- The contract of DrawInDict. -/
namespace Go.Proofs.YtoidpibdjijamaaGreat
open Go.RowKit

set_option maxRecDepth 100000 in
set_option maxHeartbeats 400000 in
theorem drawInDict (c : Code) (w : World) (h : c.In w) :
    Calls Tryz.prog 8 #[.slice c.a c.len c.cap] w fun e w' => ∃ (vd : Value) (d : List V) (x : V), e = .returned (.tuple #[vd, x.agg]) ∧ d.length ≤ 16 ∧ At 3 w' vd d.length (vals d) ∧ Below w.heap.size w w' := by
  have H0 : Held _ _ _ := held_new w V.zero 30
  have b0 := below_alloc w (.cells #[.int .i64 V.zero.ty, .int .i64 V.zero.n, .string V.zero.s] 30)
  have hs0 : (w.alloc (.cells #[.int .i64 V.zero.ty, .int .i64 V.zero.n, .string V.zero.s] 30)).heap.size = w.heap.size + 1 := World.size_alloc _ _
  simp only [V.zero] at H0 b0 hs0
  generalize hw0 : w.alloc (.cells #[.int .i64 0, .int .i64 0, .string ⟨#[]⟩] 30) = W0 at H0 b0 hs0
  have HW0 := Lib.hid hw0
  have HS0 := Lib.hid hs0
  clear hw0 hs0
  go_enter Tryz.func8, Tryz.ntmps8
  go_wp2_with fail
  rw [HW0.out]
  refine (l1New c _ ⟨h.arg.below b0, h.byt, h.small⟩).mono ?_
  rintro e w1 ⟨rfl, hc1, hb1⟩
  have H1 := H0.below hb1
  generalize hgg : W0.heap.size = g at hc1 hb1 HS0 ⊢
  have HGG := Lib.hid hgg
  clear hgg H0
  go_wp2_with fail
  refine (l7Pair c _ _ hc1).mono ?_
  rintro e w2 ⟨vd, vl, d, l, rfl, hp, hc2, hg2⟩
  have G2 := (Going.start hc1).next hc2 hg2
  have H2 := H1.draw hg2 (by have := HS0.out; omega)
  obtain ⟨bl, ol, cl, rfl, _, hcm, _, _⟩ := id hp.la
  have hn1 := hp.ll
  have HP := Lib.hid hp
  generalize hln : l.length = n at hn1 ⊢
  have HLN := Lib.hid hln
  clear hln hc2 hg2 H1 hp
  unfold maxLen at hcm
  have HBW := Lib.hid hb1
  have HB0 := Lib.hid b0
  clear hb1 b0 h
  go_wp2
  have hla : At 3 w2 (.slice (some ⟨bl, ol, none⟩) n cl) n (vals l) := by
    have := HP.out.la
    rw [HLN.out] at this
    exact this
  have hdr := (Below.refl w2.heap.size w2).drew
  have G3 := G2.below hdr
  have H3 := H2.below hdr
  have P3 := HP.out.below hdr
  have hgs : g ≠ w.heap.size := by have := HS0.out; omega
  have HGS := Lib.hid hgs
  have HBL : Hid (w.heap.size + 1 < w1.heap.size + 1) := by
    have := HS0.out
    have := hc1.lt
    show _ < _
    omega
  clear hgs hdr G2 H2
  refine wp_region_held_drew (S := fun W => At 3 W (.slice (some ⟨bl, ol, none⟩) n cl) n (vals l)) (by kernel_rfl) hla (fun hH => ?_)
  refine takeH (i := 0) (d := some 14) (v := vd) rfl rfl (by kernel_rfl) (by kernel_rfl) (by kernel_rfl) (fun _ _ _ h => h) (Or.inl ⟨by rfl, fun W hSw => by go_simp⟩) hH ?_
  try simp only [put_some, List.set_cons_zero, List.set_cons_succ]
  refine takeH (i := 1) (d := some 15) (v := .slice (some ⟨bl, ol, none⟩) n cl) rfl rfl (by kernel_rfl) (by kernel_rfl) (by kernel_rfl) (fun _ _ _ h => h) (Or.inl ⟨by rfl, fun W hSw => by go_simp⟩) hH ?_
  try simp only [put_some, List.set_cons_zero, List.set_cons_succ]
  refine takeH (i := 2) (d := some 16) (v := .pointer (some ⟨g, 0, none⟩)) rfl rfl (by kernel_rfl) (by kernel_rfl) (by kernel_rfl) (fun _ _ _ h => h) (Or.inl ⟨by rfl, fun W hSw => by go_simp⟩) hH ?_
  try simp only [put_some, List.set_cons_zero, List.set_cons_succ]
  refine takeH (i := 3) (d := some 17) (v := .slice (some ⟨bl, ol, none⟩) n cl) rfl rfl (by kernel_rfl) (by kernel_rfl) (by kernel_rfl) (fun _ _ _ h => h) (Or.inl ⟨by rfl, fun W hSw => by go_simp⟩) hH ?_
  try simp only [put_some, List.set_cons_zero, List.set_cons_succ]
  refine takeH (i := 4) (d := some 18) (v := .int .i64 (n : Int)) rfl rfl (by kernel_rfl) (by kernel_rfl) (by kernel_rfl) (fun _ _ _ h => h) (Or.inl ⟨by rfl, fun W hSw => by go_simp⟩) hH ?_
  try simp only [put_some, List.set_cons_zero, List.set_cons_succ]
  refine wpAnyH_ready (rs := [5]) (by kernel_rfl) (by simp) ?_
  refine AllReadyH.cons rfl (fun K hK => ?_) AllReadyH.nil
  go_simp
  go_at_call 38
  refine (l1Below c g _ _ G3.cur).mono ?_
  rintro e w4 ⟨y, rfl, hy, hc4, hg4⟩
  have G4 := G3.next hc4 hg4
  have H4 := H3.draw hg4 (fun e => HGS.out e.symm)
  have P4 := P3.draw hg4
  obtain ⟨X, rfl⟩ := Int.eq_ofNat_of_zero_le hy.1
  have hXn : X < n := by omega
  have hla4 : At 3 w4 (.slice (some ⟨bl, ol, none⟩) n cl) n (vals l) := by
    have := P4.la
    rw [HLN.out] at this
    exact this
  have HCX : Hid (∀ W, At 3 W (.slice (some ⟨bl, ol, none⟩) n cl) n (vals l) → W.cell? ⟨bl, ol + X * 3, none⟩ = some (.int .i64 (l.getD X V.zero).ty) ∧ W.cell? ⟨bl, ol + X * 3 + 1, none⟩ = some (.int .i64 (l.getD X V.zero).n) ∧ W.cell? ⟨bl, ol + X * 3 + 2, none⟩ = some (.string (l.getD X V.zero).s)) := fun W hA => by
    obtain ⟨b', off', cp', e', _, _, _, hcs⟩ := hA
    simp only [Value.slice.injEq, Option.some.injEq, Addr.mk.injEq, and_true, true_and] at e'
    obtain ⟨⟨rfl, rfl⟩, rfl⟩ := e'
    have hX : X < l.length := by rw [HLN.out]; exact hXn
    rw [getDe l V.zero hX]
    exact cells3 hcs hX
  generalize l.getD X V.zero = x at HCX
  obtain ⟨xt, xn, xs⟩ := x
  simp only at HCX
  clear hc4 hg4 G3 H3 P3 hy
  go_wp2_with fail
  refine hK.out _ _ hla4 (fun hH => ?_)
  clear hK K
  refine takeH (i := 6) (d := some 20) (v := .pointer (some ⟨bl, ol + X * 3, none⟩)) rfl rfl (by kernel_rfl) (by kernel_rfl) (by kernel_rfl) (fun _ _ _ h => h) (Or.inl ⟨by rfl, fun W hSw => by go_simp⟩) hH ?_
  try simp only [put_some, List.set_cons_zero, List.set_cons_succ]
  refine takeH (i := 7) (d := some 21) (v := .agg #[.int .i64 xt, .int .i64 xn, .string xs]) rfl rfl (by kernel_rfl) (by kernel_rfl) (by kernel_rfl) (fun _ _ _ h => h) (Or.inl ⟨by rfl, fun W hSw => by obtain ⟨d0, d1, d2⟩ := HCX.out W hSw; go_simp⟩) hH ?_
  try simp only [put_some, List.set_cons_zero, List.set_cons_succ]
  refine takeH (i := 8) (d := some 2) (v := vd) rfl rfl (by kernel_rfl) (by kernel_rfl) (by kernel_rfl) (fun _ _ _ h => h) (Or.inl ⟨by rfl, fun W hSw => by go_simp⟩) hH ?_
  try simp only [put_some, List.set_cons_zero, List.set_cons_succ]
  refine wpAnyH_ready (rs := [9]) (by kernel_rfl) (by simp) ?_
  refine AllReadyH.cons rfl (fun K hK => ?_) AllReadyH.nil
  have H5 := held_set3 H4 ⟨xt, xn, xs⟩
  have hgr := grownBy_set3 w4 w.heap.size (.int .i64 xt) (.int .i64 xn) (.string xs)
  have hbl : w.heap.size < bl := by
    have h1 := P4.ln bl rfl
    have h2 := HS0.out
    have h3 := hc1.lt
    omega
  have hla5 := hla4.grown hgr (fun e => by simp [Value.ownBlock] at e; omega)
  have hda5 : At 3 _ vd d.length (vals d) := P4.da.grown hgr (fun e => by have h1 := P4.dn _ e; have h2 := HS0.out; have h3 := hc1.lt; omega)
  obtain ⟨⟨a0, a1, a2⟩, a3, a4, a5⟩ := H4
  simp only at a0 a1 a2
  have HDL := Lib.hid P4.dl
  have B4 : Below w.heap.size w w4 := by
    have h1 := HS0.out
    have h2 := HB0.out.trans (HBW.out.mono (by omega))
    exact h2.grown G4.grown h2.size (fun k hk => by simp at hk; omega)
  have B5 := Lib.hid (B4.grown hgr B4.size (fun k hk => by simp at hk; omega))
  have HDA := Lib.hid hda5
  clear P4 B4 hgr hda5 G4
  go_simp
  refine hK.out _ _ hla5 (fun hH => ?_)
  clear hK K
  refine wpAnyH_done (by kernel_rfl) ?_ _
  obtain ⟨⟨e0, e1, e2⟩, _⟩ := H5
  simp only at e0 e1 e2
  clear a0 a1 a2 a3 a4 a5 hla5
  generalize hw5 : ((w4.setCell ⟨w.heap.size, 0, none⟩ (.int .i64 xt)).setCell ⟨w.heap.size, 1, none⟩ (.int .i64 xn)).setCell ⟨w.heap.size, 2, none⟩ (.string xs) = w5 at *
  go_wp2
  exact bodyPost_ret (v := .tuple #[vd, .agg #[.int .i64 xt, .int .i64 xn, .string xs]]) (by simp [results, Tryz.results8, go_sem, *]) rfl ⟨vd, d, ⟨xt, xn, xs⟩, rfl, HDL.out, HDA.out, B5.out⟩

end Go.Proofs.YtoidpibdjijamaaGreat

/- Plain mathematics of chapter 5: a Val's bytes, read again; the types of a list. -/
namespace Go.Proofs.YtoidpibdjijamaaGreat
open Go.RowKit

theorem okV_num {v : V} (h : okV v = true) (ht : v.ty = 1) : Num.ok v.n := by
  unfold okV at h
  rw [if_pos ht] at h
  simp only [Bool.and_eq_true] at h
  exact Num.okB_true.1 h.1
theorem getV_int {zs : List Int} {i : Int} : getV zs i 1 = if (Num.get zs i).2.2 = true then (⟨1, (Num.get zs i).1, ⟨#[]⟩⟩, (Num.get zs i).2.1, true) else (V.zero, 0, false) := if_pos rfl
theorem str_sbytes (s : ByteArray) : strOfNums (sbytes s) = s := by
  unfold strOfNums sbytes
  apply ByteArray.ext
  apply Array.toList_inj.1
  simp only [List.map_map]
  have : ((fun n : Int => UInt8.ofNat n.toNat) ∘ fun b : UInt8 => (b.toNat : Int)) = id := by
    funext b
    simp
  rw [this]
  simp
/-- A value's bytes. -/
def valB (v : V) : List Int := if v.ty = 1 then Num.grp 4 (Num.zig v.n) else (v.s.size : Int) :: sbytes v.s
theorem putV_val {v : V} (h : okV v = true) (zs : List Int) : putV zs v = zs ++ valB v := by
  unfold putV valB
  rw [if_pos h]
  split
  · rename_i ht
    exact Num.put_ok (okV_num h ht)
  · rfl
theorem get_grp {b rest : List Int} {n : Int} (h : Num.ok n) : Num.get (b ++ (Num.grp 4 (Num.zig n) ++ rest)) b.length = (n, ((b ++ Num.grp 4 (Num.zig n)).length : Int), true) := by
  have := Num.get_put (b := b) (rest := rest) h
  rw [Num.put_ok h, List.append_assoc] at this
  exact this
theorem getV_val {v : V} (h : okV v = true) (b rest : List Int) : getV (b ++ (valB v ++ rest)) b.length v.ty = (v, ((b ++ valB v).length : Int), true) := by
  obtain ⟨t, n, s⟩ := v
  unfold valB
  by_cases ht : t = 1
  · subst ht
    have hn := okV_num h rfl
    have hs : s = ⟨#[]⟩ := by
      unfold okV at h
      simp only [if_true, Bool.and_eq_true, beq_iff_eq] at h
      apply ByteArray.ext
      apply Array.eq_empty_of_size_eq_zero
      exact h.2
    subst hs
    simp only [if_true]
    rw [getV_int, get_grp hn]
    simp
  · have hsz := okV_txt h ht
    have h' := h
    unfold okV at h
    simp only [if_neg ht, Bool.and_eq_true, beq_iff_eq] at h
    obtain ⟨rfl, rfl, htx⟩ := h
    simp only [if_neg ht]
    unfold getV
    rw [if_neg ht, if_pos ⟨rfl, Num.inB_true.2 ⟨by omega, by simp; omega⟩⟩]
    unfold getT
    have e0 : (b ++ ((s.size : Int) :: sbytes s ++ rest)).getD (b.length : Int).toNat 0 = (s.size : Int) := by
      rw [Int.toNat_natCast]
      simp [List.getD]
    have e1 : ((b ++ ((s.size : Int) :: sbytes s ++ rest)).drop ((b.length : Int).toNat + 1)).take ((s.size : Int)).toNat = sbytes s := by
      rw [Int.toNat_natCast, Int.toNat_natCast, List.drop_append, List.drop_of_length_le (by omega), List.nil_append, Nat.add_sub_cancel_left]
      simp only [List.cons_append, List.drop_succ_cons, List.drop_zero]
      rw [← sbytes_len s, List.take_left]
    simp only [e0, e1, str_sbytes]
    rw [if_pos ⟨by
      simp only [List.length_append, List.length_cons, sbytes_len, Int.toNat_natCast]
      omega, h'⟩]
    simp only [List.length_append, List.length_cons, sbytes_len, Int.toNat_natCast]
    congr 2
    omega
theorem typeV_parts {l : List V} (h : ¬ typeV l = 0) : 1 ≤ l.length ∧ l.length ≤ 64 ∧ ∀ v ∈ l, okV v = true ∧ v.ty = typeV l := by
  unfold typeV at h ⊢
  by_cases hc : Num.inB l.length 1 64 = true ∧ l.all (ofB (l.getD 0 V.zero).ty) = true
  · rw [if_pos hc]
    have h1 := Num.inB_true.1 hc.1
    refine ⟨by omega, by omega, fun v hv => ?_⟩
    have := List.all_eq_true.1 hc.2 v hv
    unfold ofB at this
    simp only [Bool.and_eq_true, beq_iff_eq] at this
    exact this
  · rw [if_neg hc] at h
    exact absurd rfl h
theorem typeV_of {l : List V} {ty : Int} (h1 : 1 ≤ l.length) (h2 : l.length ≤ 64) (h : ∀ v ∈ l, okV v = true ∧ v.ty = ty) : typeV l = ty := by
  have e0 : l.getD 0 V.zero ∈ l := by
    have hl : 0 < l.length := by omega
    have e : l.getD 0 V.zero = l[0] := by simp [hl]
    rw [e]
    exact List.getElem_mem hl
  unfold typeV
  rw [if_pos, (h _ e0).2]
  refine ⟨Num.inB_true.2 ⟨by omega, by omega⟩, List.all_eq_true.2 (fun v hv => ?_)⟩
  unfold ofB
  rw [(h _ e0).2, (h v hv).1, (h v hv).2]
  simp
theorem getV_ok {zs : List Int} (hb : Num.Bytes zs) {i ty : Int} (h : (getV zs i ty).2.2 = true) : okV (getV zs i ty).1 = true ∧ (getV zs i ty).1.ty = ty := by
  unfold getV at h ⊢
  split
  · rename_i ht
    subst ht
    rw [if_pos rfl] at h
    split
    · rename_i hg
      have hp : Num.get zs i = ((Num.get zs i).1, (Num.get zs i).2.1, true) := by rw [← hg]
      have := (Num.put_get hb hp).2.2.2.2.1
      refine ⟨?_, rfl⟩
      unfold okV
      simp only [if_true, Bool.and_eq_true]
      exact ⟨Num.okB_true.2 this, rfl⟩
    · rename_i hg
      rw [if_neg hg] at h
      cases h
  · rename_i ht
    rw [if_neg ht] at h
    split
    · rename_i hc
      rw [if_pos hc] at h
      unfold getT at h ⊢
      split
      · rename_i hd
        exact ⟨hd.2, hc.1.symm⟩
      · rename_i hd
        rw [if_neg hd] at h
        cases h
    · rename_i hc
      rw [if_neg hc] at h
      cases h

end Go.Proofs.YtoidpibdjijamaaGreat

/- Plain mathematics of chapter 7: decoding gives back what was encoded; what decodes is what its values encode to. -/
namespace Go.Proofs.YtoidpibdjijamaaGreat
open Go.RowKit

/-- The bytes of values. -/
def bodyV (d : List V) : List Int := d.flatMap valB
theorem putAll_body : ∀ (d : List V) (b : List Int), (∀ v ∈ d, okV v = true) → putAll b d = b ++ bodyV d
  | [], b, _ => by simp [putAll, bodyV]
  | v :: d, b, h => by
    have h1 := h v List.mem_cons_self
    have ih := putAll_body d (b ++ valB v) (fun x hx => h x (List.mem_cons_of_mem _ hx))
    unfold putAll at ih ⊢
    rw [List.foldl_cons, putV_val h1, ih]
    simp [bodyV]
theorem decL_body {ty : Int} : ∀ (d : List V) (b rest : List Int), (∀ v ∈ d, okV v = true ∧ v.ty = ty) → decL (b ++ (bodyV d ++ rest)) ty d.length b.length = some (d, ((b ++ bodyV d).length : Int))
  | [], b, rest, _ => by simp [decL, bodyV]
  | v :: d, b, rest, h => by
    have h1 := h v List.mem_cons_self
    have e1 : b ++ (bodyV (v :: d) ++ rest) = b ++ (valB v ++ (bodyV d ++ rest)) := by simp [bodyV]
    have e3 : b ++ (bodyV (v :: d) ++ rest) = (b ++ valB v) ++ (bodyV d ++ rest) := by simp [bodyV]
    have g : getV (b ++ (bodyV (v :: d) ++ rest)) b.length ty = (v, ((b ++ valB v).length : Int), true) := by
      rw [e1, ← h1.2]
      exact getV_val h1.1 _ _
    have ih := decL_body d (b ++ valB v) rest (fun x hx => h x (List.mem_cons_of_mem _ hx))
    rw [← e3] at ih
    rw [List.length_cons, decL, g]
    simp only [if_true]
    rw [ih]
    simp [bodyV]
theorem places_fit {D l : List V} (h : ∀ v ∈ l, v ∈ D) (h1 : 1 ≤ D.length) (h2 : D.length ≤ 64) : Bit.fitsB (l.map (inI D)) (Bit.widthI ((D.length : Int) - 1) : Nat) = true := by
  refine Bit.digs_fits (fun x hx => ?_) (Bit.widthI_le31 _)
  obtain ⟨v, hv, rfl⟩ := List.mem_map.1 hx
  obtain ⟨i, hi⟩ := inD_mem (h v hv)
  have hlt := (inD_some hi).1
  rw [inI_some hi]
  have hw := (Bit.widthI_in (x := (D.length : Int) - 1) (by omega) (by omega) (Bit.widthI ((D.length : Int) - 1))).1 (Nat.le_refl _)
  exact ⟨by omega, Bit.lt_of_toNat (by omega)⟩
theorem dec_encD {l : List V} (h : ¬ typeV l = 0) : decD (encD l) (typeV l) l.length = (l, true) := by
  obtain ⟨h1, h64, hall⟩ := typeV_parts h
  have hk : Num.inB (l.length : Int) 1 64 = true := Num.inB_true.2 ⟨by omega, by omega⟩
  have hD : ∀ v ∈ dictL l, okV v = true ∧ v.ty = typeV l := dict_all hall
  have hm : ∀ v ∈ l, v ∈ dictL l := fun v hv => mem_dict.2 hv
  have hl := dict_len l
  have hpos : 1 ≤ (dictL l).length := by
    have : l[0] ∈ dictL l := mem_dict.2 (List.getElem_mem _)
    have := List.length_pos_of_mem this
    omega
  have hfit := places_fit hm hpos (by omega)
  have hpm := places_mem hm
  have hpp := picked_places hm
  have hul := Bit.unpack_pack hfit (by simp; omega)
  rw [List.length_map] at hul
  have he : encD l = putAll (Num.put [] (dictL l).length) (dictL l) ++ Bit.pack (l.map (inI (dictL l))) (Bit.widthI ((dictL l).length - 1)) := by
    unfold encD
    rw [if_neg h, hpm]
  have hE := he
  generalize dictL l = D at *
  have hok : Num.ok (D.length : Int) := by unfold Num.ok; omega
  generalize hpk : Bit.pack (l.map (inI D)) (Bit.widthI ((D.length : Int) - 1) : Nat) = pk at *
  generalize hb0 : Num.grp 4 (Num.zig (D.length : Int)) = b0 at *
  have he2 : encD l = b0 ++ (bodyV D ++ pk) := by
    rw [he, putAll_body _ _ (fun v hv => (hD v hv).1), Num.put_ok hok, hb0]
    simp
  have hg : Num.get (encD l) 0 = ((D.length : Int), (b0.length : Int), true) := by
    have := get_grp (b := []) (rest := bodyV D ++ pk) hok
    rw [hb0] at this
    rw [he2]
    exact this
  have hd : decL (encD l) (typeV l) D.length b0.length = some (D, ((b0 ++ bodyV D).length : Int)) := by
    rw [he2]
    exact decL_body D b0 pk hD
  have hdrop : (encD l).drop (b0 ++ bodyV D).length = pk := by
    rw [he2, ← List.append_assoc]
    simp
  unfold decD
  rw [hg]
  simp only
  rw [if_pos ⟨trivial, hk, Num.inB_true.2 ⟨by omega, by omega⟩⟩, Int.toNat_natCast, hd]
  simp only
  unfold decT
  rw [Int.toNat_natCast, hdrop, hul]
  simp only
  rw [hpp]
  simp
theorem decL_ok {zs : List Int} (hb : Num.Bytes zs) {ty : Int} : ∀ {n : Nat} {i : Int} {r : List V × Int}, decL zs ty n i = some r → ∀ v ∈ r.1, okV v = true ∧ v.ty = ty := by
  intro n
  induction n with
  | zero =>
    intro i r h v hv
    simp only [decL, Option.some.injEq] at h
    subst h
    cases hv
  | succ n ih =>
    intro i r h v hv
    rw [decL] at h
    split at h
    · rename_i hg
      obtain ⟨q, hq, rfl⟩ := Option.map_eq_some_iff.1 h
      rcases List.mem_cons.1 hv with rfl | hv
      · exact getV_ok hb hg
      · exact ih hq v hv
    · cases h
theorem picked_true {d : List V} {p : List Int} (h : (pickedL d p).2 = true) : (pickedL d p).1.length = p.length := by
  unfold pickedL at h ⊢
  split
  · simp
  · rename_i hc
    rw [if_neg hc] at h
    cases h
theorem dec_okD {zs : List Int} (hb : Num.Bytes zs) {ty k : Int} (h : (decD zs ty k).2 = true) : encD (decD zs ty k).1 = zs ∧ ((decD zs ty k).1.length : Int) = k ∧ typeV (decD zs ty k).1 = ty := by
  unfold decD at h ⊢
  split
  · rename_i hc
    rw [if_pos hc] at h
    have hkk := Num.inB_true.1 hc.2.1
    split
    · rename_i r hr
      rw [hr] at h
      simp only at h ⊢
      unfold decT at h ⊢
      split
      · rename_i hq
        have hp := picked_true hq.2.1
        have hl : (((Bit.unpack (zs.drop r.2.toNat) (Bit.widthI ((r.1.length : Int) - 1)) k).1.length : Nat) : Int) = k :=
          (Bit.pack_unpack (fun x hx => hb x (List.mem_of_mem_drop hx)) (Prod.ext rfl hq.1)).2
        simp only
        refine ⟨hq.2.2, by rw [hp]; exact hl, typeV_of (by omega) (by omega) ?_⟩
        exact picked_all (decL_ok hb hr)
      · rename_i hq
        rw [if_neg hq] at h
        cases h
    · rename_i hr
      rw [hr] at h
      cases h
  · rename_i hc
    rw [if_neg hc] at h
    cases h
theorem asc_next {d : List V} (h : Asc d) {i : Nat} (hi : i + 1 < d.length) : lessV (d.getD i V.zero) (d.getD (i + 1) V.zero) = true := by
  rw [getDe d V.zero (by omega : i < d.length), getDe d V.zero hi]
  exact (List.pairwise_iff_getElem.1 h) i (i + 1) (by omega) hi (by omega)

end Go.Proofs.YtoidpibdjijamaaGreat

/- The exact laws of PutVal, GetVal, EncPlain and DecPlain, walked; the program's own contracts come as hypotheses. -/
namespace Go.Proofs.YtoidpibdjijamaaGreat
open Go.RowKit

def CGetVal : Prop := ∀ (u : Value) (n : Nat) (zs : List Int) (i ty : Int) (w : World), n ≤ 1048576 → zs.length = n → Num.Bytes zs → At 1 w u n (ints .u8 zs) → Calls Tryz.prog 57 #[u, .int .i64 i, .int .i64 ty] w fun e w' => e = .returned (rGet (getV zs i ty)) ∧ Below w.heap.size w w'
theorem encP_len (l : List V) : (encP l).length ≤ 7 * l.length := by
  unfold encP
  split
  · simp
  · exact encAll_len l
theorem decL_len {zs : List Int} {ty : Int} : ∀ {k : Nat} {i : Int} {r : List V × Int}, decL zs ty k i = some r → r.1.length = k := by
  intro k
  induction k with
  | zero =>
    intro i r h
    simp only [decL, Option.some.injEq] at h
    subst h
    rfl
  | succ k ih =>
    intro i r h
    rw [decL] at h
    split at h
    · obtain ⟨q, hq, rfl⟩ := Option.map_eq_some_iff.1 h
      simp [ih hq]
    · cases h
theorem decP_len (zs : List Int) (ty k : Int) : (decP zs ty k).1.length ≤ 64 := by
  unfold decP
  split
  · rename_i h
    have := Num.inB_true.1 h
    split
    · rename_i r hr
      have hl := decL_len hr
      split
      · simp only
        omega
      · simp
    · simp
  · simp

theorem Held.under {W W' : World} {b B : Nat} {v : V} (h : Held W b v) (hb : Below B W W') (hlt : b < B) : Held W' b v :=
  ⟨⟨(hb.cell (p := ⟨b, 0, none⟩) hlt).trans h.1.1, (hb.cell (p := ⟨b, 1, none⟩) hlt).trans h.1.2.1, (hb.cell (p := ⟨b, 2, none⟩) hlt).trans h.1.2.2⟩,
    (hb.frozen (p := ⟨b, 0, none⟩) hlt).trans h.2.1, (hb.frozen (p := ⟨b, 1, none⟩) hlt).trans h.2.2.1, (hb.frozen (p := ⟨b, 2, none⟩) hlt).trans h.2.2.2⟩

end Go.Proofs.YtoidpibdjijamaaGreat

/- Chapter 7's exact laws, walked; the program's own contracts come as hypotheses. -/
namespace Go.Proofs.YtoidpibdjijamaaGreat
open Go.RowKit

def CDict : Prop := ∀ (u : Value) (l : List V) (w : World), l.length ≤ 1048576 → (∀ v ∈ l, v.s.size ≤ maxLen) → Rd 3 w u l.length (vals l) → Calls Tryz.prog 43 #[u] w fun e w' => ∃ v', e = .returned v' ∧ Own 30 3 w.heap.size w'.heap.size w' v' (dictL l).length (vals (dictL l)) ∧ Below w.heap.size w w'
def CInDict : Prop := ∀ (u : Value) (d : List V) (x : V) (w : World), d.length ≤ 1048576 → Rd 3 w u d.length (vals d) → Calls Tryz.prog 16 #[u, x.agg] w fun e w' => e = .returned (.int .i64 (inI d x)) ∧ Below w.heap.size w w'
def CPlaces : Prop := ∀ (u v : Value) (d l : List V) (w : World), d.length ≤ 1048576 → l.length ≤ 1048576 → Rd 3 w u d.length (vals d) → Rd 3 w v l.length (vals l) → Calls Tryz.prog 13 #[u, v] w (Unpacked w (placesL d l))
def CPicked : Prop := ∀ (u v : Value) (d : List V) (l : List Int) (w : World), d.length ≤ 1048576 → l.length ≤ 1048576 → Rd 3 w u d.length (vals d) → Rd 1 w v l.length (ints .i64 l) → Calls Tryz.prog 10 #[u, v] w fun e w' => RDs w w' e (pickedL d l)
def CEncDict : Prop := ∀ (u : Value) (l : List V) (w : World), l.length ≤ 1048576 → (∀ v ∈ l, v.s.size ≤ maxLen) → Rd 3 w u l.length (vals l) → Calls Tryz.prog 20 #[u] w fun e w' => ∃ v', e = .returned v' ∧ Own 5 1 w.heap.size w'.heap.size w' v' (encD l).length (ints .u8 (encD l)) ∧ Below w.heap.size w w'
def CDecDict : Prop := ∀ (u : Value) (n : Nat) (zs : List Int) (ty k : Int) (w : World), n ≤ 1048576 → zs.length = n → Num.Bytes zs → At 1 w u n (ints .u8 zs) → Calls Tryz.prog 6 #[u, .int .i64 ty, .int .i64 k] w fun e w' => RDs w w' e (decD zs ty k)
theorem encD_len' (l : List V) : (encD l).length ≤ 1024 + l.length := by
  have := encD_len l
  omega

end Go.Proofs.YtoidpibdjijamaaGreat

/- The contracts of impl's appendVal, PutVal, EncPlain. -/
namespace Go.Proofs.YtoidpibdjijamaaGreat
open Go.RowKit Go.Lib

/-- append(b, s...), s a string, as one operation: which block it may have written. -/
theorem appendS_grown {P : Program} {t u e : TypeId} (T : ElemT P t e (.int .u8 0) 1 1) (hu : P.underlying u = some .string) {w : World} {o : Oper} {a : Act} {K : Act → World → Prop} {Q : Exit → Act → World → Prop} (b x : Operand)
    (ho : o.op = .call { callee := .builtin .append, args := #[b, x], argTypes := #[t, u] })
    (lo hi : Nat) (v : Value) (n : Nat) (xs : List Value) (s : ByteArray) (hs : a.eval b = v) (hown : Own e 1 lo hi w v n xs)
    (hx : a.eval x = .string s) (h63 : n + s.size ≤ maxLen) (hbytes : n + s.size ≤ 140737488355328)
    (h : ∀ v' w', Own e 1 lo w'.heap.size w' v' (n + s.size) (xs ++ ints .u8 (sbytes s)) → w.grownBy w' v.ownBlock → K (a.put o.dst v') w') : Oper.wp P o a w K Q := by
  obtain ⟨i, hi', hz, hsz, hb⟩ := T.info
  obtain ⟨v', w', hr, h2, h3, h4⟩ := run_append_own_string (P := P) w lo t u o.type e i T.ht hu hi' hz hsz hb v n xs hown.row s h63 hbytes hown.lo
  rw [strCells_eq] at h2
  unfold Oper.wp execOp
  simp only [ho, resolve, invoke, builtin, Sem.run_bind, Sem.run_pure, Result.andThen_ok, List.map_toArray, List.map_cons, List.map_nil, hs, hx, hr]
  exact h v' w' (hown.append h2 h4) h3

theorem Ext.then_grown {w w1 w2 : World} {v v1 : Value} (h : Ext w w1 v v1) (k : w1.grownBy w2 v1.ownBlock) : w.grownBy w2 v.ownBlock := by
  have hs := h.grown.size
  refine ⟨k.os.trans h.grown.os, k.tape.trans h.grown.tape, k.output.trans h.grown.output, Nat.le_trans hs k.size, fun i hi hne => ?_⟩
  refine (k.block i (by omega) (fun e => ?_)).trans (h.grown.block i hi hne)
  rcases h.blk with hb | ⟨g, hb, hg⟩
  · exact hne (e.trans hb)
  · rw [hb] at e
    cases e
    omega

set_option maxHeartbeats 1000000 in
theorem appendValG (v : Value) (lo hi n : Nat) (zs : List Int) (x : V) (w : World) (hn : n ≤ 1073741824) (hz : zs.length = n) (hok : okV x = true) (h : Own 5 1 lo hi w v n (ints .u8 zs)) :
    Calls Tryz.prog 45 #[v, x.agg] w fun e w' => ∃ v', e = .returned v' ∧ Own 5 1 lo w'.heap.size w' v' (putV zs x).length (ints .u8 (putV zs x)) ∧ Below lo w w' ∧ w.grownBy w' v.ownBlock := by
  have HZ := Lib.hid hz
  have HE : Hid (putV zs x = if x.ty = 1 then Num.put zs x.n else zs ++ ((x.s.size : Int) :: sbytes x.s)) := if_pos hok
  have HSZ : Hid (¬ x.ty = 1 → x.s.size ≤ 6) := fun h2 => okV_txt hok h2
  have HON : Hid (x.ty = 1 → Num.ok x.n) := fun h2 => okV_num hok h2
  clear hz hok
  obtain ⟨t, xn, s⟩ := x
  simp only at HE HSZ HON
  obtain ⟨g, cap, rfl, g1, g2, g3⟩ := h
  have hgl := (g3.lt g rfl).2
  have h : Own 5 1 lo w.heap.size w (.slice (some ⟨g, 0, none⟩) n cap) n (ints .u8 zs) := ⟨g, cap, rfl, g1, hgl, g3⟩
  clear g1 g2 g3
  have B0 := below_alloc_own h (.cells #[.int .i64 t, .int .i64 xn, .string s] 30)
  have O0 := h.alloc (.cells #[.int .i64 t, .int .i64 xn, .string s] 30)
  have c0 : (w.alloc (.cells #[.int .i64 t, .int .i64 xn, .string s] 30)).cell? ⟨w.heap.size, 0, none⟩ = some (.int .i64 t) := by simp
  have c1 : (w.alloc (.cells #[.int .i64 t, .int .i64 xn, .string s] 30)).cell? ⟨w.heap.size, 1, none⟩ = some (.int .i64 xn) := by simp
  have c2 : (w.alloc (.cells #[.int .i64 t, .int .i64 xn, .string s] 30)).cell? ⟨w.heap.size, 2, none⟩ = some (.string s) := by simp
  have hszb : (w.alloc (.cells #[.int .i64 t, .int .i64 xn, .string s] 30)).heap.size = w.heap.size + 1 := World.size_alloc _ _
  have EX := Ext.alloc (w := w) (.slice (some ⟨g, 0, none⟩) n cap) (.cells #[.int .i64 t, .int .i64 xn, .string s] 30)
  generalize hwb : w.alloc (.cells #[.int .i64 t, .int .i64 xn, .string s] 30) = wb at B0 O0 c0 c1 c2 hszb EX
  have HW := Lib.hid hwb
  have HSB := Lib.hid hszb
  have HEX := Lib.hid EX
  clear hwb hszb h EX
  by_cases ht : t = 1
  · subst ht
    rw [if_pos rfl] at HE
    have HP : Hid (Num.put zs xn = Num.puts zs [xn]) := by
      show _ = _
      rw [Num.puts_one, Num.put_ok (HON.out rfl)]
    have hl : At 1 (wb.alloc (.cells #[.int .i64 xn] 3)) (.slice (some ⟨wb.heap.size, 0, none⟩) 1 1) 1 (ints .i64 [xn]) := (own_lit wb #[.int .i64 xn] 1 (by unfold maxLen; omega) rfl).at
    have HA := Lib.hid (appendNums (.slice (some ⟨g, 0, none⟩) n cap) _ lo _ n 1 zs [xn] _ HZ.out rfl (by omega) (by omega) (O0.alloc (.cells #[.int .i64 xn] 3)) hl (fun _ => own_ne O0 (by rw [HSB.out]; omega)))
    clear hl
    go_enter Tryz.func45, Tryz.ntmps45
    go_wp2_with fail
    rw [HW.out]
    have hsb := HSB.out
    simp only [hsb] at HA
    refine HA.out.mono ?_
    rintro e w2 ⟨v2, rfl, o2, e2⟩
    have b2 := (B0.alloc O0.lo _).trans (e2.below (O0.alloc _))
    rw [← HP.out, ← HE.out] at o2
    have O2 := Lib.hid o2
    have G2 := Lib.hid ((HEX.out.trans (Ext.alloc _ _)).trans e2).grown
    clear o2 e2 hsb HA
    go_wp2
    go_ret
    exact ⟨_, rfl, O2.out, b2, G2.out⟩
  · have htb : (t == 1) = false := by simpa using ht
    rw [if_neg ht] at HE
    have hs6 := HSZ.out ht
    have hwr : IntKind.u8.wrap (s.size : Int) = s.size := by
      simp only [IntKind.wrap, IntKind.bits, IntKind.signed, Bool.false_and, Bool.false_eq_true, if_false]
      omega
    go_enter Tryz.func45, Tryz.ntmps45
    go_wp2_with fail
    rw [HW.out]
    refine wp_region_held_drew (S := fun W => W.cell? ⟨w.heap.size, 2, none⟩ = some (.string s)) (by kernel_rfl) c2 (fun hHeld => ?_)
    refine takeH (i := 0) (d := some 13) (v := .slice (some ⟨g, 0, none⟩) n cap) rfl rfl (by kernel_rfl) (by kernel_rfl) (by kernel_rfl) (fun _ _ _ h => h) (Or.inl ⟨by rfl, fun W hSw => by go_simp⟩) hHeld ?_
    simp only [put_some, List.set_cons_zero, List.set_cons_succ]
    refine takeH (i := 1) (d := some 14) (v := .pointer (some ⟨w.heap.size, 2, none⟩)) rfl rfl (by kernel_rfl) (by kernel_rfl) (by kernel_rfl) (fun _ _ _ h => h) (Or.inl ⟨by rfl, fun W hSw => by go_simp⟩) hHeld ?_
    simp only [put_some, List.set_cons_zero, List.set_cons_succ]
    refine takeH (i := 2) (d := some 15) (v := .string s) rfl rfl (by kernel_rfl) (by kernel_rfl) (by kernel_rfl) (fun _ _ _ h => h) (Or.inl ⟨by rfl, fun W hSw => by go_simp⟩) hHeld ?_
    simp only [put_some, List.set_cons_zero, List.set_cons_succ]
    refine takeH (i := 3) (d := some 16) (v := .int .i64 (s.size : Int)) rfl rfl (by kernel_rfl) (by kernel_rfl) (by kernel_rfl) (fun _ _ _ h => h) (Or.inl ⟨by rfl, fun W hSw => by go_simp⟩) hHeld ?_
    simp only [put_some, List.set_cons_zero, List.set_cons_succ]
    refine takeH (i := 4) (d := some 17) (v := .int .u8 (s.size : Int)) rfl rfl (by kernel_rfl) (by kernel_rfl) (by kernel_rfl) (fun _ _ _ h => h) (Or.inl ⟨by rfl, fun W hSw => by go_simp⟩) hHeld ?_
    simp only [put_some, List.set_cons_zero, List.set_cons_succ]
    refine takeH (i := 7) (d := some 20) (v := .pointer (some ⟨w.heap.size, 2, none⟩)) rfl rfl (by kernel_rfl) (by kernel_rfl) (by kernel_rfl) (fun _ _ _ h => h) (Or.inl ⟨by rfl, fun W hSw => by go_simp⟩) hHeld ?_
    simp only [put_some, List.set_cons_zero, List.set_cons_succ]
    refine takeH (i := 8) (d := some 21) (v := .string s) rfl rfl (by kernel_rfl) (by kernel_rfl) (by kernel_rfl) (fun _ _ _ h => h) (Or.inl ⟨by rfl, fun W hSw => by go_simp⟩) hHeld ?_
    simp only [put_some, List.set_cons_zero, List.set_cons_succ]
    refine wpAnyH_ready (rs := [5]) (by kernel_rfl) (by simp) ?_
    refine AllReadyH.cons rfl (fun K hK => ?_) AllReadyH.nil
    go_simp
    refine hK.out _ _ ((below_alloc wb.drew _).cell (p := ⟨w.heap.size, 2, none⟩) (lt_of_cell hHeld) |>.trans hHeld) (fun hHeld => ?_)
    clear hK K
    refine wpAnyH_ready (rs := [6]) (by kernel_rfl) (by simp) ?_
    refine AllReadyH.cons rfl (fun K hK => ?_) AllReadyH.nil
    refine append1_op Tryz.elemBytes (.tmp 13) (.tmp 18) rfl lo w.heap.size (.slice (some ⟨g, 0, none⟩) n cap) n (ints .u8 zs) (.int .u8 (s.size : Int)) rfl rfl O0.drew rfl (by unfold maxLen; omega) (by omega) ?_
    intro v4 w4 o4 e4
    have hne4 : v4.ownBlock ≠ some w.heap.size := fun hb => by
      rcases e4.blk with h1 | ⟨g', h1, h2⟩
      · rw [hb] at h1
        simp [Value.ownBlock] at h1
        omega
      · rw [hb] at h1
        obtain rfl : w.heap.size = g' := by simpa using h1
        rw [World.size_alloc] at h2
        have := HSB.out
        have h3 : wb.drew.heap.size = wb.heap.size := rfl
        omega
    replace hHeld := (World.cell?_of_block (a := ⟨w.heap.size, 2, none⟩) (e4.grown.block w.heap.size (lt_of_cell hHeld) (by simp [Value.ownBlock]; omega))).trans hHeld
    have B4 : Below lo wb.drew w4 := ((Below.refl lo wb.drew).alloc O0.drew.lo _).trans (e4.below (O0.drew.alloc _))
    refine hK.out _ _ hHeld (fun hHeld => ?_)
    have HE4 := Lib.hid e4
    clear hK K e4
    obtain ⟨g4, cap4, rfl⟩ : ∃ g cp, v4 = .slice (some ⟨g, 0, none⟩) (n + 1) cp := by
      obtain ⟨g, cp, e, _⟩ := o4
      exact ⟨g, cp, e⟩
    refine wpAnyH_ready (rs := [9]) (by kernel_rfl) (by simp) ?_
    refine AllReadyH.cons rfl (fun K hK => ?_) AllReadyH.nil
    refine appendS_grown Tryz.elemBytes Tryz.underlying9 (.tmp 19) (.tmp 21) rfl lo w4.heap.size (.slice (some ⟨g4, 0, none⟩) (n + 1) cap4) (n + 1) (ints .u8 zs ++ [.int .u8 (s.size : Int)]) s rfl o4 rfl (by unfold maxLen; omega) (by omega) ?_
    intro v5 w5 o5 b5
    obtain ⟨g5, cap5, rfl⟩ : ∃ g cp, v5 = .slice (some ⟨g, 0, none⟩) (n + 1 + s.size) cp := by
      obtain ⟨g, cp, e, _⟩ := o5
      exact ⟨g, cp, e⟩
    have HC5 : Hid (w5.cell? ⟨w.heap.size, 2, none⟩ = some (.string s)) := (World.cell?_of_block (a := ⟨w.heap.size, 2, none⟩) (b5.block w.heap.size (lt_of_cell hHeld) (fun e => hne4 e.symm))).trans hHeld
    have B5 := Lib.hid (B0.trans (((Below.refl lo wb).drew.trans B4).trans ((Below.refl lo w4).grown b5 o4.lo o4.block)))
    have G5 := Lib.hid (((HEX.out.trans (Ext.of_below _ (below_drewN wb wb.heap.size 1))).trans ((Ext.alloc _ _).trans HE4.out)).then_grown b5)
    have O5 : Hid (Own 5 1 lo w5.heap.size w5 (.slice (some ⟨g5, 0, none⟩) (n + 1 + s.size) cap5) (putV zs ⟨t, xn, s⟩).length (ints .u8 (putV zs ⟨t, xn, s⟩))) := by
      show Own _ _ _ _ _ _ _ _
      rw [HE.out]
      have e1 : (zs ++ ((s.size : Int) :: sbytes s)).length = n + 1 + s.size := by
        simp only [List.length_append, List.length_cons, sbytes_len, HZ.out]
        omega
      have e2 : ints .u8 (zs ++ ((s.size : Int) :: sbytes s)) = ints .u8 zs ++ [.int .u8 (s.size : Int)] ++ ints .u8 (sbytes s) := by simp [ints]
      rw [e1, e2]
      exact o5
    clear o5 b5 B4 o4 hHeld
    go_simp
    refine hK.out _ _ HC5.out (fun hHeld => ?_)
    clear hK K
    refine takeH (i := 10) (d := some 4) (v := .slice (some ⟨g5, 0, none⟩) (n + 1 + s.size) cap5) rfl rfl (by kernel_rfl) (by kernel_rfl) (by kernel_rfl) (fun _ _ _ h => h) (Or.inl ⟨by rfl, fun W hSw => by go_simp⟩) hHeld ?_
    simp only [put_some, List.set_cons_zero, List.set_cons_succ]
    refine wpAnyH_done (by kernel_rfl) ?_ _
    go_wp2
    go_ret
    exact ⟨_, rfl, O5.out, B5.out, G5.out⟩
theorem appendVal (v : Value) (lo hi n : Nat) (zs : List Int) (x : V) (w : World) (hn : n ≤ 1073741824) (hz : zs.length = n) (hok : okV x = true) (h : Own 5 1 lo hi w v n (ints .u8 zs)) :
    Calls Tryz.prog 45 #[v, x.agg] w fun e w' => ∃ v', e = .returned v' ∧ Own 5 1 lo w'.heap.size w' v' (putV zs x).length (ints .u8 (putV zs x)) ∧ Below lo w w' :=
  (appendValG v lo hi n zs x w hn hz hok h).mono fun _ _ ⟨v', h1, h2, h3, _⟩ => ⟨v', h1, h2, h3⟩

theorem typeV_ok {l : List V} (h : ¬ typeV l = 0) {k : Nat} (hk : k < l.length) : okV (l.getD k V.zero) = true := by
  unfold typeV at h
  split at h
  · rename_i h2
    have e : l.getD k V.zero = l[k] := by simp [hk]
    have := List.all_eq_true.1 h2.2 _ (List.getElem_mem hk)
    rw [e]
    unfold ofB at this
    simp only [Bool.and_eq_true] at this
    exact this.1
  · exact absurd rfl h

end Go.Proofs.YtoidpibdjijamaaGreat

/- The contracts of impl's cutBytes, getText, GetVal. -/
namespace Go.Proofs.YtoidpibdjijamaaGreat
open Go.RowKit

/-- cutBytes where nothing is cut. -/
theorem cutNot (a : Option Addr) (n cap k : Nat) (i q : Int) (hq : q = k) (w : World) (_ : n ≤ 1073741824) (hk : k ≤ 255) (h : ¬ (0 ≤ i ∧ i + k ≤ n)) :
    Calls Tryz.prog 94 #[.slice a n cap, .int .i64 i, .int .i64 q] w fun e w' => e = .returned (.tuple #[.slice none 0 0, .bool false]) ∧ w = w' := by
  subst hq
  by_cases h0 : i < 0
  · go_enter Tryz.func94, Tryz.ntmps94
    go_wp2
    go_ret2
    exact ⟨rfl, rfl⟩
  · obtain ⟨I, rfl⟩ := Int.eq_ofNat_of_zero_le (show 0 ≤ i by omega)
    by_cases h1 : n < I
    · go_enter Tryz.func94, Tryz.ntmps94
      go_wp2
      go_ret2
      exact ⟨rfl, rfl⟩
    · have h2 : (n : Int) - I < k := by omega
      clear h h0
      go_enter Tryz.func94, Tryz.ntmps94
      go_wp2
      go_ret2
      exact ⟨rfl, rfl⟩

/-- cutBytes where bytes are cut. -/
theorem cutOk (b off n cap k I : Nat) (i q : Int) (hi : i = I) (hq : q = k) (w : World) (_ : n ≤ 1073741824) (hk : k ≤ 255) (hnc : n ≤ cap) (hcm : cap ≤ maxLen) (h : I + k ≤ n) :
    Calls Tryz.prog 94 #[.slice (some ⟨b, off, none⟩) n cap, .int .i64 i, .int .i64 q] w fun e w' => ∃ o, e = .returned (.tuple #[.slice (some ⟨b, o, none⟩) k k, .bool true]) ∧ (0 < k → o = off + I) ∧ w = w' := by
  subst hi hq
  unfold maxLen at hcm
  have h1 : ¬ ((n : Int) - I < k) := by omega
  by_cases h0 : k = 0
  · subst h0
    go_enter Tryz.func94, Tryz.ntmps94
    go_wp2
    go_ret2
    exact ⟨⟨_, rfl⟩, rfl⟩
  · go_enter Tryz.func94, Tryz.ntmps94
    go_wp2
    go_ret2
    exact ⟨_, rfl, fun _ => rfl, rfl⟩

/-- getText. -/
def textAt (zs : List Int) (I : Nat) : ByteArray := strOfNums ((zs.drop (I + 1)).take (zs.getD I 0).toNat)
def getS (zs : List Int) (i : Int) : ByteArray × Int × Bool :=
  if (0 ≤ i ∧ i + 1 ≤ zs.length) ∧ i + 1 + zs.getD i.toNat 0 ≤ zs.length ∧ txtB (textAt zs i.toNat) = true then (textAt zs i.toNat, i + 1 + zs.getD i.toNat 0, true) else (⟨#[]⟩, 0, false)
theorem getV_text {zs : List Int} {i : Int} : getV zs i 2 = if (getS zs i).2.2 = true then (⟨2, 0, (getS zs i).1⟩, (getS zs i).2.1, true) else (V.zero, 0, false) := by
  unfold getV
  rw [if_neg (by decide)]
  have hok : ∀ s, okV ⟨2, 0, s⟩ = txtB s := fun s => by simp [okV]
  by_cases h1 : 0 ≤ i ∧ i + 1 ≤ zs.length
  · obtain ⟨I, rfl⟩ := Int.eq_ofNat_of_zero_le h1.1
    rw [if_pos ⟨rfl, Num.inB_true.2 ⟨h1.1, by omega⟩⟩]
    have e0 : getT zs I = if zs.getD I 0 ≤ (zs.length : Int) - I - 1 ∧ txtB (textAt zs I) = true then (⟨2, 0, textAt zs I⟩, (I : Int) + 1 + zs.getD I 0, true) else (V.zero, 0, false) := by
      rw [← hok]
      rfl
    have e1 : getS zs I = if (0 ≤ (I : Int) ∧ (I : Int) + 1 ≤ zs.length) ∧ (I : Int) + 1 + zs.getD I 0 ≤ zs.length ∧ txtB (textAt zs I) = true then (textAt zs I, (I : Int) + 1 + zs.getD I 0, true) else (⟨#[]⟩, 0, false) := rfl
    rw [e1, Int.toNat_natCast, e0]
    by_cases h2 : (I : Int) + 1 + zs.getD I 0 ≤ zs.length ∧ txtB (textAt zs I) = true
    · rw [if_pos (c := _ ∧ _) ⟨by omega, h2.2⟩, if_pos (c := (0 ≤ (I : Int) ∧ (I : Int) + 1 ≤ zs.length) ∧ _) ⟨h1, h2⟩]
      rfl
    · rw [if_neg (c := zs.getD I 0 ≤ (zs.length : Int) - I - 1 ∧ _) (fun h => h2 ⟨by omega, h.2⟩), if_neg (c := (0 ≤ (I : Int) ∧ (I : Int) + 1 ≤ zs.length) ∧ _) (fun h => h2 h.2)]
      rfl
  · have e1 : getS zs i = (⟨#[]⟩, 0, false) := if_neg (fun h => h1 h.1)
    rw [e1, if_neg (fun h => h1 (by have := Num.inB_true.1 h.2; omega))]
    rfl
theorem getV_none {zs : List Int} {i ty : Int} (h1 : ¬ ty = 1) (h2 : ¬ ty = 2) : getV zs i ty = (V.zero, 0, false) := by
  unfold getV
  rw [if_neg h1, if_neg (fun h => h2 h.1)]

set_option maxHeartbeats 1000000 in
theorem getText (v : Value) (n : Nat) (zs : List Int) (i : Int) (w : World) (hn : n ≤ 1048576) (hz : zs.length = n) (hby : Num.Bytes zs) (h : At 1 w v n (ints .u8 zs)) :
    Calls Tryz.prog 88 #[v, .int .i64 i] w fun e w' => e = .returned (.tuple #[.string (getS zs i).1, .int .i64 (getS zs i).2.1, .bool (getS zs i).2.2]) ∧ w = w' := by
  obtain ⟨b, off, cap, rfl, hnc, hcm, _, hc⟩ := h
  by_cases h1 : 0 ≤ i ∧ i + 1 ≤ n
  · obtain ⟨I, rfl⟩ := Int.eq_ofNat_of_zero_le h1.1
    have hI : I < n := by omega
    have hcI := At.cell (k := .u8) (n := n) hc hz hI
    have hbI := hby _ (getD_mem (by omega : I < zs.length))
    have HE : Hid (getS zs I = if (I : Int) + 1 + zs.getD I 0 ≤ n ∧ txtB (textAt zs I) = true then (textAt zs I, (I : Int) + 1 + zs.getD I 0, true) else (⟨#[]⟩, 0, false)) := by
      show _ = _
      unfold getS
      rw [hz, Int.toNat_natCast]
      congr 1
      simp [h1]
    have HCV : Hid (∀ (C : Nat), zs.getD I 0 = (C : Int) → I + 1 + C ≤ n → ∀ (o cp : Nat), (0 < C → o = off + (I + 1)) → (convert 22 9 (.slice (some ⟨b, o, none⟩) C cp)).run Tryz.prog w = .ok (.string (textAt zs I)) w) := fun C hC hle o cp ho => by
      have e0 : textAt zs I = strOfNums ((zs.drop (I + 1)).take C) := by
        unfold textAt
        rw [hC, Int.toNat_natCast]
      rw [e0]
      refine run_convert_bytes_arg w 22 5 Tryz.underlying22 Tryz.underlying5 b o C cp ((zs.drop (I + 1)).take C) (by simp; omega) (fun j hj => ?_) 9 Tryz.underlying9
      have hjn : I + 1 + j < n := by omega
      have := At.cell (k := .u8) (n := n) hc hz hjn
      have e : ((zs.drop (I + 1)).take C).getD j 0 = zs.getD (I + 1 + j) 0 := by
        simp [hj]
      rw [e, ← this, ho (by omega), show off + (I + 1) + j = off + (I + 1 + j) by omega]
    have HSS : Hid ((textAt zs I).size ≤ maxLen) := by
      show _ ≤ _
      unfold textAt
      rw [strOfNums_size]
      unfold maxLen
      simp
      omega
    generalize zs.getD I 0 = c at hcI hbI HE HCV
    obtain ⟨c0, c1⟩ := hbI
    obtain ⟨C, rfl⟩ := Int.eq_ofNat_of_zero_le c0
    have HT := Lib.hid (fun W => iTextOk (textAt zs I) W HSS.out)
    generalize textAt zs I = s at HE HCV HSS HT
    have H1 := Lib.hid (fun W => cutOk b off n cap 1 I I 1 rfl rfl W (by omega) (by omega) hnc hcm (by omega))
    have HZ := Lib.hid hz
    clear hz hby hc c0
    by_cases h2 : I + 1 + C ≤ n
    · have H2 := Lib.hid (fun W => cutOk b off n cap C (I + 1) ((I : Int) + 1) C (by omega) rfl W (by omega) (by omega) hnc hcm (by omega))
      have HCW := Lib.hid (HCV.out C rfl h2)
      clear HCV
      cases ht : txtB s with
      | true =>
        rw [if_pos ⟨by omega, ht⟩] at HE
        rw [ht] at HT
        rw [HE.out]
        clear ht
        go_enter Tryz.func88, Tryz.ntmps88
        go_wp2_with fail
        refine (H1.out _).mono ?_
        rintro e w1 ⟨o1, rfl, ho1, rfl⟩
        obtain rfl := ho1 (by omega)
        clear ho1
        go_wp2_with fail
        refine (H2.out _).mono ?_
        rintro e w2 ⟨o2, rfl, ho2, rfl⟩
        have hcv := HCW.out o2 C ho2
        clear ho2
        go_wp2_with (go_at_call 79; refine (HT.out _).mono ?_; rintro e w3 ⟨rfl, rfl⟩)
        go_ret3
        exact ⟨rfl, rfl⟩
      | false =>
        rw [if_neg (fun h => by rw [ht] at h; cases h.2)] at HE
        rw [ht] at HT
        rw [HE.out]
        clear ht
        go_enter Tryz.func88, Tryz.ntmps88
        go_wp2_with fail
        refine (H1.out _).mono ?_
        rintro e w1 ⟨o1, rfl, ho1, rfl⟩
        obtain rfl := ho1 (by omega)
        clear ho1
        go_wp2_with fail
        refine (H2.out _).mono ?_
        rintro e w2 ⟨o2, rfl, ho2, rfl⟩
        have hcv := HCW.out o2 C ho2
        clear ho2
        go_wp2_with (go_at_call 79; refine (HT.out _).mono ?_; rintro e w3 ⟨rfl, rfl⟩)
        go_ret3
        exact ⟨rfl, rfl⟩
    · have H2 := Lib.hid (fun W => cutNot (some ⟨b, off, none⟩) n cap C ((I : Int) + 1) C rfl W (by omega) (by omega) (by omega))
      rw [if_neg (fun h => by have := h.1; omega)] at HE
      rw [HE.out]
      clear HCV HT HSS
      go_enter Tryz.func88, Tryz.ntmps88
      go_wp2_with fail
      refine (H1.out _).mono ?_
      rintro e w1 ⟨o1, rfl, ho1, rfl⟩
      obtain rfl := ho1 (by omega)
      clear ho1
      go_wp2_with fail
      refine (H2.out _).mono ?_
      rintro e w2 ⟨rfl, rfl⟩
      go_wp2
      go_ret3
      exact ⟨rfl, rfl⟩
  · have HE : Hid (getS zs i = (⟨#[]⟩, 0, false)) := if_neg (fun h => h1 (by rw [← hz]; exact h.1))
    have H1 := Lib.hid (fun W => cutNot (some ⟨b, off, none⟩) n cap 1 i 1 rfl W (by omega) (by omega) h1)
    rw [HE.out]
    clear hz hby hc
    go_enter Tryz.func88, Tryz.ntmps88
    go_wp2_with (go_at_call 94; refine (H1.out _).mono ?_; rintro e w1 ⟨rfl, rfl⟩)
    go_ret3
    exact ⟨rfl, rfl⟩

end Go.Proofs.YtoidpibdjijamaaGreat

/- The contracts of impl's GetVal and DecPlain. -/
namespace Go.Proofs.YtoidpibdjijamaaGreat
open Go.RowKit

set_option maxHeartbeats 1000000 in
theorem iGetVal : CGetVal := by
  intro u n zs i ty w hn hz hby h
  have HG := Lib.hid (fun W hW => iGetNum u n zs i W (by omega) hz hby (h.below hW))
  have HT := Lib.hid (fun W hW => getText u n zs i W (by omega) hz hby (h.below hW))
  obtain ⟨b, off, cap, rfl, _, _, _, _⟩ := h
  have HZ := Lib.hid hz
  clear hz hby
  have Z0 := held_new w V.zero 30
  have bt := below_alloc w (.cells #[.int .i64 0, .int .i64 0, .string ⟨#[]⟩] 30)
  simp only [V.zero] at Z0
  obtain ⟨⟨p0, p1, p2⟩, p3, p4, p5⟩ := id Z0
  simp only at p0 p1 p2
  by_cases ht : ty = 1
  · subst ht
    have HE := Lib.hid (getV_int (zs := zs) (i := i))
    generalize Num.get zs i = r at HG HE
    obtain ⟨x, nx, ok⟩ := r
    unfold getRes at HG
    simp only at HG HE
    cases ok with
    | true =>
      rw [if_pos rfl] at HE
      rw [HE.out]
      go_enter Tryz.func57, Tryz.ntmps57
      go_wp2_with (first | (go_at_call 56; refine (HG.out _ bt).mono ?_; rintro e w' ⟨rfl, rfl⟩) | (go_at_call 76; refine (iIntVal _ _).mono ?_; rintro e w1 ⟨rfl, hb⟩; replace bt := below_then bt hb bt.size; obtain ⟨⟨q0, q1, q2⟩, q3, q4, q5⟩ := Z0.below hb; simp only at q0 q1 q2; clear p0 p1 p2 p3 p4 p5 hb Z0))
      exact bodyPost_ret (v := .tuple #[.agg #[.int .i64 1, .int .i64 x, .string ⟨#[]⟩], .int .i64 nx, .bool true]) (by simp [results, Tryz.results57, go_sem, *]) rfl ⟨rfl, ((bt.setCell (by simp) _).setCell (by simp) _).setCell (by simp) _⟩
    | false =>
      rw [if_neg (by simp)] at HE
      rw [HE.out]
      go_enter Tryz.func57, Tryz.ntmps57
      go_wp2_with (go_at_call 56; refine (HG.out _ bt).mono ?_; rintro e w' ⟨rfl, rfl⟩)
      exact bodyPost_ret (v := .tuple #[.agg #[.int .i64 0, .int .i64 0, .string ⟨#[]⟩], .int .i64 0, .bool false]) (by simp [results, Tryz.results57, go_sem, *]) rfl ⟨rfl, bt⟩
  by_cases h2 : ty = 2
  · subst h2
    have HE := Lib.hid (getV_text (zs := zs) (i := i))
    generalize getS zs i = r at HT HE
    obtain ⟨x, nx, ok⟩ := r
    simp only at HT HE
    cases ok with
    | true =>
      rw [if_pos rfl] at HE
      rw [HE.out]
      go_enter Tryz.func57, Tryz.ntmps57
      go_wp2_with (first | (go_at_call 88; refine (HT.out _ bt).mono ?_; rintro e w' ⟨rfl, rfl⟩) | (go_at_call 78; refine (iTextVal _ _).mono ?_; rintro e w1 ⟨rfl, hb⟩; replace bt := below_then bt hb bt.size; obtain ⟨⟨q0, q1, q2⟩, q3, q4, q5⟩ := Z0.below hb; simp only at q0 q1 q2; clear p0 p1 p2 p3 p4 p5 hb Z0))
      exact bodyPost_ret (v := .tuple #[.agg #[.int .i64 2, .int .i64 0, .string x], .int .i64 nx, .bool true]) (by simp [results, Tryz.results57, go_sem, *]) rfl ⟨rfl, ((bt.setCell (by simp) _).setCell (by simp) _).setCell (by simp) _⟩
    | false =>
      rw [if_neg (by simp)] at HE
      rw [HE.out]
      go_enter Tryz.func57, Tryz.ntmps57
      go_wp2_with (go_at_call 88; refine (HT.out _ bt).mono ?_; rintro e w' ⟨rfl, rfl⟩)
      exact bodyPost_ret (v := .tuple #[.agg #[.int .i64 0, .int .i64 0, .string ⟨#[]⟩], .int .i64 0, .bool false]) (by simp [results, Tryz.results57, go_sem, *]) rfl ⟨rfl, bt⟩
  · have HE := Lib.hid (getV_none (zs := zs) (i := i) ht h2)
    have h1b : (ty == 1) = false := by simpa using ht
    have h2b : (ty == 2) = false := by simpa using h2
    rw [HE.out]
    go_enter Tryz.func57, Tryz.ntmps57
    go_wp2
    exact bodyPost_ret (v := .tuple #[.agg #[.int .i64 0, .int .i64 0, .string ⟨#[]⟩], .int .i64 0, .bool false]) (by simp [results, Tryz.results57, go_sem, *]) rfl ⟨rfl, bt⟩

/-- A list that is filled from its start on. -/
def fillV (pre : List V) (K : Nat) : List V := pre ++ List.replicate (K - pre.length) V.zero
theorem fillV_len {pre : List V} {K : Nat} (h : pre.length ≤ K) : (fillV pre K).length = K := by
  simp [fillV]
  omega
theorem fillV_set {pre : List V} {K : Nat} (x : V) (h : pre.length < K) : (fillV pre K).set pre.length x = fillV (pre ++ [x]) K := by
  unfold fillV
  rw [List.set_append_right _ _ (Nat.le_refl _), Nat.sub_self, show K - pre.length = (K - (pre ++ [x]).length) + 1 by simp; omega, List.replicate_succ, List.set_cons_zero]
  simp
theorem fillV_all {pre : List V} {K : Nat} (h : pre.length = K) : fillV pre K = pre := by simp [fillV, h]

end Go.Proofs.YtoidpibdjijamaaGreat

/- The contracts of impl's InDict (with slices.Index) and Picked. -/
namespace Go.Proofs.YtoidpibdjijamaaGreat
open Go.RowKit

theorem eqB_comm (x y : V) : x.eqB y = y.eqB x := by
  cases h : y.eqB x with
  | true => exact eqB_true.2 (eqB_true.1 h).symm
  | false => exact eqB_false.2 (fun e => eqB_false.1 h e.symm)

set_option maxHeartbeats 1000000 in
theorem iIndex (u : Value) (d : List V) (x : V) (w : World) (h : Rd 3 w u d.length (vals d)) :
    Calls Tryz.prog 42 #[u, x.agg] w fun e w' => e = .returned (.int .i64 (inI d x)) ∧ Below w.heap.size w w' := by
  generalize hl : d.length = n at h
  obtain ⟨a, cap, rfl, hm, HC⟩ := h.vals hl
  unfold maxLen at hm
  have HL := Lib.hid hl
  have HE : Hid (∀ i, i < n → (d.getD i V.zero).eqB x = true → (∀ j, j < i → (d.getD j V.zero).eqB x = false) → inI d x = i) := fun i hi h1 h2 => inI_some (inD_first (by omega) h1 h2)
  have HN : Hid ((∀ j, j < n → (d.getD j V.zero).eqB x = false) → inI d x = -1) := fun h1 => inI_none (inD_none.2 (fun j hj => h1 j (by omega)))
  have hx0 := held_new w x 30
  have hb0 := below_alloc w (.cells #[.int .i64 x.ty, .int .i64 x.n, .string x.s] 30)
  generalize inI d x = r at HE HN
  obtain ⟨xt, xn, xs⟩ := x
  clear h hl
  go_enter Tryz.func42, Tryz.ntmps42
  go_wp2
  generalize hW : w.alloc (.cells #[.int .i64 xt, .int .i64 xn, .string xs] 30) = W at hx0 hb0 ⊢
  have HW := Lib.hid hW
  clear hW
  go_loopw [8] (fun i wr => ∃ k : Nat, k ≤ n ∧ i = .int .i64 k ∧ (∀ j, j < k → (d.getD j V.zero).eqB ⟨xt, xn, xs⟩ = false) ∧ Below W.heap.size W wr) (fun i _ => n - (intOf i).toNat)
  case atStart => exact ⟨0, Nat.zero_le _, rfl, fun j hj => by omega, Below.refl _ _⟩
  case round =>
    obtain ⟨k, hk, rfl, hno, hbr⟩ := hrel
    have HNO := Lib.hid hno
    clear hno
    by_cases hlt : k < n
    · obtain ⟨b, off, rfl, p0, p1, p2⟩ := HC.out k hlt
      have hbr2 := hb0.trans (hbr.mono hb0.size)
      replace p0 := (hbr2.cell (p := ⟨b, off + k * 3, none⟩) (lt_of_cell p0)).trans p0
      replace p1 := (hbr2.cell (p := ⟨b, off + k * 3 + 1, none⟩) (lt_of_cell p1)).trans p1
      replace p2 := (hbr2.cell (p := ⟨b, off + k * 3 + 2, none⟩) (lt_of_cell p2)).trans p2
      obtain ⟨⟨q0, q1, q2⟩, _⟩ := hx0.below hbr
      have HEK := Lib.hid (HE.out k hlt)
      have HNK : Hid ((d.getD k V.zero).eqB ⟨xt, xn, xs⟩ = false → ∀ j, j < k + 1 → (d.getD j V.zero).eqB ⟨xt, xn, xs⟩ = false) := fun h1 j hj => by
        by_cases e : j = k
        · subst e; exact h1
        · exact HNO.out j (by omega)
      have hq := fun W => run_eql_val ⟨xt, xn, xs⟩ (d.getD k V.zero) W
      rw [eqB_comm] at hq
      generalize d.getD k V.zero = y at p0 p1 p2 HEK HNK hq
      cases he : y.eqB ⟨xt, xn, xs⟩ with
      | true =>
        have HR := Lib.hid (HEK.out he HNO.out)
        rw [he] at hq
        obtain ⟨t1, n1, s1⟩ := y
        have HB := Lib.hid hbr2
        clear he HEK HNK hx0 hb0 hbr hbr2
        simp only at q0 q1 q2
        go_wp2
        go_quiet (fail)
        go_wp2
        go_ret
        exact ⟨ret_int HR.out.symm, HB.out.trans (below_drewN _ _ _)⟩
      | false =>
        have HS := Lib.hid (HNK.out he)
        rw [he] at hq
        obtain ⟨t1, n1, s1⟩ := y
        clear he HEK HNK hx0 hb0
        simp only at q0 q1 q2
        go_wp2
        go_quiet (fail)
        go_wp2
        go_roundw
        case rel => exact ⟨k + 1, by omega, by go_num, HS.out, hbr.trans (below_drewN _ _ _)⟩
        case measure => simp [intOf]; omega
    · obtain rfl : k = n := by omega
      have HR := Lib.hid (HN.out HNO.out)
      have hbr2 := hb0.trans (hbr.mono hb0.size)
      go_wp2
      go_ret
      exact ⟨ret_int HR.out.symm, hbr2⟩


theorem iInDict : CInDict := by
  intro u d x w hn h
  have hx0 := held_new w x 30
  have hb0 := below_alloc w (.cells #[.int .i64 x.ty, .int .i64 x.n, .string x.s] 30)
  have HI := Lib.hid (iIndex u d x _ (h.below hb0))
  generalize inI d x = r at HI
  obtain ⟨xt, xn, xs⟩ := x
  go_enter Tryz.func16, Tryz.ntmps16
  go_wp2_with fail
  refine HI.out.mono ?_
  rintro e w2 ⟨rfl, hb2⟩
  have B2 := below_then hb0 hb2 hb0.size
  go_wp2
  go_ret
  exact ⟨rfl, B2⟩

set_option maxHeartbeats 2000000 in
theorem iPicked : CPicked := by
  intro u v d l w hdn hn hd h
  generalize hdl : d.length = m at hd hdn
  obtain ⟨da, dcap, rfl, hdm, HDC⟩ := hd.vals hdl
  generalize hl : l.length = K at h hn
  obtain ⟨a, cap, rfl, hm, HC⟩ := h.ints hl
  unfold maxLen at hm hdm
  have HL := Lib.hid hl
  have HPB : Hid (∀ x : Int, 0 ≤ x → x < m → pickB d x = true) := fun x h0 h1 => decide_eq_true ⟨h0, by omega⟩
  have HPN : Hid (∀ x : Int, (x < 0 ∨ (m : Int) ≤ x) → pickB d x = false) := fun x h1 => decide_eq_false (fun h2 => by omega)
  have HNO : Hid (∀ k, k < K → pickB d (l.getD k 0) = false → pickedL d l = ([], false)) := fun k hk h1 => picked_no (by omega) h1
  have HYES : Hid ((∀ k, k < K → pickB d (l.getD k 0) = true) → pickedL d l = (l.map (fun x => d.getD x.toNat V.zero), true)) := fun h1 => picked_yes (fun k hk => h1 k (by omega))
  have HS : Hid (∀ k, k < K → pkK d l (k + 1) = pkK d l k ++ [d.getD (l.getD k 0).toNat V.zero]) := fun k hk => by
    unfold pkK
    exact map_snoc _ _ 0 _ (by omega)
  have HKL : Hid (∀ k, k ≤ K → (pkK d l k).length = k) := fun k hk => by simp [pkK]; omega
  have HPK0 : Hid (pkK d l 0 = []) := by show _ = _; simp [pkK]
  have HPKE : Hid (pkK d l K = l.map (fun x => d.getD x.toNat V.zero)) := by show _ = _; unfold pkK; rw [← hl, List.take_length]
  generalize pickedL d l = R at HNO HYES
  clear h hl hd hdl
  go_enter Tryz.func10, Tryz.ntmps10
  go_wp2_with (at_make; refine make_law Tryz.elemVals rfl _ _ rfl .i64 .i64 _ _ K rfl rfl rfl rfl (by omega) (by unfold maxLen; omega) ?_)
  intro w1 hown1 hb1
  have hown0 : Own 30 3 w.heap.size w1.heap.size w1 (.slice (some ⟨w.heap.size, 0, none⟩) K K) K (vals (fillV (pkK d l 0) K)) := by
    have e : vals (fillV (pkK d l 0) K) = (madeCells V.zero.cs.toArray (K * 3)).toList := by
      rw [made_flat V.cs V.zero 3 K (by omega) (fun _ => rfl), HPK0.out]
      simp [fillV, vals]
    rw [e]
    exact hown1
  clear hown1
  go_wp2
  go_loopw [14] (fun i wr => ∃ j : Nat, j ≤ K ∧ i = .int .i64 j ∧ (∀ i, i < j → pickB d (l.getD i 0) = true) ∧ wr.ownsRow w.heap.size 30 3 (.slice (some ⟨w.heap.size, 0, none⟩) K K) K (vals (fillV (pkK d l j) K)) ∧ Below w.heap.size w wr) (fun i _ => K - (intOf i).toNat)
  case atStart => exact ⟨0, Nat.zero_le _, rfl, fun i hi => by omega, hown0.row, hb1⟩
  case round =>
    obtain ⟨j, hj, rfl, hno, hown, hbr⟩ := hrel
    have HK := Lib.hid hno
    clear hown0 hb1 hno
    by_cases hlt : j < K
    · obtain ⟨b, off, rfl, p0⟩ := HC.out j hlt
      replace p0 := (hbr.cell (p := ⟨b, off + j, none⟩) (lt_of_cell p0)).trans p0
      have HSJ := Lib.hid (HS.out j hlt)
      have HKJ := Lib.hid (HKL.out j hj)
      have HSET := Lib.hid (fun x => fillV_set (pre := pkK d l j) (K := K) x (by rw [HKJ.out]; exact hlt))
      rw [HKJ.out] at HSET
      have HFL := Lib.hid (fillV_len (pre := pkK d l j) (K := K) (by rw [HKJ.out]; exact hj))
      have HNK := Lib.hid (HNO.out j hlt)
      have HKK : Hid (pickB d (l.getD j 0) = true → ∀ i, i < j + 1 → pickB d (l.getD i 0) = true) := fun h1 i hi => by
        by_cases e : i = j
        · subst e; exact h1
        · exact HK.out i (by omega)
      have HPZ := Lib.hid (HPB.out (l.getD j 0))
      have HPM := Lib.hid (HPN.out (l.getD j 0))
      generalize l.getD j 0 = z at p0 HSJ HNK HKK HPZ HPM
      by_cases hz : z < 0 ∨ (m : Int) ≤ z
      · have HR := Lib.hid (HNK.out (HPM.out hz))
        have OL := own_lit (e := 30) (size := 3) wr #[] 0 (Nat.zero_le _) rfl
        have BL := hbr.alloc hbr.size (.cells #[] 30)
        have hzz := hbr.size
        clear hown
        by_cases hz0 : z < 0
        · go_wp2
          go_ret2
          rw [HR.out]
          exact ⟨_, rfl, OL.lower hzz, BL⟩
        · have hz1 : (m : Int) ≤ z := by omega
          clear hz
          go_wp2
          go_ret2
          rw [HR.out]
          exact ⟨_, rfl, OL.lower hzz, BL⟩
      · have HK2 := Lib.hid (HKK.out (HPZ.out (by omega) (by omega)))
        obtain ⟨A, rfl⟩ := Int.eq_ofNat_of_zero_le (show 0 ≤ z by omega)
        have hAm : A < m := by omega
        obtain ⟨db, doff, rfl, d0, d1, d2⟩ := HDC.out A hAm
        replace d0 := (hbr.cell (p := ⟨db, doff + A * 3, none⟩) (lt_of_cell d0)).trans d0
        replace d1 := (hbr.cell (p := ⟨db, doff + A * 3 + 1, none⟩) (lt_of_cell d1)).trans d1
        replace d2 := (hbr.cell (p := ⟨db, doff + A * 3 + 2, none⟩) (lt_of_cell d2)).trans d2
        rw [Int.toNat_natCast] at HSJ
        generalize d.getD A V.zero = y at d0 d1 d2 HSJ
        obtain ⟨t1, n1, s1⟩ := y
        simp only at d0 d1 d2
        have R := Lib.hid (stored3 hown j ⟨t1, n1, s1⟩ (by rw [HFL.out]; exact hlt))
        rw [HSET.out, ← HSJ.out] at R
        obtain ⟨x0, s0⟩ := cellAt_some hown (j * 3) (by omega)
        obtain ⟨x1, s1'⟩ := cellAt_some hown (j * 3 + 1) (by omega)
        obtain ⟨x2, s2⟩ := cellAt_some hown (j * 3 + 2) (by omega)
        have f0 := hown.frozenAt (j * 3)
        have f1 := hown.frozenAt (j * 3 + 1)
        have f2 := hown.frozenAt (j * 3 + 2)
        have b3 := Lib.hid (((hbr.setCell (p := ⟨w.heap.size, j * 3, none⟩) (Nat.le_refl _) (.int .i64 t1)).setCell (p := ⟨w.heap.size, j * 3 + 1, none⟩) (Nat.le_refl _) (.int .i64 n1)).setCell (p := ⟨w.heap.size, j * 3 + 2, none⟩) (Nat.le_refl _) (.string s1))
        clear hown hbr hz
        go_wp2
        go_roundw
        case rel => exact ⟨j + 1, by omega, by go_num, HK2.out, R.out.1, b3.out⟩
        case measure => simp [intOf]; omega
    · obtain rfl : j = K := by omega
      have HR := Lib.hid (HYES.out HK.out)
      have OO := Lib.hid (own_of_row hown (Nat.le_refl _))
      have HKJ := Lib.hid (HKL.out j hj)
      clear hown
      go_wp2
      go_ret2
      rw [HR.out]
      refine ⟨_, rfl, ?_, hbr⟩
      have := OO.out
      rw [fillV_all HKJ.out, HPKE.out] at this
      show Own _ _ _ _ _ _ (l.map _).length _
      rw [List.length_map, HL.out]
      exact this

end Go.Proofs.YtoidpibdjijamaaGreat
