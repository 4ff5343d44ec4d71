/- Texts of this claim, one behind the other: Bent. -/
import Derived.Test.YthniakklkepomaaGreatP8
import Derived.Deep.RegionWith

/- The contract of l1Bent: bytes, mostly with one turned, cut, or with more behind. -/
namespace Go.Proofs.YthniakklkepomaaGreat
open Go.RowKit

theorem Own.take {e size lo hi w n xs} {g cap : Nat} (h : Own e size lo hi w (.slice (some ⟨g, 0, none⟩) n cap) n xs) {k : Nat} (hk : k ≤ n) : Own e size lo hi w (.slice (some ⟨g, 0, none⟩) k cap) k (xs.take (k * size)) := by
  obtain ⟨g', cap', he, h1, h2, h3, h4⟩ := h
  simp at he
  obtain ⟨rfl, rfl⟩ := he
  refine ⟨g, cap, rfl, h1, h2, ?_, ?_⟩
  · rw [List.length_take, h3]; exact Nat.min_eq_left (Nat.mul_le_mul_right _ hk)
  · rcases h4 with ⟨h', _⟩ | ⟨g', cap', cur, h', hbg, hg, hn, hm, hc, ht⟩
    · simp at h'
    · simp at h'
      obtain ⟨rfl, rfl⟩ := h'
      refine .inr ⟨g, cap, cur, rfl, hbg, hg, by omega, hm, hc, ?_⟩
      rw [← ht, List.take_take, Nat.min_eq_left (Nat.mul_le_mul_right _ hk)]
theorem Own.store {k : IntKind} {e lo hi w n zs} {g cap : Nat} (h : Own e 1 lo hi w (.slice (some ⟨g, 0, none⟩) n cap) n (ints k zs)) (j : Nat) (x : Int) :
    Own e 1 lo hi (w.setCell ⟨g, j, none⟩ (.int k x)) (.slice (some ⟨g, 0, none⟩) n cap) n (ints k (zs.set j x)) ∧ w.grownBy (w.setCell ⟨g, j, none⟩ (.int k x)) (some g) := by
  obtain ⟨g', cap', he, h1, h2, h3⟩ := h
  simp at he
  obtain ⟨rfl, rfl⟩ := he
  have hs := h3.stored j (.int k x)
  rw [show (ints k zs).set j (.int k x) = ints k (zs.set j x) by simp [ints, List.map_set]] at hs
  exact ⟨⟨g, cap, rfl, h1, h2, hs.1⟩, hs.2⟩
theorem Own.cellOf {k : IntKind} {e lo hi w n zs} {g cap : Nat} (h : Own e 1 lo hi w (.slice (some ⟨g, 0, none⟩) n cap) n (ints k zs)) (hz : zs.length = n) {j : Nat} (hj : j < n) : w.cell? ⟨g, j, none⟩ = some (.int k (zs.getD j 0)) := by
  have := h.row.cellAt j (by omega)
  rw [this]
  exact ints_get (by omega)
theorem bytes_set {zs : List Int} (h : Num.Bytes zs) (j : Nat) {x : Int} (h0 : 0 ≤ x) (h1 : x ≤ 255) : Num.Bytes (zs.set j x) := by
  intro y hy
  rcases List.mem_or_eq_of_mem_set hy with hy | rfl
  · exact h y hy
  · exact ⟨h0, h1⟩
theorem bytes_snoc {zs : List Int} (h : Num.Bytes zs) {x : Int} (h0 : 0 ≤ x) (h1 : x ≤ 255) : Num.Bytes (zs ++ [x]) := by
  intro y hy
  simp at hy
  rcases hy with hy | rfl
  · exact h y hy
  · exact ⟨h0, h1⟩

theorem draw_cell {w w4 : World} {g gv k : Nat} {u : Value} (g4 : w.grownBy w4 (some g)) (hne : gv ≠ g) (hc : w.cell? ⟨gv, k, none⟩ = some u) : w4.cell? ⟨gv, k, none⟩ = some u :=
  (World.cell?_of_block (w := w) (g4.block gv (lt_of_cell hc) (fun e => hne (by simpa using e)))).trans hc
theorem draw_frozen {w w4 : World} {g gv k : Nat} {u : Value} (g4 : w.grownBy w4 (some g)) (hne : gv ≠ g) (hc : w.cell? ⟨gv, k, none⟩ = some u) (hf : w.frozen? ⟨gv, k, none⟩ = false) : w4.frozen? ⟨gv, k, none⟩ = false :=
  (World.frozen?_of_block (w := w) (g4.block gv (lt_of_cell hc) (fun e => hne (by simpa using e)))).trans hf

theorem bent_store {c : Code} {g gv cv n k : Nat} {zs : List Int} {x : Int} {w w4 : World} (hz : zs.length = n) (hby : Num.Bytes zs) (hgv : gv ≠ g) (hal : ∀ a, c.a = some a → 0 < c.len → a.block < w.heap.size)
    (O4 : Own 5 1 w.heap.size w4.heap.size w4 (.slice (some ⟨gv, 0, none⟩) n cv) n (ints .u8 zs)) (C4 : Cur c g w4) (G4 : w.grownBy w4 (some g)) (h0 : 0 ≤ x) (h1 : x ≤ 255) :
    DrewBytes c g (n + 1) w (.returned (.slice (some ⟨gv, 0, none⟩) n cv)) (w4.setCell ⟨gv, k, none⟩ (.int .u8 x)) := by
  obtain ⟨O5, g5⟩ := O4.store k x
  have hb := O4.block gv rfl
  have C5 := C4.grown g5 (fun q hq => by simp at hq; subst hq; exact ⟨hgv, fun a ha hl => by have := hal a ha hl; omega⟩)
  have G5 : w.grownBy (w4.setCell ⟨gv, k, none⟩ (.int .u8 x)) (some g) := ⟨g5.os.trans G4.os, g5.tape.trans G4.tape, g5.output.trans G4.output, Nat.le_trans G4.size g5.size, fun q hq hne => (g5.block q (by have := G4.size; omega) (fun e => by simp at e; omega)).trans (G4.block q hq hne)⟩
  refine ⟨_, zs.set k x, rfl, bytes_set hby k h0 h1, by rw [List.length_set, hz]; omega, ?_, C5, G5⟩
  rw [List.length_set, hz]
  exact O5.wide (by simp [World.setCell])

set_option maxHeartbeats 2000000 in
theorem l1Bent (c : Code) (g : Nat) (v : Value) (n : Nat) (zs : List Int) (w : World) (hn : n ≤ 1000000) (hz : zs.length = n) (hby : Num.Bytes zs) (hv : At 1 w v n (ints .u8 zs)) (h : Cur c g w) :
    Calls Tryz.prog 50 #[.pointer (some ⟨g, 0, none⟩), v] w (DrewBytes c g (n + 1) w) := by
  have hlt := h.lt
  have hal := h.1.lt
  have HZ := Lib.hid hz
  clear hz
  obtain ⟨b, off, cap, rfl, h1, h2, h3, hc⟩ := hv
  have hown0 := own_lit (e := 5) (size := 1) w #[] 0 (Nat.zero_le _) rfl
  have hb0 := below_alloc w (.cells #[] 5)
  have hcur0 := h.alloc (.cells #[] 5)
  have hgr0 := grownBy_alloc w (.cells #[] 5) (some g)
  have HC : Hid (∀ j u, (ints .u8 zs)[j]? = some u → (w.alloc (.cells #[] 5)).cell? ⟨b, off + j, none⟩ = some u) := fun j u hu => (hb0.cell (p := ⟨b, off + j, none⟩) (lt_of_cell (hc j u hu))).trans (hc j u hu)
  have HLZ : Hid ((ints .u8 zs).length = n * 1) := h3
  clear hc h3
  go_enter Tryz.func50, Tryz.ntmps50
  go_wp2_with (at_builtin; refine append_law Tryz.elemBytes rfl _ _ rfl _ _ _ _ _ rfl hown0 b off n cap (ints .u8 zs) rfl HLZ.out HC.out (ints_one _ _) (by unfold maxLen; omega) (by omega) ?_)
  intro v1 w1 hown1 hext1
  have O1 : Own 5 1 w.heap.size w1.heap.size w1 v1 n (ints .u8 zs) := by simpa using hown1
  have C1 := hcur0.own hown0 hext1 hlt hal
  have G1 := ext_grown hgr0 hown0 (Nat.le_refl _) hext1
  clear hown1 hext1 hown0 hb0 hcur0 hgr0 HC HLZ h1 h2
  go_wp2_with fail
  refine (l1Below c g _ _ C1).mono ?_
  rintro e w2 ⟨x, rfl, hx, C2, g2⟩
  have hx7 : x < 7 := by omega
  have hx0 := hx.1
  clear hx
  have O2 := (O1.draw g2 hlt).wide g2.size
  have G2 := G1.trans g2
  clear O1 C1 G1 g2
  obtain ⟨gv, cv, rfl⟩ : ∃ g' cap', v1 = .slice (some ⟨g', 0, none⟩) n cap' := by
    obtain ⟨g', cap', rfl, _⟩ := O2
    exact ⟨g', cap', rfl⟩
  have hgv : gv ≠ g := by have := O2.block gv rfl; omega
  have hcv : n ≤ cv ∧ cv ≤ 9223372036854775807 := by
    obtain ⟨b', o', c', he, a1, a2, _⟩ := O2.at
    simp at he
    unfold maxLen at a2
    omega
  obtain ⟨hcv1, hcv2⟩ := hcv
  by_cases e0 : x = 0
  · subst e0
    by_cases hpos : 0 < n
    · go_wp2_with fail
      refine (l1Below c g _ _ C2).mono ?_
      rintro e w3 ⟨i, rfl, hi, C3, g3⟩
      have O3 := (O2.draw g3 hlt).wide g3.size
      have G3 := G2.trans g3
      clear O2 C2 G2 g3
      go_wp2_with fail
      refine (l1Below c g _ _ C3).mono ?_
      rintro e w4 ⟨y, rfl, hy, C4, g4⟩
      have O4 := (O3.draw g4 hlt).wide g4.size
      have G4 := G3.trans g4
      clear O3 C3 G3 g4
      obtain ⟨k, rfl⟩ := Int.eq_ofNat_of_zero_le hi.1
      have hk : k < n := by omega
      have hy0 := hy.1
      have hy1 : y < 256 := by omega
      clear hi hy
      have hcell := O4.cellOf HZ.out hk
      have hfr := O4.row.frozenAt k
      have R := Lib.hid (bent_store (k := k) HZ.out hby hgv hal O4 C4 G4 hy0 (by omega : y ≤ 255))
      clear O4 C4 G4
      generalize zs.getD k 0 = old at hcell
      go_wp2
      go_ret
      exact R.out
    · go_wp2
      go_ret
      refine ⟨_, zs, rfl, hby, by rw [HZ.out]; omega, ?_, C2, G2⟩
      rw [HZ.out]
      exact O2
  · have b0 : (x == 0) = false := by simp [e0]
    by_cases e1 : x = 1
    · subst e1
      clear e0 b0
      go_wp2_with fail
      refine (l1Below c g _ _ C2).mono ?_
      rintro e w3 ⟨i, rfl, hi, C3, g3⟩
      have O3 := (O2.draw g3 hlt).wide g3.size
      have G3 := G2.trans g3
      clear O2 C2 G2 g3
      obtain ⟨k, rfl⟩ := Int.eq_ofNat_of_zero_le hi.1
      have hk : k ≤ n := by omega
      clear hi
      have O4 := O3.take hk
      go_wp2
      go_ret
      refine ⟨_, zs.take k, rfl, fun y hy => hby y (List.mem_of_mem_take hy), by rw [List.length_take, HZ.out]; omega, ?_, C3, G3⟩
      rw [List.length_take, HZ.out, Nat.min_eq_left hk]
      have e : (ints .u8 zs).take (k * 1) = ints .u8 (zs.take k) := by simp [ints]
      rw [e] at O4
      exact O4
    · have b1 : (x == 1) = false := by simp [e1]
      by_cases e2 : x = 2
      · subst e2
        clear e0 e1 b0 b1
        go_wp2_with fail
        refine (l1IntLit c g [0, 1, 128, 255] 4 w2 rfl (by omega) (by omega) C2 _ rfl).mono ?_
        rintro e w3 ⟨y, rfl, hy, C3, g3⟩
        have O3 := (O2.draw g3 hlt).wide g3.size
        have G3 := G2.trans g3
        have hy0 : 0 ≤ y ∧ y ≤ 255 := by simp at hy; omega
        obtain ⟨hy0, hy1⟩ := hy0
        clear O2 C2 G2 g3 hy
        go_wp2_with (at_builtin; refine append1_law Tryz.elemBytes rfl _ _ rfl _ _ _ _ _ (.int .u8 y) rfl rfl O3 rfl (by unfold maxLen; omega) (by omega) ?_)
        intro v4 w4 O4 e4
        have C4 := C3.own O3 e4 hlt hal
        have G4 := ext_grown G3 O3 (Nat.le_refl _) e4
        have R := Lib.hid O4
        clear O3 C3 G3 e4 O4
        go_wp2
        go_ret
        have el : (zs ++ [y]).length = n + 1 := by rw [List.length_append, HZ.out]; rfl
        refine ⟨_, zs ++ [y], rfl, bytes_snoc hby hy0 hy1, by omega, ?_, C4, G4⟩
        rw [el, ints_append]
        exact R.out
      · have b2 : (x == 2) = false := by simp [e2]
        by_cases e3 : x = 3
        · subst e3
          clear e0 e1 e2 b0 b1 b2
          by_cases hpos : 0 < n
          · go_wp2_with fail
            refine (l1Below c g _ _ C2).mono ?_
            rintro e w3 ⟨i, rfl, hi, C3, g3⟩
            have O3 := (O2.draw g3 hlt).wide g3.size
            have G3 := G2.trans g3
            clear O2 C2 G2 g3
            obtain ⟨k, rfl⟩ := Int.eq_ofNat_of_zero_le hi.1
            have hk : k < n := by omega
            clear hi
            have hcell := O3.cellOf HZ.out hk
            have hfr := O3.row.frozenAt k
            have hkn : (k : Int) < (n : Int) := by omega
            have hbd : Below w3.heap.size w3 w3.drew := (Below.refl _ _).drew
            have C3d : Cur c g w3.drew := C3.below hbd
            generalize zs.getD k 0 = old at hcell
            go_wp2_with fail
            go_region_with (go_at_call 37; refine (l1Below c g _ _ C3d).mono ?_; rintro e w4 ⟨y, rfl, hy, C4, g4⟩; have hy0 := hy.1; have hy8 : y < 8 := (by omega); have hc4 := draw_cell g4 hgv hcell; have hf4 := draw_frozen g4 hgv hcell hfr)
            all_goals
              have O4 := ((O3.drew).draw g4 hlt).wide g4.size
              have G4 := (G3.trans (grownBy_below hbd (some g))).trans g4
              clear O3 G3 C3 C3d
              go_wp2
              go_ret
              exact bent_store HZ.out hby hgv hal O4 C4 G4 (bounds_u8 (wf_bits _ _ _ _)).1 (bounds_u8 (wf_bits _ _ _ _)).2
          · go_wp2
            go_ret
            refine ⟨_, zs, rfl, hby, by rw [HZ.out]; omega, ?_, C2, G2⟩
            rw [HZ.out]
            exact O2
        · have b3 : (x == 3) = false := by simp [e3]
          clear e0 e1 e2 e3
          go_wp2
          go_ret
          refine ⟨_, zs, rfl, hby, by rw [HZ.out]; omega, ?_, C2, G2⟩
          rw [HZ.out]
          exact O2

end Go.Proofs.YthniakklkepomaaGreat
