/- Texts of this claim, one behind the other: DrawV, DrawV2, Draw5A. -/
import Derived.Test.YthniakklkepomaaGreatP8
import Derived.Test.YthniakklkepomaaGreatP14
import Derived.Test.YthniakklkepomaaGreatP5

/- The contracts of the model's functions that draw values: l3Int, l3Text, l3Draw, l3Any, l3List. -/
namespace Go.Proofs.YthniakklkepomaaGreat
open Go.RowKit

set_option maxHeartbeats 400000 in
theorem l1StrV (c : Code) (g : Nat) (v : Value) (m : Nat) (ss : List ByteArray) (w : World) (hm : ss.length = m) (h0 : 0 < m) (hv : At 1 w v m (strs ss)) (hne : v.ownBlock ≠ some g) (h : Cur c g w) :
    Calls Tryz.prog 97 #[.pointer (some ⟨g, 0, none⟩), v] w fun e w' => ∃ l ∈ ss, e = .returned (.string l) ∧ Cur c g w' ∧ w.grownBy w' (some g) := by
  obtain ⟨b, off, cap, rfl, h1, h2, h3, hc⟩ := hv
  unfold maxLen at h2
  go_enter Tryz.func97, Tryz.ntmps97
  go_wp2_with fail
  refine (l1Below c g _ _ h).mono ?_
  rintro e w1 ⟨x, rfl, hx, hc1, hg1⟩
  obtain ⟨k, rfl⟩ := Int.eq_ofNat_of_zero_le hx.1
  have hk : k < m := by omega
  have hbg : b ≠ g := by simpa [Value.ownBlock] using hne
  have hcx := hc k _ (strs_get (by omega))
  have hcx1 : w1.cell? ⟨b, off + k, none⟩ = some (.string (ss.getD k ⟨#[]⟩)) := (World.cell?_of_block (w := w) (hg1.block b (lt_of_cell hcx) (fun e => hbg (by simpa using e)))).trans hcx
  have hmem : Hid (ss.getD k ⟨#[]⟩ ∈ ss) := by
    show _ ∈ _
    have hk' : k < ss.length := by omega
    have e : ss.getD k ⟨#[]⟩ = ss[k] := by simp [hk']
    rw [e]
    exact List.getElem_mem hk'
  generalize ss.getD k ⟨#[]⟩ = z at hcx1 hmem
  clear hcx hc hx h3
  go_wp2
  go_ret
  exact ⟨_, hmem.out, rfl, hc1, hg1⟩
theorem strVlit_at (w : World) (ss : List ByteArray) (n : Nat) (hn : ss.length = n) (hm : n ≤ 1000) : At 1 (w.alloc (.cells (strs ss).toArray 9)) (.slice (some ⟨w.heap.size, 0, none⟩) n n) n (strs ss) := by
  have := own_lit (e := 9) (size := 1) w (strs ss).toArray n (by unfold maxLen; omega) (by simp [strs, hn])
  simpa using this.at
theorem l1StrVLit (c : Code) (g : Nat) (ss : List ByteArray) (n : Nat) (w : World) (hn : ss.length = n) (h0 : 0 < n) (hm : n ≤ 1000) (h : Cur c g w) (arr : Array Value) (ha : arr = (strs ss).toArray) :
    Calls Tryz.prog 97 #[.pointer (some ⟨g, 0, none⟩), .slice (some ⟨w.heap.size, 0, none⟩) n n] (w.alloc (.cells arr 9)) fun e w' => ∃ l ∈ ss, e = .returned (.string l) ∧ Cur c g w' ∧ w.grownBy w' (some g) := by
  subst ha
  refine (l1StrV c g _ n ss _ hn h0 (strVlit_at w ss n hn hm) ?_ (h.alloc _)).mono ?_
  · have := h.lt
    simp [Value.ownBlock]
    omega
  · rintro e w1 ⟨x, hx, rfl, hc1, hg1⟩
    exact ⟨x, hx, rfl, hc1, (grownBy_alloc w _ _).trans hg1⟩

theorem l1StrVLitAt (c : Code) (g N : Nat) (ss : List ByteArray) (n : Nat) (w : World) (hN : w.heap.size = N) (hn : ss.length = n) (h0 : 0 < n) (hm : n ≤ 1000) (h : Cur c g w) (arr : Array Value) (ha : arr = (strs ss).toArray) :
    Calls Tryz.prog 97 #[.pointer (some ⟨g, 0, none⟩), .slice (some ⟨N, 0, none⟩) n n] (w.alloc (.cells arr 9)) fun e w' => ∃ l ∈ ss, e = .returned (.string l) ∧ Cur c g w' ∧ w.grownBy w' (some g) := by
  subst hN
  exact l1StrVLit c g ss n w hn h0 hm h arr ha

theorem wrap64_in {x : Int} (h0 : -9223372036854775808 ≤ x) (h1 : x ≤ 9223372036854775807) : wrap64 x = x := by
  unfold wrap64
  omega
theorem prod_ok {y z : Int} (hy : 0 ≤ y) (hy2 : y < 30000) (hz : 0 ≤ z) (hz2 : z < 30000) : Num.ok (y * (z - 15000)) := by
  have h1 : y * (z - 15000) ≤ 30000 * 15000 := by
    by_cases hc : 0 ≤ z - 15000
    · exact Int.mul_le_mul (by omega) (by omega) hc (by omega)
    · have := Int.mul_nonpos_of_nonneg_of_nonpos hy (show z - 15000 ≤ 0 by omega)
      omega
  have h2 : -(30000 * 15000) ≤ y * (z - 15000) := by
    have h3 : y * (15000 - z) ≤ 30000 * 15000 := by
      by_cases hc : 0 ≤ 15000 - z
      · exact Int.mul_le_mul (by omega) (by omega) hc (by omega)
      · have := Int.mul_nonpos_of_nonneg_of_nonpos hy (show 15000 - z ≤ 0 by omega)
        omega
    have h4 : y * (z - 15000) = -(y * (15000 - z)) := by
      rw [← Int.mul_neg]
      congr 1
      omega
    omega
  unfold Num.ok
  omega

set_option maxHeartbeats 1000000 in
theorem l1NumOk (c : Code) (g : Nat) (w : World) (h : Cur c g w) :
    Calls Tryz.prog 120 #[.pointer (some ⟨g, 0, none⟩)] w (DrewInt c g w Num.ok) := by
  go_enter Tryz.func120, Tryz.ntmps120
  go_wp2_with fail
  refine (l1Below c g _ _ h).mono ?_
  rintro e w1 ⟨x, rfl, hx, hc1, hg1⟩
  have hx5 : x < 5 := by omega
  obtain ⟨hx0, _⟩ := hx
  by_cases e0 : x = 0
  · subst e0
    go_wp2_with fail
    refine (l1Below c g _ _ hc1).mono ?_
    rintro e w2 ⟨y, rfl, hy, hc2, hg2⟩
    go_wp2
    go_ret
    exact ⟨_, rfl, by unfold Num.ok; omega, hc2, hg1.trans hg2⟩
  · have b0 : (x == 0) = false := by simp [e0]
    by_cases e1 : x = 1
    · subst e1
      go_wp2_with fail
      refine (l1IntLit c g [0, -1, 1, 63, 64, -64, -65, 8191, 8192, 1000000000, -1000000000, 999999999] 12 w1 rfl (by omega) (by omega) hc1 _ rfl).mono ?_
      rintro e w2 ⟨y, rfl, hy, hc2, hg2⟩
      have H : Hid (Num.ok y) := ⟨(by decide +kernel : ∀ x ∈ ([0, -1, 1, 63, 64, -64, -65, 8191, 8192, 1000000000, -1000000000, 999999999] : List Int), -1000000000 ≤ x) y hy, (by decide +kernel : ∀ x ∈ ([0, -1, 1, 63, 64, -64, -65, 8191, 8192, 1000000000, -1000000000, 999999999] : List Int), x ≤ 1000000000) y hy⟩
      clear hy
      go_wp2
      go_ret
      exact ⟨_, rfl, H.out, hc2, hg1.trans hg2⟩
    · have b1 : (x == 1) = false := by simp [e1]
      by_cases e2 : x = 2
      · subst e2
        go_wp2_with fail
        refine (l1Below c g _ _ hc1).mono ?_
        rintro e w2 ⟨y, rfl, hy, hc2, hg2⟩
        go_wp2_with fail
        refine (l1Below c g _ _ hc2).mono ?_
        rintro e w3 ⟨z, rfl, hz, hc3, hg3⟩
        have hok := prod_ok hy.1 (by omega) hz.1 (by omega)
        have H : Hid (∀ q, q = y * (z - 15000) → Num.ok (wrap64 q)) := fun q hq => by
          subst hq
          have h1 := hok
          unfold Num.ok at h1
          rw [wrap64_in (by omega) (by omega)]
          exact hok
        clear hok
        go_wp2
        go_ret
        exact ⟨_, rfl, H.out _ rfl, hc3, (hg1.trans hg2).trans hg3⟩
      · have b2 : (x == 2) = false := by simp [e2]
        clear e0 e1 e2
        go_wp2_with fail
        refine (l1Below c g _ _ hc1).mono ?_
        rintro e w2 ⟨y, rfl, hy, hc2, hg2⟩
        go_wp2
        go_ret
        exact ⟨_, rfl, by unfold Num.ok; omega, hc2, hg1.trans hg2⟩

/-- A value with P is returned; the cursor goes on; nothing else of old memory has turned. -/
def DrewVal (c : Code) (g : Nat) (w : World) (P : V → Prop) (e : Ending) (w' : World) : Prop :=
  ∃ x : V, e = .returned x.agg ∧ P x ∧ Cur c g w' ∧ w.grownBy w' (some g)

/-- Right, and of this type. -/
def OfTy (ty : Int) (v : V) : Prop := okV v = true ∧ v.ty = ty
theorem ofTy_int {n : Int} (h : Num.ok n) : OfTy 1 ⟨1, n, ⟨#[]⟩⟩ := by
  refine ⟨?_, rfl⟩
  unfold okV
  simp only [if_true, Bool.and_eq_true]
  exact ⟨Num.okB_true.2 h, rfl⟩

theorem Held.draw {W W' : World} {b g : Nat} {v : V} (h : Held W b v) (hg : W.grownBy W' (some g)) (hne : b ≠ g) : Held W' b v := by
  have hb := hg.block b (lt_of_cell h.1.1) (fun e => hne (by simpa using e))
  have hc : ∀ j, W'.cell? ⟨b, j, none⟩ = W.cell? ⟨b, j, none⟩ := fun j => World.cell?_of_block hb
  have hf : ∀ j, W'.frozen? ⟨b, j, none⟩ = W.frozen? ⟨b, j, none⟩ := fun j => World.frozen?_of_block hb
  exact ⟨⟨(hc 0).trans h.1.1, (hc 1).trans h.1.2.1, (hc 2).trans h.1.2.2⟩, (hf 0).trans h.2.1, (hf 1).trans h.2.2.1, (hf 2).trans h.2.2.2⟩
/-- The cursor, while a draw goes on that began in w. -/
structure Going (c : Code) (g : Nat) (w w' : World) : Prop where
  cur : Cur c g w'
  grown : w.grownBy w' (some g)
  lt : g < w.heap.size
  code : ∀ x, c.a = some x → 0 < c.len → x.block < w.heap.size
theorem Going.start {c : Code} {g : Nat} {w : World} (h : Cur c g w) : Going c g w w := ⟨h, grownBy_refl _ _, h.lt, h.1.lt⟩
theorem Going.next {c : Code} {g : Nat} {w w1 w2 : World} (h : Going c g w w1) (hc : Cur c g w2) (hg : w1.grownBy w2 (some g)) : Going c g w w2 := ⟨hc, h.grown.trans hg, h.lt, h.code⟩
theorem Going.alloc {c : Code} {g : Nat} {w w1 : World} (h : Going c g w w1) (o : Obj) : Going c g w (w1.alloc o) := h.next (h.cur.alloc o) (grownBy_alloc w1 o _)
theorem Going.below {c : Code} {g : Nat} {w w1 w2 : World} (h : Going c g w w1) (hb : Below w1.heap.size w1 w2) : Going c g w w2 := h.next (h.cur.below hb) (grownBy_below hb _)
/-- A block of the draw's own is written. -/
theorem Going.own {c : Code} {g b : Nat} {w w1 w2 : World} (h : Going c g w w1) (hb : w.heap.size ≤ b) (hg : w1.grownBy w2 (some b)) : Going c g w w2 := by
  have hl := h.lt
  refine ⟨h.cur.grown hg (fun k hk => ?_), ?_, h.lt, h.code⟩
  · obtain rfl : b = k := by simpa using hk
    exact ⟨by omega, fun x hx h0 => by have := h.code x hx h0; omega⟩
  · have g1 := h.grown
    refine ⟨hg.os.trans g1.os, hg.tape.trans g1.tape, hg.output.trans g1.output, Nat.le_trans g1.size hg.size, fun i hi hne => ?_⟩
    exact (hg.block i (by have := g1.size; omega) (fun e => by have : i = b := by simpa using e
                                                               omega)).trans (g1.block i hi hne)
theorem Going.set {c : Code} {g b : Nat} {w w1 : World} (h : Going c g w w1) (hb : w.heap.size ≤ b) (j : Nat) (v : Value) : Going c g w (w1.setCell ⟨b, j, none⟩ v) := h.own hb (grownBy_setCell w1 b j v)
theorem Going.set3 {c : Code} {g b : Nat} {w w1 : World} (h : Going c g w w1) (hb : w.heap.size ≤ b) (x y z : Value) : Going c g w (((w1.setCell ⟨b, 0, none⟩ x).setCell ⟨b, 1, none⟩ y).setCell ⟨b, 2, none⟩ z) := ((h.set hb 0 x).set hb 1 y).set hb 2 z
theorem Going.ext {c : Code} {g lo hi n size : Nat} {e : TypeId} {w w1 w2 : World} {v v' : Value} {xs : List Value} (h : Going c g w w1) (ho : Own e size lo hi w1 v n xs) (hlo : w.heap.size ≤ lo) (hx : Ext w1 w2 v v') : Going c g w w2 := by
  obtain ⟨b, cp, rfl, h1, _, _⟩ := ho
  exact h.own (b := b) (by omega) hx.grown

set_option maxHeartbeats 1000000 in
theorem l3Int (c : Code) (g : Nat) (w : World) (h : Cur c g w) :
    Calls Tryz.prog 85 #[.pointer (some ⟨g, 0, none⟩)] w (DrewVal c g w (OfTy 1)) := by
  have G0 := (Going.start h).alloc (.cells #[.int .i64 0, .int .i64 0, .string ⟨#[]⟩] 54)
  have H0 : Held _ _ _ := held_new w V.zero 54
  simp only [V.zero] at H0
  have HSZ0 : Hid ((w.alloc (.cells #[.int .i64 0, .int .i64 0, .string ⟨#[]⟩] 54)).heap.size = w.heap.size + 1) := World.size_alloc _ _
  generalize hw0 : w.alloc (.cells #[.int .i64 0, .int .i64 0, .string ⟨#[]⟩] 54) = W0 at G0 H0 HSZ0
  have HW0 := Lib.hid hw0
  clear hw0
  have hgl := h.lt
  go_enter Tryz.func85, Tryz.ntmps85
  go_wp2_with fail
  rw [HW0.out]
  refine (l1Once c g _ _ G0.cur).mono ?_
  rintro e w1 ⟨b, rfl, hc1, hg1⟩
  have G1 := G0.next hc1 hg1
  have H1 := H0.draw hg1 (by omega)
  cases b with
  | true =>
    go_wp2_with fail
    refine (l1NumOk c g _ hc1).mono ?_
    rintro e w2 ⟨x, rfl, H, hc2, hg2⟩
    have HH := Lib.hid (ofTy_int H)
    have G2 := G1.next hc2 hg2
    obtain ⟨⟨c0, c1, c2⟩, f0, f1, f2⟩ := H1.draw hg2 (by omega)
    have G3 := Lib.hid (G2.set3 (Nat.le_refl _) (.int .i64 1) (.int .i64 x) (.string ⟨#[]⟩))
    clear H hc2 hg2 hc1 hg1 G0 H0 G1 H1 G2
    go_wp2
    exact bodyPost_ret (v := V.agg ⟨1, x, ⟨#[]⟩⟩) (by simp [results, Tryz.results85, go_sem, *]) rfl ⟨_, rfl, HH.out, G3.out.cur, G3.out.grown⟩
  | false =>
    go_wp2_with fail
    refine (l1IntLit c g [0, 1, 2, 3, 7, -1] 6 w1 rfl (by omega) (by omega) hc1 _ rfl).mono ?_
    rintro e w2 ⟨x, rfl, hx, hc2, hg2⟩
    have HH := Lib.hid (ofTy_int (n := x) ⟨(by decide +kernel : ∀ x ∈ ([0, 1, 2, 3, 7, -1] : List Int), -1000000000 ≤ x) x hx, (by decide +kernel : ∀ x ∈ ([0, 1, 2, 3, 7, -1] : List Int), x ≤ 1000000000) x hx⟩)
    have G2 := G1.next hc2 hg2
    obtain ⟨⟨c0, c1, c2⟩, f0, f1, f2⟩ := H1.draw hg2 (by omega)
    have G3 := Lib.hid (G2.set3 (Nat.le_refl _) (.int .i64 1) (.int .i64 x) (.string ⟨#[]⟩))
    clear hx hc2 hg2 hc1 hg1 G0 H0 G1 H1 G2
    go_wp2
    exact bodyPost_ret (v := V.agg ⟨1, x, ⟨#[]⟩⟩) (by simp [results, Tryz.results85, go_sem, *]) rfl ⟨_, rfl, HH.out, G3.out.cur, G3.out.grown⟩

/-- The texts that l3Text draws. -/
def texts8 : List ByteArray := [⟨#[]⟩, ⟨#[97]⟩, ⟨#[98]⟩, ⟨#[97, 98]⟩, ⟨#[114, 101, 100]⟩, ⟨#[98, 108, 117, 101]⟩, ⟨#[103, 114, 101, 101, 110]⟩, ⟨#[122, 122, 122, 122, 122, 122]⟩]
theorem texts8_ok {s : ByteArray} (h : s ∈ texts8) : OfTy 2 ⟨2, 0, s⟩ := by
  simp only [texts8, List.mem_cons, List.not_mem_nil, or_false] at h
  rcases h with rfl | rfl | rfl | rfl | rfl | rfl | rfl | rfl <;> exact ⟨by decide +kernel, rfl⟩

set_option maxHeartbeats 1000000 in
theorem l3Text (c : Code) (g : Nat) (w : World) (h : Cur c g w) :
    Calls Tryz.prog 86 #[.pointer (some ⟨g, 0, none⟩)] w (DrewVal c g w (OfTy 2)) := by
  have G0 := (Going.start h).alloc (.cells #[.int .i64 0, .int .i64 0, .string ⟨#[]⟩] 54)
  have H0 : Held _ _ _ := held_new w V.zero 54
  simp only [V.zero] at H0
  have HSZ0 : Hid ((w.alloc (.cells #[.int .i64 0, .int .i64 0, .string ⟨#[]⟩] 54)).heap.size = w.heap.size + 1) := World.size_alloc _ _
  generalize hw0 : w.alloc (.cells #[.int .i64 0, .int .i64 0, .string ⟨#[]⟩] 54) = W0 at G0 H0 HSZ0
  have HW0 := Lib.hid hw0
  clear hw0
  have hgl := h.lt
  go_enter Tryz.func86, Tryz.ntmps86
  go_wp2_with fail
  rw [HW0.out]
  refine (l1StrVLitAt c g _ texts8 8 W0 HSZ0.out rfl (by omega) (by omega) G0.cur _ rfl).mono ?_
  rintro e w2 ⟨s, hs, rfl, hc2, hg2⟩
  have HH := Lib.hid (texts8_ok hs)
  have G2 := G0.next hc2 hg2
  obtain ⟨⟨c0, c1, c2⟩, f0, f1, f2⟩ := H0.draw hg2 (by omega)
  have G3 := Lib.hid (G2.set3 (Nat.le_refl _) (.int .i64 2) (.int .i64 0) (.string s))
  clear hs hc2 hg2 G0 H0 G2
  go_wp2
  exact bodyPost_ret (v := V.agg ⟨2, 0, s⟩) (by simp [results, Tryz.results86, go_sem, *]) rfl ⟨_, rfl, HH.out, G3.out.cur, G3.out.grown⟩

set_option maxHeartbeats 1000000 in
theorem l3Draw (c : Code) (g : Nat) (w : World) (h : Cur c g w) :
    Calls Tryz.prog 95 #[.pointer (some ⟨g, 0, none⟩)] w (DrewVal c g w fun v => OfTy 1 v ∨ OfTy 2 v) := by
  have G0 := (Going.start h).alloc (.cells #[.int .i64 0, .int .i64 0, .string ⟨#[]⟩] 54)
  have H0 : Held _ _ _ := held_new w V.zero 54
  simp only [V.zero] at H0
  have HSZ0 : Hid ((w.alloc (.cells #[.int .i64 0, .int .i64 0, .string ⟨#[]⟩] 54)).heap.size = w.heap.size + 1) := World.size_alloc _ _
  generalize hw0 : w.alloc (.cells #[.int .i64 0, .int .i64 0, .string ⟨#[]⟩] 54) = W0 at G0 H0 HSZ0
  have HW0 := Lib.hid hw0
  clear hw0
  have hgl := h.lt
  go_enter Tryz.func95, Tryz.ntmps95
  go_wp2_with fail
  rw [HW0.out]
  refine (l1Once c g _ _ G0.cur).mono ?_
  rintro e w1 ⟨b, rfl, hc1, hg1⟩
  have G1 := G0.next hc1 hg1
  have H1 := H0.draw hg1 (by omega)
  cases b with
  | true =>
    go_wp2_with fail
    refine (l3Int c g _ hc1).mono ?_
    rintro e w2 ⟨x, rfl, H, hc2, hg2⟩
    have HH := Lib.hid H
    have G2 := G1.next hc2 hg2
    obtain ⟨⟨c0, c1, c2⟩, f0, f1, f2⟩ := H1.draw hg2 (by omega)
    obtain ⟨xt, xn, xs⟩ := x
    have G3 := Lib.hid (G2.set3 (Nat.le_refl _) (.int .i64 xt) (.int .i64 xn) (.string xs))
    clear H hc2 hg2 hc1 hg1 G0 H0 G1 H1 G2
    go_wp2
    exact bodyPost_ret (v := V.agg ⟨xt, xn, xs⟩) (by simp [results, Tryz.results95, go_sem, *]) rfl ⟨_, rfl, .inl HH.out, G3.out.cur, G3.out.grown⟩
  | false =>
    go_wp2_with fail
    refine (l3Text c g _ hc1).mono ?_
    rintro e w2 ⟨x, rfl, H, hc2, hg2⟩
    have HH := Lib.hid H
    have G2 := G1.next hc2 hg2
    obtain ⟨⟨c0, c1, c2⟩, f0, f1, f2⟩ := H1.draw hg2 (by omega)
    obtain ⟨xt, xn, xs⟩ := x
    have G3 := Lib.hid (G2.set3 (Nat.le_refl _) (.int .i64 xt) (.int .i64 xn) (.string xs))
    clear H hc2 hg2 hc1 hg1 G0 H0 G1 H1 G2
    go_wp2
    exact bodyPost_ret (v := V.agg ⟨xt, xn, xs⟩) (by simp [results, Tryz.results95, go_sem, *]) rfl ⟨_, rfl, .inr HH.out, G3.out.cur, G3.out.grown⟩

end Go.Proofs.YthniakklkepomaaGreat

/- The contracts of the model's functions that draw lists of values: l3List, l3Any, l5Draw, l5Any, l5Type. -/
namespace Go.Proofs.YthniakklkepomaaGreat
open Go.RowKit

/-- A value that may be drawn, right or not. -/
structure Fair (v : V) : Prop where
  ty : I64 v.ty
  n : I64 v.n
  s : v.s.size ≤ 7
theorem OfTy.fair {ty : Int} {v : V} (h : OfTy ty v) : Fair v := by
  obtain ⟨h1, h2⟩ := h
  obtain ⟨t, n, s⟩ := v
  unfold okV at h1
  by_cases ht : t = 1
  · subst ht
    simp only [if_true, Bool.and_eq_true, beq_iff_eq] at h1
    have := Num.okB_true.1 h1.1
    unfold Num.ok at this
    exact ⟨⟨by show _ ≤ (1 : Int); omega, by show (1 : Int) ≤ _; omega⟩, ⟨by show _ ≤ n; omega, by show n ≤ _; omega⟩, by show s.size ≤ 7; omega⟩
  · simp only [if_neg ht, Bool.and_eq_true, beq_iff_eq, txtB, decide_eq_true_eq] at h1
    obtain ⟨rfl, rfl, h3⟩ := h1
    exact ⟨⟨by show _ ≤ (2 : Int); omega, by show (2 : Int) ≤ _; omega⟩, ⟨by show _ ≤ (0 : Int); omega, by show (0 : Int) ≤ _; omega⟩, by show s.size ≤ 7; omega⟩
/-- A list of values with P is returned. -/
def DrewVals (c : Code) (g : Nat) (w : World) (P : List V → Prop) (e : Ending) (w' : World) : Prop :=
  ∃ (v : Value) (l : List V), e = .returned v ∧ P l ∧ Own 54 3 w.heap.size w'.heap.size w' v l.length (vals l) ∧ Cur c g w' ∧ w.grownBy w' (some g)

set_option maxHeartbeats 1000000 in
theorem l3List1 (c : Code) (g : Nat) (most : Nat) (w : World) (hm : most ≤ 1000) (h : Cur c g w) :
    Calls Tryz.prog 84 #[.pointer (some ⟨g, 0, none⟩), .int .i64 1, .int .i64 most] w (DrewVals c g w fun l => l.length ≤ most ∧ ∀ v ∈ l, OfTy 1 v) := by
  have hgl := h.lt
  have G0 := (Going.start h).alloc (.cells #[] 54)
  have O0 := own_lit (e := 54) (size := 3) w #[] 0 (Nat.zero_le _) rfl
  go_enter Tryz.func84, Tryz.ntmps84
  go_wp2_with fail
  refine (l1Below c g _ _ G0.cur).mono ?_
  rintro e w1 ⟨x, rfl, hx, hc1, hg1⟩
  obtain ⟨N, rfl⟩ := Int.eq_ofNat_of_zero_le hx.1
  have hN : N ≤ most := by omega
  have G1 := G0.next hc1 hg1
  have O1 := (O0.draw hg1 (by omega)).wide hg1.size
  clear G0 O0 hg1 hc1 hx
  have H0 : Hid (∀ v ∈ ([] : List V), OfTy 1 v) := fun v hv => by cases hv
  go_wp2
  go_loopw [7, 8] (fun o i wr => ∃ (k : Nat) (l : List V), k ≤ N ∧ i = .int .i64 k ∧ l.length + k = N ∧ (∀ v ∈ l, OfTy 1 v) ∧ Own 54 3 w.heap.size wr.heap.size wr o l.length (vals l) ∧ Going c g w wr) (fun _ i _ => (intOf i).toNat)
  case atStart => exact ⟨N, [], Nat.le_refl _, rfl, by simp, H0.out, O1, G1⟩
  case round =>
    obtain ⟨k, l, hk, rfl, hkl, ho, hown, G⟩ := hrel
    have HO := Lib.hid ho
    have HLL := Lib.hid hkl
    have hl1 : l.length ≤ 1000 := by omega
    clear ho hkl
    by_cases hk0 : k = 0
    · subst hk0
      go_wp2
      go_ret
      exact ⟨_, l, rfl, ⟨by have := HLL.out; omega, HO.out⟩, hown, G.cur, G.grown⟩
    · obtain ⟨k, rfl⟩ : ∃ j, k = j + 1 := ⟨k - 1, by omega⟩
      generalize hlc : l.length = lc at hown HLL hl1
      have HLC := Lib.hid hlc
      clear hlc hk0
      go_wp2_with fail
      refine (l3Int c g _ G.cur).mono ?_
      rintro e w2 ⟨x, rfl, HX, hc2, hg2⟩
      have G2 := G.next hc2 hg2
      have O2 := (hown.draw hg2 hgl).wide hg2.size
      have HX2 := Lib.hid HX
      obtain ⟨xt, xn, xs⟩ := x
      have HVA : Hid (vals l ++ V.cs ⟨xt, xn, xs⟩ = vals (l ++ [(⟨xt, xn, xs⟩ : V)])) := by
        show _ = _
        simp [vals]
      clear hown hg2 hc2 G HX
      go_wp2_with (at_builtin; refine appendV_law Tryz.elemVals rfl _ _ rfl _ _ _ _ _ ⟨xt, xn, xs⟩ rfl O2 rfl (by unfold maxLen; omega) (by omega) ?_)
      intro v3 w3 o3 e3
      have G3 := G2.ext O2 (Nat.le_refl _) e3
      rw [HVA.out] at o3
      have O3 := Lib.hid o3
      clear o3 e3 O2 G2
      go_wp2
      go_roundw
      case rel =>
        refine ⟨k, l ++ [⟨xt, xn, xs⟩], by omega, by go_num, by rw [List.length_append, List.length_singleton, HLC.out]; have := HLL.out; omega, ?_, by rw [List.length_append, List.length_singleton, HLC.out]; exact O3.out, G3⟩
        intro v hv
        rcases List.mem_append.1 hv with h1 | h1
        · exact HO.out v h1
        · obtain rfl := List.mem_singleton.1 h1
          exact HX2.out
      case measure => simp [intOf]

set_option maxHeartbeats 1000000 in
theorem l3List2 (c : Code) (g : Nat) (most : Nat) (w : World) (hm : most ≤ 1000) (h : Cur c g w) :
    Calls Tryz.prog 84 #[.pointer (some ⟨g, 0, none⟩), .int .i64 2, .int .i64 most] w (DrewVals c g w fun l => l.length ≤ most ∧ ∀ v ∈ l, OfTy 2 v) := by
  have hgl := h.lt
  have G0 := (Going.start h).alloc (.cells #[] 54)
  have O0 := own_lit (e := 54) (size := 3) w #[] 0 (Nat.zero_le _) rfl
  go_enter Tryz.func84, Tryz.ntmps84
  go_wp2_with fail
  refine (l1Below c g _ _ G0.cur).mono ?_
  rintro e w1 ⟨x, rfl, hx, hc1, hg1⟩
  obtain ⟨N, rfl⟩ := Int.eq_ofNat_of_zero_le hx.1
  have hN : N ≤ most := by omega
  have G1 := G0.next hc1 hg1
  have O1 := (O0.draw hg1 (by omega)).wide hg1.size
  clear G0 O0 hg1 hc1 hx
  have H0 : Hid (∀ v ∈ ([] : List V), OfTy 2 v) := fun v hv => by cases hv
  go_wp2
  go_loopw [7, 8] (fun o i wr => ∃ (k : Nat) (l : List V), k ≤ N ∧ i = .int .i64 k ∧ l.length + k = N ∧ (∀ v ∈ l, OfTy 2 v) ∧ Own 54 3 w.heap.size wr.heap.size wr o l.length (vals l) ∧ Going c g w wr) (fun _ i _ => (intOf i).toNat)
  case atStart => exact ⟨N, [], Nat.le_refl _, rfl, by simp, H0.out, O1, G1⟩
  case round =>
    obtain ⟨k, l, hk, rfl, hkl, ho, hown, G⟩ := hrel
    have HO := Lib.hid ho
    have HLL := Lib.hid hkl
    have hl1 : l.length ≤ 1000 := by omega
    clear ho hkl
    by_cases hk0 : k = 0
    · subst hk0
      go_wp2
      go_ret
      exact ⟨_, l, rfl, ⟨by have := HLL.out; omega, HO.out⟩, hown, G.cur, G.grown⟩
    · obtain ⟨k, rfl⟩ : ∃ j, k = j + 1 := ⟨k - 1, by omega⟩
      generalize hlc : l.length = lc at hown HLL hl1
      have HLC := Lib.hid hlc
      clear hlc hk0
      go_wp2_with fail
      refine (l3Text c g _ G.cur).mono ?_
      rintro e w2 ⟨x, rfl, HX, hc2, hg2⟩
      have G2 := G.next hc2 hg2
      have O2 := (hown.draw hg2 hgl).wide hg2.size
      have HX2 := Lib.hid HX
      obtain ⟨xt, xn, xs⟩ := x
      have HVA : Hid (vals l ++ V.cs ⟨xt, xn, xs⟩ = vals (l ++ [(⟨xt, xn, xs⟩ : V)])) := by
        show _ = _
        simp [vals]
      clear hown hg2 hc2 G HX
      go_wp2_with (at_builtin; refine appendV_law Tryz.elemVals rfl _ _ rfl _ _ _ _ _ ⟨xt, xn, xs⟩ rfl O2 rfl (by unfold maxLen; omega) (by omega) ?_)
      intro v3 w3 o3 e3
      have G3 := G2.ext O2 (Nat.le_refl _) e3
      rw [HVA.out] at o3
      have O3 := Lib.hid o3
      clear o3 e3 O2 G2
      go_wp2
      go_roundw
      case rel =>
        refine ⟨k, l ++ [⟨xt, xn, xs⟩], by omega, by go_num, by rw [List.length_append, List.length_singleton, HLC.out]; have := HLL.out; omega, ?_, by rw [List.length_append, List.length_singleton, HLC.out]; exact O3.out, G3⟩
        intro v hv
        rcases List.mem_append.1 hv with h1 | h1
        · exact HO.out v h1
        · obtain rfl := List.mem_singleton.1 h1
          exact HX2.out
      case measure => simp [intOf]

theorem l3List (c : Code) (g : Nat) {ty : Int} (hty : ty = 1 ∨ ty = 2) (most : Nat) (w : World) (hm : most ≤ 1000) (h : Cur c g w) :
    Calls Tryz.prog 84 #[.pointer (some ⟨g, 0, none⟩), .int .i64 ty, .int .i64 most] w (DrewVals c g w fun l => l.length ≤ most ∧ ∀ v ∈ l, OfTy ty v) := by
  rcases hty with rfl | rfl
  · exact l3List1 c g most w hm h
  · exact l3List2 c g most w hm h

theorem grownBy_set3 (w : World) (b : Nat) (x y z : Value) : w.grownBy (((w.setCell ⟨b, 0, none⟩ x).setCell ⟨b, 1, none⟩ y).setCell ⟨b, 2, none⟩ z) (some b) :=
  ((grownBy_setCell w b 0 x).trans (grownBy_setCell _ b 1 y)).trans (grownBy_setCell _ b 2 z)
theorem held_set3 {W : World} {b : Nat} {v : V} (h : Held W b v) (u : V) : Held (((W.setCell ⟨b, 0, none⟩ (.int .i64 u.ty)).setCell ⟨b, 1, none⟩ (.int .i64 u.n)).setCell ⟨b, 2, none⟩ (.string u.s)) b u := by
  obtain ⟨⟨c0, c1, c2⟩, f0, f1, f2⟩ := h
  refine ⟨⟨?_, ?_, ?_⟩, ?_, ?_, ?_⟩
  · rw [World.cell?_setCell_other _ _ _ _ (by simp), World.cell?_setCell_other _ _ _ _ (by simp)]
    exact World.cell?_setCell_same _ _ _ c0
  · rw [World.cell?_setCell_other _ _ _ _ (by simp)]
    exact World.cell?_setCell_same _ _ _ (by rw [World.cell?_setCell_other _ _ _ _ (by simp)]; exact c1)
  · exact World.cell?_setCell_same _ _ _ (by rw [World.cell?_setCell_other _ _ _ _ (by simp), World.cell?_setCell_other _ _ _ _ (by simp)]; exact c2)
  · rw [World.frozen?_setCell, World.frozen?_setCell, World.frozen?_setCell]; exact f0
  · rw [World.frozen?_setCell, World.frozen?_setCell, World.frozen?_setCell]; exact f1
  · rw [World.frozen?_setCell, World.frozen?_setCell, World.frozen?_setCell]; exact f2

/-- What l5Draw draws. -/
def Drawn (l : List V) : Prop := 1 ≤ l.length ∧ l.length ≤ 15 ∧ ∃ ty, (ty = 1 ∨ ty = 2) ∧ ∀ v ∈ l, OfTy ty v

set_option maxHeartbeats 1000000 in
theorem l5Draw (c : Code) (g : Nat) (w : World) (h : Cur c g w) :
    Calls Tryz.prog 47 #[.pointer (some ⟨g, 0, none⟩)] w (DrewVals c g w Drawn) := by
  have hgl := h.lt
  go_enter Tryz.func47, Tryz.ntmps47
  go_wp2_with fail
  refine (l1Below c g _ _ h).mono ?_
  rintro e w1 ⟨x, rfl, hx, hc1, hg1⟩
  have G1 := (Going.start h).next hc1 hg1
  have hx2 : x = 0 ∨ x = 1 := by omega
  clear hx hg1 hc1
  rcases hx2 with rfl | rfl
  · go_wp2_with fail
    refine (l3List1 c g 9 _ (by omega) G1.cur).mono ?_
    rintro e w2 ⟨v2, l, rfl, ⟨hl9, hall⟩, o2, hc2, hg2⟩
    have G := G1.next hc2 hg2
    have O := o2.lower G1.grown.size
    have HALL := Lib.hid hall
    clear hall o2 hc2 hg2 G1
    generalize hlc : l.length = lc at hl9 O
    have HLC := Lib.hid hlc
    clear hlc
    obtain ⟨b2, cp2, rfl⟩ : ∃ b cp, v2 = .slice (some ⟨b, 0, none⟩) lc cp := by
      obtain ⟨b, cp, e, _⟩ := O
      exact ⟨b, cp, e⟩
    by_cases h0 : lc = 0
    · have h0b : ((lc : Int) == 0) = true := by simp [h0]
      clear h0
      go_wp2_with fail
      refine (l3Int c g _ G.cur).mono ?_
      rintro e w4 ⟨x4, rfl, HX4, hc4, hg4⟩
      have G4 := G.next hc4 hg4
      have O4 := (O.draw hg4 hgl).wide hg4.size
      obtain ⟨vt, vn, vs⟩ := x4
      have HXX := Lib.hid HX4
      have HNB : Hid ((Value.slice (some ⟨b2, 0, none⟩) lc cp2).ownBlock ≠ some w4.heap.size) := by
        intro e
        obtain ⟨g', c', e', h1, h2, _⟩ := O4
        cases e'
        have : b2 = w4.heap.size := by simpa [Value.ownBlock] using e
        omega
      have GB := G4.alloc (.cells #[.int .i64 vt, .int .i64 vn, .string vs] 54)
      have OB := (O4.alloc (.cells #[.int .i64 vt, .int .i64 vn, .string vs] 54)).wide (show w4.heap.size ≤ (w4.alloc (.cells #[.int .i64 vt, .int .i64 vn, .string vs] 54)).heap.size by simp)
      have HB := held_new w4 ⟨vt, vn, vs⟩ 54
      have HGB : Hid (g < w4.heap.size ∧ w.heap.size ≤ w4.heap.size) := ⟨G4.cur.lt, G4.grown.size⟩
      simp only at HB
      clear HX4 hc4 hg4 G4 O4 G O
      generalize hwb : w4.alloc (.cells #[.int .i64 vt, .int .i64 vn, .string vs] 54) = wb at GB OB HB
      have HWB := Lib.hid hwb
      clear hwb
      generalize hBx : w4.heap.size = Bx at HB HNB HGB
      have HBX := Lib.hid hBx
      have hgb := HGB.out.1
      clear hBx
      go_wp2_with fail
      rw [HWB.out, HBX.out]

      have HXV : Hid (OfTy 1 ⟨vt, vn, vs⟩) := HXX.out
      refine (l1Below c g _ _ GB.cur).mono ?_
      rintro e wl ⟨y, rfl, hy, hcl, hgl2⟩
      obtain ⟨N, rfl⟩ := Int.eq_ofNat_of_zero_le hy.1
      have hN : N ≤ 5 := by omega
      have GL := GB.next hcl hgl2
      have OL := (OB.draw hgl2 hgl).wide hgl2.size
      have HL := HB.draw hgl2 (by omega)
      have HBL : Hid (Bx < wl.heap.size) := lt_of_cell HL.1.1
      have HNE : Hid ((Value.slice (some ⟨b2, 0, none⟩) lc cp2).ownBlock ≠ some Bx) := HNB.out
      clear GB OB HB hcl hgl2 hy
      have HR0 : Hid (l ++ List.replicate 0 (⟨vt, vn, vs⟩ : V) = l) := by
        show _ = _
        simp
      have HN1 : Hid ((N : Int) = ((N + 1 : Nat) : Int) - 1) := by
        show _ = _
        omega
      go_wp2
      go_loopw [4, 6] (fun o i wr => ∃ j m : Nat, j + m = N + 1 ∧ i = .int .i64 ((j : Int) - 1) ∧ Own 54 3 w.heap.size wr.heap.size wr o (lc + m) (vals (l ++ List.replicate m ⟨vt, vn, vs⟩)) ∧ Held wr Bx ⟨vt, vn, vs⟩ ∧ o.ownBlock ≠ some Bx ∧ Going c g w wr) (fun _ i _ => (intOf i + 1).toNat)
      case atStart => exact ⟨N + 1, 0, by omega, by rw [← HN1.out], by rw [HR0.out]; exact OL, HL, HNE.out, GL⟩
      case round =>
        obtain ⟨j, m, hjm, rfl, hown, hheld, hne, G⟩ := hrel
        by_cases hj0 : j = 0
        · subst hj0
          have HM : Hid (m = N + 1) := by
            show _ = _
            omega
          go_wp2
          go_ret
          refine ⟨_, l ++ List.replicate m ⟨vt, vn, vs⟩, rfl, ⟨?_, ?_, 1, by omega, ?_⟩, ?_, G.cur, G.grown⟩
          · simp only [List.length_append, List.length_replicate, HLC.out]
            have := HM.out
            omega
          · simp only [List.length_append, List.length_replicate, HLC.out]
            have := HM.out
            omega
          · intro v hv
            rcases List.mem_append.1 hv with h1 | h1
            · exact HALL.out v h1
            · rw [List.eq_of_mem_replicate h1]
              exact HXV.out
          · simp only [List.length_append, List.length_replicate, HLC.out]
            exact hown
        · obtain ⟨j, rfl⟩ : ∃ q, j = q + 1 := ⟨j - 1, by omega⟩
          have HVA : Hid (vals (l ++ List.replicate m (⟨vt, vn, vs⟩ : V)) ++ V.cs ⟨vt, vn, vs⟩ = vals (l ++ List.replicate (m + 1) (⟨vt, vn, vs⟩ : V))) := by
            show _ = _
            rw [List.replicate_succ', ← List.append_assoc]
            simp [vals]
          have HHD := Lib.hid hheld
          have HBW : Hid (Bx < wr.heap.size) := lt_of_cell hheld.1.1
          obtain ⟨⟨d0, d1, d2⟩, _⟩ := hheld
          simp only at d0 d1 d2
          have hjj : (((j + 1 : Nat) : Int) - 1) = (j : Int) := by omega
          rw [hjj]
          have hme : lc + m + 1 = lc + (m + 1) := by omega
          go_wp2_with (at_builtin; refine appendV_law Tryz.elemVals rfl _ _ rfl _ _ _ _ _ ⟨vt, vn, vs⟩ rfl hown rfl (by unfold maxLen; omega) (by omega) ?_)
          intro v3 w3 o3 e3
          have G3 := G.ext hown (Nat.le_refl _) e3
          have H3 : Held w3 Bx ⟨vt, vn, vs⟩ := by
            have hh := HHD.out
            have hb := e3.grown.block Bx HBW.out (fun e => hne e.symm)
            have hc : ∀ q, w3.cell? ⟨Bx, q, none⟩ = wr.cell? ⟨Bx, q, none⟩ := fun q => World.cell?_of_block hb
            have hf : ∀ q, w3.frozen? ⟨Bx, q, none⟩ = wr.frozen? ⟨Bx, q, none⟩ := fun q => World.frozen?_of_block hb
            exact ⟨⟨(hc 0).trans hh.1.1, (hc 1).trans hh.1.2.1, (hc 2).trans hh.1.2.2⟩, (hf 0).trans hh.2.1, (hf 1).trans hh.2.2.1, (hf 2).trans hh.2.2.2⟩
          have hne3 : v3.ownBlock ≠ some Bx := by
            intro hb
            rcases e3.blk with h1 | ⟨g', h1, h2⟩
            · exact hne (h1.symm.trans hb)
            · rw [hb] at h1
              obtain rfl : Bx = g' := by simpa using h1
              have := HBW.out
              omega
          rw [HVA.out] at o3
          have O3 := Lib.hid o3
          clear o3 e3 hown d0 d1 d2 hne G
          go_wp2
          go_roundw
          case rel => exact ⟨j, m + 1, by omega, by go_num, by rw [← hme]; exact O3.out, H3, hne3, G3⟩
          case measure => (simp [intOf]; try omega)
    · have h0b : ((lc : Int) == 0) = false := by simp; omega
      go_wp2_with fail
      refine (l1Once c g _ _ G.cur).mono ?_
      rintro e w3 ⟨b, rfl, hc3, hg3⟩
      replace O := (O.draw hg3 hgl).wide hg3.size
      replace G := G.next hc3 hg3
      clear hc3 hg3
      cases b with
      | false =>
        go_wp2
        go_ret
        exact ⟨_, l, rfl, ⟨by rw [HLC.out]; omega, by rw [HLC.out]; omega, 1, by omega, HALL.out⟩, by rw [HLC.out]; exact O, G.cur, G.grown⟩
      | true =>
        go_wp2_with fail
        refine (l3Int c g _ G.cur).mono ?_
        rintro e w4 ⟨x4, rfl, HX4, hc4, hg4⟩
        have G4 := G.next hc4 hg4
        have O4 := (O.draw hg4 hgl).wide hg4.size
        obtain ⟨vt, vn, vs⟩ := x4
        have HXX := Lib.hid HX4
        have HNB : Hid ((Value.slice (some ⟨b2, 0, none⟩) lc cp2).ownBlock ≠ some w4.heap.size) := by
          intro e
          obtain ⟨g', c', e', h1, h2, _⟩ := O4
          cases e'
          have : b2 = w4.heap.size := by simpa [Value.ownBlock] using e
          omega
        have GB := G4.alloc (.cells #[.int .i64 vt, .int .i64 vn, .string vs] 54)
        have OB := (O4.alloc (.cells #[.int .i64 vt, .int .i64 vn, .string vs] 54)).wide (show w4.heap.size ≤ (w4.alloc (.cells #[.int .i64 vt, .int .i64 vn, .string vs] 54)).heap.size by simp)
        have HB := held_new w4 ⟨vt, vn, vs⟩ 54
        have HGB : Hid (g < w4.heap.size ∧ w.heap.size ≤ w4.heap.size) := ⟨G4.cur.lt, G4.grown.size⟩
        simp only at HB
        clear HX4 hc4 hg4 G4 O4 G O
        generalize hwb : w4.alloc (.cells #[.int .i64 vt, .int .i64 vn, .string vs] 54) = wb at GB OB HB
        have HWB := Lib.hid hwb
        clear hwb
        generalize hBx : w4.heap.size = Bx at HB HNB HGB
        have HBX := Lib.hid hBx
        have hgb := HGB.out.1
        clear hBx
        go_wp2_with fail
        rw [HWB.out, HBX.out]

        have HXV : Hid (OfTy 1 ⟨vt, vn, vs⟩) := HXX.out
        refine (l1Below c g _ _ GB.cur).mono ?_
        rintro e wl ⟨y, rfl, hy, hcl, hgl2⟩
        obtain ⟨N, rfl⟩ := Int.eq_ofNat_of_zero_le hy.1
        have hN : N ≤ 5 := by omega
        have GL := GB.next hcl hgl2
        have OL := (OB.draw hgl2 hgl).wide hgl2.size
        have HL := HB.draw hgl2 (by omega)
        have HBL : Hid (Bx < wl.heap.size) := lt_of_cell HL.1.1
        have HNE : Hid ((Value.slice (some ⟨b2, 0, none⟩) lc cp2).ownBlock ≠ some Bx) := HNB.out
        clear GB OB HB hcl hgl2 hy
        have HR0 : Hid (l ++ List.replicate 0 (⟨vt, vn, vs⟩ : V) = l) := by
          show _ = _
          simp
        have HN1 : Hid ((N : Int) = ((N + 1 : Nat) : Int) - 1) := by
          show _ = _
          omega
        go_wp2
        go_loopw [4, 6] (fun o i wr => ∃ j m : Nat, j + m = N + 1 ∧ i = .int .i64 ((j : Int) - 1) ∧ Own 54 3 w.heap.size wr.heap.size wr o (lc + m) (vals (l ++ List.replicate m ⟨vt, vn, vs⟩)) ∧ Held wr Bx ⟨vt, vn, vs⟩ ∧ o.ownBlock ≠ some Bx ∧ Going c g w wr) (fun _ i _ => (intOf i + 1).toNat)
        case atStart => exact ⟨N + 1, 0, by omega, by rw [← HN1.out], by rw [HR0.out]; exact OL, HL, HNE.out, GL⟩
        case round =>
          obtain ⟨j, m, hjm, rfl, hown, hheld, hne, G⟩ := hrel
          by_cases hj0 : j = 0
          · subst hj0
            have HM : Hid (m = N + 1) := by
              show _ = _
              omega
            go_wp2
            go_ret
            refine ⟨_, l ++ List.replicate m ⟨vt, vn, vs⟩, rfl, ⟨?_, ?_, 1, by omega, ?_⟩, ?_, G.cur, G.grown⟩
            · simp only [List.length_append, List.length_replicate, HLC.out]
              have := HM.out
              omega
            · simp only [List.length_append, List.length_replicate, HLC.out]
              have := HM.out
              omega
            · intro v hv
              rcases List.mem_append.1 hv with h1 | h1
              · exact HALL.out v h1
              · rw [List.eq_of_mem_replicate h1]
                exact HXV.out
            · simp only [List.length_append, List.length_replicate, HLC.out]
              exact hown
          · obtain ⟨j, rfl⟩ : ∃ q, j = q + 1 := ⟨j - 1, by omega⟩
            have HVA : Hid (vals (l ++ List.replicate m (⟨vt, vn, vs⟩ : V)) ++ V.cs ⟨vt, vn, vs⟩ = vals (l ++ List.replicate (m + 1) (⟨vt, vn, vs⟩ : V))) := by
              show _ = _
              rw [List.replicate_succ', ← List.append_assoc]
              simp [vals]
            have HHD := Lib.hid hheld
            have HBW : Hid (Bx < wr.heap.size) := lt_of_cell hheld.1.1
            obtain ⟨⟨d0, d1, d2⟩, _⟩ := hheld
            simp only at d0 d1 d2
            have hjj : (((j + 1 : Nat) : Int) - 1) = (j : Int) := by omega
            rw [hjj]
            have hme : lc + m + 1 = lc + (m + 1) := by omega
            go_wp2_with (at_builtin; refine appendV_law Tryz.elemVals rfl _ _ rfl _ _ _ _ _ ⟨vt, vn, vs⟩ rfl hown rfl (by unfold maxLen; omega) (by omega) ?_)
            intro v3 w3 o3 e3
            have G3 := G.ext hown (Nat.le_refl _) e3
            have H3 : Held w3 Bx ⟨vt, vn, vs⟩ := by
              have hh := HHD.out
              have hb := e3.grown.block Bx HBW.out (fun e => hne e.symm)
              have hc : ∀ q, w3.cell? ⟨Bx, q, none⟩ = wr.cell? ⟨Bx, q, none⟩ := fun q => World.cell?_of_block hb
              have hf : ∀ q, w3.frozen? ⟨Bx, q, none⟩ = wr.frozen? ⟨Bx, q, none⟩ := fun q => World.frozen?_of_block hb
              exact ⟨⟨(hc 0).trans hh.1.1, (hc 1).trans hh.1.2.1, (hc 2).trans hh.1.2.2⟩, (hf 0).trans hh.2.1, (hf 1).trans hh.2.2.1, (hf 2).trans hh.2.2.2⟩
            have hne3 : v3.ownBlock ≠ some Bx := by
              intro hb
              rcases e3.blk with h1 | ⟨g', h1, h2⟩
              · exact hne (h1.symm.trans hb)
              · rw [hb] at h1
                obtain rfl : Bx = g' := by simpa using h1
                have := HBW.out
                omega
            rw [HVA.out] at o3
            have O3 := Lib.hid o3
            clear o3 e3 hown d0 d1 d2 hne G
            go_wp2
            go_roundw
            case rel => exact ⟨j, m + 1, by omega, by go_num, by rw [← hme]; exact O3.out, H3, hne3, G3⟩
            case measure => (simp [intOf]; try omega)
  · go_wp2_with fail
    refine (l3List2 c g 9 _ (by omega) G1.cur).mono ?_
    rintro e w2 ⟨v2, l, rfl, ⟨hl9, hall⟩, o2, hc2, hg2⟩
    have G := G1.next hc2 hg2
    have O := o2.lower G1.grown.size
    have HALL := Lib.hid hall
    clear hall o2 hc2 hg2 G1
    generalize hlc : l.length = lc at hl9 O
    have HLC := Lib.hid hlc
    clear hlc
    obtain ⟨b2, cp2, rfl⟩ : ∃ b cp, v2 = .slice (some ⟨b, 0, none⟩) lc cp := by
      obtain ⟨b, cp, e, _⟩ := O
      exact ⟨b, cp, e⟩
    by_cases h0 : lc = 0
    · have h0b : ((lc : Int) == 0) = true := by simp [h0]
      clear h0
      go_wp2_with fail
      refine (l3Int c g _ G.cur).mono ?_
      rintro e w4 ⟨x4, rfl, HX4, hc4, hg4⟩
      have G4 := G.next hc4 hg4
      have O4 := (O.draw hg4 hgl).wide hg4.size
      obtain ⟨vt, vn, vs⟩ := x4
      have HXX := Lib.hid HX4
      have HNB : Hid ((Value.slice (some ⟨b2, 0, none⟩) lc cp2).ownBlock ≠ some w4.heap.size) := by
        intro e
        obtain ⟨g', c', e', h1, h2, _⟩ := O4
        cases e'
        have : b2 = w4.heap.size := by simpa [Value.ownBlock] using e
        omega
      have GB := G4.alloc (.cells #[.int .i64 vt, .int .i64 vn, .string vs] 54)
      have OB := (O4.alloc (.cells #[.int .i64 vt, .int .i64 vn, .string vs] 54)).wide (show w4.heap.size ≤ (w4.alloc (.cells #[.int .i64 vt, .int .i64 vn, .string vs] 54)).heap.size by simp)
      have HB := held_new w4 ⟨vt, vn, vs⟩ 54
      have HGB : Hid (g < w4.heap.size ∧ w.heap.size ≤ w4.heap.size) := ⟨G4.cur.lt, G4.grown.size⟩
      simp only at HB
      clear HX4 hc4 hg4 G4 O4 G O
      generalize hwb : w4.alloc (.cells #[.int .i64 vt, .int .i64 vn, .string vs] 54) = wb at GB OB HB
      have HWB := Lib.hid hwb
      clear hwb
      generalize hBx : w4.heap.size = Bx at HB HNB HGB
      have HBX := Lib.hid hBx
      have hgb := HGB.out.1
      clear hBx
      go_wp2_with fail
      rw [HWB.out, HBX.out]
      refine (l3Text c g _ GB.cur).mono ?_
      rintro e w5 ⟨x5, rfl, HX5, hc5, hg5⟩
      have G5 := GB.next hc5 hg5
      have O5 := (OB.draw hg5 hgl).wide hg5.size
      have H5 := HB.draw hg5 (by omega)
      clear HXX GB OB HB hc5 hg5
      obtain ⟨ut, un, us⟩ := x5
      have HXX := Lib.hid HX5
      have GB := G5.set3 (b := Bx) HGB.out.2 (.int .i64 ut) (.int .i64 un) (.string us)
      have HB := held_set3 H5 ⟨ut, un, us⟩
      have OB := O5.other (grownBy_set3 w5 Bx (.int .i64 ut) (.int .i64 un) (.string us)) (fun e => HNB.out e.symm)
      obtain ⟨⟨c0, c1, c2⟩, f0, f1, f2⟩ := H5
      simp only at HB c0 c1 c2
      generalize hws : ((w5.setCell ⟨Bx, 0, none⟩ (.int .i64 ut)).setCell ⟨Bx, 1, none⟩ (.int .i64 un)).setCell ⟨Bx, 2, none⟩ (.string us) = ws at GB HB OB
      have HWS := Lib.hid hws
      have HSZ : Hid (w5.heap.size ≤ ws.heap.size) := by
        show _ ≤ _
        rw [← hws]
        simp
      replace OB := OB.wide HSZ.out
      clear hws G5 O5 HX5
      go_wp2_with fail
      rw [HWS.out]

      have HXV : Hid (OfTy 2 ⟨ut, un, us⟩) := HXX.out
      refine (l1Below c g _ _ GB.cur).mono ?_
      rintro e wl ⟨y, rfl, hy, hcl, hgl2⟩
      obtain ⟨N, rfl⟩ := Int.eq_ofNat_of_zero_le hy.1
      have hN : N ≤ 5 := by omega
      have GL := GB.next hcl hgl2
      have OL := (OB.draw hgl2 hgl).wide hgl2.size
      have HL := HB.draw hgl2 (by omega)
      have HBL : Hid (Bx < wl.heap.size) := lt_of_cell HL.1.1
      have HNE : Hid ((Value.slice (some ⟨b2, 0, none⟩) lc cp2).ownBlock ≠ some Bx) := HNB.out
      clear GB OB HB hcl hgl2 hy
      have HR0 : Hid (l ++ List.replicate 0 (⟨ut, un, us⟩ : V) = l) := by
        show _ = _
        simp
      have HN1 : Hid ((N : Int) = ((N + 1 : Nat) : Int) - 1) := by
        show _ = _
        omega
      go_wp2
      go_loopw [4, 6] (fun o i wr => ∃ j m : Nat, j + m = N + 1 ∧ i = .int .i64 ((j : Int) - 1) ∧ Own 54 3 w.heap.size wr.heap.size wr o (lc + m) (vals (l ++ List.replicate m ⟨ut, un, us⟩)) ∧ Held wr Bx ⟨ut, un, us⟩ ∧ o.ownBlock ≠ some Bx ∧ Going c g w wr) (fun _ i _ => (intOf i + 1).toNat)
      case atStart => exact ⟨N + 1, 0, by omega, by rw [← HN1.out], by rw [HR0.out]; exact OL, HL, HNE.out, GL⟩
      case round =>
        obtain ⟨j, m, hjm, rfl, hown, hheld, hne, G⟩ := hrel
        by_cases hj0 : j = 0
        · subst hj0
          have HM : Hid (m = N + 1) := by
            show _ = _
            omega
          go_wp2
          go_ret
          refine ⟨_, l ++ List.replicate m ⟨ut, un, us⟩, rfl, ⟨?_, ?_, 2, by omega, ?_⟩, ?_, G.cur, G.grown⟩
          · simp only [List.length_append, List.length_replicate, HLC.out]
            have := HM.out
            omega
          · simp only [List.length_append, List.length_replicate, HLC.out]
            have := HM.out
            omega
          · intro v hv
            rcases List.mem_append.1 hv with h1 | h1
            · exact HALL.out v h1
            · rw [List.eq_of_mem_replicate h1]
              exact HXV.out
          · simp only [List.length_append, List.length_replicate, HLC.out]
            exact hown
        · obtain ⟨j, rfl⟩ : ∃ q, j = q + 1 := ⟨j - 1, by omega⟩
          have HVA : Hid (vals (l ++ List.replicate m (⟨ut, un, us⟩ : V)) ++ V.cs ⟨ut, un, us⟩ = vals (l ++ List.replicate (m + 1) (⟨ut, un, us⟩ : V))) := by
            show _ = _
            rw [List.replicate_succ', ← List.append_assoc]
            simp [vals]
          have HHD := Lib.hid hheld
          have HBW : Hid (Bx < wr.heap.size) := lt_of_cell hheld.1.1
          obtain ⟨⟨d0, d1, d2⟩, _⟩ := hheld
          simp only at d0 d1 d2
          have hjj : (((j + 1 : Nat) : Int) - 1) = (j : Int) := by omega
          rw [hjj]
          have hme : lc + m + 1 = lc + (m + 1) := by omega
          go_wp2_with (at_builtin; refine appendV_law Tryz.elemVals rfl _ _ rfl _ _ _ _ _ ⟨ut, un, us⟩ rfl hown rfl (by unfold maxLen; omega) (by omega) ?_)
          intro v3 w3 o3 e3
          have G3 := G.ext hown (Nat.le_refl _) e3
          have H3 : Held w3 Bx ⟨ut, un, us⟩ := by
            have hh := HHD.out
            have hb := e3.grown.block Bx HBW.out (fun e => hne e.symm)
            have hc : ∀ q, w3.cell? ⟨Bx, q, none⟩ = wr.cell? ⟨Bx, q, none⟩ := fun q => World.cell?_of_block hb
            have hf : ∀ q, w3.frozen? ⟨Bx, q, none⟩ = wr.frozen? ⟨Bx, q, none⟩ := fun q => World.frozen?_of_block hb
            exact ⟨⟨(hc 0).trans hh.1.1, (hc 1).trans hh.1.2.1, (hc 2).trans hh.1.2.2⟩, (hf 0).trans hh.2.1, (hf 1).trans hh.2.2.1, (hf 2).trans hh.2.2.2⟩
          have hne3 : v3.ownBlock ≠ some Bx := by
            intro hb
            rcases e3.blk with h1 | ⟨g', h1, h2⟩
            · exact hne (h1.symm.trans hb)
            · rw [hb] at h1
              obtain rfl : Bx = g' := by simpa using h1
              have := HBW.out
              omega
          rw [HVA.out] at o3
          have O3 := Lib.hid o3
          clear o3 e3 hown d0 d1 d2 hne G
          go_wp2
          go_roundw
          case rel => exact ⟨j, m + 1, by omega, by go_num, by rw [← hme]; exact O3.out, H3, hne3, G3⟩
          case measure => (simp [intOf]; try omega)
    · have h0b : ((lc : Int) == 0) = false := by simp; omega
      go_wp2_with fail
      refine (l1Once c g _ _ G.cur).mono ?_
      rintro e w3 ⟨b, rfl, hc3, hg3⟩
      replace O := (O.draw hg3 hgl).wide hg3.size
      replace G := G.next hc3 hg3
      clear hc3 hg3
      cases b with
      | false =>
        go_wp2
        go_ret
        exact ⟨_, l, rfl, ⟨by rw [HLC.out]; omega, by rw [HLC.out]; omega, 2, by omega, HALL.out⟩, by rw [HLC.out]; exact O, G.cur, G.grown⟩
      | true =>
        go_wp2_with fail
        refine (l3Int c g _ G.cur).mono ?_
        rintro e w4 ⟨x4, rfl, HX4, hc4, hg4⟩
        have G4 := G.next hc4 hg4
        have O4 := (O.draw hg4 hgl).wide hg4.size
        obtain ⟨vt, vn, vs⟩ := x4
        have HXX := Lib.hid HX4
        have HNB : Hid ((Value.slice (some ⟨b2, 0, none⟩) lc cp2).ownBlock ≠ some w4.heap.size) := by
          intro e
          obtain ⟨g', c', e', h1, h2, _⟩ := O4
          cases e'
          have : b2 = w4.heap.size := by simpa [Value.ownBlock] using e
          omega
        have GB := G4.alloc (.cells #[.int .i64 vt, .int .i64 vn, .string vs] 54)
        have OB := (O4.alloc (.cells #[.int .i64 vt, .int .i64 vn, .string vs] 54)).wide (show w4.heap.size ≤ (w4.alloc (.cells #[.int .i64 vt, .int .i64 vn, .string vs] 54)).heap.size by simp)
        have HB := held_new w4 ⟨vt, vn, vs⟩ 54
        have HGB : Hid (g < w4.heap.size ∧ w.heap.size ≤ w4.heap.size) := ⟨G4.cur.lt, G4.grown.size⟩
        simp only at HB
        clear HX4 hc4 hg4 G4 O4 G O
        generalize hwb : w4.alloc (.cells #[.int .i64 vt, .int .i64 vn, .string vs] 54) = wb at GB OB HB
        have HWB := Lib.hid hwb
        clear hwb
        generalize hBx : w4.heap.size = Bx at HB HNB HGB
        have HBX := Lib.hid hBx
        have hgb := HGB.out.1
        clear hBx
        go_wp2_with fail
        rw [HWB.out, HBX.out]
        refine (l3Text c g _ GB.cur).mono ?_
        rintro e w5 ⟨x5, rfl, HX5, hc5, hg5⟩
        have G5 := GB.next hc5 hg5
        have O5 := (OB.draw hg5 hgl).wide hg5.size
        have H5 := HB.draw hg5 (by omega)
        clear HXX GB OB HB hc5 hg5
        obtain ⟨ut, un, us⟩ := x5
        have HXX := Lib.hid HX5
        have GB := G5.set3 (b := Bx) HGB.out.2 (.int .i64 ut) (.int .i64 un) (.string us)
        have HB := held_set3 H5 ⟨ut, un, us⟩
        have OB := O5.other (grownBy_set3 w5 Bx (.int .i64 ut) (.int .i64 un) (.string us)) (fun e => HNB.out e.symm)
        obtain ⟨⟨c0, c1, c2⟩, f0, f1, f2⟩ := H5
        simp only at HB c0 c1 c2
        generalize hws : ((w5.setCell ⟨Bx, 0, none⟩ (.int .i64 ut)).setCell ⟨Bx, 1, none⟩ (.int .i64 un)).setCell ⟨Bx, 2, none⟩ (.string us) = ws at GB HB OB
        have HWS := Lib.hid hws
        have HSZ : Hid (w5.heap.size ≤ ws.heap.size) := by
          show _ ≤ _
          rw [← hws]
          simp
        replace OB := OB.wide HSZ.out
        clear hws G5 O5 HX5
        go_wp2_with fail
        rw [HWS.out]

        have HXV : Hid (OfTy 2 ⟨ut, un, us⟩) := HXX.out
        refine (l1Below c g _ _ GB.cur).mono ?_
        rintro e wl ⟨y, rfl, hy, hcl, hgl2⟩
        obtain ⟨N, rfl⟩ := Int.eq_ofNat_of_zero_le hy.1
        have hN : N ≤ 5 := by omega
        have GL := GB.next hcl hgl2
        have OL := (OB.draw hgl2 hgl).wide hgl2.size
        have HL := HB.draw hgl2 (by omega)
        have HBL : Hid (Bx < wl.heap.size) := lt_of_cell HL.1.1
        have HNE : Hid ((Value.slice (some ⟨b2, 0, none⟩) lc cp2).ownBlock ≠ some Bx) := HNB.out
        clear GB OB HB hcl hgl2 hy
        have HR0 : Hid (l ++ List.replicate 0 (⟨ut, un, us⟩ : V) = l) := by
          show _ = _
          simp
        have HN1 : Hid ((N : Int) = ((N + 1 : Nat) : Int) - 1) := by
          show _ = _
          omega
        go_wp2
        go_loopw [4, 6] (fun o i wr => ∃ j m : Nat, j + m = N + 1 ∧ i = .int .i64 ((j : Int) - 1) ∧ Own 54 3 w.heap.size wr.heap.size wr o (lc + m) (vals (l ++ List.replicate m ⟨ut, un, us⟩)) ∧ Held wr Bx ⟨ut, un, us⟩ ∧ o.ownBlock ≠ some Bx ∧ Going c g w wr) (fun _ i _ => (intOf i + 1).toNat)
        case atStart => exact ⟨N + 1, 0, by omega, by rw [← HN1.out], by rw [HR0.out]; exact OL, HL, HNE.out, GL⟩
        case round =>
          obtain ⟨j, m, hjm, rfl, hown, hheld, hne, G⟩ := hrel
          by_cases hj0 : j = 0
          · subst hj0
            have HM : Hid (m = N + 1) := by
              show _ = _
              omega
            go_wp2
            go_ret
            refine ⟨_, l ++ List.replicate m ⟨ut, un, us⟩, rfl, ⟨?_, ?_, 2, by omega, ?_⟩, ?_, G.cur, G.grown⟩
            · simp only [List.length_append, List.length_replicate, HLC.out]
              have := HM.out
              omega
            · simp only [List.length_append, List.length_replicate, HLC.out]
              have := HM.out
              omega
            · intro v hv
              rcases List.mem_append.1 hv with h1 | h1
              · exact HALL.out v h1
              · rw [List.eq_of_mem_replicate h1]
                exact HXV.out
            · simp only [List.length_append, List.length_replicate, HLC.out]
              exact hown
          · obtain ⟨j, rfl⟩ : ∃ q, j = q + 1 := ⟨j - 1, by omega⟩
            have HVA : Hid (vals (l ++ List.replicate m (⟨ut, un, us⟩ : V)) ++ V.cs ⟨ut, un, us⟩ = vals (l ++ List.replicate (m + 1) (⟨ut, un, us⟩ : V))) := by
              show _ = _
              rw [List.replicate_succ', ← List.append_assoc]
              simp [vals]
            have HHD := Lib.hid hheld
            have HBW : Hid (Bx < wr.heap.size) := lt_of_cell hheld.1.1
            obtain ⟨⟨d0, d1, d2⟩, _⟩ := hheld
            simp only at d0 d1 d2
            have hjj : (((j + 1 : Nat) : Int) - 1) = (j : Int) := by omega
            rw [hjj]
            have hme : lc + m + 1 = lc + (m + 1) := by omega
            go_wp2_with (at_builtin; refine appendV_law Tryz.elemVals rfl _ _ rfl _ _ _ _ _ ⟨ut, un, us⟩ rfl hown rfl (by unfold maxLen; omega) (by omega) ?_)
            intro v3 w3 o3 e3
            have G3 := G.ext hown (Nat.le_refl _) e3
            have H3 : Held w3 Bx ⟨ut, un, us⟩ := by
              have hh := HHD.out
              have hb := e3.grown.block Bx HBW.out (fun e => hne e.symm)
              have hc : ∀ q, w3.cell? ⟨Bx, q, none⟩ = wr.cell? ⟨Bx, q, none⟩ := fun q => World.cell?_of_block hb
              have hf : ∀ q, w3.frozen? ⟨Bx, q, none⟩ = wr.frozen? ⟨Bx, q, none⟩ := fun q => World.frozen?_of_block hb
              exact ⟨⟨(hc 0).trans hh.1.1, (hc 1).trans hh.1.2.1, (hc 2).trans hh.1.2.2⟩, (hf 0).trans hh.2.1, (hf 1).trans hh.2.2.1, (hf 2).trans hh.2.2.2⟩
            have hne3 : v3.ownBlock ≠ some Bx := by
              intro hb
              rcases e3.blk with h1 | ⟨g', h1, h2⟩
              · exact hne (h1.symm.trans hb)
              · rw [hb] at h1
                obtain rfl : Bx = g' := by simpa using h1
                have := HBW.out
                omega
            rw [HVA.out] at o3
            have O3 := Lib.hid o3
            clear o3 e3 hown d0 d1 d2 hne G
            go_wp2
            go_roundw
            case rel => exact ⟨j, m + 1, by omega, by go_num, by rw [← hme]; exact O3.out, H3, hne3, G3⟩
            case measure => (simp [intOf]; try omega)

theorem Held.setT {W : World} {b : Nat} {v : V} (h : Held W b v) (n : Int) : Held (W.setCell ⟨b, 0, none⟩ (.int .i64 n)) b ⟨n, v.n, v.s⟩ := by
  refine ⟨⟨?_, ?_, ?_⟩, ?_, ?_, ?_⟩
  · exact World.cell?_setCell_same _ _ _ h.1.1
  · rw [World.cell?_setCell_other _ _ _ _ (by simp)]; exact h.1.2.1
  · rw [World.cell?_setCell_other _ _ _ _ (by simp)]; exact h.1.2.2
  · rw [World.frozen?_setCell]; exact h.2.1
  · rw [World.frozen?_setCell]; exact h.2.2.1
  · rw [World.frozen?_setCell]; exact h.2.2.2
theorem Held.setS {W : World} {b : Nat} {v : V} (h : Held W b v) (s : ByteArray) : Held (W.setCell ⟨b, 2, none⟩ (.string s)) b ⟨v.ty, v.n, s⟩ := by
  refine ⟨⟨?_, ?_, ?_⟩, ?_, ?_, ?_⟩
  · rw [World.cell?_setCell_other _ _ _ _ (by simp)]; exact h.1.1
  · rw [World.cell?_setCell_other _ _ _ _ (by simp)]; exact h.1.2.1
  · exact World.cell?_setCell_same _ _ _ h.1.2.2
  · rw [World.frozen?_setCell]; exact h.2.1
  · rw [World.frozen?_setCell]; exact h.2.2.1
  · rw [World.frozen?_setCell]; exact h.2.2.2

/-- The texts that l3Any draws. -/
def texts5 : List ByteArray := [⟨#[97, 32, 98]⟩, ⟨#[115, 101, 118, 101, 110, 55, 55]⟩, ⟨#[127]⟩, ⟨#[126]⟩, ⟨#[33]⟩]
theorem texts5_len {s : ByteArray} (h : s ∈ texts5) : s.size ≤ 7 := by
  simp only [texts5, List.mem_cons, List.not_mem_nil, or_false] at h
  rcases h with rfl | rfl | rfl | rfl | rfl <;> decide +kernel

set_option maxHeartbeats 1000000 in
theorem l3Any (c : Code) (g : Nat) (w : World) (h : Cur c g w) :
    Calls Tryz.prog 60 #[.pointer (some ⟨g, 0, none⟩)] w (DrewVal c g w Fair) := by
  have G0 := (Going.start h).alloc (.cells #[.int .i64 0, .int .i64 0, .string ⟨#[]⟩] 54)
  have H0 : Held _ _ _ := held_new w V.zero 54
  simp only [V.zero] at H0
  generalize hw0 : w.alloc (.cells #[.int .i64 0, .int .i64 0, .string ⟨#[]⟩] 54) = W0 at G0 H0
  have HW0 := Lib.hid hw0
  clear hw0
  have hgl := h.lt
  go_enter Tryz.func60, Tryz.ntmps60
  go_wp2_with fail
  rw [HW0.out]
  refine (l3Draw c g _ G0.cur).mono ?_
  rintro e w1 ⟨x, rfl, hx, hc1, hg1⟩
  have hfx : Fair x := by
    rcases hx with h1 | h1
    · exact h1.fair
    · exact h1.fair
  have G1 := G0.next hc1 hg1
  have H1 := H0.draw hg1 (by omega)
  obtain ⟨xt, xn, xs⟩ := x
  have HFX := Lib.hid hfx
  have G2 := G1.alloc (.cells #[.int .i64 xt, .int .i64 xn, .string xs] 54)
  have H2 := H1.below (below_alloc w1 (.cells #[.int .i64 xt, .int .i64 xn, .string xs] 54))
  have HV2 := held_new w1 ⟨xt, xn, xs⟩ 54
  simp only at HV2
  have HGB : Hid ((g < w1.heap.size ∧ w.heap.size < w1.heap.size) ∧ w.heap.size ≤ w1.heap.size) := ⟨⟨hc1.lt, lt_of_cell H1.1.1⟩, G1.grown.size⟩
  clear hx hfx hc1 hg1 G0 H0 G1 H1
  generalize hwb : w1.alloc (.cells #[.int .i64 xt, .int .i64 xn, .string xs] 54) = wb at G2 H2 HV2
  have HWB := Lib.hid hwb
  have HSB : Hid (wb.heap.size = w1.heap.size + 1) := by
    show _ = _
    rw [← hwb]
    simp
  clear hwb
  generalize hBx : w1.heap.size = Bx at HV2 HGB HSB
  have HBX := Lib.hid hBx
  have hgb := HGB.out.1
  clear hBx
  go_wp2_with fail
  rw [HWB.out, HBX.out]
  refine (l1Below c g _ _ G2.cur).mono ?_
  rintro e w2 ⟨y, rfl, hy, hc2, hg2⟩
  have G := G2.next hc2 hg2
  have HR := H2.draw hg2 (by omega)
  have HV := HV2.draw hg2 (by omega)
  clear G2 H2 HV2 hg2 hc2
  by_cases e0 : y = 0
  · subst e0
    go_wp2_with fail
    refine (l1IntLit c g [0, 1, 2, 3] 4 w2 rfl (by omega) (by omega) G.cur _ rfl).mono ?_
    rintro e w3 ⟨z, rfl, HX3, hc3, hg3⟩
    have HF : Hid (Fair ⟨z, xn, xs⟩) := ⟨⟨by have := (by decide +kernel : ∀ x ∈ ([0, 1, 2, 3] : List Int), -9223372036854775808 ≤ x) z HX3; exact this, by have := (by decide +kernel : ∀ x ∈ ([0, 1, 2, 3] : List Int), x ≤ 9223372036854775807) z HX3; exact this⟩, HFX.out.n, HFX.out.s⟩
    have G3 := G.next hc3 hg3
    obtain ⟨⟨c0, c1, c2⟩, f0, f1, f2⟩ := HV.draw hg3 (by omega)
    obtain ⟨⟨r0, r1, r2⟩, f3, f4, f5⟩ := HR.draw hg3 (by omega)
    simp only at c0 c1 c2 r0 r1 r2
    have hne1 : ¬ Bx = w.heap.size := by omega
    have hne2 : ¬ w.heap.size = Bx := by omega
    have GF := Lib.hid ((G3.set (b := Bx) HGB.out.2 0 (.int .i64 z)).set3 (b := w.heap.size) (Nat.le_refl _) (.int .i64 z) (.int .i64 xn) (.string xs))
    clear HV HR G G3 hc3 hg3 HX3
    go_wp2
    exact bodyPost_ret (v := V.agg ⟨z, xn, xs⟩) (by simp [results, Tryz.results60, go_sem, *]) rfl ⟨_, rfl, HF.out, GF.out.cur, GF.out.grown⟩
  · have b0 : (y == 0) = false := by simp [e0]
    by_cases e1 : y = 1
    · subst e1
      go_wp2_with fail
      refine (l1Raw c g _ G.cur).mono ?_
      rintro e w3 ⟨z, rfl, HX3, hc3, hg3⟩
      have HF : Hid (Fair ⟨xt, z, xs⟩) := ⟨HFX.out.ty, HX3, HFX.out.s⟩
      have G3 := G.next hc3 hg3
      obtain ⟨⟨c0, c1, c2⟩, f0, f1, f2⟩ := HV.draw hg3 (by omega)
      obtain ⟨⟨r0, r1, r2⟩, f3, f4, f5⟩ := HR.draw hg3 (by omega)
      simp only at c0 c1 c2 r0 r1 r2
      have hne1 : ¬ Bx = w.heap.size := by omega
      have hne2 : ¬ w.heap.size = Bx := by omega
      have GF := Lib.hid ((G3.set (b := Bx) HGB.out.2 1 (.int .i64 z)).set3 (b := w.heap.size) (Nat.le_refl _) (.int .i64 xt) (.int .i64 z) (.string xs))
      clear HV HR G G3 hc3 hg3 HX3
      go_wp2
      exact bodyPost_ret (v := V.agg ⟨xt, z, xs⟩) (by simp [results, Tryz.results60, go_sem, *]) rfl ⟨_, rfl, HF.out, GF.out.cur, GF.out.grown⟩
    · have b1 : (y == 1) = false := by simp [e1]
      by_cases e2 : y = 2
      · subst e2
        go_wp2_with fail
        refine (l1StrVLit c g texts5 5 w2 rfl (by omega) (by omega) G.cur _ rfl).mono ?_
        rintro e w3 ⟨z, HX3, rfl, hc3, hg3⟩
        have HF : Hid (Fair ⟨xt, xn, z⟩) := ⟨HFX.out.ty, HFX.out.n, texts5_len HX3⟩
        have G3 := G.next hc3 hg3
        obtain ⟨⟨c0, c1, c2⟩, f0, f1, f2⟩ := HV.draw hg3 (by omega)
        obtain ⟨⟨r0, r1, r2⟩, f3, f4, f5⟩ := HR.draw hg3 (by omega)
        simp only at c0 c1 c2 r0 r1 r2
        have hne1 : ¬ Bx = w.heap.size := by omega
        have hne2 : ¬ w.heap.size = Bx := by omega
        have GF := Lib.hid ((G3.set (b := Bx) HGB.out.2 2 (.string z)).set3 (b := w.heap.size) (Nat.le_refl _) (.int .i64 xt) (.int .i64 xn) (.string z))
        clear HV HR G G3 hc3 hg3 HX3
        go_wp2
        exact bodyPost_ret (v := V.agg ⟨xt, xn, z⟩) (by simp [results, Tryz.results60, go_sem, *]) rfl ⟨_, rfl, HF.out, GF.out.cur, GF.out.grown⟩
      · have b2 : (y == 2) = false := by simp [e2]
        clear e0 e1 e2 hy
        have HF := HFX
        obtain ⟨⟨r0, r1, r2⟩, f0, f1, f2⟩ := HR
        obtain ⟨⟨c0, c1, c2⟩, _⟩ := HV
        simp only at c0 c1 c2 r0 r1 r2
        have GF := Lib.hid (G.set3 (b := w.heap.size) (Nat.le_refl _) (.int .i64 xt) (.int .i64 xn) (.string xs))
        clear G
        go_wp2
        exact bodyPost_ret (v := V.agg ⟨xt, xn, xs⟩) (by simp [results, Tryz.results60, go_sem, *]) rfl ⟨_, rfl, HF.out, GF.out.cur, GF.out.grown⟩

end Go.Proofs.YthniakklkepomaaGreat

/- Drawing lists of Vals, of one type or of any (l5Any), and a type (l5Type). -/
namespace Go.Proofs.YthniakklkepomaaGreat
open Go.RowKit

/-- What l5Any draws. -/
def AnyList (l : List V) : Prop := l.length ≤ 16 ∧ ∀ v ∈ l, Fair v
theorem Drawn.any {l : List V} (h : Drawn l) : AnyList l := by
  obtain ⟨h1, h2, ty, _, h3⟩ := h
  exact ⟨by omega, fun v hv => (h3 v hv).fair⟩
theorem AnyList.sizes {l : List V} (h : AnyList l) : ∀ v ∈ l, v.s.size ≤ maxLen := fun v hv => by
  have := (h.2 v hv).s
  unfold maxLen
  omega

set_option maxHeartbeats 1000000 in
theorem l5Any (c : Code) (g : Nat) (w : World) (h : Cur c g w) :
    Calls Tryz.prog 35 #[.pointer (some ⟨g, 0, none⟩)] w (DrewVals c g w AnyList) := by
  have hgl := h.lt
  go_enter Tryz.func35, Tryz.ntmps35
  go_wp2_with fail
  refine (l5Draw c g _ h).mono ?_
  rintro e w1 ⟨v1, l, rfl, hl, o1, hc1, hg1⟩
  have G1 := (Going.start h).next hc1 hg1
  have HA := Lib.hid hl.any
  have HL15 : Hid (l.length ≤ 15) := hl.2.1
  clear hl hc1 hg1
  generalize hlc : l.length = lc at o1
  have HLC := Lib.hid hlc
  have hl16 : lc ≤ 15 := by rw [← hlc]; exact HL15.out
  clear hlc
  obtain ⟨b2, cp2, rfl⟩ : ∃ b cp, v1 = .slice (some ⟨b, 0, none⟩) lc cp := by
    obtain ⟨b, cp, e, _⟩ := o1
    exact ⟨b, cp, e⟩
  go_wp2_with fail
  refine (l1Below c g _ _ G1.cur).mono ?_
  rintro e w2 ⟨y, rfl, hy, hc2, hg2⟩
  have G2 := G1.next hc2 hg2
  have O2 := (o1.draw hg2 hgl).wide hg2.size
  clear o1 G1 hc2 hg2
  by_cases e0 : y = 0
  · subst e0
    go_wp2_with fail
    refine (l3Any c g _ G2.cur).mono ?_
    rintro e w3 ⟨x, rfl, HX, hc3, hg3⟩
    have G3 := G2.next hc3 hg3
    have O3 := (O2.draw hg3 hgl).wide hg3.size
    obtain ⟨xt, xn, xs⟩ := x
    have HX3 := Lib.hid HX
    have HVA : Hid (vals l ++ V.cs ⟨xt, xn, xs⟩ = vals (l ++ [(⟨xt, xn, xs⟩ : V)])) := by
      show _ = _
      simp [vals]
    clear HX hc3 hg3 O2 G2
    go_wp2_with (at_builtin; refine appendV_law Tryz.elemVals rfl _ _ rfl _ _ _ _ _ ⟨xt, xn, xs⟩ rfl O3 rfl (by unfold maxLen; omega) (by omega) ?_)
    intro v4 w4 o4 e4
    have G4 := G3.ext O3 (Nat.le_refl _) e4
    rw [HVA.out] at o4
    have O4 := Lib.hid o4
    clear o4 e4 O3 G3
    go_wp2
    go_ret
    refine ⟨_, l ++ [⟨xt, xn, xs⟩], rfl, ⟨?_, ?_⟩, by rw [List.length_append, List.length_singleton, HLC.out]; exact O4.out, G4.cur, G4.grown⟩
    · rw [List.length_append, List.length_singleton, HLC.out]
      omega
    · intro v hv
      rcases List.mem_append.1 hv with h1 | h1
      · exact HA.out.2 v h1
      · obtain rfl := List.mem_singleton.1 h1
        exact HX3.out
  · have b0 : (y == 0) = false := by simp [e0]
    by_cases e1 : y = 1
    · subst e1
      have O3 := (own_lit (e := 54) (size := 3) w2 #[] 0 (Nat.zero_le _) rfl).lower G2.grown.size
      have G3 := G2.alloc (.cells #[] 54)
      clear O2 G2
      go_wp2
      go_ret
      exact ⟨_, [], rfl, ⟨by simp, fun v hv => by cases hv⟩, O3, G3.cur, G3.grown⟩
    · have b1 : (y == 1) = false := by simp [e1]
      clear e0 e1 hy
      go_wp2
      go_ret
      exact ⟨_, l, rfl, HA.out, by rw [HLC.out]; exact O2, G2.cur, G2.grown⟩

set_option maxHeartbeats 1000000 in
theorem l5Type (c : Code) (g : Nat) (u : Value) (n : Nat) (l : List V) (w : World) (hl : l.length = n) (hn : 1 ≤ n) (hn2 : n ≤ 1000) (hf : ∀ v ∈ l, Fair v) (hu : Rd 3 w u n (vals l)) (h : Cur c g w) :
    Calls Tryz.prog 48 #[.pointer (some ⟨g, 0, none⟩), u] w fun e w' => ∃ ty k : Int, e = .returned (.tuple #[.int .i64 ty, .int .i64 k]) ∧ I64 ty ∧ I64 k ∧ Cur c g w' ∧ w.grownBy w' (some g) := by
  have hgl := h.lt
  obtain ⟨a, cap, rfl, _, HC⟩ := hu.vals hl
  obtain ⟨b, off, rfl, c0, c1, c2⟩ := HC.out 0 (by omega)
  have HT : Hid (I64 (l.getD 0 V.zero).ty) := by
    have hk : 0 < l.length := by omega
    have e : l.getD 0 V.zero = l[0] := by simp [hk]
    rw [e]
    exact (hf _ (List.getElem_mem hk)).ty
  generalize l.getD 0 V.zero = x at c0 c1 c2 HT
  obtain ⟨xt, xn, xs⟩ := x
  simp only [Nat.zero_mul, Nat.add_zero] at c0 c1 c2 HT
  have G0 := Going.start h
  clear hf HC hu
  go_enter Tryz.func48, Tryz.ntmps48
  go_wp2_with fail
  refine (l1Below c g _ _ G0.cur).mono ?_
  rintro e w2 ⟨y, rfl, hy, hc2, hg2⟩
  have G2 := G0.next hc2 hg2
  clear G0 hc2 hg2 c0 c1 c2
  by_cases e0 : y = 0
  · subst e0
    go_wp2_with fail
    refine (l1Below c g _ _ G2.cur).mono ?_
    rintro e w3 ⟨z, rfl, hz, hc3, hg3⟩
    have G3 := G2.next hc3 hg3
    have HZ : Hid (I64 z) := ⟨by omega, by omega⟩
    clear hz
    go_wp2
    go_ret2
    exact ⟨_, _, rfl, HZ.out, ⟨by omega, by omega⟩, G3.cur, G3.grown⟩
  · have b0 : (y == 0) = false := by simp [e0]
    by_cases e1 : y = 1
    · subst e1
      go_wp2_with fail
      refine (l1IntLit c g [0, (n : Int) + 1, (n : Int) - 1, 65, -1] 5 w2 rfl (by omega) (by omega) G2.cur _ rfl).mono ?_
      rintro e w3 ⟨z, rfl, hz, hc3, hg3⟩
      have G3 := G2.next hc3 hg3
      have HZ : Hid (I64 z) := by
        simp only [List.mem_cons, List.not_mem_nil, or_false] at hz
        rcases hz with rfl | rfl | rfl | rfl | rfl <;> exact ⟨by omega, by omega⟩
      clear hz
      go_wp2
      go_ret2
      exact ⟨_, _, rfl, HT.out, HZ.out, G3.cur, G3.grown⟩
    · have b1 : (y == 1) = false := by simp [e1]
      clear e0 e1 hy
      go_wp2
      go_ret2
      exact ⟨_, _, rfl, HT.out, ⟨by omega, by omega⟩, G2.cur, G2.grown⟩

end Go.Proofs.YthniakklkepomaaGreat
