/- Texts of this claim, one behind the other: DrawV, DrawV2, Draw5A, Draw11r, Draw11s, Draw13. -/
import Derived.Test.YtkofafefnlommaaP6
import Derived.Test.YtkofafefnlommaaP12
import Derived.Test.YtkofafefnlommaaP4
import Derived.Test.YtkofafefnlommaaP3
import Derived.Test.YtkofafefnlommaaP8

/- The contracts of the model's functions that draw values: l3Int, l3Text, l3Draw, l3Any, l3List. -/
namespace Go.Proofs.Ytkofafefnlommaa
open Go.RowKit

set_option maxHeartbeats 400000 in
theorem l1StrV (c : Code) (g : Nat) (v : Value) (m : Nat) (ss : List ByteArray) (w : World) (hm : ss.length = m) (h0 : 0 < m) (hv : At 1 w v m (strs ss)) (hne : v.ownBlock ≠ some g) (h : Cur c g w) :
    Calls Try.prog 78 #[.pointer (some ⟨g, 0, none⟩), v] w fun e w' => ∃ l ∈ ss, e = .returned (.string l) ∧ Cur c g w' ∧ w.grownBy w' (some g) := by
  obtain ⟨b, off, cap, rfl, h1, h2, h3, hc⟩ := hv
  unfold maxLen at h2
  go_enter Try.func78, Try.ntmps78
  go_wp2_with fail
  refine (l1Below c g _ _ h).mono ?_
  rintro e w1 ⟨x, rfl, hx, hc1, hg1⟩
  obtain ⟨k, rfl⟩ := Int.eq_ofNat_of_zero_le hx.1
  have hk : k < m := by omega
  have hbg : b ≠ g := by simpa [Value.ownBlock] using hne
  have hcx := hc k _ (strs_get (by omega))
  have hcx1 : w1.cell? ⟨b, off + k, none⟩ = some (.string (ss.getD k ⟨#[]⟩)) := (World.cell?_of_block (w := w) (hg1.block b (lt_of_cell hcx) (fun e => hbg (by simpa using e)))).trans hcx
  have hmem : Hid (ss.getD k ⟨#[]⟩ ∈ ss) := by
    show _ ∈ _
    have hk' : k < ss.length := by omega
    have e : ss.getD k ⟨#[]⟩ = ss[k] := by simp [hk']
    rw [e]
    exact List.getElem_mem hk'
  generalize ss.getD k ⟨#[]⟩ = z at hcx1 hmem
  clear hcx hc hx h3
  go_wp2
  go_ret
  exact ⟨_, hmem.out, rfl, hc1, hg1⟩
theorem strVlit_at (w : World) (ss : List ByteArray) (n : Nat) (hn : ss.length = n) (hm : n ≤ 1000) : At 1 (w.alloc (.cells (strs ss).toArray 9)) (.slice (some ⟨w.heap.size, 0, none⟩) n n) n (strs ss) := by
  have := own_lit (e := 9) (size := 1) w (strs ss).toArray n (by unfold maxLen; omega) (by simp [strs, hn])
  simpa using this.at
theorem l1StrVLit (c : Code) (g : Nat) (ss : List ByteArray) (n : Nat) (w : World) (hn : ss.length = n) (h0 : 0 < n) (hm : n ≤ 1000) (h : Cur c g w) (arr : Array Value) (ha : arr = (strs ss).toArray) :
    Calls Try.prog 78 #[.pointer (some ⟨g, 0, none⟩), .slice (some ⟨w.heap.size, 0, none⟩) n n] (w.alloc (.cells arr 9)) fun e w' => ∃ l ∈ ss, e = .returned (.string l) ∧ Cur c g w' ∧ w.grownBy w' (some g) := by
  subst ha
  refine (l1StrV c g _ n ss _ hn h0 (strVlit_at w ss n hn hm) ?_ (h.alloc _)).mono ?_
  · have := h.lt
    simp [Value.ownBlock]
    omega
  · rintro e w1 ⟨x, hx, rfl, hc1, hg1⟩
    exact ⟨x, hx, rfl, hc1, (grownBy_alloc w _ _).trans hg1⟩

theorem l1StrVLitAt (c : Code) (g N : Nat) (ss : List ByteArray) (n : Nat) (w : World) (hN : w.heap.size = N) (hn : ss.length = n) (h0 : 0 < n) (hm : n ≤ 1000) (h : Cur c g w) (arr : Array Value) (ha : arr = (strs ss).toArray) :
    Calls Try.prog 78 #[.pointer (some ⟨g, 0, none⟩), .slice (some ⟨N, 0, none⟩) n n] (w.alloc (.cells arr 9)) fun e w' => ∃ l ∈ ss, e = .returned (.string l) ∧ Cur c g w' ∧ w.grownBy w' (some g) := by
  subst hN
  exact l1StrVLit c g ss n w hn h0 hm h arr ha

theorem wrap64_in {x : Int} (h0 : -9223372036854775808 ≤ x) (h1 : x ≤ 9223372036854775807) : wrap64 x = x := by
  unfold wrap64
  omega
theorem prod_ok {y z : Int} (hy : 0 ≤ y) (hy2 : y < 30000) (hz : 0 ≤ z) (hz2 : z < 30000) : Num.ok (y * (z - 15000)) := by
  have h1 : y * (z - 15000) ≤ 30000 * 15000 := by
    by_cases hc : 0 ≤ z - 15000
    · exact Int.mul_le_mul (by omega) (by omega) hc (by omega)
    · have := Int.mul_nonpos_of_nonneg_of_nonpos hy (show z - 15000 ≤ 0 by omega)
      omega
  have h2 : -(30000 * 15000) ≤ y * (z - 15000) := by
    have h3 : y * (15000 - z) ≤ 30000 * 15000 := by
      by_cases hc : 0 ≤ 15000 - z
      · exact Int.mul_le_mul (by omega) (by omega) hc (by omega)
      · have := Int.mul_nonpos_of_nonneg_of_nonpos hy (show 15000 - z ≤ 0 by omega)
        omega
    have h4 : y * (z - 15000) = -(y * (15000 - z)) := by
      rw [← Int.mul_neg]
      congr 1
      omega
    omega
  unfold Num.ok
  omega

set_option maxHeartbeats 1000000 in
theorem l1NumOk (c : Code) (g : Nat) (w : World) (h : Cur c g w) :
    Calls Try.prog 77 #[.pointer (some ⟨g, 0, none⟩)] w (DrewInt c g w Num.ok) := by
  go_enter Try.func77, Try.ntmps77
  go_wp2_with fail
  refine (l1Below c g _ _ h).mono ?_
  rintro e w1 ⟨x, rfl, hx, hc1, hg1⟩
  have hx5 : x < 5 := by omega
  obtain ⟨hx0, _⟩ := hx
  by_cases e0 : x = 0
  · subst e0
    go_wp2_with fail
    refine (l1Below c g _ _ hc1).mono ?_
    rintro e w2 ⟨y, rfl, hy, hc2, hg2⟩
    go_wp2
    go_ret
    exact ⟨_, rfl, by unfold Num.ok; omega, hc2, hg1.trans hg2⟩
  · have b0 : (x == 0) = false := by simp [e0]
    by_cases e1 : x = 1
    · subst e1
      go_wp2_with fail
      refine (l1IntLit c g [0, -1, 1, 63, 64, -64, -65, 8191, 8192, 1000000000, -1000000000, 999999999] 12 w1 rfl (by omega) (by omega) hc1 _ rfl).mono ?_
      rintro e w2 ⟨y, rfl, hy, hc2, hg2⟩
      have H : Hid (Num.ok y) := ⟨(by decide +kernel : ∀ x ∈ ([0, -1, 1, 63, 64, -64, -65, 8191, 8192, 1000000000, -1000000000, 999999999] : List Int), -1000000000 ≤ x) y hy, (by decide +kernel : ∀ x ∈ ([0, -1, 1, 63, 64, -64, -65, 8191, 8192, 1000000000, -1000000000, 999999999] : List Int), x ≤ 1000000000) y hy⟩
      clear hy
      go_wp2
      go_ret
      exact ⟨_, rfl, H.out, hc2, hg1.trans hg2⟩
    · have b1 : (x == 1) = false := by simp [e1]
      by_cases e2 : x = 2
      · subst e2
        go_wp2_with fail
        refine (l1Below c g _ _ hc1).mono ?_
        rintro e w2 ⟨y, rfl, hy, hc2, hg2⟩
        go_wp2_with fail
        refine (l1Below c g _ _ hc2).mono ?_
        rintro e w3 ⟨z, rfl, hz, hc3, hg3⟩
        have hok := prod_ok hy.1 (by omega) hz.1 (by omega)
        have H : Hid (∀ q, q = y * (z - 15000) → Num.ok (wrap64 q)) := fun q hq => by
          subst hq
          have h1 := hok
          unfold Num.ok at h1
          rw [wrap64_in (by omega) (by omega)]
          exact hok
        clear hok
        go_wp2
        go_ret
        exact ⟨_, rfl, H.out _ rfl, hc3, (hg1.trans hg2).trans hg3⟩
      · have b2 : (x == 2) = false := by simp [e2]
        clear e0 e1 e2
        go_wp2_with fail
        refine (l1Below c g _ _ hc1).mono ?_
        rintro e w2 ⟨y, rfl, hy, hc2, hg2⟩
        go_wp2
        go_ret
        exact ⟨_, rfl, by unfold Num.ok; omega, hc2, hg1.trans hg2⟩

/-- A value with P is returned; the cursor goes on; nothing else of old memory has turned. -/
def DrewVal (c : Code) (g : Nat) (w : World) (P : V → Prop) (e : Ending) (w' : World) : Prop :=
  ∃ x : V, e = .returned x.agg ∧ P x ∧ Cur c g w' ∧ w.grownBy w' (some g)

/-- Right, and of this type. -/
def OfTy (ty : Int) (v : V) : Prop := okV v = true ∧ v.ty = ty
theorem ofTy_int {n : Int} (h : Num.ok n) : OfTy 1 ⟨1, n, ⟨#[]⟩⟩ := by
  refine ⟨?_, rfl⟩
  unfold okV
  simp only [if_true, Bool.and_eq_true]
  exact ⟨Num.okB_true.2 h, rfl⟩

theorem Held.draw {W W' : World} {b g : Nat} {v : V} (h : Held W b v) (hg : W.grownBy W' (some g)) (hne : b ≠ g) : Held W' b v := by
  have hb := hg.block b (lt_of_cell h.1.1) (fun e => hne (by simpa using e))
  have hc : ∀ j, W'.cell? ⟨b, j, none⟩ = W.cell? ⟨b, j, none⟩ := fun j => World.cell?_of_block hb
  have hf : ∀ j, W'.frozen? ⟨b, j, none⟩ = W.frozen? ⟨b, j, none⟩ := fun j => World.frozen?_of_block hb
  exact ⟨⟨(hc 0).trans h.1.1, (hc 1).trans h.1.2.1, (hc 2).trans h.1.2.2⟩, (hf 0).trans h.2.1, (hf 1).trans h.2.2.1, (hf 2).trans h.2.2.2⟩
/-- The cursor, while a draw goes on that began in w. -/
structure Going (c : Code) (g : Nat) (w w' : World) : Prop where
  cur : Cur c g w'
  grown : w.grownBy w' (some g)
  lt : g < w.heap.size
  code : ∀ x, c.a = some x → 0 < c.len → x.block < w.heap.size
theorem Going.start {c : Code} {g : Nat} {w : World} (h : Cur c g w) : Going c g w w := ⟨h, grownBy_refl _ _, h.lt, h.1.lt⟩
theorem Going.next {c : Code} {g : Nat} {w w1 w2 : World} (h : Going c g w w1) (hc : Cur c g w2) (hg : w1.grownBy w2 (some g)) : Going c g w w2 := ⟨hc, h.grown.trans hg, h.lt, h.code⟩
theorem Going.alloc {c : Code} {g : Nat} {w w1 : World} (h : Going c g w w1) (o : Obj) : Going c g w (w1.alloc o) := h.next (h.cur.alloc o) (grownBy_alloc w1 o _)
theorem Going.below {c : Code} {g : Nat} {w w1 w2 : World} (h : Going c g w w1) (hb : Below w1.heap.size w1 w2) : Going c g w w2 := h.next (h.cur.below hb) (grownBy_below hb _)
/-- A block of the draw's own is written. -/
theorem Going.own {c : Code} {g b : Nat} {w w1 w2 : World} (h : Going c g w w1) (hb : w.heap.size ≤ b) (hg : w1.grownBy w2 (some b)) : Going c g w w2 := by
  have hl := h.lt
  refine ⟨h.cur.grown hg (fun k hk => ?_), ?_, h.lt, h.code⟩
  · obtain rfl : b = k := by simpa using hk
    exact ⟨by omega, fun x hx h0 => by have := h.code x hx h0; omega⟩
  · have g1 := h.grown
    refine ⟨hg.os.trans g1.os, hg.tape.trans g1.tape, hg.output.trans g1.output, Nat.le_trans g1.size hg.size, fun i hi hne => ?_⟩
    exact (hg.block i (by have := g1.size; omega) (fun e => by have : i = b := by simpa using e
                                                               omega)).trans (g1.block i hi hne)
theorem Going.set {c : Code} {g b : Nat} {w w1 : World} (h : Going c g w w1) (hb : w.heap.size ≤ b) (j : Nat) (v : Value) : Going c g w (w1.setCell ⟨b, j, none⟩ v) := h.own hb (grownBy_setCell w1 b j v)
theorem Going.set3 {c : Code} {g b : Nat} {w w1 : World} (h : Going c g w w1) (hb : w.heap.size ≤ b) (x y z : Value) : Going c g w (((w1.setCell ⟨b, 0, none⟩ x).setCell ⟨b, 1, none⟩ y).setCell ⟨b, 2, none⟩ z) := ((h.set hb 0 x).set hb 1 y).set hb 2 z
theorem Going.ext {c : Code} {g lo hi n size : Nat} {e : TypeId} {w w1 w2 : World} {v v' : Value} {xs : List Value} (h : Going c g w w1) (ho : Own e size lo hi w1 v n xs) (hlo : w.heap.size ≤ lo) (hx : Ext w1 w2 v v') : Going c g w w2 := by
  obtain ⟨b, cp, rfl, h1, _, _⟩ := ho
  exact h.own (b := b) (by omega) hx.grown

set_option maxHeartbeats 1000000 in
theorem l3Int (c : Code) (g : Nat) (w : World) (h : Cur c g w) :
    Calls Try.prog 63 #[.pointer (some ⟨g, 0, none⟩)] w (DrewVal c g w (OfTy 1)) := by
  have G0 := (Going.start h).alloc (.cells #[.int .i64 0, .int .i64 0, .string ⟨#[]⟩] 76)
  have H0 : Held _ _ _ := held_new w V.zero 76
  simp only [V.zero] at H0
  have HSZ0 : Hid ((w.alloc (.cells #[.int .i64 0, .int .i64 0, .string ⟨#[]⟩] 76)).heap.size = w.heap.size + 1) := World.size_alloc _ _
  generalize hw0 : w.alloc (.cells #[.int .i64 0, .int .i64 0, .string ⟨#[]⟩] 76) = W0 at G0 H0 HSZ0
  have HW0 := Lib.hid hw0
  clear hw0
  have hgl := h.lt
  go_enter Try.func63, Try.ntmps63
  go_wp2_with fail
  rw [HW0.out]
  refine (l1Once c g _ _ G0.cur).mono ?_
  rintro e w1 ⟨b, rfl, hc1, hg1⟩
  have G1 := G0.next hc1 hg1
  have H1 := H0.draw hg1 (by omega)
  cases b with
  | true =>
    go_wp2_with fail
    refine (l1NumOk c g _ hc1).mono ?_
    rintro e w2 ⟨x, rfl, H, hc2, hg2⟩
    have HH := Lib.hid (ofTy_int H)
    have G2 := G1.next hc2 hg2
    obtain ⟨⟨c0, c1, c2⟩, f0, f1, f2⟩ := H1.draw hg2 (by omega)
    have G3 := Lib.hid (G2.set3 (Nat.le_refl _) (.int .i64 1) (.int .i64 x) (.string ⟨#[]⟩))
    clear H hc2 hg2 hc1 hg1 G0 H0 G1 H1 G2
    go_wp2
    exact bodyPost_ret (v := V.agg ⟨1, x, ⟨#[]⟩⟩) (by simp [results, Try.results63, go_sem, *]) rfl ⟨_, rfl, HH.out, G3.out.cur, G3.out.grown⟩
  | false =>
    go_wp2_with fail
    refine (l1IntLit c g [0, 1, 2, 3, 7, -1] 6 w1 rfl (by omega) (by omega) hc1 _ rfl).mono ?_
    rintro e w2 ⟨x, rfl, hx, hc2, hg2⟩
    have HH := Lib.hid (ofTy_int (n := x) ⟨(by decide +kernel : ∀ x ∈ ([0, 1, 2, 3, 7, -1] : List Int), -1000000000 ≤ x) x hx, (by decide +kernel : ∀ x ∈ ([0, 1, 2, 3, 7, -1] : List Int), x ≤ 1000000000) x hx⟩)
    have G2 := G1.next hc2 hg2
    obtain ⟨⟨c0, c1, c2⟩, f0, f1, f2⟩ := H1.draw hg2 (by omega)
    have G3 := Lib.hid (G2.set3 (Nat.le_refl _) (.int .i64 1) (.int .i64 x) (.string ⟨#[]⟩))
    clear hx hc2 hg2 hc1 hg1 G0 H0 G1 H1 G2
    go_wp2
    exact bodyPost_ret (v := V.agg ⟨1, x, ⟨#[]⟩⟩) (by simp [results, Try.results63, go_sem, *]) rfl ⟨_, rfl, HH.out, G3.out.cur, G3.out.grown⟩

/-- The texts that l3Text draws. -/
def texts8 : List ByteArray := [⟨#[]⟩, ⟨#[97]⟩, ⟨#[98]⟩, ⟨#[97, 98]⟩, ⟨#[114, 101, 100]⟩, ⟨#[98, 108, 117, 101]⟩, ⟨#[103, 114, 101, 101, 110]⟩, ⟨#[122, 122, 122, 122, 122, 122]⟩]
theorem texts8_ok {s : ByteArray} (h : s ∈ texts8) : OfTy 2 ⟨2, 0, s⟩ := by
  simp only [texts8, List.mem_cons, List.not_mem_nil, or_false] at h
  rcases h with rfl | rfl | rfl | rfl | rfl | rfl | rfl | rfl <;> exact ⟨by decide +kernel, rfl⟩

set_option maxHeartbeats 1000000 in
theorem l3Text (c : Code) (g : Nat) (w : World) (h : Cur c g w) :
    Calls Try.prog 64 #[.pointer (some ⟨g, 0, none⟩)] w (DrewVal c g w (OfTy 2)) := by
  have G0 := (Going.start h).alloc (.cells #[.int .i64 0, .int .i64 0, .string ⟨#[]⟩] 76)
  have H0 : Held _ _ _ := held_new w V.zero 76
  simp only [V.zero] at H0
  have HSZ0 : Hid ((w.alloc (.cells #[.int .i64 0, .int .i64 0, .string ⟨#[]⟩] 76)).heap.size = w.heap.size + 1) := World.size_alloc _ _
  generalize hw0 : w.alloc (.cells #[.int .i64 0, .int .i64 0, .string ⟨#[]⟩] 76) = W0 at G0 H0 HSZ0
  have HW0 := Lib.hid hw0
  clear hw0
  have hgl := h.lt
  go_enter Try.func64, Try.ntmps64
  go_wp2_with fail
  rw [HW0.out]
  refine (l1StrVLitAt c g _ texts8 8 W0 HSZ0.out rfl (by omega) (by omega) G0.cur _ rfl).mono ?_
  rintro e w2 ⟨s, hs, rfl, hc2, hg2⟩
  have HH := Lib.hid (texts8_ok hs)
  have G2 := G0.next hc2 hg2
  obtain ⟨⟨c0, c1, c2⟩, f0, f1, f2⟩ := H0.draw hg2 (by omega)
  have G3 := Lib.hid (G2.set3 (Nat.le_refl _) (.int .i64 2) (.int .i64 0) (.string s))
  clear hs hc2 hg2 G0 H0 G2
  go_wp2
  exact bodyPost_ret (v := V.agg ⟨2, 0, s⟩) (by simp [results, Try.results64, go_sem, *]) rfl ⟨_, rfl, HH.out, G3.out.cur, G3.out.grown⟩

set_option maxHeartbeats 1000000 in
theorem l3Draw (c : Code) (g : Nat) (w : World) (h : Cur c g w) :
    Calls Try.prog 84 #[.pointer (some ⟨g, 0, none⟩)] w (DrewVal c g w fun v => OfTy 1 v ∨ OfTy 2 v) := by
  have G0 := (Going.start h).alloc (.cells #[.int .i64 0, .int .i64 0, .string ⟨#[]⟩] 76)
  have H0 : Held _ _ _ := held_new w V.zero 76
  simp only [V.zero] at H0
  have HSZ0 : Hid ((w.alloc (.cells #[.int .i64 0, .int .i64 0, .string ⟨#[]⟩] 76)).heap.size = w.heap.size + 1) := World.size_alloc _ _
  generalize hw0 : w.alloc (.cells #[.int .i64 0, .int .i64 0, .string ⟨#[]⟩] 76) = W0 at G0 H0 HSZ0
  have HW0 := Lib.hid hw0
  clear hw0
  have hgl := h.lt
  go_enter Try.func84, Try.ntmps84
  go_wp2_with fail
  rw [HW0.out]
  refine (l1Once c g _ _ G0.cur).mono ?_
  rintro e w1 ⟨b, rfl, hc1, hg1⟩
  have G1 := G0.next hc1 hg1
  have H1 := H0.draw hg1 (by omega)
  cases b with
  | true =>
    go_wp2_with fail
    refine (l3Int c g _ hc1).mono ?_
    rintro e w2 ⟨x, rfl, H, hc2, hg2⟩
    have HH := Lib.hid H
    have G2 := G1.next hc2 hg2
    obtain ⟨⟨c0, c1, c2⟩, f0, f1, f2⟩ := H1.draw hg2 (by omega)
    obtain ⟨xt, xn, xs⟩ := x
    have G3 := Lib.hid (G2.set3 (Nat.le_refl _) (.int .i64 xt) (.int .i64 xn) (.string xs))
    clear H hc2 hg2 hc1 hg1 G0 H0 G1 H1 G2
    go_wp2
    exact bodyPost_ret (v := V.agg ⟨xt, xn, xs⟩) (by simp [results, Try.results84, go_sem, *]) rfl ⟨_, rfl, .inl HH.out, G3.out.cur, G3.out.grown⟩
  | false =>
    go_wp2_with fail
    refine (l3Text c g _ hc1).mono ?_
    rintro e w2 ⟨x, rfl, H, hc2, hg2⟩
    have HH := Lib.hid H
    have G2 := G1.next hc2 hg2
    obtain ⟨⟨c0, c1, c2⟩, f0, f1, f2⟩ := H1.draw hg2 (by omega)
    obtain ⟨xt, xn, xs⟩ := x
    have G3 := Lib.hid (G2.set3 (Nat.le_refl _) (.int .i64 xt) (.int .i64 xn) (.string xs))
    clear H hc2 hg2 hc1 hg1 G0 H0 G1 H1 G2
    go_wp2
    exact bodyPost_ret (v := V.agg ⟨xt, xn, xs⟩) (by simp [results, Try.results84, go_sem, *]) rfl ⟨_, rfl, .inr HH.out, G3.out.cur, G3.out.grown⟩

end Go.Proofs.Ytkofafefnlommaa

/- The contracts of the model's functions that draw lists of values: l3List, l3Any, l5Draw, l5Any, l5Type. -/
namespace Go.Proofs.Ytkofafefnlommaa
open Go.RowKit

/-- A value that may be drawn, right or not. -/
structure Fair (v : V) : Prop where
  ty : I64 v.ty
  n : I64 v.n
  s : v.s.size ≤ 7
theorem OfTy.fair {ty : Int} {v : V} (h : OfTy ty v) : Fair v := by
  obtain ⟨h1, h2⟩ := h
  obtain ⟨t, n, s⟩ := v
  unfold okV at h1
  by_cases ht : t = 1
  · subst ht
    simp only [if_true, Bool.and_eq_true, beq_iff_eq] at h1
    have := Num.okB_true.1 h1.1
    unfold Num.ok at this
    exact ⟨⟨by show _ ≤ (1 : Int); omega, by show (1 : Int) ≤ _; omega⟩, ⟨by show _ ≤ n; omega, by show n ≤ _; omega⟩, by show s.size ≤ 7; omega⟩
  · simp only [if_neg ht, Bool.and_eq_true, beq_iff_eq, txtB, decide_eq_true_eq] at h1
    obtain ⟨rfl, rfl, h3⟩ := h1
    exact ⟨⟨by show _ ≤ (2 : Int); omega, by show (2 : Int) ≤ _; omega⟩, ⟨by show _ ≤ (0 : Int); omega, by show (0 : Int) ≤ _; omega⟩, by show s.size ≤ 7; omega⟩
/-- A list of values with P is returned. -/
def DrewVals (c : Code) (g : Nat) (w : World) (P : List V → Prop) (e : Ending) (w' : World) : Prop :=
  ∃ (v : Value) (l : List V), e = .returned v ∧ P l ∧ Own 76 3 w.heap.size w'.heap.size w' v l.length (vals l) ∧ Cur c g w' ∧ w.grownBy w' (some g)

theorem grownBy_set3 (w : World) (b : Nat) (x y z : Value) : w.grownBy (((w.setCell ⟨b, 0, none⟩ x).setCell ⟨b, 1, none⟩ y).setCell ⟨b, 2, none⟩ z) (some b) :=
  ((grownBy_setCell w b 0 x).trans (grownBy_setCell _ b 1 y)).trans (grownBy_setCell _ b 2 z)
theorem held_set3 {W : World} {b : Nat} {v : V} (h : Held W b v) (u : V) : Held (((W.setCell ⟨b, 0, none⟩ (.int .i64 u.ty)).setCell ⟨b, 1, none⟩ (.int .i64 u.n)).setCell ⟨b, 2, none⟩ (.string u.s)) b u := by
  obtain ⟨⟨c0, c1, c2⟩, f0, f1, f2⟩ := h
  refine ⟨⟨?_, ?_, ?_⟩, ?_, ?_, ?_⟩
  · rw [World.cell?_setCell_other _ _ _ _ (by simp), World.cell?_setCell_other _ _ _ _ (by simp)]
    exact World.cell?_setCell_same _ _ _ c0
  · rw [World.cell?_setCell_other _ _ _ _ (by simp)]
    exact World.cell?_setCell_same _ _ _ (by rw [World.cell?_setCell_other _ _ _ _ (by simp)]; exact c1)
  · exact World.cell?_setCell_same _ _ _ (by rw [World.cell?_setCell_other _ _ _ _ (by simp), World.cell?_setCell_other _ _ _ _ (by simp)]; exact c2)
  · rw [World.frozen?_setCell, World.frozen?_setCell, World.frozen?_setCell]; exact f0
  · rw [World.frozen?_setCell, World.frozen?_setCell, World.frozen?_setCell]; exact f1
  · rw [World.frozen?_setCell, World.frozen?_setCell, World.frozen?_setCell]; exact f2

/-- What l5Draw draws. -/
def Drawn (l : List V) : Prop := 1 ≤ l.length ∧ l.length ≤ 15 ∧ ∃ ty, (ty = 1 ∨ ty = 2) ∧ ∀ v ∈ l, OfTy ty v

theorem Held.setT {W : World} {b : Nat} {v : V} (h : Held W b v) (n : Int) : Held (W.setCell ⟨b, 0, none⟩ (.int .i64 n)) b ⟨n, v.n, v.s⟩ := by
  refine ⟨⟨?_, ?_, ?_⟩, ?_, ?_, ?_⟩
  · exact World.cell?_setCell_same _ _ _ h.1.1
  · rw [World.cell?_setCell_other _ _ _ _ (by simp)]; exact h.1.2.1
  · rw [World.cell?_setCell_other _ _ _ _ (by simp)]; exact h.1.2.2
  · rw [World.frozen?_setCell]; exact h.2.1
  · rw [World.frozen?_setCell]; exact h.2.2.1
  · rw [World.frozen?_setCell]; exact h.2.2.2
theorem Held.setS {W : World} {b : Nat} {v : V} (h : Held W b v) (s : ByteArray) : Held (W.setCell ⟨b, 2, none⟩ (.string s)) b ⟨v.ty, v.n, s⟩ := by
  refine ⟨⟨?_, ?_, ?_⟩, ?_, ?_, ?_⟩
  · rw [World.cell?_setCell_other _ _ _ _ (by simp)]; exact h.1.1
  · rw [World.cell?_setCell_other _ _ _ _ (by simp)]; exact h.1.2.1
  · exact World.cell?_setCell_same _ _ _ h.1.2.2
  · rw [World.frozen?_setCell]; exact h.2.1
  · rw [World.frozen?_setCell]; exact h.2.2.1
  · rw [World.frozen?_setCell]; exact h.2.2.2

/-- The texts that l3Any draws. -/
def texts5 : List ByteArray := [⟨#[97, 32, 98]⟩, ⟨#[115, 101, 118, 101, 110, 55, 55]⟩, ⟨#[127]⟩, ⟨#[126]⟩, ⟨#[33]⟩]
theorem texts5_len {s : ByteArray} (h : s ∈ texts5) : s.size ≤ 7 := by
  simp only [texts5, List.mem_cons, List.not_mem_nil, or_false] at h
  rcases h with rfl | rfl | rfl | rfl | rfl <;> decide +kernel

set_option maxHeartbeats 1000000 in
theorem l3Any (c : Code) (g : Nat) (w : World) (h : Cur c g w) :
    Calls Try.prog 79 #[.pointer (some ⟨g, 0, none⟩)] w (DrewVal c g w Fair) := by
  have G0 := (Going.start h).alloc (.cells #[.int .i64 0, .int .i64 0, .string ⟨#[]⟩] 76)
  have H0 : Held _ _ _ := held_new w V.zero 76
  simp only [V.zero] at H0
  generalize hw0 : w.alloc (.cells #[.int .i64 0, .int .i64 0, .string ⟨#[]⟩] 76) = W0 at G0 H0
  have HW0 := Lib.hid hw0
  clear hw0
  have hgl := h.lt
  go_enter Try.func79, Try.ntmps79
  go_wp2_with fail
  rw [HW0.out]
  refine (l3Draw c g _ G0.cur).mono ?_
  rintro e w1 ⟨x, rfl, hx, hc1, hg1⟩
  have hfx : Fair x := by
    rcases hx with h1 | h1
    · exact h1.fair
    · exact h1.fair
  have G1 := G0.next hc1 hg1
  have H1 := H0.draw hg1 (by omega)
  obtain ⟨xt, xn, xs⟩ := x
  have HFX := Lib.hid hfx
  have G2 := G1.alloc (.cells #[.int .i64 xt, .int .i64 xn, .string xs] 76)
  have H2 := H1.below (below_alloc w1 (.cells #[.int .i64 xt, .int .i64 xn, .string xs] 76))
  have HV2 := held_new w1 ⟨xt, xn, xs⟩ 76
  simp only at HV2
  have HGB : Hid ((g < w1.heap.size ∧ w.heap.size < w1.heap.size) ∧ w.heap.size ≤ w1.heap.size) := ⟨⟨hc1.lt, lt_of_cell H1.1.1⟩, G1.grown.size⟩
  clear hx hfx hc1 hg1 G0 H0 G1 H1
  generalize hwb : w1.alloc (.cells #[.int .i64 xt, .int .i64 xn, .string xs] 76) = wb at G2 H2 HV2
  have HWB := Lib.hid hwb
  have HSB : Hid (wb.heap.size = w1.heap.size + 1) := by
    show _ = _
    rw [← hwb]
    simp
  clear hwb
  generalize hBx : w1.heap.size = Bx at HV2 HGB HSB
  have HBX := Lib.hid hBx
  have hgb := HGB.out.1
  clear hBx
  go_wp2_with fail
  rw [HWB.out, HBX.out]
  refine (l1Below c g _ _ G2.cur).mono ?_
  rintro e w2 ⟨y, rfl, hy, hc2, hg2⟩
  have G := G2.next hc2 hg2
  have HR := H2.draw hg2 (by omega)
  have HV := HV2.draw hg2 (by omega)
  clear G2 H2 HV2 hg2 hc2
  by_cases e0 : y = 0
  · subst e0
    go_wp2_with fail
    refine (l1IntLit c g [0, 1, 2, 3] 4 w2 rfl (by omega) (by omega) G.cur _ rfl).mono ?_
    rintro e w3 ⟨z, rfl, HX3, hc3, hg3⟩
    have HF : Hid (Fair ⟨z, xn, xs⟩) := ⟨⟨by have := (by decide +kernel : ∀ x ∈ ([0, 1, 2, 3] : List Int), -9223372036854775808 ≤ x) z HX3; exact this, by have := (by decide +kernel : ∀ x ∈ ([0, 1, 2, 3] : List Int), x ≤ 9223372036854775807) z HX3; exact this⟩, HFX.out.n, HFX.out.s⟩
    have G3 := G.next hc3 hg3
    obtain ⟨⟨c0, c1, c2⟩, f0, f1, f2⟩ := HV.draw hg3 (by omega)
    obtain ⟨⟨r0, r1, r2⟩, f3, f4, f5⟩ := HR.draw hg3 (by omega)
    simp only at c0 c1 c2 r0 r1 r2
    have hne1 : ¬ Bx = w.heap.size := by omega
    have hne2 : ¬ w.heap.size = Bx := by omega
    have GF := Lib.hid ((G3.set (b := Bx) HGB.out.2 0 (.int .i64 z)).set3 (b := w.heap.size) (Nat.le_refl _) (.int .i64 z) (.int .i64 xn) (.string xs))
    clear HV HR G G3 hc3 hg3 HX3
    go_wp2
    exact bodyPost_ret (v := V.agg ⟨z, xn, xs⟩) (by simp [results, Try.results79, go_sem, *]) rfl ⟨_, rfl, HF.out, GF.out.cur, GF.out.grown⟩
  · have b0 : (y == 0) = false := by simp [e0]
    by_cases e1 : y = 1
    · subst e1
      go_wp2_with fail
      refine (l1Raw c g _ G.cur).mono ?_
      rintro e w3 ⟨z, rfl, HX3, hc3, hg3⟩
      have HF : Hid (Fair ⟨xt, z, xs⟩) := ⟨HFX.out.ty, HX3, HFX.out.s⟩
      have G3 := G.next hc3 hg3
      obtain ⟨⟨c0, c1, c2⟩, f0, f1, f2⟩ := HV.draw hg3 (by omega)
      obtain ⟨⟨r0, r1, r2⟩, f3, f4, f5⟩ := HR.draw hg3 (by omega)
      simp only at c0 c1 c2 r0 r1 r2
      have hne1 : ¬ Bx = w.heap.size := by omega
      have hne2 : ¬ w.heap.size = Bx := by omega
      have GF := Lib.hid ((G3.set (b := Bx) HGB.out.2 1 (.int .i64 z)).set3 (b := w.heap.size) (Nat.le_refl _) (.int .i64 xt) (.int .i64 z) (.string xs))
      clear HV HR G G3 hc3 hg3 HX3
      go_wp2
      exact bodyPost_ret (v := V.agg ⟨xt, z, xs⟩) (by simp [results, Try.results79, go_sem, *]) rfl ⟨_, rfl, HF.out, GF.out.cur, GF.out.grown⟩
    · have b1 : (y == 1) = false := by simp [e1]
      by_cases e2 : y = 2
      · subst e2
        go_wp2_with fail
        refine (l1StrVLit c g texts5 5 w2 rfl (by omega) (by omega) G.cur _ rfl).mono ?_
        rintro e w3 ⟨z, HX3, rfl, hc3, hg3⟩
        have HF : Hid (Fair ⟨xt, xn, z⟩) := ⟨HFX.out.ty, HFX.out.n, texts5_len HX3⟩
        have G3 := G.next hc3 hg3
        obtain ⟨⟨c0, c1, c2⟩, f0, f1, f2⟩ := HV.draw hg3 (by omega)
        obtain ⟨⟨r0, r1, r2⟩, f3, f4, f5⟩ := HR.draw hg3 (by omega)
        simp only at c0 c1 c2 r0 r1 r2
        have hne1 : ¬ Bx = w.heap.size := by omega
        have hne2 : ¬ w.heap.size = Bx := by omega
        have GF := Lib.hid ((G3.set (b := Bx) HGB.out.2 2 (.string z)).set3 (b := w.heap.size) (Nat.le_refl _) (.int .i64 xt) (.int .i64 xn) (.string z))
        clear HV HR G G3 hc3 hg3 HX3
        go_wp2
        exact bodyPost_ret (v := V.agg ⟨xt, xn, z⟩) (by simp [results, Try.results79, go_sem, *]) rfl ⟨_, rfl, HF.out, GF.out.cur, GF.out.grown⟩
      · have b2 : (y == 2) = false := by simp [e2]
        clear e0 e1 e2 hy
        have HF := HFX
        obtain ⟨⟨r0, r1, r2⟩, f0, f1, f2⟩ := HR
        obtain ⟨⟨c0, c1, c2⟩, _⟩ := HV
        simp only at c0 c1 c2 r0 r1 r2
        have GF := Lib.hid (G.set3 (b := w.heap.size) (Nat.le_refl _) (.int .i64 xt) (.int .i64 xn) (.string xs))
        clear G
        go_wp2
        exact bodyPost_ret (v := V.agg ⟨xt, xn, xs⟩) (by simp [results, Try.results79, go_sem, *]) rfl ⟨_, rfl, HF.out, GF.out.cur, GF.out.grown⟩

end Go.Proofs.Ytkofafefnlommaa

/- Drawing lists of Vals, of one type or of any (l5Any), and a type (l5Type). -/
namespace Go.Proofs.Ytkofafefnlommaa
open Go.RowKit

/-- What l5Any draws. -/
def AnyList (l : List V) : Prop := l.length ≤ 16 ∧ ∀ v ∈ l, Fair v
theorem Drawn.any {l : List V} (h : Drawn l) : AnyList l := by
  obtain ⟨h1, h2, ty, _, h3⟩ := h
  exact ⟨by omega, fun v hv => (h3 v hv).fair⟩
theorem AnyList.sizes {l : List V} (h : AnyList l) : ∀ v ∈ l, v.s.size ≤ maxLen := fun v hv => by
  have := (h.2 v hv).s
  unfold maxLen
  omega

end Go.Proofs.Ytkofafefnlommaa

/- The contracts of the model's draws of columns and rows: l4Cols, l4Vals, l4Rows (written by mk_Draw11.py). -/
namespace Go.Proofs.Ytkofafefnlommaa
open Go.RowKit

/-- The columns that l4Cols draws. -/
def colsD : List (List Int) := [[1], [2], [1, 2], [1, 1], [2, 1], [1, 2, 1]]
/-- A slice of columns that lies whole in a block of its own. -/
def ColS (lo : Nat) (w : World) (v : Value) (cols : List Int) : Prop := ∃ b, v = .slice (some ⟨b, 0, none⟩) cols.length cols.length ∧ lo ≤ b ∧ Blk w b (ints .i64 cols)
theorem ColS.below {lo : Nat} {w w' : World} {v : Value} {cols : List Int} (h : ColS lo w v cols) (hb : Below w.heap.size w w') : ColS lo w' v cols := by
  obtain ⟨b, e, h1, h2⟩ := h
  exact ⟨b, e, h1, h2.below hb⟩
theorem ColS.draw {lo g : Nat} {w w' : World} {v : Value} {cols : List Int} (h : ColS lo w v cols) (hg : w.grownBy w' (some g)) (hl : g < lo) : ColS lo w' v cols := by
  obtain ⟨b, e, h1, h2⟩ := h
  exact ⟨b, e, h1, h2.draw hg (by omega)⟩
theorem ColS.rd {lo : Nat} {w : World} {v : Value} {cols : List Int} (h : ColS lo w v cols) (hn : cols.length ≤ maxLen) : Rd 1 w v cols.length (ints .i64 cols) := by
  obtain ⟨b, e, h1, h2⟩ := h
  exact ⟨_, _, e, hn, by rw [ints_len]; omega, .inr ⟨b, 0, rfl, fun j u hu => by rw [Nat.zero_add]; exact (h2 j u hu).1⟩⟩

set_option maxHeartbeats 4000000 in
theorem l4Cols (c : Code) (g : Nat) (w : World) (h : Cur c g w) :
    Calls Try.prog 37 #[.pointer (some ⟨g, 0, none⟩)] w fun e w' => ∃ (v : Value) (cols : List Int), e = .returned v ∧ cols ∈ colsD ∧ ColS w.heap.size w' v cols ∧ Going c g w w' := by
  have hgl := h.lt
  have C0 := blk_new w [.int .i64 1] 3
  replace C0 := C0.below (below_alloc _ (.cells #[.int .i64 2] 3))
  replace C0 := C0.below (below_alloc _ (.cells #[.int .i64 1, .int .i64 2] 3))
  replace C0 := C0.below (below_alloc _ (.cells #[.int .i64 1, .int .i64 1] 3))
  replace C0 := C0.below (below_alloc _ (.cells #[.int .i64 2, .int .i64 1] 3))
  replace C0 := C0.below (below_alloc _ (.cells #[.int .i64 1, .int .i64 2, .int .i64 1] 3))
  replace C0 := C0.below (below_alloc _ (.cells #[.slice (some ⟨w.heap.size, 0, none⟩) 1 1, .slice (some ⟨w.heap.size + 1, 0, none⟩) 1 1, .slice (some ⟨w.heap.size + 1 + 1, 0, none⟩) 2 2, .slice (some ⟨w.heap.size + 1 + 1 + 1, 0, none⟩) 2 2, .slice (some ⟨w.heap.size + 1 + 1 + 1 + 1, 0, none⟩) 2 2, .slice (some ⟨w.heap.size + 1 + 1 + 1 + 1 + 1, 0, none⟩) 3 3] 30))
  have C1 := blk_new (w.alloc (.cells #[.int .i64 1] 3)) [.int .i64 2] 3
  rw [World.size_alloc] at C1
  replace C1 := C1.below (below_alloc _ (.cells #[.int .i64 1, .int .i64 2] 3))
  replace C1 := C1.below (below_alloc _ (.cells #[.int .i64 1, .int .i64 1] 3))
  replace C1 := C1.below (below_alloc _ (.cells #[.int .i64 2, .int .i64 1] 3))
  replace C1 := C1.below (below_alloc _ (.cells #[.int .i64 1, .int .i64 2, .int .i64 1] 3))
  replace C1 := C1.below (below_alloc _ (.cells #[.slice (some ⟨w.heap.size, 0, none⟩) 1 1, .slice (some ⟨w.heap.size + 1, 0, none⟩) 1 1, .slice (some ⟨w.heap.size + 1 + 1, 0, none⟩) 2 2, .slice (some ⟨w.heap.size + 1 + 1 + 1, 0, none⟩) 2 2, .slice (some ⟨w.heap.size + 1 + 1 + 1 + 1, 0, none⟩) 2 2, .slice (some ⟨w.heap.size + 1 + 1 + 1 + 1 + 1, 0, none⟩) 3 3] 30))
  have C2 := blk_new ((w.alloc (.cells #[.int .i64 1] 3)).alloc (.cells #[.int .i64 2] 3)) [.int .i64 1, .int .i64 2] 3
  rw [World.size_alloc, World.size_alloc] at C2
  replace C2 := C2.below (below_alloc _ (.cells #[.int .i64 1, .int .i64 1] 3))
  replace C2 := C2.below (below_alloc _ (.cells #[.int .i64 2, .int .i64 1] 3))
  replace C2 := C2.below (below_alloc _ (.cells #[.int .i64 1, .int .i64 2, .int .i64 1] 3))
  replace C2 := C2.below (below_alloc _ (.cells #[.slice (some ⟨w.heap.size, 0, none⟩) 1 1, .slice (some ⟨w.heap.size + 1, 0, none⟩) 1 1, .slice (some ⟨w.heap.size + 1 + 1, 0, none⟩) 2 2, .slice (some ⟨w.heap.size + 1 + 1 + 1, 0, none⟩) 2 2, .slice (some ⟨w.heap.size + 1 + 1 + 1 + 1, 0, none⟩) 2 2, .slice (some ⟨w.heap.size + 1 + 1 + 1 + 1 + 1, 0, none⟩) 3 3] 30))
  have C3 := blk_new (((w.alloc (.cells #[.int .i64 1] 3)).alloc (.cells #[.int .i64 2] 3)).alloc (.cells #[.int .i64 1, .int .i64 2] 3)) [.int .i64 1, .int .i64 1] 3
  rw [World.size_alloc, World.size_alloc, World.size_alloc] at C3
  replace C3 := C3.below (below_alloc _ (.cells #[.int .i64 2, .int .i64 1] 3))
  replace C3 := C3.below (below_alloc _ (.cells #[.int .i64 1, .int .i64 2, .int .i64 1] 3))
  replace C3 := C3.below (below_alloc _ (.cells #[.slice (some ⟨w.heap.size, 0, none⟩) 1 1, .slice (some ⟨w.heap.size + 1, 0, none⟩) 1 1, .slice (some ⟨w.heap.size + 1 + 1, 0, none⟩) 2 2, .slice (some ⟨w.heap.size + 1 + 1 + 1, 0, none⟩) 2 2, .slice (some ⟨w.heap.size + 1 + 1 + 1 + 1, 0, none⟩) 2 2, .slice (some ⟨w.heap.size + 1 + 1 + 1 + 1 + 1, 0, none⟩) 3 3] 30))
  have C4 := blk_new ((((w.alloc (.cells #[.int .i64 1] 3)).alloc (.cells #[.int .i64 2] 3)).alloc (.cells #[.int .i64 1, .int .i64 2] 3)).alloc (.cells #[.int .i64 1, .int .i64 1] 3)) [.int .i64 2, .int .i64 1] 3
  rw [World.size_alloc, World.size_alloc, World.size_alloc, World.size_alloc] at C4
  replace C4 := C4.below (below_alloc _ (.cells #[.int .i64 1, .int .i64 2, .int .i64 1] 3))
  replace C4 := C4.below (below_alloc _ (.cells #[.slice (some ⟨w.heap.size, 0, none⟩) 1 1, .slice (some ⟨w.heap.size + 1, 0, none⟩) 1 1, .slice (some ⟨w.heap.size + 1 + 1, 0, none⟩) 2 2, .slice (some ⟨w.heap.size + 1 + 1 + 1, 0, none⟩) 2 2, .slice (some ⟨w.heap.size + 1 + 1 + 1 + 1, 0, none⟩) 2 2, .slice (some ⟨w.heap.size + 1 + 1 + 1 + 1 + 1, 0, none⟩) 3 3] 30))
  have C5 := blk_new (((((w.alloc (.cells #[.int .i64 1] 3)).alloc (.cells #[.int .i64 2] 3)).alloc (.cells #[.int .i64 1, .int .i64 2] 3)).alloc (.cells #[.int .i64 1, .int .i64 1] 3)).alloc (.cells #[.int .i64 2, .int .i64 1] 3)) [.int .i64 1, .int .i64 2, .int .i64 1] 3
  rw [World.size_alloc, World.size_alloc, World.size_alloc, World.size_alloc, World.size_alloc] at C5
  replace C5 := C5.below (below_alloc _ (.cells #[.slice (some ⟨w.heap.size, 0, none⟩) 1 1, .slice (some ⟨w.heap.size + 1, 0, none⟩) 1 1, .slice (some ⟨w.heap.size + 1 + 1, 0, none⟩) 2 2, .slice (some ⟨w.heap.size + 1 + 1 + 1, 0, none⟩) 2 2, .slice (some ⟨w.heap.size + 1 + 1 + 1 + 1, 0, none⟩) 2 2, .slice (some ⟨w.heap.size + 1 + 1 + 1 + 1 + 1, 0, none⟩) 3 3] 30))
  have C6 := blk_new ((((((w.alloc (.cells #[.int .i64 1] 3)).alloc (.cells #[.int .i64 2] 3)).alloc (.cells #[.int .i64 1, .int .i64 2] 3)).alloc (.cells #[.int .i64 1, .int .i64 1] 3)).alloc (.cells #[.int .i64 2, .int .i64 1] 3)).alloc (.cells #[.int .i64 1, .int .i64 2, .int .i64 1] 3)) [.slice (some ⟨w.heap.size, 0, none⟩) 1 1, .slice (some ⟨w.heap.size + 1, 0, none⟩) 1 1, .slice (some ⟨w.heap.size + 1 + 1, 0, none⟩) 2 2, .slice (some ⟨w.heap.size + 1 + 1 + 1, 0, none⟩) 2 2, .slice (some ⟨w.heap.size + 1 + 1 + 1 + 1, 0, none⟩) 2 2, .slice (some ⟨w.heap.size + 1 + 1 + 1 + 1 + 1, 0, none⟩) 3 3] 30
  rw [World.size_alloc, World.size_alloc, World.size_alloc, World.size_alloc, World.size_alloc, World.size_alloc] at C6
  have G := ((((((((Going.start h).alloc (.cells #[.int .i64 1] 3)).alloc (.cells #[.int .i64 2] 3)).alloc (.cells #[.int .i64 1, .int .i64 2] 3)).alloc (.cells #[.int .i64 1, .int .i64 1] 3)).alloc (.cells #[.int .i64 2, .int .i64 1] 3)).alloc (.cells #[.int .i64 1, .int .i64 2, .int .i64 1] 3)).alloc (.cells #[.slice (some ⟨w.heap.size, 0, none⟩) 1 1, .slice (some ⟨w.heap.size + 1, 0, none⟩) 1 1, .slice (some ⟨w.heap.size + 1 + 1, 0, none⟩) 2 2, .slice (some ⟨w.heap.size + 1 + 1 + 1, 0, none⟩) 2 2, .slice (some ⟨w.heap.size + 1 + 1 + 1 + 1, 0, none⟩) 2 2, .slice (some ⟨w.heap.size + 1 + 1 + 1 + 1 + 1, 0, none⟩) 3 3] 30))
  generalize hw7 : (((((((w.alloc (.cells #[.int .i64 1] 3)).alloc (.cells #[.int .i64 2] 3)).alloc (.cells #[.int .i64 1, .int .i64 2] 3)).alloc (.cells #[.int .i64 1, .int .i64 1] 3)).alloc (.cells #[.int .i64 2, .int .i64 1] 3)).alloc (.cells #[.int .i64 1, .int .i64 2, .int .i64 1] 3)).alloc (.cells #[.slice (some ⟨w.heap.size, 0, none⟩) 1 1, .slice (some ⟨w.heap.size + 1, 0, none⟩) 1 1, .slice (some ⟨w.heap.size + 1 + 1, 0, none⟩) 2 2, .slice (some ⟨w.heap.size + 1 + 1 + 1, 0, none⟩) 2 2, .slice (some ⟨w.heap.size + 1 + 1 + 1 + 1, 0, none⟩) 2 2, .slice (some ⟨w.heap.size + 1 + 1 + 1 + 1 + 1, 0, none⟩) 3 3] 30)) = w7 at C0 C1 C2 C3 C4 C5 C6 G
  have HW := Lib.hid hw7
  clear hw7
  go_enter Try.func37, Try.ntmps37
  go_wp2_with fail
  rw [HW.out]
  refine (l1Below c g _ _ G.cur).mono ?_
  rintro e w8 ⟨x, rfl, hx, hc8, hg8⟩
  have G8 := G.next hc8 hg8
  replace C0 := C0.draw hg8 (by omega)
  replace C1 := C1.draw hg8 (by omega)
  replace C2 := C2.draw hg8 (by omega)
  replace C3 := C3.draw hg8 (by omega)
  replace C4 := C4.draw hg8 (by omega)
  replace C5 := C5.draw hg8 (by omega)
  replace C6 := C6.draw hg8 (by omega)
  have d0 := (C6 0 _ rfl).1
  have d1 := (C6 1 _ rfl).1
  have d2 := (C6 2 _ rfl).1
  have d3 := (C6 3 _ rfl).1
  have d4 := (C6 4 _ rfl).1
  have d5 := (C6 5 _ rfl).1
  have hX : x = 0 ∨ x = 1 ∨ x = 2 ∨ x = 3 ∨ x = 4 ∨ x = 5 := by omega
  clear G hc8 hg8 hx C6 HW
  rcases hX with rfl | rfl | rfl | rfl | rfl | rfl
  · go_wp2
    go_ret
    exact ⟨_, [1], rfl, by simp [colsD], ⟨_, rfl, by omega, C0⟩, G8⟩
  · go_wp2
    go_ret
    exact ⟨_, [2], rfl, by simp [colsD], ⟨_, rfl, by omega, C1⟩, G8⟩
  · go_wp2
    go_ret
    exact ⟨_, [1, 2], rfl, by simp [colsD], ⟨_, rfl, by omega, C2⟩, G8⟩
  · go_wp2
    go_ret
    exact ⟨_, [1, 1], rfl, by simp [colsD], ⟨_, rfl, by omega, C3⟩, G8⟩
  · go_wp2
    go_ret
    exact ⟨_, [2, 1], rfl, by simp [colsD], ⟨_, rfl, by omega, C4⟩, G8⟩
  · go_wp2
    go_ret
    exact ⟨_, [1, 2, 1], rfl, by simp [colsD], ⟨_, rfl, by omega, C5⟩, G8⟩

/-- The type that l4Vals gives column k. -/
def colTy (cols : List Int) (k : Nat) : Int := if cols.getD k 0 = 1 then 1 else 2

set_option maxHeartbeats 4000000 in
theorem l4Vals (c : Code) (g lo : Nat) (v : Value) (cols : List Int) (w : World) (hn : cols.length ≤ 1000) (hlo : g < lo) (hv : ColS lo w v cols) (h : Cur c g w) :
    Calls Try.prog 40 #[.pointer (some ⟨g, 0, none⟩), v] w fun e w' => ∃ (u : Value) (l : List V), e = .returned u ∧ l.length = cols.length ∧ (∀ k, k < l.length → OfTy (colTy cols k) (l.getD k V.zero)) ∧ Own 76 3 w.heap.size w'.heap.size w' u l.length (vals l) ∧ Going c g w w' := by
  have hgl := h.lt
  obtain ⟨b, rfl, hb, hB⟩ := hv
  have O0 := own_lit (e := 76) (size := 3) w #[] 0 (Nat.zero_le _) rfl
  have G0 := (Going.start h).alloc (.cells #[] 76)
  have B0 := hB.below (below_alloc w (.cells #[] 76))
  generalize hln : cols.length = n at hn
  have HLN := Lib.hid hln
  have hbw : b < w.heap.size ∨ n = 0 := by
    by_cases h0 : n = 0
    · exact .inr h0
    · left
      exact lt_of_cell (hB 0 _ (ints_get (by omega))).1
  clear hB
  go_enter Try.func40, Try.ntmps40
  go_wp2
  go_loopw [5, 6] (fun o i wr => ∃ (k : Nat) (l : List V), k ≤ n ∧ i = .int .i64 k ∧ l.length = k ∧ (∀ q, q < k → OfTy (colTy cols q) (l.getD q V.zero)) ∧ Own 76 3 w.heap.size wr.heap.size wr o k (vals l) ∧ Blk wr b (ints .i64 cols) ∧ Going c g w wr) (fun _ i _ => n - (intOf i).toNat)
  case atStart => exact ⟨0, [], Nat.zero_le _, rfl, rfl, fun q hq => by omega, O0, B0, G0⟩
  case round =>
    obtain ⟨k, l, hk, rfl, hl, hty, hown, hB, G⟩ := hrel
    have HTY := Lib.hid hty
    have HL := Lib.hid hl
    clear hty hl O0 G0 B0
    by_cases hlt : k < n
    · have hbw2 : b < w.heap.size := hbw.resolve_right (by omega)
      have c0 := (hB k _ (ints_get (by rw [HLN.out]; exact hlt))).1
      have HX : Hid (colTy cols k = if cols.getD k 0 = 1 then 1 else 2) := rfl
      generalize cols.getD k 0 = y at c0 HX
      have HB := Lib.hid hB
      clear hB
      have hown' := hown
      obtain ⟨og, oc, ho, _⟩ := hown'
      subst ho
      by_cases hy : y = 1
      · have hyb : (y == 1) = true := by simp [hy]
        have HX1 : Hid (colTy cols k = 1) := HX.out.trans (if_pos hy)
        clear hy HX
        go_wp2_with fail
        refine (l3Int c g _ G.cur).mono ?_
        rintro e w2 ⟨x, rfl, HV, hc2, hg2⟩
        have G2 := G.next hc2 hg2
        have O2 := (hown.draw hg2 hgl).wide hg2.size
        have B2 := Lib.hid (HB.out.draw hg2 (by omega))
        obtain ⟨xt, xn, xs⟩ := x
        have HVA : Hid (vals l ++ V.cs ⟨xt, xn, xs⟩ = vals (l ++ [(⟨xt, xn, xs⟩ : V)])) := by
          show _ = _
          simp [vals]
        have HNX : Hid (∀ q, q < k + 1 → OfTy (colTy cols q) ((l ++ [(⟨xt, xn, xs⟩ : V)]).getD q V.zero)) := fun q hq => by
          by_cases hqk : q < k
          · have e : (l ++ [(⟨xt, xn, xs⟩ : V)]).getD q V.zero = l.getD q V.zero := by
              have := HL.out
              simp [List.getD, List.getElem?_append_left (show q < l.length by omega)]
            rw [e]
            exact HTY.out q hqk
          · obtain rfl : q = k := by omega
            have e : (l ++ [(⟨xt, xn, xs⟩ : V)]).getD q V.zero = ⟨xt, xn, xs⟩ := by
              rw [← HL.out]
              simp [List.getD]
            rw [e, HX1.out]
            exact HV
        clear HV hc2 hg2 G hown HTY c0
        go_wp2_with (at_builtin; refine appendV_law Try.elemVals rfl _ _ rfl _ _ _ _ _ ⟨xt, xn, xs⟩ rfl O2 rfl (by unfold maxLen; omega) (by omega) ?_)
        intro v4 w4 o4 e4
        have G4 := G2.ext O2 (Nat.le_refl _) e4
        have B4 := Lib.hid (B2.out.grown e4.grown (fun e => by
          have := O2.block b e.symm
          omega))
        rw [HVA.out] at o4
        have O4 := Lib.hid o4
        clear o4 e4 O2 G2
        go_wp2
        go_roundw
        case rel => exact ⟨k + 1, l ++ [⟨xt, xn, xs⟩], by omega, by go_num, by rw [List.length_append, HL.out]; rfl, HNX.out, O4.out, B4.out, G4⟩
        case measure => simp [intOf]; omega
      · have hyb : (y == 1) = false := by simp [hy]
        have HX1 : Hid (colTy cols k = 2) := HX.out.trans (if_neg hy)
        clear hy HX
        go_wp2_with fail
        refine (l3Text c g _ G.cur).mono ?_
        rintro e w2 ⟨x, rfl, HV, hc2, hg2⟩
        have G2 := G.next hc2 hg2
        have O2 := (hown.draw hg2 hgl).wide hg2.size
        have B2 := Lib.hid (HB.out.draw hg2 (by omega))
        obtain ⟨xt, xn, xs⟩ := x
        have HVA : Hid (vals l ++ V.cs ⟨xt, xn, xs⟩ = vals (l ++ [(⟨xt, xn, xs⟩ : V)])) := by
          show _ = _
          simp [vals]
        have HNX : Hid (∀ q, q < k + 1 → OfTy (colTy cols q) ((l ++ [(⟨xt, xn, xs⟩ : V)]).getD q V.zero)) := fun q hq => by
          by_cases hqk : q < k
          · have e : (l ++ [(⟨xt, xn, xs⟩ : V)]).getD q V.zero = l.getD q V.zero := by
              have := HL.out
              simp [List.getD, List.getElem?_append_left (show q < l.length by omega)]
            rw [e]
            exact HTY.out q hqk
          · obtain rfl : q = k := by omega
            have e : (l ++ [(⟨xt, xn, xs⟩ : V)]).getD q V.zero = ⟨xt, xn, xs⟩ := by
              rw [← HL.out]
              simp [List.getD]
            rw [e, HX1.out]
            exact HV
        clear HV hc2 hg2 G hown HTY c0
        go_wp2_with (at_builtin; refine appendV_law Try.elemVals rfl _ _ rfl _ _ _ _ _ ⟨xt, xn, xs⟩ rfl O2 rfl (by unfold maxLen; omega) (by omega) ?_)
        intro v4 w4 o4 e4
        have G4 := G2.ext O2 (Nat.le_refl _) e4
        have B4 := Lib.hid (B2.out.grown e4.grown (fun e => by
          have := O2.block b e.symm
          omega))
        rw [HVA.out] at o4
        have O4 := Lib.hid o4
        clear o4 e4 O2 G2
        go_wp2
        go_roundw
        case rel => exact ⟨k + 1, l ++ [⟨xt, xn, xs⟩], by omega, by go_num, by rw [List.length_append, HL.out]; rfl, HNX.out, O4.out, B4.out, G4⟩
        case measure => simp [intOf]; omega
    · obtain rfl : k = n := by omega
      go_wp2
      go_ret
      refine ⟨_, l, rfl, HL.out, fun q hq => HTY.out q (by have := HL.out; omega), by rw [HL.out]; exact hown, G⟩

end Go.Proofs.Ytkofafefnlommaa

/- The contract of the model's draw of rows: l4Rows. -/
namespace Go.Proofs.Ytkofafefnlommaa
open Go.RowKit

/-- append(s, x): x, a Row, has just been laid in a block of its own. -/
theorem appendRd_law {P : Program} {t e : TypeId} {z : Value} {bytes : Nat} (T : ElemT P t e z 2 bytes) {w : World} {ops : Array Oper} {rest : List Oper} {o : Oper} {a : Act} {Q : Exit → Act → World → Prop} (hgd : o.guard = none) (s x : Operand)
    (ho : o.op = .call { callee := .builtin .append, args := #[s, x], argTypes := #[t, t] })
    (lo hi : Nat) (v : Value) (n : Nat) (xs : List Value) (id : Int) (ua : Option Addr) (un uc : Nat) (hs : a.eval s = v) (hown : Own e 2 lo hi w v n xs)
    (hx : a.eval x = .slice (some ⟨w.heap.size, 0, none⟩) 1 1)
    (h63 : n + 1 ≤ maxLen) (hbytes : (n + 1) * bytes ≤ 140737488355328)
    (h : ∀ v' w', Own e 2 lo w'.heap.size w' v' (n + 1) (xs ++ [.int .i64 id, .slice ua un uc]) → Ext w w' v v' → wpList P ops Q rest (a.put o.dst v') w') : wpList P ops Q (o :: rest) a (w.alloc (.cells #[.int .i64 id, .slice ua un uc] e)) := by
  refine append_law T hgd s x ho lo hi v n xs hs (hown.alloc _) w.heap.size 0 1 1 [.int .i64 id, .slice ua un uc] hx rfl ?_ ?_ h63 hbytes (fun v' w' h1 h2 => h v' w' h1 ((Ext.alloc v _).trans h2))
  · intro j y hj
    match j, hj with
    | 0, hj => simp at hj; subst hj; simp
    | 1, hj => simp at hj; subst hj; simp
    | j + 2, hj => simp at hj
  · intro y hy
    simp at hy
    rcases hy with rfl | rfl <;> rfl

/-- The rows drawn so far: each one's values lie in a block of their own, apart from the slice out. -/
structure DrewRows (lo : Nat) (w : World) (out : Value) (cols : List Int) (ps : List P) : Prop where
  vals : ∀ p ∈ ps, At 3 w p.2 p.1.l.length (vals p.1.l)
  own : ∀ p ∈ ps, ∃ b, p.2.ownBlock = some b ∧ lo ≤ b ∧ b < w.heap.size
  ne : ∀ p ∈ ps, p.2.ownBlock ≠ out.ownBlock
  len : ∀ p ∈ ps, p.1.l.length = cols.length
  ty : ∀ p ∈ ps, ∀ k, k < p.1.l.length → OfTy (colTy cols k) (p.1.l.getD k V.zero)
theorem DrewRows.draw {lo g : Nat} {w w' : World} {out : Value} {cols : List Int} {ps : List P} (h : DrewRows lo w out cols ps) (hg : w.grownBy w' (some g)) (hl : g < lo) : DrewRows lo w' out cols ps :=
  ⟨fun p hp => (h.vals p hp).grown hg (fun e => by obtain ⟨b, h1, h2, _⟩ := h.own p hp; rw [h1] at e; have : b = g := by simpa using e
                                                   omega),
    fun p hp => by obtain ⟨b, h1, h2, h3⟩ := h.own p hp; exact ⟨b, h1, h2, Nat.lt_of_lt_of_le h3 hg.size⟩, h.ne, h.len, h.ty⟩
theorem DrewRows.below {lo : Nat} {w w' : World} {out : Value} {cols : List Int} {ps : List P} (h : DrewRows lo w out cols ps) (hb : Below w.heap.size w w') : DrewRows lo w' out cols ps :=
  ⟨fun p hp => (h.vals p hp).below hb, fun p hp => by obtain ⟨b, h1, h2, h3⟩ := h.own p hp; exact ⟨b, h1, h2, Nat.lt_of_lt_of_le h3 hb.size⟩, h.ne, h.len, h.ty⟩
/-- One more row, and the slice appended to. -/
theorem DrewRows.add {lo : Nat} {w w' : World} {out out' : Value} {cols : List Int} {ps : List P} (h : DrewRows lo w out cols ps) (he : Ext w w' out out') {p : P} (hv : At 3 w p.2 p.1.l.length (Go.Proofs.Ytkofafefnlommaa.vals p.1.l)) (ho : ∃ b, p.2.ownBlock = some b ∧ lo ≤ b ∧ b < w.heap.size) (hne : p.2.ownBlock ≠ out.ownBlock)
    (hl : p.1.l.length = cols.length) (ht : ∀ k, k < p.1.l.length → OfTy (colTy cols k) (p.1.l.getD k V.zero)) : DrewRows lo w' out' cols (ps ++ [p]) := by
  have key : ∀ q ∈ ps ++ [p], At 3 w q.2 q.1.l.length (Go.Proofs.Ytkofafefnlommaa.vals q.1.l) ∧ (∃ b, q.2.ownBlock = some b ∧ lo ≤ b ∧ b < w.heap.size) ∧ q.2.ownBlock ≠ out.ownBlock ∧ q.1.l.length = cols.length ∧ ∀ k, k < q.1.l.length → OfTy (colTy cols k) (q.1.l.getD k V.zero) := by
    intro q hq
    rcases List.mem_append.1 hq with hq | hq
    · exact ⟨h.vals q hq, h.own q hq, h.ne q hq, h.len q hq, h.ty q hq⟩
    · rw [List.mem_singleton.1 hq]
      exact ⟨hv, ho, hne, hl, ht⟩
  refine ⟨fun q hq => ?_, fun q hq => ?_, fun q hq => ?_, fun q hq => (key q hq).2.2.2.1, fun q hq => (key q hq).2.2.2.2⟩
  · exact (key q hq).1.grown he.grown (key q hq).2.2.1
  · obtain ⟨b, h1, h2, h3⟩ := (key q hq).2.1
    exact ⟨b, h1, h2, Nat.lt_of_lt_of_le h3 he.grown.size⟩
  · obtain ⟨b, h1, h2, h3⟩ := (key q hq).2.1
    rcases he.blk with hb | ⟨g', hb, hge⟩
    · rw [hb]
      exact (key q hq).2.2.1
    · rw [hb, h1]
      intro e
      have : b = g' := by simpa using e
      omega

set_option maxHeartbeats 4000000 in
theorem l4Rows (c : Code) (g lo : Nat) (v : Value) (cols : List Int) (most : Nat) (w : World) (hn : cols.length ≤ 1000) (hm : most ≤ 1000) (hlo : g < lo) (hv : ColS lo w v cols) (hvw : ∀ b, v.ownBlock = some b → b < w.heap.size) (h : Cur c g w) :
    Calls Try.prog 38 #[.pointer (some ⟨g, 0, none⟩), v, .int .i64 most] w fun e w' => ∃ (u : Value) (ps : List P), e = .returned u ∧ ps.length ≤ most ∧ Own 27 2 w.heap.size w'.heap.size w' u ps.length (prs ps) ∧ DrewRows w.heap.size w' u cols ps ∧ Going c g w w' := by
  have hgl := h.lt
  have O0 := own_lit (e := 27) (size := 2) w #[] 0 (Nat.zero_le _) rfl
  have G0 := (Going.start h).alloc (.cells #[] 27)
  have V0 := hv.below (below_alloc w (.cells #[] 27))
  have hs0 : (w.alloc (.cells #[] 27)).heap.size = w.heap.size + 1 := World.size_alloc _ _
  generalize hw0 : w.alloc (.cells #[] 27) = w0 at O0 G0 V0 hs0
  have HW0 := Lib.hid hw0
  clear hw0 hv
  go_enter Try.func38, Try.ntmps38
  go_wp2_with fail
  rw [HW0.out]
  refine (l1Below c g _ _ G0.cur).mono ?_
  rintro e w1 ⟨id0, rfl, hid, hc1, hg1⟩
  have G1 := G0.next hc1 hg1
  have V1 := V0.draw hg1 hlo
  have O1 := (O0.draw hg1 hgl).wide hg1.size
  clear O0 G0 V0 hc1 hg1 HW0
  go_wp2_with fail
  refine (l1Below c g _ _ G1.cur).mono ?_
  rintro e w2 ⟨N, rfl, hN, hc2, hg2⟩
  have G2 := G1.next hc2 hg2
  have V2 := V1.draw hg2 hlo
  have O2 := (O1.draw hg2 hgl).wide hg2.size
  clear O1 G1 V1 hc2 hg2
  obtain ⟨N, rfl⟩ := Int.eq_ofNat_of_zero_le hN.1
  have hNm : N ≤ most := by omega
  have D2 : DrewRows w.heap.size w2 (.slice (some ⟨w.heap.size, 0, none⟩) 0 0) cols [] := ⟨fun p hp => (by cases hp), fun p hp => (by cases hp), fun p hp => (by cases hp), fun p hp => (by cases hp), fun p hp => (by cases hp)⟩
  clear hN
  go_wp2
  go_loopw [7, 8, 9] (fun o d i wr => ∃ (j : Nat) (id : Int) (ps : List P), j ≤ N ∧ i = .int .i64 ((N : Int) - j) ∧ d = .int .i64 id ∧ 0 ≤ id ∧ id ≤ 4 + 5 * (j : Int) ∧ ps.length = j ∧ Own 27 2 w.heap.size wr.heap.size wr o j (prs ps) ∧ DrewRows w.heap.size wr o cols ps ∧ ColS lo wr v cols ∧ Going c g w wr) (fun _ _ i _ => (intOf i).toNat)
  case atStart => exact ⟨0, id0, [], Nat.zero_le _, by simp, rfl, hid.1, by omega, rfl, O2, D2, V2, G2⟩
  case round =>
    obtain ⟨j, id, ps, hj, rfl, rfl, hid0, hid1, hps, hown, D, V, G⟩ := hrel
    have HPS := Lib.hid hps
    clear hps O2 D2 V2 G2 hid
    by_cases hlt : j < N
    · have hij : (0 : Int) < (N : Int) - j := by omega
      have hown' := hown
      obtain ⟨og, oc, ho, hog⟩ := hown'
      subst ho
      go_wp2_with fail
      refine (l4Vals c g lo v cols wr hn hlo V G.cur).mono ?_
      rintro e w3 ⟨uv, lv, rfl, hlv, hty, ov, G3⟩
      have hg3 := G3.grown
      have G3' := G.next G3.cur hg3
      have O3 := (hown.draw hg3 hgl).wide hg3.size
      have D3 := D.draw hg3 hgl
      have V3 := V.draw hg3 hlo
      have HOV := Lib.hid ov.at
      obtain ⟨ub, uc, hu, hu1, hu2, _⟩ := ov
      subst hu
      have HOB : Hid (∃ b, (Value.slice (some ⟨ub, 0, none⟩) lv.length uc).ownBlock = some b ∧ w.heap.size ≤ b ∧ b < w3.heap.size) := ⟨ub, rfl, by have := G.grown.size; omega, hu2⟩
      have HON : Hid ((Value.slice (some ⟨ub, 0, none⟩) lv.length uc).ownBlock ≠ (Value.slice (some ⟨og, 0, none⟩) j oc).ownBlock) := fun e => by
        have : ub = og := by simpa [Value.ownBlock] using e
        omega
      have HLV := Lib.hid hlv
      have HTY := Lib.hid hty
      have HPA : Hid (prs ps ++ [.int .i64 id, .slice (some ⟨ub, 0, none⟩) lv.length uc] = prs (ps ++ [((⟨id, lv⟩ : R), Value.slice (some ⟨ub, 0, none⟩) lv.length uc)])) := by
        show _ = _
        simp [prs, P.cs]
      have HADD := Lib.hid (fun w' out' (he : Ext w3 w' (.slice (some ⟨og, 0, none⟩) j oc) out') => D3.add he (p := (⟨id, lv⟩, .slice (some ⟨ub, 0, none⟩) lv.length uc)) HOV.out HOB.out HON.out HLV.out HTY.out)
      generalize lv.length = ln at HPA HADD
      clear hlv hty HTY HLV HOV HON G3 hg3 G D V D3 hown
      go_wp2_with (at_builtin; refine appendRd_law Try.elemRows rfl _ _ rfl _ _ _ _ _ id (some ⟨ub, 0, none⟩) ln uc rfl O3 rfl (by unfold maxLen; omega) (by omega) ?_)
      intro v4 w4 o4 e4
      have G4 := G3'.ext O3 (Nat.le_refl _) e4
      have D4 := HADD.out _ _ e4
      have V4 : ColS lo w4 v cols := by
        obtain ⟨vb, hvb, hvl, hvB⟩ := V3
        refine ⟨vb, hvb, hvl, hvB.grown e4.grown (fun e => ?_)⟩
        have hxx : vb = og := by simpa [Value.ownBlock] using e
        have := hvw vb (by rw [hvb]; rfl)
        omega
      clear V3
      rw [HPA.out] at o4
      have O4 := Lib.hid o4
      clear o4 e4 O3 HADD HPA
      have HV4 := Lib.hid V4
      clear V4
      have O4x := O4.out
      obtain ⟨b4, c4, hv4, hb4, _⟩ := O4x
      subst hv4
      go_wp2_with fail
      refine (l1IntLit c g [1, 1, 1, 2, 5] 5 w4 rfl (by omega) (by omega) G4.cur _ rfl).mono ?_
      rintro e w5 ⟨y, rfl, hy, hc5, hg5⟩
      have hy2 : 1 ≤ y ∧ y ≤ 5 := by
        simp only [List.mem_cons, List.not_mem_nil, or_false] at hy
        omega
      have G5 := G4.next hc5 hg5
      have O5 := Lib.hid ((O4.out.draw hg5 hgl).wide hg5.size)
      have D5 := D4.draw hg5 hgl
      have V5 := HV4.out.draw hg5 hlo
      clear hc5 hg5 O4 D4 HV4 hy G4
      go_wp2
      go_roundw
      case rel =>
        exact ⟨j + 1, id + y, _, by omega, by go_num, by go_num, by omega, by omega, by rw [List.length_append, HPS.out]; rfl, O5.out, D5, V5, G5⟩
      case measure => simp [intOf]; omega
    · obtain rfl : j = N := by omega
      go_wp2
      go_ret
      exact ⟨_, ps, rfl, by rw [HPS.out]; omega, by rw [HPS.out]; exact hown, D, G⟩

end Go.Proofs.Ytkofafefnlommaa

/- Chapter 13's draws: l4Any. -/
namespace Go.Proofs.Ytkofafefnlommaa
open Go.RowKit

theorem Own.cell1 {e : TypeId} {size lo hi : Nat} {w : World} {g n cap : Nat} {xs : List Value} (h : Own e size lo hi w (.slice (some ⟨g, 0, none⟩) n cap) n xs) {j : Nat} {x : Value} (hx : xs[j]? = some x) : w.cell? ⟨g, j, none⟩ = some x ∧ w.frozen? ⟨g, j, none⟩ = false := by
  obtain ⟨b, off, cp, e', _, _, _, hc⟩ := h.at
  cases e'
  have := hc j x hx
  rw [Nat.zero_add] at this
  refine ⟨this, ?_⟩
  obtain ⟨g', cap', e', _, _, _, h4⟩ := h
  cases e'
  rcases h4 with ⟨h', _⟩ | ⟨g', cap', cur, h', _, hg, _⟩
  · simp at h'
  · cases h'
    simp [World.frozen?, hg]
theorem Own.set1 {e : TypeId} {size lo hi : Nat} {w : World} {g n cap : Nat} {xs : List Value} (h : Own e size lo hi w (.slice (some ⟨g, 0, none⟩) n cap) n xs) (j : Nat) (x : Value) : Own e size lo hi (w.setCell ⟨g, j, none⟩ x) (.slice (some ⟨g, 0, none⟩) n cap) n (xs.set j x) := by
  have h3 := (h.row.stored j x).1
  obtain ⟨g', cap', e', h1, h2, _⟩ := h
  cases e'
  exact ⟨g, cap, rfl, h1, h2, h3⟩
theorem vals_set0 {l : List V} {x : V} (h : 0 < l.length) : (((vals l).set 0 (.int .i64 x.ty)).set 1 (.int .i64 x.n)).set 2 (.string x.s) = vals (l.set 0 x) := by
  cases l with
  | nil => simp at h
  | cons y l => simp [vals, V.cs]
theorem vals_at0 {l : List V} (h : 0 < l.length) : (vals l)[0]? = some (.int .i64 (l.getD 0 V.zero).ty) ∧ (vals l)[1]? = some (.int .i64 (l.getD 0 V.zero).n) ∧ (vals l)[2]? = some (.string (l.getD 0 V.zero).s) := by
  cases l with
  | nil => simp at h
  | cons y l => simp [vals, V.cs]
theorem fair_of_tys {cols : List Int} {l : List V} (h : ∀ k, k < l.length → OfTy (colTy cols k) (l.getD k V.zero)) : ∀ x ∈ l, Fair x := fun x hx => by
  obtain ⟨k, hk, rfl⟩ := List.mem_iff_getElem.1 hx
  have := h k hk
  have e : l.getD k V.zero = l[k] := by simp [hk]
  rw [e] at this
  exact this.fair

set_option maxRecDepth 100000 in
set_option maxHeartbeats 1600000 in
theorem l4Any (c : Code) (g lo : Nat) (v : Value) (cols : List Int) (w : World) (hn : cols.length ≤ 1000) (hlo : g < lo) (hv : ColS lo w v cols) (h : Cur c g w) :
    Calls Try.prog 65 #[.pointer (some ⟨g, 0, none⟩), v] w fun e w' => ∃ (u : Value) (l : List V), e = .returned u ∧ l.length ≤ cols.length + 1 ∧ (∀ x ∈ l, Fair x) ∧ Own 76 3 w.heap.size w'.heap.size w' u l.length (vals l) ∧ Going c g w w' := by
  have hgl := h.lt
  have HV4 := Lib.hid (l4Vals c g lo v cols w hn hlo hv h)
  obtain ⟨b, rfl, _⟩ := hv
  go_enter Try.func65, Try.ntmps65
  go_wp2_with fail
  refine HV4.out.mono ?_
  rintro e w1 ⟨u, l, rfl, hl, hty, hown, G⟩
  have HF := Lib.hid (fair_of_tys hty)
  have HL := Lib.hid hl
  clear hty HV4
  generalize hln : l.length = n at hown hl
  have HN := Lib.hid hln
  have HLC := Lib.hid hl
  have hnn : n ≤ 1000 := by omega
  clear hl
  obtain ⟨og, oc, ho, _⟩ := id hown
  subst ho
  clear hln
  go_wp2_with fail
  refine (l1Below c g _ _ G.cur).mono ?_
  rintro e w2 ⟨k, rfl, hk, hc2, hg2⟩
  have G2 := G.next hc2 hg2
  have O2 := (hown.draw hg2 hgl).wide hg2.size
  clear hown hc2 hg2 G hk
  by_cases hk0 : k = 0
  · subst hk0
    go_wp2_with fail
    refine (l3Any c g _ G2.cur).mono ?_
    rintro e w3 ⟨x, rfl, hx, hc3, hg3⟩
    have G3 := G2.next hc3 hg3
    have O3 := (O2.draw hg3 hgl).wide hg3.size
    obtain ⟨xt, xn, xs⟩ := x
    have HX := Lib.hid hx
    have HVA : Hid (vals l ++ V.cs ⟨xt, xn, xs⟩ = vals (l ++ [(⟨xt, xn, xs⟩ : V)])) := by
      show _ = _
      simp [vals]
    clear hx hc3 hg3 O2 G2
    go_wp2_with (at_builtin; refine appendV_law Try.elemVals rfl _ _ rfl _ _ _ _ _ ⟨xt, xn, xs⟩ rfl O3 rfl (by unfold maxLen; omega) (by omega) ?_)
    intro v4 w4 o4 e4
    have G4 := G3.ext O3 (Nat.le_refl _) e4
    rw [HVA.out] at o4
    have O4 := Lib.hid o4
    have G4' := Lib.hid G4
    clear o4 e4 O3 G3 G4
    go_wp2
    go_ret
    have hlen : (l ++ [(⟨xt, xn, xs⟩ : V)]).length = n + 1 := by rw [List.length_append, HN.out]; rfl
    refine ⟨_, l ++ [⟨xt, xn, xs⟩], rfl, by rw [hlen]; have := HLC.out; omega, fun y hy => ?_, by rw [hlen]; exact O4.out, G4'.out⟩
    rcases List.mem_append.1 hy with hy | hy
    · exact HF.out y hy
    · rw [List.mem_singleton] at hy
      rw [hy]
      exact HX.out
  by_cases hk1 : k = 1
  · subst hk1
    by_cases hn0 : 0 < n
    · go_wp2_with fail
      refine (l3Any c g _ G2.cur).mono ?_
      rintro e w3 ⟨x, rfl, hx, hc3, hg3⟩
      have G3 := G2.next hc3 hg3
      have O3 := (O2.draw hg3 hgl).wide hg3.size
      obtain ⟨xt, xn, xs⟩ := x
      have HX := Lib.hid hx
      obtain ⟨y0, y1, y2⟩ := vals_at0 (l := l) (by rw [HN.out]; exact hn0)
      obtain ⟨p0, f0⟩ := O3.cell1 y0
      obtain ⟨p1, f1⟩ := O3.cell1 y1
      obtain ⟨p2, f2⟩ := O3.cell1 y2
      have hog : w.heap.size ≤ og := by obtain ⟨g', cp', e', h1, _⟩ := O3; cases e'; exact h1
      have O4 := Lib.hid (((O3.set1 0 (.int .i64 xt)).set1 1 (.int .i64 xn)).set1 2 (.string xs))
      have G4 := Lib.hid (((G3.set hog 0 (.int .i64 xt)).set hog 1 (.int .i64 xn)).set hog 2 (.string xs))
      have HVS := Lib.hid (vals_set0 (l := l) (x := ⟨xt, xn, xs⟩) (by rw [HN.out]; exact hn0))
      clear hx hc3 hg3 O2 G2 y0 y1 y2 O3 G3
      go_wp2
      go_ret
      have hlen : (l.set 0 (⟨xt, xn, xs⟩ : V)).length = n := by rw [List.length_set, HN.out]
      refine ⟨_, l.set 0 ⟨xt, xn, xs⟩, rfl, by rw [hlen]; have := HLC.out; omega, fun y hy => ?_, ?_, G4.out⟩
      · rcases List.mem_or_eq_of_mem_set hy with hy | hy
        · exact HF.out y hy
        · rw [hy]
          exact HX.out
      · rw [hlen]
        have := O4.out
        rw [HVS.out] at this
        simpa [World.setCell] using this
    · have O4 := Lib.hid O2
      have G4 := Lib.hid G2
      clear O2 G2
      go_wp2
      go_ret
      exact ⟨_, l, rfl, by rw [HN.out]; have := HLC.out; omega, HF.out, by rw [HN.out]; exact O4.out, G4.out⟩
  · have O4 := Lib.hid O2
    have G4 := Lib.hid G2
    clear O2 G2
    go_wp2
    go_ret
    exact ⟨_, l, rfl, by rw [HN.out]; have := HLC.out; omega, HF.out, by rw [HN.out]; exact O4.out, G4.out⟩

end Go.Proofs.Ytkofafefnlommaa
