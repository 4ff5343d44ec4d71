/- The contracts of the model's functions that draw values: l3Int, l3Text, l3Draw, l3Any, l3List. -/
import Derived.Test.YtcnackecchjckaaDrawMore
import Derived.Test.YtcnackecchjckaaVOk
import Derived.Test.YtcnackecchjckaaRd
import Derived.Test.YtcnackecchjckaaHeldV
namespace Go.Proofs.Ytcnackecchjckaa
open Go.RowKit

set_option maxHeartbeats 400000 in
theorem l1StrV (c : Code) (g : Nat) (v : Value) (m : Nat) (ss : List ByteArray) (w : World) (hm : ss.length = m) (h0 : 0 < m) (hv : At 1 w v m (strs ss)) (hne : v.ownBlock ≠ some g) (h : Cur c g w) :
    Calls Try.prog 94 #[.pointer (some ⟨g, 0, none⟩), v] w fun e w' => ∃ l ∈ ss, e = .returned (.string l) ∧ Cur c g w' ∧ w.grownBy w' (some g) := by
  obtain ⟨b, off, cap, rfl, h1, h2, h3, hc⟩ := hv
  unfold maxLen at h2
  go_enter Try.func94, Try.ntmps94
  go_wp2_with fail
  refine (l1Below c g _ _ h).mono ?_
  rintro e w1 ⟨x, rfl, hx, hc1, hg1⟩
  obtain ⟨k, rfl⟩ := Int.eq_ofNat_of_zero_le hx.1
  have hk : k < m := by omega
  have hbg : b ≠ g := by simpa [Value.ownBlock] using hne
  have hcx := hc k _ (strs_get (by omega))
  have hcx1 : w1.cell? ⟨b, off + k, none⟩ = some (.string (ss.getD k ⟨#[]⟩)) := (World.cell?_of_block (w := w) (hg1.block b (lt_of_cell hcx) (fun e => hbg (by simpa using e)))).trans hcx
  have hmem : Hid (ss.getD k ⟨#[]⟩ ∈ ss) := by
    show _ ∈ _
    have hk' : k < ss.length := by omega
    have e : ss.getD k ⟨#[]⟩ = ss[k] := by simp [hk']
    rw [e]
    exact List.getElem_mem hk'
  generalize ss.getD k ⟨#[]⟩ = z at hcx1 hmem
  clear hcx hc hx h3
  go_wp2
  go_ret
  exact ⟨_, hmem.out, rfl, hc1, hg1⟩
theorem strVlit_at (w : World) (ss : List ByteArray) (n : Nat) (hn : ss.length = n) (hm : n ≤ 1000) : At 1 (w.alloc (.cells (strs ss).toArray 9)) (.slice (some ⟨w.heap.size, 0, none⟩) n n) n (strs ss) := by
  have := own_lit (e := 9) (size := 1) w (strs ss).toArray n (by unfold maxLen; omega) (by simp [strs, hn])
  simpa using this.at
theorem l1StrVLit (c : Code) (g : Nat) (ss : List ByteArray) (n : Nat) (w : World) (hn : ss.length = n) (h0 : 0 < n) (hm : n ≤ 1000) (h : Cur c g w) (arr : Array Value) (ha : arr = (strs ss).toArray) :
    Calls Try.prog 94 #[.pointer (some ⟨g, 0, none⟩), .slice (some ⟨w.heap.size, 0, none⟩) n n] (w.alloc (.cells arr 9)) fun e w' => ∃ l ∈ ss, e = .returned (.string l) ∧ Cur c g w' ∧ w.grownBy w' (some g) := by
  subst ha
  refine (l1StrV c g _ n ss _ hn h0 (strVlit_at w ss n hn hm) ?_ (h.alloc _)).mono ?_
  · have := h.lt
    simp [Value.ownBlock]
    omega
  · rintro e w1 ⟨x, hx, rfl, hc1, hg1⟩
    exact ⟨x, hx, rfl, hc1, (grownBy_alloc w _ _).trans hg1⟩

theorem l1StrVLitAt (c : Code) (g N : Nat) (ss : List ByteArray) (n : Nat) (w : World) (hN : w.heap.size = N) (hn : ss.length = n) (h0 : 0 < n) (hm : n ≤ 1000) (h : Cur c g w) (arr : Array Value) (ha : arr = (strs ss).toArray) :
    Calls Try.prog 94 #[.pointer (some ⟨g, 0, none⟩), .slice (some ⟨N, 0, none⟩) n n] (w.alloc (.cells arr 9)) fun e w' => ∃ l ∈ ss, e = .returned (.string l) ∧ Cur c g w' ∧ w.grownBy w' (some g) := by
  subst hN
  exact l1StrVLit c g ss n w hn h0 hm h arr ha

theorem wrap64_in {x : Int} (h0 : -9223372036854775808 ≤ x) (h1 : x ≤ 9223372036854775807) : wrap64 x = x := by
  unfold wrap64
  omega
theorem prod_ok {y z : Int} (hy : 0 ≤ y) (hy2 : y < 30000) (hz : 0 ≤ z) (hz2 : z < 30000) : Num.ok (y * (z - 15000)) := by
  have h1 : y * (z - 15000) ≤ 30000 * 15000 := by
    by_cases hc : 0 ≤ z - 15000
    · exact Int.mul_le_mul (by omega) (by omega) hc (by omega)
    · have := Int.mul_nonpos_of_nonneg_of_nonpos hy (show z - 15000 ≤ 0 by omega)
      omega
  have h2 : -(30000 * 15000) ≤ y * (z - 15000) := by
    have h3 : y * (15000 - z) ≤ 30000 * 15000 := by
      by_cases hc : 0 ≤ 15000 - z
      · exact Int.mul_le_mul (by omega) (by omega) hc (by omega)
      · have := Int.mul_nonpos_of_nonneg_of_nonpos hy (show 15000 - z ≤ 0 by omega)
        omega
    have h4 : y * (z - 15000) = -(y * (15000 - z)) := by
      rw [← Int.mul_neg]
      congr 1
      omega
    omega
  unfold Num.ok
  omega

set_option maxHeartbeats 1000000 in
theorem l1NumOk (c : Code) (g : Nat) (w : World) (h : Cur c g w) :
    Calls Try.prog 99 #[.pointer (some ⟨g, 0, none⟩)] w (DrewInt c g w Num.ok) := by
  go_enter Try.func99, Try.ntmps99
  go_wp2_with fail
  refine (l1Below c g _ _ h).mono ?_
  rintro e w1 ⟨x, rfl, hx, hc1, hg1⟩
  have hx5 : x < 5 := by omega
  obtain ⟨hx0, _⟩ := hx
  by_cases e0 : x = 0
  · subst e0
    go_wp2_with fail
    refine (l1Below c g _ _ hc1).mono ?_
    rintro e w2 ⟨y, rfl, hy, hc2, hg2⟩
    go_wp2
    go_ret
    exact ⟨_, rfl, by unfold Num.ok; omega, hc2, hg1.trans hg2⟩
  · have b0 : (x == 0) = false := by simp [e0]
    by_cases e1 : x = 1
    · subst e1
      go_wp2_with fail
      refine (l1IntLit c g [0, -1, 1, 63, 64, -64, -65, 8191, 8192, 1000000000, -1000000000, 999999999] 12 w1 rfl (by omega) (by omega) hc1 _ rfl).mono ?_
      rintro e w2 ⟨y, rfl, hy, hc2, hg2⟩
      have H : Hid (Num.ok y) := ⟨(by decide +kernel : ∀ x ∈ ([0, -1, 1, 63, 64, -64, -65, 8191, 8192, 1000000000, -1000000000, 999999999] : List Int), -1000000000 ≤ x) y hy, (by decide +kernel : ∀ x ∈ ([0, -1, 1, 63, 64, -64, -65, 8191, 8192, 1000000000, -1000000000, 999999999] : List Int), x ≤ 1000000000) y hy⟩
      clear hy
      go_wp2
      go_ret
      exact ⟨_, rfl, H.out, hc2, hg1.trans hg2⟩
    · have b1 : (x == 1) = false := by simp [e1]
      by_cases e2 : x = 2
      · subst e2
        go_wp2_with fail
        refine (l1Below c g _ _ hc1).mono ?_
        rintro e w2 ⟨y, rfl, hy, hc2, hg2⟩
        go_wp2_with fail
        refine (l1Below c g _ _ hc2).mono ?_
        rintro e w3 ⟨z, rfl, hz, hc3, hg3⟩
        have hok := prod_ok hy.1 (by omega) hz.1 (by omega)
        have H : Hid (∀ q, q = y * (z - 15000) → Num.ok (wrap64 q)) := fun q hq => by
          subst hq
          have h1 := hok
          unfold Num.ok at h1
          rw [wrap64_in (by omega) (by omega)]
          exact hok
        clear hok
        go_wp2
        go_ret
        exact ⟨_, rfl, H.out _ rfl, hc3, (hg1.trans hg2).trans hg3⟩
      · have b2 : (x == 2) = false := by simp [e2]
        clear e0 e1 e2
        go_wp2_with fail
        refine (l1Below c g _ _ hc1).mono ?_
        rintro e w2 ⟨y, rfl, hy, hc2, hg2⟩
        go_wp2
        go_ret
        exact ⟨_, rfl, by unfold Num.ok; omega, hc2, hg1.trans hg2⟩

/-- A value with P is returned; the cursor goes on; nothing else of old memory has turned. -/
def DrewVal (c : Code) (g : Nat) (w : World) (P : V → Prop) (e : Ending) (w' : World) : Prop :=
  ∃ x : V, e = .returned x.agg ∧ P x ∧ Cur c g w' ∧ w.grownBy w' (some g)

/-- Right, and of this type. -/
def OfTy (ty : Int) (v : V) : Prop := okV v = true ∧ v.ty = ty
theorem ofTy_int {n : Int} (h : Num.ok n) : OfTy 1 ⟨1, n, ⟨#[]⟩⟩ := by
  refine ⟨?_, rfl⟩
  unfold okV
  simp only [if_true, Bool.and_eq_true]
  exact ⟨Num.okB_true.2 h, rfl⟩

theorem Held.draw {W W' : World} {b g : Nat} {v : V} (h : Held W b v) (hg : W.grownBy W' (some g)) (hne : b ≠ g) : Held W' b v := by
  have hb := hg.block b (lt_of_cell h.1.1) (fun e => hne (by simpa using e))
  have hc : ∀ j, W'.cell? ⟨b, j, none⟩ = W.cell? ⟨b, j, none⟩ := fun j => World.cell?_of_block hb
  have hf : ∀ j, W'.frozen? ⟨b, j, none⟩ = W.frozen? ⟨b, j, none⟩ := fun j => World.frozen?_of_block hb
  exact ⟨⟨(hc 0).trans h.1.1, (hc 1).trans h.1.2.1, (hc 2).trans h.1.2.2⟩, (hf 0).trans h.2.1, (hf 1).trans h.2.2.1, (hf 2).trans h.2.2.2⟩
/-- The cursor, while a draw goes on that began in w. -/
structure Going (c : Code) (g : Nat) (w w' : World) : Prop where
  cur : Cur c g w'
  grown : w.grownBy w' (some g)
  lt : g < w.heap.size
  code : ∀ x, c.a = some x → 0 < c.len → x.block < w.heap.size
theorem Going.start {c : Code} {g : Nat} {w : World} (h : Cur c g w) : Going c g w w := ⟨h, grownBy_refl _ _, h.lt, h.1.lt⟩
theorem Going.next {c : Code} {g : Nat} {w w1 w2 : World} (h : Going c g w w1) (hc : Cur c g w2) (hg : w1.grownBy w2 (some g)) : Going c g w w2 := ⟨hc, h.grown.trans hg, h.lt, h.code⟩
theorem Going.alloc {c : Code} {g : Nat} {w w1 : World} (h : Going c g w w1) (o : Obj) : Going c g w (w1.alloc o) := h.next (h.cur.alloc o) (grownBy_alloc w1 o _)
theorem Going.below {c : Code} {g : Nat} {w w1 w2 : World} (h : Going c g w w1) (hb : Below w1.heap.size w1 w2) : Going c g w w2 := h.next (h.cur.below hb) (grownBy_below hb _)
/-- A block of the draw's own is written. -/
theorem Going.own {c : Code} {g b : Nat} {w w1 w2 : World} (h : Going c g w w1) (hb : w.heap.size ≤ b) (hg : w1.grownBy w2 (some b)) : Going c g w w2 := by
  have hl := h.lt
  refine ⟨h.cur.grown hg (fun k hk => ?_), ?_, h.lt, h.code⟩
  · obtain rfl : b = k := by simpa using hk
    exact ⟨by omega, fun x hx h0 => by have := h.code x hx h0; omega⟩
  · have g1 := h.grown
    refine ⟨hg.os.trans g1.os, hg.tape.trans g1.tape, hg.output.trans g1.output, Nat.le_trans g1.size hg.size, fun i hi hne => ?_⟩
    exact (hg.block i (by have := g1.size; omega) (fun e => by have : i = b := by simpa using e
                                                               omega)).trans (g1.block i hi hne)
theorem Going.set {c : Code} {g b : Nat} {w w1 : World} (h : Going c g w w1) (hb : w.heap.size ≤ b) (j : Nat) (v : Value) : Going c g w (w1.setCell ⟨b, j, none⟩ v) := h.own hb (grownBy_setCell w1 b j v)
theorem Going.set3 {c : Code} {g b : Nat} {w w1 : World} (h : Going c g w w1) (hb : w.heap.size ≤ b) (x y z : Value) : Going c g w (((w1.setCell ⟨b, 0, none⟩ x).setCell ⟨b, 1, none⟩ y).setCell ⟨b, 2, none⟩ z) := ((h.set hb 0 x).set hb 1 y).set hb 2 z
theorem Going.ext {c : Code} {g lo hi n size : Nat} {e : TypeId} {w w1 w2 : World} {v v' : Value} {xs : List Value} (h : Going c g w w1) (ho : Own e size lo hi w1 v n xs) (hlo : w.heap.size ≤ lo) (hx : Ext w1 w2 v v') : Going c g w w2 := by
  obtain ⟨b, cp, rfl, h1, _, _⟩ := ho
  exact h.own (b := b) (by omega) hx.grown

set_option maxHeartbeats 1000000 in
theorem l3Int (c : Code) (g : Nat) (w : World) (h : Cur c g w) :
    Calls Try.prog 89 #[.pointer (some ⟨g, 0, none⟩)] w (DrewVal c g w (OfTy 1)) := by
  have G0 := (Going.start h).alloc (.cells #[.int .i64 0, .int .i64 0, .string ⟨#[]⟩] 34)
  have H0 : Held _ _ _ := held_new w V.zero 34
  simp only [V.zero] at H0
  have HSZ0 : Hid ((w.alloc (.cells #[.int .i64 0, .int .i64 0, .string ⟨#[]⟩] 34)).heap.size = w.heap.size + 1) := World.size_alloc _ _
  generalize hw0 : w.alloc (.cells #[.int .i64 0, .int .i64 0, .string ⟨#[]⟩] 34) = W0 at G0 H0 HSZ0
  have HW0 := Lib.hid hw0
  clear hw0
  have hgl := h.lt
  go_enter Try.func89, Try.ntmps89
  go_wp2_with fail
  rw [HW0.out]
  refine (l1Once c g _ _ G0.cur).mono ?_
  rintro e w1 ⟨b, rfl, hc1, hg1⟩
  have G1 := G0.next hc1 hg1
  have H1 := H0.draw hg1 (by omega)
  cases b with
  | true =>
    go_wp2_with fail
    refine (l1NumOk c g _ hc1).mono ?_
    rintro e w2 ⟨x, rfl, H, hc2, hg2⟩
    have HH := Lib.hid (ofTy_int H)
    have G2 := G1.next hc2 hg2
    obtain ⟨⟨c0, c1, c2⟩, f0, f1, f2⟩ := H1.draw hg2 (by omega)
    have G3 := Lib.hid (G2.set3 (Nat.le_refl _) (.int .i64 1) (.int .i64 x) (.string ⟨#[]⟩))
    clear H hc2 hg2 hc1 hg1 G0 H0 G1 H1 G2
    go_wp2
    exact bodyPost_ret (v := V.agg ⟨1, x, ⟨#[]⟩⟩) (by simp [results, Try.results89, go_sem, *]) rfl ⟨_, rfl, HH.out, G3.out.cur, G3.out.grown⟩
  | false =>
    go_wp2_with fail
    refine (l1IntLit c g [0, 1, 2, 3, 7, -1] 6 w1 rfl (by omega) (by omega) hc1 _ rfl).mono ?_
    rintro e w2 ⟨x, rfl, hx, hc2, hg2⟩
    have HH := Lib.hid (ofTy_int (n := x) ⟨(by decide +kernel : ∀ x ∈ ([0, 1, 2, 3, 7, -1] : List Int), -1000000000 ≤ x) x hx, (by decide +kernel : ∀ x ∈ ([0, 1, 2, 3, 7, -1] : List Int), x ≤ 1000000000) x hx⟩)
    have G2 := G1.next hc2 hg2
    obtain ⟨⟨c0, c1, c2⟩, f0, f1, f2⟩ := H1.draw hg2 (by omega)
    have G3 := Lib.hid (G2.set3 (Nat.le_refl _) (.int .i64 1) (.int .i64 x) (.string ⟨#[]⟩))
    clear hx hc2 hg2 hc1 hg1 G0 H0 G1 H1 G2
    go_wp2
    exact bodyPost_ret (v := V.agg ⟨1, x, ⟨#[]⟩⟩) (by simp [results, Try.results89, go_sem, *]) rfl ⟨_, rfl, HH.out, G3.out.cur, G3.out.grown⟩

/-- The texts that l3Text draws. -/
def texts8 : List ByteArray := [⟨#[]⟩, ⟨#[97]⟩, ⟨#[98]⟩, ⟨#[97, 98]⟩, ⟨#[114, 101, 100]⟩, ⟨#[98, 108, 117, 101]⟩, ⟨#[103, 114, 101, 101, 110]⟩, ⟨#[122, 122, 122, 122, 122, 122]⟩]
theorem texts8_ok {s : ByteArray} (h : s ∈ texts8) : OfTy 2 ⟨2, 0, s⟩ := by
  simp only [texts8, List.mem_cons, List.not_mem_nil, or_false] at h
  rcases h with rfl | rfl | rfl | rfl | rfl | rfl | rfl | rfl <;> exact ⟨by decide +kernel, rfl⟩

set_option maxHeartbeats 1000000 in
theorem l3Text (c : Code) (g : Nat) (w : World) (h : Cur c g w) :
    Calls Try.prog 90 #[.pointer (some ⟨g, 0, none⟩)] w (DrewVal c g w (OfTy 2)) := by
  have G0 := (Going.start h).alloc (.cells #[.int .i64 0, .int .i64 0, .string ⟨#[]⟩] 34)
  have H0 : Held _ _ _ := held_new w V.zero 34
  simp only [V.zero] at H0
  have HSZ0 : Hid ((w.alloc (.cells #[.int .i64 0, .int .i64 0, .string ⟨#[]⟩] 34)).heap.size = w.heap.size + 1) := World.size_alloc _ _
  generalize hw0 : w.alloc (.cells #[.int .i64 0, .int .i64 0, .string ⟨#[]⟩] 34) = W0 at G0 H0 HSZ0
  have HW0 := Lib.hid hw0
  clear hw0
  have hgl := h.lt
  go_enter Try.func90, Try.ntmps90
  go_wp2_with fail
  rw [HW0.out]
  refine (l1StrVLitAt c g _ texts8 8 W0 HSZ0.out rfl (by omega) (by omega) G0.cur _ rfl).mono ?_
  rintro e w2 ⟨s, hs, rfl, hc2, hg2⟩
  have HH := Lib.hid (texts8_ok hs)
  have G2 := G0.next hc2 hg2
  obtain ⟨⟨c0, c1, c2⟩, f0, f1, f2⟩ := H0.draw hg2 (by omega)
  have G3 := Lib.hid (G2.set3 (Nat.le_refl _) (.int .i64 2) (.int .i64 0) (.string s))
  clear hs hc2 hg2 G0 H0 G2
  go_wp2
  exact bodyPost_ret (v := V.agg ⟨2, 0, s⟩) (by simp [results, Try.results90, go_sem, *]) rfl ⟨_, rfl, HH.out, G3.out.cur, G3.out.grown⟩

set_option maxHeartbeats 1000000 in
theorem l3Draw (c : Code) (g : Nat) (w : World) (h : Cur c g w) :
    Calls Try.prog 67 #[.pointer (some ⟨g, 0, none⟩)] w (DrewVal c g w fun v => OfTy 1 v ∨ OfTy 2 v) := by
  have G0 := (Going.start h).alloc (.cells #[.int .i64 0, .int .i64 0, .string ⟨#[]⟩] 34)
  have H0 : Held _ _ _ := held_new w V.zero 34
  simp only [V.zero] at H0
  have HSZ0 : Hid ((w.alloc (.cells #[.int .i64 0, .int .i64 0, .string ⟨#[]⟩] 34)).heap.size = w.heap.size + 1) := World.size_alloc _ _
  generalize hw0 : w.alloc (.cells #[.int .i64 0, .int .i64 0, .string ⟨#[]⟩] 34) = W0 at G0 H0 HSZ0
  have HW0 := Lib.hid hw0
  clear hw0
  have hgl := h.lt
  go_enter Try.func67, Try.ntmps67
  go_wp2_with fail
  rw [HW0.out]
  refine (l1Once c g _ _ G0.cur).mono ?_
  rintro e w1 ⟨b, rfl, hc1, hg1⟩
  have G1 := G0.next hc1 hg1
  have H1 := H0.draw hg1 (by omega)
  cases b with
  | true =>
    go_wp2_with fail
    refine (l3Int c g _ hc1).mono ?_
    rintro e w2 ⟨x, rfl, H, hc2, hg2⟩
    have HH := Lib.hid H
    have G2 := G1.next hc2 hg2
    obtain ⟨⟨c0, c1, c2⟩, f0, f1, f2⟩ := H1.draw hg2 (by omega)
    obtain ⟨xt, xn, xs⟩ := x
    have G3 := Lib.hid (G2.set3 (Nat.le_refl _) (.int .i64 xt) (.int .i64 xn) (.string xs))
    clear H hc2 hg2 hc1 hg1 G0 H0 G1 H1 G2
    go_wp2
    exact bodyPost_ret (v := V.agg ⟨xt, xn, xs⟩) (by simp [results, Try.results67, go_sem, *]) rfl ⟨_, rfl, .inl HH.out, G3.out.cur, G3.out.grown⟩
  | false =>
    go_wp2_with fail
    refine (l3Text c g _ hc1).mono ?_
    rintro e w2 ⟨x, rfl, H, hc2, hg2⟩
    have HH := Lib.hid H
    have G2 := G1.next hc2 hg2
    obtain ⟨⟨c0, c1, c2⟩, f0, f1, f2⟩ := H1.draw hg2 (by omega)
    obtain ⟨xt, xn, xs⟩ := x
    have G3 := Lib.hid (G2.set3 (Nat.le_refl _) (.int .i64 xt) (.int .i64 xn) (.string xs))
    clear H hc2 hg2 hc1 hg1 G0 H0 G1 H1 G2
    go_wp2
    exact bodyPost_ret (v := V.agg ⟨xt, xn, xs⟩) (by simp [results, Try.results67, go_sem, *]) rfl ⟨_, rfl, .inr HH.out, G3.out.cur, G3.out.grown⟩

end Go.Proofs.Ytcnackecchjckaa
