/- Texts of this claim, one behind the other: DrawV, DrawV2, Draw5A, Draw10, Law10b, Law10c. -/
import Derived.Test.YtcokmjdehclhkaaP6
import Derived.Test.YtcokmjdehclhkaaP11
import Derived.Test.YtcokmjdehclhkaaP4
import Derived.Test.YtcokmjdehclhkaaP12

/- The contracts of the model's functions that draw values: l3Int, l3Text, l3Draw, l3Any, l3List. -/
namespace Go.Proofs.Ytcokmjdehclhkaa
open Go.RowKit

set_option maxHeartbeats 400000 in
theorem l1StrV (c : Code) (g : Nat) (v : Value) (m : Nat) (ss : List ByteArray) (w : World) (hm : ss.length = m) (h0 : 0 < m) (hv : At 1 w v m (strs ss)) (hne : v.ownBlock ≠ some g) (h : Cur c g w) :
    Calls Try.prog 54 #[.pointer (some ⟨g, 0, none⟩), v] w fun e w' => ∃ l ∈ ss, e = .returned (.string l) ∧ Cur c g w' ∧ w.grownBy w' (some g) := by
  obtain ⟨b, off, cap, rfl, h1, h2, h3, hc⟩ := hv
  unfold maxLen at h2
  go_enter Try.func54, Try.ntmps54
  go_wp2_with fail
  refine (l1Below c g _ _ h).mono ?_
  rintro e w1 ⟨x, rfl, hx, hc1, hg1⟩
  obtain ⟨k, rfl⟩ := Int.eq_ofNat_of_zero_le hx.1
  have hk : k < m := by omega
  have hbg : b ≠ g := by simpa [Value.ownBlock] using hne
  have hcx := hc k _ (strs_get (by omega))
  have hcx1 : w1.cell? ⟨b, off + k, none⟩ = some (.string (ss.getD k ⟨#[]⟩)) := (World.cell?_of_block (w := w) (hg1.block b (lt_of_cell hcx) (fun e => hbg (by simpa using e)))).trans hcx
  have hmem : Hid (ss.getD k ⟨#[]⟩ ∈ ss) := by
    show _ ∈ _
    have hk' : k < ss.length := by omega
    have e : ss.getD k ⟨#[]⟩ = ss[k] := by simp [hk']
    rw [e]
    exact List.getElem_mem hk'
  generalize ss.getD k ⟨#[]⟩ = z at hcx1 hmem
  clear hcx hc hx h3
  go_wp2
  go_ret
  exact ⟨_, hmem.out, rfl, hc1, hg1⟩
theorem strVlit_at (w : World) (ss : List ByteArray) (n : Nat) (hn : ss.length = n) (hm : n ≤ 1000) : At 1 (w.alloc (.cells (strs ss).toArray 9)) (.slice (some ⟨w.heap.size, 0, none⟩) n n) n (strs ss) := by
  have := own_lit (e := 9) (size := 1) w (strs ss).toArray n (by unfold maxLen; omega) (by simp [strs, hn])
  simpa using this.at
theorem l1StrVLit (c : Code) (g : Nat) (ss : List ByteArray) (n : Nat) (w : World) (hn : ss.length = n) (h0 : 0 < n) (hm : n ≤ 1000) (h : Cur c g w) (arr : Array Value) (ha : arr = (strs ss).toArray) :
    Calls Try.prog 54 #[.pointer (some ⟨g, 0, none⟩), .slice (some ⟨w.heap.size, 0, none⟩) n n] (w.alloc (.cells arr 9)) fun e w' => ∃ l ∈ ss, e = .returned (.string l) ∧ Cur c g w' ∧ w.grownBy w' (some g) := by
  subst ha
  refine (l1StrV c g _ n ss _ hn h0 (strVlit_at w ss n hn hm) ?_ (h.alloc _)).mono ?_
  · have := h.lt
    simp [Value.ownBlock]
    omega
  · rintro e w1 ⟨x, hx, rfl, hc1, hg1⟩
    exact ⟨x, hx, rfl, hc1, (grownBy_alloc w _ _).trans hg1⟩

theorem l1StrVLitAt (c : Code) (g N : Nat) (ss : List ByteArray) (n : Nat) (w : World) (hN : w.heap.size = N) (hn : ss.length = n) (h0 : 0 < n) (hm : n ≤ 1000) (h : Cur c g w) (arr : Array Value) (ha : arr = (strs ss).toArray) :
    Calls Try.prog 54 #[.pointer (some ⟨g, 0, none⟩), .slice (some ⟨N, 0, none⟩) n n] (w.alloc (.cells arr 9)) fun e w' => ∃ l ∈ ss, e = .returned (.string l) ∧ Cur c g w' ∧ w.grownBy w' (some g) := by
  subst hN
  exact l1StrVLit c g ss n w hn h0 hm h arr ha

theorem wrap64_in {x : Int} (h0 : -9223372036854775808 ≤ x) (h1 : x ≤ 9223372036854775807) : wrap64 x = x := by
  unfold wrap64
  omega
theorem prod_ok {y z : Int} (hy : 0 ≤ y) (hy2 : y < 30000) (hz : 0 ≤ z) (hz2 : z < 30000) : Num.ok (y * (z - 15000)) := by
  have h1 : y * (z - 15000) ≤ 30000 * 15000 := by
    by_cases hc : 0 ≤ z - 15000
    · exact Int.mul_le_mul (by omega) (by omega) hc (by omega)
    · have := Int.mul_nonpos_of_nonneg_of_nonpos hy (show z - 15000 ≤ 0 by omega)
      omega
  have h2 : -(30000 * 15000) ≤ y * (z - 15000) := by
    have h3 : y * (15000 - z) ≤ 30000 * 15000 := by
      by_cases hc : 0 ≤ 15000 - z
      · exact Int.mul_le_mul (by omega) (by omega) hc (by omega)
      · have := Int.mul_nonpos_of_nonneg_of_nonpos hy (show 15000 - z ≤ 0 by omega)
        omega
    have h4 : y * (z - 15000) = -(y * (15000 - z)) := by
      rw [← Int.mul_neg]
      congr 1
      omega
    omega
  unfold Num.ok
  omega

set_option maxHeartbeats 1000000 in
theorem l1NumOk (c : Code) (g : Nat) (w : World) (h : Cur c g w) :
    Calls Try.prog 53 #[.pointer (some ⟨g, 0, none⟩)] w (DrewInt c g w Num.ok) := by
  go_enter Try.func53, Try.ntmps53
  go_wp2_with fail
  refine (l1Below c g _ _ h).mono ?_
  rintro e w1 ⟨x, rfl, hx, hc1, hg1⟩
  have hx5 : x < 5 := by omega
  obtain ⟨hx0, _⟩ := hx
  by_cases e0 : x = 0
  · subst e0
    go_wp2_with fail
    refine (l1Below c g _ _ hc1).mono ?_
    rintro e w2 ⟨y, rfl, hy, hc2, hg2⟩
    go_wp2
    go_ret
    exact ⟨_, rfl, by unfold Num.ok; omega, hc2, hg1.trans hg2⟩
  · have b0 : (x == 0) = false := by simp [e0]
    by_cases e1 : x = 1
    · subst e1
      go_wp2_with fail
      refine (l1IntLit c g [0, -1, 1, 63, 64, -64, -65, 8191, 8192, 1000000000, -1000000000, 999999999] 12 w1 rfl (by omega) (by omega) hc1 _ rfl).mono ?_
      rintro e w2 ⟨y, rfl, hy, hc2, hg2⟩
      have H : Hid (Num.ok y) := ⟨(by decide +kernel : ∀ x ∈ ([0, -1, 1, 63, 64, -64, -65, 8191, 8192, 1000000000, -1000000000, 999999999] : List Int), -1000000000 ≤ x) y hy, (by decide +kernel : ∀ x ∈ ([0, -1, 1, 63, 64, -64, -65, 8191, 8192, 1000000000, -1000000000, 999999999] : List Int), x ≤ 1000000000) y hy⟩
      clear hy
      go_wp2
      go_ret
      exact ⟨_, rfl, H.out, hc2, hg1.trans hg2⟩
    · have b1 : (x == 1) = false := by simp [e1]
      by_cases e2 : x = 2
      · subst e2
        go_wp2_with fail
        refine (l1Below c g _ _ hc1).mono ?_
        rintro e w2 ⟨y, rfl, hy, hc2, hg2⟩
        go_wp2_with fail
        refine (l1Below c g _ _ hc2).mono ?_
        rintro e w3 ⟨z, rfl, hz, hc3, hg3⟩
        have hok := prod_ok hy.1 (by omega) hz.1 (by omega)
        have H : Hid (∀ q, q = y * (z - 15000) → Num.ok (wrap64 q)) := fun q hq => by
          subst hq
          have h1 := hok
          unfold Num.ok at h1
          rw [wrap64_in (by omega) (by omega)]
          exact hok
        clear hok
        go_wp2
        go_ret
        exact ⟨_, rfl, H.out _ rfl, hc3, (hg1.trans hg2).trans hg3⟩
      · have b2 : (x == 2) = false := by simp [e2]
        clear e0 e1 e2
        go_wp2_with fail
        refine (l1Below c g _ _ hc1).mono ?_
        rintro e w2 ⟨y, rfl, hy, hc2, hg2⟩
        go_wp2
        go_ret
        exact ⟨_, rfl, by unfold Num.ok; omega, hc2, hg1.trans hg2⟩

/-- A value with P is returned; the cursor goes on; nothing else of old memory has turned. -/
def DrewVal (c : Code) (g : Nat) (w : World) (P : V → Prop) (e : Ending) (w' : World) : Prop :=
  ∃ x : V, e = .returned x.agg ∧ P x ∧ Cur c g w' ∧ w.grownBy w' (some g)

/-- Right, and of this type. -/
def OfTy (ty : Int) (v : V) : Prop := okV v = true ∧ v.ty = ty
theorem ofTy_int {n : Int} (h : Num.ok n) : OfTy 1 ⟨1, n, ⟨#[]⟩⟩ := by
  refine ⟨?_, rfl⟩
  unfold okV
  simp only [if_true, Bool.and_eq_true]
  exact ⟨Num.okB_true.2 h, rfl⟩

theorem Held.draw {W W' : World} {b g : Nat} {v : V} (h : Held W b v) (hg : W.grownBy W' (some g)) (hne : b ≠ g) : Held W' b v := by
  have hb := hg.block b (lt_of_cell h.1.1) (fun e => hne (by simpa using e))
  have hc : ∀ j, W'.cell? ⟨b, j, none⟩ = W.cell? ⟨b, j, none⟩ := fun j => World.cell?_of_block hb
  have hf : ∀ j, W'.frozen? ⟨b, j, none⟩ = W.frozen? ⟨b, j, none⟩ := fun j => World.frozen?_of_block hb
  exact ⟨⟨(hc 0).trans h.1.1, (hc 1).trans h.1.2.1, (hc 2).trans h.1.2.2⟩, (hf 0).trans h.2.1, (hf 1).trans h.2.2.1, (hf 2).trans h.2.2.2⟩
/-- The cursor, while a draw goes on that began in w. -/
structure Going (c : Code) (g : Nat) (w w' : World) : Prop where
  cur : Cur c g w'
  grown : w.grownBy w' (some g)
  lt : g < w.heap.size
  code : ∀ x, c.a = some x → 0 < c.len → x.block < w.heap.size
theorem Going.start {c : Code} {g : Nat} {w : World} (h : Cur c g w) : Going c g w w := ⟨h, grownBy_refl _ _, h.lt, h.1.lt⟩
theorem Going.next {c : Code} {g : Nat} {w w1 w2 : World} (h : Going c g w w1) (hc : Cur c g w2) (hg : w1.grownBy w2 (some g)) : Going c g w w2 := ⟨hc, h.grown.trans hg, h.lt, h.code⟩
theorem Going.alloc {c : Code} {g : Nat} {w w1 : World} (h : Going c g w w1) (o : Obj) : Going c g w (w1.alloc o) := h.next (h.cur.alloc o) (grownBy_alloc w1 o _)
theorem Going.below {c : Code} {g : Nat} {w w1 w2 : World} (h : Going c g w w1) (hb : Below w1.heap.size w1 w2) : Going c g w w2 := h.next (h.cur.below hb) (grownBy_below hb _)
/-- A block of the draw's own is written. -/
theorem Going.own {c : Code} {g b : Nat} {w w1 w2 : World} (h : Going c g w w1) (hb : w.heap.size ≤ b) (hg : w1.grownBy w2 (some b)) : Going c g w w2 := by
  have hl := h.lt
  refine ⟨h.cur.grown hg (fun k hk => ?_), ?_, h.lt, h.code⟩
  · obtain rfl : b = k := by simpa using hk
    exact ⟨by omega, fun x hx h0 => by have := h.code x hx h0; omega⟩
  · have g1 := h.grown
    refine ⟨hg.os.trans g1.os, hg.tape.trans g1.tape, hg.output.trans g1.output, Nat.le_trans g1.size hg.size, fun i hi hne => ?_⟩
    exact (hg.block i (by have := g1.size; omega) (fun e => by have : i = b := by simpa using e
                                                               omega)).trans (g1.block i hi hne)
theorem Going.set {c : Code} {g b : Nat} {w w1 : World} (h : Going c g w w1) (hb : w.heap.size ≤ b) (j : Nat) (v : Value) : Going c g w (w1.setCell ⟨b, j, none⟩ v) := h.own hb (grownBy_setCell w1 b j v)
theorem Going.set3 {c : Code} {g b : Nat} {w w1 : World} (h : Going c g w w1) (hb : w.heap.size ≤ b) (x y z : Value) : Going c g w (((w1.setCell ⟨b, 0, none⟩ x).setCell ⟨b, 1, none⟩ y).setCell ⟨b, 2, none⟩ z) := ((h.set hb 0 x).set hb 1 y).set hb 2 z
theorem Going.ext {c : Code} {g lo hi n size : Nat} {e : TypeId} {w w1 w2 : World} {v v' : Value} {xs : List Value} (h : Going c g w w1) (ho : Own e size lo hi w1 v n xs) (hlo : w.heap.size ≤ lo) (hx : Ext w1 w2 v v') : Going c g w w2 := by
  obtain ⟨b, cp, rfl, h1, _, _⟩ := ho
  exact h.own (b := b) (by omega) hx.grown

set_option maxHeartbeats 1000000 in
theorem l3Int (c : Code) (g : Nat) (w : World) (h : Cur c g w) :
    Calls Try.prog 49 #[.pointer (some ⟨g, 0, none⟩)] w (DrewVal c g w (OfTy 1)) := by
  have G0 := (Going.start h).alloc (.cells #[.int .i64 0, .int .i64 0, .string ⟨#[]⟩] 27)
  have H0 : Held _ _ _ := held_new w V.zero 27
  simp only [V.zero] at H0
  have HSZ0 : Hid ((w.alloc (.cells #[.int .i64 0, .int .i64 0, .string ⟨#[]⟩] 27)).heap.size = w.heap.size + 1) := World.size_alloc _ _
  generalize hw0 : w.alloc (.cells #[.int .i64 0, .int .i64 0, .string ⟨#[]⟩] 27) = W0 at G0 H0 HSZ0
  have HW0 := Lib.hid hw0
  clear hw0
  have hgl := h.lt
  go_enter Try.func49, Try.ntmps49
  go_wp2_with fail
  rw [HW0.out]
  refine (l1Once c g _ _ G0.cur).mono ?_
  rintro e w1 ⟨b, rfl, hc1, hg1⟩
  have G1 := G0.next hc1 hg1
  have H1 := H0.draw hg1 (by omega)
  cases b with
  | true =>
    go_wp2_with fail
    refine (l1NumOk c g _ hc1).mono ?_
    rintro e w2 ⟨x, rfl, H, hc2, hg2⟩
    have HH := Lib.hid (ofTy_int H)
    have G2 := G1.next hc2 hg2
    obtain ⟨⟨c0, c1, c2⟩, f0, f1, f2⟩ := H1.draw hg2 (by omega)
    have G3 := Lib.hid (G2.set3 (Nat.le_refl _) (.int .i64 1) (.int .i64 x) (.string ⟨#[]⟩))
    clear H hc2 hg2 hc1 hg1 G0 H0 G1 H1 G2
    go_wp2
    exact bodyPost_ret (v := V.agg ⟨1, x, ⟨#[]⟩⟩) (by simp [results, Try.results49, go_sem, *]) rfl ⟨_, rfl, HH.out, G3.out.cur, G3.out.grown⟩
  | false =>
    go_wp2_with fail
    refine (l1IntLit c g [0, 1, 2, 3, 7, -1] 6 w1 rfl (by omega) (by omega) hc1 _ rfl).mono ?_
    rintro e w2 ⟨x, rfl, hx, hc2, hg2⟩
    have HH := Lib.hid (ofTy_int (n := x) ⟨(by decide +kernel : ∀ x ∈ ([0, 1, 2, 3, 7, -1] : List Int), -1000000000 ≤ x) x hx, (by decide +kernel : ∀ x ∈ ([0, 1, 2, 3, 7, -1] : List Int), x ≤ 1000000000) x hx⟩)
    have G2 := G1.next hc2 hg2
    obtain ⟨⟨c0, c1, c2⟩, f0, f1, f2⟩ := H1.draw hg2 (by omega)
    have G3 := Lib.hid (G2.set3 (Nat.le_refl _) (.int .i64 1) (.int .i64 x) (.string ⟨#[]⟩))
    clear hx hc2 hg2 hc1 hg1 G0 H0 G1 H1 G2
    go_wp2
    exact bodyPost_ret (v := V.agg ⟨1, x, ⟨#[]⟩⟩) (by simp [results, Try.results49, go_sem, *]) rfl ⟨_, rfl, HH.out, G3.out.cur, G3.out.grown⟩

/-- The texts that l3Text draws. -/
def texts8 : List ByteArray := [⟨#[]⟩, ⟨#[97]⟩, ⟨#[98]⟩, ⟨#[97, 98]⟩, ⟨#[114, 101, 100]⟩, ⟨#[98, 108, 117, 101]⟩, ⟨#[103, 114, 101, 101, 110]⟩, ⟨#[122, 122, 122, 122, 122, 122]⟩]
theorem texts8_ok {s : ByteArray} (h : s ∈ texts8) : OfTy 2 ⟨2, 0, s⟩ := by
  simp only [texts8, List.mem_cons, List.not_mem_nil, or_false] at h
  rcases h with rfl | rfl | rfl | rfl | rfl | rfl | rfl | rfl <;> exact ⟨by decide +kernel, rfl⟩

set_option maxHeartbeats 1000000 in
theorem l3Text (c : Code) (g : Nat) (w : World) (h : Cur c g w) :
    Calls Try.prog 50 #[.pointer (some ⟨g, 0, none⟩)] w (DrewVal c g w (OfTy 2)) := by
  have G0 := (Going.start h).alloc (.cells #[.int .i64 0, .int .i64 0, .string ⟨#[]⟩] 27)
  have H0 : Held _ _ _ := held_new w V.zero 27
  simp only [V.zero] at H0
  have HSZ0 : Hid ((w.alloc (.cells #[.int .i64 0, .int .i64 0, .string ⟨#[]⟩] 27)).heap.size = w.heap.size + 1) := World.size_alloc _ _
  generalize hw0 : w.alloc (.cells #[.int .i64 0, .int .i64 0, .string ⟨#[]⟩] 27) = W0 at G0 H0 HSZ0
  have HW0 := Lib.hid hw0
  clear hw0
  have hgl := h.lt
  go_enter Try.func50, Try.ntmps50
  go_wp2_with fail
  rw [HW0.out]
  refine (l1StrVLitAt c g _ texts8 8 W0 HSZ0.out rfl (by omega) (by omega) G0.cur _ rfl).mono ?_
  rintro e w2 ⟨s, hs, rfl, hc2, hg2⟩
  have HH := Lib.hid (texts8_ok hs)
  have G2 := G0.next hc2 hg2
  obtain ⟨⟨c0, c1, c2⟩, f0, f1, f2⟩ := H0.draw hg2 (by omega)
  have G3 := Lib.hid (G2.set3 (Nat.le_refl _) (.int .i64 2) (.int .i64 0) (.string s))
  clear hs hc2 hg2 G0 H0 G2
  go_wp2
  exact bodyPost_ret (v := V.agg ⟨2, 0, s⟩) (by simp [results, Try.results50, go_sem, *]) rfl ⟨_, rfl, HH.out, G3.out.cur, G3.out.grown⟩

set_option maxHeartbeats 1000000 in
theorem l3Draw (c : Code) (g : Nat) (w : World) (h : Cur c g w) :
    Calls Try.prog 43 #[.pointer (some ⟨g, 0, none⟩)] w (DrewVal c g w fun v => OfTy 1 v ∨ OfTy 2 v) := by
  have G0 := (Going.start h).alloc (.cells #[.int .i64 0, .int .i64 0, .string ⟨#[]⟩] 27)
  have H0 : Held _ _ _ := held_new w V.zero 27
  simp only [V.zero] at H0
  have HSZ0 : Hid ((w.alloc (.cells #[.int .i64 0, .int .i64 0, .string ⟨#[]⟩] 27)).heap.size = w.heap.size + 1) := World.size_alloc _ _
  generalize hw0 : w.alloc (.cells #[.int .i64 0, .int .i64 0, .string ⟨#[]⟩] 27) = W0 at G0 H0 HSZ0
  have HW0 := Lib.hid hw0
  clear hw0
  have hgl := h.lt
  go_enter Try.func43, Try.ntmps43
  go_wp2_with fail
  rw [HW0.out]
  refine (l1Once c g _ _ G0.cur).mono ?_
  rintro e w1 ⟨b, rfl, hc1, hg1⟩
  have G1 := G0.next hc1 hg1
  have H1 := H0.draw hg1 (by omega)
  cases b with
  | true =>
    go_wp2_with fail
    refine (l3Int c g _ hc1).mono ?_
    rintro e w2 ⟨x, rfl, H, hc2, hg2⟩
    have HH := Lib.hid H
    have G2 := G1.next hc2 hg2
    obtain ⟨⟨c0, c1, c2⟩, f0, f1, f2⟩ := H1.draw hg2 (by omega)
    obtain ⟨xt, xn, xs⟩ := x
    have G3 := Lib.hid (G2.set3 (Nat.le_refl _) (.int .i64 xt) (.int .i64 xn) (.string xs))
    clear H hc2 hg2 hc1 hg1 G0 H0 G1 H1 G2
    go_wp2
    exact bodyPost_ret (v := V.agg ⟨xt, xn, xs⟩) (by simp [results, Try.results43, go_sem, *]) rfl ⟨_, rfl, .inl HH.out, G3.out.cur, G3.out.grown⟩
  | false =>
    go_wp2_with fail
    refine (l3Text c g _ hc1).mono ?_
    rintro e w2 ⟨x, rfl, H, hc2, hg2⟩
    have HH := Lib.hid H
    have G2 := G1.next hc2 hg2
    obtain ⟨⟨c0, c1, c2⟩, f0, f1, f2⟩ := H1.draw hg2 (by omega)
    obtain ⟨xt, xn, xs⟩ := x
    have G3 := Lib.hid (G2.set3 (Nat.le_refl _) (.int .i64 xt) (.int .i64 xn) (.string xs))
    clear H hc2 hg2 hc1 hg1 G0 H0 G1 H1 G2
    go_wp2
    exact bodyPost_ret (v := V.agg ⟨xt, xn, xs⟩) (by simp [results, Try.results43, go_sem, *]) rfl ⟨_, rfl, .inr HH.out, G3.out.cur, G3.out.grown⟩

end Go.Proofs.Ytcokmjdehclhkaa

/- The contracts of the model's functions that draw lists of values: l3List, l3Any, l5Draw, l5Any, l5Type. -/
namespace Go.Proofs.Ytcokmjdehclhkaa
open Go.RowKit

/-- A value that may be drawn, right or not. -/
structure Fair (v : V) : Prop where
  ty : I64 v.ty
  n : I64 v.n
  s : v.s.size ≤ 7
theorem OfTy.fair {ty : Int} {v : V} (h : OfTy ty v) : Fair v := by
  obtain ⟨h1, h2⟩ := h
  obtain ⟨t, n, s⟩ := v
  unfold okV at h1
  by_cases ht : t = 1
  · subst ht
    simp only [if_true, Bool.and_eq_true, beq_iff_eq] at h1
    have := Num.okB_true.1 h1.1
    unfold Num.ok at this
    exact ⟨⟨by show _ ≤ (1 : Int); omega, by show (1 : Int) ≤ _; omega⟩, ⟨by show _ ≤ n; omega, by show n ≤ _; omega⟩, by show s.size ≤ 7; omega⟩
  · simp only [if_neg ht, Bool.and_eq_true, beq_iff_eq, txtB, decide_eq_true_eq] at h1
    obtain ⟨rfl, rfl, h3⟩ := h1
    exact ⟨⟨by show _ ≤ (2 : Int); omega, by show (2 : Int) ≤ _; omega⟩, ⟨by show _ ≤ (0 : Int); omega, by show (0 : Int) ≤ _; omega⟩, by show s.size ≤ 7; omega⟩
/-- A list of values with P is returned. -/
def DrewVals (c : Code) (g : Nat) (w : World) (P : List V → Prop) (e : Ending) (w' : World) : Prop :=
  ∃ (v : Value) (l : List V), e = .returned v ∧ P l ∧ Own 27 3 w.heap.size w'.heap.size w' v l.length (vals l) ∧ Cur c g w' ∧ w.grownBy w' (some g)

set_option maxHeartbeats 1000000 in
theorem l3List1 (c : Code) (g : Nat) (most : Nat) (w : World) (hm : most ≤ 1000) (h : Cur c g w) :
    Calls Try.prog 48 #[.pointer (some ⟨g, 0, none⟩), .int .i64 1, .int .i64 most] w (DrewVals c g w fun l => l.length ≤ most ∧ ∀ v ∈ l, OfTy 1 v) := by
  have hgl := h.lt
  have G0 := (Going.start h).alloc (.cells #[] 27)
  have O0 := own_lit (e := 27) (size := 3) w #[] 0 (Nat.zero_le _) rfl
  go_enter Try.func48, Try.ntmps48
  go_wp2_with fail
  refine (l1Below c g _ _ G0.cur).mono ?_
  rintro e w1 ⟨x, rfl, hx, hc1, hg1⟩
  obtain ⟨N, rfl⟩ := Int.eq_ofNat_of_zero_le hx.1
  have hN : N ≤ most := by omega
  have G1 := G0.next hc1 hg1
  have O1 := (O0.draw hg1 (by omega)).wide hg1.size
  clear G0 O0 hg1 hc1 hx
  have H0 : Hid (∀ v ∈ ([] : List V), OfTy 1 v) := fun v hv => by cases hv
  go_wp2
  go_loopw [7, 8] (fun o i wr => ∃ (k : Nat) (l : List V), k ≤ N ∧ i = .int .i64 k ∧ l.length + k = N ∧ (∀ v ∈ l, OfTy 1 v) ∧ Own 27 3 w.heap.size wr.heap.size wr o l.length (vals l) ∧ Going c g w wr) (fun _ i _ => (intOf i).toNat)
  case atStart => exact ⟨N, [], Nat.le_refl _, rfl, by simp, H0.out, O1, G1⟩
  case round =>
    obtain ⟨k, l, hk, rfl, hkl, ho, hown, G⟩ := hrel
    have HO := Lib.hid ho
    have HLL := Lib.hid hkl
    have hl1 : l.length ≤ 1000 := by omega
    clear ho hkl
    by_cases hk0 : k = 0
    · subst hk0
      go_wp2
      go_ret
      exact ⟨_, l, rfl, ⟨by have := HLL.out; omega, HO.out⟩, hown, G.cur, G.grown⟩
    · obtain ⟨k, rfl⟩ : ∃ j, k = j + 1 := ⟨k - 1, by omega⟩
      generalize hlc : l.length = lc at hown HLL hl1
      have HLC := Lib.hid hlc
      clear hlc hk0
      go_wp2_with fail
      refine (l3Int c g _ G.cur).mono ?_
      rintro e w2 ⟨x, rfl, HX, hc2, hg2⟩
      have G2 := G.next hc2 hg2
      have O2 := (hown.draw hg2 hgl).wide hg2.size
      have HX2 := Lib.hid HX
      obtain ⟨xt, xn, xs⟩ := x
      have HVA : Hid (vals l ++ V.cs ⟨xt, xn, xs⟩ = vals (l ++ [(⟨xt, xn, xs⟩ : V)])) := by
        show _ = _
        simp [vals]
      clear hown hg2 hc2 G HX
      go_wp2_with (at_builtin; refine appendV_law Try.elemVals rfl _ _ rfl _ _ _ _ _ ⟨xt, xn, xs⟩ rfl O2 rfl (by unfold maxLen; omega) (by omega) ?_)
      intro v3 w3 o3 e3
      have G3 := G2.ext O2 (Nat.le_refl _) e3
      rw [HVA.out] at o3
      have O3 := Lib.hid o3
      clear o3 e3 O2 G2
      go_wp2
      go_roundw
      case rel =>
        refine ⟨k, l ++ [⟨xt, xn, xs⟩], by omega, by go_num, by rw [List.length_append, List.length_singleton, HLC.out]; have := HLL.out; omega, ?_, by rw [List.length_append, List.length_singleton, HLC.out]; exact O3.out, G3⟩
        intro v hv
        rcases List.mem_append.1 hv with h1 | h1
        · exact HO.out v h1
        · obtain rfl := List.mem_singleton.1 h1
          exact HX2.out
      case measure => simp [intOf]

set_option maxHeartbeats 1000000 in
theorem l3List2 (c : Code) (g : Nat) (most : Nat) (w : World) (hm : most ≤ 1000) (h : Cur c g w) :
    Calls Try.prog 48 #[.pointer (some ⟨g, 0, none⟩), .int .i64 2, .int .i64 most] w (DrewVals c g w fun l => l.length ≤ most ∧ ∀ v ∈ l, OfTy 2 v) := by
  have hgl := h.lt
  have G0 := (Going.start h).alloc (.cells #[] 27)
  have O0 := own_lit (e := 27) (size := 3) w #[] 0 (Nat.zero_le _) rfl
  go_enter Try.func48, Try.ntmps48
  go_wp2_with fail
  refine (l1Below c g _ _ G0.cur).mono ?_
  rintro e w1 ⟨x, rfl, hx, hc1, hg1⟩
  obtain ⟨N, rfl⟩ := Int.eq_ofNat_of_zero_le hx.1
  have hN : N ≤ most := by omega
  have G1 := G0.next hc1 hg1
  have O1 := (O0.draw hg1 (by omega)).wide hg1.size
  clear G0 O0 hg1 hc1 hx
  have H0 : Hid (∀ v ∈ ([] : List V), OfTy 2 v) := fun v hv => by cases hv
  go_wp2
  go_loopw [7, 8] (fun o i wr => ∃ (k : Nat) (l : List V), k ≤ N ∧ i = .int .i64 k ∧ l.length + k = N ∧ (∀ v ∈ l, OfTy 2 v) ∧ Own 27 3 w.heap.size wr.heap.size wr o l.length (vals l) ∧ Going c g w wr) (fun _ i _ => (intOf i).toNat)
  case atStart => exact ⟨N, [], Nat.le_refl _, rfl, by simp, H0.out, O1, G1⟩
  case round =>
    obtain ⟨k, l, hk, rfl, hkl, ho, hown, G⟩ := hrel
    have HO := Lib.hid ho
    have HLL := Lib.hid hkl
    have hl1 : l.length ≤ 1000 := by omega
    clear ho hkl
    by_cases hk0 : k = 0
    · subst hk0
      go_wp2
      go_ret
      exact ⟨_, l, rfl, ⟨by have := HLL.out; omega, HO.out⟩, hown, G.cur, G.grown⟩
    · obtain ⟨k, rfl⟩ : ∃ j, k = j + 1 := ⟨k - 1, by omega⟩
      generalize hlc : l.length = lc at hown HLL hl1
      have HLC := Lib.hid hlc
      clear hlc hk0
      go_wp2_with fail
      refine (l3Text c g _ G.cur).mono ?_
      rintro e w2 ⟨x, rfl, HX, hc2, hg2⟩
      have G2 := G.next hc2 hg2
      have O2 := (hown.draw hg2 hgl).wide hg2.size
      have HX2 := Lib.hid HX
      obtain ⟨xt, xn, xs⟩ := x
      have HVA : Hid (vals l ++ V.cs ⟨xt, xn, xs⟩ = vals (l ++ [(⟨xt, xn, xs⟩ : V)])) := by
        show _ = _
        simp [vals]
      clear hown hg2 hc2 G HX
      go_wp2_with (at_builtin; refine appendV_law Try.elemVals rfl _ _ rfl _ _ _ _ _ ⟨xt, xn, xs⟩ rfl O2 rfl (by unfold maxLen; omega) (by omega) ?_)
      intro v3 w3 o3 e3
      have G3 := G2.ext O2 (Nat.le_refl _) e3
      rw [HVA.out] at o3
      have O3 := Lib.hid o3
      clear o3 e3 O2 G2
      go_wp2
      go_roundw
      case rel =>
        refine ⟨k, l ++ [⟨xt, xn, xs⟩], by omega, by go_num, by rw [List.length_append, List.length_singleton, HLC.out]; have := HLL.out; omega, ?_, by rw [List.length_append, List.length_singleton, HLC.out]; exact O3.out, G3⟩
        intro v hv
        rcases List.mem_append.1 hv with h1 | h1
        · exact HO.out v h1
        · obtain rfl := List.mem_singleton.1 h1
          exact HX2.out
      case measure => simp [intOf]

theorem l3List (c : Code) (g : Nat) {ty : Int} (hty : ty = 1 ∨ ty = 2) (most : Nat) (w : World) (hm : most ≤ 1000) (h : Cur c g w) :
    Calls Try.prog 48 #[.pointer (some ⟨g, 0, none⟩), .int .i64 ty, .int .i64 most] w (DrewVals c g w fun l => l.length ≤ most ∧ ∀ v ∈ l, OfTy ty v) := by
  rcases hty with rfl | rfl
  · exact l3List1 c g most w hm h
  · exact l3List2 c g most w hm h

theorem grownBy_set3 (w : World) (b : Nat) (x y z : Value) : w.grownBy (((w.setCell ⟨b, 0, none⟩ x).setCell ⟨b, 1, none⟩ y).setCell ⟨b, 2, none⟩ z) (some b) :=
  ((grownBy_setCell w b 0 x).trans (grownBy_setCell _ b 1 y)).trans (grownBy_setCell _ b 2 z)
theorem held_set3 {W : World} {b : Nat} {v : V} (h : Held W b v) (u : V) : Held (((W.setCell ⟨b, 0, none⟩ (.int .i64 u.ty)).setCell ⟨b, 1, none⟩ (.int .i64 u.n)).setCell ⟨b, 2, none⟩ (.string u.s)) b u := by
  obtain ⟨⟨c0, c1, c2⟩, f0, f1, f2⟩ := h
  refine ⟨⟨?_, ?_, ?_⟩, ?_, ?_, ?_⟩
  · rw [World.cell?_setCell_other _ _ _ _ (by simp), World.cell?_setCell_other _ _ _ _ (by simp)]
    exact World.cell?_setCell_same _ _ _ c0
  · rw [World.cell?_setCell_other _ _ _ _ (by simp)]
    exact World.cell?_setCell_same _ _ _ (by rw [World.cell?_setCell_other _ _ _ _ (by simp)]; exact c1)
  · exact World.cell?_setCell_same _ _ _ (by rw [World.cell?_setCell_other _ _ _ _ (by simp), World.cell?_setCell_other _ _ _ _ (by simp)]; exact c2)
  · rw [World.frozen?_setCell, World.frozen?_setCell, World.frozen?_setCell]; exact f0
  · rw [World.frozen?_setCell, World.frozen?_setCell, World.frozen?_setCell]; exact f1
  · rw [World.frozen?_setCell, World.frozen?_setCell, World.frozen?_setCell]; exact f2

/-- What l5Draw draws. -/
def Drawn (l : List V) : Prop := 1 ≤ l.length ∧ l.length ≤ 15 ∧ ∃ ty, (ty = 1 ∨ ty = 2) ∧ ∀ v ∈ l, OfTy ty v

set_option maxHeartbeats 1000000 in
theorem l5Draw (c : Code) (g : Nat) (w : World) (h : Cur c g w) :
    Calls Try.prog 37 #[.pointer (some ⟨g, 0, none⟩)] w (DrewVals c g w Drawn) := by
  have hgl := h.lt
  go_enter Try.func37, Try.ntmps37
  go_wp2_with fail
  refine (l1Below c g _ _ h).mono ?_
  rintro e w1 ⟨x, rfl, hx, hc1, hg1⟩
  have G1 := (Going.start h).next hc1 hg1
  have hx2 : x = 0 ∨ x = 1 := by omega
  clear hx hg1 hc1
  rcases hx2 with rfl | rfl
  · go_wp2_with fail
    refine (l3List1 c g 9 _ (by omega) G1.cur).mono ?_
    rintro e w2 ⟨v2, l, rfl, ⟨hl9, hall⟩, o2, hc2, hg2⟩
    have G := G1.next hc2 hg2
    have O := o2.lower G1.grown.size
    have HALL := Lib.hid hall
    clear hall o2 hc2 hg2 G1
    generalize hlc : l.length = lc at hl9 O
    have HLC := Lib.hid hlc
    clear hlc
    obtain ⟨b2, cp2, rfl⟩ : ∃ b cp, v2 = .slice (some ⟨b, 0, none⟩) lc cp := by
      obtain ⟨b, cp, e, _⟩ := O
      exact ⟨b, cp, e⟩
    by_cases h0 : lc = 0
    · have h0b : ((lc : Int) == 0) = true := by simp [h0]
      clear h0
      go_wp2_with fail
      refine (l3Int c g _ G.cur).mono ?_
      rintro e w4 ⟨x4, rfl, HX4, hc4, hg4⟩
      have G4 := G.next hc4 hg4
      have O4 := (O.draw hg4 hgl).wide hg4.size
      obtain ⟨vt, vn, vs⟩ := x4
      have HXX := Lib.hid HX4
      have HNB : Hid ((Value.slice (some ⟨b2, 0, none⟩) lc cp2).ownBlock ≠ some w4.heap.size) := by
        intro e
        obtain ⟨g', c', e', h1, h2, _⟩ := O4
        cases e'
        have : b2 = w4.heap.size := by simpa [Value.ownBlock] using e
        omega
      have GB := G4.alloc (.cells #[.int .i64 vt, .int .i64 vn, .string vs] 27)
      have OB := (O4.alloc (.cells #[.int .i64 vt, .int .i64 vn, .string vs] 27)).wide (show w4.heap.size ≤ (w4.alloc (.cells #[.int .i64 vt, .int .i64 vn, .string vs] 27)).heap.size by simp)
      have HB := held_new w4 ⟨vt, vn, vs⟩ 27
      have HGB : Hid (g < w4.heap.size ∧ w.heap.size ≤ w4.heap.size) := ⟨G4.cur.lt, G4.grown.size⟩
      simp only at HB
      clear HX4 hc4 hg4 G4 O4 G O
      generalize hwb : w4.alloc (.cells #[.int .i64 vt, .int .i64 vn, .string vs] 27) = wb at GB OB HB
      have HWB := Lib.hid hwb
      clear hwb
      generalize hBx : w4.heap.size = Bx at HB HNB HGB
      have HBX := Lib.hid hBx
      have hgb := HGB.out.1
      clear hBx
      go_wp2_with fail
      rw [HWB.out, HBX.out]

      have HXV : Hid (OfTy 1 ⟨vt, vn, vs⟩) := HXX.out
      refine (l1Below c g _ _ GB.cur).mono ?_
      rintro e wl ⟨y, rfl, hy, hcl, hgl2⟩
      obtain ⟨N, rfl⟩ := Int.eq_ofNat_of_zero_le hy.1
      have hN : N ≤ 5 := by omega
      have GL := GB.next hcl hgl2
      have OL := (OB.draw hgl2 hgl).wide hgl2.size
      have HL := HB.draw hgl2 (by omega)
      have HBL : Hid (Bx < wl.heap.size) := lt_of_cell HL.1.1
      have HNE : Hid ((Value.slice (some ⟨b2, 0, none⟩) lc cp2).ownBlock ≠ some Bx) := HNB.out
      clear GB OB HB hcl hgl2 hy
      have HR0 : Hid (l ++ List.replicate 0 (⟨vt, vn, vs⟩ : V) = l) := by
        show _ = _
        simp
      have HN1 : Hid ((N : Int) = ((N + 1 : Nat) : Int) - 1) := by
        show _ = _
        omega
      go_wp2
      go_loopw [4, 6] (fun o i wr => ∃ j m : Nat, j + m = N + 1 ∧ i = .int .i64 ((j : Int) - 1) ∧ Own 27 3 w.heap.size wr.heap.size wr o (lc + m) (vals (l ++ List.replicate m ⟨vt, vn, vs⟩)) ∧ Held wr Bx ⟨vt, vn, vs⟩ ∧ o.ownBlock ≠ some Bx ∧ Going c g w wr) (fun _ i _ => (intOf i + 1).toNat)
      case atStart => exact ⟨N + 1, 0, by omega, by rw [← HN1.out], by rw [HR0.out]; exact OL, HL, HNE.out, GL⟩
      case round =>
        obtain ⟨j, m, hjm, rfl, hown, hheld, hne, G⟩ := hrel
        by_cases hj0 : j = 0
        · subst hj0
          have HM : Hid (m = N + 1) := by
            show _ = _
            omega
          go_wp2
          go_ret
          refine ⟨_, l ++ List.replicate m ⟨vt, vn, vs⟩, rfl, ⟨?_, ?_, 1, by omega, ?_⟩, ?_, G.cur, G.grown⟩
          · simp only [List.length_append, List.length_replicate, HLC.out]
            have := HM.out
            omega
          · simp only [List.length_append, List.length_replicate, HLC.out]
            have := HM.out
            omega
          · intro v hv
            rcases List.mem_append.1 hv with h1 | h1
            · exact HALL.out v h1
            · rw [List.eq_of_mem_replicate h1]
              exact HXV.out
          · simp only [List.length_append, List.length_replicate, HLC.out]
            exact hown
        · obtain ⟨j, rfl⟩ : ∃ q, j = q + 1 := ⟨j - 1, by omega⟩
          have HVA : Hid (vals (l ++ List.replicate m (⟨vt, vn, vs⟩ : V)) ++ V.cs ⟨vt, vn, vs⟩ = vals (l ++ List.replicate (m + 1) (⟨vt, vn, vs⟩ : V))) := by
            show _ = _
            rw [List.replicate_succ', ← List.append_assoc]
            simp [vals]
          have HHD := Lib.hid hheld
          have HBW : Hid (Bx < wr.heap.size) := lt_of_cell hheld.1.1
          obtain ⟨⟨d0, d1, d2⟩, _⟩ := hheld
          simp only at d0 d1 d2
          have hjj : (((j + 1 : Nat) : Int) - 1) = (j : Int) := by omega
          rw [hjj]
          have hme : lc + m + 1 = lc + (m + 1) := by omega
          go_wp2_with (at_builtin; refine appendV_law Try.elemVals rfl _ _ rfl _ _ _ _ _ ⟨vt, vn, vs⟩ rfl hown rfl (by unfold maxLen; omega) (by omega) ?_)
          intro v3 w3 o3 e3
          have G3 := G.ext hown (Nat.le_refl _) e3
          have H3 : Held w3 Bx ⟨vt, vn, vs⟩ := by
            have hh := HHD.out
            have hb := e3.grown.block Bx HBW.out (fun e => hne e.symm)
            have hc : ∀ q, w3.cell? ⟨Bx, q, none⟩ = wr.cell? ⟨Bx, q, none⟩ := fun q => World.cell?_of_block hb
            have hf : ∀ q, w3.frozen? ⟨Bx, q, none⟩ = wr.frozen? ⟨Bx, q, none⟩ := fun q => World.frozen?_of_block hb
            exact ⟨⟨(hc 0).trans hh.1.1, (hc 1).trans hh.1.2.1, (hc 2).trans hh.1.2.2⟩, (hf 0).trans hh.2.1, (hf 1).trans hh.2.2.1, (hf 2).trans hh.2.2.2⟩
          have hne3 : v3.ownBlock ≠ some Bx := by
            intro hb
            rcases e3.blk with h1 | ⟨g', h1, h2⟩
            · exact hne (h1.symm.trans hb)
            · rw [hb] at h1
              obtain rfl : Bx = g' := by simpa using h1
              have := HBW.out
              omega
          rw [HVA.out] at o3
          have O3 := Lib.hid o3
          clear o3 e3 hown d0 d1 d2 hne G
          go_wp2
          go_roundw
          case rel => exact ⟨j, m + 1, by omega, by go_num, by rw [← hme]; exact O3.out, H3, hne3, G3⟩
          case measure => (simp [intOf]; try omega)
    · have h0b : ((lc : Int) == 0) = false := by simp; omega
      go_wp2_with fail
      refine (l1Once c g _ _ G.cur).mono ?_
      rintro e w3 ⟨b, rfl, hc3, hg3⟩
      replace O := (O.draw hg3 hgl).wide hg3.size
      replace G := G.next hc3 hg3
      clear hc3 hg3
      cases b with
      | false =>
        go_wp2
        go_ret
        exact ⟨_, l, rfl, ⟨by rw [HLC.out]; omega, by rw [HLC.out]; omega, 1, by omega, HALL.out⟩, by rw [HLC.out]; exact O, G.cur, G.grown⟩
      | true =>
        go_wp2_with fail
        refine (l3Int c g _ G.cur).mono ?_
        rintro e w4 ⟨x4, rfl, HX4, hc4, hg4⟩
        have G4 := G.next hc4 hg4
        have O4 := (O.draw hg4 hgl).wide hg4.size
        obtain ⟨vt, vn, vs⟩ := x4
        have HXX := Lib.hid HX4
        have HNB : Hid ((Value.slice (some ⟨b2, 0, none⟩) lc cp2).ownBlock ≠ some w4.heap.size) := by
          intro e
          obtain ⟨g', c', e', h1, h2, _⟩ := O4
          cases e'
          have : b2 = w4.heap.size := by simpa [Value.ownBlock] using e
          omega
        have GB := G4.alloc (.cells #[.int .i64 vt, .int .i64 vn, .string vs] 27)
        have OB := (O4.alloc (.cells #[.int .i64 vt, .int .i64 vn, .string vs] 27)).wide (show w4.heap.size ≤ (w4.alloc (.cells #[.int .i64 vt, .int .i64 vn, .string vs] 27)).heap.size by simp)
        have HB := held_new w4 ⟨vt, vn, vs⟩ 27
        have HGB : Hid (g < w4.heap.size ∧ w.heap.size ≤ w4.heap.size) := ⟨G4.cur.lt, G4.grown.size⟩
        simp only at HB
        clear HX4 hc4 hg4 G4 O4 G O
        generalize hwb : w4.alloc (.cells #[.int .i64 vt, .int .i64 vn, .string vs] 27) = wb at GB OB HB
        have HWB := Lib.hid hwb
        clear hwb
        generalize hBx : w4.heap.size = Bx at HB HNB HGB
        have HBX := Lib.hid hBx
        have hgb := HGB.out.1
        clear hBx
        go_wp2_with fail
        rw [HWB.out, HBX.out]

        have HXV : Hid (OfTy 1 ⟨vt, vn, vs⟩) := HXX.out
        refine (l1Below c g _ _ GB.cur).mono ?_
        rintro e wl ⟨y, rfl, hy, hcl, hgl2⟩
        obtain ⟨N, rfl⟩ := Int.eq_ofNat_of_zero_le hy.1
        have hN : N ≤ 5 := by omega
        have GL := GB.next hcl hgl2
        have OL := (OB.draw hgl2 hgl).wide hgl2.size
        have HL := HB.draw hgl2 (by omega)
        have HBL : Hid (Bx < wl.heap.size) := lt_of_cell HL.1.1
        have HNE : Hid ((Value.slice (some ⟨b2, 0, none⟩) lc cp2).ownBlock ≠ some Bx) := HNB.out
        clear GB OB HB hcl hgl2 hy
        have HR0 : Hid (l ++ List.replicate 0 (⟨vt, vn, vs⟩ : V) = l) := by
          show _ = _
          simp
        have HN1 : Hid ((N : Int) = ((N + 1 : Nat) : Int) - 1) := by
          show _ = _
          omega
        go_wp2
        go_loopw [4, 6] (fun o i wr => ∃ j m : Nat, j + m = N + 1 ∧ i = .int .i64 ((j : Int) - 1) ∧ Own 27 3 w.heap.size wr.heap.size wr o (lc + m) (vals (l ++ List.replicate m ⟨vt, vn, vs⟩)) ∧ Held wr Bx ⟨vt, vn, vs⟩ ∧ o.ownBlock ≠ some Bx ∧ Going c g w wr) (fun _ i _ => (intOf i + 1).toNat)
        case atStart => exact ⟨N + 1, 0, by omega, by rw [← HN1.out], by rw [HR0.out]; exact OL, HL, HNE.out, GL⟩
        case round =>
          obtain ⟨j, m, hjm, rfl, hown, hheld, hne, G⟩ := hrel
          by_cases hj0 : j = 0
          · subst hj0
            have HM : Hid (m = N + 1) := by
              show _ = _
              omega
            go_wp2
            go_ret
            refine ⟨_, l ++ List.replicate m ⟨vt, vn, vs⟩, rfl, ⟨?_, ?_, 1, by omega, ?_⟩, ?_, G.cur, G.grown⟩
            · simp only [List.length_append, List.length_replicate, HLC.out]
              have := HM.out
              omega
            · simp only [List.length_append, List.length_replicate, HLC.out]
              have := HM.out
              omega
            · intro v hv
              rcases List.mem_append.1 hv with h1 | h1
              · exact HALL.out v h1
              · rw [List.eq_of_mem_replicate h1]
                exact HXV.out
            · simp only [List.length_append, List.length_replicate, HLC.out]
              exact hown
          · obtain ⟨j, rfl⟩ : ∃ q, j = q + 1 := ⟨j - 1, by omega⟩
            have HVA : Hid (vals (l ++ List.replicate m (⟨vt, vn, vs⟩ : V)) ++ V.cs ⟨vt, vn, vs⟩ = vals (l ++ List.replicate (m + 1) (⟨vt, vn, vs⟩ : V))) := by
              show _ = _
              rw [List.replicate_succ', ← List.append_assoc]
              simp [vals]
            have HHD := Lib.hid hheld
            have HBW : Hid (Bx < wr.heap.size) := lt_of_cell hheld.1.1
            obtain ⟨⟨d0, d1, d2⟩, _⟩ := hheld
            simp only at d0 d1 d2
            have hjj : (((j + 1 : Nat) : Int) - 1) = (j : Int) := by omega
            rw [hjj]
            have hme : lc + m + 1 = lc + (m + 1) := by omega
            go_wp2_with (at_builtin; refine appendV_law Try.elemVals rfl _ _ rfl _ _ _ _ _ ⟨vt, vn, vs⟩ rfl hown rfl (by unfold maxLen; omega) (by omega) ?_)
            intro v3 w3 o3 e3
            have G3 := G.ext hown (Nat.le_refl _) e3
            have H3 : Held w3 Bx ⟨vt, vn, vs⟩ := by
              have hh := HHD.out
              have hb := e3.grown.block Bx HBW.out (fun e => hne e.symm)
              have hc : ∀ q, w3.cell? ⟨Bx, q, none⟩ = wr.cell? ⟨Bx, q, none⟩ := fun q => World.cell?_of_block hb
              have hf : ∀ q, w3.frozen? ⟨Bx, q, none⟩ = wr.frozen? ⟨Bx, q, none⟩ := fun q => World.frozen?_of_block hb
              exact ⟨⟨(hc 0).trans hh.1.1, (hc 1).trans hh.1.2.1, (hc 2).trans hh.1.2.2⟩, (hf 0).trans hh.2.1, (hf 1).trans hh.2.2.1, (hf 2).trans hh.2.2.2⟩
            have hne3 : v3.ownBlock ≠ some Bx := by
              intro hb
              rcases e3.blk with h1 | ⟨g', h1, h2⟩
              · exact hne (h1.symm.trans hb)
              · rw [hb] at h1
                obtain rfl : Bx = g' := by simpa using h1
                have := HBW.out
                omega
            rw [HVA.out] at o3
            have O3 := Lib.hid o3
            clear o3 e3 hown d0 d1 d2 hne G
            go_wp2
            go_roundw
            case rel => exact ⟨j, m + 1, by omega, by go_num, by rw [← hme]; exact O3.out, H3, hne3, G3⟩
            case measure => (simp [intOf]; try omega)
  · go_wp2_with fail
    refine (l3List2 c g 9 _ (by omega) G1.cur).mono ?_
    rintro e w2 ⟨v2, l, rfl, ⟨hl9, hall⟩, o2, hc2, hg2⟩
    have G := G1.next hc2 hg2
    have O := o2.lower G1.grown.size
    have HALL := Lib.hid hall
    clear hall o2 hc2 hg2 G1
    generalize hlc : l.length = lc at hl9 O
    have HLC := Lib.hid hlc
    clear hlc
    obtain ⟨b2, cp2, rfl⟩ : ∃ b cp, v2 = .slice (some ⟨b, 0, none⟩) lc cp := by
      obtain ⟨b, cp, e, _⟩ := O
      exact ⟨b, cp, e⟩
    by_cases h0 : lc = 0
    · have h0b : ((lc : Int) == 0) = true := by simp [h0]
      clear h0
      go_wp2_with fail
      refine (l3Int c g _ G.cur).mono ?_
      rintro e w4 ⟨x4, rfl, HX4, hc4, hg4⟩
      have G4 := G.next hc4 hg4
      have O4 := (O.draw hg4 hgl).wide hg4.size
      obtain ⟨vt, vn, vs⟩ := x4
      have HXX := Lib.hid HX4
      have HNB : Hid ((Value.slice (some ⟨b2, 0, none⟩) lc cp2).ownBlock ≠ some w4.heap.size) := by
        intro e
        obtain ⟨g', c', e', h1, h2, _⟩ := O4
        cases e'
        have : b2 = w4.heap.size := by simpa [Value.ownBlock] using e
        omega
      have GB := G4.alloc (.cells #[.int .i64 vt, .int .i64 vn, .string vs] 27)
      have OB := (O4.alloc (.cells #[.int .i64 vt, .int .i64 vn, .string vs] 27)).wide (show w4.heap.size ≤ (w4.alloc (.cells #[.int .i64 vt, .int .i64 vn, .string vs] 27)).heap.size by simp)
      have HB := held_new w4 ⟨vt, vn, vs⟩ 27
      have HGB : Hid (g < w4.heap.size ∧ w.heap.size ≤ w4.heap.size) := ⟨G4.cur.lt, G4.grown.size⟩
      simp only at HB
      clear HX4 hc4 hg4 G4 O4 G O
      generalize hwb : w4.alloc (.cells #[.int .i64 vt, .int .i64 vn, .string vs] 27) = wb at GB OB HB
      have HWB := Lib.hid hwb
      clear hwb
      generalize hBx : w4.heap.size = Bx at HB HNB HGB
      have HBX := Lib.hid hBx
      have hgb := HGB.out.1
      clear hBx
      go_wp2_with fail
      rw [HWB.out, HBX.out]
      refine (l3Text c g _ GB.cur).mono ?_
      rintro e w5 ⟨x5, rfl, HX5, hc5, hg5⟩
      have G5 := GB.next hc5 hg5
      have O5 := (OB.draw hg5 hgl).wide hg5.size
      have H5 := HB.draw hg5 (by omega)
      clear HXX GB OB HB hc5 hg5
      obtain ⟨ut, un, us⟩ := x5
      have HXX := Lib.hid HX5
      have GB := G5.set3 (b := Bx) HGB.out.2 (.int .i64 ut) (.int .i64 un) (.string us)
      have HB := held_set3 H5 ⟨ut, un, us⟩
      have OB := O5.other (grownBy_set3 w5 Bx (.int .i64 ut) (.int .i64 un) (.string us)) (fun e => HNB.out e.symm)
      obtain ⟨⟨c0, c1, c2⟩, f0, f1, f2⟩ := H5
      simp only at HB c0 c1 c2
      generalize hws : ((w5.setCell ⟨Bx, 0, none⟩ (.int .i64 ut)).setCell ⟨Bx, 1, none⟩ (.int .i64 un)).setCell ⟨Bx, 2, none⟩ (.string us) = ws at GB HB OB
      have HWS := Lib.hid hws
      have HSZ : Hid (w5.heap.size ≤ ws.heap.size) := by
        show _ ≤ _
        rw [← hws]
        simp
      replace OB := OB.wide HSZ.out
      clear hws G5 O5 HX5
      go_wp2_with fail
      rw [HWS.out]

      have HXV : Hid (OfTy 2 ⟨ut, un, us⟩) := HXX.out
      refine (l1Below c g _ _ GB.cur).mono ?_
      rintro e wl ⟨y, rfl, hy, hcl, hgl2⟩
      obtain ⟨N, rfl⟩ := Int.eq_ofNat_of_zero_le hy.1
      have hN : N ≤ 5 := by omega
      have GL := GB.next hcl hgl2
      have OL := (OB.draw hgl2 hgl).wide hgl2.size
      have HL := HB.draw hgl2 (by omega)
      have HBL : Hid (Bx < wl.heap.size) := lt_of_cell HL.1.1
      have HNE : Hid ((Value.slice (some ⟨b2, 0, none⟩) lc cp2).ownBlock ≠ some Bx) := HNB.out
      clear GB OB HB hcl hgl2 hy
      have HR0 : Hid (l ++ List.replicate 0 (⟨ut, un, us⟩ : V) = l) := by
        show _ = _
        simp
      have HN1 : Hid ((N : Int) = ((N + 1 : Nat) : Int) - 1) := by
        show _ = _
        omega
      go_wp2
      go_loopw [4, 6] (fun o i wr => ∃ j m : Nat, j + m = N + 1 ∧ i = .int .i64 ((j : Int) - 1) ∧ Own 27 3 w.heap.size wr.heap.size wr o (lc + m) (vals (l ++ List.replicate m ⟨ut, un, us⟩)) ∧ Held wr Bx ⟨ut, un, us⟩ ∧ o.ownBlock ≠ some Bx ∧ Going c g w wr) (fun _ i _ => (intOf i + 1).toNat)
      case atStart => exact ⟨N + 1, 0, by omega, by rw [← HN1.out], by rw [HR0.out]; exact OL, HL, HNE.out, GL⟩
      case round =>
        obtain ⟨j, m, hjm, rfl, hown, hheld, hne, G⟩ := hrel
        by_cases hj0 : j = 0
        · subst hj0
          have HM : Hid (m = N + 1) := by
            show _ = _
            omega
          go_wp2
          go_ret
          refine ⟨_, l ++ List.replicate m ⟨ut, un, us⟩, rfl, ⟨?_, ?_, 2, by omega, ?_⟩, ?_, G.cur, G.grown⟩
          · simp only [List.length_append, List.length_replicate, HLC.out]
            have := HM.out
            omega
          · simp only [List.length_append, List.length_replicate, HLC.out]
            have := HM.out
            omega
          · intro v hv
            rcases List.mem_append.1 hv with h1 | h1
            · exact HALL.out v h1
            · rw [List.eq_of_mem_replicate h1]
              exact HXV.out
          · simp only [List.length_append, List.length_replicate, HLC.out]
            exact hown
        · obtain ⟨j, rfl⟩ : ∃ q, j = q + 1 := ⟨j - 1, by omega⟩
          have HVA : Hid (vals (l ++ List.replicate m (⟨ut, un, us⟩ : V)) ++ V.cs ⟨ut, un, us⟩ = vals (l ++ List.replicate (m + 1) (⟨ut, un, us⟩ : V))) := by
            show _ = _
            rw [List.replicate_succ', ← List.append_assoc]
            simp [vals]
          have HHD := Lib.hid hheld
          have HBW : Hid (Bx < wr.heap.size) := lt_of_cell hheld.1.1
          obtain ⟨⟨d0, d1, d2⟩, _⟩ := hheld
          simp only at d0 d1 d2
          have hjj : (((j + 1 : Nat) : Int) - 1) = (j : Int) := by omega
          rw [hjj]
          have hme : lc + m + 1 = lc + (m + 1) := by omega
          go_wp2_with (at_builtin; refine appendV_law Try.elemVals rfl _ _ rfl _ _ _ _ _ ⟨ut, un, us⟩ rfl hown rfl (by unfold maxLen; omega) (by omega) ?_)
          intro v3 w3 o3 e3
          have G3 := G.ext hown (Nat.le_refl _) e3
          have H3 : Held w3 Bx ⟨ut, un, us⟩ := by
            have hh := HHD.out
            have hb := e3.grown.block Bx HBW.out (fun e => hne e.symm)
            have hc : ∀ q, w3.cell? ⟨Bx, q, none⟩ = wr.cell? ⟨Bx, q, none⟩ := fun q => World.cell?_of_block hb
            have hf : ∀ q, w3.frozen? ⟨Bx, q, none⟩ = wr.frozen? ⟨Bx, q, none⟩ := fun q => World.frozen?_of_block hb
            exact ⟨⟨(hc 0).trans hh.1.1, (hc 1).trans hh.1.2.1, (hc 2).trans hh.1.2.2⟩, (hf 0).trans hh.2.1, (hf 1).trans hh.2.2.1, (hf 2).trans hh.2.2.2⟩
          have hne3 : v3.ownBlock ≠ some Bx := by
            intro hb
            rcases e3.blk with h1 | ⟨g', h1, h2⟩
            · exact hne (h1.symm.trans hb)
            · rw [hb] at h1
              obtain rfl : Bx = g' := by simpa using h1
              have := HBW.out
              omega
          rw [HVA.out] at o3
          have O3 := Lib.hid o3
          clear o3 e3 hown d0 d1 d2 hne G
          go_wp2
          go_roundw
          case rel => exact ⟨j, m + 1, by omega, by go_num, by rw [← hme]; exact O3.out, H3, hne3, G3⟩
          case measure => (simp [intOf]; try omega)
    · have h0b : ((lc : Int) == 0) = false := by simp; omega
      go_wp2_with fail
      refine (l1Once c g _ _ G.cur).mono ?_
      rintro e w3 ⟨b, rfl, hc3, hg3⟩
      replace O := (O.draw hg3 hgl).wide hg3.size
      replace G := G.next hc3 hg3
      clear hc3 hg3
      cases b with
      | false =>
        go_wp2
        go_ret
        exact ⟨_, l, rfl, ⟨by rw [HLC.out]; omega, by rw [HLC.out]; omega, 2, by omega, HALL.out⟩, by rw [HLC.out]; exact O, G.cur, G.grown⟩
      | true =>
        go_wp2_with fail
        refine (l3Int c g _ G.cur).mono ?_
        rintro e w4 ⟨x4, rfl, HX4, hc4, hg4⟩
        have G4 := G.next hc4 hg4
        have O4 := (O.draw hg4 hgl).wide hg4.size
        obtain ⟨vt, vn, vs⟩ := x4
        have HXX := Lib.hid HX4
        have HNB : Hid ((Value.slice (some ⟨b2, 0, none⟩) lc cp2).ownBlock ≠ some w4.heap.size) := by
          intro e
          obtain ⟨g', c', e', h1, h2, _⟩ := O4
          cases e'
          have : b2 = w4.heap.size := by simpa [Value.ownBlock] using e
          omega
        have GB := G4.alloc (.cells #[.int .i64 vt, .int .i64 vn, .string vs] 27)
        have OB := (O4.alloc (.cells #[.int .i64 vt, .int .i64 vn, .string vs] 27)).wide (show w4.heap.size ≤ (w4.alloc (.cells #[.int .i64 vt, .int .i64 vn, .string vs] 27)).heap.size by simp)
        have HB := held_new w4 ⟨vt, vn, vs⟩ 27
        have HGB : Hid (g < w4.heap.size ∧ w.heap.size ≤ w4.heap.size) := ⟨G4.cur.lt, G4.grown.size⟩
        simp only at HB
        clear HX4 hc4 hg4 G4 O4 G O
        generalize hwb : w4.alloc (.cells #[.int .i64 vt, .int .i64 vn, .string vs] 27) = wb at GB OB HB
        have HWB := Lib.hid hwb
        clear hwb
        generalize hBx : w4.heap.size = Bx at HB HNB HGB
        have HBX := Lib.hid hBx
        have hgb := HGB.out.1
        clear hBx
        go_wp2_with fail
        rw [HWB.out, HBX.out]
        refine (l3Text c g _ GB.cur).mono ?_
        rintro e w5 ⟨x5, rfl, HX5, hc5, hg5⟩
        have G5 := GB.next hc5 hg5
        have O5 := (OB.draw hg5 hgl).wide hg5.size
        have H5 := HB.draw hg5 (by omega)
        clear HXX GB OB HB hc5 hg5
        obtain ⟨ut, un, us⟩ := x5
        have HXX := Lib.hid HX5
        have GB := G5.set3 (b := Bx) HGB.out.2 (.int .i64 ut) (.int .i64 un) (.string us)
        have HB := held_set3 H5 ⟨ut, un, us⟩
        have OB := O5.other (grownBy_set3 w5 Bx (.int .i64 ut) (.int .i64 un) (.string us)) (fun e => HNB.out e.symm)
        obtain ⟨⟨c0, c1, c2⟩, f0, f1, f2⟩ := H5
        simp only at HB c0 c1 c2
        generalize hws : ((w5.setCell ⟨Bx, 0, none⟩ (.int .i64 ut)).setCell ⟨Bx, 1, none⟩ (.int .i64 un)).setCell ⟨Bx, 2, none⟩ (.string us) = ws at GB HB OB
        have HWS := Lib.hid hws
        have HSZ : Hid (w5.heap.size ≤ ws.heap.size) := by
          show _ ≤ _
          rw [← hws]
          simp
        replace OB := OB.wide HSZ.out
        clear hws G5 O5 HX5
        go_wp2_with fail
        rw [HWS.out]

        have HXV : Hid (OfTy 2 ⟨ut, un, us⟩) := HXX.out
        refine (l1Below c g _ _ GB.cur).mono ?_
        rintro e wl ⟨y, rfl, hy, hcl, hgl2⟩
        obtain ⟨N, rfl⟩ := Int.eq_ofNat_of_zero_le hy.1
        have hN : N ≤ 5 := by omega
        have GL := GB.next hcl hgl2
        have OL := (OB.draw hgl2 hgl).wide hgl2.size
        have HL := HB.draw hgl2 (by omega)
        have HBL : Hid (Bx < wl.heap.size) := lt_of_cell HL.1.1
        have HNE : Hid ((Value.slice (some ⟨b2, 0, none⟩) lc cp2).ownBlock ≠ some Bx) := HNB.out
        clear GB OB HB hcl hgl2 hy
        have HR0 : Hid (l ++ List.replicate 0 (⟨ut, un, us⟩ : V) = l) := by
          show _ = _
          simp
        have HN1 : Hid ((N : Int) = ((N + 1 : Nat) : Int) - 1) := by
          show _ = _
          omega
        go_wp2
        go_loopw [4, 6] (fun o i wr => ∃ j m : Nat, j + m = N + 1 ∧ i = .int .i64 ((j : Int) - 1) ∧ Own 27 3 w.heap.size wr.heap.size wr o (lc + m) (vals (l ++ List.replicate m ⟨ut, un, us⟩)) ∧ Held wr Bx ⟨ut, un, us⟩ ∧ o.ownBlock ≠ some Bx ∧ Going c g w wr) (fun _ i _ => (intOf i + 1).toNat)
        case atStart => exact ⟨N + 1, 0, by omega, by rw [← HN1.out], by rw [HR0.out]; exact OL, HL, HNE.out, GL⟩
        case round =>
          obtain ⟨j, m, hjm, rfl, hown, hheld, hne, G⟩ := hrel
          by_cases hj0 : j = 0
          · subst hj0
            have HM : Hid (m = N + 1) := by
              show _ = _
              omega
            go_wp2
            go_ret
            refine ⟨_, l ++ List.replicate m ⟨ut, un, us⟩, rfl, ⟨?_, ?_, 2, by omega, ?_⟩, ?_, G.cur, G.grown⟩
            · simp only [List.length_append, List.length_replicate, HLC.out]
              have := HM.out
              omega
            · simp only [List.length_append, List.length_replicate, HLC.out]
              have := HM.out
              omega
            · intro v hv
              rcases List.mem_append.1 hv with h1 | h1
              · exact HALL.out v h1
              · rw [List.eq_of_mem_replicate h1]
                exact HXV.out
            · simp only [List.length_append, List.length_replicate, HLC.out]
              exact hown
          · obtain ⟨j, rfl⟩ : ∃ q, j = q + 1 := ⟨j - 1, by omega⟩
            have HVA : Hid (vals (l ++ List.replicate m (⟨ut, un, us⟩ : V)) ++ V.cs ⟨ut, un, us⟩ = vals (l ++ List.replicate (m + 1) (⟨ut, un, us⟩ : V))) := by
              show _ = _
              rw [List.replicate_succ', ← List.append_assoc]
              simp [vals]
            have HHD := Lib.hid hheld
            have HBW : Hid (Bx < wr.heap.size) := lt_of_cell hheld.1.1
            obtain ⟨⟨d0, d1, d2⟩, _⟩ := hheld
            simp only at d0 d1 d2
            have hjj : (((j + 1 : Nat) : Int) - 1) = (j : Int) := by omega
            rw [hjj]
            have hme : lc + m + 1 = lc + (m + 1) := by omega
            go_wp2_with (at_builtin; refine appendV_law Try.elemVals rfl _ _ rfl _ _ _ _ _ ⟨ut, un, us⟩ rfl hown rfl (by unfold maxLen; omega) (by omega) ?_)
            intro v3 w3 o3 e3
            have G3 := G.ext hown (Nat.le_refl _) e3
            have H3 : Held w3 Bx ⟨ut, un, us⟩ := by
              have hh := HHD.out
              have hb := e3.grown.block Bx HBW.out (fun e => hne e.symm)
              have hc : ∀ q, w3.cell? ⟨Bx, q, none⟩ = wr.cell? ⟨Bx, q, none⟩ := fun q => World.cell?_of_block hb
              have hf : ∀ q, w3.frozen? ⟨Bx, q, none⟩ = wr.frozen? ⟨Bx, q, none⟩ := fun q => World.frozen?_of_block hb
              exact ⟨⟨(hc 0).trans hh.1.1, (hc 1).trans hh.1.2.1, (hc 2).trans hh.1.2.2⟩, (hf 0).trans hh.2.1, (hf 1).trans hh.2.2.1, (hf 2).trans hh.2.2.2⟩
            have hne3 : v3.ownBlock ≠ some Bx := by
              intro hb
              rcases e3.blk with h1 | ⟨g', h1, h2⟩
              · exact hne (h1.symm.trans hb)
              · rw [hb] at h1
                obtain rfl : Bx = g' := by simpa using h1
                have := HBW.out
                omega
            rw [HVA.out] at o3
            have O3 := Lib.hid o3
            clear o3 e3 hown d0 d1 d2 hne G
            go_wp2
            go_roundw
            case rel => exact ⟨j, m + 1, by omega, by go_num, by rw [← hme]; exact O3.out, H3, hne3, G3⟩
            case measure => (simp [intOf]; try omega)

theorem Held.setT {W : World} {b : Nat} {v : V} (h : Held W b v) (n : Int) : Held (W.setCell ⟨b, 0, none⟩ (.int .i64 n)) b ⟨n, v.n, v.s⟩ := by
  refine ⟨⟨?_, ?_, ?_⟩, ?_, ?_, ?_⟩
  · exact World.cell?_setCell_same _ _ _ h.1.1
  · rw [World.cell?_setCell_other _ _ _ _ (by simp)]; exact h.1.2.1
  · rw [World.cell?_setCell_other _ _ _ _ (by simp)]; exact h.1.2.2
  · rw [World.frozen?_setCell]; exact h.2.1
  · rw [World.frozen?_setCell]; exact h.2.2.1
  · rw [World.frozen?_setCell]; exact h.2.2.2
theorem Held.setS {W : World} {b : Nat} {v : V} (h : Held W b v) (s : ByteArray) : Held (W.setCell ⟨b, 2, none⟩ (.string s)) b ⟨v.ty, v.n, s⟩ := by
  refine ⟨⟨?_, ?_, ?_⟩, ?_, ?_, ?_⟩
  · rw [World.cell?_setCell_other _ _ _ _ (by simp)]; exact h.1.1
  · rw [World.cell?_setCell_other _ _ _ _ (by simp)]; exact h.1.2.1
  · exact World.cell?_setCell_same _ _ _ h.1.2.2
  · rw [World.frozen?_setCell]; exact h.2.1
  · rw [World.frozen?_setCell]; exact h.2.2.1
  · rw [World.frozen?_setCell]; exact h.2.2.2

/-- The texts that l3Any draws. -/
def texts5 : List ByteArray := [⟨#[97, 32, 98]⟩, ⟨#[115, 101, 118, 101, 110, 55, 55]⟩, ⟨#[127]⟩, ⟨#[126]⟩, ⟨#[33]⟩]
theorem texts5_len {s : ByteArray} (h : s ∈ texts5) : s.size ≤ 7 := by
  simp only [texts5, List.mem_cons, List.not_mem_nil, or_false] at h
  rcases h with rfl | rfl | rfl | rfl | rfl <;> decide +kernel

end Go.Proofs.Ytcokmjdehclhkaa

/- Drawing lists of Vals, of one type or of any (l5Any), and a type (l5Type). -/
namespace Go.Proofs.Ytcokmjdehclhkaa
open Go.RowKit

/-- What l5Any draws. -/
def AnyList (l : List V) : Prop := l.length ≤ 16 ∧ ∀ v ∈ l, Fair v
theorem Drawn.any {l : List V} (h : Drawn l) : AnyList l := by
  obtain ⟨h1, h2, ty, _, h3⟩ := h
  exact ⟨by omega, fun v hv => (h3 v hv).fair⟩
theorem AnyList.sizes {l : List V} (h : AnyList l) : ∀ v ∈ l, v.s.size ≤ maxLen := fun v hv => by
  have := (h.2 v hv).s
  unfold maxLen
  omega

end Go.Proofs.Ytcokmjdehclhkaa

/- The contracts of l10Op, l10Zone, DrawInZone, DrawMayHold1, DrawHolds1, DrawVals (written by mk_Draw10.py). -/
namespace Go.Proofs.Ytcokmjdehclhkaa
open Go.RowKit

theorem drawList (c : Code) (w : World) (h : c.In w) :
    Calls Try.prog 12 #[.slice c.a c.len c.cap] w fun e w' => ∃ (v : Value) (l : List V), e = .returned v ∧ Drawn l ∧ Own 27 3 w.heap.size w'.heap.size w' v l.length (vals l) ∧ Below w.heap.size w w' := by
  go_enter Try.func12, Try.ntmps12
  go_wp2_with fail
  refine (l1New c _ h).mono ?_
  rintro e w1 ⟨rfl, hc1, hb1⟩
  go_wp2_with fail
  refine (l5Draw c _ _ hc1).mono ?_
  rintro e w2 ⟨v, l, rfl, H, o2, hc2, hg2⟩
  have O2 := o2.lower hb1.size
  go_wp2
  go_ret
  exact ⟨_, l, rfl, H, O2, below_cur hb1 hg2⟩

theorem l10Op (c : Code) (g : Nat) (w : World) (h : Cur c g w) : Calls Try.prog 38 #[.pointer (some ⟨g, 0, none⟩)] w (DrewInt c g w I64) := by
  go_enter Try.func38, Try.ntmps38
  go_wp2_with fail
  refine (l1Once c g _ _ h).mono ?_
  rintro e w1 ⟨b, rfl, hc1, hg1⟩
  cases b with
  | true =>
    go_wp2_with fail
    refine (l1IntLit c g [0, 7, -1] 3 w1 rfl (by omega) (by omega) hc1 _ rfl).mono ?_
    rintro e w2 ⟨x, rfl, hx, hc2, hg2⟩
    have H : Hid (I64 x) := by
      simp only [List.mem_cons, List.not_mem_nil, or_false] at hx
      rcases hx with rfl | rfl | rfl <;> exact ⟨by omega, by omega⟩
    clear hx
    go_wp2
    go_ret
    exact ⟨_, rfl, H.out, hc2, hg1.trans hg2⟩
  | false =>
    go_wp2_with fail
    refine (l1Below c g _ _ hc1).mono ?_
    rintro e w2 ⟨y, rfl, hy, hc2, hg2⟩
    have H : Hid (I64 (1 + y)) := ⟨by omega, by omega⟩
    go_wp2
    go_ret
    exact ⟨_, rfl, H.out, hc2, hg1.trans hg2⟩

theorem Six.draw {W W' : World} {b g : Nat} {z : Zn} (h : Six W b z) (hg : W.grownBy W' (some g)) (hne : b ≠ g) : Six W' b z := by
  have hb := hg.block b (lt_of_cell h.1.1) (fun e => hne (by simpa using e))
  have hc : ∀ j, W'.cell? ⟨b, j, none⟩ = W.cell? ⟨b, j, none⟩ := fun j => World.cell?_of_block hb
  have hf : ∀ j, W'.frozen? ⟨b, j, none⟩ = W.frozen? ⟨b, j, none⟩ := fun j => World.frozen?_of_block hb
  exact ⟨⟨(hc 0).trans h.1.1, (hc 1).trans h.1.2.1, (hc 2).trans h.1.2.2.1, (hc 3).trans h.1.2.2.2.1, (hc 4).trans h.1.2.2.2.2.1, (hc 5).trans h.1.2.2.2.2.2⟩, (hf 0).trans h.2.1, (hf 1).trans h.2.2.1, (hf 2).trans h.2.2.2.1, (hf 3).trans h.2.2.2.2.1, (hf 4).trans h.2.2.2.2.2.1, (hf 5).trans h.2.2.2.2.2.2⟩
theorem At.set {size n : Nat} {w : World} {v : Value} {xs : List Value} (h : At size w v n xs) {b : Nat} (hb : v.ownBlock ≠ some b) (j : Nat) (u : Value) : At size (w.setCell ⟨b, j, none⟩ u) v n xs := h.grown (grownBy_setCell w b j u) hb
/-- A slice of Vals at the start of its block, for a walk: its k-th element, in each world in which it stands. -/
theorem At.nth {W : World} {bl cl n : Nat} {l : List V} (hl : l.length = n) {X : Nat} (hX : X < n) (hA : At 3 W (.slice (some ⟨bl, 0, none⟩) n cl) n (vals l)) :
    W.cell? ⟨bl, X * 3, none⟩ = some (.int .i64 (l.getD X V.zero).ty) ∧ W.cell? ⟨bl, X * 3 + 1, none⟩ = some (.int .i64 (l.getD X V.zero).n) ∧ W.cell? ⟨bl, X * 3 + 2, none⟩ = some (.string (l.getD X V.zero).s) := by
  obtain ⟨b', off', cp', e', _, _, _, hcs⟩ := hA
  simp only [Value.slice.injEq, Option.some.injEq, Addr.mk.injEq, and_true, true_and] at e'
  obtain ⟨⟨rfl, rfl⟩, rfl⟩ := e'
  have hX2 : X < l.length := by omega
  rw [getDe l V.zero hX2]
  have := Go.Proofs.Ytcokmjdehclhkaa.cells3 hcs hX2
  simp only [Nat.zero_add] at this
  exact this

set_option maxRecDepth 100000 in
set_option maxHeartbeats 4000000 in
theorem l10Zone (c : Code) (g : Nat) (w : World) (h : Cur c g w) :
    Calls Try.prog 39 #[.pointer (some ⟨g, 0, none⟩)] w fun e w' => ∃ (z : Zn) (v : V), e = .returned (.tuple #[z.agg, v.agg]) ∧ Going c g w w' := by
  have hgl := h.lt
  have R0 := (six_new w Zn.zero 29).below (below_alloc _ (.cells #[.int .i64 0, .int .i64 0, .string ⟨#[]⟩] 27))
  have R1 := held_new (w.alloc (.cells #[.int .i64 0, .int .i64 0, .string ⟨#[]⟩, .int .i64 0, .int .i64 0, .string ⟨#[]⟩] 29)) V.zero 27
  have G := ((Going.start h).alloc (.cells #[.int .i64 0, .int .i64 0, .string ⟨#[]⟩, .int .i64 0, .int .i64 0, .string ⟨#[]⟩] 29)).alloc (.cells #[.int .i64 0, .int .i64 0, .string ⟨#[]⟩] 27)
  rw [World.size_alloc] at R1
  simp only [Zn.zero, V.zero] at R0 R1
  have HSZ : Hid (((w.alloc (.cells #[.int .i64 0, .int .i64 0, .string ⟨#[]⟩, .int .i64 0, .int .i64 0, .string ⟨#[]⟩] 29)).alloc (.cells #[.int .i64 0, .int .i64 0, .string ⟨#[]⟩] 27)).heap.size = w.heap.size + 2) := by
    show _ = _
    rw [World.size_alloc, World.size_alloc]
  generalize hw0 : (w.alloc (.cells #[.int .i64 0, .int .i64 0, .string ⟨#[]⟩, .int .i64 0, .int .i64 0, .string ⟨#[]⟩] 29)).alloc (.cells #[.int .i64 0, .int .i64 0, .string ⟨#[]⟩] 27) = w0 at R0 R1 G HSZ
  have HW := Lib.hid hw0
  clear hw0
  go_enter Try.func39, Try.ntmps39
  go_wp2_with fail
  rw [HW.out]
  refine (l5Draw c g _ G.cur).mono ?_
  rintro e w1 ⟨v1, l, rfl, hl, o1, hc1, hg1⟩
  replace G := G.next hc1 hg1
  replace R0 : Six w1 w.heap.size Zn.zero := Six.draw (z := Zn.zero) R0 hg1 (by omega)
  replace R1 : Held w1 (w.heap.size + 1) V.zero := Held.draw (v := V.zero) R1 hg1 (by omega)
  have hln := hl.2.1
  have hlp := hl.1
  generalize hn : l.length = n at o1 hln hlp
  have HL := Lib.hid hn
  obtain ⟨bl, cl, hv1⟩ : ∃ b cp, v1 = .slice (some ⟨b, 0, none⟩) n cp := by
    obtain ⟨b, cp, e, _⟩ := o1
    exact ⟨b, cp, e⟩
  subst hv1
  have hbl : w.heap.size + 2 ≤ bl := by
    have := o1.block bl rfl
    rw [HSZ.out] at this
    exact this
  have HNB : Hid ((Value.slice (some ⟨bl, 0, none⟩) n cl).ownBlock ≠ some g) := fun e => by simp [Value.ownBlock] at e; omega
  have HN0 : Hid ((Value.slice (some ⟨bl, 0, none⟩) n cl).ownBlock ≠ some w.heap.size) := fun e => by simp [Value.ownBlock] at e; omega
  have HN1 : Hid ((Value.slice (some ⟨bl, 0, none⟩) n cl).ownBlock ≠ some (w.heap.size + 1)) := fun e => by simp [Value.ownBlock] at e; omega
  have hla := o1.at
  have HCELL : Hid (∀ X, X < n → ∀ W, At 3 W (.slice (some ⟨bl, 0, none⟩) n cl) n (vals l) → W.cell? ⟨bl, X * 3, none⟩ = some (.int .i64 (l.getD X V.zero).ty) ∧ W.cell? ⟨bl, X * 3 + 1, none⟩ = some (.int .i64 (l.getD X V.zero).n) ∧ W.cell? ⟨bl, X * 3 + 2, none⟩ = some (.string (l.getD X V.zero).s)) := fun X hX W hA => hA.nth HL.out hX
  have HZ : Hid (∀ W, At 3 W (.slice (some ⟨bl, 0, none⟩) n cl) n (vals l) → Calls Try.prog 16 #[.slice (some ⟨bl, 0, none⟩) n cl] W fun e w' => e = .returned (zoneL l).agg ∧ Below W.heap.size W w') := fun W hA => sZoneOf _ l W (by rw [HL.out]; exact hA.rd)
  generalize zoneL l = z at HZ
  obtain ⟨⟨za, zb, zs⟩, ⟨zc, zd, zt⟩⟩ := z
  clear hn hl o1 hc1 hg1 HL
  go_wp2_with fail
  refine (l1Once c g _ _ G.cur).mono ?_
  rintro e w2 ⟨b, rfl, hc2, hg2⟩
  replace G := G.next hc2 hg2
  replace R0 := R0.draw hg2 (by omega)
  replace R1 := R1.draw hg2 (by omega)
  replace hla := hla.grown hg2 HNB.out
  clear hc2 hg2
  cases b with
  | false =>
    go_wp2_with fail
    refine (HZ.out _ hla).mono ?_
    rintro e w3 ⟨rfl, b3⟩
    replace G := G.below b3
    replace R0 := R0.below b3
    replace R1 := R1.below b3
    clear hla b3
    go_wp2_with fail
    refine (l3Draw c g _ G.cur).mono ?_
    rintro e w4 ⟨x, rfl, _, hc4, hg4⟩
    replace G := G.next hc4 hg4
    obtain ⟨⟨a0, a1, a2, a3, a4, a5⟩, f0, f1, f2, f3, f4, f5⟩ := R0.draw hg4 (by omega)
    obtain ⟨⟨b0, b1, b2⟩, g0, g1, g2⟩ := R1.draw hg4 (by omega)
    simp only [Zn.zero, V.zero] at a0 a1 a2 a3 a4 a5 b0 b1 b2
    obtain ⟨xt, xn, xs⟩ := x
    clear R0 R1 hc4 hg4
    go_wp2
    exact bodyPost_ret (v := .tuple #[.agg #[.int .i64 za, .int .i64 zb, .string zs, .int .i64 zc, .int .i64 zd, .string zt], .agg #[.int .i64 xt, .int .i64 xn, .string xs]]) (by simp [results, Try.results39, go_sem, *]) rfl ⟨⟨⟨za, zb, zs⟩, ⟨zc, zd, zt⟩⟩, ⟨xt, xn, xs⟩, rfl, (((((((((G.set (by simp) _ _).set (by simp) _ _).set (by simp) _ _).set (by simp) _ _).set (by simp) _ _).set (by simp) _ _).set (by simp) _ _).set (by simp) _ _).set (by simp) _ _)⟩
  | true =>
    go_wp2
    have hdr := (Below.refl w2.heap.size w2).drew
    replace G := G.below hdr
    replace R0 := R0.below hdr
    replace R1 := R1.below hdr
    have hla0 := hla
    replace hla := hla.below hdr
    clear hdr
    refine wp_region_held_drew (S := fun W => At 3 W (.slice (some ⟨bl, 0, none⟩) n cl) n (vals l)) (by kernel_rfl) hla0 (fun hH => ?_)
    clear hla0
    refine takeH (i := 0) (d := some 9) (v := .slice (some ⟨bl, 0, none⟩) n cl) rfl rfl (by kernel_rfl) (by kernel_rfl) (by kernel_rfl) (fun _ _ _ h => h) (Or.inl ⟨by rfl, fun W hSw => by go_simp⟩) hH ?_
    try simp only [put_some, List.set_cons_zero, List.set_cons_succ]
    refine takeH (i := 2) (d := some 11) (v := .slice (some ⟨bl, 0, none⟩) n cl) rfl rfl (by kernel_rfl) (by kernel_rfl) (by kernel_rfl) (fun _ _ _ h => h) (Or.inl ⟨by rfl, fun W hSw => by go_simp⟩) hH ?_
    try simp only [put_some, List.set_cons_zero, List.set_cons_succ]
    refine takeH (i := 3) (d := some 12) (v := .pointer (some ⟨g, 0, none⟩)) rfl rfl (by kernel_rfl) (by kernel_rfl) (by kernel_rfl) (fun _ _ _ h => h) (Or.inl ⟨by rfl, fun W hSw => by go_simp⟩) hH ?_
    try simp only [put_some, List.set_cons_zero, List.set_cons_succ]
    refine takeH (i := 4) (d := some 13) (v := .slice (some ⟨bl, 0, none⟩) n cl) rfl rfl (by kernel_rfl) (by kernel_rfl) (by kernel_rfl) (fun _ _ _ h => h) (Or.inl ⟨by rfl, fun W hSw => by go_simp⟩) hH ?_
    try simp only [put_some, List.set_cons_zero, List.set_cons_succ]
    refine takeH (i := 5) (d := some 14) (v := .int .i64 (n : Int)) rfl rfl (by kernel_rfl) (by kernel_rfl) (by kernel_rfl) (fun _ _ _ h => h) (Or.inl ⟨by rfl, fun W hSw => by go_simp⟩) hH ?_
    try simp only [put_some, List.set_cons_zero, List.set_cons_succ]
    refine wpAnyH_ready (rs := [1]) (by kernel_rfl) (by simp) ?_
    refine AllReadyH.cons rfl (fun K hK => ?_) AllReadyH.nil
    go_simp
    go_at_call 16
    refine (HZ.out _ hla).mono ?_
    rintro e wB ⟨rfl, bB⟩
    replace G := G.below bB
    replace R0 := R0.below bB
    replace R1 := R1.below bB
    replace hla := hla.below bB
    clear bB
    go_wp2_with fail
    refine hK.out _ _ hla (fun hH => ?_)
    clear hK K
    refine wpAnyH_ready (rs := [6]) (by kernel_rfl) (by simp) ?_
    refine AllReadyH.cons rfl (fun K hK => ?_) AllReadyH.nil
    go_simp
    go_at_call 47
    refine (l1Below c g _ _ G.cur).mono ?_
    rintro e wB ⟨y, rfl, hy, hcB, hgB⟩
    replace G := G.next hcB hgB
    replace R0 := R0.draw hgB (by omega)
    replace R1 := R1.draw hgB (by omega)
    replace hla := hla.grown hgB HNB.out
    obtain ⟨X, rfl⟩ := Int.eq_ofNat_of_zero_le hy.1
    have hXn : X < n := by omega
    have HCX := Lib.hid (HCELL.out X hXn)
    generalize l.getD X V.zero = x at HCX
    obtain ⟨xt, xn, xs⟩ := x
    simp only at HCX
    clear hcB hgB hy
    go_wp2_with fail
    refine hK.out _ _ hla (fun hH => ?_)
    clear hK K
    refine takeH (i := 7) (d := some 16) (v := .pointer (some ⟨bl, X * 3, none⟩)) rfl rfl (by kernel_rfl) (by kernel_rfl) (by kernel_rfl) (fun _ _ _ h => h) (Or.inl ⟨by rfl, fun W hSw => by go_simp⟩) hH ?_
    try simp only [put_some, List.set_cons_zero, List.set_cons_succ]
    refine takeH (i := 8) (d := some 17) (v := .agg #[.int .i64 xt, .int .i64 xn, .string xs]) rfl rfl (by kernel_rfl) (by kernel_rfl) (by kernel_rfl) (fun _ _ _ h => h) (Or.inl ⟨by rfl, fun W hSw => by obtain ⟨d0, d1, d2⟩ := HCX.out W hSw; go_simp⟩) hH ?_
    try simp only [put_some, List.set_cons_zero, List.set_cons_succ]
    obtain ⟨⟨a0, a1, a2, a3, a4, a5⟩, f0, f1, f2, f3, f4, f5⟩ := R0
    obtain ⟨⟨b0, b1, b2⟩, g0, g1, g2⟩ := R1
    simp only [Zn.zero, V.zero] at a0 a1 a2 a3 a4 a5 b0 b1 b2
    refine wpAnyH_ready (rs := [9]) (by kernel_rfl) (by simp) ?_
    refine AllReadyH.cons rfl (fun K hK => ?_) AllReadyH.nil
    have hla2 := (((((hla.set HN0.out 0 (.int .i64 za)).set HN0.out 1 (.int .i64 zb)).set HN0.out 2 (.string zs)).set HN0.out 3 (.int .i64 zc)).set HN0.out 4 (.int .i64 zd)).set HN0.out 5 (.string zt)
    go_simp
    refine hK.out _ _ hla2 (fun hH => ?_)
    clear hK K hla
    have hla := hla2
    clear hla2
    refine wpAnyH_ready (rs := [10]) (by kernel_rfl) (by simp) ?_
    refine AllReadyH.cons rfl (fun K hK => ?_) AllReadyH.nil
    have hla2 := ((hla.set HN1.out 0 (.int .i64 xt)).set HN1.out 1 (.int .i64 xn)).set HN1.out 2 (.string xs)
    go_simp
    refine hK.out _ _ hla2 (fun hH => ?_)
    clear hK K hla
    have hla := hla2
    clear hla2
    refine wpAnyH_done (by kernel_rfl) ?_ _
    clear hla
    go_wp2
    exact bodyPost_ret (v := .tuple #[.agg #[.int .i64 za, .int .i64 zb, .string zs, .int .i64 zc, .int .i64 zd, .string zt], .agg #[.int .i64 xt, .int .i64 xn, .string xs]]) (by simp [results, Try.results39, go_sem, *]) rfl ⟨⟨⟨za, zb, zs⟩, ⟨zc, zd, zt⟩⟩, ⟨xt, xn, xs⟩, rfl, (((((((((G.set (by simp) _ _).set (by simp) _ _).set (by simp) _ _).set (by simp) _ _).set (by simp) _ _).set (by simp) _ _).set (by simp) _ _).set (by simp) _ _).set (by simp) _ _)⟩


set_option maxHeartbeats 2000000 in
theorem drawInZone (c : Code) (w : World) (h : c.In w) :
    Calls Try.prog 15 #[.slice c.a c.len c.cap] w fun e w' => ∃ (z : Zn) (v : V), e = .returned (.tuple #[z.agg, v.agg]) ∧ Below w.heap.size w w' := by
  have R0 := (six_new w Zn.zero 29).below (below_alloc _ (.cells #[.int .i64 0, .int .i64 0, .string ⟨#[]⟩] 27))
  have R1 := held_new (w.alloc (.cells #[.int .i64 0, .int .i64 0, .string ⟨#[]⟩, .int .i64 0, .int .i64 0, .string ⟨#[]⟩] 29)) V.zero 27
  have B := below_alloc2 w (.cells #[.int .i64 0, .int .i64 0, .string ⟨#[]⟩, .int .i64 0, .int .i64 0, .string ⟨#[]⟩] 29) (.cells #[.int .i64 0, .int .i64 0, .string ⟨#[]⟩] 27)
  rw [World.size_alloc] at R1
  have HSZ : Hid (((w.alloc (.cells #[.int .i64 0, .int .i64 0, .string ⟨#[]⟩, .int .i64 0, .int .i64 0, .string ⟨#[]⟩] 29)).alloc (.cells #[.int .i64 0, .int .i64 0, .string ⟨#[]⟩] 27)).heap.size = w.heap.size + 2) := by
    show _ = _
    rw [World.size_alloc, World.size_alloc]
  simp only [Zn.zero, V.zero] at R0 R1
  generalize hw0 : (w.alloc (.cells #[.int .i64 0, .int .i64 0, .string ⟨#[]⟩, .int .i64 0, .int .i64 0, .string ⟨#[]⟩] 29)).alloc (.cells #[.int .i64 0, .int .i64 0, .string ⟨#[]⟩] 27) = W0 at R0 R1 B HSZ
  have HW := Lib.hid hw0
  clear hw0
  go_enter Try.func15, Try.ntmps15
  go_wp2_with fail
  rw [HW.out]
  refine (l1New c _ ⟨h.arg.below B, h.byt, h.small⟩).mono ?_
  rintro e w1 ⟨rfl, hc1, hb1⟩
  rw [HSZ.out] at hc1
  have HG := Lib.hid HSZ.out
  replace R0 := Six.below (z := Zn.zero) R0 hb1
  replace R1 := Held.below (v := V.zero) R1 hb1
  replace B := below_then B hb1 B.size
  clear hb1
  rw [HSZ.out]
  go_wp2_with fail
  refine (l10Zone c _ _ hc1).mono ?_
  rintro e w2 ⟨z, x, rfl, G⟩
  have hg2 := G.grown
  replace R0 := R0.draw hg2 (by omega)
  replace R1 := R1.draw hg2 (by omega)
  replace B := B.grown hg2 B.size (fun k hk => by simp at hk; omega)
  clear hg2
  obtain ⟨⟨a0, a1, a2, a3, a4, a5⟩, f0, f1, f2, f3, f4, f5⟩ := R0
  obtain ⟨⟨b0, b1, b2⟩, g0, g1, g2⟩ := R1
  simp only [Zn.zero, V.zero] at a0 a1 a2 a3 a4 a5 b0 b1 b2
  obtain ⟨⟨za, zb, zs⟩, ⟨zc, zd, zt⟩⟩ := z
  obtain ⟨xt, xn, xs⟩ := x
  go_wp2
  exact bodyPost_ret (v := .tuple #[.agg #[.int .i64 za, .int .i64 zb, .string zs, .int .i64 zc, .int .i64 zd, .string zt], .agg #[.int .i64 xt, .int .i64 xn, .string xs]]) (by simp [results, Try.results15, go_sem, *]) rfl ⟨⟨⟨za, zb, zs⟩, ⟨zc, zd, zt⟩⟩, ⟨xt, xn, xs⟩, rfl, (((((((((B.setCell (by simp) _).setCell (by simp) _).setCell (by simp) _).setCell (by simp) _).setCell (by simp) _).setCell (by simp) _).setCell (by simp) _).setCell (by simp) _).setCell (by simp) _)⟩

set_option maxHeartbeats 4000000 in
theorem drawMayHold1 (c : Code) (w : World) (h : c.In w) :
    Calls Try.prog 13 #[.slice c.a c.len c.cap] w fun e w' => ∃ (op : Int) (z : Zn) (v : V), e = .returned (.tuple #[.int .i64 op, z.agg, v.agg]) ∧ I64 op ∧ Below w.heap.size w w' := by
  have R0 := (six_new w Zn.zero 29).below (below_alloc _ (.cells #[.int .i64 0, .int .i64 0, .string ⟨#[]⟩] 27))
  have R1 := held_new (w.alloc (.cells #[.int .i64 0, .int .i64 0, .string ⟨#[]⟩, .int .i64 0, .int .i64 0, .string ⟨#[]⟩] 29)) V.zero 27
  have B := below_alloc2 w (.cells #[.int .i64 0, .int .i64 0, .string ⟨#[]⟩, .int .i64 0, .int .i64 0, .string ⟨#[]⟩] 29) (.cells #[.int .i64 0, .int .i64 0, .string ⟨#[]⟩] 27)
  rw [World.size_alloc] at R1
  have HSZ : Hid (((w.alloc (.cells #[.int .i64 0, .int .i64 0, .string ⟨#[]⟩, .int .i64 0, .int .i64 0, .string ⟨#[]⟩] 29)).alloc (.cells #[.int .i64 0, .int .i64 0, .string ⟨#[]⟩] 27)).heap.size = w.heap.size + 2) := by
    show _ = _
    rw [World.size_alloc, World.size_alloc]
  simp only [Zn.zero, V.zero] at R0 R1
  generalize hw0 : (w.alloc (.cells #[.int .i64 0, .int .i64 0, .string ⟨#[]⟩, .int .i64 0, .int .i64 0, .string ⟨#[]⟩] 29)).alloc (.cells #[.int .i64 0, .int .i64 0, .string ⟨#[]⟩] 27) = W0 at R0 R1 B HSZ
  have HW := Lib.hid hw0
  clear hw0
  go_enter Try.func13, Try.ntmps13
  go_wp2_with fail
  rw [HW.out]
  refine (l1New c _ ⟨h.arg.below B, h.byt, h.small⟩).mono ?_
  rintro e w1 ⟨rfl, hc1, hb1⟩
  rw [HSZ.out] at hc1
  have HG := Lib.hid HSZ.out
  replace R0 := Six.below (z := Zn.zero) R0 hb1
  replace R1 := Held.below (v := V.zero) R1 hb1
  replace B := below_then B hb1 B.size
  clear hb1
  rw [HSZ.out]
  go_wp2_with fail
  refine (l10Op c _ _ hc1).mono ?_
  rintro e w2 ⟨op, rfl, hop, hc2, hg2⟩
  replace R0 := R0.draw hg2 (by omega)
  replace R1 := R1.draw hg2 (by omega)
  replace B := B.grown hg2 B.size (fun k hk => by simp at hk; omega)
  clear hg2
  have HOP := Lib.hid hop
  clear hop hc1
  go_wp2_with fail
  refine (l10Zone c _ _ hc2).mono ?_
  rintro e w3 ⟨z, x, rfl, G⟩
  have hg3 := G.grown
  replace R0 := R0.draw hg3 (by omega)
  replace R1 := R1.draw hg3 (by omega)
  replace B := B.grown hg3 B.size (fun k hk => by simp at hk; omega)
  clear hg3
  obtain ⟨⟨za, zb, zs⟩, ⟨zc, zd, zt⟩⟩ := z
  obtain ⟨xt, xn, xs⟩ := x
  have A1 := below_alloc w3 (.cells #[.int .i64 za, .int .i64 zb, .string zs, .int .i64 zc, .int .i64 zd, .string zt] 29)
  have A2 := below_alloc (w3.alloc (.cells #[.int .i64 za, .int .i64 zb, .string zs, .int .i64 zc, .int .i64 zd, .string zt] 29)) (.cells #[.int .i64 xt, .int .i64 xn, .string xs] 27)
  have C0 := (six_new w3 ⟨⟨za, zb, zs⟩, ⟨zc, zd, zt⟩⟩ 29).below A2
  have C1 := held_new (w3.alloc (.cells #[.int .i64 za, .int .i64 zb, .string zs, .int .i64 zc, .int .i64 zd, .string zt] 29)) ⟨xt, xn, xs⟩ 27
  rw [World.size_alloc] at C1
  replace R0 := (R0.below A1).below A2
  replace R1 := (R1.below A1).below A2
  replace B := below_then (below_then B A1 B.size) A2 (by have := B.size; rw [World.size_alloc]; omega)
  have hq0 : w.heap.size + 1 < w3.heap.size := by
    have := G.cur.lt
    omega
  generalize hw4 : (w3.alloc (.cells #[.int .i64 za, .int .i64 zb, .string zs, .int .i64 zc, .int .i64 zd, .string zt] 29)).alloc (.cells #[.int .i64 xt, .int .i64 xn, .string xs] 27) = w4 at R0 R1 B C0 C1
  have HW4 := Lib.hid hw4
  generalize hqq : w3.heap.size = q at C0 C1 hq0
  have HQQ := Lib.hid hqq
  clear hw4 hqq A1 A2 hc2 G
  go_wp2
  rw [HW4.out, HQQ.out]
  obtain ⟨⟨a0, a1, a2, a3, a4, a5⟩, f0, f1, f2, f3, f4, f5⟩ := R0
  obtain ⟨⟨b0, b1, b2⟩, g0, g1, g2⟩ := R1
  simp only [Zn.zero, V.zero] at a0 a1 a2 a3 a4 a5 b0 b1 b2
  obtain ⟨⟨p0, p1, p2, p3, p4, p5⟩, _⟩ := C0
  obtain ⟨⟨r0, r1, r2⟩, _⟩ := C1
  simp only at p0 p1 p2 p3 p4 p5 r0 r1 r2
  go_region
  go_wp2
  exact bodyPost_ret (v := .tuple #[.int .i64 op, .agg #[.int .i64 za, .int .i64 zb, .string zs, .int .i64 zc, .int .i64 zd, .string zt], .agg #[.int .i64 xt, .int .i64 xn, .string xs]]) (by simp [results, Try.results13, go_sem, *]) rfl ⟨op, ⟨⟨za, zb, zs⟩, ⟨zc, zd, zt⟩⟩, ⟨xt, xn, xs⟩, rfl, HOP.out, (((((((((B.setCell (by simp) _).setCell (by simp) _).setCell (by simp) _).setCell (by simp) _).setCell (by simp) _).setCell (by simp) _).setCell (by simp) _).setCell (by simp) _).setCell (by simp) _).drew⟩

set_option maxHeartbeats 4000000 in
theorem drawHolds1 (c : Code) (w : World) (h : c.In w) :
    Calls Try.prog 22 #[.slice c.a c.len c.cap] w fun e w' => ∃ (op : Int) (x y : V), e = .returned (.tuple #[.int .i64 op, x.agg, y.agg]) ∧ I64 op ∧ Below w.heap.size w w' := by
  have R0 := (held_new w V.zero 27).below (below_alloc _ (.cells #[.int .i64 0, .int .i64 0, .string ⟨#[]⟩] 27))
  have R1 := held_new (w.alloc (.cells #[.int .i64 0, .int .i64 0, .string ⟨#[]⟩] 27)) V.zero 27
  have B := below_alloc2 w (.cells #[.int .i64 0, .int .i64 0, .string ⟨#[]⟩] 27) (.cells #[.int .i64 0, .int .i64 0, .string ⟨#[]⟩] 27)
  rw [World.size_alloc] at R1
  have HSZ : Hid (((w.alloc (.cells #[.int .i64 0, .int .i64 0, .string ⟨#[]⟩] 27)).alloc (.cells #[.int .i64 0, .int .i64 0, .string ⟨#[]⟩] 27)).heap.size = w.heap.size + 2) := by
    show _ = _
    rw [World.size_alloc, World.size_alloc]
  simp only [V.zero] at R0 R1
  generalize hw0 : (w.alloc (.cells #[.int .i64 0, .int .i64 0, .string ⟨#[]⟩] 27)).alloc (.cells #[.int .i64 0, .int .i64 0, .string ⟨#[]⟩] 27) = W0 at R0 R1 B HSZ
  have HW := Lib.hid hw0
  clear hw0
  go_enter Try.func22, Try.ntmps22
  go_wp2_with fail
  rw [HW.out]
  refine (l1New c _ ⟨h.arg.below B, h.byt, h.small⟩).mono ?_
  rintro e w1 ⟨rfl, hc1, hb1⟩
  rw [HSZ.out] at hc1
  have HG := Lib.hid HSZ.out
  replace R0 := Held.below (v := V.zero) R0 hb1
  replace R1 := Held.below (v := V.zero) R1 hb1
  replace B := below_then B hb1 B.size
  clear hb1
  rw [HSZ.out]
  go_wp2_with fail
  refine (l10Op c _ _ hc1).mono ?_
  rintro e w2 ⟨op, rfl, hop, hc2, hg2⟩
  replace R0 := R0.draw hg2 (by omega)
  replace R1 := R1.draw hg2 (by omega)
  replace B := B.grown hg2 B.size (fun k hk => by simp at hk; omega)
  clear hg2
  have HOP := Lib.hid hop
  clear hop hc1
  go_wp2_with fail
  refine (l3Draw c _ _ hc2).mono ?_
  rintro e w3 ⟨x, rfl, _, hc3, hg3⟩
  replace R0 := R0.draw hg3 (by omega)
  replace R1 := R1.draw hg3 (by omega)
  replace B := B.grown hg3 B.size (fun k hk => by simp at hk; omega)
  clear hg3
  obtain ⟨xt, xn, xs⟩ := x
  have A1 := below_alloc w3 (.cells #[.int .i64 xt, .int .i64 xn, .string xs] 27)
  have C0 := held_new w3 ⟨xt, xn, xs⟩ 27
  have hc4 := hc3.alloc (.cells #[.int .i64 xt, .int .i64 xn, .string xs] 27)
  replace R0 := R0.below A1
  replace R1 := R1.below A1
  replace B := below_then B A1 B.size
  have hq0 : w.heap.size + 2 < w3.heap.size := hc3.lt
  simp only at C0
  generalize hw4 : w3.alloc (.cells #[.int .i64 xt, .int .i64 xn, .string xs] 27) = w4 at R0 R1 B C0 hc4
  have HW4 := Lib.hid hw4
  generalize hqq : w3.heap.size = q at C0 hq0
  have HQQ := Lib.hid hqq
  clear hw4 hqq A1 hc2 hc3
  go_wp2_with fail
  rw [HW4.out, HQQ.out]
  refine (l1Once c _ _ _ hc4).mono ?_
  rintro e w5 ⟨b, rfl, hc5, hg5⟩
  replace C0 := C0.draw hg5 (by omega)
  replace R0 := R0.draw hg5 (by omega)
  replace R1 := R1.draw hg5 (by omega)
  replace B := B.grown hg5 B.size (fun k hk => by simp at hk; omega)
  clear hg5
  cases b with
  | true =>
    obtain ⟨⟨a0, a1, a2⟩, f0, f1, f2⟩ := R0
    obtain ⟨⟨b0, b1, b2⟩, g0, g1, g2⟩ := R1
    simp only [V.zero] at a0 a1 a2 b0 b1 b2
    obtain ⟨⟨p0, p1, p2⟩, _⟩ := C0
    simp only at p0 p1 p2
    clear HW4 HQQ HSZ HW hc4 hc5 h
    go_wp2
    go_region
    go_wp2
    exact bodyPost_ret (v := .tuple #[.int .i64 op, .agg #[.int .i64 xt, .int .i64 xn, .string xs], .agg #[.int .i64 xt, .int .i64 xn, .string xs]]) (by simp [results, Try.results22, go_sem, *]) rfl ⟨op, ⟨xt, xn, xs⟩, ⟨xt, xn, xs⟩, rfl, HOP.out, ((((((B.setCell (by simp) _).setCell (by simp) _).setCell (by simp) _).setCell (by simp) _).setCell (by simp) _).setCell (by simp) _).drew⟩
  | false =>
    have hB' := (Below.refl w5.heap.size w5).drew
    have HC0 := Lib.hid C0
    have HR0 := Lib.hid R0
    have HR1 := Lib.hid R1
    have HB := Lib.hid B
    have HCU := Lib.hid hc5
    obtain ⟨⟨p0, p1, p2⟩, _⟩ := C0
    simp only at p0 p1 p2
    have hq1 : ¬ (q = w.heap.size) := by omega
    have hq2 : ¬ (q = w.heap.size + 1) := by omega
    clear HW4 HQQ HSZ HW hc4 hc5 h R0 R1 B
    go_wp2
    have HK : Hid (∀ W, Below w5.heap.size w5 W → W.cell? ⟨q, 0, none⟩ = some (.int .i64 xt) ∧ W.cell? ⟨q, 1, none⟩ = some (.int .i64 xn) ∧ W.cell? ⟨q, 2, none⟩ = some (.string xs)) := fun W hW => ⟨(HC0.out.below hW).1.1, (HC0.out.below hW).1.2.1, (HC0.out.below hW).1.2.2⟩
    refine wp_region_held_drew (S := fun W => W.cell? ⟨q, 0, none⟩ = some (.int .i64 xt) ∧ W.cell? ⟨q, 1, none⟩ = some (.int .i64 xn) ∧ W.cell? ⟨q, 2, none⟩ = some (.string xs)) (by kernel_rfl) ⟨p0, p1, p2⟩ (fun hH => ?_)
    refine takeH (i := 0) (d := some 19) (v := .int .i64 op) rfl rfl (by kernel_rfl) (by kernel_rfl) (by kernel_rfl) (fun _ _ _ h => h) (Or.inl ⟨by rfl, fun W hSw => by go_simp⟩) hH ?_
    try simp only [put_some, List.set_cons_zero, List.set_cons_succ]
    refine takeH (i := 1) (d := some 20) (v := .agg #[.int .i64 xt, .int .i64 xn, .string xs]) rfl rfl (by kernel_rfl) (by kernel_rfl) (by kernel_rfl) (fun _ _ _ h => h) (Or.inl ⟨by rfl, fun W hSw => by obtain ⟨d0, d1, d2⟩ := hSw; go_simp⟩) hH ?_
    try simp only [put_some, List.set_cons_zero, List.set_cons_succ]
    refine takeH (i := 2) (d := some 21) (v := .pointer (some ⟨w.heap.size + 2, 0, none⟩)) rfl rfl (by kernel_rfl) (by kernel_rfl) (by kernel_rfl) (fun _ _ _ h => h) (Or.inl ⟨by rfl, fun W hSw => by go_simp⟩) hH ?_
    try simp only [put_some, List.set_cons_zero, List.set_cons_succ]
    refine wpAnyH_ready (rs := [3]) (by kernel_rfl) (by simp) ?_
    refine AllReadyH.cons rfl (fun K hK => ?_) AllReadyH.nil
    go_simp
    go_at_call 43
    refine (l3Draw c _ _ (HCU.out.below hB')).mono ?_
    rintro e w6 ⟨y, rfl, _, _, hg6⟩
    have C6 := (HC0.out.below hB').draw hg6 (by omega)
    have R60 := (HR0.out.below hB').draw hg6 (by omega)
    have R61 := (HR1.out.below hB').draw hg6 (by omega)
    have B6 := (below_then HB.out hB' HB.out.size).grown hg6 (by have := HB.out.size; have := hB'.size; omega) (fun k hk => by simp at hk; omega)
    obtain ⟨yt, yn, ys⟩ := y
    clear hg6 HC0 HR0 HR1 HB HCU hB' p0 p1 p2
    go_wp2_with fail
    refine hK.out _ _ ⟨C6.1.1, C6.1.2.1, C6.1.2.2⟩ (fun hH => ?_)
    clear hK K
    refine takeH (i := 4) (d := some 2) (v := .int .i64 op) rfl rfl (by kernel_rfl) (by kernel_rfl) (by kernel_rfl) (fun _ _ _ h => h) (Or.inl ⟨by rfl, fun W hSw => by go_simp⟩) hH ?_
    try simp only [put_some, List.set_cons_zero, List.set_cons_succ]
    refine wpAnyH_ready (rs := [5]) (by kernel_rfl) (by simp) ?_
    refine AllReadyH.cons rfl (fun K hK => ?_) AllReadyH.nil
    have C7 := ((C6.other (p := ⟨w.heap.size, 0, none⟩) (by simp; omega) (.int .i64 xt)).other (p := ⟨w.heap.size, 1, none⟩) (by simp; omega) (.int .i64 xn)).other (p := ⟨w.heap.size, 2, none⟩) (by simp; omega) (.string xs)
    have C8 := ((C7.other (p := ⟨w.heap.size + 1, 0, none⟩) (by simp; omega) (.int .i64 yt)).other (p := ⟨w.heap.size + 1, 1, none⟩) (by simp; omega) (.int .i64 yn)).other (p := ⟨w.heap.size + 1, 2, none⟩) (by simp; omega) (.string ys)
    obtain ⟨⟨a0, a1, a2⟩, f0, f1, f2⟩ := R60
    obtain ⟨⟨b0, b1, b2⟩, g0, g1, g2⟩ := R61
    simp only [V.zero] at a0 a1 a2 b0 b1 b2
    go_simp
    refine hK.out _ _ ⟨C7.1.1, C7.1.2.1, C7.1.2.2⟩ (fun hH => ?_)
    clear hK K
    refine wpAnyH_ready (rs := [6]) (by kernel_rfl) (by simp) ?_
    refine AllReadyH.cons rfl (fun K hK => ?_) AllReadyH.nil
    go_simp
    refine hK.out _ _ ⟨C8.1.1, C8.1.2.1, C8.1.2.2⟩ (fun hH => ?_)
    clear hK K
    refine wpAnyH_done (by kernel_rfl) ?_ _
    clear C6 C7 C8
    go_wp2
    exact bodyPost_ret (v := .tuple #[.int .i64 op, .agg #[.int .i64 xt, .int .i64 xn, .string xs], .agg #[.int .i64 yt, .int .i64 yn, .string ys]]) (by simp [results, Try.results22, go_sem, *]) rfl ⟨op, ⟨xt, xn, xs⟩, ⟨yt, yn, ys⟩, rfl, HOP.out, ((((((B6.setCell (by simp) _).setCell (by simp) _).setCell (by simp) _).setCell (by simp) _).setCell (by simp) _).setCell (by simp) _)⟩

end Go.Proofs.Ytcokmjdehclhkaa

/- The law FnZones, walked (written by mk_Law10b.py). -/
namespace Go.Proofs.Ytcokmjdehclhkaa
open Go.RowKit

/-- Is one of the first k values y? -/
def seenB (l : List V) (y : V) (k : Nat) : Bool := (l.take k).any fun v => v.eqB y
theorem seen_zero (l : List V) (y : V) : seenB l y 0 = false := by
  unfold seenB
  rw [List.take_zero]
  rfl
theorem seen_next {l : List V} {y : V} {k : Nat} (hk : k < l.length) : seenB l y (k + 1) = (seenB l y k || (l.getD k V.zero).eqB y) := by
  have e : l.getD k V.zero = l[k] := by simp [hk]
  unfold seenB
  rw [e, List.take_succ_eq_append_getElem hk, List.any_append]
  simp
theorem seen_all {l : List V} {y : V} (h : y ∈ l) : seenB l y l.length = true := by
  unfold seenB
  rw [List.take_length]
  exact List.any_eq_true.2 ⟨y, h, eqB_true.2 rfl⟩

set_option maxRecDepth 100000 in
set_option maxHeartbeats 8000000 in
theorem lawFnZones (c : Code) (w : World) (h : c.len ≤ 1048576 → c.In w) :
    Calls Try.prog 3 #[.slice c.a c.len c.cap] w fun e w' => e = .returned (.bool true) ∧ Below w.heap.size w w' := by
  by_cases hbig : 1048576 < c.len
  · go_enter Try.func3, Try.ntmps3
    go_wp2_with (go_at_call 11; refine (big_yes _ _ _ _ hbig).mono ?_; rintro e w' ⟨rfl, rfl⟩)
    go_ret
    exact ⟨rfl, Below.refl _ _⟩
  · have hin := h (by omega)
    clear h
    go_enter Try.func3, Try.ntmps3
    go_wp2_with fail
    refine (big_no _ _ _ _ (by omega)).mono ?_
    rintro e w' ⟨rfl, rfl⟩
    go_wp2_with fail
    refine (drawList c _ hin).mono ?_
    rintro e w1 ⟨v1, l, rfl, hl, o1, b1⟩
    have HSP := Lib.hid (zone_spans (l := l) (fun e => by have := hl.1; rw [e] at this; simp at this))
    have hln := hl.2.1
    have hlp := hl.1
    clear hl
    generalize hn : l.length = n at o1 hln hlp
    have HL := Lib.hid hn
    obtain ⟨bl, cl, hv1⟩ : ∃ b cp, v1 = .slice (some ⟨b, 0, none⟩) n cp := by
      obtain ⟨b, cp, e, _⟩ := o1
      exact ⟨b, cp, e⟩
    subst hv1
    have hla := o1.at
    clear o1 hn
    go_wp2_with fail
    refine (drawMayHold1 c _ (hin.below b1)).mono ?_
    rintro e w2 ⟨op, z, v, rfl, _, b2⟩
    have B2 := below_then b1 b2 b1.size
    replace hla := hla.below b2
    clear b1 b2
    obtain ⟨⟨z1, z2, z3⟩, ⟨z4, z5, z6⟩⟩ := z
    obtain ⟨v1, v2, v3⟩ := v
    have A1 := below_alloc w2 (.cells #[.int .i64 z1, .int .i64 z2, .string z3, .int .i64 z4, .int .i64 z5, .string z6] 29)
    have A2 := below_alloc (w2.alloc (.cells #[.int .i64 z1, .int .i64 z2, .string z3, .int .i64 z4, .int .i64 z5, .string z6] 29)) (.cells #[.int .i64 v1, .int .i64 v2, .string v3] 27)
    have CZ := (six_new w2 ⟨⟨z1, z2, z3⟩, ⟨z4, z5, z6⟩⟩ 29).below A2
    have CV := held_new (w2.alloc (.cells #[.int .i64 z1, .int .i64 z2, .string z3, .int .i64 z4, .int .i64 z5, .string z6] 29)) ⟨v1, v2, v3⟩ 27
    rw [World.size_alloc] at CV
    have B3 := below_then (below_then B2 A1 B2.size) A2 (by have := B2.size; rw [World.size_alloc]; omega)
    replace hla := (hla.below A1).below A2
    generalize hw3 : (w2.alloc (.cells #[.int .i64 z1, .int .i64 z2, .string z3, .int .i64 z4, .int .i64 z5, .string z6] 29)).alloc (.cells #[.int .i64 v1, .int .i64 v2, .string v3] 27) = w3 at CZ CV B3 hla
    have HW3 := Lib.hid hw3
    generalize hqz : w2.heap.size = qz at CZ CV
    have HQZ := Lib.hid hqz
    clear hw3 hqz A1 A2 B2
    have HIZ : Hid (∀ W, At 3 W (.slice (some ⟨bl, 0, none⟩) n cl) n (vals l) → Calls Try.prog 14 #[.slice (some ⟨bl, 0, none⟩) n cl] W fun e w' => e = .returned (zoneL l).agg ∧ Below W.heap.size W w') := fun W hA => iZoneOf _ l W (by rw [HL.out]; exact hA.rd)
    have HSZ : Hid (∀ W, At 3 W (.slice (some ⟨bl, 0, none⟩) n cl) n (vals l) → Calls Try.prog 16 #[.slice (some ⟨bl, 0, none⟩) n cl] W fun e w' => e = .returned (zoneL l).agg ∧ Below W.heap.size W w') := fun W hA => sZoneOf _ l W (by rw [HL.out]; exact hA.rd)
    generalize zoneL l = y at HIZ HSZ HSP
    obtain ⟨⟨y1, y2, y3⟩, ⟨y4, y5, y6⟩⟩ := y
    go_wp2_with fail
    rw [HW3.out, HQZ.out]
    refine (HIZ.out _ hla).mono ?_
    rintro e w4 ⟨rfl, b4⟩
    have A5 := below_alloc w4 (.cells #[.int .i64 y1, .int .i64 y2, .string y3, .int .i64 y4, .int .i64 y5, .string y6] 29)
    have CY := six_new w4 ⟨⟨y1, y2, y3⟩, ⟨y4, y5, y6⟩⟩ 29
    replace CZ := (CZ.below b4).below A5
    replace CV := (CV.below b4).below A5
    replace hla := (hla.below b4).below A5
    have B5 := below_then (below_then B3 b4 B3.size) A5 (by have := B3.size; have := b4.size; omega)
    generalize hw5 : w4.alloc (.cells #[.int .i64 y1, .int .i64 y2, .string y3, .int .i64 y4, .int .i64 y5, .string y6] 29) = w5 at CY CZ CV B5 hla
    have HW5 := Lib.hid hw5
    generalize hqy : w4.heap.size = qy at CY
    have HQY := Lib.hid hqy
    clear hw5 hqy A5 b4 B3 HIZ HW3 HQZ
    go_wp2_with fail
    rw [HW5.out, HQY.out]
    refine (drawInZone c _ (hin.below B5)).mono ?_
    rintro e w6 ⟨a, b, rfl, b6⟩
    obtain ⟨⟨a1, a2, a3⟩, ⟨a4, a5, a6⟩⟩ := a
    obtain ⟨b1, b2, b3⟩ := b
    have A1 := below_alloc w6 (.cells #[.int .i64 a1, .int .i64 a2, .string a3, .int .i64 a4, .int .i64 a5, .string a6] 29)
    have A2 := below_alloc (w6.alloc (.cells #[.int .i64 a1, .int .i64 a2, .string a3, .int .i64 a4, .int .i64 a5, .string a6] 29)) (.cells #[.int .i64 b1, .int .i64 b2, .string b3] 27)
    have CA := (six_new w6 ⟨⟨a1, a2, a3⟩, ⟨a4, a5, a6⟩⟩ 29).below A2
    have CB := held_new (w6.alloc (.cells #[.int .i64 a1, .int .i64 a2, .string a3, .int .i64 a4, .int .i64 a5, .string a6] 29)) ⟨b1, b2, b3⟩ 27
    rw [World.size_alloc] at CB
    replace CY := ((CY.below b6).below A1).below A2
    replace CZ := ((CZ.below b6).below A1).below A2
    replace CV := ((CV.below b6).below A1).below A2
    replace hla := ((hla.below b6).below A1).below A2
    have B6 := below_then B5 b6 B5.size
    have B7 := below_then (below_then B6 A1 B6.size) A2 (by have := B6.size; rw [World.size_alloc]; omega)
    generalize hw7 : (w6.alloc (.cells #[.int .i64 a1, .int .i64 a2, .string a3, .int .i64 a4, .int .i64 a5, .string a6] 29)).alloc (.cells #[.int .i64 b1, .int .i64 b2, .string b3] 27) = w7 at CA CB CY CZ CV B7 hla
    have HW7 := Lib.hid hw7
    generalize hqa : w6.heap.size = qa at CA CB
    have HQA := Lib.hid hqa
    clear hw7 hqa A1 A2 b6 B5 B6 HW5 HQY hin
    have HK : Hid (∀ W, Below w7.heap.size w7 W → W.cell? ⟨qy, 0, none⟩ = some (.int .i64 y1) ∧ W.cell? ⟨qy, 1, none⟩ = some (.int .i64 y2) ∧ W.cell? ⟨qy, 2, none⟩ = some (.string y3) ∧ W.cell? ⟨qy, 3, none⟩ = some (.int .i64 y4) ∧ W.cell? ⟨qy, 4, none⟩ = some (.int .i64 y5) ∧ W.cell? ⟨qy, 5, none⟩ = some (.string y6) ∧ W.cell? ⟨qz, 0, none⟩ = some (.int .i64 z1) ∧ W.cell? ⟨qz, 1, none⟩ = some (.int .i64 z2) ∧ W.cell? ⟨qz, 2, none⟩ = some (.string z3) ∧ W.cell? ⟨qz, 3, none⟩ = some (.int .i64 z4) ∧ W.cell? ⟨qz, 4, none⟩ = some (.int .i64 z5) ∧ W.cell? ⟨qz, 5, none⟩ = some (.string z6) ∧ W.cell? ⟨qz + 1, 0, none⟩ = some (.int .i64 v1) ∧ W.cell? ⟨qz + 1, 1, none⟩ = some (.int .i64 v2) ∧ W.cell? ⟨qz + 1, 2, none⟩ = some (.string v3) ∧ W.cell? ⟨qa, 0, none⟩ = some (.int .i64 a1) ∧ W.cell? ⟨qa, 1, none⟩ = some (.int .i64 a2) ∧ W.cell? ⟨qa, 2, none⟩ = some (.string a3) ∧ W.cell? ⟨qa, 3, none⟩ = some (.int .i64 a4) ∧ W.cell? ⟨qa, 4, none⟩ = some (.int .i64 a5) ∧ W.cell? ⟨qa, 5, none⟩ = some (.string a6) ∧ W.cell? ⟨qa + 1, 0, none⟩ = some (.int .i64 b1) ∧ W.cell? ⟨qa + 1, 1, none⟩ = some (.int .i64 b2) ∧ W.cell? ⟨qa + 1, 2, none⟩ = some (.string b3)) := fun W hW => ⟨(CY.below hW).1.1, (CY.below hW).1.2.1, (CY.below hW).1.2.2.1, (CY.below hW).1.2.2.2.1, (CY.below hW).1.2.2.2.2.1, (CY.below hW).1.2.2.2.2.2, (CZ.below hW).1.1, (CZ.below hW).1.2.1, (CZ.below hW).1.2.2.1, (CZ.below hW).1.2.2.2.1, (CZ.below hW).1.2.2.2.2.1, (CZ.below hW).1.2.2.2.2.2, (CV.below hW).1.1, (CV.below hW).1.2.1, (CV.below hW).1.2.2, (CA.below hW).1.1, (CA.below hW).1.2.1, (CA.below hW).1.2.2.1, (CA.below hW).1.2.2.2.1, (CA.below hW).1.2.2.2.2.1, (CA.below hW).1.2.2.2.2.2, (CB.below hW).1.1, (CB.below hW).1.2.1, (CB.below hW).1.2.2⟩
    have HAT : Hid (∀ W, Below w7.heap.size w7 W → At 3 W (.slice (some ⟨bl, 0, none⟩) n cl) n (vals l)) := fun W hW => hla.below hW
    have HQ := Lib.hid (fun W => run_neq_zone ⟨⟨y1, y2, y3⟩, ⟨y4, y5, y6⟩⟩ ⟨⟨y1, y2, y3⟩, ⟨y4, y5, y6⟩⟩ W)
    rw [Zn.eqB_true.2 rfl] at HQ
    have hqq := HQ.out
    have HIM := Lib.hid (fun W => iMayHold1 op ⟨⟨z1, z2, z3⟩, ⟨z4, z5, z6⟩⟩ ⟨v1, v2, v3⟩ W)
    have HSM := Lib.hid (fun W => sMayHold1 op ⟨⟨z1, z2, z3⟩, ⟨z4, z5, z6⟩⟩ ⟨v1, v2, v3⟩ W)
    have HIA := Lib.hid (fun W => iInZone ⟨⟨a1, a2, a3⟩, ⟨a4, a5, a6⟩⟩ ⟨b1, b2, b3⟩ W)
    have HSA := Lib.hid (fun W => sInZone ⟨⟨a1, a2, a3⟩, ⟨a4, a5, a6⟩⟩ ⟨b1, b2, b3⟩ W)
    have hq1 : (mayB op ⟨⟨z1, z2, z3⟩, ⟨z4, z5, z6⟩⟩ ⟨v1, v2, v3⟩ != mayB op ⟨⟨z1, z2, z3⟩, ⟨z4, z5, z6⟩⟩ ⟨v1, v2, v3⟩) = false := by simp
    have hq2 : (inZB ⟨⟨a1, a2, a3⟩, ⟨a4, a5, a6⟩⟩ ⟨b1, b2, b3⟩ != inZB ⟨⟨a1, a2, a3⟩, ⟨a4, a5, a6⟩⟩ ⟨b1, b2, b3⟩) = false := by simp
    generalize mayB op ⟨⟨z1, z2, z3⟩, ⟨z4, z5, z6⟩⟩ ⟨v1, v2, v3⟩ = r1 at HIM HSM hq1
    generalize inZB ⟨⟨a1, a2, a3⟩, ⟨a4, a5, a6⟩⟩ ⟨b1, b2, b3⟩ = r2 at HIA HSA hq2
    have hB' := (Below.refl w7.heap.size w7).drew
    have hB := Below.refl w7.heap.size w7
    have hHK := HK.out _ hB
    go_wp2
    rw [HW7.out, HQA.out]
    clear HW7 HQA
    go_region_held3 (fun W => W.cell? ⟨qy, 0, none⟩ = some (.int .i64 y1) ∧ W.cell? ⟨qy, 1, none⟩ = some (.int .i64 y2) ∧ W.cell? ⟨qy, 2, none⟩ = some (.string y3) ∧ W.cell? ⟨qy, 3, none⟩ = some (.int .i64 y4) ∧ W.cell? ⟨qy, 4, none⟩ = some (.int .i64 y5) ∧ W.cell? ⟨qy, 5, none⟩ = some (.string y6) ∧ W.cell? ⟨qz, 0, none⟩ = some (.int .i64 z1) ∧ W.cell? ⟨qz, 1, none⟩ = some (.int .i64 z2) ∧ W.cell? ⟨qz, 2, none⟩ = some (.string z3) ∧ W.cell? ⟨qz, 3, none⟩ = some (.int .i64 z4) ∧ W.cell? ⟨qz, 4, none⟩ = some (.int .i64 z5) ∧ W.cell? ⟨qz, 5, none⟩ = some (.string z6) ∧ W.cell? ⟨qz + 1, 0, none⟩ = some (.int .i64 v1) ∧ W.cell? ⟨qz + 1, 1, none⟩ = some (.int .i64 v2) ∧ W.cell? ⟨qz + 1, 2, none⟩ = some (.string v3) ∧ W.cell? ⟨qa, 0, none⟩ = some (.int .i64 a1) ∧ W.cell? ⟨qa, 1, none⟩ = some (.int .i64 a2) ∧ W.cell? ⟨qa, 2, none⟩ = some (.string a3) ∧ W.cell? ⟨qa, 3, none⟩ = some (.int .i64 a4) ∧ W.cell? ⟨qa, 4, none⟩ = some (.int .i64 a5) ∧ W.cell? ⟨qa, 5, none⟩ = some (.string a6) ∧ W.cell? ⟨qa + 1, 0, none⟩ = some (.int .i64 b1) ∧ W.cell? ⟨qa + 1, 1, none⟩ = some (.int .i64 b2) ∧ W.cell? ⟨qa + 1, 2, none⟩ = some (.string b3)) (first | exact HK.out _ hB' | exact HK.out _ hB) (first | (go_at_call 17; (with_reducible refine (HIM.out _).mono ?_); rintro e w2 ⟨rfl, hb2⟩; replace hB' := below_then hB' hb2 hB'.size) | (go_at_call 18; (with_reducible refine (HSM.out _).mono ?_); rintro e w2 ⟨rfl, hb2⟩; replace hB' := below_then hB' hb2 hB'.size) | (go_at_call 19; (with_reducible refine (HIA.out _).mono ?_); rintro e w2 ⟨rfl, hb2⟩; replace hB' := below_then hB' hb2 hB'.size) | (go_at_call 20; (with_reducible refine (HSA.out _).mono ?_); rintro e w2 ⟨rfl, hb2⟩; replace hB' := below_then hB' hb2 hB'.size) | (go_at_call 16; (with_reducible refine (HSZ.out _ (HAT.out _ hB')).mono ?_); rintro e w2 ⟨rfl, hb2⟩; replace hB' := below_then hB' hb2 hB'.size))
    all_goals
      clear HIM HSM HIA HSA hq1 hq2 HSZ hqq HQ hB hHK
      have hB := hB'
      clear hB'
      have HLO := Lib.hid (fun k (hk : k < l.length) => seen_next (y := ⟨y1, y2, y3⟩) hk)
      have HHI := Lib.hid (fun k (hk : k < l.length) => seen_next (y := ⟨y4, y5, y6⟩) hk)
      have HLA := Lib.hid (seen_all HSP.out.lo)
      have HHA := Lib.hid (seen_all HSP.out.hi)
      have HL0 := Lib.hid (seen_zero l ⟨y1, y2, y3⟩)
      have HH0 := Lib.hid (seen_zero l ⟨y4, y5, y6⟩)
      simp only at HLA HHA
      go_wp2
      go_loopw [10, 11, 12] (fun lo hi i wr => ∃ k : Nat, k ≤ n ∧ i = .int .i64 k ∧ lo = .bool (seenB l ⟨y1, y2, y3⟩ k) ∧ hi = .bool (seenB l ⟨y4, y5, y6⟩ k) ∧ Below w7.heap.size w7 wr) (fun _ _ i _ => n - (intOf i).toNat)
      case atStart => exact ⟨0, Nat.zero_le _, rfl, by rw [HL0.out], by rw [HH0.out], hB⟩
      case round =>
        obtain ⟨k, hk, rfl, rfl, rfl, hbr⟩ := hrel
        clear hB
        by_cases hlt : k < n
        · have hlt2 : k < l.length := by rw [HL.out]; exact hlt
          have HX : Hid (∀ W, Below w7.heap.size w7 W → W.cell? ⟨bl, k * 3, none⟩ = some (.int .i64 (l.getD k V.zero).ty) ∧ W.cell? ⟨bl, k * 3 + 1, none⟩ = some (.int .i64 (l.getD k V.zero).n) ∧ W.cell? ⟨bl, k * 3 + 2, none⟩ = some (.string (l.getD k V.zero).s)) := fun W hW => (HAT.out W hW).nth HL.out hlt
          have HM : Hid (l.getD k V.zero ∈ l) := by
            show _ ∈ _
            rw [getDe l V.zero hlt2]
            exact List.getElem_mem hlt2
          have HLN := Lib.hid (HLO.out k hlt2)
          have HHN := Lib.hid (HHI.out k hlt2)
          generalize l.getD k V.zero = x at HX HM HLN HHN
          obtain ⟨x1, x2, x3⟩ := x
          have HIN := Lib.hid (fun W => iInZone ⟨⟨y1, y2, y3⟩, ⟨y4, y5, y6⟩⟩ ⟨x1, x2, x3⟩ W)
          rw [inZ_of HSP.out HM.out] at HIN
          have HHO := Lib.hid (fun W => iHolds1 op ⟨x1, x2, x3⟩ ⟨v1, v2, v3⟩ W)
          have HMA := Lib.hid (fun W => iMayHold1 op ⟨⟨y1, y2, y3⟩, ⟨y4, y5, y6⟩⟩ ⟨v1, v2, v3⟩ W)
          have HMH : Hid (holdsB op ⟨x1, x2, x3⟩ ⟨v1, v2, v3⟩ = true → mayB op ⟨⟨y1, y2, y3⟩, ⟨y4, y5, y6⟩⟩ ⟨v1, v2, v3⟩ = true) := may_of HSP.out HM.out
          have HQL := Lib.hid (fun W => run_eql_val ⟨x1, x2, x3⟩ ⟨y1, y2, y3⟩ W)
          have HQH := Lib.hid (fun W => run_eql_val ⟨x1, x2, x3⟩ ⟨y4, y5, y6⟩ W)
          have HK2 : Hid (∀ W, Below wr.heap.size wr W → W.cell? ⟨qy, 0, none⟩ = some (.int .i64 y1) ∧ W.cell? ⟨qy, 1, none⟩ = some (.int .i64 y2) ∧ W.cell? ⟨qy, 2, none⟩ = some (.string y3) ∧ W.cell? ⟨qy, 3, none⟩ = some (.int .i64 y4) ∧ W.cell? ⟨qy, 4, none⟩ = some (.int .i64 y5) ∧ W.cell? ⟨qy, 5, none⟩ = some (.string y6) ∧ W.cell? ⟨qz + 1, 0, none⟩ = some (.int .i64 v1) ∧ W.cell? ⟨qz + 1, 1, none⟩ = some (.int .i64 v2) ∧ W.cell? ⟨qz + 1, 2, none⟩ = some (.string v3) ∧ W.cell? ⟨bl, k * 3, none⟩ = some (.int .i64 x1) ∧ W.cell? ⟨bl, k * 3 + 1, none⟩ = some (.int .i64 x2) ∧ W.cell? ⟨bl, k * 3 + 2, none⟩ = some (.string x3)) := fun W hW => by
            have h1 := HK.out W (below_then hbr hW hbr.size)
            have h2 := HX.out W (below_then hbr hW hbr.size)
            exact ⟨h1.1, h1.2.1, h1.2.2.1, h1.2.2.2.1, h1.2.2.2.2.1, h1.2.2.2.2.2.1, h1.2.2.2.2.2.2.2.2.2.2.2.2.1, h1.2.2.2.2.2.2.2.2.2.2.2.2.2.1, h1.2.2.2.2.2.2.2.2.2.2.2.2.2.2.1, h2.1, h2.2.1, h2.2.2⟩
          generalize seenB l ⟨y1, y2, y3⟩ k = lo at HLN ⊢
          generalize seenB l ⟨y4, y5, y6⟩ k = hi at HHN ⊢
          generalize V.eqB ⟨x1, x2, x3⟩ ⟨y1, y2, y3⟩ = q1 at HLN HQL
          generalize V.eqB ⟨x1, x2, x3⟩ ⟨y4, y5, y6⟩ = q2 at HHN HQH
          have hql := HQL.out
          have hqh := HQH.out
          have hB' := (Below.refl wr.heap.size wr).drew
          clear HLO HHI HLA HHA HL0 HH0 HX HM HQL HQH HAT HSP
          cases hr : holdsB op ⟨x1, x2, x3⟩ ⟨v1, v2, v3⟩ with
          | true =>
            rw [HMH.out hr] at HMA
            rw [hr] at HHO
            clear hr HMH
            go_wp2
            go_region_held3 (fun W => W.cell? ⟨qy, 0, none⟩ = some (.int .i64 y1) ∧ W.cell? ⟨qy, 1, none⟩ = some (.int .i64 y2) ∧ W.cell? ⟨qy, 2, none⟩ = some (.string y3) ∧ W.cell? ⟨qy, 3, none⟩ = some (.int .i64 y4) ∧ W.cell? ⟨qy, 4, none⟩ = some (.int .i64 y5) ∧ W.cell? ⟨qy, 5, none⟩ = some (.string y6) ∧ W.cell? ⟨qz + 1, 0, none⟩ = some (.int .i64 v1) ∧ W.cell? ⟨qz + 1, 1, none⟩ = some (.int .i64 v2) ∧ W.cell? ⟨qz + 1, 2, none⟩ = some (.string v3) ∧ W.cell? ⟨bl, k * 3, none⟩ = some (.int .i64 x1) ∧ W.cell? ⟨bl, k * 3 + 1, none⟩ = some (.int .i64 x2) ∧ W.cell? ⟨bl, k * 3 + 2, none⟩ = some (.string x3)) (exact HK2.out _ hB') (first | (go_at_call 19; (with_reducible refine (HIN.out _).mono ?_); rintro e w2 ⟨rfl, hb2⟩; replace hB' := below_then hB' hb2 hB'.size) | (go_at_call 21; (with_reducible refine (HHO.out _).mono ?_); rintro e w2 ⟨rfl, hb2⟩; replace hB' := below_then hB' hb2 hB'.size) | (go_at_call 17; (with_reducible refine (HMA.out _).mono ?_); rintro e w2 ⟨rfl, hb2⟩; replace hB' := below_then hB' hb2 hB'.size))
            all_goals
              clear HIN HHO HMA
              obtain ⟨c1, c2, c3, c4, c5, c6, _, _, _, e1, e2, e3⟩ := HK2.out _ hB'
              have B9 := Lib.hid (below_then hbr hB' hbr.size)
              clear hB' hbr HK2
              cases lo
              all_goals
                cases hi
                all_goals
                  simp only [Bool.true_or, Bool.false_or] at HLN HHN
                  go_wp2
                  go_quiet (fail)
                  go_wp2
                  go_quiet (fail)
                  go_wp2
                  go_roundw
                  case rel => exact ⟨k + 1, by omega, by go_num, by rw [HLN.out], by rw [HHN.out], B9.out.trans (below_drewN _ _ _)⟩
                  case measure => simp [intOf]; omega
          | false =>
            rw [hr] at HHO
            clear hr HMH HMA
            go_wp2
            refine wp_region_held_drew (S := fun W => W.cell? ⟨qy, 0, none⟩ = some (.int .i64 y1) ∧ W.cell? ⟨qy, 1, none⟩ = some (.int .i64 y2) ∧ W.cell? ⟨qy, 2, none⟩ = some (.string y3) ∧ W.cell? ⟨qy, 3, none⟩ = some (.int .i64 y4) ∧ W.cell? ⟨qy, 4, none⟩ = some (.int .i64 y5) ∧ W.cell? ⟨qy, 5, none⟩ = some (.string y6) ∧ W.cell? ⟨qz + 1, 0, none⟩ = some (.int .i64 v1) ∧ W.cell? ⟨qz + 1, 1, none⟩ = some (.int .i64 v2) ∧ W.cell? ⟨qz + 1, 2, none⟩ = some (.string v3) ∧ W.cell? ⟨bl, k * 3, none⟩ = some (.int .i64 x1) ∧ W.cell? ⟨bl, k * 3 + 1, none⟩ = some (.int .i64 x2) ∧ W.cell? ⟨bl, k * 3 + 2, none⟩ = some (.string x3)) (by kernel_rfl) (HK2.out _ hB') (fun hH => ?_)
            refine takeH (i := 0) (d := some 60) (v := .agg #[.int .i64 y1, .int .i64 y2, .string y3, .int .i64 y4, .int .i64 y5, .string y6]) rfl rfl (by kernel_rfl) (by kernel_rfl) (by kernel_rfl) (fun _ _ _ h => h) (Or.inl ⟨by rfl, fun W hSw => by obtain ⟨d0, d1, d2, d3, d4, d5, d6, d7, d8, d9, d10, d11⟩ := hSw; go_simp⟩) hH ?_
            try simp only [put_some, List.set_cons_zero, List.set_cons_succ]
            refine takeH (i := 1) (d := some 61) (v := .slice (some ⟨bl, 0, none⟩) n cl) rfl rfl (by kernel_rfl) (by kernel_rfl) (by kernel_rfl) (fun _ _ _ h => h) (Or.inl ⟨by rfl, fun W hSw => by obtain ⟨d0, d1, d2, d3, d4, d5, d6, d7, d8, d9, d10, d11⟩ := hSw; go_simp⟩) hH ?_
            try simp only [put_some, List.set_cons_zero, List.set_cons_succ]
            refine takeH (i := 2) (d := some 62) (v := .int .i64 (k : Int)) rfl rfl (by kernel_rfl) (by kernel_rfl) (by kernel_rfl) (fun _ _ _ h => h) (Or.inl ⟨by rfl, fun W hSw => by obtain ⟨d0, d1, d2, d3, d4, d5, d6, d7, d8, d9, d10, d11⟩ := hSw; go_simp⟩) hH ?_
            try simp only [put_some, List.set_cons_zero, List.set_cons_succ]
            refine takeH (i := 3) (d := some 63) (v := .pointer (some ⟨bl, k * 3, none⟩)) rfl rfl (by kernel_rfl) (by kernel_rfl) (by kernel_rfl) (fun _ _ _ h => h) (Or.inl ⟨by rfl, fun W hSw => by obtain ⟨d0, d1, d2, d3, d4, d5, d6, d7, d8, d9, d10, d11⟩ := hSw; go_simp⟩) hH ?_
            try simp only [put_some, List.set_cons_zero, List.set_cons_succ]
            refine takeH (i := 4) (d := some 64) (v := .agg #[.int .i64 x1, .int .i64 x2, .string x3]) rfl rfl (by kernel_rfl) (by kernel_rfl) (by kernel_rfl) (fun _ _ _ h => h) (Or.inl ⟨by rfl, fun W hSw => by obtain ⟨d0, d1, d2, d3, d4, d5, d6, d7, d8, d9, d10, d11⟩ := hSw; go_simp⟩) hH ?_
            try simp only [put_some, List.set_cons_zero, List.set_cons_succ]
            refine wpAnyH_ready (rs := [5]) (by kernel_rfl) (by simp) ?_
            refine AllReadyH.cons rfl (fun K hK => ?_) AllReadyH.nil
            go_simp
            go_at_call 19
            refine (HIN.out _).mono ?_
            rintro e w2 ⟨rfl, hb2⟩
            replace hB' := below_then hB' hb2 hB'.size
            clear hb2
            go_wp2_with fail
            refine hK.out _ _ (HK2.out _ hB') (fun hH => ?_)
            clear hK K
            refine takeH (i := 6) (d := some 66) (v := .bool false) rfl rfl (by kernel_rfl) (by kernel_rfl) (by kernel_rfl) (fun _ _ _ h => h) (Or.inl ⟨by rfl, fun W hSw => by obtain ⟨d0, d1, d2, d3, d4, d5, d6, d7, d8, d9, d10, d11⟩ := hSw; go_simp⟩) hH ?_
            try simp only [put_some, List.set_cons_zero, List.set_cons_succ]
            refine takeH (i := 7) (d := some 67) (v := .bool false) rfl rfl (by kernel_rfl) (by kernel_rfl) (by kernel_rfl) (fun _ _ _ h => h) (Or.inl ⟨by rfl, fun W hSw => by obtain ⟨d0, d1, d2, d3, d4, d5, d6, d7, d8, d9, d10, d11⟩ := hSw; go_simp⟩) hH ?_
            try simp only [put_some, List.set_cons_zero, List.set_cons_succ]
            refine takeH (i := 8) (d := some 68) (v := .int .i64 op) rfl rfl (by kernel_rfl) (by kernel_rfl) (by kernel_rfl) (fun _ _ _ h => h) (Or.inl ⟨by rfl, fun W hSw => by obtain ⟨d0, d1, d2, d3, d4, d5, d6, d7, d8, d9, d10, d11⟩ := hSw; go_simp⟩) hH ?_
            try simp only [put_some, List.set_cons_zero, List.set_cons_succ]
            refine takeH (i := 9) (d := some 69) (v := .slice (some ⟨bl, 0, none⟩) n cl) rfl rfl (by kernel_rfl) (by kernel_rfl) (by kernel_rfl) (fun _ _ _ h => h) (Or.inl ⟨by rfl, fun W hSw => by obtain ⟨d0, d1, d2, d3, d4, d5, d6, d7, d8, d9, d10, d11⟩ := hSw; go_simp⟩) hH ?_
            try simp only [put_some, List.set_cons_zero, List.set_cons_succ]
            refine takeH (i := 10) (d := some 70) (v := .int .i64 (k : Int)) rfl rfl (by kernel_rfl) (by kernel_rfl) (by kernel_rfl) (fun _ _ _ h => h) (Or.inl ⟨by rfl, fun W hSw => by obtain ⟨d0, d1, d2, d3, d4, d5, d6, d7, d8, d9, d10, d11⟩ := hSw; go_simp⟩) hH ?_
            try simp only [put_some, List.set_cons_zero, List.set_cons_succ]
            refine takeH (i := 11) (d := some 71) (v := .pointer (some ⟨bl, k * 3, none⟩)) rfl rfl (by kernel_rfl) (by kernel_rfl) (by kernel_rfl) (fun _ _ _ h => h) (Or.inl ⟨by rfl, fun W hSw => by obtain ⟨d0, d1, d2, d3, d4, d5, d6, d7, d8, d9, d10, d11⟩ := hSw; go_simp⟩) hH ?_
            try simp only [put_some, List.set_cons_zero, List.set_cons_succ]
            refine takeH (i := 12) (d := some 72) (v := .agg #[.int .i64 x1, .int .i64 x2, .string x3]) rfl rfl (by kernel_rfl) (by kernel_rfl) (by kernel_rfl) (fun _ _ _ h => h) (Or.inl ⟨by rfl, fun W hSw => by obtain ⟨d0, d1, d2, d3, d4, d5, d6, d7, d8, d9, d10, d11⟩ := hSw; go_simp⟩) hH ?_
            try simp only [put_some, List.set_cons_zero, List.set_cons_succ]
            refine takeH (i := 13) (d := some 73) (v := .agg #[.int .i64 v1, .int .i64 v2, .string v3]) rfl rfl (by kernel_rfl) (by kernel_rfl) (by kernel_rfl) (fun _ _ _ h => h) (Or.inl ⟨by rfl, fun W hSw => by obtain ⟨d0, d1, d2, d3, d4, d5, d6, d7, d8, d9, d10, d11⟩ := hSw; go_simp⟩) hH ?_
            try simp only [put_some, List.set_cons_zero, List.set_cons_succ]
            refine wpAnyH_ready (rs := [14]) (by kernel_rfl) (by simp) ?_
            refine AllReadyH.cons rfl (fun K hK => ?_) AllReadyH.nil
            go_simp
            go_at_call 21
            refine (HHO.out _).mono ?_
            rintro e w2 ⟨rfl, hb2⟩
            replace hB' := below_then hB' hb2 hB'.size
            clear hb2
            go_wp2_with fail
            refine hK.out _ _ (HK2.out _ hB') (fun hH => ?_)
            clear hK K
            refine takeH (i := 15) (d := some 75) (v := .bool false) rfl rfl (by kernel_rfl) (by kernel_rfl) (by kernel_rfl) (fun _ _ _ h => h) (Or.inl ⟨by rfl, fun W hSw => by obtain ⟨d0, d1, d2, d3, d4, d5, d6, d7, d8, d9, d10, d11⟩ := hSw; go_simp⟩) hH ?_
            try simp only [put_some, List.set_cons_zero, List.set_cons_succ]
            refine takeH (i := 16) (d := some 76) (v := undef) rfl rfl (by kernel_rfl) (by kernel_rfl) (by kernel_rfl) (fun _ _ _ h => h) (Or.inr ⟨by rfl, rfl⟩) hH ?_
            try simp only [put_some, List.set_cons_zero, List.set_cons_succ]
            refine takeH (i := 17) (d := some 77) (v := undef) rfl rfl (by kernel_rfl) (by kernel_rfl) (by kernel_rfl) (fun _ _ _ h => h) (Or.inr ⟨by rfl, rfl⟩) hH ?_
            try simp only [put_some, List.set_cons_zero, List.set_cons_succ]
            refine takeH (i := 18) (d := some 78) (v := undef) rfl rfl (by kernel_rfl) (by kernel_rfl) (by kernel_rfl) (fun _ _ _ h => h) (Or.inr ⟨by rfl, rfl⟩) hH ?_
            try simp only [put_some, List.set_cons_zero, List.set_cons_succ]
            refine takeH (i := 19) (d := some 79) (v := undef) rfl rfl (by kernel_rfl) (by kernel_rfl) (by kernel_rfl) (fun _ _ _ h => h) (Or.inr ⟨by rfl, rfl⟩) hH ?_
            try simp only [put_some, List.set_cons_zero, List.set_cons_succ]
            refine takeH (i := 20) (d := some 80) (v := undef) rfl rfl (by kernel_rfl) (by kernel_rfl) (by kernel_rfl) (fun _ _ _ h => h) (Or.inr ⟨by rfl, rfl⟩) hH ?_
            try simp only [put_some, List.set_cons_zero, List.set_cons_succ]
            refine takeH (i := 21) (d := some 81) (v := .bool false) rfl rfl (by kernel_rfl) (by kernel_rfl) (by kernel_rfl) (fun _ _ _ h => h) (Or.inl ⟨by rfl, fun W hSw => by obtain ⟨d0, d1, d2, d3, d4, d5, d6, d7, d8, d9, d10, d11⟩ := hSw; go_simp⟩) hH ?_
            try simp only [put_some, List.set_cons_zero, List.set_cons_succ]
            refine takeH (i := 22) (d := some 82) (v := .bool false) rfl rfl (by kernel_rfl) (by kernel_rfl) (by kernel_rfl) (fun _ _ _ h => h) (Or.inl ⟨by rfl, fun W hSw => by obtain ⟨d0, d1, d2, d3, d4, d5, d6, d7, d8, d9, d10, d11⟩ := hSw; go_simp⟩) hH ?_
            try simp only [put_some, List.set_cons_zero, List.set_cons_succ]
            refine wpAnyH_done (by kernel_rfl) ?_ _
            clear HIN HHO
            obtain ⟨c1, c2, c3, c4, c5, c6, _, _, _, e1, e2, e3⟩ := HK2.out _ hB'
            have B9 := Lib.hid (below_then hbr hB' hbr.size)
            clear hB' hbr HK2
            cases lo
            all_goals
              cases hi
              all_goals
                simp only [Bool.true_or, Bool.false_or] at HLN HHN
                go_wp2
                go_quiet (fail)
                go_wp2
                go_quiet (fail)
                go_wp2
                go_roundw
                case rel => exact ⟨k + 1, by omega, by go_num, by rw [HLN.out], by rw [HHN.out], B9.out.trans (below_drewN _ _ _)⟩
                case measure => simp [intOf]; omega
        · obtain rfl : k = n := by omega
          have ha := HLA.out
          have hb := HHA.out
          rw [HL.out] at ha hb
          rw [ha, hb]
          have B9 := below_then B7 hbr B7.size
          clear HLO HHI HLA HHA HL0 HH0 HAT HSP
          go_wp2
          go_ret
          exact ⟨rfl, B9⟩

end Go.Proofs.Ytcokmjdehclhkaa

/- The law FnOps, walked (written by mk_Law10b.py). -/
namespace Go.Proofs.Ytcokmjdehclhkaa
open Go.RowKit

set_option maxRecDepth 100000 in
set_option maxHeartbeats 8000000 in
theorem lawFnOps (c : Code) (w : World) (h : c.len ≤ 1048576 → c.In w) :
    Calls Try.prog 4 #[.slice c.a c.len c.cap] w fun e w' => e = .returned (.bool true) ∧ Below w.heap.size w w' := by
  by_cases hbig : 1048576 < c.len
  · go_enter Try.func4, Try.ntmps4
    go_wp2_with (go_at_call 11; refine (big_yes _ _ _ _ hbig).mono ?_; rintro e w' ⟨rfl, rfl⟩)
    go_ret
    exact ⟨rfl, Below.refl _ _⟩
  · have hin := h (by omega)
    clear h
    go_enter Try.func4, Try.ntmps4
    go_wp2_with fail
    refine (big_no _ _ _ _ (by omega)).mono ?_
    rintro e w' ⟨rfl, rfl⟩
    go_wp2_with fail
    refine (drawHolds1 c _ hin).mono ?_
    rintro e w1 ⟨op, x, y, rfl, hop, b1⟩
    obtain ⟨xt, xn, xs⟩ := x
    obtain ⟨yt, yn, ys⟩ := y
    have hop0 := hop.1
    have hop1 := hop.2
    clear hop hin
    have C0 := (held_new w1 ⟨xt, xn, xs⟩ 27).below (below_alloc _ (.cells #[.int .i64 yt, .int .i64 yn, .string ys] 27))
    have C1 := held_new (w1.alloc (.cells #[.int .i64 xt, .int .i64 xn, .string xs] 27)) ⟨yt, yn, ys⟩ 27
    rw [World.size_alloc] at C1
    have B2 := below_then b1 (below_alloc2 w1 (.cells #[.int .i64 xt, .int .i64 xn, .string xs] 27) (.cells #[.int .i64 yt, .int .i64 yn, .string ys] 27)) b1.size
    generalize hw2 : (w1.alloc (.cells #[.int .i64 xt, .int .i64 xn, .string xs] 27)).alloc (.cells #[.int .i64 yt, .int .i64 yn, .string ys] 27) = w2 at C0 C1 B2
    have HW2 := Lib.hid hw2
    generalize hqq : w1.heap.size = q at C0 C1
    have HQQ := Lib.hid hqq
    have HK : Hid (∀ W, Below w2.heap.size w2 W → W.cell? ⟨q, 0, none⟩ = some (.int .i64 xt) ∧ W.cell? ⟨q, 1, none⟩ = some (.int .i64 xn) ∧ W.cell? ⟨q, 2, none⟩ = some (.string xs) ∧ W.cell? ⟨q + 1, 0, none⟩ = some (.int .i64 yt) ∧ W.cell? ⟨q + 1, 1, none⟩ = some (.int .i64 yn) ∧ W.cell? ⟨q + 1, 2, none⟩ = some (.string ys)) := fun W hW => ⟨(C0.below hW).1.1, (C0.below hW).1.2.1, (C0.below hW).1.2.2, (C1.below hW).1.1, (C1.below hW).1.2.1, (C1.below hW).1.2.2⟩
    have HO := Lib.hid (fun W => iOpposite op W)
    have HSO := Lib.hid (fun W => sOpposite op W)
    have HT := Lib.hid (fun W => iOpText op W)
    have HST := Lib.hid (fun W => sOpText op W)
    have HH := Lib.hid (fun W => iHolds1 op ⟨xt, xn, xs⟩ ⟨yt, yn, ys⟩ W)
    have HSH := Lib.hid (fun W => sHolds1 op ⟨xt, xn, xs⟩ ⟨yt, yn, ys⟩ W)
    have HON := Lib.hid (fun (ho : 1 ≤ op ∧ op ≤ 6) W => iOpposite (oppI op) W)
    have HHN := Lib.hid (fun (ho : 1 ≤ op ∧ op ≤ 6) W => iHolds1 (oppI op) ⟨xt, xn, xs⟩ ⟨yt, yn, ys⟩ W)
    have HEO : Hid (1 ≤ op ∧ op ≤ 6 → oppI (oppI op) = op) := opp_opp
    have HEH : Hid (1 ≤ op ∧ op ≤ 6 → holdsB (oppI op) ⟨xt, xn, xs⟩ ⟨yt, yn, ys⟩ = !(holdsB op ⟨xt, xn, xs⟩ ⟨yt, yn, ys⟩)) := fun ho => holds_opp ho _ _
    have HNO : Hid (¬ (1 ≤ op ∧ op ≤ 6) → oppI op = 0 ∧ holdsB op ⟨xt, xn, xs⟩ ⟨yt, yn, ys⟩ = false) := fun ho => ⟨(op_no ho).1, (op_no ho).2.2.1 _ _⟩
    have hq1 : (oppI op != oppI op) = false := by simp
    have hq2 : ((opT op).toList == (opT op).toList) = true := by simp
    have hq3 : (holdsB op ⟨xt, xn, xs⟩ ⟨yt, yn, ys⟩ != holdsB op ⟨xt, xn, xs⟩ ⟨yt, yn, ys⟩) = false := by simp
    generalize oppI op = n at HO HSO HON HHN HEO HEH HNO hq1
    generalize opT op = t at HT HST hq2
    generalize holdsB op ⟨xt, xn, xs⟩ ⟨yt, yn, ys⟩ = r at HH HSH HEH HNO hq3
    have hB2 := Below.refl w2.heap.size w2
    clear C0 C1 hw2 hqq b1
    go_wp2_with fail
    rw [HW2.out, HQQ.out]
    refine (HO.out _).mono ?_
    rintro e w3 ⟨rfl, b3⟩
    have hB := below_then hB2 b3 hB2.size
    have hB' := hB.drew
    clear b3 hB2 HW2 HQQ HO
    go_wp2
    go_region_held3 (fun W => W.cell? ⟨q, 0, none⟩ = some (.int .i64 xt) ∧ W.cell? ⟨q, 1, none⟩ = some (.int .i64 xn) ∧ W.cell? ⟨q, 2, none⟩ = some (.string xs) ∧ W.cell? ⟨q + 1, 0, none⟩ = some (.int .i64 yt) ∧ W.cell? ⟨q + 1, 1, none⟩ = some (.int .i64 yn) ∧ W.cell? ⟨q + 1, 2, none⟩ = some (.string ys)) (first | exact HK.out _ hB' | exact HK.out _ hB) (first | (go_at_call 24; (with_reducible refine (HSO.out _).mono ?_); rintro e w2 ⟨rfl, hb2⟩; replace hB' := below_then hB' hb2 hB'.size) | (go_at_call 25; (with_reducible refine (HT.out _).mono ?_); rintro e w2 ⟨rfl, hb2⟩; replace hB' := below_then hB' hb2 hB'.size) | (go_at_call 26; (with_reducible refine (HST.out _).mono ?_); rintro e w2 ⟨rfl, hb2⟩; replace hB' := below_then hB' hb2 hB'.size) | (go_at_call 21; (with_reducible refine (HH.out _).mono ?_); rintro e w2 ⟨rfl, hb2⟩; replace hB' := below_then hB' hb2 hB'.size) | (go_at_call 27; (with_reducible refine (HSH.out _).mono ?_); rintro e w2 ⟨rfl, hb2⟩; replace hB' := below_then hB' hb2 hB'.size))
    all_goals
      clear HSO HT HST HSH hq1 hq2 hq3 hB
      have hB := hB'
      clear hB'
      by_cases ho : 1 ≤ op ∧ op ≤ 6
      · have ho1 : ¬ (op < 1) := by omega
        have ho2 : ¬ (6 < op) := by omega
        have HN2 := Lib.hid (HON.out ho)
        have HH2 := Lib.hid (HHN.out ho)
        rw [HEO.out ho] at HN2
        rw [HEH.out ho] at HH2
        have hoo : (op == op) = true := by simp
        have hrr : (r != !r) = true := by cases r <;> rfl
        clear HON HHN HEO HEH HNO
        go_wp2
        have hB' := hB.drew
        go_region_held3 (fun W => W.cell? ⟨q, 0, none⟩ = some (.int .i64 xt) ∧ W.cell? ⟨q, 1, none⟩ = some (.int .i64 xn) ∧ W.cell? ⟨q, 2, none⟩ = some (.string xs) ∧ W.cell? ⟨q + 1, 0, none⟩ = some (.int .i64 yt) ∧ W.cell? ⟨q + 1, 1, none⟩ = some (.int .i64 yn) ∧ W.cell? ⟨q + 1, 2, none⟩ = some (.string ys)) (first | exact HK.out _ hB' | exact HK.out _ hB) (first | (go_at_call 23; (with_reducible refine (HN2.out _).mono ?_); rintro e w2 ⟨rfl, hb2⟩; replace hB' := below_then hB' hb2 hB'.size) | (go_at_call 21; (with_reducible refine (HH.out _).mono ?_); rintro e w2 ⟨rfl, hb2⟩; replace hB' := below_then hB' hb2 hB'.size) | (go_at_call 21; (with_reducible refine (HH2.out _).mono ?_); rintro e w2 ⟨rfl, hb2⟩; replace hB' := below_then hB' hb2 hB'.size))
        all_goals
          have B9 := below_then B2 hB' B2.size
          go_wp2
          go_ret
          exact ⟨rfl, B9⟩
      · obtain ⟨hn0, hr0⟩ := HNO.out ho
        subst hn0 hr0
        clear HON HHN HEO HEH HNO
        obtain ⟨c0, c1, c2, d0, d1, d2⟩ := HK.out _ hB
        have ho3 : op < 1 ∨ 6 < op := by omega
        rcases ho3 with ho3 | ho3
        · clear ho
          go_wp2_with fail
          refine (HH.out _).mono ?_
          rintro e w9 ⟨rfl, b9⟩
          have B9 := below_then (below_then B2 hB B2.size) b9 (by have := B2.size; have := hB.size; omega)
          go_wp2
          go_ret
          exact ⟨rfl, B9⟩
        · have ho4 : ¬ (op < 1) := by omega
          clear ho
          go_wp2_with fail
          refine (HH.out _).mono ?_
          rintro e w9 ⟨rfl, b9⟩
          have B9 := below_then (below_then B2 hB B2.size) b9 (by have := B2.size; have := hB.size; omega)
          go_wp2
          go_ret
          exact ⟨rfl, B9⟩

end Go.Proofs.Ytcokmjdehclhkaa
