/- Texts of this claim, one behind the other: Draw, DrawInt, DrawOne, DrawMore, Law0. -/
import Derived.Test.YtkofafefnlommaaP4
import Derived.Test.YtkofafefnlommaaP2
import Derived.OpenShut
import Derived.Test.YtkofafefnlommaaP3

/- The contracts of the model's drawing functions: the cursor over the code's bytes. -/
namespace Go.Proofs.Ytkofafefnlommaa
open Go.RowKit

/-- The code that a law is handed. -/
structure Code where
  a : Option Addr
  len : Nat
  cap : Nat
  zs : List Int
/-- The code reads as its bytes in w. -/
structure Code.In (c : Code) (w : World) : Prop where
  arg : Arg .u8 w c.a c.len c.zs
  byt : Num.Bytes c.zs
  small : c.len ≤ 1048576
/-- Block g holds a cursor over the code. -/
def Cur (c : Code) (g : Nat) (w : World) : Prop :=
  c.In w ∧ (∀ x, c.a = some x → 0 < c.len → x.block ≠ g) ∧
  ∃ i h : Int, w.heap[g]? = some (.cells #[.slice c.a c.len c.cap, .int .i64 i, .int .i64 h] 83 (0, 0)) ∧ 0 ≤ i ∧ i ≤ c.len ∧ -9223372036854775808 ≤ h ∧ h ≤ 9223372036854775807

theorem and_low (x : Int) (m : Nat) (hm : m < 9223372036854775808) : 0 ≤ bits .and .i64 x (m : Int) ∧ bits .and .i64 x (m : Int) ≤ m := by
  have e : bits .and .i64 x (m : Int) = IntKind.i64.wrap ((BitVec.ofInt 64 x &&& BitVec.ofInt 64 (m : Int)).toNat : Int) := rfl
  have h : (BitVec.ofInt 64 x &&& BitVec.ofInt 64 (m : Int)).toNat ≤ m := by
    rw [BitVec.toNat_and, ofInt_u64 m (by omega)]
    exact Nat.and_le_right
  rw [e, IntWalk.i64_in _ (by omega)]
  omega
theorem wrap64_bd (n : Int) : -9223372036854775808 ≤ wrap64 n ∧ wrap64 n ≤ 9223372036854775807 := by
  unfold wrap64; omega

set_option maxRecDepth 100000 in
set_option maxHeartbeats 400000 in
theorem l1New (c : Code) (w : World) (hin : c.In w) :
    Calls Try.prog 36 #[.slice c.a c.len c.cap] w fun e w' => e = .returned (.pointer (some ⟨w.heap.size, 0, none⟩)) ∧ Cur c w.heap.size w' ∧ Below w.heap.size w w' := by
  have hin0 := hin
  obtain ⟨a, len, cap, zs⟩ := c
  obtain ⟨⟨hz, ha⟩, hby, hsm⟩ := hin
  simp only at *
  have HZ := Lib.hid hz
  clear hz
  have hend : ∀ h : Int, -9223372036854775808 ≤ h → h ≤ 9223372036854775807 → Cur ⟨a, len, cap, zs⟩ w.heap.size (w.alloc (.cells #[.slice a len cap, .int .i64 0, .int .i64 h] 83)) := by
    intro h h0 h1
    refine ⟨⟨hin0.arg.below (below_alloc w _), hin0.byt, hin0.small⟩, ?_, 0, h, heap_alloc_new w _, by omega, by simp, h0, h1⟩
    intro x hx hl
    rcases ha with h0 | ⟨b, off, rfl, hc⟩
    · simp only at hl; omega
    · simp at hx
      subst hx
      have := lt_of_cell (hc 0 (by omega))
      simp only at this ⊢
      omega
  have HE := Lib.hid hend
  clear hend hin0
  rcases ha with h0 | ⟨b, off, rfl, hc⟩
  · subst h0
    go_enter Try.func36, Try.ntmps36
    go_wp2
    refine wp_loop_rounds 1 ?_
    rw [rounds_succ]
    go_wp2
    go_ret
    exact ⟨rfl, HE.out _ (by omega) (by omega), below_alloc w _⟩
  · go_enter Try.func36, Try.ntmps36
    go_wp2
    go_loop [3, 4] (fun t i => ∃ (k : Nat) (h : Int), k ≤ len ∧ k ≤ 4000 ∧ i = .int .i64 k ∧ t = .int .i64 h ∧ 0 ≤ h ∧ h ≤ 1073741823) (fun _ i => 4000 - (intOf i).toNat)
    case atStart => exact ⟨0, _, Nat.zero_le _, by omega, rfl, rfl, by omega, by omega⟩
    case round =>
      obtain ⟨k, h, hk, hk4, rfl, rfl, hh0, hh1⟩ := hrel
      by_cases hlt : k < len
      · have hcx : w.cell? ⟨b, off + k, none⟩ = some (.int .u8 (zs.getD k 0)) := hc k hlt
        have hcb := hby (zs.getD k 0) (by simp [HZ.out, hlt])
        generalize zs.getD k 0 = z at hcx hcb
        clear hc
        obtain ⟨hz0, hz1⟩ := hcb
        by_cases hl4 : k < 4000
        · have hb := and_low (h * 137 + z + 11) 1073741823 (by omega)
          have HB := Lib.hid hb
          clear hb
          go_wp2
          go_round
          case rel => exact ⟨k + 1, _, by omega, by omega, by go_num, rfl, HB.out.1, HB.out.2⟩
          case measure => simp [intOf]; omega
        · go_wp2
          go_ret
          exact ⟨rfl, HE.out _ (by omega) (by omega), below_alloc w _⟩
      · go_wp2
        go_ret
        exact ⟨rfl, HE.out _ (by omega) (by omega), below_alloc w _⟩

theorem Code.In.grown {c : Code} {g : Nat} {w w' : World} (h : c.In w) (hne : ∀ x, c.a = some x → 0 < c.len → x.block ≠ g) (hg : w.grownBy w' (some g)) : c.In w' := by
  refine ⟨⟨h.arg.1, ?_⟩, h.byt, h.small⟩
  rcases h.arg.2 with h0 | ⟨b, off, ha, hc⟩
  · exact .inl h0
  · by_cases h0 : c.len = 0
    · exact .inl h0
    · refine .inr ⟨b, off, ha, fun i hi => ?_⟩
      rw [World.cell?_of_block (w := w) (hg.block b (lt_of_cell (hc i hi)) (fun e => hne _ ha (by omega) (by simpa using e)))]
      exact hc i hi
theorem grownBy_setCell (w : World) (g o : Nat) (v : Value) : w.grownBy (w.setCell ⟨g, o, none⟩ v) (some g) :=
  ⟨rfl, rfl, rfl, by simp [World.setCell], fun k _ hk => Below.heap_setCell w _ _ k (fun e => hk (by simp [e]))⟩
theorem grownBy_drewN (w : World) (n : Nat) (row : Option Nat) : w.grownBy (w.drewN n) row := ⟨rfl, rfl, rfl, Nat.le_refl _, fun _ _ _ => rfl⟩

theorem cur_set2 {w : World} {g : Nat} {s i h x : Value} {t : TypeId} (hg : w.heap[g]? = some (.cells #[s, i, h] t (0, 0))) : (w.setCell ⟨g, 2, none⟩ x).heap[g]? = some (.cells #[s, i, x] t (0, 0)) :=
  (heap_setCell_same w g 2 _ t x hg).trans rfl
theorem cur_set1 {w : World} {g : Nat} {s i h x : Value} {t : TypeId} (hg : w.heap[g]? = some (.cells #[s, i, h] t (0, 0))) : (w.setCell ⟨g, 1, none⟩ x).heap[g]? = some (.cells #[s, x, h] t (0, 0)) :=
  (heap_setCell_same w g 1 _ t x hg).trans rfl
theorem getD_mem' {zs : List Int} {k : Nat} (h : k < zs.length) : zs.getD k 0 ∈ zs := by simp [h]

set_option maxHeartbeats 1000000 in
theorem l1Byte (c : Code) (g : Nat) (w : World) (hcur : Cur c g w) :
    Calls Try.prog 62 #[.pointer (some ⟨g, 0, none⟩)] w fun e w' => ∃ x : Int, e = .returned (.int .i64 x) ∧ 0 ≤ x ∧ x ≤ 255 ∧ Cur c g w' ∧ w.grownBy w' (some g) := by
  obtain ⟨hin, hne, i, h, hg, hi0, hi1, hh0, hh1⟩ := hcur
  have hin0 := hin
  have hne0 := hne
  obtain ⟨a, len, cap, zs⟩ := c
  obtain ⟨⟨hz, ha⟩, hby, hsm⟩ := hin
  simp only at *
  have c0 : w.cell? ⟨g, 0, none⟩ = some (.slice a len cap) := cell_of_row w g 0 _ _ (0, 0) hg
  have c1 : w.cell? ⟨g, 1, none⟩ = some (.int .i64 i) := cell_of_row w g 1 _ _ (0, 0) hg
  have c2 : w.cell? ⟨g, 2, none⟩ = some (.int .i64 h) := cell_of_row w g 2 _ _ (0, 0) hg
  have f1 : w.frozen? ⟨g, 1, none⟩ = false := frozen_of_row w g 1 _ _ hg
  have f2 : w.frozen? ⟨g, 2, none⟩ = false := frozen_of_row w g 2 _ _ hg
  clear hz
  have hb64 := wrap64_bd (wrap64 (h * 6364136223846793005) + 1442695040888963407)
  generalize hH : wrap64 (wrap64 (h * 6364136223846793005) + 1442695040888963407) = H at hb64
  have HH := Lib.hid hH
  clear hH
  have hg1 := cur_set2 (x := .int .i64 H) hg
  have hgb1 := grownBy_setCell w g 2 (.int .i64 H)
  by_cases hlt : i < len
  · rcases ha with h0 | ⟨b, off, rfl, hc⟩
    · omega
    · obtain ⟨k, rfl⟩ := Int.eq_ofNat_of_zero_le hi0
      have hkl : k < len := by omega
      have hbg : b ≠ g := hne _ rfl (by omega)
      have hcx : w.cell? ⟨b, off + k, none⟩ = some (.int .u8 (zs.getD k 0)) := hc k hkl
      have hcb := hby (zs.getD k 0) (getD_mem' (by have := hin0.arg.1; simp only at this; omega))
      generalize zs.getD k 0 = z at hcx hcb
      obtain ⟨hz0, hz1⟩ := hcb
      have hcx1 : (w.setCell ⟨g, 2, none⟩ (.int .i64 H)).cell? ⟨b, off + k, none⟩ = some (.int .u8 z) := (World.cell?_of_block (w := w) (hgb1.block b (lt_of_cell hcx) (fun e => hbg (by simpa using e)))).trans hcx
      clear hc hne hcx
      have hh := HH.out
      clear HH
      go_enter Try.func62, Try.ntmps62
      go_wp2
      go_quiet (fail)
      go_wp2
      go_quiet (fail)
      go_wp2
      go_quiet (fail)
      go_wp2
      go_ret
      have hfin : ∀ n, w.grownBy (((w.setCell ⟨g, 2, none⟩ (.int .i64 H)).drewN n).setCell ⟨g, 1, none⟩ (.int .i64 ((k : Int) + 1))) (some g) := fun n => (hgb1.trans (grownBy_drewN _ n _)).trans (grownBy_setCell _ g 1 _)
      refine ⟨_, rfl, (and_low _ 255 (by omega)).1, (and_low _ 255 (by omega)).2, ?_, hfin _⟩
      exact ⟨hin0.grown hne0 (hfin _), hne0, (k : Int) + 1, H, cur_set1 hg1, by omega, by simp only; omega, hb64.1, hb64.2⟩
  · clear ha
    have hh := HH.out
    clear HH
    go_enter Try.func62, Try.ntmps62
    go_wp2
    go_quiet (fail)
    go_wp2
    go_quiet (fail)
    go_wp2
    go_ret
    have hfin : ∀ n m, w.grownBy (((w.setCell ⟨g, 2, none⟩ (.int .i64 H)).drewN n).drewN m) (some g) := fun n m => (hgb1.trans (grownBy_drewN _ n _)).trans (grownBy_drewN _ m _)
    refine ⟨_, rfl, (and_low _ 255 (by omega)).1, (and_low _ 255 (by omega)).2, ?_, hfin _ _⟩
    exact ⟨hin0.grown hne0 (hfin _ _), hne0, i, H, hg1, hi0, hi1, hb64.1, hb64.2⟩

end Go.Proofs.Ytkofafefnlommaa

/- The contracts of the model's functions that draw integers: l1Below, l1Once, l1Int, l1Odd, l1Raw, l1Num, l1One. -/
namespace Go.Proofs.Ytkofafefnlommaa
open Go.RowKit

/-- An integer with P is returned; the cursor goes on; nothing else of old memory has turned. -/
def DrewInt (c : Code) (g : Nat) (w : World) (P : Int → Prop) (e : Ending) (w' : World) : Prop :=
  ∃ x : Int, e = .returned (.int .i64 x) ∧ P x ∧ Cur c g w' ∧ w.grownBy w' (some g)

/-- x is an int of the language. -/
structure I64 (x : Int) : Prop where
  lo : -9223372036854775808 ≤ x
  hi : x ≤ 9223372036854775807

theorem Cur.alloc {c : Code} {g : Nat} {w : World} (h : Cur c g w) (o : Obj) : Cur c g (w.alloc o) := by
  obtain ⟨hin, hne, i, x, hg, r⟩ := h
  have hlt : g < w.heap.size := (Array.getElem?_eq_some_iff.1 hg).1
  exact ⟨⟨hin.arg.below (below_alloc w o), hin.byt, hin.small⟩, hne, i, x, by rw [Below.heap_alloc w o g hlt]; exact hg, r⟩
theorem Cur.lt {c : Code} {g : Nat} {w : World} (h : Cur c g w) : g < w.heap.size := by
  obtain ⟨hin, hne, i, x, hg, r⟩ := h
  exact (Array.getElem?_eq_some_iff.1 hg).1
theorem Cur.below {c : Code} {g : Nat} {w w' : World} (h : Cur c g w) (hb : Below w.heap.size w w') : Cur c g w' := by
  have hlt := h.lt
  obtain ⟨hin, hne, i, x, hg, r⟩ := h
  exact ⟨⟨hin.arg.below hb, hin.byt, hin.small⟩, hne, i, x, by rw [hb.block g hlt]; exact hg, r⟩
theorem Cur.grown {c : Code} {g : Nat} {w w' : World} {row : Option Nat} (h : Cur c g w) (hg : w.grownBy w' row) (hr : ∀ k, row = some k → k ≠ g ∧ ∀ x, c.a = some x → 0 < c.len → x.block ≠ k) : Cur c g w' := by
  have hlt := h.lt
  obtain ⟨hin, hne, i, x, hh, r⟩ := h
  refine ⟨?_, hne, i, x, by rw [hg.block g hlt (fun e => (hr g e.symm).1 rfl)]; exact hh, r⟩
  cases row with
  | none => exact ⟨hin.arg.below (below_of_grown hg), hin.byt, hin.small⟩
  | some k => exact hin.grown (hr k rfl).2 hg
theorem grownBy_below {w w' : World} (h : Below w.heap.size w w') (row : Option Nat) : w.grownBy w' row := ⟨h.os, h.tape, h.output, h.size, fun k hk _ => h.block k hk⟩
theorem grownBy_alloc (w : World) (o : Obj) (row : Option Nat) : w.grownBy (w.alloc o) row := grownBy_below (below_alloc w o) row

set_option maxHeartbeats 400000 in
theorem l1Below (c : Code) (g : Nat) (n : Int) (w : World) (h : Cur c g w) :
    Calls Try.prog 39 #[.pointer (some ⟨g, 0, none⟩), .int .i64 n] w (DrewInt c g w fun x => 0 ≤ x ∧ (x < n ∨ x = 0)) := by
  by_cases hn : n ≤ 0
  · go_enter Try.func39, Try.ntmps39
    go_wp2
    go_ret
    exact ⟨_, rfl, ⟨by omega, .inr rfl⟩, h, grownBy_refl _ _⟩
  · have hn0 : (n == 0) = false := by simp; omega
    by_cases h256 : n ≤ 256
    · go_enter Try.func39, Try.ntmps39
      go_wp2_with (go_at_call 62; refine (l1Byte c g _ h).mono ?_; rintro e w1 ⟨x, rfl, hx0, hx1, hc1, hg1⟩)
      go_ret
      refine ⟨_, rfl, ⟨?_, .inl ?_⟩, hc1, hg1⟩
      · exact Int.emod_nonneg _ (by omega)
      · exact Int.emod_lt_of_pos _ (by omega)
    · go_enter Try.func39, Try.ntmps39
      go_wp2_with fail
      refine (l1Byte c g _ h).mono ?_
      rintro e w1 ⟨x, rfl, hx0, hx1, hc1, hg1⟩
      go_wp2_with fail
      refine (l1Byte c g _ hc1).mono ?_
      rintro e w2 ⟨y, rfl, hy0, hy1, hc2, hg2⟩
      go_wp2_with fail
      refine (l1Byte c g _ hc2).mono ?_
      rintro e w3 ⟨z, rfl, hz0, hz1, hc3, hg3⟩
      go_wp2
      go_ret
      refine ⟨_, rfl, ⟨?_, .inl ?_⟩, hc3, (hg1.trans hg2).trans hg3⟩
      · exact Int.emod_nonneg _ (by omega)
      · exact Int.emod_lt_of_pos _ (by omega)

theorem l1Once (c : Code) (g : Nat) (n : Int) (w : World) (h : Cur c g w) :
    Calls Try.prog 42 #[.pointer (some ⟨g, 0, none⟩), .int .i64 n] w fun e w' => ∃ b : Bool, e = .returned (.bool b) ∧ Cur c g w' ∧ w.grownBy w' (some g) := by
  go_enter Try.func42, Try.ntmps42
  go_wp2_with fail
  refine (l1Below c g n _ h).mono ?_
  rintro e w1 ⟨x, rfl, hx, hc1, hg1⟩
  go_wp2
  go_ret
  exact ⟨_, rfl, hc1, hg1⟩

set_option maxHeartbeats 400000 in
theorem l1Int (c : Code) (g : Nat) (v : Value) (m : Nat) (l : List Int) (w : World) (hm : l.length = m) (h0 : 0 < m) (hv : At 1 w v m (ints .i64 l)) (hne : v.ownBlock ≠ some g) (h : Cur c g w) :
    Calls Try.prog 61 #[.pointer (some ⟨g, 0, none⟩), v] w (DrewInt c g w fun x => x ∈ l) := by
  have hva := hv
  obtain ⟨b, off, cap, rfl, h1, h2, h3, hc⟩ := hv
  unfold maxLen at h2
  go_enter Try.func61, Try.ntmps61
  go_wp2_with fail
  refine (l1Below c g _ _ h).mono ?_
  rintro e w1 ⟨x, rfl, hx, hc1, hg1⟩
  obtain ⟨k, rfl⟩ := Int.eq_ofNat_of_zero_le hx.1
  have hk : k < m := by omega
  have hbg : b ≠ g := by simpa [Value.ownBlock] using hne
  have hcx : w.cell? ⟨b, off + k, none⟩ = some (.int .i64 (l.getD k 0)) := At.cell hc hm hk
  have hcx1 : w1.cell? ⟨b, off + k, none⟩ = some (.int .i64 (l.getD k 0)) := (World.cell?_of_block (w := w) (hg1.block b (lt_of_cell hcx) (fun e => hbg (by simpa using e)))).trans hcx
  have hmem : Hid (l.getD k 0 ∈ l) := getD_mem' (by omega)
  generalize l.getD k 0 = z at hcx1 hmem
  clear hcx hc hva hx h3
  go_wp2
  go_ret
  exact ⟨_, rfl, hmem.out, hc1, hg1⟩

theorem lit_at (w : World) (l : List Int) (n : Nat) (hn : l.length = n) (hm : n ≤ 1000) : At 1 (w.alloc (.cells (ints .i64 l).toArray 3)) (.slice (some ⟨w.heap.size, 0, none⟩) n n) n (ints .i64 l) := by
  have := own_lit (e := 3) (size := 1) w (ints .i64 l).toArray n (by unfold maxLen; omega) (by simp [ints, hn])
  simpa using this.at

/-- An integer drawn from a literal list that has just been laid. -/
theorem l1IntLit (c : Code) (g : Nat) (l : List Int) (n : Nat) (w : World) (hn : l.length = n) (h0 : 0 < n) (hm : n ≤ 1000) (h : Cur c g w) (arr : Array Value) (ha : arr = (ints .i64 l).toArray) :
    Calls Try.prog 61 #[.pointer (some ⟨g, 0, none⟩), .slice (some ⟨w.heap.size, 0, none⟩) n n] (w.alloc (.cells arr 3)) (DrewInt c g w fun x => x ∈ l) := by
  subst ha
  refine (l1Int c g _ n l _ hn h0 (lit_at w l n hn hm) ?_ (h.alloc _)).mono ?_
  · have := h.lt
    simp [Value.ownBlock]
    omega
  · rintro e w1 ⟨x, rfl, hx, hc1, hg1⟩
    exact ⟨x, rfl, hx, hc1, (grownBy_alloc w _ _).trans hg1⟩

/-- l1IntLit, the new block's number spelled by itself. -/
theorem l1IntLitAt (c : Code) (g N : Nat) (l : List Int) (n : Nat) (w : World) (hN : w.heap.size = N) (hn : l.length = n) (h0 : 0 < n) (hm : n ≤ 1000) (h : Cur c g w) (arr : Array Value) (ha : arr = (ints .i64 l).toArray) :
    Calls Try.prog 61 #[.pointer (some ⟨g, 0, none⟩), .slice (some ⟨N, 0, none⟩) n n] (w.alloc (.cells arr 3)) (DrewInt c g w fun x => x ∈ l) := by
  subst hN
  exact l1IntLit c g l n w hn h0 hm h arr ha

set_option maxHeartbeats 400000 in
theorem l1Odd (c : Code) (g : Nat) (w : World) (h : Cur c g w) :
    Calls Try.prog 93 #[.pointer (some ⟨g, 0, none⟩)] w (DrewInt c g w I64) := by
  go_enter Try.func93, Try.ntmps93
  go_wp2_with fail
  refine (l1IntLit c g [-1, 0, 1, 2, 255, 256, 65535, 2147483647, 2147483648, 4294967295, 4294967296, -2147483648, 9223372036854775807, -9223372036854775808] 14 w rfl (by omega) (by omega) h _ rfl).mono ?_
  rintro e w1 ⟨x, rfl, hx, hc1, hg1⟩
  have H := Lib.hid (I64.mk ((by decide +kernel : ∀ x ∈ ([-1, 0, 1, 2, 255, 256, 65535, 2147483647, 2147483648, 4294967295, 4294967296, -2147483648, 9223372036854775807, -9223372036854775808] : List Int), -9223372036854775808 ≤ x) x hx) ((by decide +kernel : ∀ x ∈ ([-1, 0, 1, 2, 255, 256, 65535, 2147483647, 2147483648, 4294967295, 4294967296, -2147483648, 9223372036854775807, -9223372036854775808] : List Int), x ≤ 9223372036854775807) x hx))
  clear hx
  go_wp2
  go_ret
  exact ⟨_, rfl, H.out, hc1, hg1⟩

end Go.Proofs.Ytkofafefnlommaa

/- The contracts of l1Raw, l1Num, l1One. -/
namespace Go.Proofs.Ytkofafefnlommaa
open Go.RowKit

set_option maxHeartbeats 400000 in
theorem l1Raw (c : Code) (g : Nat) (w : World) (h : Cur c g w) :
    Calls Try.prog 85 #[.pointer (some ⟨g, 0, none⟩)] w (DrewInt c g w I64) := by
  go_enter Try.func85, Try.ntmps85
  go_wp2_with fail
  refine (l1Once c g _ _ h).mono ?_
  rintro e w1 ⟨b, rfl, hc1, hg1⟩
  cases b with
  | true =>
    go_wp2_with fail
    refine (l1Odd c g _ hc1).mono ?_
    rintro e w2 ⟨x, rfl, H, hc2, hg2⟩
    go_wp2
    go_ret
    exact ⟨_, rfl, H, hc2, hg1.trans hg2⟩
  | false =>
    go_wp2_with fail
    refine (l1IntLit c g [1000000001, -1000000001, 2000000000, 2000000001, 0, -1] 6 w1 rfl (by omega) (by omega) hc1 _ rfl).mono ?_
    rintro e w2 ⟨x, rfl, hx, hc2, hg2⟩
    have H := Lib.hid (I64.mk ((by decide +kernel : ∀ x ∈ ([1000000001, -1000000001, 2000000000, 2000000001, 0, -1] : List Int), -9223372036854775808 ≤ x) x hx) ((by decide +kernel : ∀ x ∈ ([1000000001, -1000000001, 2000000000, 2000000001, 0, -1] : List Int), x ≤ 9223372036854775807) x hx))
    clear hx
    go_wp2
    go_ret
    exact ⟨_, rfl, H.out, hc2, hg1.trans hg2⟩

set_option maxHeartbeats 1000000 in
theorem l1Num (c : Code) (g : Nat) (w : World) (h : Cur c g w) :
    Calls Try.prog 77 #[.pointer (some ⟨g, 0, none⟩)] w (DrewInt c g w I64) := by
  go_enter Try.func77, Try.ntmps77
  go_wp2_with fail
  refine (l1Below c g _ _ h).mono ?_
  rintro e w1 ⟨x, rfl, hx, hc1, hg1⟩
  have hx5 : x < 5 := by omega
  obtain ⟨hx0, _⟩ := hx
  by_cases e0 : x = 0
  · subst e0
    go_wp2_with fail
    refine (l1Below c g _ _ hc1).mono ?_
    rintro e w2 ⟨y, rfl, hy, hc2, hg2⟩
    go_wp2
    go_ret
    exact ⟨_, rfl, ⟨by omega, by omega⟩, hc2, hg1.trans hg2⟩
  · have b0 : (x == 0) = false := by simp [e0]
    by_cases e1 : x = 1
    · subst e1
      go_wp2_with fail
      refine (l1IntLit c g [0, -1, 1, 63, 64, -64, -65, 8191, 8192, 1000000000, -1000000000, 999999999] 12 w1 rfl (by omega) (by omega) hc1 _ rfl).mono ?_
      rintro e w2 ⟨y, rfl, hy, hc2, hg2⟩
      have H := Lib.hid (I64.mk ((by decide +kernel : ∀ x ∈ ([0, -1, 1, 63, 64, -64, -65, 8191, 8192, 1000000000, -1000000000, 999999999] : List Int), -9223372036854775808 ≤ x) y hy) ((by decide +kernel : ∀ x ∈ ([0, -1, 1, 63, 64, -64, -65, 8191, 8192, 1000000000, -1000000000, 999999999] : List Int), x ≤ 9223372036854775807) y hy))
      clear hy
      go_wp2
      go_ret
      exact ⟨_, rfl, H.out, hc2, hg1.trans hg2⟩
    · have b1 : (x == 1) = false := by simp [e1]
      by_cases e2 : x = 2
      · subst e2
        go_wp2_with fail
        refine (l1Below c g _ _ hc1).mono ?_
        rintro e w2 ⟨y, rfl, hy, hc2, hg2⟩
        go_wp2_with fail
        refine (l1Below c g _ _ hc2).mono ?_
        rintro e w3 ⟨z, rfl, hz, hc3, hg3⟩
        go_wp2
        go_ret
        exact ⟨_, rfl, ⟨(wrap64_bd _).1, (wrap64_bd _).2⟩, hc3, (hg1.trans hg2).trans hg3⟩
      · have b2 : (x == 2) = false := by simp [e2]
        clear e0 e1 e2
        go_wp2_with fail
        refine (l1Below c g _ _ hc1).mono ?_
        rintro e w2 ⟨y, rfl, hy, hc2, hg2⟩
        go_wp2
        go_ret
        exact ⟨_, rfl, ⟨by omega, by omega⟩, hc2, hg1.trans hg2⟩

/-- From a new cursor on: what was there before is untouched. -/
theorem below_cur {w w1 w2 : World} (hb : Below w.heap.size w w1) (hg : w1.grownBy w2 (some w.heap.size)) : Below w.heap.size w w2 :=
  hb.grown hg hb.size (by simp)

end Go.Proofs.Ytkofafefnlommaa

/- The contracts of l1Nums, l1Bytes, DrawZigZag, DrawZagZig, DrawPutNum, DrawPutNums. -/
namespace Go.Proofs.Ytkofafefnlommaa
open Go.RowKit

/-- An owned slice is not the cursor's block, and outlives a draw. -/
theorem Own.draw {e size lo hi w w' v n xs} {g : Nat} (h : Own e size lo hi w v n xs) (hg : w.grownBy w' (some g)) (hlt : g < lo) : Own e size lo hi w' v n xs :=
  h.grown hg (fun k hk => by simp at hk; omega)
theorem Cur.own {c : Code} {g lo hi : Nat} {e size w w' v v' n xs} (h : Cur c g w) (ho : Own e size lo hi w v n xs) (hx : Ext w w' v v') (hlt : g < lo) (ha : ∀ x, c.a = some x → 0 < c.len → x.block < lo) : Cur c g w' := by
  refine h.grown hx.grown (fun k hk => ?_)
  have := ho.block k hk
  exact ⟨by omega, fun x hx hl => by have := ha x hx hl; omega⟩
theorem Code.In.lt {c : Code} {w : World} (h : c.In w) : ∀ x, c.a = some x → 0 < c.len → x.block < w.heap.size := by
  intro x hx hl
  rcases h.arg.2 with h0 | ⟨b, off, ha, hc⟩
  · omega
  · rw [ha] at hx
    simp at hx
    subst hx
    exact lt_of_cell (hc 0 hl)

/-- A drawn slice of bytes. -/
def DrewBytes (c : Code) (g : Nat) (m : Nat) (w : World) (e : Ending) (w' : World) : Prop :=
  ∃ (v : Value) (zs : List Int), e = .returned v ∧ Num.Bytes zs ∧ zs.length ≤ m ∧ Own 5 1 w.heap.size w'.heap.size w' v zs.length (ints .u8 zs) ∧ Cur c g w' ∧ w.grownBy w' (some g)

theorem ext_grown {w w1 w2 : World} {v v' : Value} {g : Nat} {e size lo hi n xs} (h : w.grownBy w1 (some g)) (ho : Own e size lo hi w1 v n xs) (hl : w.heap.size ≤ lo) (hx : Ext w1 w2 v v') : w.grownBy w2 (some g) := by
  have hs := h.size
  refine ⟨hx.grown.os.trans h.os, hx.grown.tape.trans h.tape, hx.grown.output.trans h.output, Nat.le_trans hs hx.grown.size, fun k hk hne => ?_⟩
  refine (hx.grown.block k (by omega) (fun e => ?_)).trans (h.block k hk hne)
  have := ho.block k e.symm
  omega

/-- A drawn slice of integers. -/
def DrewInts (c : Code) (g : Nat) (m : Nat) (w : World) (e : Ending) (w' : World) : Prop :=
  ∃ (v : Value) (l : List Int), e = .returned v ∧ l.length ≤ m ∧ Own 3 1 w.heap.size w'.heap.size w' v l.length (ints .i64 l) ∧ Cur c g w' ∧ w.grownBy w' (some g)

end Go.Proofs.Ytkofafefnlommaa

/- What the laws share: big, at, a code that stays. -/
namespace Go.Proofs.Ytkofafefnlommaa
open Go.RowKit

theorem big_yes (a : Option Addr) (len cap : Nat) (w : World) (h : 1048576 < len) : Calls Try.prog 8 #[.slice a len cap] w fun e w' => e = .returned (.bool true) ∧ w = w' := by
  go_enter Try.func8, Try.ntmps8
  go_wp2
  go_ret
  exact ⟨ret_bool (decide_eq_true (by omega)), rfl⟩
theorem big_no (a : Option Addr) (len cap : Nat) (w : World) (h : len ≤ 1048576) : Calls Try.prog 8 #[.slice a len cap] w fun e w' => e = .returned (.bool false) ∧ w = w' := by
  go_enter Try.func8, Try.ntmps8
  go_wp2
  go_ret
  exact ⟨ret_bool (decide_eq_false (by omega)), rfl⟩

theorem Code.In.below {c : Code} {w w' : World} (h : c.In w) (hb : Below w.heap.size w w') : c.In w' := ⟨h.arg.below hb, h.byt, h.small⟩
/-- An owned value, its shape laid open. -/
theorem Own.shape {e size lo hi w v n xs} (h : Own e size lo hi w v n xs) : ∃ g cap, v = .slice (some ⟨g, 0, none⟩) n cap := by
  obtain ⟨g, cap, rfl, _⟩ := h
  exact ⟨g, cap, rfl⟩

end Go.Proofs.Ytkofafefnlommaa
