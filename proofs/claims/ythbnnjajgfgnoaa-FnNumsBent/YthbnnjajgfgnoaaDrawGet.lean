/- The contract of DrawGetNum. -/
import Derived.Test.YthbnnjajgfgnoaaBent
import Derived.Test.YthbnnjajgfgnoaaLawNums
namespace Go.Proofs.Ythbnnjajgfgnoaa
open Go.RowKit

/-- The world behind the literal of six slices. -/
def litWorld (w : World) : World := ((((((w.alloc (.cells #[.int .u8 128, .int .u8 0] 5)).alloc (.cells #[.int .u8 255, .int .u8 255, .int .u8 255, .int .u8 255, .int .u8 15] 5)).alloc (.cells #[.int .u8 128, .int .u8 168, .int .u8 214, .int .u8 185, .int .u8 7] 5)).alloc (.cells #[.int .u8 129, .int .u8 168, .int .u8 214, .int .u8 185, .int .u8 7] 5)).alloc (.cells #[.int .u8 128, .int .u8 128, .int .u8 128, .int .u8 128, .int .u8 128, .int .u8 1] 5)).alloc (.cells #[.int .u8 129, .int .u8 128] 5)).alloc (.cells #[.slice (some ⟨w.heap.size, 0, none⟩) 2 2, .slice (some ⟨w.heap.size + 1, 0, none⟩) 5 5, .slice (some ⟨w.heap.size + 1 + 1, 0, none⟩) 5 5, .slice (some ⟨w.heap.size + 1 + 1 + 1, 0, none⟩) 5 5, .slice (some ⟨w.heap.size + 1 + 1 + 1 + 1, 0, none⟩) 6 6, .slice (some ⟨w.heap.size + 1 + 1 + 1 + 1 + 1, 0, none⟩) 2 2] 22)
theorem heap_at {w : World} {o : Obj} {k : Nat} (hk : k = w.heap.size) : (w.alloc o).heap[k]? = some o := by subst hk; exact heap_alloc_new w o
theorem litWorld_below (w : World) : Below w.heap.size w (litWorld w) := by
  unfold litWorld
  repeat (refine Below.alloc ?_ (by simp; try omega) _)
  exact Below.refl _ _
theorem litWorld_size (w : World) : (litWorld w).heap.size = w.heap.size + 7 := by simp [litWorld]
theorem lit_blk0 (w : World) : (litWorld w).heap[w.heap.size]? = some (.cells #[.int .u8 128, .int .u8 0] 5) := by
  unfold litWorld
  rw [Below.heap_alloc _ _ _ (by simp; try omega)]
  rw [Below.heap_alloc _ _ _ (by simp; try omega)]
  rw [Below.heap_alloc _ _ _ (by simp; try omega)]
  rw [Below.heap_alloc _ _ _ (by simp; try omega)]
  rw [Below.heap_alloc _ _ _ (by simp; try omega)]
  rw [Below.heap_alloc _ _ _ (by simp; try omega)]
  exact heap_at (by simp; try omega)
theorem lit_blk1 (w : World) : (litWorld w).heap[w.heap.size + 1]? = some (.cells #[.int .u8 255, .int .u8 255, .int .u8 255, .int .u8 255, .int .u8 15] 5) := by
  unfold litWorld
  rw [Below.heap_alloc _ _ _ (by simp; try omega)]
  rw [Below.heap_alloc _ _ _ (by simp; try omega)]
  rw [Below.heap_alloc _ _ _ (by simp; try omega)]
  rw [Below.heap_alloc _ _ _ (by simp; try omega)]
  rw [Below.heap_alloc _ _ _ (by simp; try omega)]
  exact heap_at (by simp; try omega)
theorem lit_blk2 (w : World) : (litWorld w).heap[w.heap.size + 1 + 1]? = some (.cells #[.int .u8 128, .int .u8 168, .int .u8 214, .int .u8 185, .int .u8 7] 5) := by
  unfold litWorld
  rw [Below.heap_alloc _ _ _ (by simp; try omega)]
  rw [Below.heap_alloc _ _ _ (by simp; try omega)]
  rw [Below.heap_alloc _ _ _ (by simp; try omega)]
  rw [Below.heap_alloc _ _ _ (by simp; try omega)]
  exact heap_at (by simp; try omega)
theorem lit_blk3 (w : World) : (litWorld w).heap[w.heap.size + 1 + 1 + 1]? = some (.cells #[.int .u8 129, .int .u8 168, .int .u8 214, .int .u8 185, .int .u8 7] 5) := by
  unfold litWorld
  rw [Below.heap_alloc _ _ _ (by simp; try omega)]
  rw [Below.heap_alloc _ _ _ (by simp; try omega)]
  rw [Below.heap_alloc _ _ _ (by simp; try omega)]
  exact heap_at (by simp; try omega)
theorem lit_blk4 (w : World) : (litWorld w).heap[w.heap.size + 1 + 1 + 1 + 1]? = some (.cells #[.int .u8 128, .int .u8 128, .int .u8 128, .int .u8 128, .int .u8 128, .int .u8 1] 5) := by
  unfold litWorld
  rw [Below.heap_alloc _ _ _ (by simp; try omega)]
  rw [Below.heap_alloc _ _ _ (by simp; try omega)]
  exact heap_at (by simp; try omega)
theorem lit_blk5 (w : World) : (litWorld w).heap[w.heap.size + 1 + 1 + 1 + 1 + 1]? = some (.cells #[.int .u8 129, .int .u8 128] 5) := by
  unfold litWorld
  rw [Below.heap_alloc _ _ _ (by simp; try omega)]
  exact heap_at (by simp; try omega)
theorem lit_blk6 (w : World) : (litWorld w).heap[w.heap.size + 1 + 1 + 1 + 1 + 1 + 1]? = some (.cells #[.slice (some ⟨w.heap.size, 0, none⟩) 2 2, .slice (some ⟨w.heap.size + 1, 0, none⟩) 5 5, .slice (some ⟨w.heap.size + 1 + 1, 0, none⟩) 5 5, .slice (some ⟨w.heap.size + 1 + 1 + 1, 0, none⟩) 5 5, .slice (some ⟨w.heap.size + 1 + 1 + 1 + 1, 0, none⟩) 6 6, .slice (some ⟨w.heap.size + 1 + 1 + 1 + 1 + 1, 0, none⟩) 2 2] 22) := by
  unfold litWorld
  exact heap_at (by simp; try omega)

theorem lit_cells {w : World} {b : Nat} {l : List Int} {arr : Array Value} {t : TypeId} (h : w.heap[b]? = some (.cells arr t (0, 0))) (ha : arr = (ints .u8 l).toArray := by rfl) : ∀ i u, (ints .u8 l)[i]? = some u → w.cell? ⟨b, 0 + i, none⟩ = some u := by
  intro i u hu
  rw [Nat.zero_add, cell_of_row w b i _ _ (0, 0) h, ha]
  simpa using hu
theorem bytes_app {a b : List Int} (h : Num.Bytes a) (k : Num.Bytes b) : Num.Bytes (a ++ b) := by
  intro y hy
  rw [List.mem_append] at hy
  exact hy.elim (h y) (k y)

/-- What stands before the last choice of the offset. -/
def GetTail (c : Code) (w w' : World) (v : Value) : Prop :=
  ∃ zs : List Int, Num.Bytes zs ∧ zs.length ≤ 1000 ∧ Own 5 1 (w.heap.size + 1) w'.heap.size w' v zs.length (ints .u8 zs) ∧ Cur c w.heap.size w' ∧ Below w.heap.size w w'

set_option maxHeartbeats 4000000 in
theorem drawGetNum (c : Code) (w : World) (h : c.In w) :
    Calls Try.prog 21 #[.slice c.a c.len c.cap] w (DrewPut w) := by
  have hal := h.lt
  go_enter Try.func21, Try.ntmps21
  go_wp2_with fail
  refine (l1New c _ h).mono ?_
  rintro e w1 ⟨rfl, hc1, hb1⟩
  have hlt1 := hc1.lt
  go_wp2_with fail
  refine (l1Below c _ _ _ hc1).mono ?_
  rintro e w2 ⟨x, rfl, hx, hc2, hg2⟩
  have hx3 : x < 3 := by omega
  go_wp2_with fail
  refine (l1Bytes c _ _ _ hx.1 (by omega) hc2).mono ?_
  rintro e w3 ⟨v, zs, rfl, hby, hlen, hown, hc3, hg3⟩
  have hlen2 : zs.length ≤ 2 := by omega
  have hs2 := hg2.size
  have hs3 := hg3.size
  have O3 := hown.lower (lo' := w1.heap.size) (by omega)
  have G3 := hg2.trans hg3
  clear hx hown hg2 hg3 hc1 hc2 hlen
  obtain ⟨n, hn⟩ : ∃ n, zs.length = n := ⟨_, rfl⟩
  rw [hn] at O3 hlen2
  have HN := Lib.hid hn
  clear hn
  obtain ⟨gv, cv, rfl⟩ := O3.shape
  go_wp2_with fail
  refine (l1Once c _ _ _ hc3).mono ?_
  rintro e w4 ⟨b, rfl, hc4, hg4⟩
  have O4 := (O3.draw hg4 (by omega)).wide hg4.size
  have hs4 := hg4.size
  have G0 := G3.trans hg4
  clear O3 G3 hg4 hc3
  cases b with
  | true =>
    have hc4' := hc4.below (litWorld_below w4)
    have O4' := (O4.below (litWorld_below w4) (Nat.le_refl _)).wide (litWorld_below w4).size
    go_wp2_with fail
    refine (l1Below c _ _ (litWorld w4) hc4').mono ?_
    rintro e w5 ⟨y, rfl, hy, C5, g5⟩
    have G5 := (grownBy_below (litWorld_below w4) (some w.heap.size)).trans g5
    have O5 := (O4'.draw g5 (by omega)).wide g5.size
    clear O4 O4' hc4' hc4
    have hy6 : y = 0 ∨ y = 1 ∨ y = 2 ∨ y = 3 ∨ y = 4 ∨ y = 5 := by omega
    clear hy
    rcases hy6 with hxe | hxe | hxe | hxe | hxe | hxe
    · subst hxe
      have k1 : w5.heap[w4.heap.size]? = some (.cells #[.int .u8 128, .int .u8 0] 5) := (g5.block _ (by rw [litWorld_size]; omega) (by simp; omega)).trans (lit_blk0 w4)
      have k2 : w5.heap[w4.heap.size + 1 + 1 + 1 + 1 + 1 + 1]? = some (.cells #[.slice (some ⟨w4.heap.size, 0, none⟩) 2 2, .slice (some ⟨w4.heap.size + 1, 0, none⟩) 5 5, .slice (some ⟨w4.heap.size + 1 + 1, 0, none⟩) 5 5, .slice (some ⟨w4.heap.size + 1 + 1 + 1, 0, none⟩) 5 5, .slice (some ⟨w4.heap.size + 1 + 1 + 1 + 1, 0, none⟩) 6 6, .slice (some ⟨w4.heap.size + 1 + 1 + 1 + 1 + 1, 0, none⟩) 2 2] 22) := (g5.block _ (by rw [litWorld_size]; omega) (by simp; omega)).trans (lit_blk6 w4)
      have hcl : w5.cell? ⟨w4.heap.size + 1 + 1 + 1 + 1 + 1 + 1, 0, none⟩ = some (.slice (some ⟨w4.heap.size, 0, none⟩) 2 2) := cell_of_row w5 _ 0 _ _ (0, 0) k2
      have HC : Hid (∀ i u, (ints .u8 [128, 0])[i]? = some u → w5.cell? ⟨w4.heap.size, 0 + i, none⟩ = some u) := lit_cells k1
      clear k1 k2
      go_wp2_with (at_builtin; refine append_law Try.elemBytes rfl _ _ rfl _ _ _ _ _ rfl O5 (w4.heap.size) 0 2 2 (ints .u8 [128, 0]) rfl rfl HC.out (ints_one _ _) (by unfold maxLen; omega) (by omega) ?_)
      intro v6 w6 O6 e6
      have C6 := C5.own O5 e6 (by omega) (fun a ha hl => by have := hal a ha hl; omega)
      have G6 := ext_grown (G0.trans G5) O5 (Nat.le_refl _) e6
      have R : Hid (GetTail c w w6 v6) := ⟨zs ++ [128, 0], bytes_app hby (by intro y hy; simp at hy; omega), by rw [List.length_append, HN.out]; simp; omega, by rw [List.length_append, HN.out, ints_append]; exact O6.lower (by omega), C6, below_cur hb1 G6⟩
      clear O5 G5 C5 e6 O6 HC hcl C6 G6
      obtain ⟨zs6, hby6, hlen6, O6, C6, B6⟩ := R.out
      clear R
      go_wp2_with fail
      refine (l1Once c _ _ _ C6).mono ?_
      rintro e w7 ⟨b2, rfl, C7, g7⟩
      have O7 := (O6.draw g7 (by omega)).wide g7.size
      have B7 := B6.grown g7 B6.size (by simp)
      cases b2 with
      | true =>
        go_wp2_with fail
        refine (l1IntLit c _ [-1, 0, 7, 8] 4 w7 rfl (by omega) (by omega) C7 _ rfl).mono ?_
        rintro e w8 ⟨y, rfl, hy, C8, g8⟩
        have O8 := (O7.draw g8 (by omega)).wide g8.size
        have B8 := B7.grown g8 B7.size (by simp)
        clear hy
        go_wp2
        go_ret2
        exact ⟨_, zs6, _, rfl, hby6, hlen6, O8.lower (by omega), B8⟩
      | false =>
        go_wp2
        go_ret2
        exact ⟨_, zs6, _, rfl, hby6, hlen6, O7.lower (by omega), B7⟩
    · subst hxe
      have k1 : w5.heap[w4.heap.size + 1]? = some (.cells #[.int .u8 255, .int .u8 255, .int .u8 255, .int .u8 255, .int .u8 15] 5) := (g5.block _ (by rw [litWorld_size]; omega) (by simp; omega)).trans (lit_blk1 w4)
      have k2 : w5.heap[w4.heap.size + 1 + 1 + 1 + 1 + 1 + 1]? = some (.cells #[.slice (some ⟨w4.heap.size, 0, none⟩) 2 2, .slice (some ⟨w4.heap.size + 1, 0, none⟩) 5 5, .slice (some ⟨w4.heap.size + 1 + 1, 0, none⟩) 5 5, .slice (some ⟨w4.heap.size + 1 + 1 + 1, 0, none⟩) 5 5, .slice (some ⟨w4.heap.size + 1 + 1 + 1 + 1, 0, none⟩) 6 6, .slice (some ⟨w4.heap.size + 1 + 1 + 1 + 1 + 1, 0, none⟩) 2 2] 22) := (g5.block _ (by rw [litWorld_size]; omega) (by simp; omega)).trans (lit_blk6 w4)
      have hcl : w5.cell? ⟨w4.heap.size + 1 + 1 + 1 + 1 + 1 + 1, 1, none⟩ = some (.slice (some ⟨w4.heap.size + 1, 0, none⟩) 5 5) := cell_of_row w5 _ 1 _ _ (0, 0) k2
      have HC : Hid (∀ i u, (ints .u8 [255, 255, 255, 255, 15])[i]? = some u → w5.cell? ⟨w4.heap.size + 1, 0 + i, none⟩ = some u) := lit_cells k1
      clear k1 k2
      go_wp2_with (at_builtin; refine append_law Try.elemBytes rfl _ _ rfl _ _ _ _ _ rfl O5 (w4.heap.size + 1) 0 5 5 (ints .u8 [255, 255, 255, 255, 15]) rfl rfl HC.out (ints_one _ _) (by unfold maxLen; omega) (by omega) ?_)
      intro v6 w6 O6 e6
      have C6 := C5.own O5 e6 (by omega) (fun a ha hl => by have := hal a ha hl; omega)
      have G6 := ext_grown (G0.trans G5) O5 (Nat.le_refl _) e6
      have R : Hid (GetTail c w w6 v6) := ⟨zs ++ [255, 255, 255, 255, 15], bytes_app hby (by intro y hy; simp at hy; omega), by rw [List.length_append, HN.out]; simp; omega, by rw [List.length_append, HN.out, ints_append]; exact O6.lower (by omega), C6, below_cur hb1 G6⟩
      clear O5 G5 C5 e6 O6 HC hcl C6 G6
      obtain ⟨zs6, hby6, hlen6, O6, C6, B6⟩ := R.out
      clear R
      go_wp2_with fail
      refine (l1Once c _ _ _ C6).mono ?_
      rintro e w7 ⟨b2, rfl, C7, g7⟩
      have O7 := (O6.draw g7 (by omega)).wide g7.size
      have B7 := B6.grown g7 B6.size (by simp)
      cases b2 with
      | true =>
        go_wp2_with fail
        refine (l1IntLit c _ [-1, 0, 7, 8] 4 w7 rfl (by omega) (by omega) C7 _ rfl).mono ?_
        rintro e w8 ⟨y, rfl, hy, C8, g8⟩
        have O8 := (O7.draw g8 (by omega)).wide g8.size
        have B8 := B7.grown g8 B7.size (by simp)
        clear hy
        go_wp2
        go_ret2
        exact ⟨_, zs6, _, rfl, hby6, hlen6, O8.lower (by omega), B8⟩
      | false =>
        go_wp2
        go_ret2
        exact ⟨_, zs6, _, rfl, hby6, hlen6, O7.lower (by omega), B7⟩
    · subst hxe
      have k1 : w5.heap[w4.heap.size + 1 + 1]? = some (.cells #[.int .u8 128, .int .u8 168, .int .u8 214, .int .u8 185, .int .u8 7] 5) := (g5.block _ (by rw [litWorld_size]; omega) (by simp; omega)).trans (lit_blk2 w4)
      have k2 : w5.heap[w4.heap.size + 1 + 1 + 1 + 1 + 1 + 1]? = some (.cells #[.slice (some ⟨w4.heap.size, 0, none⟩) 2 2, .slice (some ⟨w4.heap.size + 1, 0, none⟩) 5 5, .slice (some ⟨w4.heap.size + 1 + 1, 0, none⟩) 5 5, .slice (some ⟨w4.heap.size + 1 + 1 + 1, 0, none⟩) 5 5, .slice (some ⟨w4.heap.size + 1 + 1 + 1 + 1, 0, none⟩) 6 6, .slice (some ⟨w4.heap.size + 1 + 1 + 1 + 1 + 1, 0, none⟩) 2 2] 22) := (g5.block _ (by rw [litWorld_size]; omega) (by simp; omega)).trans (lit_blk6 w4)
      have hcl : w5.cell? ⟨w4.heap.size + 1 + 1 + 1 + 1 + 1 + 1, 2, none⟩ = some (.slice (some ⟨w4.heap.size + 1 + 1, 0, none⟩) 5 5) := cell_of_row w5 _ 2 _ _ (0, 0) k2
      have HC : Hid (∀ i u, (ints .u8 [128, 168, 214, 185, 7])[i]? = some u → w5.cell? ⟨w4.heap.size + 1 + 1, 0 + i, none⟩ = some u) := lit_cells k1
      clear k1 k2
      go_wp2_with (at_builtin; refine append_law Try.elemBytes rfl _ _ rfl _ _ _ _ _ rfl O5 (w4.heap.size + 1 + 1) 0 5 5 (ints .u8 [128, 168, 214, 185, 7]) rfl rfl HC.out (ints_one _ _) (by unfold maxLen; omega) (by omega) ?_)
      intro v6 w6 O6 e6
      have C6 := C5.own O5 e6 (by omega) (fun a ha hl => by have := hal a ha hl; omega)
      have G6 := ext_grown (G0.trans G5) O5 (Nat.le_refl _) e6
      have R : Hid (GetTail c w w6 v6) := ⟨zs ++ [128, 168, 214, 185, 7], bytes_app hby (by intro y hy; simp at hy; omega), by rw [List.length_append, HN.out]; simp; omega, by rw [List.length_append, HN.out, ints_append]; exact O6.lower (by omega), C6, below_cur hb1 G6⟩
      clear O5 G5 C5 e6 O6 HC hcl C6 G6
      obtain ⟨zs6, hby6, hlen6, O6, C6, B6⟩ := R.out
      clear R
      go_wp2_with fail
      refine (l1Once c _ _ _ C6).mono ?_
      rintro e w7 ⟨b2, rfl, C7, g7⟩
      have O7 := (O6.draw g7 (by omega)).wide g7.size
      have B7 := B6.grown g7 B6.size (by simp)
      cases b2 with
      | true =>
        go_wp2_with fail
        refine (l1IntLit c _ [-1, 0, 7, 8] 4 w7 rfl (by omega) (by omega) C7 _ rfl).mono ?_
        rintro e w8 ⟨y, rfl, hy, C8, g8⟩
        have O8 := (O7.draw g8 (by omega)).wide g8.size
        have B8 := B7.grown g8 B7.size (by simp)
        clear hy
        go_wp2
        go_ret2
        exact ⟨_, zs6, _, rfl, hby6, hlen6, O8.lower (by omega), B8⟩
      | false =>
        go_wp2
        go_ret2
        exact ⟨_, zs6, _, rfl, hby6, hlen6, O7.lower (by omega), B7⟩
    · subst hxe
      have k1 : w5.heap[w4.heap.size + 1 + 1 + 1]? = some (.cells #[.int .u8 129, .int .u8 168, .int .u8 214, .int .u8 185, .int .u8 7] 5) := (g5.block _ (by rw [litWorld_size]; omega) (by simp; omega)).trans (lit_blk3 w4)
      have k2 : w5.heap[w4.heap.size + 1 + 1 + 1 + 1 + 1 + 1]? = some (.cells #[.slice (some ⟨w4.heap.size, 0, none⟩) 2 2, .slice (some ⟨w4.heap.size + 1, 0, none⟩) 5 5, .slice (some ⟨w4.heap.size + 1 + 1, 0, none⟩) 5 5, .slice (some ⟨w4.heap.size + 1 + 1 + 1, 0, none⟩) 5 5, .slice (some ⟨w4.heap.size + 1 + 1 + 1 + 1, 0, none⟩) 6 6, .slice (some ⟨w4.heap.size + 1 + 1 + 1 + 1 + 1, 0, none⟩) 2 2] 22) := (g5.block _ (by rw [litWorld_size]; omega) (by simp; omega)).trans (lit_blk6 w4)
      have hcl : w5.cell? ⟨w4.heap.size + 1 + 1 + 1 + 1 + 1 + 1, 3, none⟩ = some (.slice (some ⟨w4.heap.size + 1 + 1 + 1, 0, none⟩) 5 5) := cell_of_row w5 _ 3 _ _ (0, 0) k2
      have HC : Hid (∀ i u, (ints .u8 [129, 168, 214, 185, 7])[i]? = some u → w5.cell? ⟨w4.heap.size + 1 + 1 + 1, 0 + i, none⟩ = some u) := lit_cells k1
      clear k1 k2
      go_wp2_with (at_builtin; refine append_law Try.elemBytes rfl _ _ rfl _ _ _ _ _ rfl O5 (w4.heap.size + 1 + 1 + 1) 0 5 5 (ints .u8 [129, 168, 214, 185, 7]) rfl rfl HC.out (ints_one _ _) (by unfold maxLen; omega) (by omega) ?_)
      intro v6 w6 O6 e6
      have C6 := C5.own O5 e6 (by omega) (fun a ha hl => by have := hal a ha hl; omega)
      have G6 := ext_grown (G0.trans G5) O5 (Nat.le_refl _) e6
      have R : Hid (GetTail c w w6 v6) := ⟨zs ++ [129, 168, 214, 185, 7], bytes_app hby (by intro y hy; simp at hy; omega), by rw [List.length_append, HN.out]; simp; omega, by rw [List.length_append, HN.out, ints_append]; exact O6.lower (by omega), C6, below_cur hb1 G6⟩
      clear O5 G5 C5 e6 O6 HC hcl C6 G6
      obtain ⟨zs6, hby6, hlen6, O6, C6, B6⟩ := R.out
      clear R
      go_wp2_with fail
      refine (l1Once c _ _ _ C6).mono ?_
      rintro e w7 ⟨b2, rfl, C7, g7⟩
      have O7 := (O6.draw g7 (by omega)).wide g7.size
      have B7 := B6.grown g7 B6.size (by simp)
      cases b2 with
      | true =>
        go_wp2_with fail
        refine (l1IntLit c _ [-1, 0, 7, 8] 4 w7 rfl (by omega) (by omega) C7 _ rfl).mono ?_
        rintro e w8 ⟨y, rfl, hy, C8, g8⟩
        have O8 := (O7.draw g8 (by omega)).wide g8.size
        have B8 := B7.grown g8 B7.size (by simp)
        clear hy
        go_wp2
        go_ret2
        exact ⟨_, zs6, _, rfl, hby6, hlen6, O8.lower (by omega), B8⟩
      | false =>
        go_wp2
        go_ret2
        exact ⟨_, zs6, _, rfl, hby6, hlen6, O7.lower (by omega), B7⟩
    · subst hxe
      have k1 : w5.heap[w4.heap.size + 1 + 1 + 1 + 1]? = some (.cells #[.int .u8 128, .int .u8 128, .int .u8 128, .int .u8 128, .int .u8 128, .int .u8 1] 5) := (g5.block _ (by rw [litWorld_size]; omega) (by simp; omega)).trans (lit_blk4 w4)
      have k2 : w5.heap[w4.heap.size + 1 + 1 + 1 + 1 + 1 + 1]? = some (.cells #[.slice (some ⟨w4.heap.size, 0, none⟩) 2 2, .slice (some ⟨w4.heap.size + 1, 0, none⟩) 5 5, .slice (some ⟨w4.heap.size + 1 + 1, 0, none⟩) 5 5, .slice (some ⟨w4.heap.size + 1 + 1 + 1, 0, none⟩) 5 5, .slice (some ⟨w4.heap.size + 1 + 1 + 1 + 1, 0, none⟩) 6 6, .slice (some ⟨w4.heap.size + 1 + 1 + 1 + 1 + 1, 0, none⟩) 2 2] 22) := (g5.block _ (by rw [litWorld_size]; omega) (by simp; omega)).trans (lit_blk6 w4)
      have hcl : w5.cell? ⟨w4.heap.size + 1 + 1 + 1 + 1 + 1 + 1, 4, none⟩ = some (.slice (some ⟨w4.heap.size + 1 + 1 + 1 + 1, 0, none⟩) 6 6) := cell_of_row w5 _ 4 _ _ (0, 0) k2
      have HC : Hid (∀ i u, (ints .u8 [128, 128, 128, 128, 128, 1])[i]? = some u → w5.cell? ⟨w4.heap.size + 1 + 1 + 1 + 1, 0 + i, none⟩ = some u) := lit_cells k1
      clear k1 k2
      go_wp2_with (at_builtin; refine append_law Try.elemBytes rfl _ _ rfl _ _ _ _ _ rfl O5 (w4.heap.size + 1 + 1 + 1 + 1) 0 6 6 (ints .u8 [128, 128, 128, 128, 128, 1]) rfl rfl HC.out (ints_one _ _) (by unfold maxLen; omega) (by omega) ?_)
      intro v6 w6 O6 e6
      have C6 := C5.own O5 e6 (by omega) (fun a ha hl => by have := hal a ha hl; omega)
      have G6 := ext_grown (G0.trans G5) O5 (Nat.le_refl _) e6
      have R : Hid (GetTail c w w6 v6) := ⟨zs ++ [128, 128, 128, 128, 128, 1], bytes_app hby (by intro y hy; simp at hy; omega), by rw [List.length_append, HN.out]; simp; omega, by rw [List.length_append, HN.out, ints_append]; exact O6.lower (by omega), C6, below_cur hb1 G6⟩
      clear O5 G5 C5 e6 O6 HC hcl C6 G6
      obtain ⟨zs6, hby6, hlen6, O6, C6, B6⟩ := R.out
      clear R
      go_wp2_with fail
      refine (l1Once c _ _ _ C6).mono ?_
      rintro e w7 ⟨b2, rfl, C7, g7⟩
      have O7 := (O6.draw g7 (by omega)).wide g7.size
      have B7 := B6.grown g7 B6.size (by simp)
      cases b2 with
      | true =>
        go_wp2_with fail
        refine (l1IntLit c _ [-1, 0, 7, 8] 4 w7 rfl (by omega) (by omega) C7 _ rfl).mono ?_
        rintro e w8 ⟨y, rfl, hy, C8, g8⟩
        have O8 := (O7.draw g8 (by omega)).wide g8.size
        have B8 := B7.grown g8 B7.size (by simp)
        clear hy
        go_wp2
        go_ret2
        exact ⟨_, zs6, _, rfl, hby6, hlen6, O8.lower (by omega), B8⟩
      | false =>
        go_wp2
        go_ret2
        exact ⟨_, zs6, _, rfl, hby6, hlen6, O7.lower (by omega), B7⟩
    · subst hxe
      have k1 : w5.heap[w4.heap.size + 1 + 1 + 1 + 1 + 1]? = some (.cells #[.int .u8 129, .int .u8 128] 5) := (g5.block _ (by rw [litWorld_size]; omega) (by simp; omega)).trans (lit_blk5 w4)
      have k2 : w5.heap[w4.heap.size + 1 + 1 + 1 + 1 + 1 + 1]? = some (.cells #[.slice (some ⟨w4.heap.size, 0, none⟩) 2 2, .slice (some ⟨w4.heap.size + 1, 0, none⟩) 5 5, .slice (some ⟨w4.heap.size + 1 + 1, 0, none⟩) 5 5, .slice (some ⟨w4.heap.size + 1 + 1 + 1, 0, none⟩) 5 5, .slice (some ⟨w4.heap.size + 1 + 1 + 1 + 1, 0, none⟩) 6 6, .slice (some ⟨w4.heap.size + 1 + 1 + 1 + 1 + 1, 0, none⟩) 2 2] 22) := (g5.block _ (by rw [litWorld_size]; omega) (by simp; omega)).trans (lit_blk6 w4)
      have hcl : w5.cell? ⟨w4.heap.size + 1 + 1 + 1 + 1 + 1 + 1, 5, none⟩ = some (.slice (some ⟨w4.heap.size + 1 + 1 + 1 + 1 + 1, 0, none⟩) 2 2) := cell_of_row w5 _ 5 _ _ (0, 0) k2
      have HC : Hid (∀ i u, (ints .u8 [129, 128])[i]? = some u → w5.cell? ⟨w4.heap.size + 1 + 1 + 1 + 1 + 1, 0 + i, none⟩ = some u) := lit_cells k1
      clear k1 k2
      go_wp2_with (at_builtin; refine append_law Try.elemBytes rfl _ _ rfl _ _ _ _ _ rfl O5 (w4.heap.size + 1 + 1 + 1 + 1 + 1) 0 2 2 (ints .u8 [129, 128]) rfl rfl HC.out (ints_one _ _) (by unfold maxLen; omega) (by omega) ?_)
      intro v6 w6 O6 e6
      have C6 := C5.own O5 e6 (by omega) (fun a ha hl => by have := hal a ha hl; omega)
      have G6 := ext_grown (G0.trans G5) O5 (Nat.le_refl _) e6
      have R : Hid (GetTail c w w6 v6) := ⟨zs ++ [129, 128], bytes_app hby (by intro y hy; simp at hy; omega), by rw [List.length_append, HN.out]; simp; omega, by rw [List.length_append, HN.out, ints_append]; exact O6.lower (by omega), C6, below_cur hb1 G6⟩
      clear O5 G5 C5 e6 O6 HC hcl C6 G6
      obtain ⟨zs6, hby6, hlen6, O6, C6, B6⟩ := R.out
      clear R
      go_wp2_with fail
      refine (l1Once c _ _ _ C6).mono ?_
      rintro e w7 ⟨b2, rfl, C7, g7⟩
      have O7 := (O6.draw g7 (by omega)).wide g7.size
      have B7 := B6.grown g7 B6.size (by simp)
      cases b2 with
      | true =>
        go_wp2_with fail
        refine (l1IntLit c _ [-1, 0, 7, 8] 4 w7 rfl (by omega) (by omega) C7 _ rfl).mono ?_
        rintro e w8 ⟨y, rfl, hy, C8, g8⟩
        have O8 := (O7.draw g8 (by omega)).wide g8.size
        have B8 := B7.grown g8 B7.size (by simp)
        clear hy
        go_wp2
        go_ret2
        exact ⟨_, zs6, _, rfl, hby6, hlen6, O8.lower (by omega), B8⟩
      | false =>
        go_wp2
        go_ret2
        exact ⟨_, zs6, _, rfl, hby6, hlen6, O7.lower (by omega), B7⟩
  | false =>
    go_wp2_with fail
    refine (l1Num c _ _ hc4).mono ?_
    rintro e w5 ⟨y, rfl, _, C5, g5⟩
    have O5 := (O4.draw g5 (by omega)).wide g5.size
    have G5 := G0.trans g5
    clear O4 hc4 g5 G0
    go_wp2_with fail
    refine (sPutNum _ n zs y _ (by omega) HN.out O5.at).mono ?_
    rintro e w6 ⟨v6, rfl, O6, b6⟩
    have C6 := C5.below b6
    have hpl := (Num.put_len zs y).2
    rw [HN.out] at hpl
    have hpb := Num.put_bytes hby y
    have G6 := G5.trans (grownBy_below b6 (some w.heap.size))
    clear b6 G5 C5 O5
    go_wp2_with fail
    refine (l1Bent c _ v6 _ (Num.put zs y) _ (by omega) rfl hpb O6.at C6).mono ?_
    rintro e w7 ⟨v7, zs7, rfl, hby7, hlen7, O7, C7, g7⟩
    have hs6 := G6.size
    have R : Hid (GetTail c w w7 v7) := ⟨zs7, hby7, by omega, O7.lower (by omega), C7, below_cur hb1 (G6.trans g7)⟩
    clear O6 O7 C6 C7 g7 G6
    obtain ⟨zs6, hby6, hlen6, O6, C6, B6⟩ := R.out
    clear R
    go_wp2_with fail
    refine (l1Once c _ _ _ C6).mono ?_
    rintro e w7 ⟨b2, rfl, C7, g7⟩
    have O7 := (O6.draw g7 (by omega)).wide g7.size
    have B7 := B6.grown g7 B6.size (by simp)
    cases b2 with
    | true =>
      go_wp2_with fail
      refine (l1IntLit c _ [-1, 0, 7, 8] 4 w7 rfl (by omega) (by omega) C7 _ rfl).mono ?_
      rintro e w8 ⟨y, rfl, hy, C8, g8⟩
      have O8 := (O7.draw g8 (by omega)).wide g8.size
      have B8 := B7.grown g8 B7.size (by simp)
      clear hy
      go_wp2
      go_ret2
      exact ⟨_, zs6, _, rfl, hby6, hlen6, O8.lower (by omega), B8⟩
    | false =>
      go_wp2
      go_ret2
      exact ⟨_, zs6, _, rfl, hby6, hlen6, O7.lower (by omega), B7⟩

end Go.Proofs.Ythbnnjajgfgnoaa
