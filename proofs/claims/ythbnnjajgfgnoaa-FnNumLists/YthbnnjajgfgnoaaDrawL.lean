/- The contracts of DrawPutNums and DrawGetNums. -/
import Derived.Test.YthbnnjajgfgnoaaBent
import Derived.Test.YthbnnjajgfgnoaaLawNums
import Derived.Test.YthbnnjajgfgnoaaPuts
namespace Go.Proofs.Ythbnnjajgfgnoaa
open Go.RowKit

theorem at_empty (k : IntKind) (w : World) (b : Nat) : At 1 w (.slice (some ⟨b, 0, none⟩) 0 0) 0 (ints k []) :=
  ⟨b, 0, 0, rfl, Nat.le_refl _, Nat.zero_le _, rfl, fun j u hu => by simp [ints] at hu⟩
theorem cells_two (w : World) (u u' : Value) (t : TypeId) : ∀ j x, [u, u'][j]? = some x → (w.alloc (.cells #[u, u'] t)).cell? ⟨w.heap.size, 0 + j, none⟩ = some x := by
  intro j x hj
  rw [Nat.zero_add, cell_of_row _ _ j _ _ (0, 0) (heap_alloc_new w _)]
  simpa using hj

/-- What DrawPutNums returns: bytes and integers. -/
def DrewPutL (w : World) (e : Ending) (w' : World) : Prop :=
  ∃ (v vl : Value) (zs l : List Int), e = .returned (.tuple #[v, vl]) ∧ Num.Bytes zs ∧ zs.length ≤ 1000 ∧ l.length ≤ 7 ∧ Own 5 1 w.heap.size w'.heap.size w' v zs.length (ints .u8 zs) ∧ Own 3 1 w.heap.size w'.heap.size w' vl l.length (ints .i64 l) ∧ Below w.heap.size w w'

/-- What stands before the bytes are drawn. -/
def PutTail (c : Code) (w w' : World) (vl : Value) : Prop :=
  ∃ l : List Int, l.length ≤ 7 ∧ Own 3 1 (w.heap.size + 1) w'.heap.size w' vl l.length (ints .i64 l) ∧ Cur c w.heap.size w' ∧ Below w.heap.size w w'

set_option maxHeartbeats 1000000 in
theorem drawPutNums (c : Code) (w : World) (h : c.In w) :
    Calls Try.prog 27 #[.slice c.a c.len c.cap] w (DrewPutL w) := by
  have hal := h.lt
  go_enter Try.func27, Try.ntmps27
  go_wp2_with fail
  refine (l1New c _ h).mono ?_
  rintro e w1 ⟨rfl, hc1, hb1⟩
  have hlt1 := hc1.lt
  go_wp2_with fail
  refine (l1Nums c _ _ _ (by omega) (by omega) hc1).mono ?_
  rintro e w2 ⟨vl, l, rfl, hll, O2, hc2, hg2⟩
  have hl5 : l.length ≤ 5 := hll
  have hs2 := hg2.size
  clear hll hc1
  go_wp2_with fail
  refine (l1Once c _ _ _ hc2).mono ?_
  rintro e w3 ⟨b, rfl, hc3, hg3⟩
  have O3 := (O2.draw hg3 (by omega)).wide hg3.size
  have G3 := hg2.trans hg3
  have hs3 := hg3.size
  clear O2 hc2 hg2 hg3
  obtain ⟨n, hn⟩ : ∃ n, l.length = n := ⟨_, rfl⟩
  rw [hn] at O3 hl5
  have HN := Lib.hid hn
  clear hn
  cases b with
  | true =>
    go_wp2_with fail
    refine (l1Raw c _ _ hc3).mono ?_
    rintro e w4 ⟨y, rfl, _, hc4, hg4⟩
    have O4 := (O3.draw hg4 (by omega)).wide hg4.size
    have G4 := G3.trans hg4
    clear O3 hc3 hg4 G3
    have O4' := O4.alloc (.cells #[.int .i64 y, .int .i64 1] 3)
    have HC := Lib.hid (cells_two w4 (.int .i64 y) (.int .i64 1) 3)
    go_wp2_with (at_builtin; refine append_law Try.elemInts rfl _ _ rfl _ _ _ _ _ rfl O4' w4.heap.size 0 2 2 [.int .i64 y, .int .i64 1] rfl rfl HC.out (ints_one .i64 [y, 1]) (by unfold maxLen; omega) (by omega) ?_)
    intro v5 w5 O5 e5
    have hx5 := (Ext.alloc (w := w4) vl (.cells #[.int .i64 y, .int .i64 1] 3)).trans e5
    have C5 := hc4.own O4 hx5 (by omega) (fun a ha hl => by have := hal a ha hl; omega)
    have G5 := ext_grown G4 O4 (Nat.le_refl _) hx5
    have R : Hid (PutTail c w w5 v5) := ⟨l ++ [y, 1], by rw [List.length_append, HN.out]; simp; omega, by rw [List.length_append, HN.out, ints_append]; exact O5.lower (by omega), C5, below_cur hb1 G5⟩
    clear O4 O4' HC e5 hx5 O5 C5 G5 hc4 G4
    obtain ⟨l6, hl6, O6, C6, B6⟩ := R.out
    clear R
    go_wp2_with fail
    refine (l1Below c _ _ _ C6).mono ?_
    rintro e w7 ⟨x, rfl, hx, C7, g7⟩
    have O7 := (O6.draw g7 (by omega)).wide g7.size
    have B7 := B6.grown g7 B6.size (by simp)
    go_wp2_with fail
    refine (l1Bytes c _ _ _ hx.1 (by omega) C7).mono ?_
    rintro e w8 ⟨v8, z8, rfl, hby8, hlen8, O8, C8, g8⟩
    have P8 := (O7.draw g8 (by omega)).wide g8.size
    have B8 := B7.grown g8 B7.size (by simp)
    have s7 := B7.size
    clear O6 O7
    go_wp2
    go_ret2
    exact ⟨_, _, z8, l6, rfl, hby8, by omega, hl6, O8.lower (by omega), P8.lower (by omega), B8⟩
  | false =>
    have R : Hid (PutTail c w w3 vl) := ⟨l, by rw [HN.out]; omega, by rw [HN.out]; exact O3.lower (by omega), hc3, below_cur hb1 G3⟩
    clear O3 hc3 G3
    obtain ⟨l6, hl6, O6, C6, B6⟩ := R.out
    clear R
    go_wp2_with fail
    refine (l1Below c _ _ _ C6).mono ?_
    rintro e w7 ⟨x, rfl, hx, C7, g7⟩
    have O7 := (O6.draw g7 (by omega)).wide g7.size
    have B7 := B6.grown g7 B6.size (by simp)
    go_wp2_with fail
    refine (l1Bytes c _ _ _ hx.1 (by omega) C7).mono ?_
    rintro e w8 ⟨v8, z8, rfl, hby8, hlen8, O8, C8, g8⟩
    have P8 := (O7.draw g8 (by omega)).wide g8.size
    have B8 := B7.grown g8 B7.size (by simp)
    have s7 := B7.size
    clear O6 O7
    go_wp2
    go_ret2
    exact ⟨_, _, z8, l6, rfl, hby8, by omega, hl6, O8.lower (by omega), P8.lower (by omega), B8⟩

/-- l1IntLit, the new block's number spelled by itself. -/
theorem l1IntLitAt (c : Code) (g N : Nat) (l : List Int) (n : Nat) (w : World) (hN : w.heap.size = N) (hn : l.length = n) (h0 : 0 < n) (hm : n ≤ 1000) (h : Cur c g w) (arr : Array Value) (ha : arr = (ints .i64 l).toArray) :
    Calls Try.prog 54 #[.pointer (some ⟨g, 0, none⟩), .slice (some ⟨N, 0, none⟩) n n] (w.alloc (.cells arr 3)) (DrewInt c g w fun x => x ∈ l) := by
  subst hN
  exact l1IntLit c g l n w hn h0 hm h arr ha

/-- What stands before the bytes are bent. -/
def BendTail (c : Code) (w w' : World) (v : Value) : Prop :=
  ∃ zs : List Int, Num.Bytes zs ∧ zs.length ≤ 500 ∧ Own 5 1 (w.heap.size + 1) w'.heap.size w' v zs.length (ints .u8 zs) ∧ Cur c w.heap.size w' ∧ Below w.heap.size w w'
theorem bytes_nil : Num.Bytes [] := fun x hx => by simp at hx

set_option maxHeartbeats 1000000 in
theorem drawGetNums (c : Code) (w : World) (h : c.In w) :
    Calls Try.prog 29 #[.slice c.a c.len c.cap] w (DrewPut w) := by
  go_enter Try.func29, Try.ntmps29
  go_wp2_with fail
  refine (l1New c _ h).mono ?_
  rintro e w1 ⟨rfl, hc1, hb1⟩
  have hlt1 := hc1.lt
  have hc1' := hc1.alloc (.cells #[] 5)
  have hb1' := hb1.alloc hb1.size (.cells #[] 5)
  go_wp2_with fail
  refine (l1Nums c _ _ _ (by omega) (by omega) hc1').mono ?_
  rintro e w2 ⟨vl, l, rfl, hll, O2, hc2, hg2⟩
  have hl5 : l.length ≤ 5 := hll
  have b2 := hb1'.grown hg2 (by simp; omega) (by simp)
  clear hll hc1 hc1' hg2 hb1' hb1
  go_wp2_with fail
  refine (sPutNums _ vl 0 _ [] l _ (by omega) (by omega) rfl rfl (at_empty .u8 _ _) O2.at).mono ?_
  rintro e w3 ⟨v3, rfl, O3, b3⟩
  have hpl := (Num.putL_len [] l).2
  have hpb := Num.putL_bytes bytes_nil l
  simp only [List.length_nil] at hpl
  have s2 := b2.size
  have hlt2 := hc2.lt
  have C3 := hc2.below b3
  have B3 := below_then b2 b3 b2.size
  have s3 := b3.size
  clear O2 hc2 b2 b3
  go_wp2_with fail
  refine (l1Once c _ _ _ C3).mono ?_
  rintro e w4 ⟨b, rfl, C4, g4⟩
  have B4 := B3.grown g4 B3.size (by simp)
  have hlt4 := C4.lt
  cases b with
  | true =>
    clear O3 C3 B3 g4
    have C4' := C4.alloc (.cells #[] 5)
    have B4' := B4.alloc B4.size (.cells #[] 5)
    go_wp2_with fail
    refine (l1IntLitAt c _ (w4.heap.size + 1) [-1, 64, 65, 3] 4 (w4.alloc (.cells #[] 5)) (by simp) rfl (by omega) (by omega) C4' _ rfl).mono ?_
    rintro e w5 ⟨y, rfl, hy, C5, g5⟩
    have B5 := B4'.grown g5 (by simp; omega) (by simp)
    clear hy C4 C4' B4 B4' g5
    go_wp2_with fail
    refine (sPutNum _ 0 [] y _ (by omega) rfl (at_empty .u8 _ _)).mono ?_
    rintro e w6 ⟨v6, rfl, O6, b6⟩
    have hpl6 := (Num.put_len [] y).2
    have hpb6 := Num.put_bytes bytes_nil y
    simp only [List.length_nil] at hpl6
    have hlt5 := C5.lt
    have R : Hid (BendTail c w w6 v6) := ⟨_, hpb6, by omega, O6.lower (by omega), C5.below b6, below_then B5 b6 B5.size⟩
    clear O6 b6 B5 C5 hpl hpb
    obtain ⟨z7, hby7, hlen7, O7, C7, B7⟩ := R.out
    clear R
    go_wp2_with fail
    refine (l1Bent c _ _ _ z7 _ (by omega) rfl hby7 O7.at C7).mono ?_
    rintro e w8 ⟨v8, z8, rfl, hby8, hlen8, O8, C8, g8⟩
    have B8 := B7.grown g8 B7.size (by simp)
    have s7 := B7.size
    have hlt7 := C7.lt
    clear O7 C7 B7 g8
    go_wp2_with fail
    refine (l1IntLit c _ [0, 0, 0, 0, 1, -1, 99] 7 w8 rfl (by omega) (by omega) C8 _ rfl).mono ?_
    rintro e w9 ⟨y9, rfl, hy9, C9, g9⟩
    have O9 := (O8.draw g9 (by omega)).wide g9.size
    have B9 := B8.grown g9 B8.size (by simp)
    clear hy9 O8
    go_wp2
    go_ret2
    exact ⟨_, z8, _, rfl, hby8, by omega, O9.lower (by omega), B9⟩
  | false =>
    have R : Hid (BendTail c w w4 v3) := ⟨_, hpb, by omega, ((O3.draw g4 (by omega)).wide g4.size).lower (by omega), C4, B4⟩
    clear O3 C3 B3 g4 C4 B4 hpl hpb
    obtain ⟨z7, hby7, hlen7, O7, C7, B7⟩ := R.out
    clear R
    go_wp2_with fail
    refine (l1Bent c _ _ _ z7 _ (by omega) rfl hby7 O7.at C7).mono ?_
    rintro e w8 ⟨v8, z8, rfl, hby8, hlen8, O8, C8, g8⟩
    have B8 := B7.grown g8 B7.size (by simp)
    have s7 := B7.size
    have hlt7 := C7.lt
    clear O7 C7 B7 g8
    go_wp2_with fail
    refine (l1IntLit c _ [0, 0, 0, 0, 1, -1, 99] 7 w8 rfl (by omega) (by omega) C8 _ rfl).mono ?_
    rintro e w9 ⟨y9, rfl, hy9, C9, g9⟩
    have O9 := (O8.draw g9 (by omega)).wide g9.size
    have B9 := B8.grown g9 B8.size (by simp)
    clear hy9 O8
    go_wp2
    go_ret2
    exact ⟨_, z8, _, rfl, hby8, by omega, O9.lower (by omega), B9⟩

end Go.Proofs.Ythbnnjajgfgnoaa
