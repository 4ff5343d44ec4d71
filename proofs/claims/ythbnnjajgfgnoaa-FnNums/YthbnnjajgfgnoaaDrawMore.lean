/- The contracts of l1Raw, l1Num, l1One, l1Nums, l1Bytes, DrawZigZag, DrawZagZig, DrawPutNum, DrawPutNums. -/
import Derived.Test.YthbnnjajgfgnoaaDrawInt
import Derived.Test.YthbnnjajgfgnoaaInts
namespace Go.Proofs.Ythbnnjajgfgnoaa
open Go.RowKit

abbrev DrewAny (c : Code) (g : Nat) (w : World) (e : Ending) (w' : World) : Prop := DrewInt c g w (fun _ => True) e w'

set_option maxHeartbeats 400000 in
theorem l1Raw (c : Code) (g : Nat) (w : World) (h : Cur c g w) :
    Calls Try.prog 56 #[.pointer (some ⟨g, 0, none⟩)] w (DrewInt c g w fun _ => True) := by
  go_enter Try.func56, Try.ntmps56
  go_wp2_with fail
  refine (l1Once c g _ _ h).mono ?_
  rintro e w1 ⟨b, rfl, hc1, hg1⟩
  cases b with
  | true =>
    go_wp2_with fail
    refine (l1Odd c g _ hc1).mono ?_
    rintro e w2 ⟨x, rfl, _, hc2, hg2⟩
    go_wp2
    go_ret
    exact ⟨_, rfl, trivial, hc2, hg1.trans hg2⟩
  | false =>
    go_wp2_with fail
    refine (l1IntLit c g [1000000001, -1000000001, 2000000000, 2000000001, 0, -1] 6 w1 rfl (by omega) (by omega) hc1 _ rfl).mono ?_
    rintro e w2 ⟨x, rfl, hx, hc2, hg2⟩
    clear hx
    go_wp2
    go_ret
    exact ⟨_, rfl, trivial, hc2, hg1.trans hg2⟩

set_option maxHeartbeats 1000000 in
theorem l1Num (c : Code) (g : Nat) (w : World) (h : Cur c g w) :
    Calls Try.prog 53 #[.pointer (some ⟨g, 0, none⟩)] w (DrewInt c g w fun _ => True) := by
  go_enter Try.func53, Try.ntmps53
  go_wp2_with fail
  refine (l1Below c g _ _ h).mono ?_
  rintro e w1 ⟨x, rfl, hx, hc1, hg1⟩
  have hx5 : x < 5 := by omega
  obtain ⟨hx0, _⟩ := hx
  by_cases e0 : x = 0
  · subst e0
    go_wp2_with fail
    refine (l1Below c g _ _ hc1).mono ?_
    rintro e w2 ⟨y, rfl, hy, hc2, hg2⟩
    go_wp2
    go_ret
    exact ⟨_, rfl, trivial, hc2, hg1.trans hg2⟩
  · have b0 : (x == 0) = false := by simp [e0]
    by_cases e1 : x = 1
    · subst e1
      go_wp2_with fail
      refine (l1IntLit c g [0, -1, 1, 63, 64, -64, -65, 8191, 8192, 1000000000, -1000000000, 999999999] 12 w1 rfl (by omega) (by omega) hc1 _ rfl).mono ?_
      rintro e w2 ⟨y, rfl, hy, hc2, hg2⟩
      clear hy
      go_wp2
      go_ret
      exact ⟨_, rfl, trivial, hc2, hg1.trans hg2⟩
    · have b1 : (x == 1) = false := by simp [e1]
      by_cases e2 : x = 2
      · subst e2
        go_wp2_with fail
        refine (l1Below c g _ _ hc1).mono ?_
        rintro e w2 ⟨y, rfl, hy, hc2, hg2⟩
        go_wp2_with fail
        refine (l1Below c g _ _ hc2).mono ?_
        rintro e w3 ⟨z, rfl, hz, hc3, hg3⟩
        go_wp2
        go_ret
        exact ⟨_, rfl, trivial, hc3, (hg1.trans hg2).trans hg3⟩
      · have b2 : (x == 2) = false := by simp [e2]
        clear e0 e1 e2
        go_wp2_with fail
        refine (l1Below c g _ _ hc1).mono ?_
        rintro e w2 ⟨y, rfl, hy, hc2, hg2⟩
        go_wp2
        go_ret
        exact ⟨_, rfl, trivial, hc2, hg1.trans hg2⟩

theorem l1One (c : Code) (g : Nat) (w : World) (h : Cur c g w) :
    Calls Try.prog 45 #[.pointer (some ⟨g, 0, none⟩)] w (DrewInt c g w fun _ => True) := by
  go_enter Try.func45, Try.ntmps45
  go_wp2_with fail
  refine (l1Once c g _ _ h).mono ?_
  rintro e w1 ⟨b, rfl, hc1, hg1⟩
  cases b with
  | true =>
    go_wp2_with fail
    refine (l1Raw c g _ hc1).mono ?_
    rintro e w2 ⟨x, rfl, _, hc2, hg2⟩
    go_wp2
    go_ret
    exact ⟨_, rfl, trivial, hc2, hg1.trans hg2⟩
  | false =>
    go_wp2_with fail
    refine (l1Num c g _ hc1).mono ?_
    rintro e w2 ⟨x, rfl, _, hc2, hg2⟩
    go_wp2
    go_ret
    exact ⟨_, rfl, trivial, hc2, hg1.trans hg2⟩

/-- From a new cursor on: what was there before is untouched. -/
theorem below_cur {w w1 w2 : World} (hb : Below w.heap.size w w1) (hg : w1.grownBy w2 (some w.heap.size)) : Below w.heap.size w w2 :=
  hb.grown hg hb.size (by simp)

theorem drawZigZag (c : Code) (w : World) (h : c.In w) :
    Calls Try.prog 24 #[.slice c.a c.len c.cap] w fun e w' => ∃ x : Int, e = .returned (.int .i64 x) ∧ Below w.heap.size w w' := by
  go_enter Try.func24, Try.ntmps24
  go_wp2_with fail
  refine (l1New c _ h).mono ?_
  rintro e w1 ⟨rfl, hc1, hb1⟩
  go_wp2_with fail
  refine (l1One c _ _ hc1).mono ?_
  rintro e w2 ⟨x, rfl, _, hc2, hg2⟩
  go_wp2
  go_ret
  exact ⟨_, rfl, below_cur hb1 hg2⟩

theorem drawZagZig (c : Code) (w : World) (h : c.In w) :
    Calls Try.prog 23 #[.slice c.a c.len c.cap] w fun e w' => ∃ x : Int, e = .returned (.int .i64 x) ∧ Below w.heap.size w w' := by
  go_enter Try.func23, Try.ntmps23
  go_wp2_with fail
  refine (l1New c _ h).mono ?_
  rintro e w1 ⟨rfl, hc1, hb1⟩
  go_wp2_with fail
  refine (l1Once c _ _ _ hc1).mono ?_
  rintro e w2 ⟨b, rfl, hc2, hg2⟩
  cases b with
  | true =>
    go_wp2_with fail
    refine (l1Raw c _ _ hc2).mono ?_
    rintro e w3 ⟨x, rfl, _, hc3, hg3⟩
    go_wp2
    go_ret
    exact ⟨_, rfl, below_cur hb1 (hg2.trans hg3)⟩
  | false =>
    go_wp2_with fail
    refine (l1Num c _ _ hc2).mono ?_
    rintro e w3 ⟨x, rfl, _, hc3, hg3⟩
    go_wp2_with (go_at_call 26; refine (sZigZag _ _).mono ?_; rintro e w' ⟨rfl, rfl⟩)
    go_ret
    exact ⟨_, rfl, below_cur hb1 (hg2.trans hg3)⟩

/-- An owned slice is not the cursor's block, and outlives a draw. -/
theorem Own.draw {e size lo hi w w' v n xs} {g : Nat} (h : Own e size lo hi w v n xs) (hg : w.grownBy w' (some g)) (hlt : g < lo) : Own e size lo hi w' v n xs :=
  h.grown hg (fun k hk => by simp at hk; omega)
theorem Cur.own {c : Code} {g lo hi : Nat} {e size w w' v v' n xs} (h : Cur c g w) (ho : Own e size lo hi w v n xs) (hx : Ext w w' v v') (hlt : g < lo) (ha : ∀ x, c.a = some x → 0 < c.len → x.block < lo) : Cur c g w' := by
  refine h.grown hx.grown (fun k hk => ?_)
  have := ho.block k hk
  exact ⟨by omega, fun x hx hl => by have := ha x hx hl; omega⟩
theorem Code.In.lt {c : Code} {w : World} (h : c.In w) : ∀ x, c.a = some x → 0 < c.len → x.block < w.heap.size := by
  intro x hx hl
  rcases h.arg.2 with h0 | ⟨b, off, ha, hc⟩
  · omega
  · rw [ha] at hx
    simp at hx
    subst hx
    exact lt_of_cell (hc 0 hl)

/-- A drawn slice of bytes. -/
def DrewBytes (c : Code) (g : Nat) (m : Nat) (w : World) (e : Ending) (w' : World) : Prop :=
  ∃ (v : Value) (zs : List Int), e = .returned v ∧ Num.Bytes zs ∧ zs.length ≤ m ∧ Own 5 1 w.heap.size w'.heap.size w' v zs.length (ints .u8 zs) ∧ Cur c g w' ∧ w.grownBy w' (some g)

theorem ext_grown {w w1 w2 : World} {v v' : Value} {g : Nat} {e size lo hi n xs} (h : w.grownBy w1 (some g)) (ho : Own e size lo hi w1 v n xs) (hl : w.heap.size ≤ lo) (hx : Ext w1 w2 v v') : w.grownBy w2 (some g) := by
  have hs := h.size
  refine ⟨hx.grown.os.trans h.os, hx.grown.tape.trans h.tape, hx.grown.output.trans h.output, Nat.le_trans hs hx.grown.size, fun k hk hne => ?_⟩
  refine (hx.grown.block k (by omega) (fun e => ?_)).trans (h.block k hk hne)
  have := ho.block k e.symm
  omega

set_option maxHeartbeats 1000000 in
theorem l1Bytes (c : Code) (g : Nat) (n : Int) (w : World) (h0 : 0 ≤ n) (hn : n ≤ 1000) (h : Cur c g w) :
    Calls Try.prog 43 #[.pointer (some ⟨g, 0, none⟩), .int .i64 n] w (DrewBytes c g n.toNat w) := by
  obtain ⟨m, rfl⟩ := Int.eq_ofNat_of_zero_le h0
  rw [Int.toNat_natCast]
  have hlt := h.lt
  have hal := h.1.lt
  have hown0 := own_lit (e := 5) (size := 1) w #[] 0 (Nat.zero_le _) rfl
  have hcur0 := h.alloc (.cells #[] 5)
  have hgr0 := grownBy_alloc w (.cells #[] 5) (some g)
  go_enter Try.func43, Try.ntmps43
  go_wp2
  go_loopw [5, 6] (fun v i wr => ∃ (k : Nat) (zs : List Int), k ≤ m ∧ i = .int .i64 k ∧ zs.length = k ∧ Num.Bytes zs ∧ Own 5 1 w.heap.size wr.heap.size wr v k (ints .u8 zs) ∧ Cur c g wr ∧ w.grownBy wr (some g)) (fun _ i _ => m - (intOf i).toNat)
  case atStart => exact ⟨0, [], Nat.zero_le _, rfl, rfl, fun x hx => by simp at hx, hown0, hcur0, hgr0⟩
  case round =>
    obtain ⟨k, zs, hk, rfl, hzl, hby, hown, hcur, hgr⟩ := hrel
    have HZL := Lib.hid hzl
    clear hzl hown0 hcur0 hgr0
    by_cases hlk : k < m
    · go_wp2_with fail
      refine (l1Byte c g _ hcur).mono ?_
      rintro e w1 ⟨x, rfl, hx0, hx1, hc1, hg1⟩
      have hown1 := (hown.draw hg1 hlt).wide hg1.size
      have hgr1 := hgr.trans hg1
      clear hown hcur hgr hg1
      go_wp2_with (at_builtin; refine append1_law Try.elemBytes rfl _ _ rfl _ _ _ _ _ (.int .u8 x) rfl rfl hown1 rfl (by unfold maxLen; omega) (by omega) ?_)
      intro v' w2 hown2 hext2
      have hc2 := hc1.own hown1 hext2 hlt hal
      have hgr2 := ext_grown hgr1 hown1 (Nat.le_refl _) hext2
      have R := Lib.hid hown2
      clear hown2 hext2 hown1 hgr1 hc1
      go_wp2
      go_roundw
      case rel =>
        refine ⟨k + 1, zs ++ [x], by omega, by go_num, by simp [HZL.out], ?_, ?_, hc2, hgr2⟩
        · intro y hy
          simp at hy
          rcases hy with hy | rfl
          · exact hby y hy
          · exact ⟨hx0, hx1⟩
        · rw [ints_append]; exact R.out
      case measure => simp [intOf]; omega
    · go_wp2
      go_ret
      refine ⟨_, zs, rfl, hby, by have := HZL.out; omega, ?_, hcur, hgr⟩
      rw [HZL.out]
      exact hown

/-- A drawn slice of integers. -/
def DrewInts (c : Code) (g : Nat) (m : Nat) (w : World) (e : Ending) (w' : World) : Prop :=
  ∃ (v : Value) (l : List Int), e = .returned v ∧ l.length ≤ m ∧ Own 3 1 w.heap.size w'.heap.size w' v l.length (ints .i64 l) ∧ Cur c g w' ∧ w.grownBy w' (some g)

set_option maxHeartbeats 1000000 in
theorem l1Nums (c : Code) (g : Nat) (most : Int) (w : World) (h0 : 0 ≤ most) (hn : most ≤ 1000) (h : Cur c g w) :
    Calls Try.prog 57 #[.pointer (some ⟨g, 0, none⟩), .int .i64 most] w (DrewInts c g most.toNat w) := by
  have hlt := h.lt
  have hal := h.1.lt
  have hown0 := own_lit (e := 3) (size := 1) w #[] 0 (Nat.zero_le _) rfl
  have hcur0 := h.alloc (.cells #[] 3)
  have hgr0 := grownBy_alloc w (.cells #[] 3) (some g)
  go_enter Try.func57, Try.ntmps57
  go_wp2_with fail
  refine (l1Below c g _ _ hcur0).mono ?_
  rintro e w1 ⟨x, rfl, hx, hc1, hg1⟩
  have hxm : x ≤ most := by omega
  have hx0 := hx.1
  clear hx
  have hown1 := (hown0.draw hg1 hlt).wide hg1.size
  have hgr1 := hgr0.trans hg1
  clear hown0 hcur0 hgr0 hg1
  go_wp2
  go_loopw [5, 6] (fun v i wr => ∃ (t : Int) (l : List Int), i = .int .i64 t ∧ 0 ≤ t ∧ t ≤ most ∧ l.length + t ≤ most ∧ Own 3 1 w.heap.size wr.heap.size wr v l.length (ints .i64 l) ∧ Cur c g wr ∧ w.grownBy wr (some g)) (fun _ i _ => (intOf i).toNat)
  case atStart => exact ⟨x, [], rfl, hx0, hxm, by simpa using hxm, hown1, hc1, hgr1⟩
  case round =>
    obtain ⟨t, l, rfl, ht0, htm, hll, hown, hcur, hgr⟩ := hrel
    clear hown1 hc1 hgr1
    generalize hLN : l.length = ln at hown hll
    have HLN := Lib.hid hLN
    clear hLN
    by_cases hlk : 0 < t
    · go_wp2_with fail
      refine (l1Num c g _ hcur).mono ?_
      rintro e w2 ⟨y, rfl, _, hc2, hg2⟩
      have hown2 := (hown.draw hg2 hlt).wide hg2.size
      have hgr2 := hgr.trans hg2
      clear hown hcur hgr hg2
      go_wp2_with (at_builtin; refine append1_law Try.elemInts rfl _ _ rfl _ _ _ _ _ (.int .i64 y) rfl rfl hown2 rfl (by unfold maxLen; omega) (by omega) ?_)
      intro v' w3 hown3 hext3
      have hc3 := hc2.own hown2 hext3 hlt hal
      have hgr3 := ext_grown hgr2 hown2 (Nat.le_refl _) hext3
      have R := Lib.hid hown3
      clear hown3 hext3 hown2 hgr2 hc2
      go_wp2
      go_roundw
      case rel =>
        have e : (l ++ [y]).length = ln + 1 := by simp [HLN.out]
        refine ⟨t - 1, l ++ [y], rfl, by omega, by omega, by rw [e]; omega, ?_, hc3, hgr3⟩
        rw [e, ints_append]
        exact R.out
      case measure => simp [intOf]; omega
    · go_wp2
      go_ret
      refine ⟨_, l, rfl, by have := HLN.out; omega, ?_, hcur, hgr⟩
      rw [HLN.out]
      exact hown

end Go.Proofs.Ythbnnjajgfgnoaa
