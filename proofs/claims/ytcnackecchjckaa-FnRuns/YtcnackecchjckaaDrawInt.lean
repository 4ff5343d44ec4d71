/- The contracts of the model's functions that draw integers: l1Below, l1Once, l1Int, l1Odd, l1Raw, l1Num, l1One. -/
import Derived.Test.YtcnackecchjckaaDraw
namespace Go.Proofs.Ytcnackecchjckaa
open Go.RowKit

/-- An integer with P is returned; the cursor goes on; nothing else of old memory has turned. -/
def DrewInt (c : Code) (g : Nat) (w : World) (P : Int → Prop) (e : Ending) (w' : World) : Prop :=
  ∃ x : Int, e = .returned (.int .i64 x) ∧ P x ∧ Cur c g w' ∧ w.grownBy w' (some g)

/-- x is an int of the language. -/
structure I64 (x : Int) : Prop where
  lo : -9223372036854775808 ≤ x
  hi : x ≤ 9223372036854775807

theorem Cur.alloc {c : Code} {g : Nat} {w : World} (h : Cur c g w) (o : Obj) : Cur c g (w.alloc o) := by
  obtain ⟨hin, hne, i, x, hg, r⟩ := h
  have hlt : g < w.heap.size := (Array.getElem?_eq_some_iff.1 hg).1
  exact ⟨⟨hin.arg.below (below_alloc w o), hin.byt, hin.small⟩, hne, i, x, by rw [Below.heap_alloc w o g hlt]; exact hg, r⟩
theorem Cur.lt {c : Code} {g : Nat} {w : World} (h : Cur c g w) : g < w.heap.size := by
  obtain ⟨hin, hne, i, x, hg, r⟩ := h
  exact (Array.getElem?_eq_some_iff.1 hg).1
theorem Cur.below {c : Code} {g : Nat} {w w' : World} (h : Cur c g w) (hb : Below w.heap.size w w') : Cur c g w' := by
  have hlt := h.lt
  obtain ⟨hin, hne, i, x, hg, r⟩ := h
  exact ⟨⟨hin.arg.below hb, hin.byt, hin.small⟩, hne, i, x, by rw [hb.block g hlt]; exact hg, r⟩
theorem Cur.grown {c : Code} {g : Nat} {w w' : World} {row : Option Nat} (h : Cur c g w) (hg : w.grownBy w' row) (hr : ∀ k, row = some k → k ≠ g ∧ ∀ x, c.a = some x → 0 < c.len → x.block ≠ k) : Cur c g w' := by
  have hlt := h.lt
  obtain ⟨hin, hne, i, x, hh, r⟩ := h
  refine ⟨?_, hne, i, x, by rw [hg.block g hlt (fun e => (hr g e.symm).1 rfl)]; exact hh, r⟩
  cases row with
  | none => exact ⟨hin.arg.below (below_of_grown hg), hin.byt, hin.small⟩
  | some k => exact hin.grown (hr k rfl).2 hg
theorem grownBy_below {w w' : World} (h : Below w.heap.size w w') (row : Option Nat) : w.grownBy w' row := ⟨h.os, h.tape, h.output, h.size, fun k hk _ => h.block k hk⟩
theorem grownBy_alloc (w : World) (o : Obj) (row : Option Nat) : w.grownBy (w.alloc o) row := grownBy_below (below_alloc w o) row

set_option maxHeartbeats 400000 in
theorem l1Below (c : Code) (g : Nat) (n : Int) (w : World) (h : Cur c g w) :
    Calls Try.prog 65 #[.pointer (some ⟨g, 0, none⟩), .int .i64 n] w (DrewInt c g w fun x => 0 ≤ x ∧ (x < n ∨ x = 0)) := by
  by_cases hn : n ≤ 0
  · go_enter Try.func65, Try.ntmps65
    go_wp2
    go_ret
    exact ⟨_, rfl, ⟨by omega, .inr rfl⟩, h, grownBy_refl _ _⟩
  · have hn0 : (n == 0) = false := by simp; omega
    by_cases h256 : n ≤ 256
    · go_enter Try.func65, Try.ntmps65
      go_wp2_with (go_at_call 92; refine (l1Byte c g _ h).mono ?_; rintro e w1 ⟨x, rfl, hx0, hx1, hc1, hg1⟩)
      go_ret
      refine ⟨_, rfl, ⟨?_, .inl ?_⟩, hc1, hg1⟩
      · exact Int.emod_nonneg _ (by omega)
      · exact Int.emod_lt_of_pos _ (by omega)
    · go_enter Try.func65, Try.ntmps65
      go_wp2_with fail
      refine (l1Byte c g _ h).mono ?_
      rintro e w1 ⟨x, rfl, hx0, hx1, hc1, hg1⟩
      go_wp2_with fail
      refine (l1Byte c g _ hc1).mono ?_
      rintro e w2 ⟨y, rfl, hy0, hy1, hc2, hg2⟩
      go_wp2_with fail
      refine (l1Byte c g _ hc2).mono ?_
      rintro e w3 ⟨z, rfl, hz0, hz1, hc3, hg3⟩
      go_wp2
      go_ret
      refine ⟨_, rfl, ⟨?_, .inl ?_⟩, hc3, (hg1.trans hg2).trans hg3⟩
      · exact Int.emod_nonneg _ (by omega)
      · exact Int.emod_lt_of_pos _ (by omega)

theorem l1Once (c : Code) (g : Nat) (n : Int) (w : World) (h : Cur c g w) :
    Calls Try.prog 88 #[.pointer (some ⟨g, 0, none⟩), .int .i64 n] w fun e w' => ∃ b : Bool, e = .returned (.bool b) ∧ Cur c g w' ∧ w.grownBy w' (some g) := by
  go_enter Try.func88, Try.ntmps88
  go_wp2_with fail
  refine (l1Below c g n _ h).mono ?_
  rintro e w1 ⟨x, rfl, hx, hc1, hg1⟩
  go_wp2
  go_ret
  exact ⟨_, rfl, hc1, hg1⟩

set_option maxHeartbeats 400000 in
theorem l1Int (c : Code) (g : Nat) (v : Value) (m : Nat) (l : List Int) (w : World) (hm : l.length = m) (h0 : 0 < m) (hv : At 1 w v m (ints .i64 l)) (hne : v.ownBlock ≠ some g) (h : Cur c g w) :
    Calls Try.prog 66 #[.pointer (some ⟨g, 0, none⟩), v] w (DrewInt c g w fun x => x ∈ l) := by
  have hva := hv
  obtain ⟨b, off, cap, rfl, h1, h2, h3, hc⟩ := hv
  unfold maxLen at h2
  go_enter Try.func66, Try.ntmps66
  go_wp2_with fail
  refine (l1Below c g _ _ h).mono ?_
  rintro e w1 ⟨x, rfl, hx, hc1, hg1⟩
  obtain ⟨k, rfl⟩ := Int.eq_ofNat_of_zero_le hx.1
  have hk : k < m := by omega
  have hbg : b ≠ g := by simpa [Value.ownBlock] using hne
  have hcx : w.cell? ⟨b, off + k, none⟩ = some (.int .i64 (l.getD k 0)) := At.cell hc hm hk
  have hcx1 : w1.cell? ⟨b, off + k, none⟩ = some (.int .i64 (l.getD k 0)) := (World.cell?_of_block (w := w) (hg1.block b (lt_of_cell hcx) (fun e => hbg (by simpa using e)))).trans hcx
  have hmem : Hid (l.getD k 0 ∈ l) := getD_mem' (by omega)
  generalize l.getD k 0 = z at hcx1 hmem
  clear hcx hc hva hx h3
  go_wp2
  go_ret
  exact ⟨_, rfl, hmem.out, hc1, hg1⟩

theorem lit_at (w : World) (l : List Int) (n : Nat) (hn : l.length = n) (hm : n ≤ 1000) : At 1 (w.alloc (.cells (ints .i64 l).toArray 3)) (.slice (some ⟨w.heap.size, 0, none⟩) n n) n (ints .i64 l) := by
  have := own_lit (e := 3) (size := 1) w (ints .i64 l).toArray n (by unfold maxLen; omega) (by simp [ints, hn])
  simpa using this.at

/-- An integer drawn from a literal list that has just been laid. -/
theorem l1IntLit (c : Code) (g : Nat) (l : List Int) (n : Nat) (w : World) (hn : l.length = n) (h0 : 0 < n) (hm : n ≤ 1000) (h : Cur c g w) (arr : Array Value) (ha : arr = (ints .i64 l).toArray) :
    Calls Try.prog 66 #[.pointer (some ⟨g, 0, none⟩), .slice (some ⟨w.heap.size, 0, none⟩) n n] (w.alloc (.cells arr 3)) (DrewInt c g w fun x => x ∈ l) := by
  subst ha
  refine (l1Int c g _ n l _ hn h0 (lit_at w l n hn hm) ?_ (h.alloc _)).mono ?_
  · have := h.lt
    simp [Value.ownBlock]
    omega
  · rintro e w1 ⟨x, rfl, hx, hc1, hg1⟩
    exact ⟨x, rfl, hx, hc1, (grownBy_alloc w _ _).trans hg1⟩

/-- l1IntLit, the new block's number spelled by itself. -/
theorem l1IntLitAt (c : Code) (g N : Nat) (l : List Int) (n : Nat) (w : World) (hN : w.heap.size = N) (hn : l.length = n) (h0 : 0 < n) (hm : n ≤ 1000) (h : Cur c g w) (arr : Array Value) (ha : arr = (ints .i64 l).toArray) :
    Calls Try.prog 66 #[.pointer (some ⟨g, 0, none⟩), .slice (some ⟨N, 0, none⟩) n n] (w.alloc (.cells arr 3)) (DrewInt c g w fun x => x ∈ l) := by
  subst hN
  exact l1IntLit c g l n w hn h0 hm h arr ha

set_option maxHeartbeats 400000 in
theorem l1Odd (c : Code) (g : Nat) (w : World) (h : Cur c g w) :
    Calls Try.prog 100 #[.pointer (some ⟨g, 0, none⟩)] w (DrewInt c g w I64) := by
  go_enter Try.func100, Try.ntmps100
  go_wp2_with fail
  refine (l1IntLit c g [-1, 0, 1, 2, 255, 256, 65535, 2147483647, 2147483648, 4294967295, 4294967296, -2147483648, 9223372036854775807, -9223372036854775808] 14 w rfl (by omega) (by omega) h _ rfl).mono ?_
  rintro e w1 ⟨x, rfl, hx, hc1, hg1⟩
  have H := Lib.hid (I64.mk ((by decide +kernel : ∀ x ∈ ([-1, 0, 1, 2, 255, 256, 65535, 2147483647, 2147483648, 4294967295, 4294967296, -2147483648, 9223372036854775807, -9223372036854775808] : List Int), -9223372036854775808 ≤ x) x hx) ((by decide +kernel : ∀ x ∈ ([-1, 0, 1, 2, 255, 256, 65535, 2147483647, 2147483648, 4294967295, 4294967296, -2147483648, 9223372036854775807, -9223372036854775808] : List Int), x ≤ 9223372036854775807) x hx))
  clear hx
  go_wp2
  go_ret
  exact ⟨_, rfl, H.out, hc1, hg1⟩

end Go.Proofs.Ytcnackecchjckaa
