/- The contracts of the model's drawing functions: the cursor over the code's bytes. -/
import Derived.Test.YtcnackecchjckaaNumOk
import Derived.Test.YtcnackecchjckaaBitsI
import Derived.OpenShut
namespace Go.Proofs.Ytcnackecchjckaa
open Go.RowKit

/-- The code that a law is handed. -/
structure Code where
  a : Option Addr
  len : Nat
  cap : Nat
  zs : List Int
/-- The code reads as its bytes in w. -/
structure Code.In (c : Code) (w : World) : Prop where
  arg : Arg .u8 w c.a c.len c.zs
  byt : Num.Bytes c.zs
  small : c.len ≤ 1048576
/-- Block g holds a cursor over the code. -/
def Cur (c : Code) (g : Nat) (w : World) : Prop :=
  c.In w ∧ (∀ x, c.a = some x → 0 < c.len → x.block ≠ g) ∧
  ∃ i h : Int, w.heap[g]? = some (.cells #[.slice c.a c.len c.cap, .int .i64 i, .int .i64 h] 94 (0, 0)) ∧ 0 ≤ i ∧ i ≤ c.len ∧ -9223372036854775808 ≤ h ∧ h ≤ 9223372036854775807

theorem and_low (x : Int) (m : Nat) (hm : m < 9223372036854775808) : 0 ≤ bits .and .i64 x (m : Int) ∧ bits .and .i64 x (m : Int) ≤ m := by
  have e : bits .and .i64 x (m : Int) = IntKind.i64.wrap ((BitVec.ofInt 64 x &&& BitVec.ofInt 64 (m : Int)).toNat : Int) := rfl
  have h : (BitVec.ofInt 64 x &&& BitVec.ofInt 64 (m : Int)).toNat ≤ m := by
    rw [BitVec.toNat_and, ofInt_u64 m (by omega)]
    exact Nat.and_le_right
  rw [e, IntWalk.i64_in _ (by omega)]
  omega
theorem wrap64_bd (n : Int) : -9223372036854775808 ≤ wrap64 n ∧ wrap64 n ≤ 9223372036854775807 := by
  unfold wrap64; omega

set_option maxRecDepth 100000 in
set_option maxHeartbeats 400000 in
theorem l1New (c : Code) (w : World) (hin : c.In w) :
    Calls Try.prog 44 #[.slice c.a c.len c.cap] w fun e w' => e = .returned (.pointer (some ⟨w.heap.size, 0, none⟩)) ∧ Cur c w.heap.size w' ∧ Below w.heap.size w w' := by
  have hin0 := hin
  obtain ⟨a, len, cap, zs⟩ := c
  obtain ⟨⟨hz, ha⟩, hby, hsm⟩ := hin
  simp only at *
  have HZ := Lib.hid hz
  clear hz
  have hend : ∀ h : Int, -9223372036854775808 ≤ h → h ≤ 9223372036854775807 → Cur ⟨a, len, cap, zs⟩ w.heap.size (w.alloc (.cells #[.slice a len cap, .int .i64 0, .int .i64 h] 94)) := by
    intro h h0 h1
    refine ⟨⟨hin0.arg.below (below_alloc w _), hin0.byt, hin0.small⟩, ?_, 0, h, heap_alloc_new w _, by omega, by simp, h0, h1⟩
    intro x hx hl
    rcases ha with h0 | ⟨b, off, rfl, hc⟩
    · simp only at hl; omega
    · simp at hx
      subst hx
      have := lt_of_cell (hc 0 (by omega))
      simp only at this ⊢
      omega
  have HE := Lib.hid hend
  clear hend hin0
  rcases ha with h0 | ⟨b, off, rfl, hc⟩
  · subst h0
    go_enter Try.func44, Try.ntmps44
    go_wp2
    refine wp_loop_rounds 1 ?_
    rw [rounds_succ]
    go_wp2
    go_ret
    exact ⟨rfl, HE.out _ (by omega) (by omega), below_alloc w _⟩
  · go_enter Try.func44, Try.ntmps44
    go_wp2
    go_loop [3, 4] (fun t i => ∃ (k : Nat) (h : Int), k ≤ len ∧ k ≤ 4000 ∧ i = .int .i64 k ∧ t = .int .i64 h ∧ 0 ≤ h ∧ h ≤ 1073741823) (fun _ i => 4000 - (intOf i).toNat)
    case atStart => exact ⟨0, _, Nat.zero_le _, by omega, rfl, rfl, by omega, by omega⟩
    case round =>
      obtain ⟨k, h, hk, hk4, rfl, rfl, hh0, hh1⟩ := hrel
      by_cases hlt : k < len
      · have hcx : w.cell? ⟨b, off + k, none⟩ = some (.int .u8 (zs.getD k 0)) := hc k hlt
        have hcb := hby (zs.getD k 0) (by simp [HZ.out, hlt])
        generalize zs.getD k 0 = z at hcx hcb
        clear hc
        obtain ⟨hz0, hz1⟩ := hcb
        by_cases hl4 : k < 4000
        · have hb := and_low (h * 137 + z + 11) 1073741823 (by omega)
          have HB := Lib.hid hb
          clear hb
          go_wp2
          go_round
          case rel => exact ⟨k + 1, _, by omega, by omega, by go_num, rfl, HB.out.1, HB.out.2⟩
          case measure => simp [intOf]; omega
        · go_wp2
          go_ret
          exact ⟨rfl, HE.out _ (by omega) (by omega), below_alloc w _⟩
      · go_wp2
        go_ret
        exact ⟨rfl, HE.out _ (by omega) (by omega), below_alloc w _⟩

theorem Code.In.grown {c : Code} {g : Nat} {w w' : World} (h : c.In w) (hne : ∀ x, c.a = some x → 0 < c.len → x.block ≠ g) (hg : w.grownBy w' (some g)) : c.In w' := by
  refine ⟨⟨h.arg.1, ?_⟩, h.byt, h.small⟩
  rcases h.arg.2 with h0 | ⟨b, off, ha, hc⟩
  · exact .inl h0
  · by_cases h0 : c.len = 0
    · exact .inl h0
    · refine .inr ⟨b, off, ha, fun i hi => ?_⟩
      rw [World.cell?_of_block (w := w) (hg.block b (lt_of_cell (hc i hi)) (fun e => hne _ ha (by omega) (by simpa using e)))]
      exact hc i hi
theorem grownBy_setCell (w : World) (g o : Nat) (v : Value) : w.grownBy (w.setCell ⟨g, o, none⟩ v) (some g) :=
  ⟨rfl, rfl, rfl, by simp [World.setCell], fun k _ hk => Below.heap_setCell w _ _ k (fun e => hk (by simp [e]))⟩
theorem grownBy_drewN (w : World) (n : Nat) (row : Option Nat) : w.grownBy (w.drewN n) row := ⟨rfl, rfl, rfl, Nat.le_refl _, fun _ _ _ => rfl⟩

theorem cur_set2 {w : World} {g : Nat} {s i h x : Value} {t : TypeId} (hg : w.heap[g]? = some (.cells #[s, i, h] t (0, 0))) : (w.setCell ⟨g, 2, none⟩ x).heap[g]? = some (.cells #[s, i, x] t (0, 0)) :=
  (heap_setCell_same w g 2 _ t x hg).trans rfl
theorem cur_set1 {w : World} {g : Nat} {s i h x : Value} {t : TypeId} (hg : w.heap[g]? = some (.cells #[s, i, h] t (0, 0))) : (w.setCell ⟨g, 1, none⟩ x).heap[g]? = some (.cells #[s, x, h] t (0, 0)) :=
  (heap_setCell_same w g 1 _ t x hg).trans rfl
theorem getD_mem' {zs : List Int} {k : Nat} (h : k < zs.length) : zs.getD k 0 ∈ zs := by simp [h]

set_option maxHeartbeats 1000000 in
theorem l1Byte (c : Code) (g : Nat) (w : World) (hcur : Cur c g w) :
    Calls Try.prog 92 #[.pointer (some ⟨g, 0, none⟩)] w fun e w' => ∃ x : Int, e = .returned (.int .i64 x) ∧ 0 ≤ x ∧ x ≤ 255 ∧ Cur c g w' ∧ w.grownBy w' (some g) := by
  obtain ⟨hin, hne, i, h, hg, hi0, hi1, hh0, hh1⟩ := hcur
  have hin0 := hin
  have hne0 := hne
  obtain ⟨a, len, cap, zs⟩ := c
  obtain ⟨⟨hz, ha⟩, hby, hsm⟩ := hin
  simp only at *
  have c0 : w.cell? ⟨g, 0, none⟩ = some (.slice a len cap) := cell_of_row w g 0 _ _ (0, 0) hg
  have c1 : w.cell? ⟨g, 1, none⟩ = some (.int .i64 i) := cell_of_row w g 1 _ _ (0, 0) hg
  have c2 : w.cell? ⟨g, 2, none⟩ = some (.int .i64 h) := cell_of_row w g 2 _ _ (0, 0) hg
  have f1 : w.frozen? ⟨g, 1, none⟩ = false := frozen_of_row w g 1 _ _ hg
  have f2 : w.frozen? ⟨g, 2, none⟩ = false := frozen_of_row w g 2 _ _ hg
  clear hz
  have hb64 := wrap64_bd (wrap64 (h * 6364136223846793005) + 1442695040888963407)
  generalize hH : wrap64 (wrap64 (h * 6364136223846793005) + 1442695040888963407) = H at hb64
  have HH := Lib.hid hH
  clear hH
  have hg1 := cur_set2 (x := .int .i64 H) hg
  have hgb1 := grownBy_setCell w g 2 (.int .i64 H)
  by_cases hlt : i < len
  · rcases ha with h0 | ⟨b, off, rfl, hc⟩
    · omega
    · obtain ⟨k, rfl⟩ := Int.eq_ofNat_of_zero_le hi0
      have hkl : k < len := by omega
      have hbg : b ≠ g := hne _ rfl (by omega)
      have hcx : w.cell? ⟨b, off + k, none⟩ = some (.int .u8 (zs.getD k 0)) := hc k hkl
      have hcb := hby (zs.getD k 0) (getD_mem' (by have := hin0.arg.1; simp only at this; omega))
      generalize zs.getD k 0 = z at hcx hcb
      obtain ⟨hz0, hz1⟩ := hcb
      have hcx1 : (w.setCell ⟨g, 2, none⟩ (.int .i64 H)).cell? ⟨b, off + k, none⟩ = some (.int .u8 z) := (World.cell?_of_block (w := w) (hgb1.block b (lt_of_cell hcx) (fun e => hbg (by simpa using e)))).trans hcx
      clear hc hne hcx
      have hh := HH.out
      clear HH
      go_enter Try.func92, Try.ntmps92
      go_wp2
      go_quiet (fail)
      go_wp2
      go_quiet (fail)
      go_wp2
      go_quiet (fail)
      go_wp2
      go_ret
      have hfin : ∀ n, w.grownBy (((w.setCell ⟨g, 2, none⟩ (.int .i64 H)).drewN n).setCell ⟨g, 1, none⟩ (.int .i64 ((k : Int) + 1))) (some g) := fun n => (hgb1.trans (grownBy_drewN _ n _)).trans (grownBy_setCell _ g 1 _)
      refine ⟨_, rfl, (and_low _ 255 (by omega)).1, (and_low _ 255 (by omega)).2, ?_, hfin _⟩
      exact ⟨hin0.grown hne0 (hfin _), hne0, (k : Int) + 1, H, cur_set1 hg1, by omega, by simp only; omega, hb64.1, hb64.2⟩
  · clear ha
    have hh := HH.out
    clear HH
    go_enter Try.func92, Try.ntmps92
    go_wp2
    go_quiet (fail)
    go_wp2
    go_quiet (fail)
    go_wp2
    go_ret
    have hfin : ∀ n m, w.grownBy (((w.setCell ⟨g, 2, none⟩ (.int .i64 H)).drewN n).drewN m) (some g) := fun n m => (hgb1.trans (grownBy_drewN _ n _)).trans (grownBy_drewN _ m _)
    refine ⟨_, rfl, (and_low _ 255 (by omega)).1, (and_low _ 255 (by omega)).2, ?_, hfin _ _⟩
    exact ⟨hin0.grown hne0 (hfin _ _), hne0, i, H, hg1, hi0, hi1, hb64.1, hb64.2⟩

end Go.Proofs.Ytcnackecchjckaa
