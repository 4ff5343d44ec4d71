/- The contracts of l1Nums, l1Bytes, DrawZigZag, DrawZagZig, DrawPutNum, DrawPutNums. -/
import Derived.Test.YtjakkpjkdboofaaDrawOne
import Derived.Test.YtjakkpjkdboofaaPut
import Derived.Test.YtjakkpjkdboofaaInts
namespace Go.Proofs.Ytjakkpjkdboofaa
open Go.RowKit

/-- An owned slice is not the cursor's block, and outlives a draw. -/
theorem Own.draw {e size lo hi w w' v n xs} {g : Nat} (h : Own e size lo hi w v n xs) (hg : w.grownBy w' (some g)) (hlt : g < lo) : Own e size lo hi w' v n xs :=
  h.grown hg (fun k hk => by simp at hk; omega)
theorem Cur.own {c : Code} {g lo hi : Nat} {e size w w' v v' n xs} (h : Cur c g w) (ho : Own e size lo hi w v n xs) (hx : Ext w w' v v') (hlt : g < lo) (ha : ∀ x, c.a = some x → 0 < c.len → x.block < lo) : Cur c g w' := by
  refine h.grown hx.grown (fun k hk => ?_)
  have := ho.block k hk
  exact ⟨by omega, fun x hx hl => by have := ha x hx hl; omega⟩
theorem Code.In.lt {c : Code} {w : World} (h : c.In w) : ∀ x, c.a = some x → 0 < c.len → x.block < w.heap.size := by
  intro x hx hl
  rcases h.arg.2 with h0 | ⟨b, off, ha, hc⟩
  · omega
  · rw [ha] at hx
    simp at hx
    subst hx
    exact lt_of_cell (hc 0 hl)

/-- A drawn slice of bytes. -/
def DrewBytes (c : Code) (g : Nat) (m : Nat) (w : World) (e : Ending) (w' : World) : Prop :=
  ∃ (v : Value) (zs : List Int), e = .returned v ∧ Num.Bytes zs ∧ zs.length ≤ m ∧ Own 5 1 w.heap.size w'.heap.size w' v zs.length (ints .u8 zs) ∧ Cur c g w' ∧ w.grownBy w' (some g)

theorem ext_grown {w w1 w2 : World} {v v' : Value} {g : Nat} {e size lo hi n xs} (h : w.grownBy w1 (some g)) (ho : Own e size lo hi w1 v n xs) (hl : w.heap.size ≤ lo) (hx : Ext w1 w2 v v') : w.grownBy w2 (some g) := by
  have hs := h.size
  refine ⟨hx.grown.os.trans h.os, hx.grown.tape.trans h.tape, hx.grown.output.trans h.output, Nat.le_trans hs hx.grown.size, fun k hk hne => ?_⟩
  refine (hx.grown.block k (by omega) (fun e => ?_)).trans (h.block k hk hne)
  have := ho.block k e.symm
  omega

set_option maxHeartbeats 1000000 in
theorem l1Bytes (c : Code) (g : Nat) (n : Int) (w : World) (h0 : 0 ≤ n) (hn : n ≤ 1000) (h : Cur c g w) :
    Calls Try.prog 52 #[.pointer (some ⟨g, 0, none⟩), .int .i64 n] w (DrewBytes c g n.toNat w) := by
  obtain ⟨m, rfl⟩ := Int.eq_ofNat_of_zero_le h0
  rw [Int.toNat_natCast]
  have hlt := h.lt
  have hal := h.1.lt
  have hown0 := own_lit (e := 5) (size := 1) w #[] 0 (Nat.zero_le _) rfl
  have hcur0 := h.alloc (.cells #[] 5)
  have hgr0 := grownBy_alloc w (.cells #[] 5) (some g)
  go_enter Try.func52, Try.ntmps52
  go_wp2
  go_loopw [5, 6] (fun v i wr => ∃ (k : Nat) (zs : List Int), k ≤ m ∧ i = .int .i64 k ∧ zs.length = k ∧ Num.Bytes zs ∧ Own 5 1 w.heap.size wr.heap.size wr v k (ints .u8 zs) ∧ Cur c g wr ∧ w.grownBy wr (some g)) (fun _ i _ => m - (intOf i).toNat)
  case atStart => exact ⟨0, [], Nat.zero_le _, rfl, rfl, fun x hx => by simp at hx, hown0, hcur0, hgr0⟩
  case round =>
    obtain ⟨k, zs, hk, rfl, hzl, hby, hown, hcur, hgr⟩ := hrel
    have HZL := Lib.hid hzl
    clear hzl hown0 hcur0 hgr0
    by_cases hlk : k < m
    · go_wp2_with fail
      refine (l1Byte c g _ hcur).mono ?_
      rintro e w1 ⟨x, rfl, hx0, hx1, hc1, hg1⟩
      have hown1 := (hown.draw hg1 hlt).wide hg1.size
      have hgr1 := hgr.trans hg1
      clear hown hcur hgr hg1
      go_wp2_with (at_builtin; refine append1_law Try.elemBytes rfl _ _ rfl _ _ _ _ _ (.int .u8 x) rfl rfl hown1 rfl (by unfold maxLen; omega) (by omega) ?_)
      intro v' w2 hown2 hext2
      have hc2 := hc1.own hown1 hext2 hlt hal
      have hgr2 := ext_grown hgr1 hown1 (Nat.le_refl _) hext2
      have R := Lib.hid hown2
      clear hown2 hext2 hown1 hgr1 hc1
      go_wp2
      go_roundw
      case rel =>
        refine ⟨k + 1, zs ++ [x], by omega, by go_num, by simp [HZL.out], ?_, ?_, hc2, hgr2⟩
        · intro y hy
          simp at hy
          rcases hy with hy | rfl
          · exact hby y hy
          · exact ⟨hx0, hx1⟩
        · rw [ints_append]; exact R.out
      case measure => simp [intOf]; omega
    · go_wp2
      go_ret
      refine ⟨_, zs, rfl, hby, by have := HZL.out; omega, ?_, hcur, hgr⟩
      rw [HZL.out]
      exact hown

/-- A drawn slice of integers. -/
def DrewInts (c : Code) (g : Nat) (m : Nat) (w : World) (e : Ending) (w' : World) : Prop :=
  ∃ (v : Value) (l : List Int), e = .returned v ∧ l.length ≤ m ∧ Own 3 1 w.heap.size w'.heap.size w' v l.length (ints .i64 l) ∧ Cur c g w' ∧ w.grownBy w' (some g)

end Go.Proofs.Ytjakkpjkdboofaa
