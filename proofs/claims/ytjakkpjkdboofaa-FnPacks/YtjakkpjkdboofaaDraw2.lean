/- The contracts of chapter 2's drawing functions: l2Nums, DrawWidthOf, DrawPackBits, DrawUnpackBits, DrawBytesFor, DrawBitAt. -/
import Derived.Test.YtjakkpjkdboofaaBent
import Derived.Test.YtjakkpjkdboofaaSUnpack
namespace Go.Proofs.Ytjakkpjkdboofaa
open Go.RowKit

/-- A short list of integers that are not negative. -/
def Small (l : List Int) : Prop := l.length ≤ 7 ∧ ∀ x ∈ l, 0 ≤ x ∧ x < 70000
/-- A drawn list. -/
def DrewSmall (c : Code) (g : Nat) (w : World) (e : Ending) (w' : World) : Prop :=
  ∃ (v : Value) (l : List Int), e = .returned v ∧ Small l ∧ Own 3 1 w.heap.size w'.heap.size w' v l.length (ints .i64 l) ∧ Cur c g w' ∧ w.grownBy w' (some g)

set_option maxHeartbeats 1000000 in
theorem l2Nums (c : Code) (g : Nat) (w : World) (h : Cur c g w) :
    Calls Try.prog 40 #[.pointer (some ⟨g, 0, none⟩)] w (DrewSmall c g w) := by
  have hlt := h.lt
  have hal := h.1.lt
  have hown0 := own_lit (e := 3) (size := 1) w #[] 0 (Nat.zero_le _) rfl
  have hcur0 := h.alloc (.cells #[] 3)
  have hgr0 := grownBy_alloc w (.cells #[] 3) (some g)
  go_enter Try.func40, Try.ntmps40
  go_wp2_with fail
  refine (l1IntLitAt c g (w.heap.size + 1) [1, 2, 8, 200, 70000] 5 (w.alloc (.cells #[] 3)) (by simp) rfl (by omega) (by omega) hcur0 _ rfl).mono ?_
  rintro e w1 ⟨most, rfl, hmost, hc1, hg1⟩
  have hm0 := (by decide : ∀ x ∈ ([1, 2, 8, 200, 70000] : List Int), 0 < x ∧ x ≤ 70000) most hmost
  obtain ⟨hm0, hm1⟩ := hm0
  clear hmost
  have hown1 := (hown0.draw hg1 hlt).wide hg1.size
  have hgr1 := hgr0.trans hg1
  clear hown0 hcur0 hgr0 hg1
  go_wp2_with fail
  refine (l1Below c g _ _ hc1).mono ?_
  rintro e w2 ⟨x, rfl, hx, hc2, hg2⟩
  have hxm : x ≤ 7 := by omega
  have hx0 := hx.1
  clear hx
  have hown2 := (hown1.draw hg2 hlt).wide hg2.size
  have hgr2 := hgr1.trans hg2
  clear hown1 hgr1 hg2 hc1
  go_wp2
  go_loopw [3, 5] (fun v i wr => ∃ (t : Int) (l : List Int), i = .int .i64 t ∧ 0 ≤ t ∧ l.length + t ≤ 7 ∧ (∀ y ∈ l, 0 ≤ y ∧ y < 70000) ∧ Own 3 1 w.heap.size wr.heap.size wr v l.length (ints .i64 l) ∧ Cur c g wr ∧ w.grownBy wr (some g)) (fun _ i _ => (intOf i).toNat)
  case atStart => exact ⟨x, [], rfl, hx0, by simpa using hxm, by simp, hown2, hc2, hgr2⟩
  case round =>
    obtain ⟨t, l, rfl, ht0, hll, hel, hown, hcur, hgr⟩ := hrel
    have HEL := Lib.hid hel
    clear hown2 hc2 hgr2 hel
    generalize hLN : l.length = ln at hown hll
    have HLN := Lib.hid hLN
    clear hLN
    by_cases hlk : 0 < t
    · go_wp2_with fail
      refine (l1Below c g _ _ hcur).mono ?_
      rintro e w2 ⟨y, rfl, hy, hc2, hg2⟩
      have HY : Hid (0 ≤ y ∧ y < 70000) := ⟨hy.1, by omega⟩
      clear hy
      have hown2 := (hown.draw hg2 hlt).wide hg2.size
      have hgr2 := hgr.trans hg2
      clear hown hcur hgr hg2
      go_wp2_with (at_builtin; refine append1_law Try.elemInts rfl _ _ rfl _ _ _ _ _ (.int .i64 y) rfl rfl hown2 rfl (by unfold maxLen; omega) (by omega) ?_)
      intro v' w3 hown3 hext3
      have hc3 := hc2.own hown2 hext3 hlt hal
      have hgr3 := ext_grown hgr2 hown2 (Nat.le_refl _) hext3
      have R := Lib.hid hown3
      clear hown3 hext3 hown2 hgr2 hc2
      go_wp2
      go_roundw
      case rel =>
        have e : (l ++ [y]).length = ln + 1 := by simp [HLN.out]
        refine ⟨t - 1, l ++ [y], rfl, by omega, by rw [e]; omega, ?_, ?_, hc3, hgr3⟩
        · intro z hz
          simp at hz
          rcases hz with hz | rfl
          · exact HEL.out z hz
          · exact HY.out
        · rw [e, ints_append]
          exact R.out
      case measure => simp [intOf]; omega
    · go_wp2
      go_ret
      refine ⟨_, l, rfl, ⟨by have := HLN.out; omega, HEL.out⟩, ?_, hcur, hgr⟩
      rw [HLN.out]
      exact hown

set_option maxHeartbeats 400000 in
theorem drawWidthOf (c : Code) (w : World) (h : c.In w) :
    Calls Try.prog 25 #[.slice c.a c.len c.cap] w fun e w' => ∃ x : Int, e = .returned (.int .i64 x) ∧ Below w.heap.size w w' := by
  go_enter Try.func25, Try.ntmps25
  go_wp2_with fail
  refine (l1New c _ h).mono ?_
  rintro e w1 ⟨rfl, hc1, hb1⟩
  go_wp2_with fail
  refine (l1Below c _ _ _ hc1).mono ?_
  rintro e w2 ⟨y, rfl, hy, hc2, hg2⟩
  clear hy
  have hb2 := below_cur hb1 hg2
  go_wp2_with fail
  refine (l1IntLit c _ [0, 1, 2, 3, 4, 255, 256, 2147483647, 2147483648, -1, y] 11 w2 rfl (by omega) (by omega) hc2 _ rfl).mono ?_
  rintro e w3 ⟨x, rfl, hx, hc3, hg3⟩
  clear hx
  go_wp2
  go_ret
  exact ⟨_, rfl, below_cur hb1 (hg2.trans hg3)⟩

theorem drawBytesFor (c : Code) (w : World) (h : c.In w) :
    Calls Try.prog 26 #[.slice c.a c.len c.cap] w fun e w' => ∃ x y : Int, e = .returned (.tuple #[.int .i64 x, .int .i64 y]) ∧ Below w.heap.size w w' := by
  go_enter Try.func26, Try.ntmps26
  go_wp2_with fail
  refine (l1New c _ h).mono ?_
  rintro e w1 ⟨rfl, hc1, hb1⟩
  go_wp2_with fail
  refine (l1Below c _ _ _ hc1).mono ?_
  rintro e w2 ⟨x, rfl, hx, hc2, hg2⟩
  go_wp2_with fail
  refine (l1Below c _ _ _ hc2).mono ?_
  rintro e w3 ⟨y, rfl, hy, hc3, hg3⟩
  go_wp2
  go_ret2
  exact ⟨_, _, rfl, below_cur hb1 (hg2.trans hg3)⟩

set_option maxHeartbeats 400000 in
theorem drawBitAt (c : Code) (w : World) (h : c.In w) :
    Calls Try.prog 27 #[.slice c.a c.len c.cap] w fun e w' => ∃ (v : Value) (zs : List Int) (x : Int), e = .returned (.tuple #[v, .int .i64 x]) ∧ Num.Bytes zs ∧ zs.length ≤ 3 ∧ -2 ≤ x ∧ x ≤ 31 ∧ Own 5 1 w.heap.size w'.heap.size w' v zs.length (ints .u8 zs) ∧ Below w.heap.size w w' := by
  go_enter Try.func27, Try.ntmps27
  go_wp2_with fail
  refine (l1New c _ h).mono ?_
  rintro e w1 ⟨rfl, hc1, hb1⟩
  go_wp2_with fail
  refine (l1Below c _ _ _ hc1).mono ?_
  rintro e w2 ⟨x, rfl, hx, hc2, hg2⟩
  go_wp2_with fail
  refine (l1Bytes c _ _ _ hx.1 (by omega) hc2).mono ?_
  rintro e w3 ⟨v, zs, rfl, hby, hlen, hown, hc3, hg3⟩
  go_wp2_with fail
  refine (l1Below c _ _ _ hc3).mono ?_
  rintro e w4 ⟨y, rfl, hy, hc4, hg4⟩
  have hlt := hc2.lt
  have hlt1 := hc1.lt
  have hown4 := (hown.draw hg4 hlt).wide hg4.size
  have hs := hg2.size
  have hl3 : zs.length ≤ 3 := by omega
  have hsz := hb1.size
  go_wp2
  go_ret2
  exact ⟨_, zs, _, rfl, hby, hl3, by omega, by omega, hown4.lower (by omega), below_cur hb1 ((hg2.trans hg3).trans hg4)⟩

end Go.Proofs.Ytjakkpjkdboofaa
