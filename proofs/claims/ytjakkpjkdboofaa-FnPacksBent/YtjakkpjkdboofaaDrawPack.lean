/- The contracts of DrawPackBits and DrawUnpackBits. -/
import Derived.Test.YtjakkpjkdboofaaDraw2
namespace Go.Proofs.Ytjakkpjkdboofaa
open Go.RowKit

/-- What DrawPackBits returns. -/
def DrewPack (w : World) (e : Ending) (w' : World) : Prop :=
  ∃ (v : Value) (l : List Int) (x : Int), e = .returned (.tuple #[v, .int .i64 x]) ∧ l.length ≤ 8 ∧ (∀ y ∈ l, -1 ≤ y ∧ y < 70000) ∧ -1 ≤ x ∧ x ≤ 32 ∧ Own 3 1 w.heap.size w'.heap.size w' v l.length (ints .i64 l) ∧ Below w.heap.size w w'

set_option maxHeartbeats 1000000 in
theorem drawPackBits (c : Code) (w : World) (h : c.In w) :
    Calls Try.prog 12 #[.slice c.a c.len c.cap] w (DrewPack w) := by
  go_enter Try.func12, Try.ntmps12
  go_wp2_with fail
  refine (l1New c _ h).mono ?_
  rintro e w1 ⟨rfl, hc1, hb1⟩
  go_wp2_with fail
  refine (l2Nums c _ _ hc1).mono ?_
  rintro e w2 ⟨v, l, rfl, ⟨hl7, hel⟩, hown, hc2, hg2⟩
  have hlt := hc1.lt
  have HEL : Hid (∀ y ∈ l, -1 ≤ y ∧ y < 70000) := fun y hy => ⟨by have := (hel y hy).1; omega, (hel y hy).2⟩
  have hW31 := Bit.widthFor_le31 l
  go_wp2_with fail
  refine (sWidthFor v _ l _ rfl (.inr hown.at)).mono ?_
  rintro e w' ⟨rfl, rfl⟩
  generalize Bit.widthFor l = W at hW31
  go_wp2_with fail
  refine (l1Below c _ _ _ hc2).mono ?_
  rintro e w3 ⟨x, rfl, hx, hc3, hg3⟩
  have hx0 := hx.1
  have hx8 : x < 8 := by omega
  have hown3 := (hown.draw hg3 hlt).wide hg3.size
  have hg23 := hg2.trans hg3
  have hs1 := hb1.size
  clear hown hx hel
  generalize hLN : l.length = ln at hown3 hl7
  have HLN := Lib.hid hLN
  clear hLN
  by_cases e0 : x = 0
  · subst e0
    go_wp2_with fail
    refine (l1IntLit c _ [-1, 31, 32, (W : Int) - 1] 4 w3 rfl (by omega) (by omega) hc3 _ rfl).mono ?_
    rintro e w4 ⟨y, rfl, hy, hc4, hg4⟩
    have hyb : -1 ≤ y ∧ y ≤ 32 := by
      simp at hy
      omega
    have hown4 := (hown3.draw hg4 hlt).wide hg4.size
    clear hy hown3
    go_wp2
    go_ret2
    exact ⟨_, l, _, rfl, by rw [HLN.out]; omega, HEL.out, hyb.1, hyb.2, by rw [HLN.out]; exact hown4.lower (by omega), below_cur hb1 (hg23.trans hg4)⟩
  · have b0 : (x == 0) = false := by simp [e0]
    by_cases e1 : x = 1
    · subst e1
      go_wp2
      go_ret2
      exact ⟨_, l, _, rfl, by rw [HLN.out]; omega, HEL.out, by omega, by omega, by rw [HLN.out]; exact hown3.lower (by omega), below_cur hb1 hg23⟩
    · have b1 : (x == 1) = false := by simp [e1]
      by_cases e2 : x = 2
      · subst e2
        go_wp2_with (at_builtin; refine append1_law Try.elemInts rfl _ _ rfl _ _ _ _ _ (.int .i64 (-1)) rfl rfl hown3 rfl (by unfold maxLen; omega) (by omega) ?_)
        intro v4 w4 o4 e4
        have g4 := ext_grown hg23 hown3 (Nat.le_refl _) e4
        have HEL2 : Hid (∀ y ∈ l ++ [-1], -1 ≤ y ∧ y < 70000) := by
          intro y hy
          simp at hy
          rcases hy with hy | rfl
          · exact HEL.out y hy
          · omega
        have HL2 : Hid ((l ++ [-1]).length = ln + 1) := by
          show (l ++ [-1]).length = ln + 1
          simp [HLN.out]
        have R := Lib.hid o4
        clear o4 e4
        go_wp2
        go_ret2
        refine ⟨_, l ++ [-1], _, rfl, by rw [HL2.out]; omega, HEL2.out, by omega, by omega, ?_, below_cur hb1 g4⟩
        rw [HL2.out, ints_append]
        exact R.out.lower (by omega)
      · have b2 : (x == 2) = false := by simp [e2]
        go_wp2
        go_ret2
        exact ⟨_, l, _, rfl, by rw [HLN.out]; omega, HEL.out, by omega, by omega, by rw [HLN.out]; exact hown3.lower (by omega), below_cur hb1 hg23⟩

/-- What DrawUnpackBits returns. -/
def DrewUnpack (w : World) (e : Ending) (w' : World) : Prop :=
  ∃ (v : Value) (zs : List Int) (x k : Int), e = .returned (.tuple #[v, .int .i64 x, .int .i64 k]) ∧ Num.Bytes zs ∧ zs.length ≤ 29 ∧ -1 ≤ x ∧ x ≤ 32 ∧ -1 ≤ k ∧ k ≤ 65 ∧ Own 5 1 w.heap.size w'.heap.size w' v zs.length (ints .u8 zs) ∧ Below w.heap.size w w'

set_option maxHeartbeats 1000000 in
theorem drawUnpackBits (c : Code) (w : World) (h : c.In w) :
    Calls Try.prog 23 #[.slice c.a c.len c.cap] w (DrewUnpack w) := by
  go_enter Try.func23, Try.ntmps23
  go_wp2_with fail
  refine (l1New c _ h).mono ?_
  rintro e w1 ⟨rfl, hc1, hb1⟩
  go_wp2_with fail
  refine (l2Nums c _ _ hc1).mono ?_
  rintro e w2 ⟨v, l, rfl, ⟨hl7, hel⟩, hown, hc2, hg2⟩
  clear hel
  have hlt := hc2.lt
  have hs1 := hb1.size
  have hs2 := hg2.size
  have hb2 := below_cur hb1 hg2
  have hW31 := Bit.widthFor_le31 l
  have hpl := Bit.pack_le l (Bit.widthFor l)
  have hpb := Bit.pack_bytes l (Bit.widthFor l)
  have HPK := Lib.hid (sPackBits v _ l (Bit.widthFor l) w2 (by omega) rfl (.inr hown.at))
  obtain ⟨gv, cv, rfl⟩ : ∃ gv cv, v = .slice (some ⟨gv, 0, none⟩) l.length cv := by
    obtain ⟨gv, cv, rfl, _⟩ := hown
    exact ⟨gv, cv, rfl⟩
  go_wp2_with fail
  refine (sWidthFor _ _ l _ rfl (.inr hown.at)).mono ?_
  rintro e w' ⟨rfl, rfl⟩
  generalize Bit.widthFor l = W at hW31 hpl hpb HPK
  generalize Bit.pack l (W : Int) = zs at hpl hpb HPK
  clear hown
  generalize l.length = ln at hl7 hpl HPK
  go_wp2_with fail
  refine HPK.out.mono ?_
  rintro e w3 ⟨v3, rfl, hown3, hb3⟩
  have hc3 := hc2.below hb3
  have hb23 := below_then hb2 hb3 hb2.size
  have hs3 := hb3.size
  clear HPK hc2
  go_wp2_with fail
  refine (l1Below c _ _ _ hc3).mono ?_
  rintro e w4 ⟨x, rfl, hx, hc4, hg4⟩
  have hx0 := hx.1
  have hx8 : x < 8 := by omega
  have hown4 := (hown3.draw hg4 hlt).wide hg4.size
  have hb4 : Below w.heap.size w w4 := hb23.grown hg4 hb23.size (by simp)
  have hs4 := hg4.size
  clear hown3 hx hc3 hb23 hb2 hb3
  by_cases e0 : x = 0
  · subst e0
    go_wp2_with fail
    refine (l1IntLit c _ [-1, 0, (ln : Int) + 1, 65] 4 w4 rfl (by omega) (by omega) hc4 _ rfl).mono ?_
    rintro e w5 ⟨y, rfl, hy, hc5, hg5⟩
    have hyb : -1 ≤ y ∧ y ≤ 65 := by
      simp at hy
      omega
    have hown5 := (hown4.draw hg5 hlt).wide hg5.size
    have hb5 : Below w.heap.size w w5 := hb4.grown hg5 hb4.size (by simp)
    have hs5 := hg5.size
    clear hy hown4 hg5
    go_wp2_with fail
    refine (l1Bent c _ _ _ zs _ (by omega) rfl hpb hown5.at hc5).mono ?_
    rintro e w6 ⟨v6, z6, rfl, hby6, hl6, o6, hc6, hg6⟩
    go_wp2
    go_ret3
    exact ⟨_, z6, _, _, rfl, hby6, by omega, by omega, by omega, hyb.1, hyb.2, o6.lower (by omega), hb5.grown hg6 hb5.size (by simp)⟩
  · have b0 : (x == 0) = false := by simp [e0]
    by_cases e1 : x = 1
    · subst e1
      go_wp2_with fail
      refine (l1IntLit c _ [-1, 0, (W : Int) + 1, 32] 4 w4 rfl (by omega) (by omega) hc4 _ rfl).mono ?_
      rintro e w5 ⟨y, rfl, hy, hc5, hg5⟩
      have hyb : -1 ≤ y ∧ y ≤ 32 := by
        simp at hy
        omega
      have hown5 := (hown4.draw hg5 hlt).wide hg5.size
      have hb5 : Below w.heap.size w w5 := hb4.grown hg5 hb4.size (by simp)
      have hs5 := hg5.size
      clear hy hown4 hg5
      go_wp2_with fail
      refine (l1Bent c _ _ _ zs _ (by omega) rfl hpb hown5.at hc5).mono ?_
      rintro e w6 ⟨v6, z6, rfl, hby6, hl6, o6, hc6, hg6⟩
      go_wp2
      go_ret3
      exact ⟨_, z6, _, _, rfl, hby6, by omega, hyb.1, hyb.2, by omega, by omega, o6.lower (by omega), hb5.grown hg6 hb5.size (by simp)⟩
    · have b1 : (x == 1) = false := by simp [e1]
      clear e0 e1
      go_wp2_with fail
      refine (l1Bent c _ _ _ zs _ (by omega) rfl hpb hown4.at hc4).mono ?_
      rintro e w6 ⟨v6, z6, rfl, hby6, hl6, o6, hc6, hg6⟩
      go_wp2
      go_ret3
      exact ⟨_, z6, _, _, rfl, hby6, by omega, by omega, by omega, by omega, by omega, o6.lower (by omega), hb4.grown hg6 hb4.size (by simp)⟩

end Go.Proofs.Ytjakkpjkdboofaa
