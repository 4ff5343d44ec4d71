/- The law FnNums, walked: DrawPutNum, big, at, and the law. -/
import Derived.Test.YthbnnjajgfgnoaaDrawMore
import Derived.Test.YthbnnjajgfgnoaaSGet
import Derived.Test.YthbnnjajgfgnoaaSame
namespace Go.Proofs.Ythbnnjajgfgnoaa
open Go.RowKit

theorem big_yes (a : Option Addr) (len cap : Nat) (w : World) (h : 1048576 < len) : Calls Try.prog 12 #[.slice a len cap] w fun e w' => e = .returned (.bool true) ∧ w = w' := by
  go_enter Try.func12, Try.ntmps12
  go_wp2
  go_ret
  exact ⟨ret_bool (decide_eq_true (by omega)), rfl⟩
theorem big_no (a : Option Addr) (len cap : Nat) (w : World) (h : len ≤ 1048576) : Calls Try.prog 12 #[.slice a len cap] w fun e w' => e = .returned (.bool false) ∧ w = w' := by
  go_enter Try.func12, Try.ntmps12
  go_wp2
  go_ret
  exact ⟨ret_bool (decide_eq_false (by omega)), rfl⟩

theorem at_ (c : Code) (i : Nat) (w : World) (hi : i ≤ 1000) (h : c.In w) :
    Calls Try.prog 18 #[.slice c.a c.len c.cap, .int .i64 i] w fun e w' => ∃ x : Int, e = .returned (.int .i64 x) ∧ 0 ≤ x ∧ x ≤ 255 ∧ w = w' := by
  obtain ⟨a, len, cap, zs⟩ := c
  obtain ⟨⟨hz, ha⟩, hby, hsm⟩ := h
  simp only at *
  by_cases hlt : i < len
  · rcases ha with h0 | ⟨b, off, rfl, hc⟩
    · omega
    · have hcx : w.cell? ⟨b, off + i, none⟩ = some (.int .u8 (zs.getD i 0)) := hc i hlt
      have hcb := hby (zs.getD i 0) (getD_mem' (by omega))
      generalize zs.getD i 0 = z at hcx hcb
      obtain ⟨hz0, hz1⟩ := hcb
      clear hc hz
      go_enter Try.func18, Try.ntmps18
      go_wp2
      go_ret
      exact ⟨z, rfl, hz0, hz1, rfl⟩
  · clear ha hz
    go_enter Try.func18, Try.ntmps18
    go_wp2
    go_ret
    exact ⟨_, rfl, by omega, by omega, rfl⟩

/-- What DrawPutNum returns: bytes and an integer. -/
def DrewPut (w : World) (e : Ending) (w' : World) : Prop :=
  ∃ (v : Value) (zs : List Int) (x : Int), e = .returned (.tuple #[v, .int .i64 x]) ∧ Num.Bytes zs ∧ zs.length ≤ 1000 ∧ Own 5 1 w.heap.size w'.heap.size w' v zs.length (ints .u8 zs) ∧ Below w.heap.size w w'

set_option maxHeartbeats 400000 in
theorem drawPutNum (c : Code) (w : World) (h : c.In w) :
    Calls Try.prog 13 #[.slice c.a c.len c.cap] w (DrewPut w) := by
  go_enter Try.func13, Try.ntmps13
  go_wp2_with fail
  refine (l1New c _ h).mono ?_
  rintro e w1 ⟨rfl, hc1, hb1⟩
  go_wp2_with fail
  refine (l1Below c _ _ _ hc1).mono ?_
  rintro e w2 ⟨x, rfl, hx, hc2, hg2⟩
  go_wp2_with fail
  refine (l1Bytes c _ _ _ hx.1 (by omega) hc2).mono ?_
  rintro e w3 ⟨v, zs, rfl, hby, hlen, hown, hc3, hg3⟩
  go_wp2_with fail
  refine (l1One c _ _ hc3).mono ?_
  rintro e w4 ⟨y, rfl, _, hc4, hg4⟩
  have hlt := hc1.lt
  have hs2 := hg2.size
  have hown4 := ((hown.draw hg4 (by omega)).wide hg4.size).lower (lo' := w.heap.size) (by omega)
  have hbt := below_cur hb1 ((hg2.trans hg3).trans hg4)
  clear hown
  go_wp2
  go_ret2
  exact ⟨v, zs, y, rfl, hby, by omega, hown4, hbt⟩

theorem Code.In.below {c : Code} {w w' : World} (h : c.In w) (hb : Below w.heap.size w w') : c.In w' := ⟨h.arg.below hb, h.byt, h.small⟩
/-- An owned value, its shape laid open. -/
theorem Own.shape {e size lo hi w v n xs} (h : Own e size lo hi w v n xs) : ∃ g cap, v = .slice (some ⟨g, 0, none⟩) n cap := by
  obtain ⟨g, cap, rfl, _⟩ := h
  exact ⟨g, cap, rfl⟩

theorem ints_one_app (P : List Int) (y : Int) : ints .u8 (P ++ [y]) = ints .u8 P ++ [.int .u8 y] := by simp [ints]

set_option maxHeartbeats 1000000 in
theorem lawNums (c : Code) (w : World) (h : c.len ≤ 1048576 → c.In w) :
    Calls Try.prog 3 #[.slice c.a c.len c.cap] w fun e w' => e = .returned (.bool true) ∧ Below w.heap.size w w' := by
  by_cases hbig : 1048576 < c.len
  · go_enter Try.func3, Try.ntmps3
    go_wp2_with (go_at_call 12; refine (big_yes _ _ _ _ hbig).mono ?_; rintro e w' ⟨rfl, rfl⟩)
    go_ret
    exact ⟨rfl, Below.refl _ _⟩
  · have hin := h (by omega)
    clear h
    go_enter Try.func3, Try.ntmps3
    go_wp2_with fail
    refine (big_no _ _ _ _ (by omega)).mono ?_
    rintro e w' ⟨rfl, rfl⟩
    go_wp2_with fail
    refine (drawPutNum c _ hin).mono ?_
    rintro e w1 ⟨v, zs, x, rfl, hby, hzl, ob, hb1⟩
    have hPl := Num.put_len zs x
    have hPb := Num.put_bytes hby x
    have HP2 : Hid (Num.okB x = false → Num.put zs x = zs) := fun h => Num.put_no (Num.okB_false.1 h)
    have HG : Hid (∀ y, Num.okB x = true → Num.get (Num.put zs x ++ [y]) zs.length = (x, ((Num.put zs x).length : Int), true)) := fun y h => Num.get_put (Num.okB_true.1 h)
    have hzg : Hid (Num.okB x = true → Num.zag (Num.zig x) = x) := fun h => Num.zag_zig (Num.okB_true.1 h)
    go_wp2_with fail
    refine (iPutNum v _ zs x _ (by omega) rfl (.inr ob.at)).mono ?_
    rintro e w2 ⟨p, rfl, op, hb2⟩
    have z2 := hb2.size
    replace ob := ob.below hb2 (Nat.le_refl _)
    have bt := below_then hb1 hb2 hb1.size
    go_wp2_with fail
    refine (sPutNum v _ zs x _ (by omega) rfl ob.at).mono ?_
    rintro e w3 ⟨q, rfl, oq, hb3⟩
    have z3 := hb3.size
    replace ob := ob.below hb3 (by omega)
    replace op := op.below hb3 (by omega)
    replace bt := below_then bt hb3 (by have := bt.size; omega)
    go_wp2_with fail
    refine (same p q _ (Num.put zs x) _ rfl op.at oq.at).mono ?_
    rintro e w4 ⟨rfl, hb4⟩
    have z4 := hb4.size
    replace ob := ob.below hb4 (by omega)
    replace op := op.below hb4 (by omega)
    replace bt := below_then bt hb4 (by have := bt.size; omega)
    clear oq hb1 hb2 hb3 hb4
    cases hok : Num.okB x with
    | false =>
      have hr : ¬ (-1000000000 ≤ x ∧ x ≤ 1000000000) := Num.okB_false.1 hok
      rw [HP2.out hok] at op
      by_cases hlo : x < -1000000000
      · clear hr
        go_wp2_with fail
        refine (same p v _ zs _ rfl op.at ob.at).mono ?_
        rintro e w5 ⟨rfl, hb5⟩
        replace bt := below_then bt hb5 (by have := bt.size; omega)
        go_wp2
        go_ret
        exact ⟨rfl, bt⟩
      · have hhi : 1000000000 < x := by omega
        clear hr
        go_wp2_with fail
        refine (same p v _ zs _ rfl op.at ob.at).mono ?_
        rintro e w5 ⟨rfl, hb5⟩
        replace bt := below_then bt hb5 (by have := bt.size; omega)
        go_wp2
        go_ret
        exact ⟨rfl, bt⟩
    | true =>
      have hr : -1000000000 ≤ x ∧ x ≤ 1000000000 := Num.okB_true.1 hok
      obtain ⟨hr0, hr1⟩ := hr
      have HG2 : Hid (∀ y, Num.get (Num.put zs x ++ [y]) zs.length = (x, ((Num.put zs x).length : Int), true)) := fun y => HG.out y hok
      have HZG := Lib.hid (hzg.out hok)
      generalize hP : Num.put zs x = P at *
      clear HP2 HG hzg hP
      generalize hn : P.length = n at *
      have HN := Lib.hid hn
      clear hn
      obtain ⟨gp, cp, rfl⟩ := op.shape
      obtain ⟨gb, cb, rfl⟩ := ob.shape
      have hown0 := own_lit (e := 5) (size := 1) w4 #[] 0 (Nat.zero_le _) rfl
      have hb0 := below_alloc w4 (.cells #[] 5)
      have HC : Hid (∀ j u, (ints .u8 P)[j]? = some u → (w4.alloc (.cells #[] 5)).cell? ⟨gp, 0 + j, none⟩ = some u) := by
        obtain ⟨b', o', c', he, _, _, _, hc⟩ := (op.below hb0 (by omega)).at
        simp at he
        obtain ⟨⟨rfl, rfl⟩, _⟩ := he
        exact hc
      have HL : Hid ((ints .u8 P).length = n * 1) := by rw [ints_len, HN.out]; exact (Nat.mul_one _).symm
      go_wp2_with (at_builtin; refine append_law Try.elemBytes rfl _ _ rfl _ _ _ _ _ rfl hown0 gp 0 n cp (ints .u8 P) rfl HL.out HC.out (ints_one _ _) (by unfold maxLen; omega) (by omega) ?_)
      intro v5 w5 o5 e5
      have O5 : Own 5 1 w4.heap.size w5.heap.size w5 v5 n (ints .u8 P) := by simpa using o5
      have hb5 := hb0.trans (e5.below hown0)
      have b5 := below_then bt hb5 bt.size
      have z0 := bt.size
      clear o5 e5 hown0 hb0 HC HL hb5 bt
      go_wp2_with fail
      refine (at_ c 3 _ (by omega) (hin.below b5)).mono ?_
      rintro e w' ⟨y, rfl, hy0, hy1, rfl⟩
      go_wp2_with (at_builtin; refine append1_law Try.elemBytes rfl _ _ rfl _ _ _ _ _ (.int .u8 y) rfl rfl O5 rfl (by unfold maxLen; omega) (by omega) ?_)
      intro v6 w6 o6 e6
      have b6 := b5.trans ((e6.below O5).mono (by omega))
      have hg := HG2.out y
      have HG3 := Lib.hid hg
      have HB3 : Hid (Num.Bytes (P ++ [y])) := by
        intro t ht
        simp at ht
        rcases ht with ht | rfl
        · exact hPb t ht
        · exact ⟨hy0, hy1⟩
      have HL3 : Hid ((P ++ [y]).length = n + 1) := (List.length_append).trans (by rw [HN.out]; rfl)
      rw [← ints_one_app] at o6
      clear hg HG2 e6 O5 b5
      have hxx : (x == x) = true := by simp
      have hnn : ((n : Int) == (n : Int)) = true := by simp
      have hl5 : decide ((n : Int) - (zs.length : Int) ≤ 5) = true := by simp; omega
      go_wp2_with fail
      refine (iGetNum v6 (n + 1) (P ++ [y]) _ _ (by omega) HL3.out HB3.out o6.at).mono ?_
      rw [HG3.out]
      simp only [getRes]
      rintro e w' ⟨rfl, rfl⟩
      go_wp2_with (first | (go_at_call 20; refine (iZigZag _ _).mono ?_; rintro e w' ⟨rfl, rfl⟩) | (go_at_call 19; refine (iZagZig _ _).mono ?_; rw [HZG.out]; rintro e w' ⟨rfl, rfl⟩))
      go_ret
      exact ⟨rfl, b6⟩

end Go.Proofs.Ythbnnjajgfgnoaa
