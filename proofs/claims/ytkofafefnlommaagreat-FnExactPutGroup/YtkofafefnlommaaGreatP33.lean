/- Texts of this claim, one behind the other: IBack. -/
import Derived.Test.YtkofafefnlommaaGreatP5
import Derived.Test.YtkofafefnlommaaGreatP17
import Derived.RangeFuncNested
import Derived.RangeFuncBound
import Derived.RangeFuncCalls
import Derived.RangeFuncLeaves
import Derived.Shelf.Abstract
import Derived.Shelf.RegionOpen
import Derived.WalkKit
import Derived.OwnWalkIn
import Derived.TacticsInMore
import Derived.LoopNIn
import Derived.LoopIn

/- slices.Backward at Vals, an iterator: its contract, for every loop body that keeps what lay below and the slice's own box. -/
namespace Go.Proofs.YtkofafefnlommaaGreat
open Go.RowKit Go.Shelf

attribute [local go_sem] Oper.semAt_some

/-- What a round is handed: the index and the value there. -/
def bcs (l : List V) {m : Nat} (k : Fin m) : Array Value := #[.int .i64 (k.1 : Int), (l.getD k.1 V.zero).agg]
/-- What a round keeps. -/
def KeepB (B Bs : Nat) (W W' : World) : Prop := Below B W W' ∧ W'.heap[Bs]? = W.heap[Bs]?
theorem keepB_t {B Bs : Nat} {X Y Z : World} (h : KeepB B Bs X Y) (k : KeepB B Bs Y Z) : KeepB B Bs X Z := ⟨h.1.trans k.1, k.2.trans h.2⟩
theorem keepB_b {B Bs : Nat} {w : World} (hn : B ≤ w.heap.size) (hs : Bs < w.heap.size) (W : World) (l : Nat) (o o' : Obj) (hl : w.heap.size ≤ l) (h : W.heap[l]? = some o) (h1 : o.isCells = false) (h2 : o.isWalk = false) : KeepB B Bs W (W.putObj l o') :=
  ⟨belowK_b hn W l o o' hl h h1 h2, World.putObj_heap_other (by omega)⟩
theorem back_take_succ {m T : Nat} (h : T < m) : (List.finRange m).reverse.take (m - T) = (List.finRange m).reverse.take (m - (T + 1)) ++ [⟨T, h⟩] := by
  have hl : m - (T + 1) < (List.finRange m).reverse.length := by simp; omega
  rw [show m - T = m - (T + 1) + 1 by omega, List.take_succ_eq_append_getElem hl]
  congr 2
  simp
  omega

set_option maxRecDepth 100000 in
set_option maxHeartbeats 2000000 in
theorem back1_in (F : Fence) (n : Nat) (hF : F.fn 208) (hro : F.round = none) (hn : 1 ≤ n) (lp Bs m cap : Nat) (a : Option Addr) (l : List V) (w₀ : World) (hm : m ≤ maxLen)
    (HC : Hid (∀ k, k < m → ∃ b off, a = some ⟨b, off, none⟩ ∧ w₀.cell? ⟨b, off + k * 3, none⟩ = some (.int .i64 (l.getD k V.zero).ty) ∧ w₀.cell? ⟨b, off + k * 3 + 1, none⟩ = some (.int .i64 (l.getD k V.zero).n) ∧ w₀.cell? ⟨b, off + k * 3 + 2, none⟩ = some (.string (l.getD k V.zero).s)))
    (J Jx : List (Fin m) → World → Prop)
    (hY : ∀ pre x W, J pre W → pre.length < m → YieldAt F (n - 1) Tryz.prog lp (bcs l x) W fun e W' =>
      (e = .returned (.bool true) ∧ J (pre ++ [x]) W' ∧ KeepB w₀.heap.size Bs W W') ∨ (e = .returned (.bool false) ∧ Jx (pre ++ [x]) W'))
    (W : World) (hW : Below w₀.heap.size w₀ W) (hBs : W.cell? ⟨Bs, 0, none⟩ = some (.slice a m cap)) (h0 : J [] W) :
    CallsIn F n Tryz.prog 208 #[.func (.yield lp) #[] #[], .pointer (some ⟨Bs, 0, none⟩)] W fun e W' => (∃ v, e = .returned v) ∧
      ((∃ ys, ys = (List.finRange m).reverse ∧ J ys W') ∨ (∃ pre, True ∧ Jx pre W')) := by
  unfold maxLen at hm
  refine callsIn_of_wp Tryz.func208 rfl hF ?_ hro
  simp only [Tryz.ntmps208, List.size_toArray, List.length_cons, List.length_nil, Nat.reduceAdd, Nat.reduceSub, Array.replicate_succ, Array.replicate_zero, List.push_toArray, List.append_toArray, List.nil_append, List.cons_append]
  gi_wp2
  gi_loopw [3] (fun i wr => ∃ t : Nat, t ≤ m ∧ i = .int .i64 ((t : Int) - 1) ∧ J ((List.finRange m).reverse.take (m - t)) wr ∧ Below w₀.heap.size w₀ wr ∧ wr.cell? ⟨Bs, 0, none⟩ = some (.slice a m cap))
    (fun i _ => (intOf i + 1).toNat)
  case atStart => exact ⟨m, Nat.le_refl _, by go_num, by rw [Nat.sub_self]; exact h0, hW, hBs⟩
  case round =>
    obtain ⟨t, ht, rfl, hJs, hnx, hbs⟩ := hrel
    by_cases hlt : 0 < t
    · obtain ⟨T, rfl⟩ : ∃ T, t = T + 1 := ⟨t - 1, by omega⟩
      rw [show (((T + 1 : Nat) : Int) - 1) = (T : Int) by omega]
      obtain ⟨b, off, rfl, p0, p1, p2⟩ := HC.out T (by omega)
      have HY := Lib.hid (hY _ ⟨T, ht⟩ wr hJs (by simp; omega))
      rw [← back_take_succ ht] at HY
      unfold bcs at HY
      simp only at HY
      generalize l.getD T V.zero = x at p0 p1 p2 HY
      obtain ⟨t1, n1, s1⟩ := x
      simp only at p0 p1 p2 HY
      replace p0 := (hnx.cell (p := ⟨b, off + T * 3, none⟩) (lt_of_cell p0)).trans p0
      replace p1 := (hnx.cell (p := ⟨b, off + T * 3 + 1, none⟩) (lt_of_cell p1)).trans p1
      replace p2 := (hnx.cell (p := ⟨b, off + T * 3 + 2, none⟩) (lt_of_cell p2)).trans p2
      obtain ⟨fn, tmps, assign, body, hy, hR⟩ := HY.out
      clear hY hJs HY
      gi_wp2
      refine hR.mono ?_
      rintro e W3 (⟨rfl, hJ3, hk3⟩ | ⟨rfl, hJx3⟩)
      · have hb3 : W3.cell? ⟨Bs, 0, none⟩ = some (.slice (some ⟨b, off, none⟩) m cap) := by rw [World.cell?_of_block (w := wr) hk3.2]; exact hbs
        have HN := Lib.hid (hnx.trans hk3.1)
        clear p0 p1 p2 hy hR hk3 hbs hnx
        gi_wp2
        go_roundw
        case rel => exact ⟨T, by omega, by go_num, hJ3, HN.out, hb3⟩
        case measure => simp [intOf]
      · clear p0 p1 p2 hy hR
        gi_wp2
        refine bodyPost_ret (results_none rfl _ _ _) rfl ?_
        exact ⟨⟨_, rfl⟩, .inr ⟨_, trivial, hJx3⟩⟩
    · obtain rfl : t = 0 := by omega
      gi_wp2
      go_end0
      exact ⟨⟨_, rfl⟩, .inl ⟨_, by rw [List.take_of_length_le (by simp)], hJs⟩⟩

theorem back_in (F : Fence) (n : Nat) (hF : F.fn 195) (hro : F.round = none) (a : Option Addr) (m cap : Nat) (w : World) :
    CallsIn F n Tryz.prog 195 #[.slice a m cap] w fun e w' => e = .returned (.func (.func 208) #[] #[.pointer (some ⟨w.heap.size, 0, none⟩)]) ∧ w' = w.alloc (.cells #[.slice a m cap] 55) := by
  refine callsIn_of_wp Tryz.func195 rfl hF ?_ hro
  simp only [Tryz.ntmps195, List.size_toArray, List.length_cons, List.length_nil, Nat.reduceAdd, Nat.reduceSub, Array.replicate_succ, Array.replicate_zero, List.push_toArray, List.append_toArray, List.nil_append, List.cons_append]
  gi_wp2
  go_ret
  exact ⟨rfl, rfl⟩

/-- Every value with its index, from the last to the first; or some of them, where a round has said that it wants no more. -/
theorem back_stops (F : Fence) (n : Nat) (hF : F.fn 208) (hro : F.round = none) (hn : 1 ≤ n) (Bs m cap : Nat) (a : Option Addr) (l : List V) (w₀ w : World) (hm : m ≤ maxLen) (hl : l.length = m) (hR : Rd 3 w₀ (.slice a m cap) m (vals l))
    (hw : Below w₀.heap.size w₀ w) (hBs : Bs < w.heap.size) (hc : w.cell? ⟨Bs, 0, none⟩ = some (.slice a m cap)) :
    SeqStopsK F n Tryz.prog 208 #[.pointer (some ⟨Bs, 0, none⟩)] (bcs l (m := m)) (KeepB w₀.heap.size Bs) (fun ys => ys = (List.finRange m).reverse) (fun _ => True) m w := fun lp J Jx W hW _ _ hY h0 => by
  have hc' := (hW.cell (p := ⟨Bs, 0, none⟩) hBs).trans hc
  obtain ⟨a', cap', e, _, HC⟩ := hR.vals hl
  cases e
  exact back1_in F n hF hro hn lp Bs m cap a l w₀ hm HC J Jx hY W (hw.trans (hW.mono hw.size)) hc' h0

end Go.Proofs.YtkofafefnlommaaGreat
