/- Texts of this claim, one behind the other: IEach. -/
import Derived.Test.YtkofafefnlommaaP4
import Derived.RangeFuncNested
import Derived.RangeFuncBound
import Derived.RangeFuncCalls
import Derived.RangeFuncLeaves
import Derived.Shelf.Abstract
import Derived.Shelf.RegionOpen
import Derived.WalkKit
import Derived.OwnWalkIn
import Derived.TacticsInMore
import Derived.LoopNIn
import Derived.LoopIn

/- impl's eachColumn, an iterator over the values of a row: its contract, for every loop body that keeps what lay below. -/
namespace Go.Proofs.Ytkofafefnlommaa
open Go.RowKit Go.Shelf

attribute [local go_sem] Oper.semAt_some

/-- What a round is handed: the index and the value there. -/
def ecs (l : List V) {m : Nat} (k : Fin m) : Array Value := #[.int .i64 (k.1 : Int), (l.getD k.1 V.zero).agg]
theorem fin_take_succ {m k : Nat} (h : k < m) : (List.finRange m).take (k + 1) = (List.finRange m).take k ++ [⟨k, h⟩] := by
  rw [List.take_succ_eq_append_getElem (by simpa using h)]
  simp
theorem fin_map {l : List V} {m : Nat} (hl : l.length = m) : (List.finRange m).map (fun k => l.getD k.1 V.zero) = l := by
  subst hl
  apply List.ext_getElem
  · simp
  · intro i h1 h2
    simp

set_option maxRecDepth 100000 in
set_option maxHeartbeats 2000000 in
theorem each1_in (F : Fence) (n : Nat) (hF : F.fn 88) (hro : F.round = none) (hn : 1 ≤ n) (lp Bs m cap : Nat) (a : Option Addr) (l : List V) (w₀ : World) (hm : m ≤ maxLen)
    (HC : Hid (∀ k, k < m → ∃ b off, a = some ⟨b, off, none⟩ ∧ w₀.cell? ⟨b, off + k * 3, none⟩ = some (.int .i64 (l.getD k V.zero).ty) ∧ w₀.cell? ⟨b, off + k * 3 + 1, none⟩ = some (.int .i64 (l.getD k V.zero).n) ∧ w₀.cell? ⟨b, off + k * 3 + 2, none⟩ = some (.string (l.getD k V.zero).s)))
    (J Jx : List (Fin m) → World → Prop) (B : Nat) (hJ : AbidesFrom B J)
    (hY : ∀ pre x W, J pre W → pre.length < m → YieldAt F (n - 1) Try.prog lp (ecs l x) W fun e W' =>
      (e = .returned (.bool true) ∧ J (pre ++ [x]) W' ∧ Below w₀.heap.size W W') ∨ (e = .returned (.bool false) ∧ Jx (pre ++ [x]) W'))
    (W : World) (hW : Below w₀.heap.size w₀ W) (hBs : W.cell? ⟨Bs, 0, none⟩ = some (.slice a m cap)) (h0 : J [] W) :
    CallsIn F n Try.prog 88 #[.func (.yield lp) #[] #[], .pointer (some ⟨Bs, 0, none⟩)] W fun e W' => (∃ v, e = .returned v) ∧
      ((∃ ys, ys = List.finRange m ∧ J ys W') ∨ (∃ pre, True ∧ Jx pre W')) := by
  unfold maxLen at hm
  refine callsIn_of_wp Try.func88 rfl hF ?_ hro
  simp only [Try.ntmps88, List.size_toArray, List.length_cons, List.length_nil, Nat.reduceAdd, Nat.reduceSub, Array.replicate_succ, Array.replicate_zero, List.push_toArray, List.append_toArray, List.nil_append, List.cons_append]
  gi_wp2
  gi_loopw [7] (fun i wr => ∃ k : Nat, k ≤ m ∧ i = .int .i64 k ∧ J ((List.finRange m).take k) wr ∧ Below w₀.heap.size w₀ wr)
    (fun i _ => m - (intOf i).toNat)
  case atStart => exact ⟨0, Nat.zero_le _, rfl, h0, hW⟩
  case round =>
    obtain ⟨k, hk, rfl, hJs, hnx⟩ := hrel
    by_cases hlt : k < m
    · obtain ⟨b, off, rfl, p0, p1, p2⟩ := HC.out k hlt
      have hJ2 : ∀ o : Obj, J ((List.finRange m).take k) (wr.alloc o) := fun o => hJ _ wr _ none hJs (World.grownBy_alloc wr o none) (fun r e => by cases e)
      have HY := Lib.hid (fun W (h : J ((List.finRange m).take k) W) => hY _ ⟨k, hlt⟩ W h (by simp; omega))
      rw [← fin_take_succ hlt] at HY
      unfold ecs at HY
      simp only at HY
      have HJ2 := Lib.hid hJ2
      generalize l.getD k V.zero = x at p0 p1 p2 HY
      obtain ⟨t1, n1, s1⟩ := x
      simp only at p0 p1 p2 HY
      replace p0 := (hnx.cell (p := ⟨b, off + k * 3, none⟩) (lt_of_cell p0)).trans p0
      replace p1 := (hnx.cell (p := ⟨b, off + k * 3 + 1, none⟩) (lt_of_cell p1)).trans p1
      replace p2 := (hnx.cell (p := ⟨b, off + k * 3 + 2, none⟩) (lt_of_cell p2)).trans p2
      obtain ⟨fn, tmps, assign, body, hy, hR⟩ := HY.out _ (HJ2.out (.cells #[.int .i64 t1, .int .i64 n1, .string s1] 76))
      have HN : Hid (Below w₀.heap.size w₀ (wr.alloc (.cells #[.int .i64 t1, .int .i64 n1, .string s1] 76))) := hnx.alloc hnx.size _
      clear hJ2 hY hJs
      gi_wp2
      refine hR.mono ?_
      rintro e W3 (⟨rfl, hJ3, hk3⟩ | ⟨rfl, hJx3⟩)
      · clear p0 p1 p2 hy hR
        gi_wp2
        go_roundw
        case rel => exact ⟨k + 1, by omega, by go_num, hJ3, HN.out.trans hk3⟩
        case measure => simp [intOf]; omega
      · clear p0 p1 p2 hy hR
        gi_wp2
        refine bodyPost_ret (results_none rfl _ _ _) rfl ?_
        exact ⟨⟨_, rfl⟩, .inr ⟨_, trivial, hJx3⟩⟩
    · obtain rfl : k = m := by omega
      gi_wp2
      go_end0
      exact ⟨⟨_, rfl⟩, .inl ⟨_, by rw [List.take_of_length_le (by simp)], hJs⟩⟩

theorem each_in (F : Fence) (n : Nat) (hF : F.fn 82) (hro : F.round = none) (a : Option Addr) (m cap : Nat) (w : World) :
    CallsIn F n Try.prog 82 #[.slice a m cap] w fun e w' => e = .returned (.func (.func 88) #[] #[.pointer (some ⟨w.heap.size, 0, none⟩)]) ∧ w' = w.alloc (.cells #[.slice a m cap] 25) := by
  refine callsIn_of_wp Try.func82 rfl hF ?_ hro
  simp only [Try.ntmps82, List.size_toArray, List.length_cons, List.length_nil, Nat.reduceAdd, Nat.reduceSub, Array.replicate_succ, Array.replicate_zero, List.push_toArray, List.append_toArray, List.nil_append, List.cons_append]
  gi_wp2
  go_ret
  exact ⟨rfl, rfl⟩

/-- Every value with its index, in order; or some of them, where a round has said that it wants no more. -/
theorem each_stops (F : Fence) (n : Nat) (hF : F.fn 88) (hro : F.round = none) (hn : 1 ≤ n) (Bs m cap : Nat) (a : Option Addr) (l : List V) (w₀ w : World) (hm : m ≤ maxLen) (hl : l.length = m) (hR : Rd 3 w₀ (.slice a m cap) m (vals l))
    (hw : Below w₀.heap.size w₀ w) (hBs : Bs < w.heap.size) (hc : w.cell? ⟨Bs, 0, none⟩ = some (.slice a m cap)) :
    SeqStopsK F n Try.prog 88 #[.pointer (some ⟨Bs, 0, none⟩)] (ecs l (m := m)) (Below w₀.heap.size) (fun ys => ys = List.finRange m) (fun _ => True) m w := fun lp J Jx W hW hJ _ hY h0 => by
  have hc' := (hW.cell (p := ⟨Bs, 0, none⟩) hBs).trans hc
  obtain ⟨a', cap', e, _, HC⟩ := hR.vals hl
  cases e
  exact each1_in F n hF hro hn lp Bs m cap a l w₀ hm HC J Jx _ hJ hY W (hw.trans (hW.mono hw.size)) hc' h0

end Go.Proofs.Ytkofafefnlommaa
