/- Texts of this claim, one behind the other: I13i, I13q, Ch13p. -/
import Derived.Test.YtkofafefnlommaaP7
import Derived.Test.YtkofafefnlommaaP16
import Derived.Test.YtkofafefnlommaaP5
import Derived.Lib.Overlaps
import Derived.Lib.AppendZerosOnto
import Derived.Laws.NewBlocks
import Derived.Lib.JoinLaws
import Derived.Test.YtkofafefnlommaaP17

/- slices.Insert of one Row (written by mk_I13p.py). -/
namespace Go.Proofs.Ytkofafefnlommaa
open Go.RowKit

theorem copyRun_law {P : Program} {w w' : World} {ops : Array Oper} {rest : List Oper} {o : Oper} {a : Act} {Q : Exit → Act → World → Prop} (hgd : o.guard = none) (d s : Operand) (t t' : TypeId)
    (ho : o.op = .call { callee := .builtin .copy, args := #[d, s], argTypes := #[t, t'] }) (v u : Value) (hd : a.eval d = v) (hs : a.eval s = u) {v' : Value}
    (hr : ∀ ty, (Builtin.copy_ #[t, t'] ty #[v, u]).run P w = .ok v' w') (h : wpList P ops Q rest (a.put o.dst v') w') : wpList P ops Q (o :: rest) a w := by
  refine wpList_plain hgd fun K hK => ?_
  unfold Oper.wp execOp
  simp only [ho, resolve, invoke, builtin, Sem.run_bind, Sem.run_pure, Result.andThen_ok, List.map_toArray, List.map_cons, List.map_nil, hd, hs, hr o.type]
  exact hK _ _ h
theorem copyRun_op {P : Program} {w w' : World} {o : Oper} {a : Act} {K : Act → World → Prop} {Q : Exit → Act → World → Prop} (d s : Operand) (t t' : TypeId)
    (ho : o.op = .call { callee := .builtin .copy, args := #[d, s], argTypes := #[t, t'] }) (v u : Value) (hd : a.eval d = v) (hs : a.eval s = u) {v' : Value}
    (hr : ∀ ty, (Builtin.copy_ #[t, t'] ty #[v, u]).run P w = .ok v' w') (h : K (a.put o.dst v') w') : Oper.wp P o a w K Q := by
  unfold Oper.wp execOp
  simp only [ho, resolve, invoke, builtin, Sem.run_bind, Sem.run_pure, Result.andThen_ok, List.map_toArray, List.map_cons, List.map_nil, hd, hs, hr o.type]
  exact h
theorem cell_of_heap {w : World} {g : Nat} {cur : Array Value} {t : TypeId} {fr : Nat × Nat} (h : w.heap[g]? = some (.cells cur t fr)) (j : Nat) : w.cell? ⟨g, j, none⟩ = cur[j]? := by
  simp [World.cell?, h]

set_option maxRecDepth 100000 in
set_option maxHeartbeats 4000000 in
/-- At the end. -/
theorem insEnd (lo hi : Nat) (v : Value) (n : Nat) (xs : List Value) (vb : Nat) (k : Int) (u : Value) (w : World) (hown : Own 27 2 lo hi w v n xs) (hn : n ≤ 1048576) (hv : w.heap[vb]? = some (.cells #[.int .i64 k, u] 27 (0, 0))) (h1 : u.oneCell' = true) :
    Calls Try.prog 46 #[v, .int .i64 n, .slice (some ⟨vb, 0, none⟩) 1 1] w fun e w' => ∃ v', e = .returned v' ∧ Own 27 2 lo w'.heap.size w' v' (n + 1) (xs ++ [.int .i64 k, u]) ∧ Ext w w' v v' := by
  obtain ⟨g, cap, rfl, h2, h3, h4⟩ := id hown
  have hlo := hown.lo
  have hcap : n ≤ cap ∧ cap ≤ maxLen := by
    obtain ⟨g', cap', cur, e, _, _, _, h6, h7, _⟩ := hown.opened
    simp only [Value.slice.injEq, Option.some.injEq, Addr.mk.injEq, and_true, true_and] at e
    omega
  unfold maxLen at hcap
  have hnn : ((n : Int) == (n : Int)) = true := by simp
  have HV : Hid (∀ j x, [Value.int .i64 k, u][j]? = some x → w.cell? ⟨vb, 0 + j, none⟩ = some x) := fun j x hj => by
    rw [cell_of_heap hv]
    simpa using hj
  have H1 : Hid (∀ x ∈ [Value.int .i64 k, u], x.oneCell' = true) := fun x hx => by
    simp only [List.mem_cons, List.not_mem_nil, or_false] at hx
    rcases hx with rfl | rfl
    · rfl
    · exact h1
  clear h4 hv
  by_cases hc : cap = n
  case pos =>
    subst hc
    go_enter Try.func46, Try.ntmps46
    go_wp2_with (at_builtin; refine append_lawN Try.elemRows rfl _ _ rfl lo hi _ _ xs rfl (.inr hown) hlo vb 0 1 1 [.int .i64 k, u] rfl rfl HV.out H1.out (by omega) (by unfold maxLen; omega) (by omega) ?_)
    intro v' w' o' e'
    obtain ⟨g', c', hv'⟩ : ∃ g c, v' = .slice (some ⟨g, 0, none⟩) _ c := by obtain ⟨g, c, e, _⟩ := o'; exact ⟨g, c, e⟩
    subst hv'
    have O' := Lib.hid o'
    have E' := Lib.hid e'
    clear o' e'
    go_wp2
    go_ret
    exact ⟨_, rfl, O'.out, E'.out⟩
  case neg =>
    go_enter Try.func46, Try.ntmps46
    go_wp2_with (at_builtin; refine append_lawN Try.elemRows rfl _ _ rfl lo hi _ _ xs rfl (.inr hown) hlo vb 0 1 1 [.int .i64 k, u] rfl rfl HV.out H1.out (by omega) (by unfold maxLen; omega) (by omega) ?_)
    intro v' w' o' e'
    obtain ⟨g', c', hv'⟩ : ∃ g c, v' = .slice (some ⟨g, 0, none⟩) _ c := by obtain ⟨g, c, e, _⟩ := o'; exact ⟨g, c, e⟩
    subst hv'
    have O' := Lib.hid o'
    have E' := Lib.hid e'
    clear o' e'
    go_wp2
    go_ret
    exact ⟨_, rfl, O'.out, E'.out⟩

theorem size_of_elem : (Try.prog.info? 27).map (·.size) = some 2 := by kernel_rfl
theorem min_le' {a b : Nat} (h : a ≤ b) : Nat.min a b = a := Nat.min_eq_left h

set_option maxRecDepth 100000 in
set_option maxHeartbeats 4000000 in
/-- In place. -/
theorem insRoom (lo hi g n cap i : Nat) (xs : List Value) (vb : Nat) (k : Int) (u : Value) (w : World) (hown : Own 27 2 lo hi w (.slice (some ⟨g, 0, none⟩) n cap) n xs) (hn : n ≤ 1048576) (hin : i < n) (hroom : n + 1 ≤ cap) (hone : ∀ x ∈ xs, x.oneCell' = true) (hne : vb ≠ g) (hv : w.heap[vb]? = some (.cells #[.int .i64 k, u] 27 (0, 0))) (h1 : u.oneCell' = true) :
    Calls Try.prog 46 #[.slice (some ⟨g, 0, none⟩) n cap, .int .i64 i, .slice (some ⟨vb, 0, none⟩) 1 1] w fun e w' => ∃ v', e = .returned v' ∧ Own 27 2 lo w'.heap.size w' v' (n + 1) (xs.take (i * 2) ++ [.int .i64 k, u] ++ xs.drop (i * 2)) ∧ Ext w w' (.slice (some ⟨g, 0, none⟩) n cap) v' := by
  obtain ⟨g', cap', cur, e, hlo, hhi, hg, hnc, hcm, hcs, htk, hxl⟩ := hown.opened
  simp only [Value.slice.injEq, Option.some.injEq, Addr.mk.injEq, and_true, true_and] at e
  obtain ⟨rfl, rfl⟩ := e
  unfold maxLen at hcm
  have hov : ∀ lb cb, (callFunc 66 #[.slice (some ⟨vb, 0, none⟩) 1 1, .slice (some ⟨g, (i + 1) * 2, none⟩) lb cb]).run Try.prog w = .ok (.value (.bool false)) w := fun lb cb => by
    rw [run_callFunc_extern Try.func66 (by kernel_rfl) (by kernel_rfl) (by kernel_rfl) (e := Extern.SlicesOverlaps.overlaps #[24, 24] #[4]) (by kernel_rfl),
      Lib.run_overlaps_apart w 24 4 27 Try.underlying24 2 Try.sizeOf27 ⟨vb, 0, none⟩ ⟨g, (i + 1) * 2, none⟩ 1 1 lb cb hne 27 27 2 cur.size (by simp [World.shape?, hv]) (by simp [World.shape?, hg]) (by omega) (by simp [World.frozen?, hv]) (by simp [World.frozen?, hv])]
    rfl
  obtain ⟨hs1, hs2, hs3⟩ := shift_in cur.toList xs [.int .i64 k, u] (i * 2) 2 ((n - i) * 2) (by rw [hxl]; omega) (by rw [show i * 2 + (n - i) * 2 = n * 2 by omega]; exact htk) rfl (by rw [Array.length_toList, hcs]; omega)
  have hdl : (xs.drop (i * 2)).length = (n - i) * 2 := by rw [List.length_drop, hxl]; omega
  obtain ⟨X1, hX1⟩ : ∃ X1, X1 = cur.toList.take (i * 2 + 2) ++ xs.drop (i * 2) ++ cur.toList.drop (i * 2 + 2 + (n - i) * 2) := ⟨_, rfl⟩
  rw [← hX1] at hs1 hs2 hs3
  obtain ⟨X2, hX2⟩ : ∃ X2, X2 = X1.take (i * 2) ++ [.int .i64 k, u] ++ X1.drop (i * 2 + 2) := ⟨_, rfl⟩
  rw [← hX2] at hs1 hs3
  have hcell : ∀ (W : World), W.heap = w.heap → ∀ j x, xs[j]? = some x → W.cell? ⟨g, j, none⟩ = some x := fun W hW j x hj => by
    rw [cell_of_heap (by rw [hW]; exact hg)]
    rw [← htk, List.getElem?_take] at hj
    split at hj
    · simpa using hj
    · cases hj
  have hcpA : ∀ (W : World), W.heap = w.heap → ∀ dc sc ty, (Builtin.copy_ #[24, 24] ty #[.slice (some ⟨g, (i + 1) * 2, none⟩) (n + 1 - (i + 1)) dc, .slice (some ⟨g, i * 2, none⟩) (n + 1 - i) sc]).run Try.prog W = .ok (goInt ((n - i : Nat) : Int)) (W.setRow g X1.toArray) := fun W hW dc sc ty => by
    have h := run_copy_rowK (P := Try.prog) 2 W 24 24 ty 27 g ((i + 1) * 2) (n + 1 - (i + 1)) dc ⟨g, i * 2, none⟩ (n + 1 - i) sc cur 27 (xs.drop (i * 2)) Try.underlying24 size_of_elem (by rw [hW]; exact hg) (by rw [hdl]; simp only [Nat.min_def]; split <;> omega)
      (fun j v hj => by
        rw [List.getElem?_drop] at hj
        rw [Addr.add_lit]
        exact hcell W hW _ _ hj) (by rw [hdl, hcs]; omega) (fun v hv => hone v (List.mem_of_mem_drop hv))
    have e1 : Nat.min (n + 1 - i) (n + 1 - (i + 1)) = n - i := by simp only [Nat.min_def]; split <;> omega
    rw [e1, show (i + 1) * 2 = i * 2 + 2 by omega, hdl, ← hX1] at h
    rw [show (i + 1) * 2 = i * 2 + 2 by omega]
    exact h
  obtain ⟨W1, hW1⟩ : ∃ W1, W1 = w.drew.setRow g X1.toArray := ⟨_, rfl⟩
  have hg1 : W1.heap[g]? = some (.cells X1.toArray 27 (0, 0)) := by rw [hW1]; exact setRow_heap w.drew g cur X1.toArray 27 (0, 0) hg
  have hv1 : W1.heap[vb]? = some (.cells #[.int .i64 k, u] 27 (0, 0)) := by rw [hW1, setRow_other _ _ _ _ hne]; exact hv
  have hcpB : ∀ (W : World), W.heap = W1.heap → ∀ dc ty, (Builtin.copy_ #[24, 24] ty #[.slice (some ⟨g, i * 2, none⟩) (n + 1 - i) dc, .slice (some ⟨vb, 0, none⟩) 1 1]).run Try.prog W = .ok (goInt 1) (W.setRow g X2.toArray) := fun W hW dc ty => by
    have h := run_copy_rowK (P := Try.prog) 2 W 24 24 ty 27 g (i * 2) (n + 1 - i) dc ⟨vb, 0, none⟩ 1 1 X1.toArray 27 [.int .i64 k, u] Try.underlying24 size_of_elem (by rw [hW]; exact hg1) (by simp only [Nat.min_def]; split <;> first | rfl | omega)
      (fun j v hj => by
        rw [Addr.add_lit, cell_of_heap (by rw [hW]; exact hv1)]
        simpa using hj) (by simp [hs2, hcs]; omega) (fun v hv => by simp at hv; rcases hv with rfl | rfl; rfl; exact h1)
    have e1 : Nat.min 1 (n + 1 - i) = 1 := by simp only [Nat.min_def]; split <;> omega
    rw [e1] at h
    rw [h, hX2]
    simp
  have HF : Hid (∀ (W : World), W.heap = (W1.setRow g X2.toArray).heap → W.os = w.os → W.tape = w.tape → W.output = w.output → Own 27 2 lo W.heap.size W (.slice (some ⟨g, 0, none⟩) (n + 1) cap) (n + 1) (xs.take (i * 2) ++ [.int .i64 k, u] ++ xs.drop (i * 2)) ∧ w.grownBy W (some g)) := fun W hW h5 h6 h7 => by
    have hsz : W.heap.size = w.heap.size := by rw [hW, size_setRow, hW1, size_setRow]; rfl
    have hgl := (hown.row.lt g rfl).2
    refine ⟨Own.closed hlo (by omega) (by rw [hW]; exact setRow_heap W1 g _ X2.toArray 27 (0, 0) hg1) hroom (by unfold maxLen; omega) (by simpa using hs3.trans (by simpa using hcs)) (by rw [← hs1]; congr 1; omega) (by rw [List.length_append, List.length_append, hdl, List.length_take, hxl]; simp; omega), ⟨h5, h6, h7, by omega, fun j hj hne => ?_⟩⟩
    have hjg : j ≠ g := fun e => hne (by rw [e])
    rw [hW, setRow_other _ _ _ _ hjg, hW1, setRow_other _ _ _ _ hjg]
    rfl
  have hb1 : ¬ (cap = i) := by omega
  have hb2 : ¬ (cap = i + 1) := by omega
  have hne1 : ((i : Int) == (n : Int)) = false := by simp; omega
  have hfit : ¬ ((cap : Int) < (n : Int) + 1) := by omega
  have hle1 : (n : Int) + 1 ≤ (cap : Int) := by omega
  have htn1 : ((i : Int) + 1).toNat = i + 1 := by omega
  have htn2 : ((n : Int) + 1).toNat = n + 1 := by omega
  have hio : (i : Int) + 1 ≤ (n : Int) + 1 := by omega
  have hi0 : (i : Int) ≤ (n : Int) + 1 := by omega
  have hwi : IntKind.i64.wrap ((i : Int) + 1) = (i : Int) + 1 := by rw [IntKind.wrap_i64]; omega
  have HCA := Lib.hid hcpA
  have HCB := Lib.hid hcpB
  have HW1 := Lib.hid hW1
  clear hcell hs1 hs2 hs3 hX1 hX2 hdl htk hxl hcs hg hv hg1 hv1 hown hcpA hcpB hone h1 hW1 hnc hlo hhi
  go_enter Try.func46, Try.ntmps46
  go_wp2_with (simp only [hov])
  refine wp_region_held_drew (S := fun _ => True) (by kernel_rfl) trivial (fun hH => ?_)
  refine takeH (i := 0) (d := some 69) (v := .slice (some ⟨g, 0, none⟩) (n + 1) cap) rfl rfl (by kernel_rfl) (by kernel_rfl) (by kernel_rfl) (fun _ _ _ h => h) (Or.inl ⟨by rfl, fun W hSw => by go_simp <;> try omega⟩) hH ?_
  try simp only [put_some, List.set_cons_zero, List.set_cons_succ]
  refine takeH (i := 1) (d := some 70) (v := .int .i64 (i : Nat)) rfl rfl (by kernel_rfl) (by kernel_rfl) (by kernel_rfl) (fun _ _ _ h => h) (Or.inl ⟨by rfl, fun W hSw => by go_simp <;> try omega⟩) hH ?_
  try simp only [put_some, List.set_cons_zero, List.set_cons_succ]
  refine takeH (i := 2) (d := some 71) (v := .int .i64 1) rfl rfl (by kernel_rfl) (by kernel_rfl) (by kernel_rfl) (fun _ _ _ h => h) (Or.inl ⟨by rfl, fun W hSw => by go_simp <;> try omega⟩) hH ?_
  try simp only [put_some, List.set_cons_zero, List.set_cons_succ]
  refine takeH (i := 3) (d := some 72) (v := .int .i64 ((i : Int) + 1)) rfl rfl (by kernel_rfl) (by kernel_rfl) (by kernel_rfl) (fun _ _ _ h => h) (Or.inl ⟨by rfl, fun W hSw => by go_simp <;> try omega⟩) hH ?_
  try simp only [put_some, List.set_cons_zero, List.set_cons_succ]
  refine takeH (i := 4) (d := some 73) (v := .slice (some ⟨g, (i + 1) * 2, none⟩) (n + 1 - (i + 1)) (cap - (i + 1))) rfl rfl (by kernel_rfl) (by kernel_rfl) (by kernel_rfl) (fun _ _ _ h => h) (Or.inl ⟨by rfl, fun W hSw => by go_simp <;> try omega⟩) hH ?_
  try simp only [put_some, List.set_cons_zero, List.set_cons_succ]
  refine takeH (i := 5) (d := some 74) (v := .slice (some ⟨g, 0, none⟩) (n + 1) cap) rfl rfl (by kernel_rfl) (by kernel_rfl) (by kernel_rfl) (fun _ _ _ h => h) (Or.inl ⟨by rfl, fun W hSw => by go_simp <;> try omega⟩) hH ?_
  try simp only [put_some, List.set_cons_zero, List.set_cons_succ]
  refine takeH (i := 6) (d := some 75) (v := .int .i64 (i : Nat)) rfl rfl (by kernel_rfl) (by kernel_rfl) (by kernel_rfl) (fun _ _ _ h => h) (Or.inl ⟨by rfl, fun W hSw => by go_simp <;> try omega⟩) hH ?_
  try simp only [put_some, List.set_cons_zero, List.set_cons_succ]
  refine takeH (i := 7) (d := some 76) (v := .slice (some ⟨g, i * 2, none⟩) (n + 1 - i) (cap - i)) rfl rfl (by kernel_rfl) (by kernel_rfl) (by kernel_rfl) (fun _ _ _ h => h) (Or.inl ⟨by rfl, fun W hSw => by go_simp <;> try omega⟩) hH ?_
  try simp only [put_some, List.set_cons_zero, List.set_cons_succ]
  refine wpAnyH_ready (rs := [8]) (by kernel_rfl) (by simp) ?_
  refine AllReadyH.cons rfl (fun K hK => ?_) AllReadyH.nil
  refine copyRun_op (.tmp 73) (.tmp 76) 24 24 rfl (.slice (some ⟨g, (i + 1) * 2, none⟩) (n + 1 - (i + 1)) (cap - (i + 1))) (.slice (some ⟨g, i * 2, none⟩) (n + 1 - i) (cap - i)) rfl rfl (fun ty => HCA.out w.drew rfl (cap - (i + 1)) (cap - i) ty) ?_
  refine hK.out _ _ trivial (fun hH => ?_)
  clear hK K
  refine wpAnyH_done (by kernel_rfl) ?_ _
  have HTY2 : ∀ ty, (Builtin.copy_ #[24, 24] ty #[.slice (some ⟨g, i * 2, none⟩) (n + 1 - i) (cap - i), .slice (some ⟨vb, 0, none⟩) 1 1]).run Try.prog (w.drew.setRow g X1.toArray) = .ok (goInt 1) ((w.drew.setRow g X1.toArray).setRow g X2.toArray) := fun ty => HCB.out (w.drew.setRow g X1.toArray) (by rw [HW1.out]) (cap - i) ty
  have HE := Lib.hid (HF.out ((w.drew.setRow g X1.toArray).setRow g X2.toArray) (by rw [HW1.out]) rfl rfl rfl)
  go_wp2_with (at_builtin; refine copyRun_law rfl _ _ _ _ rfl _ _ rfl rfl HTY2 ?_)
  go_ret
  exact ⟨_, rfl, HE.out.1, ⟨HE.out.2, .inl rfl⟩⟩

set_option maxRecDepth 100000 in
set_option maxHeartbeats 4000000 in
/-- In a new block. -/
theorem insGrow (lo hi g n cap i : Nat) (xs : List Value) (vb : Nat) (k : Int) (u : Value) (w : World) (hown : Own 27 2 lo hi w (.slice (some ⟨g, 0, none⟩) n cap) n xs) (hn : n ≤ 1048576) (hin : i < n) (hroom : cap < n + 1) (hone : ∀ x ∈ xs, x.oneCell' = true) (hv : w.heap[vb]? = some (.cells #[.int .i64 k, u] 27 (0, 0))) (h1 : u.oneCell' = true) :
    Calls Try.prog 46 #[.slice (some ⟨g, 0, none⟩) n cap, .int .i64 i, .slice (some ⟨vb, 0, none⟩) 1 1] w fun e w' => ∃ v', e = .returned v' ∧ Own 27 2 lo w'.heap.size w' v' (n + 1) (xs.take (i * 2) ++ [.int .i64 k, u] ++ xs.drop (i * 2)) ∧ Ext w w' (.slice (some ⟨g, 0, none⟩) n cap) v' := by
  have hlow := hown.lo
  obtain ⟨g', cap', cur, e, hlo, hhi, hg, hnc, hcm, hcs, htk, hxl⟩ := hown.opened
  simp only [Value.slice.injEq, Option.some.injEq, Addr.mk.injEq, and_true, true_and] at e
  obtain ⟨rfl, rfl⟩ := e
  have hcn : cap = n := by omega
  unfold maxLen at hcm
  have hgw : g < w.heap.size := (Array.getElem?_eq_some_iff.1 hg).1
  have hvw : vb < w.heap.size := (Array.getElem?_eq_some_iff.1 hv).1
  obtain ⟨i0, hi0, hz0, hzs, hzb⟩ := (Try.elemRows).info
  obtain ⟨N, hN⟩ : ∃ N, w.heap.size = N := ⟨_, rfl⟩
  obtain ⟨G, hG⟩ : ∃ G, grownCap w (n + 1) cap 27 = G := ⟨_, rfl⟩
  have hGn : n + 1 ≤ G := by rw [← hG]; exact grownCap_ge w _ _ _
  have hGm : G ≤ maxLen := by rw [← hG]; exact grownCap_le_maxLen w (n + 1) cap 27 (by unfold maxLen; omega)
  have hG63 : G ≤ 9223372036854775807 := by unfold maxLen at hGm; omega
  obtain ⟨ROW, hROW⟩ : ∃ ROW : Array Value, (xs.take (i * 2)).toArray ++ Builtin.zeroCells (Value.agg #[.int .i64 0, .slice none 0 0]).cells (n + 1 - i) ++ Builtin.zeroCells (Value.agg #[.int .i64 0, .slice none 0 0]).cells (G - (n + 1)) = ROW := ⟨_, rfl⟩
  have hRl : ROW.toList.length = G * 2 := by
    rw [← hROW]
    simp [Builtin.zeroCells, Value.cells, hxl]
    omega
  have hRt : ROW.toList.take (i * 2) = xs.take (i * 2) := by
    rw [← hROW]
    have : (xs.take (i * 2)).length = i * 2 := by rw [List.length_take, hxl]; omega
    simp only [Array.toList_append, List.append_assoc]
    rw [List.take_append_of_le_length (by omega), List.take_of_length_le (by omega)]
  obtain ⟨hs1, hs2, hs3⟩ := laid_in ROW.toList xs [.int .i64 k, u] (i * 2) 2 ((n - i) * 2) (by rw [hxl]; omega) hRt rfl (by rw [hRl]; omega)
  have hdl : (xs.drop (i * 2)).length = (n - i) * 2 := by rw [List.length_drop, hxl]; omega
  obtain ⟨X1, hX1⟩ : ∃ X1, ROW.toList.take (i * 2) ++ [.int .i64 k, u] ++ ROW.toList.drop (i * 2 + 2) = X1 := ⟨_, rfl⟩
  rw [hX1] at hs1 hs2 hs3
  obtain ⟨X2, hX2⟩ : ∃ X2, X1.take (i * 2 + 2) ++ xs.drop (i * 2) ++ X1.drop (i * 2 + 2 + (n - i) * 2) = X2 := ⟨_, rfl⟩
  rw [hX2] at hs1 hs3
  have hcell : ∀ j x, xs[j]? = some x → w.cell? ⟨g, j, none⟩ = some x := fun j x hj => by
    rw [cell_of_heap hg]
    rw [← htk, List.getElem?_take] at hj
    split at hj
    · simpa using hj
    · cases hj
  have hkk : (n : Int) + 1 - (i : Int) = ((n + 1 - i : Nat) : Int) := by omega
  have hik : i + (n + 1 - i) = n + 1 := by omega
  obtain ⟨W1, hW1⟩ : ∃ W1, w.drew.alloc (.cells ROW 27) = W1 := ⟨_, rfl⟩
  have HRZ : ∀ ty, (Builtin.append_ #[24, 3] ty #[.slice (some ⟨g, 0, none⟩) i cap, .int .i64 ((n : Int) + 1 - (i : Int))]).run Try.prog w = .ok (.slice (some ⟨N, 0, none⟩) (n + 1) G) W1 := fun ty => by
    have hold : (Builtin.firstCells i0.size i (.slice (some ⟨g, 0, none⟩) i cap)).run Try.prog w.drew = .ok (xs.take (i * 2)).toArray w.drew := by
      rw [hzs]
      exact run_firstCells_some w.drew 2 i ⟨g, 0, none⟩ i cap (xs.take (i * 2)) (by rw [List.length_take, hxl]; omega) (fun j v hj => by
        rw [Addr.add_lit]
        rw [List.getElem?_take] at hj
        split at hj
        · have := hcell j v hj
          simpa using this
        · cases hj)
    have h := Lib.run_append_grow_zeros w 24 3 ty 27 i0 _ .i64 .i64 Try.underlying24 Try.underlying3 hi0 hz0 (some ⟨g, 0, none⟩) i cap (xs.take (i * 2)) hold (n + 1 - i) (by omega) (by omega) (by omega) (by omega) (by rw [hzb]; omega) (by rw [hzb, hik]; exact growslice_fits (by omega) (by omega))
    rw [hik, hG, hN, hROW, hW1] at h
    rw [hkk]
    exact h
  have hw1s : W1.heap.size = N + 1 := by rw [← hW1, World.size_alloc, ← hN]; rfl
  have hw1N : W1.heap[N]? = some (.cells ROW 27 (0, 0)) := by
    rw [← hW1, ← hN]
    show (w.drew.heap.push (.cells ROW 27))[w.drew.heap.size]? = _
    exact Array.getElem?_push_size
  have hw1o : ∀ j, j < N → W1.heap[j]? = w.heap[j]? := fun j hj => by
    rw [← hW1]
    have hjs : j < w.drew.heap.size := by show j < w.heap.size; omega
    have := (below_alloc w.drew (.cells ROW 27)).block j hjs
    exact this
  have hcpA : ∀ (W : World), W.heap = W1.heap → ∀ ty, (Builtin.copy_ #[24, 24] ty #[.slice (some ⟨N, i * 2, none⟩) (n + 1 - i) (G - i), .slice (some ⟨vb, 0, none⟩) 1 1]).run Try.prog W = .ok (goInt 1) (W.setRow N X1.toArray) := fun W hW ty => by
    have h := run_copy_rowK (P := Try.prog) 2 W 24 24 ty 27 N (i * 2) (n + 1 - i) (G - i) ⟨vb, 0, none⟩ 1 1 ROW 27 [.int .i64 k, u] Try.underlying24 size_of_elem (by rw [hW]; exact hw1N) (by simp only [Nat.min_def]; split <;> first | rfl | omega)
      (fun j v hj => by
        rw [Addr.add_lit, cell_of_heap (by rw [hW, hw1o vb (by omega)]; exact hv)]
        simpa using hj) (by simp only [Array.length_toList] at hRl; simp [hRl]; omega) (fun v hv => by simp at hv; rcases hv with rfl | rfl; rfl; exact h1)
    have e1 : Nat.min 1 (n + 1 - i) = 1 := by simp only [Nat.min_def]; split <;> omega
    rw [e1] at h
    rw [h, ← hX1]
    simp
  obtain ⟨W2, hW2⟩ : ∃ W2, W1.setRow N X1.toArray = W2 := ⟨_, rfl⟩
  have hw2N : W2.heap[N]? = some (.cells X1.toArray 27 (0, 0)) := by rw [← hW2]; exact setRow_heap W1 N ROW X1.toArray 27 (0, 0) hw1N
  have hw2o : ∀ j, j < N → W2.heap[j]? = w.heap[j]? := fun j hj => by rw [← hW2, setRow_other _ _ _ _ (by omega)]; exact hw1o j hj
  have hcpB : ∀ (W : World), W.heap = W2.heap → ∀ ty, (Builtin.copy_ #[24, 24] ty #[.slice (some ⟨N, (i + 1) * 2, none⟩) (n + 1 - (i + 1)) (G - (i + 1)), .slice (some ⟨g, i * 2, none⟩) (n - i) (cap - i)]).run Try.prog W = .ok (goInt ((n - i : Nat) : Int)) (W.setRow N X2.toArray) := fun W hW ty => by
    have h := run_copy_rowK (P := Try.prog) 2 W 24 24 ty 27 N ((i + 1) * 2) (n + 1 - (i + 1)) (G - (i + 1)) ⟨g, i * 2, none⟩ (n - i) (cap - i) X1.toArray 27 (xs.drop (i * 2)) Try.underlying24 size_of_elem (by rw [hW]; exact hw2N) (by rw [hdl]; simp only [Nat.min_def]; split <;> omega)
      (fun j v hj => by
        rw [List.getElem?_drop] at hj
        rw [Addr.add_lit, cell_of_heap (by rw [hW, hw2o g (by omega)]; exact hg), ← cell_of_heap hg]
        exact hcell _ _ hj) (by rw [hdl]; simp [hs2, hRl]; omega) (fun v hv => hone v (List.mem_of_mem_drop hv))
    have e1 : Nat.min (n - i) (n + 1 - (i + 1)) = n - i := by simp only [Nat.min_def]; split <;> omega
    rw [e1, show (i + 1) * 2 = i * 2 + 2 by omega, hdl] at h
    rw [show (i + 1) * 2 = i * 2 + 2 by omega, h, ← hX2]
  obtain ⟨W3, hW3⟩ : ∃ W3, W2.drew.setRow N X2.toArray = W3 := ⟨_, rfl⟩
  have HE : Hid (Own 27 2 lo W3.heap.size W3 (.slice (some ⟨N, 0, none⟩) (n + 1) G) (n + 1) (xs.take (i * 2) ++ [.int .i64 k, u] ++ xs.drop (i * 2)) ∧ w.grownBy W3 (some g)) := by
    have hsz : W3.heap.size = N + 1 := by rw [← hW3, size_setRow, ← hw1s, ← size_setRow W1 N X1.toArray, hW2]; rfl
    refine ⟨Own.closed (by omega) (by omega) (by rw [← hW3]; exact setRow_heap W2.drew N X1.toArray X2.toArray 27 (0, 0) hw2N) hGn hGm (by simpa using hs3.trans hRl) (by rw [← hs1]; congr 1; omega) (by rw [List.length_append, List.length_append, hdl, List.length_take, hxl]; simp; omega), ⟨by rw [← hW3, World.setRow, ← hW2, ← hW1]; rfl, by rw [← hW3, ← hW2, ← hW1]; rfl, by rw [← hW3, ← hW2, ← hW1]; rfl, by omega, fun j hj _ => ?_⟩⟩
    rw [← hW3, setRow_other _ _ _ _ (by omega)]
    exact hw2o j (by omega)
  have HTA : ∀ ty, (Builtin.copy_ #[24, 24] ty #[.slice (some ⟨N, i * 2, none⟩) (n + 1 - i) (G - i), .slice (some ⟨vb, 0, none⟩) 1 1]).run Try.prog W1 = .ok (goInt 1) W2 := fun ty => (hcpA W1 rfl ty).trans (by rw [hW2])
  have HTB : ∀ ty, (Builtin.copy_ #[24, 24] ty #[.slice (some ⟨N, (i + 1) * 2, none⟩) (n + 1 - (i + 1)) (G - (i + 1)), .slice (some ⟨g, i * 2, none⟩) (n - i) (cap - i)]).run Try.prog W2.drew = .ok (goInt ((n - i : Nat) : Int)) W3 := fun ty => (hcpB W2.drew rfl ty).trans (by rw [hW3])
  have hci : ¬ (cap = i) := by omega
  have hGi : ¬ (G = i) := by omega
  have hGi1 : ¬ (G = i + 1) := by omega
  have hne1 : ((i : Int) == (n : Int)) = false := by simp; omega
  have hfit : (cap : Int) < (n : Int) + 1 := by omega
  have htn1 : ((i : Int) + 1).toNat = i + 1 := by omega
  have hio : (i : Int) + 1 ≤ (n : Int) + 1 := by omega
  have hi0' : (i : Int) ≤ (n : Int) + 1 := by omega
  have hin' : (i : Int) ≤ (n : Int) := by omega
  have hic : (i : Int) ≤ (cap : Int) := by omega
  have hwi : IntKind.i64.wrap ((i : Int) + 1) = (i : Int) + 1 := by rw [IntKind.wrap_i64]; omega
  have HB2 := Lib.hid HTB
  have HLN : Hid (w.heap.size ≤ N) := by show _ ≤ _; omega
  clear hcell hs1 hs2 hs3 hX1 hX2 hdl htk hxl hcs hg hv hown hcpA hcpB hone h1 hnc hlo hhi hW1 hW2 hW3 hRt hRl hROW hw1s hw1N hw1o hw2N hw2o hi0 hz0 hzs hzb hkk hik hG hN hcn HTB hroom hgw hvw hlow
  go_enter Try.func46, Try.ntmps46
  go_wp2_with (first | (at_builtin; refine Lib.wpList_append_run _ rfl _ _ _ _ rfl _ _ rfl rfl _ _ (HRZ _) ?_) | (at_builtin; refine copyRun_law rfl _ _ _ _ rfl _ _ rfl rfl HTA ?_))
  refine wp_region_held_drew (S := fun _ => True) (by kernel_rfl) trivial (fun hH => ?_)
  refine takeH (i := 0) (d := some 46) (v := .slice (some ⟨N, 0, none⟩) (n + 1) G) rfl rfl (by kernel_rfl) (by kernel_rfl) (by kernel_rfl) (fun _ _ _ h => h) (Or.inl ⟨by rfl, fun W hSw => by go_simp <;> try omega⟩) hH ?_
  try simp only [put_some, List.set_cons_zero, List.set_cons_succ]
  refine takeH (i := 1) (d := some 47) (v := .int .i64 (i : Nat)) rfl rfl (by kernel_rfl) (by kernel_rfl) (by kernel_rfl) (fun _ _ _ h => h) (Or.inl ⟨by rfl, fun W hSw => by go_simp <;> try omega⟩) hH ?_
  try simp only [put_some, List.set_cons_zero, List.set_cons_succ]
  refine takeH (i := 2) (d := some 48) (v := .int .i64 1) rfl rfl (by kernel_rfl) (by kernel_rfl) (by kernel_rfl) (fun _ _ _ h => h) (Or.inl ⟨by rfl, fun W hSw => by go_simp <;> try omega⟩) hH ?_
  try simp only [put_some, List.set_cons_zero, List.set_cons_succ]
  refine takeH (i := 3) (d := some 49) (v := .int .i64 ((i : Int) + 1)) rfl rfl (by kernel_rfl) (by kernel_rfl) (by kernel_rfl) (fun _ _ _ h => h) (Or.inl ⟨by rfl, fun W hSw => by go_simp <;> try omega⟩) hH ?_
  try simp only [put_some, List.set_cons_zero, List.set_cons_succ]
  refine takeH (i := 4) (d := some 50) (v := .slice (some ⟨N, (i + 1) * 2, none⟩) (n + 1 - (i + 1)) (G - (i + 1))) rfl rfl (by kernel_rfl) (by kernel_rfl) (by kernel_rfl) (fun _ _ _ h => h) (Or.inl ⟨by rfl, fun W hSw => by go_simp <;> try omega⟩) hH ?_
  try simp only [put_some, List.set_cons_zero, List.set_cons_succ]
  refine takeH (i := 5) (d := some 51) (v := .slice (some ⟨g, 0, none⟩) n cap) rfl rfl (by kernel_rfl) (by kernel_rfl) (by kernel_rfl) (fun _ _ _ h => h) (Or.inl ⟨by rfl, fun W hSw => by go_simp <;> try omega⟩) hH ?_
  try simp only [put_some, List.set_cons_zero, List.set_cons_succ]
  refine takeH (i := 6) (d := some 52) (v := .int .i64 (i : Nat)) rfl rfl (by kernel_rfl) (by kernel_rfl) (by kernel_rfl) (fun _ _ _ h => h) (Or.inl ⟨by rfl, fun W hSw => by go_simp <;> try omega⟩) hH ?_
  try simp only [put_some, List.set_cons_zero, List.set_cons_succ]
  refine takeH (i := 7) (d := some 53) (v := .slice (some ⟨g, i * 2, none⟩) (n - i) (cap - i)) rfl rfl (by kernel_rfl) (by kernel_rfl) (by kernel_rfl) (fun _ _ _ h => h) (Or.inl ⟨by rfl, fun W hSw => by go_simp <;> try omega⟩) hH ?_
  try simp only [put_some, List.set_cons_zero, List.set_cons_succ]
  refine wpAnyH_ready (rs := [8]) (by kernel_rfl) (by simp) ?_
  refine AllReadyH.cons rfl (fun K hK => ?_) AllReadyH.nil
  refine copyRun_op (.tmp 50) (.tmp 53) 24 24 rfl (.slice (some ⟨N, (i + 1) * 2, none⟩) (n + 1 - (i + 1)) (G - (i + 1))) (.slice (some ⟨g, i * 2, none⟩) (n - i) (cap - i)) rfl rfl HB2.out ?_
  refine hK.out _ _ trivial (fun hH => ?_)
  clear hK K
  refine wpAnyH_done (by kernel_rfl) ?_ _
  go_wp2
  go_ret
  exact ⟨_, rfl, HE.out.1, ⟨HE.out.2, .inr ⟨_, rfl, HLN.out⟩⟩⟩

theorem iInsert (lo hi : Nat) (v : Value) (n i : Nat) (xs : List Value) (vb : Nat) (k : Int) (u : Value) (w : World) (hown : Own 27 2 lo hi w v n xs) (hn : n ≤ 1048576) (hin : i ≤ n) (hone : ∀ x ∈ xs, x.oneCell' = true) (hne : v.ownBlock ≠ some vb) (hv : w.heap[vb]? = some (.cells #[.int .i64 k, u] 27 (0, 0))) (h1 : u.oneCell' = true) :
    Calls Try.prog 46 #[v, .int .i64 i, .slice (some ⟨vb, 0, none⟩) 1 1] w fun e w' => ∃ v', e = .returned v' ∧ Own 27 2 lo w'.heap.size w' v' (n + 1) (xs.take (i * 2) ++ [.int .i64 k, u] ++ xs.drop (i * 2)) ∧ Ext w w' v v' := by
  by_cases h : i = n
  · subst h
    refine (insEnd lo hi v i xs vb k u w hown hn hv h1).mono ?_
    rintro e w' ⟨v', rfl, h2, h3⟩
    have hl := hown.len
    refine ⟨v', rfl, ?_, h3⟩
    rw [List.take_of_length_le (by omega), List.drop_of_length_le (by omega), List.append_nil]
    exact h2
  · obtain ⟨g, cap, rfl, _⟩ := id hown
    have hne' : vb ≠ g := fun e => hne (by rw [e]; rfl)
    by_cases hc : n + 1 ≤ cap
    · exact insRoom lo hi g n cap i xs vb k u w hown hn (by omega) hc hone hne' hv h1
    · exact insGrow lo hi g n cap i xs vb k u w hown hn (by omega) (by omega) hone hv h1

end Go.Proofs.Ytkofafefnlommaa

/- The program's PutRow (written by mk_S13p.py). -/
namespace Go.Proofs.Ytkofafefnlommaa
open Go.RowKit

set_option maxRecDepth 100000 in
set_option maxHeartbeats 1500000 in
theorem iPutRow : CPutRow 12 := by
  intro v u r ps ls w hn hli hv hr hrl hu hls
  subst hls
  have HRD : Hid (RdRsN w v ps) := ⟨hv.rd, hr⟩
  generalize hl : ps.length = n at hn hv
  have HLM : Hid ((ps.map (·.1)).length = n) := by show _ = _; rw [List.length_map, hl]
  have HCR := Lib.hid (fun W (hW : Below w.heap.size w W) => iCopyRows v ps W (by omega) hli (HRD.out.below hW))
  have HCP := Lib.hid (fun W (hW : Below w.heap.size w W) => iCopyRow r u W hrl (hu.below hW))
  obtain ⟨b, off, cap, rfl, _, _, _, _⟩ := hv
  obtain ⟨ua, uc, rfl⟩ := hu.sl
  obtain ⟨ri, rl⟩ := r
  generalize hrn : rl.length = rn at HCP hrl ⊢
  have HRN := Lib.hid hrn
  simp only at HCP hrl
  have B0 := below_alloc w (.cells #[.int .i64 ri, .slice ua rn uc] 27)
  have T0 := two_new w (.int .i64 ri) (.slice ua rn uc) 27
  have hz0 : (w.alloc (.cells #[.int .i64 ri, .slice ua rn uc] 27)).heap.size = w.heap.size + 1 := World.size_alloc _ _
  generalize hw0 : w.alloc (.cells #[.int .i64 ri, .slice ua rn uc] 27) = w0 at B0 T0 hz0
  have HW0 := Lib.hid hw0
  have hmf : ∀ fn first cap w, (Instr.makeFunc fn first cap).run Try.prog w = .ok (.func fn first cap) w := fun _ _ _ _ => rfl
  have hkle := putK_le (ps.map (·.1)) ri
  rw [HLM.out] at hkle
  have HAT : Hid ((putAt (ps.map (·.1)) ri = -1 ∧ putK (ps.map (·.1)) ri = n) ∨ putAt (ps.map (·.1)) ri = (putK (ps.map (·.1)) ri : Int)) := by
    show _ ∨ _
    unfold putAt
    rw [HLM.out]
    split
    · rename_i h; exact .inl ⟨rfl, h⟩
    · exact .inr rfl
  generalize hk : putK (ps.map (·.1)) ri = k at hkle HAT
  have HK := Lib.hid hk
  have HL := Lib.hid hl
  clear hw0 hl hr hli hu hrn hk
  go_enter Try.func12, Try.ntmps12
  go_wp2_with fail
  rw [HW0.out]
  refine (HCR.out _ B0).mono ?_
  rintro e w1 ⟨vo, qs, rfl, M1, e1, ⟨g1, c1, rfl⟩, b1⟩
  have T1 := T0.below b1
  have B1 := below_then B0 b1 B0.size
  have hz1 := b1.size
  have E1 := Lib.hid e1
  have HQL : Hid (qs.length = n) := by
    show _ = _
    have e := congrArg List.length e1
    rw [List.length_map, List.length_map, HL.out] at e
    exact e
  have hq48 : qs.length ≤ 1048576 := by rw [HQL.out]; exact hn
  have hkq : k ≤ qs.length := by rw [HQL.out]; exact hkle
  have HIX := Lib.hid (iIndexRow (.slice (some ⟨g1, 0, none⟩) qs.length c1) qs ri w.heap.size w1 (by omega) M1.rd T1.1.1)
  rw [e1] at HIX
  generalize putAt (ps.map (·.1)) ri = z at HIX HAT
  clear e1 b1 T0 HCR
  go_wp2_with fail
  refine HIX.out.mono ?_
  rintro e w2 ⟨rfl, b2⟩
  clear HIX
  rcases HAT.out with ⟨rfl, hkn⟩ | rfl
  · have HKE : Hid (putK (ps.map (·.1)) ri = qs.length) := by show _ = _; rw [HK.out, hkn]; exact HQL.out.symm
    clear hkn
    have OA : Own 27 2 w0.heap.size w1.heap.size w1 (.slice (some ⟨g1, 0, none⟩) qs.length c1) qs.length (prs qs) := M1.1.resolve_left (fun h => by cases h.1)
    obtain ⟨⟨q0, q1⟩, q2, q3⟩ := T1.below b2
    have B2 := below_then B1 b2 B1.size
    have M2 := M1.below b2 (Nat.le_refl _)
    have OA2 := OA.below b2 (Nat.le_refl _)
    have hz2 := b2.size
    have HCP2 := Lib.hid (HCP.out _ B2)
    clear b2 OA T1 M1
    go_wp2_with fail
    refine HCP2.out.mono ?_
    rintro e w3 ⟨y, rfl, oy, b3⟩
    obtain ⟨ya, yc, hy⟩ := oy.atN.sl
    rw [HRN.out] at hy
    subst hy
    clear q0 q1 q2 q3
    have B3 := below_then B2 b3 B2.size
    have M3 := M2.below b3 (by omega)
    have OA3 := OA2.below b3 (by omega)
    have hz3 := b3.size
    have A4 := below_alloc w3 (.cells #[.int .i64 ri, .slice ya rn yc] 27)
    have B4 := below_then B3 A4 B3.size
    have M4 := M3.below A4 (by omega)
    have OA4 := OA3.below A4 (by omega)
    have oy4 := (oy.below A4 (Nat.le_refl _)).wide (show w1.heap.size ≤ w2.heap.size by omega) A4.size
    have hz4 : (w3.alloc (.cells #[.int .i64 ri, .slice ya rn yc] 27)).heap.size = w3.heap.size + 1 := World.size_alloc _ _
    have hv4 : (w3.alloc (.cells #[.int .i64 ri, .slice ya rn yc] 27)).heap[w3.heap.size]? = some (.cells #[.int .i64 ri, .slice ya rn yc] 27 (0, 0)) := by
      show (w3.heap.push _)[w3.heap.size]? = _
      exact Array.getElem?_push_size
    generalize hw4 : w3.alloc (.cells #[.int .i64 ri, .slice ya rn yc] 27) = w4 at B4 M4 OA4 oy4 hz4 hv4
    have HW4 := Lib.hid hw4
    have HIN := Lib.hid (iInsert w0.heap.size w1.heap.size (.slice (some ⟨g1, 0, none⟩) qs.length c1) qs.length qs.length (prs qs) w3.heap.size ri (.slice ya rn yc) w4 OA4 hq48 (Nat.le_refl _) (prs_one M4) (by simp [Value.ownBlock]; obtain ⟨_, _, e, _, h, _⟩ := OA4; simp at e; omega) hv4 rfl)
    have HM4 := Lib.hid M4
    have HOY := Lib.hid oy4
    have HOA := Lib.hid OA4
    have HB4 := Lib.hid B4
    clear hw4 oy b3 B2 B3 M2 M3 M4 OA2 OA3 OA4 oy4 A4 hv4 B4 HCP2
    go_wp2_with fail
    rw [HW4.out]
    refine HIN.out.mono ?_
    rintro e w5 ⟨v5, rfl, o5, e5⟩
    have HF : Hid (MyRs w0.heap.size w5.heap.size w5 v5 (qs.take qs.length ++ (⟨ri, rl⟩, .slice ya rn yc) :: qs.drop qs.length) ∧ (qs.take qs.length ++ ((⟨ri, rl⟩ : R), Value.slice ya rn yc) :: qs.drop qs.length).map (·.1) = putL (ps.map (·.1)) ⟨ri, rl⟩ ∧ Below w.heap.size w w5) := by
      refine ⟨HM4.out.insert (by omega) HOY.out (by omega) (by rw [prs_put]; exact o5) e5, ?_, HB4.out.grown e5.grown HB4.out.size (fun j hj => by simp [Value.ownBlock] at hj; obtain ⟨_, _, e, h, _⟩ := HOA.out; simp at e; omega)⟩
      unfold putL
      rw [HKE.out, List.map_append, List.map_cons, List.map_take, List.map_drop, E1.out]
    obtain ⟨g5, c5, hv5⟩ : ∃ g c, v5 = .slice (some ⟨g, 0, none⟩) (qs.length + 1) c := by obtain ⟨g, c, e, _⟩ := o5; exact ⟨g, c, e⟩
    subst hv5
    clear o5 e5
    go_wp2
    go_ret
    exact ⟨_, rfl, _, HF.out.1.wide (by omega) (Nat.le_refl _), HF.out.2⟩
  · have hzz : ¬ ((k : Int) < 0) := by omega
    have OA : Own 27 2 w0.heap.size w1.heap.size w1 (.slice (some ⟨g1, 0, none⟩) qs.length c1) qs.length (prs qs) := M1.1.resolve_left (fun h => by cases h.1)
    obtain ⟨⟨q0, q1⟩, q2, q3⟩ := T1.below b2
    have B2 := below_then B1 b2 B1.size
    have M2 := M1.below b2 (Nat.le_refl _)
    have OA2 := OA.below b2 (Nat.le_refl _)
    have hz2 := b2.size
    have HCP2 := Lib.hid (HCP.out _ B2)
    clear b2 OA T1 M1
    go_wp2_with fail
    refine HCP2.out.mono ?_
    rintro e w3 ⟨y, rfl, oy, b3⟩
    obtain ⟨ya, yc, hy⟩ := oy.atN.sl
    rw [HRN.out] at hy
    subst hy
    clear q0 q1 q2 q3
    have B3 := below_then B2 b3 B2.size
    have M3 := M2.below b3 (by omega)
    have OA3 := OA2.below b3 (by omega)
    have hz3 := b3.size
    have A4 := below_alloc w3 (.cells #[.int .i64 ri, .slice ya rn yc] 27)
    have B4 := below_then B3 A4 B3.size
    have M4 := M3.below A4 (by omega)
    have OA4 := OA3.below A4 (by omega)
    have oy4 := (oy.below A4 (Nat.le_refl _)).wide (show w1.heap.size ≤ w2.heap.size by omega) A4.size
    have hz4 : (w3.alloc (.cells #[.int .i64 ri, .slice ya rn yc] 27)).heap.size = w3.heap.size + 1 := World.size_alloc _ _
    have hv4 : (w3.alloc (.cells #[.int .i64 ri, .slice ya rn yc] 27)).heap[w3.heap.size]? = some (.cells #[.int .i64 ri, .slice ya rn yc] 27 (0, 0)) := by
      show (w3.heap.push _)[w3.heap.size]? = _
      exact Array.getElem?_push_size
    generalize hw4 : w3.alloc (.cells #[.int .i64 ri, .slice ya rn yc] 27) = w4 at B4 M4 OA4 oy4 hz4 hv4
    have HW4 := Lib.hid hw4
    have HIN := Lib.hid (iInsert w0.heap.size w1.heap.size (.slice (some ⟨g1, 0, none⟩) qs.length c1) qs.length k (prs qs) w3.heap.size ri (.slice ya rn yc) w4 OA4 hq48 hkq (prs_one M4) (by simp [Value.ownBlock]; obtain ⟨_, _, e, _, h, _⟩ := OA4; simp at e; omega) hv4 rfl)
    have HM4 := Lib.hid M4
    have HOY := Lib.hid oy4
    have HOA := Lib.hid OA4
    have HB4 := Lib.hid B4
    clear hw4 oy b3 B2 B3 M2 M3 M4 OA2 OA3 OA4 oy4 A4 hv4 B4 HCP2
    go_wp2_with fail
    rw [HW4.out]
    refine HIN.out.mono ?_
    rintro e w5 ⟨v5, rfl, o5, e5⟩
    have HF : Hid (MyRs w0.heap.size w5.heap.size w5 v5 (qs.take k ++ (⟨ri, rl⟩, .slice ya rn yc) :: qs.drop k) ∧ (qs.take k ++ ((⟨ri, rl⟩ : R), Value.slice ya rn yc) :: qs.drop k).map (·.1) = putL (ps.map (·.1)) ⟨ri, rl⟩ ∧ Below w.heap.size w w5) := by
      refine ⟨HM4.out.insert (by omega) HOY.out (by omega) (by rw [prs_put]; exact o5) e5, ?_, HB4.out.grown e5.grown HB4.out.size (fun j hj => by simp [Value.ownBlock] at hj; obtain ⟨_, _, e, h, _⟩ := HOA.out; simp at e; omega)⟩
      unfold putL
      rw [HK.out, List.map_append, List.map_cons, List.map_take, List.map_drop, E1.out]
    obtain ⟨g5, c5, hv5⟩ : ∃ g c, v5 = .slice (some ⟨g, 0, none⟩) (qs.length + 1) c := by obtain ⟨g, c, e, _⟩ := o5; exact ⟨g, c, e⟩
    subst hv5
    clear o5 e5
    go_wp2
    go_ret
    exact ⟨_, rfl, _, HF.out.1.wide (by omega) (Nat.le_refl _), HF.out.2⟩

end Go.Proofs.Ytkofafefnlommaa

/- PutRow's exact law, both sides at hand. -/
namespace Go.Proofs.Ytkofafefnlommaa
open Go.RowKit

end Go.Proofs.Ytkofafefnlommaa
