/- Texts of this claim, one behind the other: S12a, RowsA, S12j, S12b, S12k, RowsJ, S12m. -/
import Derived.Test.YtkofafefnlommaaDoorP14
import Derived.Test.YtkofafefnlommaaDoorP4
import Derived.Test.YtkofafefnlommaaDoorP12
import Derived.Lib.SliceRun
import Derived.Test.YtkofafefnlommaaDoorP2
import Derived.Test.YtkofafefnlommaaDoorP13

/- The model's l4Copy, the program's slices.Clone and copyRow (written by mk_S12a.py). -/
namespace Go.Proofs.YtkofafefnlommaaDoor
open Go.RowKit

theorem OwnN.atN {e size lo hi w v n xs} (h : OwnN e size lo hi w v n xs) : AtN size w v n xs := h.imp id Own.at
theorem OwnV.atN {lo hi w u} {l : List V} (h : OwnV lo hi w u l) : AtN 3 w u l.length (vals l) := OwnN.atN h
theorem AtN.sl {size w v n xs} (h : AtN size w v n xs) : ∃ a cp, v = .slice a n cp := by
  obtain ⟨a, cp, e, _⟩ := h.rd
  exact ⟨a, cp, e⟩
theorem run_append_atN {P : Program} {t e : TypeId} {z : Value} {size bytes : Nat} (T : ElemT P t e z size bytes) (w : World) (ty : TypeId)
    (lo hi : Nat) (v : Value) (n : Nat) (xs : List Value) (hown : Own e size lo hi w v n xs) (xv : Value) (m : Nat) (news : List Value) (hX : AtN size w xv m news) (h1 : ∀ u ∈ news, u.oneCell' = true)
    (h63 : n + m ≤ maxLen) (hbytes : (n + m) * bytes ≤ 140737488355328) :
    ∃ v' w', (Builtin.append_ #[t, t] ty #[v, xv]).run P w = .ok v' w' ∧ Own e size lo w'.heap.size w' v' (n + m) (xs ++ news) ∧ Ext w w' v v' := by
  rcases hX with ⟨rfl, rfl, rfl⟩ | ⟨b, off, cap, rfl, _, _, hl, hc⟩
  · obtain ⟨i, hi', hz, hs, hb⟩ := T.info
    have hr := run_append_owned_none (P := P) (w := w) lo t ty e i size T.ht hi' v n xs hown.row
    refine ⟨v, w, hr, ?_, Ext.refl _ _⟩
    rw [List.append_nil]
    obtain ⟨g, cp, rfl, h2, h3, h4⟩ := hown
    exact ⟨g, cp, rfl, h2, (h4.lt g rfl).2, h4⟩
  · exact append_block w t ty e z size bytes T lo hi v n xs hown ⟨b, off, none⟩ m cap news hl (fun j u hu => by rw [addr_add]; exact hc j u hu) h1 h63 hbytes
/-- append(s, x...) as one operation: s one's own, x nil or read. -/
theorem appendN_op {P : Program} {t e : TypeId} {z : Value} {size bytes : Nat} (T : ElemT P t e z size bytes) {w : World} {o : Oper} {a : Act} {K : Act → World → Prop} {Q : Exit → Act → World → Prop} (s x : Operand)
    (ho : o.op = .call { callee := .builtin .append, args := #[s, x], argTypes := #[t, t] })
    (lo hi : Nat) (v : Value) (n : Nat) (xs : List Value) (hs : a.eval s = v) (hown : Own e size lo hi w v n xs)
    (xv : Value) (m : Nat) (news : List Value) (hx : a.eval x = xv) (hX : AtN size w xv m news) (h1 : ∀ u ∈ news, u.oneCell' = true)
    (h63 : n + m ≤ maxLen) (hbytes : (n + m) * bytes ≤ 140737488355328)
    (h : ∀ v' w', Own e size lo w'.heap.size w' v' (n + m) (xs ++ news) → Ext w w' v v' → K (a.put o.dst v') w') : Oper.wp P o a w K Q := by
  obtain ⟨v', w', hr, h2, h3⟩ := run_append_atN T w o.type lo hi v n xs hown xv m news hX h1 h63 hbytes
  unfold Oper.wp execOp
  simp only [ho, resolve, invoke, builtin, Sem.run_bind, Sem.run_pure, Result.andThen_ok, List.map_toArray, List.map_cons, List.map_nil, hs, hx, hr]
  exact h v' w' h2 h3
theorem appendN_law {P : Program} {t e : TypeId} {z : Value} {size bytes : Nat} (T : ElemT P t e z size bytes) {w : World} {ops : Array Oper} {rest : List Oper} {o : Oper} {a : Act} {Q : Exit → Act → World → Prop} (hgd : o.guard = none) (s x : Operand)
    (ho : o.op = .call { callee := .builtin .append, args := #[s, x], argTypes := #[t, t] })
    (lo hi : Nat) (v : Value) (n : Nat) (xs : List Value) (hs : a.eval s = v) (hown : Own e size lo hi w v n xs)
    (xv : Value) (m : Nat) (news : List Value) (hx : a.eval x = xv) (hX : AtN size w xv m news) (h1 : ∀ u ∈ news, u.oneCell' = true)
    (h63 : n + m ≤ maxLen) (hbytes : (n + m) * bytes ≤ 140737488355328)
    (h : ∀ v' w', Own e size lo w'.heap.size w' v' (n + m) (xs ++ news) → Ext w w' v v' → wpList P ops Q rest (a.put o.dst v') w') : wpList P ops Q (o :: rest) a w := by
  refine wpList_plain hgd fun K hK => ?_
  obtain ⟨v', w', hr, h2, h3⟩ := run_append_atN T w o.type lo hi v n xs hown xv m news hX h1 h63 hbytes
  unfold Oper.wp execOp
  simp only [ho, resolve, invoke, builtin, Sem.run_bind, Sem.run_pure, Result.andThen_ok, List.map_toArray, List.map_cons, List.map_nil, hs, hx, hr]
  exact hK _ _ (h v' w' h2 h3)
theorem Two.grown {W W' : World} {b : Nat} {x y : Value} {row : Option Nat} (h : Two W b x y) (hg : W.grownBy W' row) (hne : some b ≠ row) : Two W' b x y := by
  have hb := hg.block b (lt_of_cell h.1.1) hne
  exact ⟨⟨(World.cell?_of_block hb).trans h.1.1, (World.cell?_of_block hb).trans h.1.2⟩, (World.frozen?_of_block hb).trans h.2.1, (World.frozen?_of_block hb).trans h.2.2⟩
theorem OwnN.setBelow {e size lo hi w v n xs} (h : OwnN e size lo hi w v n xs) {a : Addr} (ha : a.block < lo) (u : Value) : OwnN e size lo hi (w.setCell a u) v n xs := h.imp id (fun h => h.setBelow ha u)
theorem OwnV.setBelow {lo hi w u} {l : List V} (h : OwnV lo hi w u l) {a : Addr} (ha : a.block < lo) (x : Value) : OwnV lo hi (w.setCell a x) u l := OwnN.setBelow h ha x
theorem valsOne (l : List V) : ∀ u ∈ vals l, u.oneCell' = true := by
  intro u hu
  unfold vals at hu
  obtain ⟨v, _, hv⟩ := List.mem_flatMap.1 hu
  simp only [V.cs, List.mem_cons, List.not_mem_nil, or_false] at hv
  rcases hv with rfl | rfl | rfl <;> rfl

set_option maxRecDepth 100000 in
set_option maxHeartbeats 1000000 in
theorem sL4Copy (r : R) (u : Value) (w : World) (hn : r.l.length ≤ 1048576) (h : AtN 3 w u r.l.length (vals r.l)) :
    Calls Tryd.prog 77 #[r.agg u] w fun e w' => ∃ v, e = .returned (r.agg v) ∧ OwnV w.heap.size w'.heap.size w' v r.l ∧ Below w.heap.size w w' := by
  have B0 := below_alloc2 w (.cells #[.int .i64 r.id, u] 91) (.cells #[.int .i64 0, .slice none 0 0] 91)
  have T0 := (two_new w (.int .i64 r.id) u 91).below (below_alloc _ (.cells #[.int .i64 0, .slice none 0 0] 91))
  have Z0 := two_new (w.alloc (.cells #[.int .i64 r.id, u] 91)) (.int .i64 0) (.slice none 0 0) 91
  have h0 := h.below B0
  rw [World.size_alloc] at Z0
  have hs0 : ((w.alloc (.cells #[.int .i64 r.id, u] 91)).alloc (.cells #[.int .i64 0, .slice none 0 0] 91)).heap.size = w.heap.size + 2 := by rw [World.size_alloc, World.size_alloc]
  obtain ⟨i, l⟩ := r
  simp only at B0 T0 Z0 h0 hs0 hn
  clear h
  generalize hw0 : (w.alloc (.cells #[.int .i64 i, u] 91)).alloc (.cells #[.int .i64 0, .slice none 0 0] 91) = w0 at B0 T0 Z0 h0 hs0
  have HW0 := Lib.hid hw0
  clear hw0
  generalize hln : l.length = n at h0 hn
  have HLN := Lib.hid hln
  obtain ⟨a, cp, hu⟩ := h0.sl
  subst hu
  have BD := (Below.refl w0.heap.size w0).drew
  have TD := T0.below BD
  have ZD := Z0.below BD
  have hD := h0.below BD
  have BB := below_then B0 BD B0.size
  have hsd : w0.drew.heap.size = w.heap.size + 2 := by simpa using hs0
  obtain ⟨t0, t1⟩ := T0.1
  clear T0 Z0 h0 hln BD B0
  go_enter Tryd.func77, Tryd.ntmps77
  go_wp2
  rw [HW0.out]
  refine wp_region_held_drew (S := fun W => W.cell? ⟨w.heap.size, 0, none⟩ = some (.int .i64 i) ∧ W.cell? ⟨w.heap.size, 1, none⟩ = some (.slice a n cp)) (by kernel_rfl) ⟨t0, t1⟩ (fun hH => ?_)
  clear t0 t1
  generalize w0.drew = wd at BB TD ZD hsd hH hD ⊢
  refine takeH (i := 0) (d := some 3) (v := .pointer (some ⟨w.heap.size, 0, none⟩)) rfl rfl (by kernel_rfl) (by kernel_rfl) (by kernel_rfl) (fun _ _ _ h => h) (Or.inl ⟨by rfl, fun W hSw => by obtain ⟨s0, s1⟩ := hSw; go_simp⟩) hH ?_
  try simp only [put_some, List.set_cons_zero, List.set_cons_succ]
  refine takeH (i := 1) (d := some 4) (v := .int .i64 i) rfl rfl (by kernel_rfl) (by kernel_rfl) (by kernel_rfl) (fun _ _ _ h => h) (Or.inl ⟨by rfl, fun W hSw => by obtain ⟨s0, s1⟩ := hSw; go_simp⟩) hH ?_
  try simp only [put_some, List.set_cons_zero, List.set_cons_succ]
  refine takeH (i := 3) (d := some 6) (v := .pointer (some ⟨w.heap.size, 1, none⟩)) rfl rfl (by kernel_rfl) (by kernel_rfl) (by kernel_rfl) (fun _ _ _ h => h) (Or.inl ⟨by rfl, fun W hSw => by obtain ⟨s0, s1⟩ := hSw; go_simp⟩) hH ?_
  try simp only [put_some, List.set_cons_zero, List.set_cons_succ]
  refine takeH (i := 4) (d := some 7) (v := .slice a n cp) rfl rfl (by kernel_rfl) (by kernel_rfl) (by kernel_rfl) (fun _ _ _ h => h) (Or.inl ⟨by rfl, fun W hSw => by obtain ⟨s0, s1⟩ := hSw; go_simp⟩) hH ?_
  try simp only [put_some, List.set_cons_zero, List.set_cons_succ]
  refine wpAnyH_ready (rs := [2]) (by kernel_rfl) (by simp) ?_
  refine AllReadyH.cons rfl (fun K hK => ?_) AllReadyH.nil
  go_simp
  have O1 := own_lit (e := 29) (size := 3) wd #[] 0 (Nat.zero_le _) rfl
  have A1 := below_alloc wd (.cells #[] 29)
  have T1 := TD.below A1
  have Z1 := ZD.below A1
  have D1 := hD.below A1
  have B1 := below_then BB A1 BB.size
  have hs1 : (wd.alloc (.cells #[] 29)).heap.size = w.heap.size + 3 := by rw [World.size_alloc, hsd]
  refine hK.out _ _ T1.1 (fun hH => ?_)
  clear hK K TD ZD hD BB A1
  rw [hsd] at O1
  generalize wd.alloc (.cells #[] 29) = w1 at O1 T1 Z1 D1 B1 hs1 hH ⊢
  try rw [hsd]
  refine wpAnyH_ready (rs := [5]) (by kernel_rfl) (by simp) ?_
  refine AllReadyH.cons rfl (fun K hK => ?_) AllReadyH.nil
  refine appendN_op Tryd.elemVals (.tmp 5) (.tmp 7) rfl (w.heap.size + 2) w1.heap.size (.slice (some ⟨w.heap.size + 2, 0, none⟩) 0 0) 0 [] rfl (Own.wide (by simpa using O1) (by omega)) (.slice a n cp) n (vals l) rfl D1 (valsOne l) (by unfold maxLen; omega) (by omega) ?_
  intro v2 w2 O2 E2
  rw [Nat.zero_add, List.nil_append] at O2
  have HE2 := Lib.hid E2.grown
  have T2 : Two w2 w.heap.size _ _ := T1.grown E2.grown (by simp [Value.ownBlock])
  have Z2 : Two w2 (w.heap.size + 1) _ _ := Z1.grown E2.grown (by simp [Value.ownBlock])
  have B2 := B1.grown E2.grown B1.size (fun k hk => by simp [Value.ownBlock] at hk; omega)
  have hs2 : w.heap.size + 3 ≤ w2.heap.size := by have := E2.grown.size; omega
  obtain ⟨g2, c2, rfl⟩ : ∃ g c, v2 = .slice (some ⟨g, 0, none⟩) n c := by obtain ⟨g, c, e, _⟩ := O2; exact ⟨g, c, e⟩
  have HO2 := Lib.hid O2
  refine hK.out _ _ T2.1 (fun hH => ?_)
  clear hK K E2 O1 T1 Z1 D1 B1 O2
  refine takeH (i := 6) (d := some 9) (v := .agg #[.int .i64 i, .slice (some ⟨g2, 0, none⟩) n c2]) rfl rfl (by kernel_rfl) (by kernel_rfl) (by kernel_rfl) (fun _ _ _ h => h) (Or.inl ⟨by rfl, fun W hSw => by obtain ⟨s0, s1⟩ := hSw; go_simp⟩) hH ?_
  try simp only [put_some, List.set_cons_zero, List.set_cons_succ]
  refine wpAnyH_ready (rs := [7]) (by kernel_rfl) (by simp) ?_
  refine AllReadyH.cons rfl (fun K hK => ?_) AllReadyH.nil
  obtain ⟨⟨z0, z1⟩, z2, z3⟩ := Z2
  obtain ⟨⟨y0, y1⟩, _⟩ := T2
  go_simp
  refine hK.out _ _ ⟨?_, ?_⟩ (fun hH => ?_)
  · exact (World.cell?_setCell_other _ _ _ _ (fun e => by injection e with e1; omega)).trans ((World.cell?_setCell_other _ _ _ _ (fun e => by injection e with e1; omega)).trans y0)
  · exact (World.cell?_setCell_other _ _ _ _ (fun e => by injection e with e1; omega)).trans ((World.cell?_setCell_other _ _ _ _ (fun e => by injection e with e1; omega)).trans y1)
  clear hK K
  refine wpAnyH_done (by kernel_rfl) ?_ _
  go_wp2
  refine bodyPost_ret (v := .agg #[.int .i64 i, .slice (some ⟨g2, 0, none⟩) n c2]) (by simp [results, Tryd.results77, go_sem, *]) rfl ⟨_, rfl, ?_, (B2.setCell (by simp) _).setCell (by simp) _⟩
  refine .inr ?_
  show Own _ _ _ _ _ _ l.length _
  rw [HLN.out]
  exact (((HO2.out.setBelow (by simp) _).setBelow (by simp) _).lower (by omega)).wide (by simp)

set_option maxRecDepth 100000 in
set_option maxHeartbeats 1000000 in
theorem iClone (u : Value) (l : List V) (w : World) (hn : l.length ≤ 1048576) (h : AtN 3 w u l.length (vals l)) :
    Calls Tryd.prog 101 #[u] w fun e w' => ∃ v, e = .returned v ∧ OwnV w.heap.size w'.heap.size w' v l ∧ Below w.heap.size w w' := by
  generalize hln : l.length = n at h hn
  have HLN := Lib.hid hln
  clear hln
  rcases h with ⟨rfl, rfl, hnil⟩ | h
  · have HNV := Lib.hid hnil
    have hnl : ∀ W, (binOp .eql 89 (.slice none 0 0) (.slice none 0 0)).run Tryd.prog W = .ok (.bool true) W := fun W => Lib.run_eql_slice_nil W _ 29 none 0 0 0 0 Tryd.underlying89
    clear hnil
    go_enter Tryd.func101, Tryd.ntmps101
    go_wp2
    go_ret
    exact ⟨_, rfl, .inl ⟨rfl, HLN.out, HNV.out⟩, Below.refl _ _⟩
  · have hN : AtN 3 w u n (vals l) := .inr h
    obtain ⟨b, off, cap, rfl, _, _, _, _⟩ := id h
    clear h
    have O1 := own_lit (e := 29) (size := 3) w #[] 0 (Nat.zero_le _) rfl
    have A1 := below_alloc w (.cells #[] 29)
    have D1 := hN.below A1
    clear hN
    generalize hw1 : w.alloc (.cells #[] 29) = w1 at O1 A1 D1
    have HW1 := Lib.hid hw1
    have hs1 : w1.heap.size = w.heap.size + 1 := by rw [← hw1, World.size_alloc]
    clear hw1
    have hnl : ∀ W, (binOp .eql 89 (.slice (some ⟨b, off, none⟩) n cap) (.slice none 0 0)).run Tryd.prog W = .ok (.bool false) W := fun W => Lib.run_eql_slice_nil W _ 29 (some ⟨b, off, none⟩) n cap 0 0 Tryd.underlying89
    go_enter Tryd.func101, Tryd.ntmps101
    go_wp2_with (at_builtin; rw [HW1.out]; refine appendN_law Tryd.elemVals rfl _ _ rfl w.heap.size w1.heap.size (.slice (some ⟨w.heap.size, 0, none⟩) 0 0) 0 [] rfl (Own.wide (by simpa using O1) (by omega)) (.slice (some ⟨b, off, none⟩) n cap) n (vals l) rfl D1 (valsOne l) (by unfold maxLen; omega) (by omega) ?_)
    intro v2 w2 O2 E2
    try rw [Nat.zero_add] at O2
    try rw [List.nil_append] at O2
    have B2 := A1.grown E2.grown A1.size (fun k hk => by simp [Value.ownBlock] at hk; omega)
    obtain ⟨g2, c2, rfl⟩ : ∃ g c, v2 = .slice (some ⟨g, 0, none⟩) n c := by obtain ⟨g, c, e, _⟩ := O2; exact ⟨g, c, e⟩
    have HO2 := Lib.hid O2
    clear O2 E2 O1 D1 A1
    go_wp2
    go_ret
    exact ⟨_, rfl, .inr (by show Own _ _ _ _ _ _ l.length _; rw [HLN.out]; exact HO2.out), B2⟩

set_option maxRecDepth 100000 in
set_option maxHeartbeats 1000000 in
theorem iCopyRow (r : R) (u : Value) (w : World) (hn : r.l.length ≤ 1048576) (h : AtN 3 w u r.l.length (vals r.l)) :
    Calls Tryd.prog 90 #[r.agg u] w fun e w' => ∃ v, e = .returned (r.agg v) ∧ OwnV w.heap.size w'.heap.size w' v r.l ∧ Below w.heap.size w w' := by
  have B0 := below_alloc2 w (.cells #[.int .i64 r.id, u] 91) (.cells #[.int .i64 0, .slice none 0 0] 91)
  have T0 := (two_new w (.int .i64 r.id) u 91).below (below_alloc _ (.cells #[.int .i64 0, .slice none 0 0] 91))
  have Z0 := two_new (w.alloc (.cells #[.int .i64 r.id, u] 91)) (.int .i64 0) (.slice none 0 0) 91
  have h0 := h.below B0
  rw [World.size_alloc] at Z0
  have hs0 : ((w.alloc (.cells #[.int .i64 r.id, u] 91)).alloc (.cells #[.int .i64 0, .slice none 0 0] 91)).heap.size = w.heap.size + 2 := by rw [World.size_alloc, World.size_alloc]
  obtain ⟨i, l⟩ := r
  simp only at B0 T0 Z0 h0 hs0 hn
  clear h
  generalize hw0 : (w.alloc (.cells #[.int .i64 i, u] 91)).alloc (.cells #[.int .i64 0, .slice none 0 0] 91) = w0 at B0 T0 Z0 h0 hs0
  have HW0 := Lib.hid hw0
  clear hw0
  have BD := (Below.refl w0.heap.size w0).drew
  have TD := T0.below BD
  have ZD := Z0.below BD
  have HC := Lib.hid (iClone u l w0.drew hn (h0.below BD))
  have BB := below_then B0 BD B0.size
  have hsd : w0.drew.heap.size = w.heap.size + 2 := by simpa using hs0
  obtain ⟨a, cp, hu⟩ := h0.sl
  generalize l.length = n at hu hn
  subst hu
  obtain ⟨t0, t1⟩ := T0.1
  clear T0 Z0 h0 BD B0
  go_enter Tryd.func90, Tryd.ntmps90
  go_wp2
  rw [HW0.out]
  refine wp_region_held_drew (S := fun W => W.cell? ⟨w.heap.size, 0, none⟩ = some (.int .i64 i) ∧ W.cell? ⟨w.heap.size, 1, none⟩ = some (.slice a n cp)) (by kernel_rfl) ⟨t0, t1⟩ (fun hH => ?_)
  clear t0 t1
  generalize w0.drew = wd at BB TD ZD hsd hH HC ⊢
  refine takeH (i := 0) (d := some 3) (v := .pointer (some ⟨w.heap.size, 0, none⟩)) rfl rfl (by kernel_rfl) (by kernel_rfl) (by kernel_rfl) (fun _ _ _ h => h) (Or.inl ⟨by rfl, fun W hSw => by obtain ⟨s0, s1⟩ := hSw; go_simp⟩) hH ?_
  try simp only [put_some, List.set_cons_zero, List.set_cons_succ]
  refine takeH (i := 1) (d := some 4) (v := .int .i64 i) rfl rfl (by kernel_rfl) (by kernel_rfl) (by kernel_rfl) (fun _ _ _ h => h) (Or.inl ⟨by rfl, fun W hSw => by obtain ⟨s0, s1⟩ := hSw; go_simp⟩) hH ?_
  try simp only [put_some, List.set_cons_zero, List.set_cons_succ]
  refine takeH (i := 2) (d := some 5) (v := .pointer (some ⟨w.heap.size, 1, none⟩)) rfl rfl (by kernel_rfl) (by kernel_rfl) (by kernel_rfl) (fun _ _ _ h => h) (Or.inl ⟨by rfl, fun W hSw => by obtain ⟨s0, s1⟩ := hSw; go_simp⟩) hH ?_
  try simp only [put_some, List.set_cons_zero, List.set_cons_succ]
  refine takeH (i := 3) (d := some 6) (v := .slice a n cp) rfl rfl (by kernel_rfl) (by kernel_rfl) (by kernel_rfl) (fun _ _ _ h => h) (Or.inl ⟨by rfl, fun W hSw => by obtain ⟨s0, s1⟩ := hSw; go_simp⟩) hH ?_
  try simp only [put_some, List.set_cons_zero, List.set_cons_succ]
  refine wpAnyH_ready (rs := [4]) (by kernel_rfl) (by simp) ?_
  refine AllReadyH.cons rfl (fun K hK => ?_) AllReadyH.nil
  go_simp
  go_at_call 101
  refine HC.out.mono ?_
  rintro e w2 ⟨v2, rfl, O2, b2⟩
  have T2 := TD.below b2
  have Z2 := ZD.below b2
  have B2 := below_then BB b2 BB.size
  have hs2 : w.heap.size + 2 ≤ w2.heap.size := by have := b2.size; omega
  rw [hsd] at O2
  obtain ⟨a2, c2, rfl⟩ := O2.atN.sl
  have HO2 := Lib.hid O2
  clear O2 TD ZD b2 HC
  go_wp2_with fail
  refine hK.out _ _ T2.1 (fun hH => ?_)
  clear hK K
  refine takeH (i := 5) (d := some 8) (v := .agg #[.int .i64 i, .slice a2 l.length c2]) rfl rfl (by kernel_rfl) (by kernel_rfl) (by kernel_rfl) (fun _ _ _ h => h) (Or.inl ⟨by rfl, fun W hSw => by obtain ⟨s0, s1⟩ := hSw; go_simp⟩) hH ?_
  try simp only [put_some, List.set_cons_zero, List.set_cons_succ]
  refine wpAnyH_ready (rs := [6]) (by kernel_rfl) (by simp) ?_
  refine AllReadyH.cons rfl (fun K hK => ?_) AllReadyH.nil
  obtain ⟨⟨z0, z1⟩, z2, z3⟩ := Z2
  obtain ⟨⟨y0, y1⟩, _⟩ := T2
  go_simp
  refine hK.out _ _ ⟨?_, ?_⟩ (fun hH => ?_)
  · exact (World.cell?_setCell_other _ _ _ _ (fun e => by injection e with e1; omega)).trans ((World.cell?_setCell_other _ _ _ _ (fun e => by injection e with e1; omega)).trans y0)
  · exact (World.cell?_setCell_other _ _ _ _ (fun e => by injection e with e1; omega)).trans ((World.cell?_setCell_other _ _ _ _ (fun e => by injection e with e1; omega)).trans y1)
  clear hK K
  refine wpAnyH_done (by kernel_rfl) ?_ _
  go_wp2
  refine bodyPost_ret (v := .agg #[.int .i64 i, .slice a2 l.length c2]) (by simp [results, Tryd.results90, go_sem, *]) rfl ⟨_, rfl, ?_, (B2.setCell (by simp) _).setCell (by simp) _⟩
  exact ((HO2.out.setBelow (by simp) _).setBelow (by simp) _).wide (by omega) (by simp)

end Go.Proofs.YtkofafefnlommaaDoor

/- Slices of Rows whose values are nil or read; append of a Row. -/
namespace Go.Proofs.YtkofafefnlommaaDoor
open Go.RowKit

/-- v is a slice of Rows whose values are nil or read. -/
def RdRsN (w : World) (v : Value) (ps : List P) : Prop := Rd 2 w v ps.length (prs ps) ∧ ∀ p ∈ ps, AtN 3 w p.2 p.1.l.length (vals p.1.l)
theorem RdRsN.below {w w' : World} {v : Value} {ps : List P} (h : RdRsN w v ps) (hb : Below w.heap.size w w') : RdRsN w' v ps := ⟨h.1.below hb, fun p hp => (h.2 p hp).below hb⟩
theorem RdRsN.rd {w : World} {v : Value} {ps : List P} (h : RdRsN w v ps) : RdRs w v ps := ⟨h.1, fun p hp => (h.2 p hp).rd⟩
theorem MyRs.rdN {lo hi w v} {ps : List P} (h : MyRs lo hi w v ps) : RdRsN w v ps := ⟨h.1.rd, fun p hp => (h.2.1 p hp).atN⟩
theorem RdRsN.walk {w : World} {v : Value} {ps : List P} (h : RdRsN w v ps) {n : Nat} (hl : ps.length = n) :
    ∃ a cap, v = .slice a n cap ∧ n ≤ maxLen ∧ Hid (∀ k, k < n → ∀ W, Below w.heap.size w W → ∃ b off, a = some ⟨b, off, none⟩ ∧ W.cell? ⟨b, off + k * 2, none⟩ = some (.int .i64 (ps.getD k P.zero).1.id) ∧ W.cell? ⟨b, off + k * 2 + 1, none⟩ = some (ps.getD k P.zero).2 ∧ AtN 3 W (ps.getD k P.zero).2 (ps.getD k P.zero).1.l.length (vals (ps.getD k P.zero).1.l)) := by
  obtain ⟨a, cap, rfl, hn, HC⟩ := h.rd.walk hl
  refine ⟨a, cap, rfl, hn, fun k hk W hW => ?_⟩
  obtain ⟨b, off, e, h1, h2, _⟩ := HC.out k hk W hW
  refine ⟨b, off, e, h1, h2, (h.2 _ ?_).below hW⟩
  have hk' : k < ps.length := by omega
  have e : ps.getD k P.zero = ps[k] := by simp [hk']
  rw [e]
  exact List.getElem_mem hk'
theorem apart_snoc {us : List Value} {v : Value} (h : Apart us) (hv : ∀ u ∈ us, u.ownBlock = none ∨ u.ownBlock ≠ v.ownBlock) : Apart (us ++ [v]) := by
  unfold Apart at *
  rw [List.pairwise_append]
  exact ⟨h, List.pairwise_singleton _ _, fun a ha b hb => by rw [List.mem_singleton.1 hb]; exact hv a ha⟩
theorem OwnN.block_ne {lo hi lo' hi' w v u n xs} {l : List V} (h : OwnN 91 2 lo' hi' w v n xs) (k : OwnV lo hi w u l) : v.ownBlock = none ∨ v.ownBlock ≠ u.ownBlock := by
  rcases h with ⟨rfl, _⟩ | h
  · exact .inl rfl
  · exact .inr (OwnV.block_ne h k)
theorem OwnV.lt {lo hi w u} {l : List V} (h : OwnV lo hi w u l) {s : Nat} (hs : hi ≤ s) {v : Value} (hv : ∀ x, v.ownBlock = some x → s ≤ x) : u.ownBlock = none ∨ u.ownBlock ≠ v.ownBlock := by
  by_cases hu : u.ownBlock = none
  · exact .inl hu
  · refine .inr (fun e => ?_)
    cases hx : u.ownBlock with
    | none => exact hu hx
    | some x =>
      have h1 := h.in_ hx
      have h2 := hv x (e.symm.trans hx)
      omega
/-- One more row. -/
theorem MyRs.append {lo s : Nat} {w1 w2 : World} {out out' : Value} {ps : List P} {p : P} (h : MyRs lo s w1 out ps) (hls : lo ≤ s) (hp : OwnV s w1.heap.size w1 p.2 p.1.l) (hs : s ≤ w1.heap.size) (ho : Own 91 2 lo w2.heap.size w2 out' (ps.length + 1) (prs ps ++ p.cs)) (he : Ext w1 w2 out out') : MyRs lo w2.heap.size w2 out' (ps ++ [p]) := by
  have hz := he.grown.size
  refine ⟨?_, fun q hq => ?_, ?_⟩
  · rw [List.length_append]
    refine .inr ?_
    have e : prs (ps ++ [p]) = prs ps ++ p.cs := by simp [prs]
    rw [e]
    exact ho
  · rcases List.mem_append.1 hq with hq | hq
    · exact ((h.2.1 q hq).other he.grown (OwnN.block_ne h.1 (h.2.1 q hq))).wide (Nat.le_refl _) (by omega)
    · rw [List.mem_singleton.1 hq]
      exact (hp.other he.grown (OwnN.block_ne h.1 hp)).wide hls hz
  · rw [List.map_append]
    refine apart_snoc h.2.2 (fun u hu => ?_)
    obtain ⟨q, hq, rfl⟩ := List.mem_map.1 hu
    exact (h.2.1 q hq).lt (Nat.le_refl _) (fun x hx => (hp.in_ hx).1)
/-- append(s, x): x, a Row, has just been laid in a block of its own. -/
theorem appendR_law {P : Program} {t e : TypeId} {z : Value} {bytes : Nat} (T : ElemT P t e z 2 bytes) {w : World} {ops : Array Oper} {rest : List Oper} {o : Oper} {a : Act} {Q : Exit → Act → World → Prop} (hgd : o.guard = none) (s x : Operand)
    (ho : o.op = .call { callee := .builtin .append, args := #[s, x], argTypes := #[t, t] })
    (lo hi : Nat) (v : Value) (n : Nat) (xs : List Value) (k : Int) (ua : Option Addr) (un uc : Nat) (hs : a.eval s = v) (hown : OwnN e 2 lo hi w v n xs) (hlo : lo ≤ w.heap.size)
    (N : Nat) (hN : w.heap.size = N) (hx : a.eval x = .slice (some ⟨N, 0, none⟩) 1 1)
    (h63 : n + 1 ≤ maxLen) (hbytes : (n + 1) * bytes ≤ 140737488355328)
    (h : ∀ v' w', Own e 2 lo w'.heap.size w' v' (n + 1) (xs ++ [.int .i64 k, .slice ua un uc]) → Ext w w' v v' → wpList P ops Q rest (a.put o.dst v') w') : wpList P ops Q (o :: rest) a (w.alloc (.cells #[.int .i64 k, .slice ua un uc] e)) := by
  subst hN
  refine append_lawN T hgd s x ho lo hi v n xs hs (hown.imp id (fun h => h.alloc _)) (by rw [World.size_alloc]; omega) w.heap.size 0 1 1 [.int .i64 k, .slice ua un uc] hx rfl ?_ ?_ (by omega) h63 hbytes (fun v' w' h1 h2 => h v' w' h1 ((Ext.alloc v _).trans h2))
  · intro j y hj
    match j, hj with
    | 0, hj => simp at hj; subst hj; simp
    | 1, hj => simp at hj; subst hj; simp
    | j + 2, hj => simp at hj
  · intro y hy
    simp at hy
    rcases hy with rfl | rfl <;> rfl
theorem Blk.ext {W W' : World} {b : Nat} {cs : List Value} {v v' : Value} (h : Blk W b cs) (he : Ext W W' v v') (hne : v.ownBlock ≠ some b) : Blk W' b cs := h.grown he.grown (fun e => hne e.symm)
theorem OwnN.not_low {e size lo hi w v n xs} (h : OwnN e size lo hi w v n xs) {b : Nat} (hb : b < lo) : v.ownBlock ≠ some b := by
  rcases h with ⟨rfl, _⟩ | ⟨g, cp, rfl, h1, _⟩
  · simp [Value.ownBlock]
  · simp [Value.ownBlock]
    omega

end Go.Proofs.YtkofafefnlommaaDoor

/- The model's l4All (written by mk_S12j.py). -/
namespace Go.Proofs.YtkofafefnlommaaDoor
open Go.RowKit

set_option maxRecDepth 100000 in
set_option maxHeartbeats 4000000 in
theorem sL4All (v : Value) (ps : List P) (w : World) (hn : ps.length ≤ 1048576) (hli : ∀ p ∈ ps, p.1.l.length ≤ 1048576) (h : RdRsN w v ps) :
    Calls Tryd.prog 46 #[v] w fun e w' => ∃ v' qs, e = .returned v' ∧ MyRs w.heap.size w'.heap.size w' v' qs ∧ qs.map (·.1) = ps.map (·.1) ∧ (∃ g cp, v' = .slice (some ⟨g, 0, none⟩) qs.length cp) ∧ Below w.heap.size w w' := by
  generalize hl : ps.length = n at hn
  obtain ⟨a, cap, rfl, _, HC⟩ := h.walk hl
  have HLI : Hid (∀ k, k < n → (ps.getD k P.zero).1.l.length ≤ 1048576) := fun k hk => by
    have hk' : k < ps.length := by omega
    have e : ps.getD k P.zero = ps[k] := by simp [hk']
    rw [e]
    exact hli _ (List.getElem_mem hk')
  have HMT : Hid (∀ j, j < n → (ps.map (·.1)).take (j + 1) = (ps.map (·.1)).take j ++ [(ps.getD j P.zero).1]) := fun j hj => by
    have hk' : j < ps.length := by omega
    rw [List.take_succ_eq_append_getElem (by rw [List.length_map]; omega), getDe ps P.zero hk', List.getElem_map]
  have HALL : Hid ((ps.map (·.1)).take n = ps.map (·.1)) := by
    show _ = _
    rw [← hl, List.take_of_length_le (by rw [List.length_map]; exact Nat.le_refl _)]
  have B1 := below_alloc w (.cells #[] 91)
  have O1 := own_lit (e := 91) (size := 2) w #[] 0 (Nat.zero_le _) rfl
  have hz1 : (w.alloc (.cells #[] 91)).heap.size = w.heap.size + 1 := World.size_alloc _ _
  generalize hw1 : w.alloc (.cells #[] 91) = w1 at B1 O1 hz1
  have HW1 := Lib.hid hw1
  clear hw1 hl h hli
  go_enter Tryd.func46, Tryd.ntmps46
  go_wp2
  rw [HW1.out]
  go_loopw [3, 4] (fun o i wr => ∃ (j : Nat) (qs : List P), j ≤ n ∧ i = .int .i64 j ∧ (∃ g cp, o = .slice (some ⟨g, 0, none⟩) qs.length cp) ∧ MyRs w.heap.size wr.heap.size wr o qs ∧ qs.map (·.1) = (ps.map (·.1)).take j ∧ qs.length = j ∧ Below w.heap.size w wr ∧ w.heap.size ≤ wr.heap.size) (fun _ i _ => n - (intOf i).toNat)
  case atStart => exact ⟨0, [], Nat.zero_le _, rfl, ⟨_, _, rfl⟩, ⟨.inr (show Own 91 2 w.heap.size w1.heap.size w1 _ 0 [] by simpa using O1), fun p hp => (by cases hp), List.Pairwise.nil⟩, rfl, rfl, B1, by omega⟩
  case round =>
    obtain ⟨j, qs, hj, rfl, ⟨og, ocp, rfl⟩, hmy, hqs, hql, hbr, hsz⟩ := hrel
    have HMY := Lib.hid hmy
    have HQS := Lib.hid hqs
    have HQL := Lib.hid hql
    clear O1 hqs B1 hz1 hql
    by_cases hlt : j < n
    · obtain ⟨b, off, rfl, c0, c1, hat⟩ := HC.out j hlt wr hbr
      have HST : Hid (∀ y : Value, (qs ++ [((ps.getD j P.zero).1, y)]).map (·.1) = (ps.map (·.1)).take (j + 1)) := fun y => by
        rw [HMT.out j hlt, List.map_append, HQS.out]
        rfl
      have hll := HLI.out j hlt
      generalize hpj : ps.getD j P.zero = pj at c0 c1 hat HST hll
      clear hpj
      obtain ⟨r, x⟩ := pj
      simp only at c0 c1 hat hll
      obtain ⟨xa, xc, rfl⟩ := hat.sl
      have HAT := Lib.hid (sL4Copy r (.slice xa r.l.length xc) wr hll hat)
      clear hat
      generalize r.l.length = xn at c1 hll HAT
      obtain ⟨ri, rl⟩ := r
      simp only [R.agg] at c0 c1 HAT
      clear hmy
      go_wp2_with fail
      refine HAT.out.mono ?_
      rintro e w3 ⟨x3, rfl, o3, b3⟩
      obtain ⟨ya, yc, hy⟩ := o3.atN.sl
      generalize rl.length = yn at hy
      subst hy
      have A4 := below_alloc w3 (.cells #[.int .i64 ri, .slice ya yn yc] 91)
      have M4 := ((HMY.out.below b3 (Nat.le_refl _)).below A4 b3.size)
      have B4 := below_then (below_then hbr b3 hbr.size) A4 (below_then hbr b3 hbr.size).size
      have O4 := (o3.below A4 (Nat.le_refl _)).wide (Nat.le_refl _) A4.size
      have hs3 := b3.size
      have hs4 := A4.size
      have HZ4 : Hid ((w3.alloc (.cells #[.int .i64 ri, .slice ya yn yc] 91)).heap.size = w3.heap.size + 1) := World.size_alloc _ _
      generalize hw4 : w3.alloc (.cells #[.int .i64 ri, .slice ya yn yc] 91) = w4 at M4 B4 O4 hs4 HZ4
      have HW4 := Lib.hid hw4
      clear hw4 A4
      have HM4 := Lib.hid M4
      have HO4 := Lib.hid O4
      have ONN := M4.1
      have hlo4 : w.heap.size ≤ w4.heap.size := by omega
      clear o3 b3 M4 O4 HAT c0 c1
      go_wp2_with (at_builtin; rw [HW4.out]; refine appendR_law Tryd.elemRows rfl _ _ rfl w.heap.size _ _ _ _ ri ya yn yc rfl ONN hlo4 _ HZ4.out rfl (by have := HQL.out; unfold maxLen; omega) (by have := HQL.out; omega) ?_)
      intro v5 w5 o5 e5
      have HF : Hid (MyRs w.heap.size w5.heap.size w5 v5 (qs ++ [(⟨ri, rl⟩, .slice ya yn yc)]) ∧ (qs ++ [((⟨ri, rl⟩ : R), Value.slice ya yn yc)]).map (·.1) = (ps.map (·.1)).take (j + 1) ∧ (qs ++ [((⟨ri, rl⟩ : R), Value.slice ya yn yc)]).length = j + 1 ∧ Below w.heap.size w w5 ∧ w.heap.size ≤ w5.heap.size) := ⟨HM4.out.append (by omega) HO4.out (by omega) o5 e5, HST.out _, by rw [List.length_append, HQL.out]; rfl, B4.grown e5.grown B4.size (fun k hk => Nat.le_of_not_lt (fun hlt => ONN.not_low (b := k) (by omega) hk)), Nat.le_trans hlo4 e5.grown.size⟩
      obtain ⟨vb, vc, hv5⟩ : ∃ g cp, v5 = .slice (some ⟨g, 0, none⟩) (qs.length + 1) cp := by obtain ⟨g, cp, e, _⟩ := o5; exact ⟨g, cp, e⟩
      subst hv5
      clear o5 e5 B4 ONN
      go_wp2
      go_roundw
      case rel => exact ⟨j + 1, _, by omega, by go_num, ⟨_, _, by rw [List.length_append]; rfl⟩, HF.out.1, HF.out.2⟩
      case measure => simp [intOf]; omega
    · obtain rfl : j = n := by omega
      clear hmy
      go_wp2
      go_ret
      exact ⟨_, rfl, qs, HMY.out, HQS.out.trans HALL.out, ⟨_, _, rfl⟩, hbr⟩

end Go.Proofs.YtkofafefnlommaaDoor

/- The model's Meant (written by mk_S12b.py). -/
namespace Go.Proofs.YtkofafefnlommaaDoor
open Go.RowKit

theorem meant_take {t : T} {l : List R} {r : R} {j : Nat} (hj : j < l.length) (e : l.getD j R.zero = r) : meantL t (l.take (j + 1)) = if t.holds r.l = true then meantL t (l.take j) ++ [r] else meantL t (l.take j) := by
  rw [List.take_succ_eq_append_getElem hj, meantL_snoc, ← getDe l R.zero hj, e]

end Go.Proofs.YtkofafefnlommaaDoor

/- The model's Joined (written by mk_S12k.py). -/
namespace Go.Proofs.YtkofafefnlommaaDoor
open Go.RowKit

theorem wr64_eq (x : Int) : wr64 x = wrap64 x := by
  unfold wr64 wrap64
  exact IntKind.wrap_i64 x
theorem below_alloc5 (w : World) (a b c d e : Obj) : Below w.heap.size w (((((w.alloc a).alloc b).alloc c).alloc d).alloc e) :=
  below_then (below_then (below_then (below_alloc2 w a b) (below_alloc _ c) (Below.size (below_alloc2 w a b))) (below_alloc _ d) (by simp only [World.size_alloc]; omega)) (below_alloc _ e) (by simp only [World.size_alloc]; omega)

set_option maxRecDepth 100000 in
set_option maxHeartbeats 4000000 in
theorem sJoined2 (t : T) (qc : Int) (ua : Option Addr) (un uc : Nat) (oa : Option Addr) (on oc : Nat) (a b : Rs) (aa : Option Addr) (an ac : Nat) (ba : Option Addr) (bn bc : Nat) (w : World) :
    Calls Tryd.prog 19 #[.agg #[.int .i64 2, .int .i64 t.kind, .int .i64 t.col, .int .i64 t.op, .int .i64 t.v.ty, .int .i64 t.v.n, .string t.v.s, .slice ua un uc, .int .i64 qc, .slice oa on oc], .agg #[.slice aa an ac, .int .i64 a.n, .bool a.has, .int .i64 a.v.ty, .int .i64 a.v.n, .string a.v.s], .agg #[.slice ba bn bc, .int .i64 b.n, .bool b.has, .int .i64 b.v.ty, .int .i64 b.v.n, .string b.v.s]] w fun e w' => ∃ u' qs', e = .returned (.agg ((joinL 2 a b).cs u').toArray) ∧ MyRs w.heap.size w'.heap.size w' u' qs' ∧ qs'.map (·.1) = (joinL 2 a b).rows ∧ Below w.heap.size w w' := by
  have C0 := ((((blk_new w [.int .i64 2, .int .i64 t.kind, .int .i64 t.col, .int .i64 t.op, .int .i64 t.v.ty, .int .i64 t.v.n, .string t.v.s, .slice ua un uc, .int .i64 qc, .slice oa on oc] 46).below (below_alloc _ (.cells #[.slice aa an ac, .int .i64 a.n, .bool a.has, .int .i64 a.v.ty, .int .i64 a.v.n, .string a.v.s] 50))).below (below_alloc _ (.cells #[.slice ba bn bc, .int .i64 b.n, .bool b.has, .int .i64 b.v.ty, .int .i64 b.v.n, .string b.v.s] 50))).below (below_alloc _ (.cells #[.slice none 0 0, .int .i64 0, .bool false, .int .i64 0, .int .i64 0, .string ⟨#[]⟩] 50))).below (below_alloc _ (.cells #[.slice none 0 0, .int .i64 0, .bool false, .int .i64 0, .int .i64 0, .string ⟨#[]⟩] 50))
  have CA := (((blk_new (w.alloc (.cells #[.int .i64 2, .int .i64 t.kind, .int .i64 t.col, .int .i64 t.op, .int .i64 t.v.ty, .int .i64 t.v.n, .string t.v.s, .slice ua un uc, .int .i64 qc, .slice oa on oc] 46)) [.slice aa an ac, .int .i64 a.n, .bool a.has, .int .i64 a.v.ty, .int .i64 a.v.n, .string a.v.s] 50).below (below_alloc _ (.cells #[.slice ba bn bc, .int .i64 b.n, .bool b.has, .int .i64 b.v.ty, .int .i64 b.v.n, .string b.v.s] 50))).below (below_alloc _ (.cells #[.slice none 0 0, .int .i64 0, .bool false, .int .i64 0, .int .i64 0, .string ⟨#[]⟩] 50))).below (below_alloc _ (.cells #[.slice none 0 0, .int .i64 0, .bool false, .int .i64 0, .int .i64 0, .string ⟨#[]⟩] 50))
  have CB := ((blk_new ((w.alloc (.cells #[.int .i64 2, .int .i64 t.kind, .int .i64 t.col, .int .i64 t.op, .int .i64 t.v.ty, .int .i64 t.v.n, .string t.v.s, .slice ua un uc, .int .i64 qc, .slice oa on oc] 46)).alloc (.cells #[.slice aa an ac, .int .i64 a.n, .bool a.has, .int .i64 a.v.ty, .int .i64 a.v.n, .string a.v.s] 50)) [.slice ba bn bc, .int .i64 b.n, .bool b.has, .int .i64 b.v.ty, .int .i64 b.v.n, .string b.v.s] 50).below (below_alloc _ (.cells #[.slice none 0 0, .int .i64 0, .bool false, .int .i64 0, .int .i64 0, .string ⟨#[]⟩] 50))).below (below_alloc _ (.cells #[.slice none 0 0, .int .i64 0, .bool false, .int .i64 0, .int .i64 0, .string ⟨#[]⟩] 50))
  have CR := (blk_new (((w.alloc (.cells #[.int .i64 2, .int .i64 t.kind, .int .i64 t.col, .int .i64 t.op, .int .i64 t.v.ty, .int .i64 t.v.n, .string t.v.s, .slice ua un uc, .int .i64 qc, .slice oa on oc] 46)).alloc (.cells #[.slice aa an ac, .int .i64 a.n, .bool a.has, .int .i64 a.v.ty, .int .i64 a.v.n, .string a.v.s] 50)).alloc (.cells #[.slice ba bn bc, .int .i64 b.n, .bool b.has, .int .i64 b.v.ty, .int .i64 b.v.n, .string b.v.s] 50)) [.slice none 0 0, .int .i64 0, .bool false, .int .i64 0, .int .i64 0, .string ⟨#[]⟩] 50).below (below_alloc _ (.cells #[.slice none 0 0, .int .i64 0, .bool false, .int .i64 0, .int .i64 0, .string ⟨#[]⟩] 50))
  have CO := blk_new ((((w.alloc (.cells #[.int .i64 2, .int .i64 t.kind, .int .i64 t.col, .int .i64 t.op, .int .i64 t.v.ty, .int .i64 t.v.n, .string t.v.s, .slice ua un uc, .int .i64 qc, .slice oa on oc] 46)).alloc (.cells #[.slice aa an ac, .int .i64 a.n, .bool a.has, .int .i64 a.v.ty, .int .i64 a.v.n, .string a.v.s] 50)).alloc (.cells #[.slice ba bn bc, .int .i64 b.n, .bool b.has, .int .i64 b.v.ty, .int .i64 b.v.n, .string b.v.s] 50)).alloc (.cells #[.slice none 0 0, .int .i64 0, .bool false, .int .i64 0, .int .i64 0, .string ⟨#[]⟩] 50)) [.slice none 0 0, .int .i64 0, .bool false, .int .i64 0, .int .i64 0, .string ⟨#[]⟩] 50
  simp only [World.size_alloc] at CA CB CR CO
  have k0 := (C0 0 _ rfl).1
  have a1 := (CA 1 _ rfl).1
  have b1 := (CB 1 _ rfl).1
  obtain ⟨o0, g0⟩ := CO 0 _ rfl
  obtain ⟨o1, g1⟩ := CO 1 _ rfl
  obtain ⟨o2, g2⟩ := CO 2 _ rfl
  obtain ⟨o3, g3⟩ := CO 3 _ rfl
  obtain ⟨o4, g4⟩ := CO 4 _ rfl
  obtain ⟨o5, g5⟩ := CO 5 _ rfl
  obtain ⟨r0, f0⟩ := CR 0 _ rfl
  obtain ⟨r1, f1⟩ := CR 1 _ rfl
  obtain ⟨r2, f2⟩ := CR 2 _ rfl
  obtain ⟨r3, f3⟩ := CR 3 _ rfl
  obtain ⟨r4, f4⟩ := CR 4 _ rfl
  obtain ⟨r5, f5⟩ := CR 5 _ rfl
  clear C0 CA CB CO CR
  have HJ : Hid (joinL 2 a b = ⟨[], wrap64 (a.n + b.n), false, V.zero⟩) := by
    show _ = _
    rw [← wr64_eq]
    simp [joinL]
  go_enter Tryd.func19, Tryd.ntmps19
  go_wp2
  exact bodyPost_ret (v := .agg #[.slice none 0 0, .int .i64 (wrap64 (a.n + b.n)), .bool false, .int .i64 0, .int .i64 0, .string ⟨#[]⟩]) (by simp [results, Tryd.results19, go_sem, *]) rfl ⟨.slice none 0 0, [], (by rw [HJ.out]; rfl), ⟨.inl ⟨rfl, rfl, rfl⟩, fun p hp => (by cases hp), List.Pairwise.nil⟩, (by rw [HJ.out]; rfl), below_alloc5 w _ _ _ _ _⟩

set_option maxRecDepth 100000 in
set_option maxHeartbeats 4000000 in
theorem sJoined3 (t : T) (qc : Int) (ua : Option Addr) (un uc : Nat) (oa : Option Addr) (on oc : Nat) (a b : Rs) (aa : Option Addr) (an ac : Nat) (ba : Option Addr) (bn bc : Nat) (w : World) :
    Calls Tryd.prog 19 #[.agg #[.int .i64 3, .int .i64 t.kind, .int .i64 t.col, .int .i64 t.op, .int .i64 t.v.ty, .int .i64 t.v.n, .string t.v.s, .slice ua un uc, .int .i64 qc, .slice oa on oc], .agg #[.slice aa an ac, .int .i64 a.n, .bool a.has, .int .i64 a.v.ty, .int .i64 a.v.n, .string a.v.s], .agg #[.slice ba bn bc, .int .i64 b.n, .bool b.has, .int .i64 b.v.ty, .int .i64 b.v.n, .string b.v.s]] w fun e w' => ∃ u' qs', e = .returned (.agg ((joinL 3 a b).cs u').toArray) ∧ MyRs w.heap.size w'.heap.size w' u' qs' ∧ qs'.map (·.1) = (joinL 3 a b).rows ∧ Below w.heap.size w w' := by
  have C0 := ((((blk_new w [.int .i64 3, .int .i64 t.kind, .int .i64 t.col, .int .i64 t.op, .int .i64 t.v.ty, .int .i64 t.v.n, .string t.v.s, .slice ua un uc, .int .i64 qc, .slice oa on oc] 46).below (below_alloc _ (.cells #[.slice aa an ac, .int .i64 a.n, .bool a.has, .int .i64 a.v.ty, .int .i64 a.v.n, .string a.v.s] 50))).below (below_alloc _ (.cells #[.slice ba bn bc, .int .i64 b.n, .bool b.has, .int .i64 b.v.ty, .int .i64 b.v.n, .string b.v.s] 50))).below (below_alloc _ (.cells #[.slice none 0 0, .int .i64 0, .bool false, .int .i64 0, .int .i64 0, .string ⟨#[]⟩] 50))).below (below_alloc _ (.cells #[.slice none 0 0, .int .i64 0, .bool false, .int .i64 0, .int .i64 0, .string ⟨#[]⟩] 50))
  have CA := (((blk_new (w.alloc (.cells #[.int .i64 3, .int .i64 t.kind, .int .i64 t.col, .int .i64 t.op, .int .i64 t.v.ty, .int .i64 t.v.n, .string t.v.s, .slice ua un uc, .int .i64 qc, .slice oa on oc] 46)) [.slice aa an ac, .int .i64 a.n, .bool a.has, .int .i64 a.v.ty, .int .i64 a.v.n, .string a.v.s] 50).below (below_alloc _ (.cells #[.slice ba bn bc, .int .i64 b.n, .bool b.has, .int .i64 b.v.ty, .int .i64 b.v.n, .string b.v.s] 50))).below (below_alloc _ (.cells #[.slice none 0 0, .int .i64 0, .bool false, .int .i64 0, .int .i64 0, .string ⟨#[]⟩] 50))).below (below_alloc _ (.cells #[.slice none 0 0, .int .i64 0, .bool false, .int .i64 0, .int .i64 0, .string ⟨#[]⟩] 50))
  have CB := ((blk_new ((w.alloc (.cells #[.int .i64 3, .int .i64 t.kind, .int .i64 t.col, .int .i64 t.op, .int .i64 t.v.ty, .int .i64 t.v.n, .string t.v.s, .slice ua un uc, .int .i64 qc, .slice oa on oc] 46)).alloc (.cells #[.slice aa an ac, .int .i64 a.n, .bool a.has, .int .i64 a.v.ty, .int .i64 a.v.n, .string a.v.s] 50)) [.slice ba bn bc, .int .i64 b.n, .bool b.has, .int .i64 b.v.ty, .int .i64 b.v.n, .string b.v.s] 50).below (below_alloc _ (.cells #[.slice none 0 0, .int .i64 0, .bool false, .int .i64 0, .int .i64 0, .string ⟨#[]⟩] 50))).below (below_alloc _ (.cells #[.slice none 0 0, .int .i64 0, .bool false, .int .i64 0, .int .i64 0, .string ⟨#[]⟩] 50))
  have CR := (blk_new (((w.alloc (.cells #[.int .i64 3, .int .i64 t.kind, .int .i64 t.col, .int .i64 t.op, .int .i64 t.v.ty, .int .i64 t.v.n, .string t.v.s, .slice ua un uc, .int .i64 qc, .slice oa on oc] 46)).alloc (.cells #[.slice aa an ac, .int .i64 a.n, .bool a.has, .int .i64 a.v.ty, .int .i64 a.v.n, .string a.v.s] 50)).alloc (.cells #[.slice ba bn bc, .int .i64 b.n, .bool b.has, .int .i64 b.v.ty, .int .i64 b.v.n, .string b.v.s] 50)) [.slice none 0 0, .int .i64 0, .bool false, .int .i64 0, .int .i64 0, .string ⟨#[]⟩] 50).below (below_alloc _ (.cells #[.slice none 0 0, .int .i64 0, .bool false, .int .i64 0, .int .i64 0, .string ⟨#[]⟩] 50))
  have CO := blk_new ((((w.alloc (.cells #[.int .i64 3, .int .i64 t.kind, .int .i64 t.col, .int .i64 t.op, .int .i64 t.v.ty, .int .i64 t.v.n, .string t.v.s, .slice ua un uc, .int .i64 qc, .slice oa on oc] 46)).alloc (.cells #[.slice aa an ac, .int .i64 a.n, .bool a.has, .int .i64 a.v.ty, .int .i64 a.v.n, .string a.v.s] 50)).alloc (.cells #[.slice ba bn bc, .int .i64 b.n, .bool b.has, .int .i64 b.v.ty, .int .i64 b.v.n, .string b.v.s] 50)).alloc (.cells #[.slice none 0 0, .int .i64 0, .bool false, .int .i64 0, .int .i64 0, .string ⟨#[]⟩] 50)) [.slice none 0 0, .int .i64 0, .bool false, .int .i64 0, .int .i64 0, .string ⟨#[]⟩] 50
  simp only [World.size_alloc] at CA CB CR CO
  have k0 := (C0 0 _ rfl).1
  have a1 := (CA 1 _ rfl).1
  have b1 := (CB 1 _ rfl).1
  obtain ⟨o0, g0⟩ := CO 0 _ rfl
  obtain ⟨o1, g1⟩ := CO 1 _ rfl
  obtain ⟨o2, g2⟩ := CO 2 _ rfl
  obtain ⟨o3, g3⟩ := CO 3 _ rfl
  obtain ⟨o4, g4⟩ := CO 4 _ rfl
  obtain ⟨o5, g5⟩ := CO 5 _ rfl
  obtain ⟨r0, f0⟩ := CR 0 _ rfl
  obtain ⟨r1, f1⟩ := CR 1 _ rfl
  obtain ⟨r2, f2⟩ := CR 2 _ rfl
  obtain ⟨r3, f3⟩ := CR 3 _ rfl
  obtain ⟨r4, f4⟩ := CR 4 _ rfl
  obtain ⟨r5, f5⟩ := CR 5 _ rfl
  clear C0 CA CB CO CR
  have HJ : Hid (joinL 3 a b = ⟨[], wrap64 (a.n + b.n), false, V.zero⟩) := by
    show _ = _
    rw [← wr64_eq]
    simp [joinL]
  go_enter Tryd.func19, Tryd.ntmps19
  go_wp2
  exact bodyPost_ret (v := .agg #[.slice none 0 0, .int .i64 (wrap64 (a.n + b.n)), .bool false, .int .i64 0, .int .i64 0, .string ⟨#[]⟩]) (by simp [results, Tryd.results19, go_sem, *]) rfl ⟨.slice none 0 0, [], (by rw [HJ.out]; rfl), ⟨.inl ⟨rfl, rfl, rfl⟩, fun p hp => (by cases hp), List.Pairwise.nil⟩, (by rw [HJ.out]; rfl), below_alloc5 w _ _ _ _ _⟩

set_option maxRecDepth 100000 in
set_option maxHeartbeats 4000000 in
theorem sJoinedNo (qk : Int) (hk : ¬ (1 ≤ qk ∧ qk ≤ 5)) (t : T) (qc : Int) (ua : Option Addr) (un uc : Nat) (oa : Option Addr) (on oc : Nat) (a b : Rs) (aa : Option Addr) (an ac : Nat) (ba : Option Addr) (bn bc : Nat) (w : World) :
    Calls Tryd.prog 19 #[.agg #[.int .i64 qk, .int .i64 t.kind, .int .i64 t.col, .int .i64 t.op, .int .i64 t.v.ty, .int .i64 t.v.n, .string t.v.s, .slice ua un uc, .int .i64 qc, .slice oa on oc], .agg #[.slice aa an ac, .int .i64 a.n, .bool a.has, .int .i64 a.v.ty, .int .i64 a.v.n, .string a.v.s], .agg #[.slice ba bn bc, .int .i64 b.n, .bool b.has, .int .i64 b.v.ty, .int .i64 b.v.n, .string b.v.s]] w fun e w' => ∃ u' qs', e = .returned (.agg ((joinL qk a b).cs u').toArray) ∧ MyRs w.heap.size w'.heap.size w' u' qs' ∧ qs'.map (·.1) = (joinL qk a b).rows ∧ Below w.heap.size w w' := by
  have C0 := ((((blk_new w [.int .i64 qk, .int .i64 t.kind, .int .i64 t.col, .int .i64 t.op, .int .i64 t.v.ty, .int .i64 t.v.n, .string t.v.s, .slice ua un uc, .int .i64 qc, .slice oa on oc] 46).below (below_alloc _ (.cells #[.slice aa an ac, .int .i64 a.n, .bool a.has, .int .i64 a.v.ty, .int .i64 a.v.n, .string a.v.s] 50))).below (below_alloc _ (.cells #[.slice ba bn bc, .int .i64 b.n, .bool b.has, .int .i64 b.v.ty, .int .i64 b.v.n, .string b.v.s] 50))).below (below_alloc _ (.cells #[.slice none 0 0, .int .i64 0, .bool false, .int .i64 0, .int .i64 0, .string ⟨#[]⟩] 50))).below (below_alloc _ (.cells #[.slice none 0 0, .int .i64 0, .bool false, .int .i64 0, .int .i64 0, .string ⟨#[]⟩] 50))
  have CA := (((blk_new (w.alloc (.cells #[.int .i64 qk, .int .i64 t.kind, .int .i64 t.col, .int .i64 t.op, .int .i64 t.v.ty, .int .i64 t.v.n, .string t.v.s, .slice ua un uc, .int .i64 qc, .slice oa on oc] 46)) [.slice aa an ac, .int .i64 a.n, .bool a.has, .int .i64 a.v.ty, .int .i64 a.v.n, .string a.v.s] 50).below (below_alloc _ (.cells #[.slice ba bn bc, .int .i64 b.n, .bool b.has, .int .i64 b.v.ty, .int .i64 b.v.n, .string b.v.s] 50))).below (below_alloc _ (.cells #[.slice none 0 0, .int .i64 0, .bool false, .int .i64 0, .int .i64 0, .string ⟨#[]⟩] 50))).below (below_alloc _ (.cells #[.slice none 0 0, .int .i64 0, .bool false, .int .i64 0, .int .i64 0, .string ⟨#[]⟩] 50))
  have CB := ((blk_new ((w.alloc (.cells #[.int .i64 qk, .int .i64 t.kind, .int .i64 t.col, .int .i64 t.op, .int .i64 t.v.ty, .int .i64 t.v.n, .string t.v.s, .slice ua un uc, .int .i64 qc, .slice oa on oc] 46)).alloc (.cells #[.slice aa an ac, .int .i64 a.n, .bool a.has, .int .i64 a.v.ty, .int .i64 a.v.n, .string a.v.s] 50)) [.slice ba bn bc, .int .i64 b.n, .bool b.has, .int .i64 b.v.ty, .int .i64 b.v.n, .string b.v.s] 50).below (below_alloc _ (.cells #[.slice none 0 0, .int .i64 0, .bool false, .int .i64 0, .int .i64 0, .string ⟨#[]⟩] 50))).below (below_alloc _ (.cells #[.slice none 0 0, .int .i64 0, .bool false, .int .i64 0, .int .i64 0, .string ⟨#[]⟩] 50))
  have CR := (blk_new (((w.alloc (.cells #[.int .i64 qk, .int .i64 t.kind, .int .i64 t.col, .int .i64 t.op, .int .i64 t.v.ty, .int .i64 t.v.n, .string t.v.s, .slice ua un uc, .int .i64 qc, .slice oa on oc] 46)).alloc (.cells #[.slice aa an ac, .int .i64 a.n, .bool a.has, .int .i64 a.v.ty, .int .i64 a.v.n, .string a.v.s] 50)).alloc (.cells #[.slice ba bn bc, .int .i64 b.n, .bool b.has, .int .i64 b.v.ty, .int .i64 b.v.n, .string b.v.s] 50)) [.slice none 0 0, .int .i64 0, .bool false, .int .i64 0, .int .i64 0, .string ⟨#[]⟩] 50).below (below_alloc _ (.cells #[.slice none 0 0, .int .i64 0, .bool false, .int .i64 0, .int .i64 0, .string ⟨#[]⟩] 50))
  have CO := blk_new ((((w.alloc (.cells #[.int .i64 qk, .int .i64 t.kind, .int .i64 t.col, .int .i64 t.op, .int .i64 t.v.ty, .int .i64 t.v.n, .string t.v.s, .slice ua un uc, .int .i64 qc, .slice oa on oc] 46)).alloc (.cells #[.slice aa an ac, .int .i64 a.n, .bool a.has, .int .i64 a.v.ty, .int .i64 a.v.n, .string a.v.s] 50)).alloc (.cells #[.slice ba bn bc, .int .i64 b.n, .bool b.has, .int .i64 b.v.ty, .int .i64 b.v.n, .string b.v.s] 50)).alloc (.cells #[.slice none 0 0, .int .i64 0, .bool false, .int .i64 0, .int .i64 0, .string ⟨#[]⟩] 50)) [.slice none 0 0, .int .i64 0, .bool false, .int .i64 0, .int .i64 0, .string ⟨#[]⟩] 50
  simp only [World.size_alloc] at CA CB CR CO
  have k0 := (C0 0 _ rfl).1
  obtain ⟨o0, g0⟩ := CO 0 _ rfl
  obtain ⟨o1, g1⟩ := CO 1 _ rfl
  obtain ⟨o2, g2⟩ := CO 2 _ rfl
  obtain ⟨o3, g3⟩ := CO 3 _ rfl
  obtain ⟨o4, g4⟩ := CO 4 _ rfl
  obtain ⟨o5, g5⟩ := CO 5 _ rfl
  obtain ⟨r0, f0⟩ := CR 0 _ rfl
  obtain ⟨r1, f1⟩ := CR 1 _ rfl
  obtain ⟨r2, f2⟩ := CR 2 _ rfl
  obtain ⟨r3, f3⟩ := CR 3 _ rfl
  obtain ⟨r4, f4⟩ := CR 4 _ rfl
  obtain ⟨r5, f5⟩ := CR 5 _ rfl
  have q1 : (qk == 1) = false := by simp; omega
  have q2 : (qk == 2) = false := by simp; omega
  have q3 : (qk == 3) = false := by simp; omega
  have q4 : (qk == 4) = false := by simp; omega
  have q5 : (qk == 5) = false := by simp; omega
  clear C0 CA CB CO CR
  have HJ : Hid (joinL qk a b = Rs.zero) := by
    show _ = _
    unfold joinL
    rw [if_neg (by omega), if_neg (by omega), if_neg (by omega), if_neg (by omega)]
  go_enter Tryd.func19, Tryd.ntmps19
  go_wp2
  refine bodyPost_ret (v := .agg #[.slice none 0 0, .int .i64 0, .bool false, .int .i64 0, .int .i64 0, .string ⟨#[]⟩]) (by simp [results, Tryd.results19, go_sem, *]) rfl ⟨.slice none 0 0, [], ?_, ⟨.inl ⟨rfl, rfl, rfl⟩, fun p hp => (by cases hp), List.Pairwise.nil⟩, ?_, below_alloc5 w _ _ _ _ _⟩
  · rw [HJ.out]
    rfl
  · rw [HJ.out]
    rfl

end Go.Proofs.YtkofafefnlommaaDoor

/- Rows of one's own: two lists of them joined, one Row put in, heads and tails of a slice. -/
namespace Go.Proofs.YtkofafefnlommaaDoor
open Go.RowKit

theorem MyRs.atN {lo hi w v} {ps : List P} (h : MyRs lo hi w v ps) : AtN 2 w v ps.length (prs ps) := h.1.atN
theorem prs_one {lo hi w v} {ps : List P} (h : MyRs lo hi w v ps) : ∀ u ∈ prs ps, u.oneCell' = true := by
  intro u hu
  unfold prs at hu
  obtain ⟨p, hp, hv⟩ := List.mem_flatMap.1 hu
  obtain ⟨a, cp, e⟩ := (h.2.1 p hp).atN.sl
  simp only [P.cs, List.mem_cons, List.not_mem_nil, or_false] at hv
  rcases hv with rfl | rfl
  · rfl
  · rw [e]
    rfl
/-- append(l4All(a), l4All(b)...): the rows of both are one's own. -/
theorem MyRs.join {lo lo1 h1 lo2 h2 : Nat} {w2 w3 : World} {va vb v' : Value} {qa qb : List P} (ha : MyRs lo1 h1 w2 va qa) (hb : MyRs lo2 h2 w2 vb qb) (_hown : Own 91 2 lo1 h1 w2 va qa.length (prs qa)) (l1 : lo ≤ lo1) (l2 : lo ≤ lo2) (k1 : h1 ≤ w2.heap.size) (k2 : h2 ≤ w2.heap.size) (hd : h1 ≤ lo2 ∨ h2 ≤ lo1)
    (ho : Own 91 2 lo1 w3.heap.size w3 v' (qa.length + qb.length) (prs qa ++ prs qb)) (he : Ext w2 w3 va v') : MyRs lo w3.heap.size w3 v' (qa ++ qb) := by
  have hz := he.grown.size
  refine ⟨?_, fun q hq => ?_, ?_⟩
  · rw [List.length_append]
    have e : prs (qa ++ qb) = prs qa ++ prs qb := by simp [prs]
    rw [e]
    exact .inr (ho.lower l1)
  · rcases List.mem_append.1 hq with hq | hq
    · exact ((ha.2.1 q hq).other he.grown (OwnN.block_ne ha.1 (ha.2.1 q hq))).wide l1 (by omega)
    · exact ((hb.2.1 q hq).other he.grown (OwnN.block_ne ha.1 (hb.2.1 q hq))).wide l2 (by omega)
  · rw [List.map_append]
    unfold Apart
    rw [List.pairwise_append]
    refine ⟨ha.2.2, hb.2.2, fun u hu v hv => ?_⟩
    obtain ⟨q, hq, rfl⟩ := List.mem_map.1 hu
    obtain ⟨p, hp, rfl⟩ := List.mem_map.1 hv
    rcases hd with hd | hd
    · exact (ha.2.1 q hq).lt hd (fun x hx => ((hb.2.1 p hp).in_ hx).1)
    · by_cases hn : q.2.ownBlock = none
      · exact .inl hn
      · refine .inr (fun e => ?_)
        cases hx : q.2.ownBlock with
        | none => exact hn hx
        | some x =>
          have e1 := (ha.2.1 q hq).in_ hx
          have e2 := (hb.2.1 p hp).in_ (e.symm.trans hx)
          omega

/-- One more Row at place k. -/
theorem MyRs.insert {lo s k : Nat} {w1 w2 : World} {out out' : Value} {ps : List P} {p : P} (h : MyRs lo s w1 out ps) (hls : lo ≤ s) (hp : OwnV s w1.heap.size w1 p.2 p.1.l) (hs : s ≤ w1.heap.size) (ho : Own 91 2 lo w2.heap.size w2 out' (ps.length + 1) (prs (ps.take k ++ p :: ps.drop k))) (he : Ext w1 w2 out out') : MyRs lo w2.heap.size w2 out' (ps.take k ++ p :: ps.drop k) := by
  have hz := he.grown.size
  have hl : (ps.take k ++ p :: ps.drop k).length = ps.length + 1 := by
    rw [List.length_append, List.length_cons, List.length_take, List.length_drop]
    omega
  have hold : ∀ q ∈ ps, OwnV lo w2.heap.size w2 q.2 q.1.l := fun q hq => ((h.2.1 q hq).other he.grown (OwnN.block_ne h.1 (h.2.1 q hq))).wide (Nat.le_refl _) (by omega)
  have hnew : ∀ q ∈ ps, (q.2.ownBlock = none ∨ q.2.ownBlock ≠ p.2.ownBlock) ∧ (p.2.ownBlock = none ∨ p.2.ownBlock ≠ q.2.ownBlock) := fun q hq => by
    have h1 := (h.2.1 q hq).lt (Nat.le_refl _) (fun x hx => (hp.in_ hx).1)
    refine ⟨h1, ?_⟩
    rcases h1 with h1 | h1
    · by_cases hn : p.2.ownBlock = none
      · exact .inl hn
      · exact .inr (fun e => hn (e.trans h1))
    · exact .inr (fun e => h1 e.symm)
  refine ⟨?_, fun q hq => ?_, ?_⟩
  · rw [hl]
    exact .inr ho
  · rcases List.mem_append.1 hq with hq | hq
    · exact hold q (List.mem_of_mem_take hq)
    · rcases List.mem_cons.1 hq with rfl | hq
      · exact (hp.other he.grown (OwnN.block_ne h.1 hp)).wide hls hz
      · exact hold q (List.mem_of_mem_drop hq)
  · have ha : Apart ((ps.take k ++ ps.drop k).map (·.2)) := by rw [List.take_append_drop]; exact h.2.2
    unfold Apart at ha ⊢
    rw [List.map_append, List.pairwise_append] at ha
    rw [List.map_append, List.map_cons, List.pairwise_append, List.pairwise_cons]
    refine ⟨ha.1, ⟨fun v hv => ?_, ha.2.1⟩, fun u hu v hv => ?_⟩
    · obtain ⟨q, hq, rfl⟩ := List.mem_map.1 hv
      exact (hnew q (List.mem_of_mem_drop hq)).2
    · rcases List.mem_cons.1 hv with rfl | hv
      · obtain ⟨q, hq, rfl⟩ := List.mem_map.1 hu
        exact (hnew q (List.mem_of_mem_take hq)).1
      · exact ha.2.2 u hu v hv
theorem prs_take (ps : List P) (k : Nat) : prs (ps.take k) = (prs ps).take (k * 2) := by
  induction ps generalizing k with
  | nil => simp [prs]
  | cons p ps ih =>
    cases k with
    | zero => simp [prs]
    | succ k =>
      have e : prs (p :: ps) = p.cs ++ prs ps := by simp [prs]
      have e2 : prs ((p :: ps).take (k + 1)) = p.cs ++ prs (ps.take k) := by simp [prs]
      rw [e, e2, ih, show (k + 1) * 2 = k * 2 + 2 by omega]
      simp [P.cs]
theorem prs_drop (ps : List P) (k : Nat) : prs (ps.drop k) = (prs ps).drop (k * 2) := by
  induction ps generalizing k with
  | nil => simp [prs]
  | cons p ps ih =>
    cases k with
    | zero => simp
    | succ k =>
      have e : prs (p :: ps) = p.cs ++ prs ps := by simp [prs]
      rw [e, List.drop_succ_cons, ih, show (k + 1) * 2 = k * 2 + 2 by omega]
      simp [P.cs]
theorem prs_put (ps : List P) (k : Nat) (p : P) : prs (ps.take k ++ p :: ps.drop k) = (prs ps).take (k * 2) ++ p.cs ++ (prs ps).drop (k * 2) := by
  have e : prs (ps.take k ++ p :: ps.drop k) = prs (ps.take k) ++ (p.cs ++ prs (ps.drop k)) := by simp [prs]
  rw [e, prs_take, prs_drop, List.append_assoc]
theorem At.hd2 {w : World} {b off n cap k : Nat} {ps : List P} (hl : ps.length = n) (h : At 2 w (.slice (some ⟨b, off, none⟩) n cap) n (prs ps)) (hr : ∀ p ∈ ps, AtN 3 w p.2 p.1.l.length (vals p.1.l)) (hk : k ≤ n) : RdRsN w (.slice (some ⟨b, off, none⟩) k cap) (ps.take k) := by
  obtain ⟨b', off', cap', e, h1, h2, h3, h4⟩ := h
  simp only [Value.slice.injEq, Option.some.injEq, Addr.mk.injEq, and_true, true_and] at e
  obtain ⟨⟨rfl, rfl⟩, rfl⟩ := e
  have hlk : (ps.take k).length = k := by rw [List.length_take]; omega
  refine ⟨⟨_, _, by rw [hlk], by omega, by rw [prs_len], .inr ⟨b, off, rfl, fun j u hu => ?_⟩⟩, fun p hp => hr p (List.mem_of_mem_take hp)⟩
  rw [prs_take, List.getElem?_take] at hu
  split at hu
  · exact h4 j u hu
  · cases hu
theorem At.tl2 {w : World} {b off n cap k tl : Nat} {ps : List P} (hl : ps.length = n) (h : At 2 w (.slice (some ⟨b, off, none⟩) n cap) n (prs ps)) (hr : ∀ p ∈ ps, AtN 3 w p.2 p.1.l.length (vals p.1.l)) (hk : k ≤ n) (ht : k < cap → tl = off + k * 2) : RdRsN w (.slice (some ⟨b, tl, none⟩) (n - k) (cap - k)) (ps.drop k) := by
  obtain ⟨b', off', cap', e, h1, h2, h3, h4⟩ := h
  simp only [Value.slice.injEq, Option.some.injEq, Addr.mk.injEq, and_true, true_and] at e
  obtain ⟨⟨rfl, rfl⟩, rfl⟩ := e
  have hlk : (ps.drop k).length = n - k := by rw [List.length_drop, hl]
  refine ⟨⟨_, _, by rw [hlk], by omega, by rw [prs_len], .inr ⟨b, tl, rfl, fun j u hu => ?_⟩⟩, fun p hp => hr p (List.mem_of_mem_drop hp)⟩
  have hlt := (List.getElem?_eq_some_iff.1 hu).1
  rw [prs_len, hlk] at hlt
  rw [prs_drop, List.getElem?_drop] at hu
  rw [ht (by omega), Nat.add_assoc]
  exact h4 _ _ hu
theorem tail2_at (cap k b off : Nat) : ∃ tl, (if cap = k then some (⟨b, off, none⟩ : Addr) else some ⟨b, off + k * 2, none⟩) = some ⟨b, tl, none⟩ ∧ Hid (k < cap → tl = off + k * 2) := by
  by_cases e : cap = k
  · exact ⟨off, by rw [if_pos e], fun h => by omega⟩
  · exact ⟨off + k * 2, by rw [if_neg e], fun _ => rfl⟩

end Go.Proofs.YtkofafefnlommaaDoor

/- The model's Joined, of the least value (written by mk_S12k.py). -/
namespace Go.Proofs.YtkofafefnlommaaDoor
open Go.RowKit

set_option maxRecDepth 100000 in
set_option maxHeartbeats 4000000 in
theorem sJoined4_ff (t : T) (qc : Int) (ua : Option Addr) (un uc : Nat) (oa : Option Addr) (on oc : Nat) (Ar : List R) (An At Av : Int) (As : ByteArray) (Br : List R) (Bn Bt Bv : Int) (Bs : ByteArray) (aa : Option Addr) (an ac : Nat) (ba : Option Addr) (bn bc : Nat) (w : World) :
    Calls Tryd.prog 19 #[.agg #[.int .i64 4, .int .i64 t.kind, .int .i64 t.col, .int .i64 t.op, .int .i64 t.v.ty, .int .i64 t.v.n, .string t.v.s, .slice ua un uc, .int .i64 qc, .slice oa on oc], .agg #[.slice aa an ac, .int .i64 An, .bool false, .int .i64 At, .int .i64 Av, .string As], .agg #[.slice ba bn bc, .int .i64 Bn, .bool false, .int .i64 Bt, .int .i64 Bv, .string Bs]] w fun e w' => e = .returned (.agg ((joinL 4 (⟨Ar, An, false, ⟨At, Av, As⟩⟩ : Rs) (⟨Br, Bn, false, ⟨Bt, Bv, Bs⟩⟩ : Rs)).cs (.slice none 0 0)).toArray) ∧ Below w.heap.size w w' := by
  have HJ : Hid (joinL 4 (⟨Ar, An, false, ⟨At, Av, As⟩⟩ : Rs) (⟨Br, Bn, false, ⟨Bt, Bv, Bs⟩⟩ : Rs) = ⟨[], 0, false, (zoneL ([] : List V)).lo⟩) := by
    show _ = _
    simp [joinL, hasL]
  have HZ := Lib.hid (fun u W h => sZoneOf u ([] : List V) W h)
  generalize zoneL ([] : List V) = z at HJ HZ
  obtain ⟨⟨zt, zn, zs⟩, ⟨yt, yn, ys⟩⟩ := z
  simp only [Zn.agg] at HZ
  have hfl : ∀ W, Sem.run Tryd.prog (Instr.field 106 (.agg #[.int .i64 zt, .int .i64 zn, .string zs, .int .i64 yt, .int .i64 yn, .string ys]) 0) W = Result.ok (.agg #[.int .i64 zt, .int .i64 zn, .string zs]) W := fun W => by kernel_rfl
  have hfh : ∀ W, Sem.run Tryd.prog (Instr.field 106 (.agg #[.int .i64 zt, .int .i64 zn, .string zs, .int .i64 yt, .int .i64 yn, .string ys]) 1) W = Result.ok (.agg #[.int .i64 yt, .int .i64 yn, .string ys]) W := fun W => by kernel_rfl
  have B0 : Below w.heap.size w (((((w.alloc (.cells #[.int .i64 4, .int .i64 t.kind, .int .i64 t.col, .int .i64 t.op, .int .i64 t.v.ty, .int .i64 t.v.n, .string t.v.s, .slice ua un uc, .int .i64 qc, .slice oa on oc] 46)).alloc (.cells #[.slice aa an ac, .int .i64 An, .bool false, .int .i64 At, .int .i64 Av, .string As] 50)).alloc (.cells #[.slice ba bn bc, .int .i64 Bn, .bool false, .int .i64 Bt, .int .i64 Bv, .string Bs] 50)).alloc (.cells #[.slice none 0 0, .int .i64 0, .bool false, .int .i64 0, .int .i64 0, .string ⟨#[]⟩] 50)).alloc (.cells #[.slice none 0 0, .int .i64 0, .bool false, .int .i64 0, .int .i64 0, .string ⟨#[]⟩] 50)) := below_alloc5 w _ _ _ _ _
  have C0 := ((((blk_new w [.int .i64 4, .int .i64 t.kind, .int .i64 t.col, .int .i64 t.op, .int .i64 t.v.ty, .int .i64 t.v.n, .string t.v.s, .slice ua un uc, .int .i64 qc, .slice oa on oc] 46).below (below_alloc _ (.cells #[.slice aa an ac, .int .i64 An, .bool false, .int .i64 At, .int .i64 Av, .string As] 50))).below (below_alloc _ (.cells #[.slice ba bn bc, .int .i64 Bn, .bool false, .int .i64 Bt, .int .i64 Bv, .string Bs] 50))).below (below_alloc _ (.cells #[.slice none 0 0, .int .i64 0, .bool false, .int .i64 0, .int .i64 0, .string ⟨#[]⟩] 50))).below (below_alloc _ (.cells #[.slice none 0 0, .int .i64 0, .bool false, .int .i64 0, .int .i64 0, .string ⟨#[]⟩] 50))
  have CA := (((blk_new (w.alloc (.cells #[.int .i64 4, .int .i64 t.kind, .int .i64 t.col, .int .i64 t.op, .int .i64 t.v.ty, .int .i64 t.v.n, .string t.v.s, .slice ua un uc, .int .i64 qc, .slice oa on oc] 46)) [.slice aa an ac, .int .i64 An, .bool false, .int .i64 At, .int .i64 Av, .string As] 50).below (below_alloc _ (.cells #[.slice ba bn bc, .int .i64 Bn, .bool false, .int .i64 Bt, .int .i64 Bv, .string Bs] 50))).below (below_alloc _ (.cells #[.slice none 0 0, .int .i64 0, .bool false, .int .i64 0, .int .i64 0, .string ⟨#[]⟩] 50))).below (below_alloc _ (.cells #[.slice none 0 0, .int .i64 0, .bool false, .int .i64 0, .int .i64 0, .string ⟨#[]⟩] 50))
  have CB := ((blk_new ((w.alloc (.cells #[.int .i64 4, .int .i64 t.kind, .int .i64 t.col, .int .i64 t.op, .int .i64 t.v.ty, .int .i64 t.v.n, .string t.v.s, .slice ua un uc, .int .i64 qc, .slice oa on oc] 46)).alloc (.cells #[.slice aa an ac, .int .i64 An, .bool false, .int .i64 At, .int .i64 Av, .string As] 50)) [.slice ba bn bc, .int .i64 Bn, .bool false, .int .i64 Bt, .int .i64 Bv, .string Bs] 50).below (below_alloc _ (.cells #[.slice none 0 0, .int .i64 0, .bool false, .int .i64 0, .int .i64 0, .string ⟨#[]⟩] 50))).below (below_alloc _ (.cells #[.slice none 0 0, .int .i64 0, .bool false, .int .i64 0, .int .i64 0, .string ⟨#[]⟩] 50))
  have CR := (blk_new (((w.alloc (.cells #[.int .i64 4, .int .i64 t.kind, .int .i64 t.col, .int .i64 t.op, .int .i64 t.v.ty, .int .i64 t.v.n, .string t.v.s, .slice ua un uc, .int .i64 qc, .slice oa on oc] 46)).alloc (.cells #[.slice aa an ac, .int .i64 An, .bool false, .int .i64 At, .int .i64 Av, .string As] 50)).alloc (.cells #[.slice ba bn bc, .int .i64 Bn, .bool false, .int .i64 Bt, .int .i64 Bv, .string Bs] 50)) [.slice none 0 0, .int .i64 0, .bool false, .int .i64 0, .int .i64 0, .string ⟨#[]⟩] 50).below (below_alloc _ (.cells #[.slice none 0 0, .int .i64 0, .bool false, .int .i64 0, .int .i64 0, .string ⟨#[]⟩] 50))
  have CO := blk_new ((((w.alloc (.cells #[.int .i64 4, .int .i64 t.kind, .int .i64 t.col, .int .i64 t.op, .int .i64 t.v.ty, .int .i64 t.v.n, .string t.v.s, .slice ua un uc, .int .i64 qc, .slice oa on oc] 46)).alloc (.cells #[.slice aa an ac, .int .i64 An, .bool false, .int .i64 At, .int .i64 Av, .string As] 50)).alloc (.cells #[.slice ba bn bc, .int .i64 Bn, .bool false, .int .i64 Bt, .int .i64 Bv, .string Bs] 50)).alloc (.cells #[.slice none 0 0, .int .i64 0, .bool false, .int .i64 0, .int .i64 0, .string ⟨#[]⟩] 50)) [.slice none 0 0, .int .i64 0, .bool false, .int .i64 0, .int .i64 0, .string ⟨#[]⟩] 50
  have hz0 : (((((w.alloc (.cells #[.int .i64 4, .int .i64 t.kind, .int .i64 t.col, .int .i64 t.op, .int .i64 t.v.ty, .int .i64 t.v.n, .string t.v.s, .slice ua un uc, .int .i64 qc, .slice oa on oc] 46)).alloc (.cells #[.slice aa an ac, .int .i64 An, .bool false, .int .i64 At, .int .i64 Av, .string As] 50)).alloc (.cells #[.slice ba bn bc, .int .i64 Bn, .bool false, .int .i64 Bt, .int .i64 Bv, .string Bs] 50)).alloc (.cells #[.slice none 0 0, .int .i64 0, .bool false, .int .i64 0, .int .i64 0, .string ⟨#[]⟩] 50)).alloc (.cells #[.slice none 0 0, .int .i64 0, .bool false, .int .i64 0, .int .i64 0, .string ⟨#[]⟩] 50)).heap.size = w.heap.size + 5 := by simp only [World.size_alloc]
  simp only [World.size_alloc] at CA CB CR CO
  generalize hw0 : (((((w.alloc (.cells #[.int .i64 4, .int .i64 t.kind, .int .i64 t.col, .int .i64 t.op, .int .i64 t.v.ty, .int .i64 t.v.n, .string t.v.s, .slice ua un uc, .int .i64 qc, .slice oa on oc] 46)).alloc (.cells #[.slice aa an ac, .int .i64 An, .bool false, .int .i64 At, .int .i64 Av, .string As] 50)).alloc (.cells #[.slice ba bn bc, .int .i64 Bn, .bool false, .int .i64 Bt, .int .i64 Bv, .string Bs] 50)).alloc (.cells #[.slice none 0 0, .int .i64 0, .bool false, .int .i64 0, .int .i64 0, .string ⟨#[]⟩] 50)).alloc (.cells #[.slice none 0 0, .int .i64 0, .bool false, .int .i64 0, .int .i64 0, .string ⟨#[]⟩] 50)) = w0 at B0 C0 CA CB CR CO hz0
  have HW0 := Lib.hid hw0
  have A1 := below_alloc w0 (.cells #[] 29)
  have B1 := below_then B0 A1 B0.size
  have C1 := C0.below A1
  have CA1 := CA.below A1
  have CB1 := CB.below A1
  have CR1 := CR.below A1
  have CO1 := CO.below A1
  have O1 := own_lit (e := 29) (size := 3) w0 #[] 0 (Nat.zero_le _) rfl
  rw [World.size_alloc] at O1
  have hz1 : (w0.alloc (.cells #[] 29)).heap.size = w.heap.size + 6 := by rw [World.size_alloc, hz0]
  have OX : Own 29 3 w0.heap.size (w0.alloc (.cells #[] 29)).heap.size (w0.alloc (.cells #[] 29)) (.slice (some ⟨w0.heap.size, 0, none⟩) 0 0) 0 [] := by
    rw [World.size_alloc]
    simpa using O1
  have hg0 : w0.heap.size = w.heap.size + 1 + 1 + 1 + 1 + 1 := hz0
  rw [hg0] at OX
  generalize hw1 : w0.alloc (.cells #[] 29) = w1 at B1 C1 CA1 CB1 CR1 CO1 OX hz1
  have HW1 := Lib.hid hw1
  clear hw0 hw1 O1 A1 C0 CA CB CR CO hg0
  go_enter Tryd.func19, Tryd.ntmps19
  have KC : Blk w1 (w.heap.size) [.int .i64 4, .int .i64 t.kind, .int .i64 t.col, .int .i64 t.op, .int .i64 t.v.ty, .int .i64 t.v.n, .string t.v.s, .slice ua un uc, .int .i64 qc, .slice oa on oc] := C1
  go_wp2_with fail
  rw [HW0.out, HW1.out]
  have XO := CO1
  have XR := CR1
  have XC := C1
  have XA := CA1
  have XB := B1
  have XX := OX
  have hzs : w.heap.size + 6 ≤ w1.heap.size := by omega
  have hg5 : w.heap.size + 1 + 1 + 1 + 1 + 1 = w.heap.size + 5 := rfl
  refine (HZ.out _ _ (by have h := OwnN.rd (.inr XX); simpa [vals, V.cs] using h)).mono ?_
  rintro e w5 ⟨rfl, b5⟩
  have B5 := below_then XB b5 XB.size
  have D0 := XC.below b5
  have DO := XO.below b5
  have DR := XR.below b5
  have DX := (XX.below b5 (Nat.le_refl _)).wide b5.size
  have hz5 := b5.size
  have k0 := (D0 0 _ rfl).1
  clear b5 XO XR XC XB XX
  obtain ⟨o0, f0⟩ := DO 0 _ rfl
  obtain ⟨r0, h0⟩ := DR 0 _ rfl
  obtain ⟨o1, f1⟩ := DO 1 _ rfl
  obtain ⟨r1, h1⟩ := DR 1 _ rfl
  obtain ⟨o2, f2⟩ := DO 2 _ rfl
  obtain ⟨r2, h2⟩ := DR 2 _ rfl
  obtain ⟨o3, f3⟩ := DO 3 _ rfl
  obtain ⟨r3, h3⟩ := DR 3 _ rfl
  obtain ⟨o4, f4⟩ := DO 4 _ rfl
  obtain ⟨r4, h4⟩ := DR 4 _ rfl
  obtain ⟨o5, f5⟩ := DO 5 _ rfl
  obtain ⟨r5, h5⟩ := DR 5 _ rfl
  clear D0 DO DR DX
  go_wp2
  exact bodyPost_ret (v := .agg #[.slice none 0 0, .int .i64 0, .bool false, .int .i64 zt, .int .i64 zn, .string zs]) (by simp [results, Tryd.results19, go_sem, *]) rfl ⟨by rw [HJ.out]; rfl, (((((((((B5.setCell (by simp; omega) _).setCell (by simp; omega) _).setCell (by simp; omega) _).setCell (by simp; omega) _).setCell (by simp; omega) _).setCell (by simp; omega) _).setCell (by simp; omega) _).setCell (by simp; omega) _).setCell (by simp; omega) _)⟩

set_option maxRecDepth 100000 in
set_option maxHeartbeats 4000000 in
theorem sJoined4_ft (t : T) (qc : Int) (ua : Option Addr) (un uc : Nat) (oa : Option Addr) (on oc : Nat) (Ar : List R) (An At Av : Int) (As : ByteArray) (Br : List R) (Bn Bt Bv : Int) (Bs : ByteArray) (aa : Option Addr) (an ac : Nat) (ba : Option Addr) (bn bc : Nat) (w : World) :
    Calls Tryd.prog 19 #[.agg #[.int .i64 4, .int .i64 t.kind, .int .i64 t.col, .int .i64 t.op, .int .i64 t.v.ty, .int .i64 t.v.n, .string t.v.s, .slice ua un uc, .int .i64 qc, .slice oa on oc], .agg #[.slice aa an ac, .int .i64 An, .bool false, .int .i64 At, .int .i64 Av, .string As], .agg #[.slice ba bn bc, .int .i64 Bn, .bool true, .int .i64 Bt, .int .i64 Bv, .string Bs]] w fun e w' => e = .returned (.agg ((joinL 4 (⟨Ar, An, false, ⟨At, Av, As⟩⟩ : Rs) (⟨Br, Bn, true, ⟨Bt, Bv, Bs⟩⟩ : Rs)).cs (.slice none 0 0)).toArray) ∧ Below w.heap.size w w' := by
  have HJ : Hid (joinL 4 (⟨Ar, An, false, ⟨At, Av, As⟩⟩ : Rs) (⟨Br, Bn, true, ⟨Bt, Bv, Bs⟩⟩ : Rs) = ⟨[], 0, true, (zoneL ([⟨Bt, Bv, Bs⟩] : List V)).lo⟩) := by
    show _ = _
    simp [joinL, hasL]
  have HZ := Lib.hid (fun u W h => sZoneOf u ([⟨Bt, Bv, Bs⟩] : List V) W h)
  generalize zoneL ([⟨Bt, Bv, Bs⟩] : List V) = z at HJ HZ
  obtain ⟨⟨zt, zn, zs⟩, ⟨yt, yn, ys⟩⟩ := z
  simp only [Zn.agg] at HZ
  have hfl : ∀ W, Sem.run Tryd.prog (Instr.field 106 (.agg #[.int .i64 zt, .int .i64 zn, .string zs, .int .i64 yt, .int .i64 yn, .string ys]) 0) W = Result.ok (.agg #[.int .i64 zt, .int .i64 zn, .string zs]) W := fun W => by kernel_rfl
  have hfh : ∀ W, Sem.run Tryd.prog (Instr.field 106 (.agg #[.int .i64 zt, .int .i64 zn, .string zs, .int .i64 yt, .int .i64 yn, .string ys]) 1) W = Result.ok (.agg #[.int .i64 yt, .int .i64 yn, .string ys]) W := fun W => by kernel_rfl
  have B0 : Below w.heap.size w (((((w.alloc (.cells #[.int .i64 4, .int .i64 t.kind, .int .i64 t.col, .int .i64 t.op, .int .i64 t.v.ty, .int .i64 t.v.n, .string t.v.s, .slice ua un uc, .int .i64 qc, .slice oa on oc] 46)).alloc (.cells #[.slice aa an ac, .int .i64 An, .bool false, .int .i64 At, .int .i64 Av, .string As] 50)).alloc (.cells #[.slice ba bn bc, .int .i64 Bn, .bool true, .int .i64 Bt, .int .i64 Bv, .string Bs] 50)).alloc (.cells #[.slice none 0 0, .int .i64 0, .bool false, .int .i64 0, .int .i64 0, .string ⟨#[]⟩] 50)).alloc (.cells #[.slice none 0 0, .int .i64 0, .bool false, .int .i64 0, .int .i64 0, .string ⟨#[]⟩] 50)) := below_alloc5 w _ _ _ _ _
  have C0 := ((((blk_new w [.int .i64 4, .int .i64 t.kind, .int .i64 t.col, .int .i64 t.op, .int .i64 t.v.ty, .int .i64 t.v.n, .string t.v.s, .slice ua un uc, .int .i64 qc, .slice oa on oc] 46).below (below_alloc _ (.cells #[.slice aa an ac, .int .i64 An, .bool false, .int .i64 At, .int .i64 Av, .string As] 50))).below (below_alloc _ (.cells #[.slice ba bn bc, .int .i64 Bn, .bool true, .int .i64 Bt, .int .i64 Bv, .string Bs] 50))).below (below_alloc _ (.cells #[.slice none 0 0, .int .i64 0, .bool false, .int .i64 0, .int .i64 0, .string ⟨#[]⟩] 50))).below (below_alloc _ (.cells #[.slice none 0 0, .int .i64 0, .bool false, .int .i64 0, .int .i64 0, .string ⟨#[]⟩] 50))
  have CA := (((blk_new (w.alloc (.cells #[.int .i64 4, .int .i64 t.kind, .int .i64 t.col, .int .i64 t.op, .int .i64 t.v.ty, .int .i64 t.v.n, .string t.v.s, .slice ua un uc, .int .i64 qc, .slice oa on oc] 46)) [.slice aa an ac, .int .i64 An, .bool false, .int .i64 At, .int .i64 Av, .string As] 50).below (below_alloc _ (.cells #[.slice ba bn bc, .int .i64 Bn, .bool true, .int .i64 Bt, .int .i64 Bv, .string Bs] 50))).below (below_alloc _ (.cells #[.slice none 0 0, .int .i64 0, .bool false, .int .i64 0, .int .i64 0, .string ⟨#[]⟩] 50))).below (below_alloc _ (.cells #[.slice none 0 0, .int .i64 0, .bool false, .int .i64 0, .int .i64 0, .string ⟨#[]⟩] 50))
  have CB := ((blk_new ((w.alloc (.cells #[.int .i64 4, .int .i64 t.kind, .int .i64 t.col, .int .i64 t.op, .int .i64 t.v.ty, .int .i64 t.v.n, .string t.v.s, .slice ua un uc, .int .i64 qc, .slice oa on oc] 46)).alloc (.cells #[.slice aa an ac, .int .i64 An, .bool false, .int .i64 At, .int .i64 Av, .string As] 50)) [.slice ba bn bc, .int .i64 Bn, .bool true, .int .i64 Bt, .int .i64 Bv, .string Bs] 50).below (below_alloc _ (.cells #[.slice none 0 0, .int .i64 0, .bool false, .int .i64 0, .int .i64 0, .string ⟨#[]⟩] 50))).below (below_alloc _ (.cells #[.slice none 0 0, .int .i64 0, .bool false, .int .i64 0, .int .i64 0, .string ⟨#[]⟩] 50))
  have CR := (blk_new (((w.alloc (.cells #[.int .i64 4, .int .i64 t.kind, .int .i64 t.col, .int .i64 t.op, .int .i64 t.v.ty, .int .i64 t.v.n, .string t.v.s, .slice ua un uc, .int .i64 qc, .slice oa on oc] 46)).alloc (.cells #[.slice aa an ac, .int .i64 An, .bool false, .int .i64 At, .int .i64 Av, .string As] 50)).alloc (.cells #[.slice ba bn bc, .int .i64 Bn, .bool true, .int .i64 Bt, .int .i64 Bv, .string Bs] 50)) [.slice none 0 0, .int .i64 0, .bool false, .int .i64 0, .int .i64 0, .string ⟨#[]⟩] 50).below (below_alloc _ (.cells #[.slice none 0 0, .int .i64 0, .bool false, .int .i64 0, .int .i64 0, .string ⟨#[]⟩] 50))
  have CO := blk_new ((((w.alloc (.cells #[.int .i64 4, .int .i64 t.kind, .int .i64 t.col, .int .i64 t.op, .int .i64 t.v.ty, .int .i64 t.v.n, .string t.v.s, .slice ua un uc, .int .i64 qc, .slice oa on oc] 46)).alloc (.cells #[.slice aa an ac, .int .i64 An, .bool false, .int .i64 At, .int .i64 Av, .string As] 50)).alloc (.cells #[.slice ba bn bc, .int .i64 Bn, .bool true, .int .i64 Bt, .int .i64 Bv, .string Bs] 50)).alloc (.cells #[.slice none 0 0, .int .i64 0, .bool false, .int .i64 0, .int .i64 0, .string ⟨#[]⟩] 50)) [.slice none 0 0, .int .i64 0, .bool false, .int .i64 0, .int .i64 0, .string ⟨#[]⟩] 50
  have hz0 : (((((w.alloc (.cells #[.int .i64 4, .int .i64 t.kind, .int .i64 t.col, .int .i64 t.op, .int .i64 t.v.ty, .int .i64 t.v.n, .string t.v.s, .slice ua un uc, .int .i64 qc, .slice oa on oc] 46)).alloc (.cells #[.slice aa an ac, .int .i64 An, .bool false, .int .i64 At, .int .i64 Av, .string As] 50)).alloc (.cells #[.slice ba bn bc, .int .i64 Bn, .bool true, .int .i64 Bt, .int .i64 Bv, .string Bs] 50)).alloc (.cells #[.slice none 0 0, .int .i64 0, .bool false, .int .i64 0, .int .i64 0, .string ⟨#[]⟩] 50)).alloc (.cells #[.slice none 0 0, .int .i64 0, .bool false, .int .i64 0, .int .i64 0, .string ⟨#[]⟩] 50)).heap.size = w.heap.size + 5 := by simp only [World.size_alloc]
  simp only [World.size_alloc] at CA CB CR CO
  generalize hw0 : (((((w.alloc (.cells #[.int .i64 4, .int .i64 t.kind, .int .i64 t.col, .int .i64 t.op, .int .i64 t.v.ty, .int .i64 t.v.n, .string t.v.s, .slice ua un uc, .int .i64 qc, .slice oa on oc] 46)).alloc (.cells #[.slice aa an ac, .int .i64 An, .bool false, .int .i64 At, .int .i64 Av, .string As] 50)).alloc (.cells #[.slice ba bn bc, .int .i64 Bn, .bool true, .int .i64 Bt, .int .i64 Bv, .string Bs] 50)).alloc (.cells #[.slice none 0 0, .int .i64 0, .bool false, .int .i64 0, .int .i64 0, .string ⟨#[]⟩] 50)).alloc (.cells #[.slice none 0 0, .int .i64 0, .bool false, .int .i64 0, .int .i64 0, .string ⟨#[]⟩] 50)) = w0 at B0 C0 CA CB CR CO hz0
  have HW0 := Lib.hid hw0
  have A1 := below_alloc w0 (.cells #[] 29)
  have B1 := below_then B0 A1 B0.size
  have C1 := C0.below A1
  have CA1 := CA.below A1
  have CB1 := CB.below A1
  have CR1 := CR.below A1
  have CO1 := CO.below A1
  have O1 := own_lit (e := 29) (size := 3) w0 #[] 0 (Nat.zero_le _) rfl
  rw [World.size_alloc] at O1
  have hz1 : (w0.alloc (.cells #[] 29)).heap.size = w.heap.size + 6 := by rw [World.size_alloc, hz0]
  have OX : Own 29 3 w0.heap.size (w0.alloc (.cells #[] 29)).heap.size (w0.alloc (.cells #[] 29)) (.slice (some ⟨w0.heap.size, 0, none⟩) 0 0) 0 [] := by
    rw [World.size_alloc]
    simpa using O1
  have hg0 : w0.heap.size = w.heap.size + 1 + 1 + 1 + 1 + 1 := hz0
  rw [hg0] at OX
  generalize hw1 : w0.alloc (.cells #[] 29) = w1 at B1 C1 CA1 CB1 CR1 CO1 OX hz1
  have HW1 := Lib.hid hw1
  clear hw0 hw1 O1 A1 C0 CA CB CR CO hg0
  go_enter Tryd.func19, Tryd.ntmps19
  go_wp2_with (at_builtin; rw [HW0.out, HW1.out]; refine appendV_law Tryd.elemVals rfl _ _ rfl (w.heap.size + 1 + 1 + 1 + 1 + 1) _ (.slice (some ⟨w.heap.size + 1 + 1 + 1 + 1 + 1, 0, none⟩) 0 0) 0 [] ⟨Bt, Bv, Bs⟩ rfl OX (by rw [hz1]; rfl) (by unfold maxLen; omega) (by omega) ?_)
  intro v2 w2 O2 E2
  have hne2 : ∀ x, x < w.heap.size + 1 + 1 + 1 + 1 + 1 → ((.slice (some ⟨w.heap.size + 1 + 1 + 1 + 1 + 1, 0, none⟩) 0 0) : Value).ownBlock ≠ some x := fun x hx => OwnN.not_low (.inr OX) hx
  have hgz2 : w.heap.size + 1 + 1 + 1 + 1 + 1 = w.heap.size + 5 := rfl
  have B2 := B1.grown E2.grown B1.size (fun k hk => Nat.le_of_not_lt (fun hlt => hne2 k (by omega) hk))
  have C2 := C1.ext E2 (hne2 _ (by omega))
  have CA2 := CA1.ext E2 (hne2 _ (by omega))
  have CB2 := CB1.ext E2 (hne2 _ (by omega))
  have CR2 := CR1.ext E2 (hne2 _ (by omega))
  have CO2 := CO1.ext E2 (hne2 _ (by omega))
  have hz2 : w.heap.size + 6 ≤ w2.heap.size := by have := E2.grown.size; omega
  obtain ⟨x2, y2, hv2⟩ : ∃ g cp, v2 = .slice (some ⟨g, 0, none⟩) 1 cp := by obtain ⟨g, cp, e, _⟩ := O2; exact ⟨g, cp, e⟩
  subst hv2
  clear OX E2
  have OX := O2
  clear O2 C1 CA1 CB1 CR1 CO1 hne2
  have k0 := (C2 0 _ rfl).1
  have a2 := (CA2 2 _ rfl).1
  have b2 := (CB2 2 _ rfl).1
  obtain ⟨o2, f2⟩ := CO2 2 _ rfl
  go_wp2_with fail
  clear k0 a2 b2 o2 f2
  have XO : Blk (w2.setCell ⟨w.heap.size + 1 + 1 + 1 + 1, 2, none⟩ (.bool true)) (w.heap.size + 1 + 1 + 1 + 1) [.slice none 0 0, .int .i64 0, .bool true, .int .i64 0, .int .i64 0, .string ⟨#[]⟩] := CO2.set 2 _
  have XR : Blk (w2.setCell ⟨w.heap.size + 1 + 1 + 1 + 1, 2, none⟩ (.bool true)) (w.heap.size + 1 + 1 + 1) [.slice none 0 0, .int .i64 0, .bool false, .int .i64 0, .int .i64 0, .string ⟨#[]⟩] := CR2.other (p := ⟨w.heap.size + 1 + 1 + 1 + 1, 2, none⟩) (by show w.heap.size + 1 + 1 + 1 + 1 ≠ w.heap.size + 1 + 1 + 1; omega) _
  have XC : Blk (w2.setCell ⟨w.heap.size + 1 + 1 + 1 + 1, 2, none⟩ (.bool true)) (w.heap.size) [.int .i64 4, .int .i64 t.kind, .int .i64 t.col, .int .i64 t.op, .int .i64 t.v.ty, .int .i64 t.v.n, .string t.v.s, .slice ua un uc, .int .i64 qc, .slice oa on oc] := C2.other (p := ⟨w.heap.size + 1 + 1 + 1 + 1, 2, none⟩) (by show w.heap.size + 1 + 1 + 1 + 1 ≠ w.heap.size; omega) _
  have XB : Below w.heap.size w (w2.setCell ⟨w.heap.size + 1 + 1 + 1 + 1, 2, none⟩ (.bool true)) := B2.setCell (by simp; omega) _
  have XX : Own 29 3 (w.heap.size + 1 + 1 + 1 + 1 + 1) (w2.setCell ⟨w.heap.size + 1 + 1 + 1 + 1, 2, none⟩ (.bool true)).heap.size (w2.setCell ⟨w.heap.size + 1 + 1 + 1 + 1, 2, none⟩ (.bool true)) (.slice (some ⟨x2, 0, none⟩) 1 y2) 1 _ := (OX.setBelow (a := ⟨w.heap.size + 1 + 1 + 1 + 1, 2, none⟩) (by show w.heap.size + 1 + 1 + 1 + 1 < w.heap.size + 1 + 1 + 1 + 1 + 1; omega) (.bool true)).wide (by simp [World.setCell])
  have hzs : w.heap.size + 6 ≤ (w2.setCell ⟨w.heap.size + 1 + 1 + 1 + 1, 2, none⟩ (.bool true)).heap.size := by simp [World.setCell]; omega
  have hg5 : w.heap.size + 1 + 1 + 1 + 1 + 1 = w.heap.size + 5 := rfl
  refine (HZ.out _ _ (by have h := OwnN.rd (.inr XX); simpa [vals, V.cs] using h)).mono ?_
  rintro e w5 ⟨rfl, b5⟩
  have B5 := below_then XB b5 XB.size
  have D0 := XC.below b5
  have DO := XO.below b5
  have DR := XR.below b5
  have DX := (XX.below b5 (Nat.le_refl _)).wide b5.size
  have hz5 := b5.size
  have k0 := (D0 0 _ rfl).1
  clear b5 XO XR XC XB XX
  obtain ⟨o0, f0⟩ := DO 0 _ rfl
  obtain ⟨r0, h0⟩ := DR 0 _ rfl
  obtain ⟨o1, f1⟩ := DO 1 _ rfl
  obtain ⟨r1, h1⟩ := DR 1 _ rfl
  obtain ⟨o2, f2⟩ := DO 2 _ rfl
  obtain ⟨r2, h2⟩ := DR 2 _ rfl
  obtain ⟨o3, f3⟩ := DO 3 _ rfl
  obtain ⟨r3, h3⟩ := DR 3 _ rfl
  obtain ⟨o4, f4⟩ := DO 4 _ rfl
  obtain ⟨r4, h4⟩ := DR 4 _ rfl
  obtain ⟨o5, f5⟩ := DO 5 _ rfl
  obtain ⟨r5, h5⟩ := DR 5 _ rfl
  clear D0 DO DR DX
  go_wp2
  exact bodyPost_ret (v := .agg #[.slice none 0 0, .int .i64 0, .bool true, .int .i64 zt, .int .i64 zn, .string zs]) (by simp [results, Tryd.results19, go_sem, *]) rfl ⟨by rw [HJ.out]; rfl, (((((((((B5.setCell (by simp; omega) _).setCell (by simp; omega) _).setCell (by simp; omega) _).setCell (by simp; omega) _).setCell (by simp; omega) _).setCell (by simp; omega) _).setCell (by simp; omega) _).setCell (by simp; omega) _).setCell (by simp; omega) _)⟩

set_option maxRecDepth 100000 in
set_option maxHeartbeats 4000000 in
theorem sJoined4_tf (t : T) (qc : Int) (ua : Option Addr) (un uc : Nat) (oa : Option Addr) (on oc : Nat) (Ar : List R) (An At Av : Int) (As : ByteArray) (Br : List R) (Bn Bt Bv : Int) (Bs : ByteArray) (aa : Option Addr) (an ac : Nat) (ba : Option Addr) (bn bc : Nat) (w : World) :
    Calls Tryd.prog 19 #[.agg #[.int .i64 4, .int .i64 t.kind, .int .i64 t.col, .int .i64 t.op, .int .i64 t.v.ty, .int .i64 t.v.n, .string t.v.s, .slice ua un uc, .int .i64 qc, .slice oa on oc], .agg #[.slice aa an ac, .int .i64 An, .bool true, .int .i64 At, .int .i64 Av, .string As], .agg #[.slice ba bn bc, .int .i64 Bn, .bool false, .int .i64 Bt, .int .i64 Bv, .string Bs]] w fun e w' => e = .returned (.agg ((joinL 4 (⟨Ar, An, true, ⟨At, Av, As⟩⟩ : Rs) (⟨Br, Bn, false, ⟨Bt, Bv, Bs⟩⟩ : Rs)).cs (.slice none 0 0)).toArray) ∧ Below w.heap.size w w' := by
  have HJ : Hid (joinL 4 (⟨Ar, An, true, ⟨At, Av, As⟩⟩ : Rs) (⟨Br, Bn, false, ⟨Bt, Bv, Bs⟩⟩ : Rs) = ⟨[], 0, true, (zoneL ([⟨At, Av, As⟩] : List V)).lo⟩) := by
    show _ = _
    simp [joinL, hasL]
  have HZ := Lib.hid (fun u W h => sZoneOf u ([⟨At, Av, As⟩] : List V) W h)
  generalize zoneL ([⟨At, Av, As⟩] : List V) = z at HJ HZ
  obtain ⟨⟨zt, zn, zs⟩, ⟨yt, yn, ys⟩⟩ := z
  simp only [Zn.agg] at HZ
  have hfl : ∀ W, Sem.run Tryd.prog (Instr.field 106 (.agg #[.int .i64 zt, .int .i64 zn, .string zs, .int .i64 yt, .int .i64 yn, .string ys]) 0) W = Result.ok (.agg #[.int .i64 zt, .int .i64 zn, .string zs]) W := fun W => by kernel_rfl
  have hfh : ∀ W, Sem.run Tryd.prog (Instr.field 106 (.agg #[.int .i64 zt, .int .i64 zn, .string zs, .int .i64 yt, .int .i64 yn, .string ys]) 1) W = Result.ok (.agg #[.int .i64 yt, .int .i64 yn, .string ys]) W := fun W => by kernel_rfl
  have B0 : Below w.heap.size w (((((w.alloc (.cells #[.int .i64 4, .int .i64 t.kind, .int .i64 t.col, .int .i64 t.op, .int .i64 t.v.ty, .int .i64 t.v.n, .string t.v.s, .slice ua un uc, .int .i64 qc, .slice oa on oc] 46)).alloc (.cells #[.slice aa an ac, .int .i64 An, .bool true, .int .i64 At, .int .i64 Av, .string As] 50)).alloc (.cells #[.slice ba bn bc, .int .i64 Bn, .bool false, .int .i64 Bt, .int .i64 Bv, .string Bs] 50)).alloc (.cells #[.slice none 0 0, .int .i64 0, .bool false, .int .i64 0, .int .i64 0, .string ⟨#[]⟩] 50)).alloc (.cells #[.slice none 0 0, .int .i64 0, .bool false, .int .i64 0, .int .i64 0, .string ⟨#[]⟩] 50)) := below_alloc5 w _ _ _ _ _
  have C0 := ((((blk_new w [.int .i64 4, .int .i64 t.kind, .int .i64 t.col, .int .i64 t.op, .int .i64 t.v.ty, .int .i64 t.v.n, .string t.v.s, .slice ua un uc, .int .i64 qc, .slice oa on oc] 46).below (below_alloc _ (.cells #[.slice aa an ac, .int .i64 An, .bool true, .int .i64 At, .int .i64 Av, .string As] 50))).below (below_alloc _ (.cells #[.slice ba bn bc, .int .i64 Bn, .bool false, .int .i64 Bt, .int .i64 Bv, .string Bs] 50))).below (below_alloc _ (.cells #[.slice none 0 0, .int .i64 0, .bool false, .int .i64 0, .int .i64 0, .string ⟨#[]⟩] 50))).below (below_alloc _ (.cells #[.slice none 0 0, .int .i64 0, .bool false, .int .i64 0, .int .i64 0, .string ⟨#[]⟩] 50))
  have CA := (((blk_new (w.alloc (.cells #[.int .i64 4, .int .i64 t.kind, .int .i64 t.col, .int .i64 t.op, .int .i64 t.v.ty, .int .i64 t.v.n, .string t.v.s, .slice ua un uc, .int .i64 qc, .slice oa on oc] 46)) [.slice aa an ac, .int .i64 An, .bool true, .int .i64 At, .int .i64 Av, .string As] 50).below (below_alloc _ (.cells #[.slice ba bn bc, .int .i64 Bn, .bool false, .int .i64 Bt, .int .i64 Bv, .string Bs] 50))).below (below_alloc _ (.cells #[.slice none 0 0, .int .i64 0, .bool false, .int .i64 0, .int .i64 0, .string ⟨#[]⟩] 50))).below (below_alloc _ (.cells #[.slice none 0 0, .int .i64 0, .bool false, .int .i64 0, .int .i64 0, .string ⟨#[]⟩] 50))
  have CB := ((blk_new ((w.alloc (.cells #[.int .i64 4, .int .i64 t.kind, .int .i64 t.col, .int .i64 t.op, .int .i64 t.v.ty, .int .i64 t.v.n, .string t.v.s, .slice ua un uc, .int .i64 qc, .slice oa on oc] 46)).alloc (.cells #[.slice aa an ac, .int .i64 An, .bool true, .int .i64 At, .int .i64 Av, .string As] 50)) [.slice ba bn bc, .int .i64 Bn, .bool false, .int .i64 Bt, .int .i64 Bv, .string Bs] 50).below (below_alloc _ (.cells #[.slice none 0 0, .int .i64 0, .bool false, .int .i64 0, .int .i64 0, .string ⟨#[]⟩] 50))).below (below_alloc _ (.cells #[.slice none 0 0, .int .i64 0, .bool false, .int .i64 0, .int .i64 0, .string ⟨#[]⟩] 50))
  have CR := (blk_new (((w.alloc (.cells #[.int .i64 4, .int .i64 t.kind, .int .i64 t.col, .int .i64 t.op, .int .i64 t.v.ty, .int .i64 t.v.n, .string t.v.s, .slice ua un uc, .int .i64 qc, .slice oa on oc] 46)).alloc (.cells #[.slice aa an ac, .int .i64 An, .bool true, .int .i64 At, .int .i64 Av, .string As] 50)).alloc (.cells #[.slice ba bn bc, .int .i64 Bn, .bool false, .int .i64 Bt, .int .i64 Bv, .string Bs] 50)) [.slice none 0 0, .int .i64 0, .bool false, .int .i64 0, .int .i64 0, .string ⟨#[]⟩] 50).below (below_alloc _ (.cells #[.slice none 0 0, .int .i64 0, .bool false, .int .i64 0, .int .i64 0, .string ⟨#[]⟩] 50))
  have CO := blk_new ((((w.alloc (.cells #[.int .i64 4, .int .i64 t.kind, .int .i64 t.col, .int .i64 t.op, .int .i64 t.v.ty, .int .i64 t.v.n, .string t.v.s, .slice ua un uc, .int .i64 qc, .slice oa on oc] 46)).alloc (.cells #[.slice aa an ac, .int .i64 An, .bool true, .int .i64 At, .int .i64 Av, .string As] 50)).alloc (.cells #[.slice ba bn bc, .int .i64 Bn, .bool false, .int .i64 Bt, .int .i64 Bv, .string Bs] 50)).alloc (.cells #[.slice none 0 0, .int .i64 0, .bool false, .int .i64 0, .int .i64 0, .string ⟨#[]⟩] 50)) [.slice none 0 0, .int .i64 0, .bool false, .int .i64 0, .int .i64 0, .string ⟨#[]⟩] 50
  have hz0 : (((((w.alloc (.cells #[.int .i64 4, .int .i64 t.kind, .int .i64 t.col, .int .i64 t.op, .int .i64 t.v.ty, .int .i64 t.v.n, .string t.v.s, .slice ua un uc, .int .i64 qc, .slice oa on oc] 46)).alloc (.cells #[.slice aa an ac, .int .i64 An, .bool true, .int .i64 At, .int .i64 Av, .string As] 50)).alloc (.cells #[.slice ba bn bc, .int .i64 Bn, .bool false, .int .i64 Bt, .int .i64 Bv, .string Bs] 50)).alloc (.cells #[.slice none 0 0, .int .i64 0, .bool false, .int .i64 0, .int .i64 0, .string ⟨#[]⟩] 50)).alloc (.cells #[.slice none 0 0, .int .i64 0, .bool false, .int .i64 0, .int .i64 0, .string ⟨#[]⟩] 50)).heap.size = w.heap.size + 5 := by simp only [World.size_alloc]
  simp only [World.size_alloc] at CA CB CR CO
  generalize hw0 : (((((w.alloc (.cells #[.int .i64 4, .int .i64 t.kind, .int .i64 t.col, .int .i64 t.op, .int .i64 t.v.ty, .int .i64 t.v.n, .string t.v.s, .slice ua un uc, .int .i64 qc, .slice oa on oc] 46)).alloc (.cells #[.slice aa an ac, .int .i64 An, .bool true, .int .i64 At, .int .i64 Av, .string As] 50)).alloc (.cells #[.slice ba bn bc, .int .i64 Bn, .bool false, .int .i64 Bt, .int .i64 Bv, .string Bs] 50)).alloc (.cells #[.slice none 0 0, .int .i64 0, .bool false, .int .i64 0, .int .i64 0, .string ⟨#[]⟩] 50)).alloc (.cells #[.slice none 0 0, .int .i64 0, .bool false, .int .i64 0, .int .i64 0, .string ⟨#[]⟩] 50)) = w0 at B0 C0 CA CB CR CO hz0
  have HW0 := Lib.hid hw0
  have A1 := below_alloc w0 (.cells #[] 29)
  have B1 := below_then B0 A1 B0.size
  have C1 := C0.below A1
  have CA1 := CA.below A1
  have CB1 := CB.below A1
  have CR1 := CR.below A1
  have CO1 := CO.below A1
  have O1 := own_lit (e := 29) (size := 3) w0 #[] 0 (Nat.zero_le _) rfl
  rw [World.size_alloc] at O1
  have hz1 : (w0.alloc (.cells #[] 29)).heap.size = w.heap.size + 6 := by rw [World.size_alloc, hz0]
  have OX : Own 29 3 w0.heap.size (w0.alloc (.cells #[] 29)).heap.size (w0.alloc (.cells #[] 29)) (.slice (some ⟨w0.heap.size, 0, none⟩) 0 0) 0 [] := by
    rw [World.size_alloc]
    simpa using O1
  have hg0 : w0.heap.size = w.heap.size + 1 + 1 + 1 + 1 + 1 := hz0
  rw [hg0] at OX
  generalize hw1 : w0.alloc (.cells #[] 29) = w1 at B1 C1 CA1 CB1 CR1 CO1 OX hz1
  have HW1 := Lib.hid hw1
  clear hw0 hw1 O1 A1 C0 CA CB CR CO hg0
  go_enter Tryd.func19, Tryd.ntmps19
  go_wp2_with (at_builtin; rw [HW0.out, HW1.out]; refine appendV_law Tryd.elemVals rfl _ _ rfl (w.heap.size + 1 + 1 + 1 + 1 + 1) _ (.slice (some ⟨w.heap.size + 1 + 1 + 1 + 1 + 1, 0, none⟩) 0 0) 0 [] ⟨At, Av, As⟩ rfl OX (by rw [hz1]; rfl) (by unfold maxLen; omega) (by omega) ?_)
  intro v2 w2 O2 E2
  have hne2 : ∀ x, x < w.heap.size + 1 + 1 + 1 + 1 + 1 → ((.slice (some ⟨w.heap.size + 1 + 1 + 1 + 1 + 1, 0, none⟩) 0 0) : Value).ownBlock ≠ some x := fun x hx => OwnN.not_low (.inr OX) hx
  have hgz2 : w.heap.size + 1 + 1 + 1 + 1 + 1 = w.heap.size + 5 := rfl
  have B2 := B1.grown E2.grown B1.size (fun k hk => Nat.le_of_not_lt (fun hlt => hne2 k (by omega) hk))
  have C2 := C1.ext E2 (hne2 _ (by omega))
  have CA2 := CA1.ext E2 (hne2 _ (by omega))
  have CB2 := CB1.ext E2 (hne2 _ (by omega))
  have CR2 := CR1.ext E2 (hne2 _ (by omega))
  have CO2 := CO1.ext E2 (hne2 _ (by omega))
  have hz2 : w.heap.size + 6 ≤ w2.heap.size := by have := E2.grown.size; omega
  obtain ⟨x2, y2, hv2⟩ : ∃ g cp, v2 = .slice (some ⟨g, 0, none⟩) 1 cp := by obtain ⟨g, cp, e, _⟩ := O2; exact ⟨g, cp, e⟩
  subst hv2
  clear OX E2
  have OX := O2
  clear O2 C1 CA1 CB1 CR1 CO1 hne2
  have k0 := (C2 0 _ rfl).1
  have a2 := (CA2 2 _ rfl).1
  have b2 := (CB2 2 _ rfl).1
  obtain ⟨o2, f2⟩ := CO2 2 _ rfl
  go_wp2_with fail
  clear k0 a2 b2 o2 f2
  have XO : Blk (w2.setCell ⟨w.heap.size + 1 + 1 + 1 + 1, 2, none⟩ (.bool true)) (w.heap.size + 1 + 1 + 1 + 1) [.slice none 0 0, .int .i64 0, .bool true, .int .i64 0, .int .i64 0, .string ⟨#[]⟩] := CO2.set 2 _
  have XR : Blk (w2.setCell ⟨w.heap.size + 1 + 1 + 1 + 1, 2, none⟩ (.bool true)) (w.heap.size + 1 + 1 + 1) [.slice none 0 0, .int .i64 0, .bool false, .int .i64 0, .int .i64 0, .string ⟨#[]⟩] := CR2.other (p := ⟨w.heap.size + 1 + 1 + 1 + 1, 2, none⟩) (by show w.heap.size + 1 + 1 + 1 + 1 ≠ w.heap.size + 1 + 1 + 1; omega) _
  have XC : Blk (w2.setCell ⟨w.heap.size + 1 + 1 + 1 + 1, 2, none⟩ (.bool true)) (w.heap.size) [.int .i64 4, .int .i64 t.kind, .int .i64 t.col, .int .i64 t.op, .int .i64 t.v.ty, .int .i64 t.v.n, .string t.v.s, .slice ua un uc, .int .i64 qc, .slice oa on oc] := C2.other (p := ⟨w.heap.size + 1 + 1 + 1 + 1, 2, none⟩) (by show w.heap.size + 1 + 1 + 1 + 1 ≠ w.heap.size; omega) _
  have XB : Below w.heap.size w (w2.setCell ⟨w.heap.size + 1 + 1 + 1 + 1, 2, none⟩ (.bool true)) := B2.setCell (by simp; omega) _
  have XX : Own 29 3 (w.heap.size + 1 + 1 + 1 + 1 + 1) (w2.setCell ⟨w.heap.size + 1 + 1 + 1 + 1, 2, none⟩ (.bool true)).heap.size (w2.setCell ⟨w.heap.size + 1 + 1 + 1 + 1, 2, none⟩ (.bool true)) (.slice (some ⟨x2, 0, none⟩) 1 y2) 1 _ := (OX.setBelow (a := ⟨w.heap.size + 1 + 1 + 1 + 1, 2, none⟩) (by show w.heap.size + 1 + 1 + 1 + 1 < w.heap.size + 1 + 1 + 1 + 1 + 1; omega) (.bool true)).wide (by simp [World.setCell])
  have hzs : w.heap.size + 6 ≤ (w2.setCell ⟨w.heap.size + 1 + 1 + 1 + 1, 2, none⟩ (.bool true)).heap.size := by simp [World.setCell]; omega
  have hg5 : w.heap.size + 1 + 1 + 1 + 1 + 1 = w.heap.size + 5 := rfl
  refine (HZ.out _ _ (by have h := OwnN.rd (.inr XX); simpa [vals, V.cs] using h)).mono ?_
  rintro e w5 ⟨rfl, b5⟩
  have B5 := below_then XB b5 XB.size
  have D0 := XC.below b5
  have DO := XO.below b5
  have DR := XR.below b5
  have DX := (XX.below b5 (Nat.le_refl _)).wide b5.size
  have hz5 := b5.size
  have k0 := (D0 0 _ rfl).1
  clear b5 XO XR XC XB XX
  obtain ⟨o0, f0⟩ := DO 0 _ rfl
  obtain ⟨r0, h0⟩ := DR 0 _ rfl
  obtain ⟨o1, f1⟩ := DO 1 _ rfl
  obtain ⟨r1, h1⟩ := DR 1 _ rfl
  obtain ⟨o2, f2⟩ := DO 2 _ rfl
  obtain ⟨r2, h2⟩ := DR 2 _ rfl
  obtain ⟨o3, f3⟩ := DO 3 _ rfl
  obtain ⟨r3, h3⟩ := DR 3 _ rfl
  obtain ⟨o4, f4⟩ := DO 4 _ rfl
  obtain ⟨r4, h4⟩ := DR 4 _ rfl
  obtain ⟨o5, f5⟩ := DO 5 _ rfl
  obtain ⟨r5, h5⟩ := DR 5 _ rfl
  clear D0 DO DR DX
  go_wp2
  exact bodyPost_ret (v := .agg #[.slice none 0 0, .int .i64 0, .bool true, .int .i64 zt, .int .i64 zn, .string zs]) (by simp [results, Tryd.results19, go_sem, *]) rfl ⟨by rw [HJ.out]; rfl, (((((((((B5.setCell (by simp; omega) _).setCell (by simp; omega) _).setCell (by simp; omega) _).setCell (by simp; omega) _).setCell (by simp; omega) _).setCell (by simp; omega) _).setCell (by simp; omega) _).setCell (by simp; omega) _).setCell (by simp; omega) _)⟩

set_option maxRecDepth 100000 in
set_option maxHeartbeats 4000000 in
theorem sJoined4_tt (t : T) (qc : Int) (ua : Option Addr) (un uc : Nat) (oa : Option Addr) (on oc : Nat) (Ar : List R) (An At Av : Int) (As : ByteArray) (Br : List R) (Bn Bt Bv : Int) (Bs : ByteArray) (aa : Option Addr) (an ac : Nat) (ba : Option Addr) (bn bc : Nat) (w : World) :
    Calls Tryd.prog 19 #[.agg #[.int .i64 4, .int .i64 t.kind, .int .i64 t.col, .int .i64 t.op, .int .i64 t.v.ty, .int .i64 t.v.n, .string t.v.s, .slice ua un uc, .int .i64 qc, .slice oa on oc], .agg #[.slice aa an ac, .int .i64 An, .bool true, .int .i64 At, .int .i64 Av, .string As], .agg #[.slice ba bn bc, .int .i64 Bn, .bool true, .int .i64 Bt, .int .i64 Bv, .string Bs]] w fun e w' => e = .returned (.agg ((joinL 4 (⟨Ar, An, true, ⟨At, Av, As⟩⟩ : Rs) (⟨Br, Bn, true, ⟨Bt, Bv, Bs⟩⟩ : Rs)).cs (.slice none 0 0)).toArray) ∧ Below w.heap.size w w' := by
  have HJ : Hid (joinL 4 (⟨Ar, An, true, ⟨At, Av, As⟩⟩ : Rs) (⟨Br, Bn, true, ⟨Bt, Bv, Bs⟩⟩ : Rs) = ⟨[], 0, true, (zoneL ([⟨At, Av, As⟩, ⟨Bt, Bv, Bs⟩] : List V)).lo⟩) := by
    show _ = _
    simp [joinL, hasL]
  have HZ := Lib.hid (fun u W h => sZoneOf u ([⟨At, Av, As⟩, ⟨Bt, Bv, Bs⟩] : List V) W h)
  generalize zoneL ([⟨At, Av, As⟩, ⟨Bt, Bv, Bs⟩] : List V) = z at HJ HZ
  obtain ⟨⟨zt, zn, zs⟩, ⟨yt, yn, ys⟩⟩ := z
  simp only [Zn.agg] at HZ
  have hfl : ∀ W, Sem.run Tryd.prog (Instr.field 106 (.agg #[.int .i64 zt, .int .i64 zn, .string zs, .int .i64 yt, .int .i64 yn, .string ys]) 0) W = Result.ok (.agg #[.int .i64 zt, .int .i64 zn, .string zs]) W := fun W => by kernel_rfl
  have hfh : ∀ W, Sem.run Tryd.prog (Instr.field 106 (.agg #[.int .i64 zt, .int .i64 zn, .string zs, .int .i64 yt, .int .i64 yn, .string ys]) 1) W = Result.ok (.agg #[.int .i64 yt, .int .i64 yn, .string ys]) W := fun W => by kernel_rfl
  have B0 : Below w.heap.size w (((((w.alloc (.cells #[.int .i64 4, .int .i64 t.kind, .int .i64 t.col, .int .i64 t.op, .int .i64 t.v.ty, .int .i64 t.v.n, .string t.v.s, .slice ua un uc, .int .i64 qc, .slice oa on oc] 46)).alloc (.cells #[.slice aa an ac, .int .i64 An, .bool true, .int .i64 At, .int .i64 Av, .string As] 50)).alloc (.cells #[.slice ba bn bc, .int .i64 Bn, .bool true, .int .i64 Bt, .int .i64 Bv, .string Bs] 50)).alloc (.cells #[.slice none 0 0, .int .i64 0, .bool false, .int .i64 0, .int .i64 0, .string ⟨#[]⟩] 50)).alloc (.cells #[.slice none 0 0, .int .i64 0, .bool false, .int .i64 0, .int .i64 0, .string ⟨#[]⟩] 50)) := below_alloc5 w _ _ _ _ _
  have C0 := ((((blk_new w [.int .i64 4, .int .i64 t.kind, .int .i64 t.col, .int .i64 t.op, .int .i64 t.v.ty, .int .i64 t.v.n, .string t.v.s, .slice ua un uc, .int .i64 qc, .slice oa on oc] 46).below (below_alloc _ (.cells #[.slice aa an ac, .int .i64 An, .bool true, .int .i64 At, .int .i64 Av, .string As] 50))).below (below_alloc _ (.cells #[.slice ba bn bc, .int .i64 Bn, .bool true, .int .i64 Bt, .int .i64 Bv, .string Bs] 50))).below (below_alloc _ (.cells #[.slice none 0 0, .int .i64 0, .bool false, .int .i64 0, .int .i64 0, .string ⟨#[]⟩] 50))).below (below_alloc _ (.cells #[.slice none 0 0, .int .i64 0, .bool false, .int .i64 0, .int .i64 0, .string ⟨#[]⟩] 50))
  have CA := (((blk_new (w.alloc (.cells #[.int .i64 4, .int .i64 t.kind, .int .i64 t.col, .int .i64 t.op, .int .i64 t.v.ty, .int .i64 t.v.n, .string t.v.s, .slice ua un uc, .int .i64 qc, .slice oa on oc] 46)) [.slice aa an ac, .int .i64 An, .bool true, .int .i64 At, .int .i64 Av, .string As] 50).below (below_alloc _ (.cells #[.slice ba bn bc, .int .i64 Bn, .bool true, .int .i64 Bt, .int .i64 Bv, .string Bs] 50))).below (below_alloc _ (.cells #[.slice none 0 0, .int .i64 0, .bool false, .int .i64 0, .int .i64 0, .string ⟨#[]⟩] 50))).below (below_alloc _ (.cells #[.slice none 0 0, .int .i64 0, .bool false, .int .i64 0, .int .i64 0, .string ⟨#[]⟩] 50))
  have CB := ((blk_new ((w.alloc (.cells #[.int .i64 4, .int .i64 t.kind, .int .i64 t.col, .int .i64 t.op, .int .i64 t.v.ty, .int .i64 t.v.n, .string t.v.s, .slice ua un uc, .int .i64 qc, .slice oa on oc] 46)).alloc (.cells #[.slice aa an ac, .int .i64 An, .bool true, .int .i64 At, .int .i64 Av, .string As] 50)) [.slice ba bn bc, .int .i64 Bn, .bool true, .int .i64 Bt, .int .i64 Bv, .string Bs] 50).below (below_alloc _ (.cells #[.slice none 0 0, .int .i64 0, .bool false, .int .i64 0, .int .i64 0, .string ⟨#[]⟩] 50))).below (below_alloc _ (.cells #[.slice none 0 0, .int .i64 0, .bool false, .int .i64 0, .int .i64 0, .string ⟨#[]⟩] 50))
  have CR := (blk_new (((w.alloc (.cells #[.int .i64 4, .int .i64 t.kind, .int .i64 t.col, .int .i64 t.op, .int .i64 t.v.ty, .int .i64 t.v.n, .string t.v.s, .slice ua un uc, .int .i64 qc, .slice oa on oc] 46)).alloc (.cells #[.slice aa an ac, .int .i64 An, .bool true, .int .i64 At, .int .i64 Av, .string As] 50)).alloc (.cells #[.slice ba bn bc, .int .i64 Bn, .bool true, .int .i64 Bt, .int .i64 Bv, .string Bs] 50)) [.slice none 0 0, .int .i64 0, .bool false, .int .i64 0, .int .i64 0, .string ⟨#[]⟩] 50).below (below_alloc _ (.cells #[.slice none 0 0, .int .i64 0, .bool false, .int .i64 0, .int .i64 0, .string ⟨#[]⟩] 50))
  have CO := blk_new ((((w.alloc (.cells #[.int .i64 4, .int .i64 t.kind, .int .i64 t.col, .int .i64 t.op, .int .i64 t.v.ty, .int .i64 t.v.n, .string t.v.s, .slice ua un uc, .int .i64 qc, .slice oa on oc] 46)).alloc (.cells #[.slice aa an ac, .int .i64 An, .bool true, .int .i64 At, .int .i64 Av, .string As] 50)).alloc (.cells #[.slice ba bn bc, .int .i64 Bn, .bool true, .int .i64 Bt, .int .i64 Bv, .string Bs] 50)).alloc (.cells #[.slice none 0 0, .int .i64 0, .bool false, .int .i64 0, .int .i64 0, .string ⟨#[]⟩] 50)) [.slice none 0 0, .int .i64 0, .bool false, .int .i64 0, .int .i64 0, .string ⟨#[]⟩] 50
  have hz0 : (((((w.alloc (.cells #[.int .i64 4, .int .i64 t.kind, .int .i64 t.col, .int .i64 t.op, .int .i64 t.v.ty, .int .i64 t.v.n, .string t.v.s, .slice ua un uc, .int .i64 qc, .slice oa on oc] 46)).alloc (.cells #[.slice aa an ac, .int .i64 An, .bool true, .int .i64 At, .int .i64 Av, .string As] 50)).alloc (.cells #[.slice ba bn bc, .int .i64 Bn, .bool true, .int .i64 Bt, .int .i64 Bv, .string Bs] 50)).alloc (.cells #[.slice none 0 0, .int .i64 0, .bool false, .int .i64 0, .int .i64 0, .string ⟨#[]⟩] 50)).alloc (.cells #[.slice none 0 0, .int .i64 0, .bool false, .int .i64 0, .int .i64 0, .string ⟨#[]⟩] 50)).heap.size = w.heap.size + 5 := by simp only [World.size_alloc]
  simp only [World.size_alloc] at CA CB CR CO
  generalize hw0 : (((((w.alloc (.cells #[.int .i64 4, .int .i64 t.kind, .int .i64 t.col, .int .i64 t.op, .int .i64 t.v.ty, .int .i64 t.v.n, .string t.v.s, .slice ua un uc, .int .i64 qc, .slice oa on oc] 46)).alloc (.cells #[.slice aa an ac, .int .i64 An, .bool true, .int .i64 At, .int .i64 Av, .string As] 50)).alloc (.cells #[.slice ba bn bc, .int .i64 Bn, .bool true, .int .i64 Bt, .int .i64 Bv, .string Bs] 50)).alloc (.cells #[.slice none 0 0, .int .i64 0, .bool false, .int .i64 0, .int .i64 0, .string ⟨#[]⟩] 50)).alloc (.cells #[.slice none 0 0, .int .i64 0, .bool false, .int .i64 0, .int .i64 0, .string ⟨#[]⟩] 50)) = w0 at B0 C0 CA CB CR CO hz0
  have HW0 := Lib.hid hw0
  have A1 := below_alloc w0 (.cells #[] 29)
  have B1 := below_then B0 A1 B0.size
  have C1 := C0.below A1
  have CA1 := CA.below A1
  have CB1 := CB.below A1
  have CR1 := CR.below A1
  have CO1 := CO.below A1
  have O1 := own_lit (e := 29) (size := 3) w0 #[] 0 (Nat.zero_le _) rfl
  rw [World.size_alloc] at O1
  have hz1 : (w0.alloc (.cells #[] 29)).heap.size = w.heap.size + 6 := by rw [World.size_alloc, hz0]
  have OX : Own 29 3 w0.heap.size (w0.alloc (.cells #[] 29)).heap.size (w0.alloc (.cells #[] 29)) (.slice (some ⟨w0.heap.size, 0, none⟩) 0 0) 0 [] := by
    rw [World.size_alloc]
    simpa using O1
  have hg0 : w0.heap.size = w.heap.size + 1 + 1 + 1 + 1 + 1 := hz0
  rw [hg0] at OX
  generalize hw1 : w0.alloc (.cells #[] 29) = w1 at B1 C1 CA1 CB1 CR1 CO1 OX hz1
  have HW1 := Lib.hid hw1
  clear hw0 hw1 O1 A1 C0 CA CB CR CO hg0
  go_enter Tryd.func19, Tryd.ntmps19
  go_wp2_with (at_builtin; rw [HW0.out, HW1.out]; refine appendV_law Tryd.elemVals rfl _ _ rfl (w.heap.size + 1 + 1 + 1 + 1 + 1) _ (.slice (some ⟨w.heap.size + 1 + 1 + 1 + 1 + 1, 0, none⟩) 0 0) 0 [] ⟨At, Av, As⟩ rfl OX (by rw [hz1]; rfl) (by unfold maxLen; omega) (by omega) ?_)
  intro v2 w2 O2 E2
  have hne2 : ∀ x, x < w.heap.size + 1 + 1 + 1 + 1 + 1 → ((.slice (some ⟨w.heap.size + 1 + 1 + 1 + 1 + 1, 0, none⟩) 0 0) : Value).ownBlock ≠ some x := fun x hx => OwnN.not_low (.inr OX) hx
  have hgz2 : w.heap.size + 1 + 1 + 1 + 1 + 1 = w.heap.size + 5 := rfl
  have B2 := B1.grown E2.grown B1.size (fun k hk => Nat.le_of_not_lt (fun hlt => hne2 k (by omega) hk))
  have C2 := C1.ext E2 (hne2 _ (by omega))
  have CA2 := CA1.ext E2 (hne2 _ (by omega))
  have CB2 := CB1.ext E2 (hne2 _ (by omega))
  have CR2 := CR1.ext E2 (hne2 _ (by omega))
  have CO2 := CO1.ext E2 (hne2 _ (by omega))
  have hz2 : w.heap.size + 6 ≤ w2.heap.size := by have := E2.grown.size; omega
  obtain ⟨x2, y2, hv2⟩ : ∃ g cp, v2 = .slice (some ⟨g, 0, none⟩) 1 cp := by obtain ⟨g, cp, e, _⟩ := O2; exact ⟨g, cp, e⟩
  subst hv2
  clear OX E2
  have OX := O2
  clear O2 C1 CA1 CB1 CR1 CO1 hne2
  have k0 := (C2 0 _ rfl).1
  have a2 := (CA2 2 _ rfl).1
  have a3 := (CA2 3 _ rfl).1
  have a4 := (CA2 4 _ rfl).1
  have a5 := (CA2 5 _ rfl).1
  have b2 := (CB2 2 _ rfl).1
  have b3 := (CB2 3 _ rfl).1
  have b4 := (CB2 4 _ rfl).1
  have b5 := (CB2 5 _ rfl).1
  go_wp2_with (at_builtin; skip; refine appendV_law Tryd.elemVals rfl _ _ rfl (w.heap.size + 1 + 1 + 1 + 1 + 1) _ (.slice (some ⟨x2, 0, none⟩) 1 y2) 1 _ ⟨Bt, Bv, Bs⟩ rfl OX rfl (by unfold maxLen; omega) (by omega) ?_)
  intro v3 w3 O3 E3
  have hne3 : ∀ x, x < w.heap.size + 1 + 1 + 1 + 1 + 1 → ((.slice (some ⟨x2, 0, none⟩) 1 y2) : Value).ownBlock ≠ some x := fun x hx => OwnN.not_low (.inr OX) hx
  have hgz3 : w.heap.size + 1 + 1 + 1 + 1 + 1 = w.heap.size + 5 := rfl
  have B3 := B2.grown E3.grown B2.size (fun k hk => Nat.le_of_not_lt (fun hlt => hne3 k (by omega) hk))
  have C3 := C2.ext E3 (hne3 _ (by omega))
  have CA3 := CA2.ext E3 (hne3 _ (by omega))
  have CB3 := CB2.ext E3 (hne3 _ (by omega))
  have CR3 := CR2.ext E3 (hne3 _ (by omega))
  have CO3 := CO2.ext E3 (hne3 _ (by omega))
  have hz3 : w.heap.size + 6 ≤ w3.heap.size := by have := E3.grown.size; omega
  obtain ⟨x3, y3, hv3⟩ : ∃ g cp, v3 = .slice (some ⟨g, 0, none⟩) 2 cp := by obtain ⟨g, cp, e, _⟩ := O3; exact ⟨g, cp, e⟩
  subst hv3
  clear OX E3
  have OX := O3
  clear O3 C2 CA2 CB2 CR2 CO2 hne3
  clear k0 a2 a3 a4 a5 b2 b3 b4 b5
  have k0 := (C3 0 _ rfl).1
  have a2 := (CA3 2 _ rfl).1
  have b2 := (CB3 2 _ rfl).1
  obtain ⟨o2, f2⟩ := CO3 2 _ rfl
  go_wp2_with fail
  clear k0 a2 b2 o2 f2
  have XO : Blk (w3.setCell ⟨w.heap.size + 1 + 1 + 1 + 1, 2, none⟩ (.bool true)) (w.heap.size + 1 + 1 + 1 + 1) [.slice none 0 0, .int .i64 0, .bool true, .int .i64 0, .int .i64 0, .string ⟨#[]⟩] := CO3.set 2 _
  have XR : Blk (w3.setCell ⟨w.heap.size + 1 + 1 + 1 + 1, 2, none⟩ (.bool true)) (w.heap.size + 1 + 1 + 1) [.slice none 0 0, .int .i64 0, .bool false, .int .i64 0, .int .i64 0, .string ⟨#[]⟩] := CR3.other (p := ⟨w.heap.size + 1 + 1 + 1 + 1, 2, none⟩) (by show w.heap.size + 1 + 1 + 1 + 1 ≠ w.heap.size + 1 + 1 + 1; omega) _
  have XC : Blk (w3.setCell ⟨w.heap.size + 1 + 1 + 1 + 1, 2, none⟩ (.bool true)) (w.heap.size) [.int .i64 4, .int .i64 t.kind, .int .i64 t.col, .int .i64 t.op, .int .i64 t.v.ty, .int .i64 t.v.n, .string t.v.s, .slice ua un uc, .int .i64 qc, .slice oa on oc] := C3.other (p := ⟨w.heap.size + 1 + 1 + 1 + 1, 2, none⟩) (by show w.heap.size + 1 + 1 + 1 + 1 ≠ w.heap.size; omega) _
  have XB : Below w.heap.size w (w3.setCell ⟨w.heap.size + 1 + 1 + 1 + 1, 2, none⟩ (.bool true)) := B3.setCell (by simp; omega) _
  have XX : Own 29 3 (w.heap.size + 1 + 1 + 1 + 1 + 1) (w3.setCell ⟨w.heap.size + 1 + 1 + 1 + 1, 2, none⟩ (.bool true)).heap.size (w3.setCell ⟨w.heap.size + 1 + 1 + 1 + 1, 2, none⟩ (.bool true)) (.slice (some ⟨x3, 0, none⟩) 2 y3) 2 _ := (OX.setBelow (a := ⟨w.heap.size + 1 + 1 + 1 + 1, 2, none⟩) (by show w.heap.size + 1 + 1 + 1 + 1 < w.heap.size + 1 + 1 + 1 + 1 + 1; omega) (.bool true)).wide (by simp [World.setCell])
  have hzs : w.heap.size + 6 ≤ (w3.setCell ⟨w.heap.size + 1 + 1 + 1 + 1, 2, none⟩ (.bool true)).heap.size := by simp [World.setCell]; omega
  have hg5 : w.heap.size + 1 + 1 + 1 + 1 + 1 = w.heap.size + 5 := rfl
  refine (HZ.out _ _ (by have h := OwnN.rd (.inr XX); simpa [vals, V.cs] using h)).mono ?_
  rintro e w5 ⟨rfl, b5⟩
  have B5 := below_then XB b5 XB.size
  have D0 := XC.below b5
  have DO := XO.below b5
  have DR := XR.below b5
  have DX := (XX.below b5 (Nat.le_refl _)).wide b5.size
  have hz5 := b5.size
  have k0 := (D0 0 _ rfl).1
  clear b5 XO XR XC XB XX
  obtain ⟨o0, f0⟩ := DO 0 _ rfl
  obtain ⟨r0, h0⟩ := DR 0 _ rfl
  obtain ⟨o1, f1⟩ := DO 1 _ rfl
  obtain ⟨r1, h1⟩ := DR 1 _ rfl
  obtain ⟨o2, f2⟩ := DO 2 _ rfl
  obtain ⟨r2, h2⟩ := DR 2 _ rfl
  obtain ⟨o3, f3⟩ := DO 3 _ rfl
  obtain ⟨r3, h3⟩ := DR 3 _ rfl
  obtain ⟨o4, f4⟩ := DO 4 _ rfl
  obtain ⟨r4, h4⟩ := DR 4 _ rfl
  obtain ⟨o5, f5⟩ := DO 5 _ rfl
  obtain ⟨r5, h5⟩ := DR 5 _ rfl
  clear D0 DO DR DX
  go_wp2
  exact bodyPost_ret (v := .agg #[.slice none 0 0, .int .i64 0, .bool true, .int .i64 zt, .int .i64 zn, .string zs]) (by simp [results, Tryd.results19, go_sem, *]) rfl ⟨by rw [HJ.out]; rfl, (((((((((B5.setCell (by simp; omega) _).setCell (by simp; omega) _).setCell (by simp; omega) _).setCell (by simp; omega) _).setCell (by simp; omega) _).setCell (by simp; omega) _).setCell (by simp; omega) _).setCell (by simp; omega) _).setCell (by simp; omega) _)⟩

end Go.Proofs.YtkofafefnlommaaDoor
