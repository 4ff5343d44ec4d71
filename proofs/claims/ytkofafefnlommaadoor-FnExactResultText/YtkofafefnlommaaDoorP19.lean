/- Texts of this claim, one behind the other: S12a, RowsA, S12b. -/
import Derived.Test.YtkofafefnlommaaDoorP17
import Derived.Test.YtkofafefnlommaaDoorP5
import Derived.Test.YtkofafefnlommaaDoorP15
import Derived.Lib.SliceRun
import Derived.Test.YtkofafefnlommaaDoorP3
import Derived.Test.YtkofafefnlommaaDoorP16

/- The model's l4Copy, the program's slices.Clone and copyRow (written by mk_S12a.py). -/
namespace Go.Proofs.YtkofafefnlommaaDoor
open Go.RowKit

theorem OwnN.atN {e size lo hi w v n xs} (h : OwnN e size lo hi w v n xs) : AtN size w v n xs := h.imp id Own.at
theorem OwnV.atN {lo hi w u} {l : List V} (h : OwnV lo hi w u l) : AtN 3 w u l.length (vals l) := OwnN.atN h
theorem AtN.sl {size w v n xs} (h : AtN size w v n xs) : ∃ a cp, v = .slice a n cp := by
  obtain ⟨a, cp, e, _⟩ := h.rd
  exact ⟨a, cp, e⟩
theorem run_append_atN {P : Program} {t e : TypeId} {z : Value} {size bytes : Nat} (T : ElemT P t e z size bytes) (w : World) (ty : TypeId)
    (lo hi : Nat) (v : Value) (n : Nat) (xs : List Value) (hown : Own e size lo hi w v n xs) (xv : Value) (m : Nat) (news : List Value) (hX : AtN size w xv m news) (h1 : ∀ u ∈ news, u.oneCell' = true)
    (h63 : n + m ≤ maxLen) (hbytes : (n + m) * bytes ≤ 140737488355328) :
    ∃ v' w', (Builtin.append_ #[t, t] ty #[v, xv]).run P w = .ok v' w' ∧ Own e size lo w'.heap.size w' v' (n + m) (xs ++ news) ∧ Ext w w' v v' := by
  rcases hX with ⟨rfl, rfl, rfl⟩ | ⟨b, off, cap, rfl, _, _, hl, hc⟩
  · obtain ⟨i, hi', hz, hs, hb⟩ := T.info
    have hr := run_append_owned_none (P := P) (w := w) lo t ty e i size T.ht hi' v n xs hown.row
    refine ⟨v, w, hr, ?_, Ext.refl _ _⟩
    rw [List.append_nil]
    obtain ⟨g, cp, rfl, h2, h3, h4⟩ := hown
    exact ⟨g, cp, rfl, h2, (h4.lt g rfl).2, h4⟩
  · exact append_block w t ty e z size bytes T lo hi v n xs hown ⟨b, off, none⟩ m cap news hl (fun j u hu => by rw [addr_add]; exact hc j u hu) h1 h63 hbytes
/-- append(s, x...) as one operation: s one's own, x nil or read. -/
theorem appendN_op {P : Program} {t e : TypeId} {z : Value} {size bytes : Nat} (T : ElemT P t e z size bytes) {w : World} {o : Oper} {a : Act} {K : Act → World → Prop} {Q : Exit → Act → World → Prop} (s x : Operand)
    (ho : o.op = .call { callee := .builtin .append, args := #[s, x], argTypes := #[t, t] })
    (lo hi : Nat) (v : Value) (n : Nat) (xs : List Value) (hs : a.eval s = v) (hown : Own e size lo hi w v n xs)
    (xv : Value) (m : Nat) (news : List Value) (hx : a.eval x = xv) (hX : AtN size w xv m news) (h1 : ∀ u ∈ news, u.oneCell' = true)
    (h63 : n + m ≤ maxLen) (hbytes : (n + m) * bytes ≤ 140737488355328)
    (h : ∀ v' w', Own e size lo w'.heap.size w' v' (n + m) (xs ++ news) → Ext w w' v v' → K (a.put o.dst v') w') : Oper.wp P o a w K Q := by
  obtain ⟨v', w', hr, h2, h3⟩ := run_append_atN T w o.type lo hi v n xs hown xv m news hX h1 h63 hbytes
  unfold Oper.wp execOp
  simp only [ho, resolve, invoke, builtin, Sem.run_bind, Sem.run_pure, Result.andThen_ok, List.map_toArray, List.map_cons, List.map_nil, hs, hx, hr]
  exact h v' w' h2 h3
theorem appendN_law {P : Program} {t e : TypeId} {z : Value} {size bytes : Nat} (T : ElemT P t e z size bytes) {w : World} {ops : Array Oper} {rest : List Oper} {o : Oper} {a : Act} {Q : Exit → Act → World → Prop} (hgd : o.guard = none) (s x : Operand)
    (ho : o.op = .call { callee := .builtin .append, args := #[s, x], argTypes := #[t, t] })
    (lo hi : Nat) (v : Value) (n : Nat) (xs : List Value) (hs : a.eval s = v) (hown : Own e size lo hi w v n xs)
    (xv : Value) (m : Nat) (news : List Value) (hx : a.eval x = xv) (hX : AtN size w xv m news) (h1 : ∀ u ∈ news, u.oneCell' = true)
    (h63 : n + m ≤ maxLen) (hbytes : (n + m) * bytes ≤ 140737488355328)
    (h : ∀ v' w', Own e size lo w'.heap.size w' v' (n + m) (xs ++ news) → Ext w w' v v' → wpList P ops Q rest (a.put o.dst v') w') : wpList P ops Q (o :: rest) a w := by
  refine wpList_plain hgd fun K hK => ?_
  obtain ⟨v', w', hr, h2, h3⟩ := run_append_atN T w o.type lo hi v n xs hown xv m news hX h1 h63 hbytes
  unfold Oper.wp execOp
  simp only [ho, resolve, invoke, builtin, Sem.run_bind, Sem.run_pure, Result.andThen_ok, List.map_toArray, List.map_cons, List.map_nil, hs, hx, hr]
  exact hK _ _ (h v' w' h2 h3)
theorem Two.grown {W W' : World} {b : Nat} {x y : Value} {row : Option Nat} (h : Two W b x y) (hg : W.grownBy W' row) (hne : some b ≠ row) : Two W' b x y := by
  have hb := hg.block b (lt_of_cell h.1.1) hne
  exact ⟨⟨(World.cell?_of_block hb).trans h.1.1, (World.cell?_of_block hb).trans h.1.2⟩, (World.frozen?_of_block hb).trans h.2.1, (World.frozen?_of_block hb).trans h.2.2⟩
theorem OwnN.setBelow {e size lo hi w v n xs} (h : OwnN e size lo hi w v n xs) {a : Addr} (ha : a.block < lo) (u : Value) : OwnN e size lo hi (w.setCell a u) v n xs := h.imp id (fun h => h.setBelow ha u)
theorem OwnV.setBelow {lo hi w u} {l : List V} (h : OwnV lo hi w u l) {a : Addr} (ha : a.block < lo) (x : Value) : OwnV lo hi (w.setCell a x) u l := OwnN.setBelow h ha x
theorem valsOne (l : List V) : ∀ u ∈ vals l, u.oneCell' = true := by
  intro u hu
  unfold vals at hu
  obtain ⟨v, _, hv⟩ := List.mem_flatMap.1 hu
  simp only [V.cs, List.mem_cons, List.not_mem_nil, or_false] at hv
  rcases hv with rfl | rfl | rfl <;> rfl

set_option maxRecDepth 100000 in
set_option maxHeartbeats 1000000 in
theorem sL4Copy (r : R) (u : Value) (w : World) (hn : r.l.length ≤ 1048576) (h : AtN 3 w u r.l.length (vals r.l)) :
    Calls Tryd.prog 77 #[r.agg u] w fun e w' => ∃ v, e = .returned (r.agg v) ∧ OwnV w.heap.size w'.heap.size w' v r.l ∧ Below w.heap.size w w' := by
  have B0 := below_alloc2 w (.cells #[.int .i64 r.id, u] 91) (.cells #[.int .i64 0, .slice none 0 0] 91)
  have T0 := (two_new w (.int .i64 r.id) u 91).below (below_alloc _ (.cells #[.int .i64 0, .slice none 0 0] 91))
  have Z0 := two_new (w.alloc (.cells #[.int .i64 r.id, u] 91)) (.int .i64 0) (.slice none 0 0) 91
  have h0 := h.below B0
  rw [World.size_alloc] at Z0
  have hs0 : ((w.alloc (.cells #[.int .i64 r.id, u] 91)).alloc (.cells #[.int .i64 0, .slice none 0 0] 91)).heap.size = w.heap.size + 2 := by rw [World.size_alloc, World.size_alloc]
  obtain ⟨i, l⟩ := r
  simp only at B0 T0 Z0 h0 hs0 hn
  clear h
  generalize hw0 : (w.alloc (.cells #[.int .i64 i, u] 91)).alloc (.cells #[.int .i64 0, .slice none 0 0] 91) = w0 at B0 T0 Z0 h0 hs0
  have HW0 := Lib.hid hw0
  clear hw0
  generalize hln : l.length = n at h0 hn
  have HLN := Lib.hid hln
  obtain ⟨a, cp, hu⟩ := h0.sl
  subst hu
  have BD := (Below.refl w0.heap.size w0).drew
  have TD := T0.below BD
  have ZD := Z0.below BD
  have hD := h0.below BD
  have BB := below_then B0 BD B0.size
  have hsd : w0.drew.heap.size = w.heap.size + 2 := by simpa using hs0
  obtain ⟨t0, t1⟩ := T0.1
  clear T0 Z0 h0 hln BD B0
  go_enter Tryd.func77, Tryd.ntmps77
  go_wp2
  rw [HW0.out]
  refine wp_region_held_drew (S := fun W => W.cell? ⟨w.heap.size, 0, none⟩ = some (.int .i64 i) ∧ W.cell? ⟨w.heap.size, 1, none⟩ = some (.slice a n cp)) (by kernel_rfl) ⟨t0, t1⟩ (fun hH => ?_)
  clear t0 t1
  generalize w0.drew = wd at BB TD ZD hsd hH hD ⊢
  refine takeH (i := 0) (d := some 3) (v := .pointer (some ⟨w.heap.size, 0, none⟩)) rfl rfl (by kernel_rfl) (by kernel_rfl) (by kernel_rfl) (fun _ _ _ h => h) (Or.inl ⟨by rfl, fun W hSw => by obtain ⟨s0, s1⟩ := hSw; go_simp⟩) hH ?_
  try simp only [put_some, List.set_cons_zero, List.set_cons_succ]
  refine takeH (i := 1) (d := some 4) (v := .int .i64 i) rfl rfl (by kernel_rfl) (by kernel_rfl) (by kernel_rfl) (fun _ _ _ h => h) (Or.inl ⟨by rfl, fun W hSw => by obtain ⟨s0, s1⟩ := hSw; go_simp⟩) hH ?_
  try simp only [put_some, List.set_cons_zero, List.set_cons_succ]
  refine takeH (i := 3) (d := some 6) (v := .pointer (some ⟨w.heap.size, 1, none⟩)) rfl rfl (by kernel_rfl) (by kernel_rfl) (by kernel_rfl) (fun _ _ _ h => h) (Or.inl ⟨by rfl, fun W hSw => by obtain ⟨s0, s1⟩ := hSw; go_simp⟩) hH ?_
  try simp only [put_some, List.set_cons_zero, List.set_cons_succ]
  refine takeH (i := 4) (d := some 7) (v := .slice a n cp) rfl rfl (by kernel_rfl) (by kernel_rfl) (by kernel_rfl) (fun _ _ _ h => h) (Or.inl ⟨by rfl, fun W hSw => by obtain ⟨s0, s1⟩ := hSw; go_simp⟩) hH ?_
  try simp only [put_some, List.set_cons_zero, List.set_cons_succ]
  refine wpAnyH_ready (rs := [2]) (by kernel_rfl) (by simp) ?_
  refine AllReadyH.cons rfl (fun K hK => ?_) AllReadyH.nil
  go_simp
  have O1 := own_lit (e := 29) (size := 3) wd #[] 0 (Nat.zero_le _) rfl
  have A1 := below_alloc wd (.cells #[] 29)
  have T1 := TD.below A1
  have Z1 := ZD.below A1
  have D1 := hD.below A1
  have B1 := below_then BB A1 BB.size
  have hs1 : (wd.alloc (.cells #[] 29)).heap.size = w.heap.size + 3 := by rw [World.size_alloc, hsd]
  refine hK.out _ _ T1.1 (fun hH => ?_)
  clear hK K TD ZD hD BB A1
  rw [hsd] at O1
  generalize wd.alloc (.cells #[] 29) = w1 at O1 T1 Z1 D1 B1 hs1 hH ⊢
  try rw [hsd]
  refine wpAnyH_ready (rs := [5]) (by kernel_rfl) (by simp) ?_
  refine AllReadyH.cons rfl (fun K hK => ?_) AllReadyH.nil
  refine appendN_op Tryd.elemVals (.tmp 5) (.tmp 7) rfl (w.heap.size + 2) w1.heap.size (.slice (some ⟨w.heap.size + 2, 0, none⟩) 0 0) 0 [] rfl (Own.wide (by simpa using O1) (by omega)) (.slice a n cp) n (vals l) rfl D1 (valsOne l) (by unfold maxLen; omega) (by omega) ?_
  intro v2 w2 O2 E2
  rw [Nat.zero_add, List.nil_append] at O2
  have HE2 := Lib.hid E2.grown
  have T2 : Two w2 w.heap.size _ _ := T1.grown E2.grown (by simp [Value.ownBlock])
  have Z2 : Two w2 (w.heap.size + 1) _ _ := Z1.grown E2.grown (by simp [Value.ownBlock])
  have B2 := B1.grown E2.grown B1.size (fun k hk => by simp [Value.ownBlock] at hk; omega)
  have hs2 : w.heap.size + 3 ≤ w2.heap.size := by have := E2.grown.size; omega
  obtain ⟨g2, c2, rfl⟩ : ∃ g c, v2 = .slice (some ⟨g, 0, none⟩) n c := by obtain ⟨g, c, e, _⟩ := O2; exact ⟨g, c, e⟩
  have HO2 := Lib.hid O2
  refine hK.out _ _ T2.1 (fun hH => ?_)
  clear hK K E2 O1 T1 Z1 D1 B1 O2
  refine takeH (i := 6) (d := some 9) (v := .agg #[.int .i64 i, .slice (some ⟨g2, 0, none⟩) n c2]) rfl rfl (by kernel_rfl) (by kernel_rfl) (by kernel_rfl) (fun _ _ _ h => h) (Or.inl ⟨by rfl, fun W hSw => by obtain ⟨s0, s1⟩ := hSw; go_simp⟩) hH ?_
  try simp only [put_some, List.set_cons_zero, List.set_cons_succ]
  refine wpAnyH_ready (rs := [7]) (by kernel_rfl) (by simp) ?_
  refine AllReadyH.cons rfl (fun K hK => ?_) AllReadyH.nil
  obtain ⟨⟨z0, z1⟩, z2, z3⟩ := Z2
  obtain ⟨⟨y0, y1⟩, _⟩ := T2
  go_simp
  refine hK.out _ _ ⟨?_, ?_⟩ (fun hH => ?_)
  · exact (World.cell?_setCell_other _ _ _ _ (fun e => by injection e with e1; omega)).trans ((World.cell?_setCell_other _ _ _ _ (fun e => by injection e with e1; omega)).trans y0)
  · exact (World.cell?_setCell_other _ _ _ _ (fun e => by injection e with e1; omega)).trans ((World.cell?_setCell_other _ _ _ _ (fun e => by injection e with e1; omega)).trans y1)
  clear hK K
  refine wpAnyH_done (by kernel_rfl) ?_ _
  go_wp2
  refine bodyPost_ret (v := .agg #[.int .i64 i, .slice (some ⟨g2, 0, none⟩) n c2]) (by simp [results, Tryd.results77, go_sem, *]) rfl ⟨_, rfl, ?_, (B2.setCell (by simp) _).setCell (by simp) _⟩
  refine .inr ?_
  show Own _ _ _ _ _ _ l.length _
  rw [HLN.out]
  exact (((HO2.out.setBelow (by simp) _).setBelow (by simp) _).lower (by omega)).wide (by simp)

set_option maxRecDepth 100000 in
set_option maxHeartbeats 1000000 in
theorem iClone (u : Value) (l : List V) (w : World) (hn : l.length ≤ 1048576) (h : AtN 3 w u l.length (vals l)) :
    Calls Tryd.prog 101 #[u] w fun e w' => ∃ v, e = .returned v ∧ OwnV w.heap.size w'.heap.size w' v l ∧ Below w.heap.size w w' := by
  generalize hln : l.length = n at h hn
  have HLN := Lib.hid hln
  clear hln
  rcases h with ⟨rfl, rfl, hnil⟩ | h
  · have HNV := Lib.hid hnil
    have hnl : ∀ W, (binOp .eql 89 (.slice none 0 0) (.slice none 0 0)).run Tryd.prog W = .ok (.bool true) W := fun W => Lib.run_eql_slice_nil W _ 29 none 0 0 0 0 Tryd.underlying89
    clear hnil
    go_enter Tryd.func101, Tryd.ntmps101
    go_wp2
    go_ret
    exact ⟨_, rfl, .inl ⟨rfl, HLN.out, HNV.out⟩, Below.refl _ _⟩
  · have hN : AtN 3 w u n (vals l) := .inr h
    obtain ⟨b, off, cap, rfl, _, _, _, _⟩ := id h
    clear h
    have O1 := own_lit (e := 29) (size := 3) w #[] 0 (Nat.zero_le _) rfl
    have A1 := below_alloc w (.cells #[] 29)
    have D1 := hN.below A1
    clear hN
    generalize hw1 : w.alloc (.cells #[] 29) = w1 at O1 A1 D1
    have HW1 := Lib.hid hw1
    have hs1 : w1.heap.size = w.heap.size + 1 := by rw [← hw1, World.size_alloc]
    clear hw1
    have hnl : ∀ W, (binOp .eql 89 (.slice (some ⟨b, off, none⟩) n cap) (.slice none 0 0)).run Tryd.prog W = .ok (.bool false) W := fun W => Lib.run_eql_slice_nil W _ 29 (some ⟨b, off, none⟩) n cap 0 0 Tryd.underlying89
    go_enter Tryd.func101, Tryd.ntmps101
    go_wp2_with (at_builtin; rw [HW1.out]; refine appendN_law Tryd.elemVals rfl _ _ rfl w.heap.size w1.heap.size (.slice (some ⟨w.heap.size, 0, none⟩) 0 0) 0 [] rfl (Own.wide (by simpa using O1) (by omega)) (.slice (some ⟨b, off, none⟩) n cap) n (vals l) rfl D1 (valsOne l) (by unfold maxLen; omega) (by omega) ?_)
    intro v2 w2 O2 E2
    try rw [Nat.zero_add] at O2
    try rw [List.nil_append] at O2
    have B2 := A1.grown E2.grown A1.size (fun k hk => by simp [Value.ownBlock] at hk; omega)
    obtain ⟨g2, c2, rfl⟩ : ∃ g c, v2 = .slice (some ⟨g, 0, none⟩) n c := by obtain ⟨g, c, e, _⟩ := O2; exact ⟨g, c, e⟩
    have HO2 := Lib.hid O2
    clear O2 E2 O1 D1 A1
    go_wp2
    go_ret
    exact ⟨_, rfl, .inr (by show Own _ _ _ _ _ _ l.length _; rw [HLN.out]; exact HO2.out), B2⟩

set_option maxRecDepth 100000 in
set_option maxHeartbeats 1000000 in
theorem iCopyRow (r : R) (u : Value) (w : World) (hn : r.l.length ≤ 1048576) (h : AtN 3 w u r.l.length (vals r.l)) :
    Calls Tryd.prog 90 #[r.agg u] w fun e w' => ∃ v, e = .returned (r.agg v) ∧ OwnV w.heap.size w'.heap.size w' v r.l ∧ Below w.heap.size w w' := by
  have B0 := below_alloc2 w (.cells #[.int .i64 r.id, u] 91) (.cells #[.int .i64 0, .slice none 0 0] 91)
  have T0 := (two_new w (.int .i64 r.id) u 91).below (below_alloc _ (.cells #[.int .i64 0, .slice none 0 0] 91))
  have Z0 := two_new (w.alloc (.cells #[.int .i64 r.id, u] 91)) (.int .i64 0) (.slice none 0 0) 91
  have h0 := h.below B0
  rw [World.size_alloc] at Z0
  have hs0 : ((w.alloc (.cells #[.int .i64 r.id, u] 91)).alloc (.cells #[.int .i64 0, .slice none 0 0] 91)).heap.size = w.heap.size + 2 := by rw [World.size_alloc, World.size_alloc]
  obtain ⟨i, l⟩ := r
  simp only at B0 T0 Z0 h0 hs0 hn
  clear h
  generalize hw0 : (w.alloc (.cells #[.int .i64 i, u] 91)).alloc (.cells #[.int .i64 0, .slice none 0 0] 91) = w0 at B0 T0 Z0 h0 hs0
  have HW0 := Lib.hid hw0
  clear hw0
  have BD := (Below.refl w0.heap.size w0).drew
  have TD := T0.below BD
  have ZD := Z0.below BD
  have HC := Lib.hid (iClone u l w0.drew hn (h0.below BD))
  have BB := below_then B0 BD B0.size
  have hsd : w0.drew.heap.size = w.heap.size + 2 := by simpa using hs0
  obtain ⟨a, cp, hu⟩ := h0.sl
  generalize l.length = n at hu hn
  subst hu
  obtain ⟨t0, t1⟩ := T0.1
  clear T0 Z0 h0 BD B0
  go_enter Tryd.func90, Tryd.ntmps90
  go_wp2
  rw [HW0.out]
  refine wp_region_held_drew (S := fun W => W.cell? ⟨w.heap.size, 0, none⟩ = some (.int .i64 i) ∧ W.cell? ⟨w.heap.size, 1, none⟩ = some (.slice a n cp)) (by kernel_rfl) ⟨t0, t1⟩ (fun hH => ?_)
  clear t0 t1
  generalize w0.drew = wd at BB TD ZD hsd hH HC ⊢
  refine takeH (i := 0) (d := some 3) (v := .pointer (some ⟨w.heap.size, 0, none⟩)) rfl rfl (by kernel_rfl) (by kernel_rfl) (by kernel_rfl) (fun _ _ _ h => h) (Or.inl ⟨by rfl, fun W hSw => by obtain ⟨s0, s1⟩ := hSw; go_simp⟩) hH ?_
  try simp only [put_some, List.set_cons_zero, List.set_cons_succ]
  refine takeH (i := 1) (d := some 4) (v := .int .i64 i) rfl rfl (by kernel_rfl) (by kernel_rfl) (by kernel_rfl) (fun _ _ _ h => h) (Or.inl ⟨by rfl, fun W hSw => by obtain ⟨s0, s1⟩ := hSw; go_simp⟩) hH ?_
  try simp only [put_some, List.set_cons_zero, List.set_cons_succ]
  refine takeH (i := 2) (d := some 5) (v := .pointer (some ⟨w.heap.size, 1, none⟩)) rfl rfl (by kernel_rfl) (by kernel_rfl) (by kernel_rfl) (fun _ _ _ h => h) (Or.inl ⟨by rfl, fun W hSw => by obtain ⟨s0, s1⟩ := hSw; go_simp⟩) hH ?_
  try simp only [put_some, List.set_cons_zero, List.set_cons_succ]
  refine takeH (i := 3) (d := some 6) (v := .slice a n cp) rfl rfl (by kernel_rfl) (by kernel_rfl) (by kernel_rfl) (fun _ _ _ h => h) (Or.inl ⟨by rfl, fun W hSw => by obtain ⟨s0, s1⟩ := hSw; go_simp⟩) hH ?_
  try simp only [put_some, List.set_cons_zero, List.set_cons_succ]
  refine wpAnyH_ready (rs := [4]) (by kernel_rfl) (by simp) ?_
  refine AllReadyH.cons rfl (fun K hK => ?_) AllReadyH.nil
  go_simp
  go_at_call 101
  refine HC.out.mono ?_
  rintro e w2 ⟨v2, rfl, O2, b2⟩
  have T2 := TD.below b2
  have Z2 := ZD.below b2
  have B2 := below_then BB b2 BB.size
  have hs2 : w.heap.size + 2 ≤ w2.heap.size := by have := b2.size; omega
  rw [hsd] at O2
  obtain ⟨a2, c2, rfl⟩ := O2.atN.sl
  have HO2 := Lib.hid O2
  clear O2 TD ZD b2 HC
  go_wp2_with fail
  refine hK.out _ _ T2.1 (fun hH => ?_)
  clear hK K
  refine takeH (i := 5) (d := some 8) (v := .agg #[.int .i64 i, .slice a2 l.length c2]) rfl rfl (by kernel_rfl) (by kernel_rfl) (by kernel_rfl) (fun _ _ _ h => h) (Or.inl ⟨by rfl, fun W hSw => by obtain ⟨s0, s1⟩ := hSw; go_simp⟩) hH ?_
  try simp only [put_some, List.set_cons_zero, List.set_cons_succ]
  refine wpAnyH_ready (rs := [6]) (by kernel_rfl) (by simp) ?_
  refine AllReadyH.cons rfl (fun K hK => ?_) AllReadyH.nil
  obtain ⟨⟨z0, z1⟩, z2, z3⟩ := Z2
  obtain ⟨⟨y0, y1⟩, _⟩ := T2
  go_simp
  refine hK.out _ _ ⟨?_, ?_⟩ (fun hH => ?_)
  · exact (World.cell?_setCell_other _ _ _ _ (fun e => by injection e with e1; omega)).trans ((World.cell?_setCell_other _ _ _ _ (fun e => by injection e with e1; omega)).trans y0)
  · exact (World.cell?_setCell_other _ _ _ _ (fun e => by injection e with e1; omega)).trans ((World.cell?_setCell_other _ _ _ _ (fun e => by injection e with e1; omega)).trans y1)
  clear hK K
  refine wpAnyH_done (by kernel_rfl) ?_ _
  go_wp2
  refine bodyPost_ret (v := .agg #[.int .i64 i, .slice a2 l.length c2]) (by simp [results, Tryd.results90, go_sem, *]) rfl ⟨_, rfl, ?_, (B2.setCell (by simp) _).setCell (by simp) _⟩
  exact ((HO2.out.setBelow (by simp) _).setBelow (by simp) _).wide (by omega) (by simp)

end Go.Proofs.YtkofafefnlommaaDoor

/- Slices of Rows whose values are nil or read; append of a Row. -/
namespace Go.Proofs.YtkofafefnlommaaDoor
open Go.RowKit

/-- v is a slice of Rows whose values are nil or read. -/
def RdRsN (w : World) (v : Value) (ps : List P) : Prop := Rd 2 w v ps.length (prs ps) ∧ ∀ p ∈ ps, AtN 3 w p.2 p.1.l.length (vals p.1.l)
theorem RdRsN.below {w w' : World} {v : Value} {ps : List P} (h : RdRsN w v ps) (hb : Below w.heap.size w w') : RdRsN w' v ps := ⟨h.1.below hb, fun p hp => (h.2 p hp).below hb⟩
theorem RdRsN.rd {w : World} {v : Value} {ps : List P} (h : RdRsN w v ps) : RdRs w v ps := ⟨h.1, fun p hp => (h.2 p hp).rd⟩
theorem MyRs.rdN {lo hi w v} {ps : List P} (h : MyRs lo hi w v ps) : RdRsN w v ps := ⟨h.1.rd, fun p hp => (h.2.1 p hp).atN⟩
theorem RdRsN.walk {w : World} {v : Value} {ps : List P} (h : RdRsN w v ps) {n : Nat} (hl : ps.length = n) :
    ∃ a cap, v = .slice a n cap ∧ n ≤ maxLen ∧ Hid (∀ k, k < n → ∀ W, Below w.heap.size w W → ∃ b off, a = some ⟨b, off, none⟩ ∧ W.cell? ⟨b, off + k * 2, none⟩ = some (.int .i64 (ps.getD k P.zero).1.id) ∧ W.cell? ⟨b, off + k * 2 + 1, none⟩ = some (ps.getD k P.zero).2 ∧ AtN 3 W (ps.getD k P.zero).2 (ps.getD k P.zero).1.l.length (vals (ps.getD k P.zero).1.l)) := by
  obtain ⟨a, cap, rfl, hn, HC⟩ := h.rd.walk hl
  refine ⟨a, cap, rfl, hn, fun k hk W hW => ?_⟩
  obtain ⟨b, off, e, h1, h2, _⟩ := HC.out k hk W hW
  refine ⟨b, off, e, h1, h2, (h.2 _ ?_).below hW⟩
  have hk' : k < ps.length := by omega
  have e : ps.getD k P.zero = ps[k] := by simp [hk']
  rw [e]
  exact List.getElem_mem hk'
theorem apart_snoc {us : List Value} {v : Value} (h : Apart us) (hv : ∀ u ∈ us, u.ownBlock = none ∨ u.ownBlock ≠ v.ownBlock) : Apart (us ++ [v]) := by
  unfold Apart at *
  rw [List.pairwise_append]
  exact ⟨h, List.pairwise_singleton _ _, fun a ha b hb => by rw [List.mem_singleton.1 hb]; exact hv a ha⟩
theorem OwnN.block_ne {lo hi lo' hi' w v u n xs} {l : List V} (h : OwnN 91 2 lo' hi' w v n xs) (k : OwnV lo hi w u l) : v.ownBlock = none ∨ v.ownBlock ≠ u.ownBlock := by
  rcases h with ⟨rfl, _⟩ | h
  · exact .inl rfl
  · exact .inr (OwnV.block_ne h k)
theorem OwnV.lt {lo hi w u} {l : List V} (h : OwnV lo hi w u l) {s : Nat} (hs : hi ≤ s) {v : Value} (hv : ∀ x, v.ownBlock = some x → s ≤ x) : u.ownBlock = none ∨ u.ownBlock ≠ v.ownBlock := by
  by_cases hu : u.ownBlock = none
  · exact .inl hu
  · refine .inr (fun e => ?_)
    cases hx : u.ownBlock with
    | none => exact hu hx
    | some x =>
      have h1 := h.in_ hx
      have h2 := hv x (e.symm.trans hx)
      omega
/-- One more row. -/
theorem MyRs.append {lo s : Nat} {w1 w2 : World} {out out' : Value} {ps : List P} {p : P} (h : MyRs lo s w1 out ps) (hls : lo ≤ s) (hp : OwnV s w1.heap.size w1 p.2 p.1.l) (hs : s ≤ w1.heap.size) (ho : Own 91 2 lo w2.heap.size w2 out' (ps.length + 1) (prs ps ++ p.cs)) (he : Ext w1 w2 out out') : MyRs lo w2.heap.size w2 out' (ps ++ [p]) := by
  have hz := he.grown.size
  refine ⟨?_, fun q hq => ?_, ?_⟩
  · rw [List.length_append]
    refine .inr ?_
    have e : prs (ps ++ [p]) = prs ps ++ p.cs := by simp [prs]
    rw [e]
    exact ho
  · rcases List.mem_append.1 hq with hq | hq
    · exact ((h.2.1 q hq).other he.grown (OwnN.block_ne h.1 (h.2.1 q hq))).wide (Nat.le_refl _) (by omega)
    · rw [List.mem_singleton.1 hq]
      exact (hp.other he.grown (OwnN.block_ne h.1 hp)).wide hls hz
  · rw [List.map_append]
    refine apart_snoc h.2.2 (fun u hu => ?_)
    obtain ⟨q, hq, rfl⟩ := List.mem_map.1 hu
    exact (h.2.1 q hq).lt (Nat.le_refl _) (fun x hx => (hp.in_ hx).1)
/-- append(s, x): x, a Row, has just been laid in a block of its own. -/
theorem appendR_law {P : Program} {t e : TypeId} {z : Value} {bytes : Nat} (T : ElemT P t e z 2 bytes) {w : World} {ops : Array Oper} {rest : List Oper} {o : Oper} {a : Act} {Q : Exit → Act → World → Prop} (hgd : o.guard = none) (s x : Operand)
    (ho : o.op = .call { callee := .builtin .append, args := #[s, x], argTypes := #[t, t] })
    (lo hi : Nat) (v : Value) (n : Nat) (xs : List Value) (k : Int) (ua : Option Addr) (un uc : Nat) (hs : a.eval s = v) (hown : OwnN e 2 lo hi w v n xs) (hlo : lo ≤ w.heap.size)
    (N : Nat) (hN : w.heap.size = N) (hx : a.eval x = .slice (some ⟨N, 0, none⟩) 1 1)
    (h63 : n + 1 ≤ maxLen) (hbytes : (n + 1) * bytes ≤ 140737488355328)
    (h : ∀ v' w', Own e 2 lo w'.heap.size w' v' (n + 1) (xs ++ [.int .i64 k, .slice ua un uc]) → Ext w w' v v' → wpList P ops Q rest (a.put o.dst v') w') : wpList P ops Q (o :: rest) a (w.alloc (.cells #[.int .i64 k, .slice ua un uc] e)) := by
  subst hN
  refine append_lawN T hgd s x ho lo hi v n xs hs (hown.imp id (fun h => h.alloc _)) (by rw [World.size_alloc]; omega) w.heap.size 0 1 1 [.int .i64 k, .slice ua un uc] hx rfl ?_ ?_ (by omega) h63 hbytes (fun v' w' h1 h2 => h v' w' h1 ((Ext.alloc v _).trans h2))
  · intro j y hj
    match j, hj with
    | 0, hj => simp at hj; subst hj; simp
    | 1, hj => simp at hj; subst hj; simp
    | j + 2, hj => simp at hj
  · intro y hy
    simp at hy
    rcases hy with rfl | rfl <;> rfl
theorem Blk.ext {W W' : World} {b : Nat} {cs : List Value} {v v' : Value} (h : Blk W b cs) (he : Ext W W' v v') (hne : v.ownBlock ≠ some b) : Blk W' b cs := h.grown he.grown (fun e => hne e.symm)
theorem OwnN.not_low {e size lo hi w v n xs} (h : OwnN e size lo hi w v n xs) {b : Nat} (hb : b < lo) : v.ownBlock ≠ some b := by
  rcases h with ⟨rfl, _⟩ | ⟨g, cp, rfl, h1, _⟩
  · simp [Value.ownBlock]
  · simp [Value.ownBlock]
    omega

end Go.Proofs.YtkofafefnlommaaDoor

/- The model's Meant (written by mk_S12b.py). -/
namespace Go.Proofs.YtkofafefnlommaaDoor
open Go.RowKit

theorem meant_take {t : T} {l : List R} {r : R} {j : Nat} (hj : j < l.length) (e : l.getD j R.zero = r) : meantL t (l.take (j + 1)) = if t.holds r.l = true then meantL t (l.take j) ++ [r] else meantL t (l.take j) := by
  rw [List.take_succ_eq_append_getElem hj, meantL_snoc, ← getDe l R.zero hj, e]

end Go.Proofs.YtkofafefnlommaaDoor
