/- The model's l4Copy, the program's slices.Clone and copyRow (written by mk_S12a.py). -/
import Derived.Test.YtkofafefnlommaaR12
import Derived.Test.YtkofafefnlommaaTake
import Derived.Test.YtkofafefnlommaaS4b
import Derived.Lib.SliceRun
namespace Go.Proofs.Ytkofafefnlommaa
open Go.RowKit

theorem OwnN.atN {e size lo hi w v n xs} (h : OwnN e size lo hi w v n xs) : AtN size w v n xs := h.imp id Own.at
theorem OwnV.atN {lo hi w u} {l : List V} (h : OwnV lo hi w u l) : AtN 3 w u l.length (vals l) := OwnN.atN h
theorem AtN.sl {size w v n xs} (h : AtN size w v n xs) : ∃ a cp, v = .slice a n cp := by
  obtain ⟨a, cp, e, _⟩ := h.rd
  exact ⟨a, cp, e⟩
theorem run_append_atN {P : Program} {t e : TypeId} {z : Value} {size bytes : Nat} (T : ElemT P t e z size bytes) (w : World) (ty : TypeId)
    (lo hi : Nat) (v : Value) (n : Nat) (xs : List Value) (hown : Own e size lo hi w v n xs) (xv : Value) (m : Nat) (news : List Value) (hX : AtN size w xv m news) (h1 : ∀ u ∈ news, u.oneCell' = true)
    (h63 : n + m ≤ maxLen) (hbytes : (n + m) * bytes ≤ 140737488355328) :
    ∃ v' w', (Builtin.append_ #[t, t] ty #[v, xv]).run P w = .ok v' w' ∧ Own e size lo w'.heap.size w' v' (n + m) (xs ++ news) ∧ Ext w w' v v' := by
  rcases hX with ⟨rfl, rfl, rfl⟩ | ⟨b, off, cap, rfl, _, _, hl, hc⟩
  · obtain ⟨i, hi', hz, hs, hb⟩ := T.info
    have hr := run_append_owned_none (P := P) (w := w) lo t ty e i size T.ht hi' v n xs hown.row
    refine ⟨v, w, hr, ?_, Ext.refl _ _⟩
    rw [List.append_nil]
    obtain ⟨g, cp, rfl, h2, h3, h4⟩ := hown
    exact ⟨g, cp, rfl, h2, (h4.lt g rfl).2, h4⟩
  · exact append_block w t ty e z size bytes T lo hi v n xs hown ⟨b, off, none⟩ m cap news hl (fun j u hu => by rw [addr_add]; exact hc j u hu) h1 h63 hbytes
/-- append(s, x...) as one operation: s one's own, x nil or read. -/
theorem appendN_op {P : Program} {t e : TypeId} {z : Value} {size bytes : Nat} (T : ElemT P t e z size bytes) {w : World} {o : Oper} {a : Act} {K : Act → World → Prop} {Q : Exit → Act → World → Prop} (s x : Operand)
    (ho : o.op = .call { callee := .builtin .append, args := #[s, x], argTypes := #[t, t] })
    (lo hi : Nat) (v : Value) (n : Nat) (xs : List Value) (hs : a.eval s = v) (hown : Own e size lo hi w v n xs)
    (xv : Value) (m : Nat) (news : List Value) (hx : a.eval x = xv) (hX : AtN size w xv m news) (h1 : ∀ u ∈ news, u.oneCell' = true)
    (h63 : n + m ≤ maxLen) (hbytes : (n + m) * bytes ≤ 140737488355328)
    (h : ∀ v' w', Own e size lo w'.heap.size w' v' (n + m) (xs ++ news) → Ext w w' v v' → K (a.put o.dst v') w') : Oper.wp P o a w K Q := by
  obtain ⟨v', w', hr, h2, h3⟩ := run_append_atN T w o.type lo hi v n xs hown xv m news hX h1 h63 hbytes
  unfold Oper.wp execOp
  simp only [ho, resolve, invoke, builtin, Sem.run_bind, Sem.run_pure, Result.andThen_ok, List.map_toArray, List.map_cons, List.map_nil, hs, hx, hr]
  exact h v' w' h2 h3
theorem appendN_law {P : Program} {t e : TypeId} {z : Value} {size bytes : Nat} (T : ElemT P t e z size bytes) {w : World} {ops : Array Oper} {rest : List Oper} {o : Oper} {a : Act} {Q : Exit → Act → World → Prop} (hgd : o.guard = none) (s x : Operand)
    (ho : o.op = .call { callee := .builtin .append, args := #[s, x], argTypes := #[t, t] })
    (lo hi : Nat) (v : Value) (n : Nat) (xs : List Value) (hs : a.eval s = v) (hown : Own e size lo hi w v n xs)
    (xv : Value) (m : Nat) (news : List Value) (hx : a.eval x = xv) (hX : AtN size w xv m news) (h1 : ∀ u ∈ news, u.oneCell' = true)
    (h63 : n + m ≤ maxLen) (hbytes : (n + m) * bytes ≤ 140737488355328)
    (h : ∀ v' w', Own e size lo w'.heap.size w' v' (n + m) (xs ++ news) → Ext w w' v v' → wpList P ops Q rest (a.put o.dst v') w') : wpList P ops Q (o :: rest) a w := by
  refine wpList_plain hgd fun K hK => ?_
  obtain ⟨v', w', hr, h2, h3⟩ := run_append_atN T w o.type lo hi v n xs hown xv m news hX h1 h63 hbytes
  unfold Oper.wp execOp
  simp only [ho, resolve, invoke, builtin, Sem.run_bind, Sem.run_pure, Result.andThen_ok, List.map_toArray, List.map_cons, List.map_nil, hs, hx, hr]
  exact hK _ _ (h v' w' h2 h3)
theorem Two.grown {W W' : World} {b : Nat} {x y : Value} {row : Option Nat} (h : Two W b x y) (hg : W.grownBy W' row) (hne : some b ≠ row) : Two W' b x y := by
  have hb := hg.block b (lt_of_cell h.1.1) hne
  exact ⟨⟨(World.cell?_of_block hb).trans h.1.1, (World.cell?_of_block hb).trans h.1.2⟩, (World.frozen?_of_block hb).trans h.2.1, (World.frozen?_of_block hb).trans h.2.2⟩
theorem OwnN.setBelow {e size lo hi w v n xs} (h : OwnN e size lo hi w v n xs) {a : Addr} (ha : a.block < lo) (u : Value) : OwnN e size lo hi (w.setCell a u) v n xs := h.imp id (fun h => h.setBelow ha u)
theorem OwnV.setBelow {lo hi w u} {l : List V} (h : OwnV lo hi w u l) {a : Addr} (ha : a.block < lo) (x : Value) : OwnV lo hi (w.setCell a x) u l := OwnN.setBelow h ha x
theorem valsOne (l : List V) : ∀ u ∈ vals l, u.oneCell' = true := by
  intro u hu
  unfold vals at hu
  obtain ⟨v, _, hv⟩ := List.mem_flatMap.1 hu
  simp only [V.cs, List.mem_cons, List.not_mem_nil, or_false] at hv
  rcases hv with rfl | rfl | rfl <;> rfl

set_option maxRecDepth 100000 in
set_option maxHeartbeats 1000000 in
theorem sL4Copy (r : R) (u : Value) (w : World) (hn : r.l.length ≤ 1048576) (h : AtN 3 w u r.l.length (vals r.l)) :
    Calls Try.prog 49 #[r.agg u] w fun e w' => ∃ v, e = .returned (r.agg v) ∧ OwnV w.heap.size w'.heap.size w' v r.l ∧ Below w.heap.size w w' := by
  have B0 := below_alloc2 w (.cells #[.int .i64 r.id, u] 27) (.cells #[.int .i64 0, .slice none 0 0] 27)
  have T0 := (two_new w (.int .i64 r.id) u 27).below (below_alloc _ (.cells #[.int .i64 0, .slice none 0 0] 27))
  have Z0 := two_new (w.alloc (.cells #[.int .i64 r.id, u] 27)) (.int .i64 0) (.slice none 0 0) 27
  have h0 := h.below B0
  rw [World.size_alloc] at Z0
  have hs0 : ((w.alloc (.cells #[.int .i64 r.id, u] 27)).alloc (.cells #[.int .i64 0, .slice none 0 0] 27)).heap.size = w.heap.size + 2 := by rw [World.size_alloc, World.size_alloc]
  obtain ⟨i, l⟩ := r
  simp only at B0 T0 Z0 h0 hs0 hn
  clear h
  generalize hw0 : (w.alloc (.cells #[.int .i64 i, u] 27)).alloc (.cells #[.int .i64 0, .slice none 0 0] 27) = w0 at B0 T0 Z0 h0 hs0
  have HW0 := Lib.hid hw0
  clear hw0
  generalize hln : l.length = n at h0 hn
  have HLN := Lib.hid hln
  obtain ⟨a, cp, hu⟩ := h0.sl
  subst hu
  have BD := (Below.refl w0.heap.size w0).drew
  have TD := T0.below BD
  have ZD := Z0.below BD
  have hD := h0.below BD
  have BB := below_then B0 BD B0.size
  have hsd : w0.drew.heap.size = w.heap.size + 2 := by simpa using hs0
  obtain ⟨t0, t1⟩ := T0.1
  clear T0 Z0 h0 hln BD B0
  go_enter Try.func49, Try.ntmps49
  go_wp2
  rw [HW0.out]
  refine wp_region_held_drew (S := fun W => W.cell? ⟨w.heap.size, 0, none⟩ = some (.int .i64 i) ∧ W.cell? ⟨w.heap.size, 1, none⟩ = some (.slice a n cp)) (by kernel_rfl) ⟨t0, t1⟩ (fun hH => ?_)
  clear t0 t1
  generalize w0.drew = wd at BB TD ZD hsd hH hD ⊢
  refine takeH (i := 0) (d := some 3) (v := .pointer (some ⟨w.heap.size, 0, none⟩)) rfl rfl (by kernel_rfl) (by kernel_rfl) (by kernel_rfl) (fun _ _ _ h => h) (Or.inl ⟨by rfl, fun W hSw => by obtain ⟨s0, s1⟩ := hSw; go_simp⟩) hH ?_
  try simp only [put_some, List.set_cons_zero, List.set_cons_succ]
  refine takeH (i := 1) (d := some 4) (v := .int .i64 i) rfl rfl (by kernel_rfl) (by kernel_rfl) (by kernel_rfl) (fun _ _ _ h => h) (Or.inl ⟨by rfl, fun W hSw => by obtain ⟨s0, s1⟩ := hSw; go_simp⟩) hH ?_
  try simp only [put_some, List.set_cons_zero, List.set_cons_succ]
  refine takeH (i := 3) (d := some 6) (v := .pointer (some ⟨w.heap.size, 1, none⟩)) rfl rfl (by kernel_rfl) (by kernel_rfl) (by kernel_rfl) (fun _ _ _ h => h) (Or.inl ⟨by rfl, fun W hSw => by obtain ⟨s0, s1⟩ := hSw; go_simp⟩) hH ?_
  try simp only [put_some, List.set_cons_zero, List.set_cons_succ]
  refine takeH (i := 4) (d := some 7) (v := .slice a n cp) rfl rfl (by kernel_rfl) (by kernel_rfl) (by kernel_rfl) (fun _ _ _ h => h) (Or.inl ⟨by rfl, fun W hSw => by obtain ⟨s0, s1⟩ := hSw; go_simp⟩) hH ?_
  try simp only [put_some, List.set_cons_zero, List.set_cons_succ]
  refine wpAnyH_ready (rs := [2]) (by kernel_rfl) (by simp) ?_
  refine AllReadyH.cons rfl (fun K hK => ?_) AllReadyH.nil
  go_simp
  have O1 := own_lit (e := 76) (size := 3) wd #[] 0 (Nat.zero_le _) rfl
  have A1 := below_alloc wd (.cells #[] 76)
  have T1 := TD.below A1
  have Z1 := ZD.below A1
  have D1 := hD.below A1
  have B1 := below_then BB A1 BB.size
  have hs1 : (wd.alloc (.cells #[] 76)).heap.size = w.heap.size + 3 := by rw [World.size_alloc, hsd]
  refine hK.out _ _ T1.1 (fun hH => ?_)
  clear hK K TD ZD hD BB A1
  rw [hsd] at O1
  generalize wd.alloc (.cells #[] 76) = w1 at O1 T1 Z1 D1 B1 hs1 hH ⊢
  try rw [hsd]
  refine wpAnyH_ready (rs := [5]) (by kernel_rfl) (by simp) ?_
  refine AllReadyH.cons rfl (fun K hK => ?_) AllReadyH.nil
  refine appendN_op Try.elemVals (.tmp 5) (.tmp 7) rfl (w.heap.size + 2) w1.heap.size (.slice (some ⟨w.heap.size + 2, 0, none⟩) 0 0) 0 [] rfl (Own.wide (by simpa using O1) (by omega)) (.slice a n cp) n (vals l) rfl D1 (valsOne l) (by unfold maxLen; omega) (by omega) ?_
  intro v2 w2 O2 E2
  rw [Nat.zero_add, List.nil_append] at O2
  have HE2 := Lib.hid E2.grown
  have T2 : Two w2 w.heap.size _ _ := T1.grown E2.grown (by simp [Value.ownBlock])
  have Z2 : Two w2 (w.heap.size + 1) _ _ := Z1.grown E2.grown (by simp [Value.ownBlock])
  have B2 := B1.grown E2.grown B1.size (fun k hk => by simp [Value.ownBlock] at hk; omega)
  have hs2 : w.heap.size + 3 ≤ w2.heap.size := by have := E2.grown.size; omega
  obtain ⟨g2, c2, rfl⟩ : ∃ g c, v2 = .slice (some ⟨g, 0, none⟩) n c := by obtain ⟨g, c, e, _⟩ := O2; exact ⟨g, c, e⟩
  have HO2 := Lib.hid O2
  refine hK.out _ _ T2.1 (fun hH => ?_)
  clear hK K E2 O1 T1 Z1 D1 B1 O2
  refine takeH (i := 6) (d := some 9) (v := .agg #[.int .i64 i, .slice (some ⟨g2, 0, none⟩) n c2]) rfl rfl (by kernel_rfl) (by kernel_rfl) (by kernel_rfl) (fun _ _ _ h => h) (Or.inl ⟨by rfl, fun W hSw => by obtain ⟨s0, s1⟩ := hSw; go_simp⟩) hH ?_
  try simp only [put_some, List.set_cons_zero, List.set_cons_succ]
  refine wpAnyH_ready (rs := [7]) (by kernel_rfl) (by simp) ?_
  refine AllReadyH.cons rfl (fun K hK => ?_) AllReadyH.nil
  obtain ⟨⟨z0, z1⟩, z2, z3⟩ := Z2
  obtain ⟨⟨y0, y1⟩, _⟩ := T2
  go_simp
  refine hK.out _ _ ⟨?_, ?_⟩ (fun hH => ?_)
  · exact (World.cell?_setCell_other _ _ _ _ (fun e => by injection e with e1; omega)).trans ((World.cell?_setCell_other _ _ _ _ (fun e => by injection e with e1; omega)).trans y0)
  · exact (World.cell?_setCell_other _ _ _ _ (fun e => by injection e with e1; omega)).trans ((World.cell?_setCell_other _ _ _ _ (fun e => by injection e with e1; omega)).trans y1)
  clear hK K
  refine wpAnyH_done (by kernel_rfl) ?_ _
  go_wp2
  refine bodyPost_ret (v := .agg #[.int .i64 i, .slice (some ⟨g2, 0, none⟩) n c2]) (by simp [results, Try.results49, go_sem, *]) rfl ⟨_, rfl, ?_, (B2.setCell (by simp) _).setCell (by simp) _⟩
  refine .inr ?_
  show Own _ _ _ _ _ _ l.length _
  rw [HLN.out]
  exact (((HO2.out.setBelow (by simp) _).setBelow (by simp) _).lower (by omega)).wide (by simp)

set_option maxRecDepth 100000 in
set_option maxHeartbeats 1000000 in
theorem iClone (u : Value) (l : List V) (w : World) (hn : l.length ≤ 1048576) (h : AtN 3 w u l.length (vals l)) :
    Calls Try.prog 68 #[u] w fun e w' => ∃ v, e = .returned v ∧ OwnV w.heap.size w'.heap.size w' v l ∧ Below w.heap.size w w' := by
  generalize hln : l.length = n at h hn
  have HLN := Lib.hid hln
  clear hln
  rcases h with ⟨rfl, rfl, hnil⟩ | h
  · have HNV := Lib.hid hnil
    have hnl : ∀ W, (binOp .eql 25 (.slice none 0 0) (.slice none 0 0)).run Try.prog W = .ok (.bool true) W := fun W => Lib.run_eql_slice_nil W _ 76 none 0 0 0 0 Try.underlying25
    clear hnil
    go_enter Try.func68, Try.ntmps68
    go_wp2
    go_ret
    exact ⟨_, rfl, .inl ⟨rfl, HLN.out, HNV.out⟩, Below.refl _ _⟩
  · have hN : AtN 3 w u n (vals l) := .inr h
    obtain ⟨b, off, cap, rfl, _, _, _, _⟩ := id h
    clear h
    have O1 := own_lit (e := 76) (size := 3) w #[] 0 (Nat.zero_le _) rfl
    have A1 := below_alloc w (.cells #[] 76)
    have D1 := hN.below A1
    clear hN
    generalize hw1 : w.alloc (.cells #[] 76) = w1 at O1 A1 D1
    have HW1 := Lib.hid hw1
    have hs1 : w1.heap.size = w.heap.size + 1 := by rw [← hw1, World.size_alloc]
    clear hw1
    have hnl : ∀ W, (binOp .eql 25 (.slice (some ⟨b, off, none⟩) n cap) (.slice none 0 0)).run Try.prog W = .ok (.bool false) W := fun W => Lib.run_eql_slice_nil W _ 76 (some ⟨b, off, none⟩) n cap 0 0 Try.underlying25
    go_enter Try.func68, Try.ntmps68
    go_wp2_with (at_builtin; rw [HW1.out]; refine appendN_law Try.elemVals rfl _ _ rfl w.heap.size w1.heap.size (.slice (some ⟨w.heap.size, 0, none⟩) 0 0) 0 [] rfl (Own.wide (by simpa using O1) (by omega)) (.slice (some ⟨b, off, none⟩) n cap) n (vals l) rfl D1 (valsOne l) (by unfold maxLen; omega) (by omega) ?_)
    intro v2 w2 O2 E2
    try rw [Nat.zero_add] at O2
    try rw [List.nil_append] at O2
    have B2 := A1.grown E2.grown A1.size (fun k hk => by simp [Value.ownBlock] at hk; omega)
    obtain ⟨g2, c2, rfl⟩ : ∃ g c, v2 = .slice (some ⟨g, 0, none⟩) n c := by obtain ⟨g, c, e, _⟩ := O2; exact ⟨g, c, e⟩
    have HO2 := Lib.hid O2
    clear O2 E2 O1 D1 A1
    go_wp2
    go_ret
    exact ⟨_, rfl, .inr (by show Own _ _ _ _ _ _ l.length _; rw [HLN.out]; exact HO2.out), B2⟩

set_option maxRecDepth 100000 in
set_option maxHeartbeats 1000000 in
theorem iCopyRow (r : R) (u : Value) (w : World) (hn : r.l.length ≤ 1048576) (h : AtN 3 w u r.l.length (vals r.l)) :
    Calls Try.prog 47 #[r.agg u] w fun e w' => ∃ v, e = .returned (r.agg v) ∧ OwnV w.heap.size w'.heap.size w' v r.l ∧ Below w.heap.size w w' := by
  have B0 := below_alloc2 w (.cells #[.int .i64 r.id, u] 27) (.cells #[.int .i64 0, .slice none 0 0] 27)
  have T0 := (two_new w (.int .i64 r.id) u 27).below (below_alloc _ (.cells #[.int .i64 0, .slice none 0 0] 27))
  have Z0 := two_new (w.alloc (.cells #[.int .i64 r.id, u] 27)) (.int .i64 0) (.slice none 0 0) 27
  have h0 := h.below B0
  rw [World.size_alloc] at Z0
  have hs0 : ((w.alloc (.cells #[.int .i64 r.id, u] 27)).alloc (.cells #[.int .i64 0, .slice none 0 0] 27)).heap.size = w.heap.size + 2 := by rw [World.size_alloc, World.size_alloc]
  obtain ⟨i, l⟩ := r
  simp only at B0 T0 Z0 h0 hs0 hn
  clear h
  generalize hw0 : (w.alloc (.cells #[.int .i64 i, u] 27)).alloc (.cells #[.int .i64 0, .slice none 0 0] 27) = w0 at B0 T0 Z0 h0 hs0
  have HW0 := Lib.hid hw0
  clear hw0
  have BD := (Below.refl w0.heap.size w0).drew
  have TD := T0.below BD
  have ZD := Z0.below BD
  have HC := Lib.hid (iClone u l w0.drew hn (h0.below BD))
  have BB := below_then B0 BD B0.size
  have hsd : w0.drew.heap.size = w.heap.size + 2 := by simpa using hs0
  obtain ⟨a, cp, hu⟩ := h0.sl
  generalize l.length = n at hu hn
  subst hu
  obtain ⟨t0, t1⟩ := T0.1
  clear T0 Z0 h0 BD B0
  go_enter Try.func47, Try.ntmps47
  go_wp2
  rw [HW0.out]
  refine wp_region_held_drew (S := fun W => W.cell? ⟨w.heap.size, 0, none⟩ = some (.int .i64 i) ∧ W.cell? ⟨w.heap.size, 1, none⟩ = some (.slice a n cp)) (by kernel_rfl) ⟨t0, t1⟩ (fun hH => ?_)
  clear t0 t1
  generalize w0.drew = wd at BB TD ZD hsd hH HC ⊢
  refine takeH (i := 0) (d := some 3) (v := .pointer (some ⟨w.heap.size, 0, none⟩)) rfl rfl (by kernel_rfl) (by kernel_rfl) (by kernel_rfl) (fun _ _ _ h => h) (Or.inl ⟨by rfl, fun W hSw => by obtain ⟨s0, s1⟩ := hSw; go_simp⟩) hH ?_
  try simp only [put_some, List.set_cons_zero, List.set_cons_succ]
  refine takeH (i := 1) (d := some 4) (v := .int .i64 i) rfl rfl (by kernel_rfl) (by kernel_rfl) (by kernel_rfl) (fun _ _ _ h => h) (Or.inl ⟨by rfl, fun W hSw => by obtain ⟨s0, s1⟩ := hSw; go_simp⟩) hH ?_
  try simp only [put_some, List.set_cons_zero, List.set_cons_succ]
  refine takeH (i := 2) (d := some 5) (v := .pointer (some ⟨w.heap.size, 1, none⟩)) rfl rfl (by kernel_rfl) (by kernel_rfl) (by kernel_rfl) (fun _ _ _ h => h) (Or.inl ⟨by rfl, fun W hSw => by obtain ⟨s0, s1⟩ := hSw; go_simp⟩) hH ?_
  try simp only [put_some, List.set_cons_zero, List.set_cons_succ]
  refine takeH (i := 3) (d := some 6) (v := .slice a n cp) rfl rfl (by kernel_rfl) (by kernel_rfl) (by kernel_rfl) (fun _ _ _ h => h) (Or.inl ⟨by rfl, fun W hSw => by obtain ⟨s0, s1⟩ := hSw; go_simp⟩) hH ?_
  try simp only [put_some, List.set_cons_zero, List.set_cons_succ]
  refine wpAnyH_ready (rs := [4]) (by kernel_rfl) (by simp) ?_
  refine AllReadyH.cons rfl (fun K hK => ?_) AllReadyH.nil
  go_simp
  go_at_call 68
  refine HC.out.mono ?_
  rintro e w2 ⟨v2, rfl, O2, b2⟩
  have T2 := TD.below b2
  have Z2 := ZD.below b2
  have B2 := below_then BB b2 BB.size
  have hs2 : w.heap.size + 2 ≤ w2.heap.size := by have := b2.size; omega
  rw [hsd] at O2
  obtain ⟨a2, c2, rfl⟩ := O2.atN.sl
  have HO2 := Lib.hid O2
  clear O2 TD ZD b2 HC
  go_wp2_with fail
  refine hK.out _ _ T2.1 (fun hH => ?_)
  clear hK K
  refine takeH (i := 5) (d := some 8) (v := .agg #[.int .i64 i, .slice a2 l.length c2]) rfl rfl (by kernel_rfl) (by kernel_rfl) (by kernel_rfl) (fun _ _ _ h => h) (Or.inl ⟨by rfl, fun W hSw => by obtain ⟨s0, s1⟩ := hSw; go_simp⟩) hH ?_
  try simp only [put_some, List.set_cons_zero, List.set_cons_succ]
  refine wpAnyH_ready (rs := [6]) (by kernel_rfl) (by simp) ?_
  refine AllReadyH.cons rfl (fun K hK => ?_) AllReadyH.nil
  obtain ⟨⟨z0, z1⟩, z2, z3⟩ := Z2
  obtain ⟨⟨y0, y1⟩, _⟩ := T2
  go_simp
  refine hK.out _ _ ⟨?_, ?_⟩ (fun hH => ?_)
  · exact (World.cell?_setCell_other _ _ _ _ (fun e => by injection e with e1; omega)).trans ((World.cell?_setCell_other _ _ _ _ (fun e => by injection e with e1; omega)).trans y0)
  · exact (World.cell?_setCell_other _ _ _ _ (fun e => by injection e with e1; omega)).trans ((World.cell?_setCell_other _ _ _ _ (fun e => by injection e with e1; omega)).trans y1)
  clear hK K
  refine wpAnyH_done (by kernel_rfl) ?_ _
  go_wp2
  refine bodyPost_ret (v := .agg #[.int .i64 i, .slice a2 l.length c2]) (by simp [results, Try.results47, go_sem, *]) rfl ⟨_, rfl, ?_, (B2.setCell (by simp) _).setCell (by simp) _⟩
  exact ((HO2.out.setBelow (by simp) _).setBelow (by simp) _).wide (by omega) (by simp)

end Go.Proofs.Ytkofafefnlommaa
