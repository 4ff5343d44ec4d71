/- Texts of this claim, one behind the other: S12a, RowsA, C13, Law13, Law13f, S13, I13, I13f, RowsJ, C13p, Law13p, S12j. -/
import Derived.Test.YtkofafefnlommaaP15
import Derived.Test.YtkofafefnlommaaP5
import Derived.Test.YtkofafefnlommaaP12
import Derived.Lib.SliceRun
import Derived.Test.YtkofafefnlommaaP3
import Derived.Test.YtkofafefnlommaaP13

/- The model's l4Copy, the program's slices.Clone and copyRow (written by mk_S12a.py). -/
namespace Go.Proofs.Ytkofafefnlommaa
open Go.RowKit

theorem OwnN.atN {e size lo hi w v n xs} (h : OwnN e size lo hi w v n xs) : AtN size w v n xs := h.imp id Own.at
theorem OwnV.atN {lo hi w u} {l : List V} (h : OwnV lo hi w u l) : AtN 3 w u l.length (vals l) := OwnN.atN h
theorem AtN.sl {size w v n xs} (h : AtN size w v n xs) : ∃ a cp, v = .slice a n cp := by
  obtain ⟨a, cp, e, _⟩ := h.rd
  exact ⟨a, cp, e⟩
theorem run_append_atN {P : Program} {t e : TypeId} {z : Value} {size bytes : Nat} (T : ElemT P t e z size bytes) (w : World) (ty : TypeId)
    (lo hi : Nat) (v : Value) (n : Nat) (xs : List Value) (hown : Own e size lo hi w v n xs) (xv : Value) (m : Nat) (news : List Value) (hX : AtN size w xv m news) (h1 : ∀ u ∈ news, u.oneCell' = true)
    (h63 : n + m ≤ maxLen) (hbytes : (n + m) * bytes ≤ 140737488355328) :
    ∃ v' w', (Builtin.append_ #[t, t] ty #[v, xv]).run P w = .ok v' w' ∧ Own e size lo w'.heap.size w' v' (n + m) (xs ++ news) ∧ Ext w w' v v' := by
  rcases hX with ⟨rfl, rfl, rfl⟩ | ⟨b, off, cap, rfl, _, _, hl, hc⟩
  · obtain ⟨i, hi', hz, hs, hb⟩ := T.info
    have hr := run_append_owned_none (P := P) (w := w) lo t ty e i size T.ht hi' v n xs hown.row
    refine ⟨v, w, hr, ?_, Ext.refl _ _⟩
    rw [List.append_nil]
    obtain ⟨g, cp, rfl, h2, h3, h4⟩ := hown
    exact ⟨g, cp, rfl, h2, (h4.lt g rfl).2, h4⟩
  · exact append_block w t ty e z size bytes T lo hi v n xs hown ⟨b, off, none⟩ m cap news hl (fun j u hu => by rw [addr_add]; exact hc j u hu) h1 h63 hbytes
/-- append(s, x...) as one operation: s one's own, x nil or read. -/
theorem appendN_op {P : Program} {t e : TypeId} {z : Value} {size bytes : Nat} (T : ElemT P t e z size bytes) {w : World} {o : Oper} {a : Act} {K : Act → World → Prop} {Q : Exit → Act → World → Prop} (s x : Operand)
    (ho : o.op = .call { callee := .builtin .append, args := #[s, x], argTypes := #[t, t] })
    (lo hi : Nat) (v : Value) (n : Nat) (xs : List Value) (hs : a.eval s = v) (hown : Own e size lo hi w v n xs)
    (xv : Value) (m : Nat) (news : List Value) (hx : a.eval x = xv) (hX : AtN size w xv m news) (h1 : ∀ u ∈ news, u.oneCell' = true)
    (h63 : n + m ≤ maxLen) (hbytes : (n + m) * bytes ≤ 140737488355328)
    (h : ∀ v' w', Own e size lo w'.heap.size w' v' (n + m) (xs ++ news) → Ext w w' v v' → K (a.put o.dst v') w') : Oper.wp P o a w K Q := by
  obtain ⟨v', w', hr, h2, h3⟩ := run_append_atN T w o.type lo hi v n xs hown xv m news hX h1 h63 hbytes
  unfold Oper.wp execOp
  simp only [ho, resolve, invoke, builtin, Sem.run_bind, Sem.run_pure, Result.andThen_ok, List.map_toArray, List.map_cons, List.map_nil, hs, hx, hr]
  exact h v' w' h2 h3
theorem appendN_law {P : Program} {t e : TypeId} {z : Value} {size bytes : Nat} (T : ElemT P t e z size bytes) {w : World} {ops : Array Oper} {rest : List Oper} {o : Oper} {a : Act} {Q : Exit → Act → World → Prop} (hgd : o.guard = none) (s x : Operand)
    (ho : o.op = .call { callee := .builtin .append, args := #[s, x], argTypes := #[t, t] })
    (lo hi : Nat) (v : Value) (n : Nat) (xs : List Value) (hs : a.eval s = v) (hown : Own e size lo hi w v n xs)
    (xv : Value) (m : Nat) (news : List Value) (hx : a.eval x = xv) (hX : AtN size w xv m news) (h1 : ∀ u ∈ news, u.oneCell' = true)
    (h63 : n + m ≤ maxLen) (hbytes : (n + m) * bytes ≤ 140737488355328)
    (h : ∀ v' w', Own e size lo w'.heap.size w' v' (n + m) (xs ++ news) → Ext w w' v v' → wpList P ops Q rest (a.put o.dst v') w') : wpList P ops Q (o :: rest) a w := by
  refine wpList_plain hgd fun K hK => ?_
  obtain ⟨v', w', hr, h2, h3⟩ := run_append_atN T w o.type lo hi v n xs hown xv m news hX h1 h63 hbytes
  unfold Oper.wp execOp
  simp only [ho, resolve, invoke, builtin, Sem.run_bind, Sem.run_pure, Result.andThen_ok, List.map_toArray, List.map_cons, List.map_nil, hs, hx, hr]
  exact hK _ _ (h v' w' h2 h3)
theorem Two.grown {W W' : World} {b : Nat} {x y : Value} {row : Option Nat} (h : Two W b x y) (hg : W.grownBy W' row) (hne : some b ≠ row) : Two W' b x y := by
  have hb := hg.block b (lt_of_cell h.1.1) hne
  exact ⟨⟨(World.cell?_of_block hb).trans h.1.1, (World.cell?_of_block hb).trans h.1.2⟩, (World.frozen?_of_block hb).trans h.2.1, (World.frozen?_of_block hb).trans h.2.2⟩
theorem OwnN.setBelow {e size lo hi w v n xs} (h : OwnN e size lo hi w v n xs) {a : Addr} (ha : a.block < lo) (u : Value) : OwnN e size lo hi (w.setCell a u) v n xs := h.imp id (fun h => h.setBelow ha u)
theorem OwnV.setBelow {lo hi w u} {l : List V} (h : OwnV lo hi w u l) {a : Addr} (ha : a.block < lo) (x : Value) : OwnV lo hi (w.setCell a x) u l := OwnN.setBelow h ha x
theorem valsOne (l : List V) : ∀ u ∈ vals l, u.oneCell' = true := by
  intro u hu
  unfold vals at hu
  obtain ⟨v, _, hv⟩ := List.mem_flatMap.1 hu
  simp only [V.cs, List.mem_cons, List.not_mem_nil, or_false] at hv
  rcases hv with rfl | rfl | rfl <;> rfl

set_option maxRecDepth 100000 in
set_option maxHeartbeats 1000000 in
theorem sL4Copy (r : R) (u : Value) (w : World) (hn : r.l.length ≤ 1048576) (h : AtN 3 w u r.l.length (vals r.l)) :
    Calls Try.prog 49 #[r.agg u] w fun e w' => ∃ v, e = .returned (r.agg v) ∧ OwnV w.heap.size w'.heap.size w' v r.l ∧ Below w.heap.size w w' := by
  have B0 := below_alloc2 w (.cells #[.int .i64 r.id, u] 27) (.cells #[.int .i64 0, .slice none 0 0] 27)
  have T0 := (two_new w (.int .i64 r.id) u 27).below (below_alloc _ (.cells #[.int .i64 0, .slice none 0 0] 27))
  have Z0 := two_new (w.alloc (.cells #[.int .i64 r.id, u] 27)) (.int .i64 0) (.slice none 0 0) 27
  have h0 := h.below B0
  rw [World.size_alloc] at Z0
  have hs0 : ((w.alloc (.cells #[.int .i64 r.id, u] 27)).alloc (.cells #[.int .i64 0, .slice none 0 0] 27)).heap.size = w.heap.size + 2 := by rw [World.size_alloc, World.size_alloc]
  obtain ⟨i, l⟩ := r
  simp only at B0 T0 Z0 h0 hs0 hn
  clear h
  generalize hw0 : (w.alloc (.cells #[.int .i64 i, u] 27)).alloc (.cells #[.int .i64 0, .slice none 0 0] 27) = w0 at B0 T0 Z0 h0 hs0
  have HW0 := Lib.hid hw0
  clear hw0
  generalize hln : l.length = n at h0 hn
  have HLN := Lib.hid hln
  obtain ⟨a, cp, hu⟩ := h0.sl
  subst hu
  have BD := (Below.refl w0.heap.size w0).drew
  have TD := T0.below BD
  have ZD := Z0.below BD
  have hD := h0.below BD
  have BB := below_then B0 BD B0.size
  have hsd : w0.drew.heap.size = w.heap.size + 2 := by simpa using hs0
  obtain ⟨t0, t1⟩ := T0.1
  clear T0 Z0 h0 hln BD B0
  go_enter Try.func49, Try.ntmps49
  go_wp2
  rw [HW0.out]
  refine wp_region_held_drew (S := fun W => W.cell? ⟨w.heap.size, 0, none⟩ = some (.int .i64 i) ∧ W.cell? ⟨w.heap.size, 1, none⟩ = some (.slice a n cp)) (by kernel_rfl) ⟨t0, t1⟩ (fun hH => ?_)
  clear t0 t1
  generalize w0.drew = wd at BB TD ZD hsd hH hD ⊢
  refine takeH (i := 0) (d := some 3) (v := .pointer (some ⟨w.heap.size, 0, none⟩)) rfl rfl (by kernel_rfl) (by kernel_rfl) (by kernel_rfl) (fun _ _ _ h => h) (Or.inl ⟨by rfl, fun W hSw => by obtain ⟨s0, s1⟩ := hSw; go_simp⟩) hH ?_
  try simp only [put_some, List.set_cons_zero, List.set_cons_succ]
  refine takeH (i := 1) (d := some 4) (v := .int .i64 i) rfl rfl (by kernel_rfl) (by kernel_rfl) (by kernel_rfl) (fun _ _ _ h => h) (Or.inl ⟨by rfl, fun W hSw => by obtain ⟨s0, s1⟩ := hSw; go_simp⟩) hH ?_
  try simp only [put_some, List.set_cons_zero, List.set_cons_succ]
  refine takeH (i := 3) (d := some 6) (v := .pointer (some ⟨w.heap.size, 1, none⟩)) rfl rfl (by kernel_rfl) (by kernel_rfl) (by kernel_rfl) (fun _ _ _ h => h) (Or.inl ⟨by rfl, fun W hSw => by obtain ⟨s0, s1⟩ := hSw; go_simp⟩) hH ?_
  try simp only [put_some, List.set_cons_zero, List.set_cons_succ]
  refine takeH (i := 4) (d := some 7) (v := .slice a n cp) rfl rfl (by kernel_rfl) (by kernel_rfl) (by kernel_rfl) (fun _ _ _ h => h) (Or.inl ⟨by rfl, fun W hSw => by obtain ⟨s0, s1⟩ := hSw; go_simp⟩) hH ?_
  try simp only [put_some, List.set_cons_zero, List.set_cons_succ]
  refine wpAnyH_ready (rs := [2]) (by kernel_rfl) (by simp) ?_
  refine AllReadyH.cons rfl (fun K hK => ?_) AllReadyH.nil
  go_simp
  have O1 := own_lit (e := 76) (size := 3) wd #[] 0 (Nat.zero_le _) rfl
  have A1 := below_alloc wd (.cells #[] 76)
  have T1 := TD.below A1
  have Z1 := ZD.below A1
  have D1 := hD.below A1
  have B1 := below_then BB A1 BB.size
  have hs1 : (wd.alloc (.cells #[] 76)).heap.size = w.heap.size + 3 := by rw [World.size_alloc, hsd]
  refine hK.out _ _ T1.1 (fun hH => ?_)
  clear hK K TD ZD hD BB A1
  rw [hsd] at O1
  generalize wd.alloc (.cells #[] 76) = w1 at O1 T1 Z1 D1 B1 hs1 hH ⊢
  try rw [hsd]
  refine wpAnyH_ready (rs := [5]) (by kernel_rfl) (by simp) ?_
  refine AllReadyH.cons rfl (fun K hK => ?_) AllReadyH.nil
  refine appendN_op Try.elemVals (.tmp 5) (.tmp 7) rfl (w.heap.size + 2) w1.heap.size (.slice (some ⟨w.heap.size + 2, 0, none⟩) 0 0) 0 [] rfl (Own.wide (by simpa using O1) (by omega)) (.slice a n cp) n (vals l) rfl D1 (valsOne l) (by unfold maxLen; omega) (by omega) ?_
  intro v2 w2 O2 E2
  rw [Nat.zero_add, List.nil_append] at O2
  have HE2 := Lib.hid E2.grown
  have T2 : Two w2 w.heap.size _ _ := T1.grown E2.grown (by simp [Value.ownBlock])
  have Z2 : Two w2 (w.heap.size + 1) _ _ := Z1.grown E2.grown (by simp [Value.ownBlock])
  have B2 := B1.grown E2.grown B1.size (fun k hk => by simp [Value.ownBlock] at hk; omega)
  have hs2 : w.heap.size + 3 ≤ w2.heap.size := by have := E2.grown.size; omega
  obtain ⟨g2, c2, rfl⟩ : ∃ g c, v2 = .slice (some ⟨g, 0, none⟩) n c := by obtain ⟨g, c, e, _⟩ := O2; exact ⟨g, c, e⟩
  have HO2 := Lib.hid O2
  refine hK.out _ _ T2.1 (fun hH => ?_)
  clear hK K E2 O1 T1 Z1 D1 B1 O2
  refine takeH (i := 6) (d := some 9) (v := .agg #[.int .i64 i, .slice (some ⟨g2, 0, none⟩) n c2]) rfl rfl (by kernel_rfl) (by kernel_rfl) (by kernel_rfl) (fun _ _ _ h => h) (Or.inl ⟨by rfl, fun W hSw => by obtain ⟨s0, s1⟩ := hSw; go_simp⟩) hH ?_
  try simp only [put_some, List.set_cons_zero, List.set_cons_succ]
  refine wpAnyH_ready (rs := [7]) (by kernel_rfl) (by simp) ?_
  refine AllReadyH.cons rfl (fun K hK => ?_) AllReadyH.nil
  obtain ⟨⟨z0, z1⟩, z2, z3⟩ := Z2
  obtain ⟨⟨y0, y1⟩, _⟩ := T2
  go_simp
  refine hK.out _ _ ⟨?_, ?_⟩ (fun hH => ?_)
  · exact (World.cell?_setCell_other _ _ _ _ (fun e => by injection e with e1; omega)).trans ((World.cell?_setCell_other _ _ _ _ (fun e => by injection e with e1; omega)).trans y0)
  · exact (World.cell?_setCell_other _ _ _ _ (fun e => by injection e with e1; omega)).trans ((World.cell?_setCell_other _ _ _ _ (fun e => by injection e with e1; omega)).trans y1)
  clear hK K
  refine wpAnyH_done (by kernel_rfl) ?_ _
  go_wp2
  refine bodyPost_ret (v := .agg #[.int .i64 i, .slice (some ⟨g2, 0, none⟩) n c2]) (by simp [results, Try.results49, go_sem, *]) rfl ⟨_, rfl, ?_, (B2.setCell (by simp) _).setCell (by simp) _⟩
  refine .inr ?_
  show Own _ _ _ _ _ _ l.length _
  rw [HLN.out]
  exact (((HO2.out.setBelow (by simp) _).setBelow (by simp) _).lower (by omega)).wide (by simp)

set_option maxRecDepth 100000 in
set_option maxHeartbeats 1000000 in
theorem iClone (u : Value) (l : List V) (w : World) (hn : l.length ≤ 1048576) (h : AtN 3 w u l.length (vals l)) :
    Calls Try.prog 68 #[u] w fun e w' => ∃ v, e = .returned v ∧ OwnV w.heap.size w'.heap.size w' v l ∧ Below w.heap.size w w' := by
  generalize hln : l.length = n at h hn
  have HLN := Lib.hid hln
  clear hln
  rcases h with ⟨rfl, rfl, hnil⟩ | h
  · have HNV := Lib.hid hnil
    have hnl : ∀ W, (binOp .eql 25 (.slice none 0 0) (.slice none 0 0)).run Try.prog W = .ok (.bool true) W := fun W => Lib.run_eql_slice_nil W _ 76 none 0 0 0 0 Try.underlying25
    clear hnil
    go_enter Try.func68, Try.ntmps68
    go_wp2
    go_ret
    exact ⟨_, rfl, .inl ⟨rfl, HLN.out, HNV.out⟩, Below.refl _ _⟩
  · have hN : AtN 3 w u n (vals l) := .inr h
    obtain ⟨b, off, cap, rfl, _, _, _, _⟩ := id h
    clear h
    have O1 := own_lit (e := 76) (size := 3) w #[] 0 (Nat.zero_le _) rfl
    have A1 := below_alloc w (.cells #[] 76)
    have D1 := hN.below A1
    clear hN
    generalize hw1 : w.alloc (.cells #[] 76) = w1 at O1 A1 D1
    have HW1 := Lib.hid hw1
    have hs1 : w1.heap.size = w.heap.size + 1 := by rw [← hw1, World.size_alloc]
    clear hw1
    have hnl : ∀ W, (binOp .eql 25 (.slice (some ⟨b, off, none⟩) n cap) (.slice none 0 0)).run Try.prog W = .ok (.bool false) W := fun W => Lib.run_eql_slice_nil W _ 76 (some ⟨b, off, none⟩) n cap 0 0 Try.underlying25
    go_enter Try.func68, Try.ntmps68
    go_wp2_with (at_builtin; rw [HW1.out]; refine appendN_law Try.elemVals rfl _ _ rfl w.heap.size w1.heap.size (.slice (some ⟨w.heap.size, 0, none⟩) 0 0) 0 [] rfl (Own.wide (by simpa using O1) (by omega)) (.slice (some ⟨b, off, none⟩) n cap) n (vals l) rfl D1 (valsOne l) (by unfold maxLen; omega) (by omega) ?_)
    intro v2 w2 O2 E2
    try rw [Nat.zero_add] at O2
    try rw [List.nil_append] at O2
    have B2 := A1.grown E2.grown A1.size (fun k hk => by simp [Value.ownBlock] at hk; omega)
    obtain ⟨g2, c2, rfl⟩ : ∃ g c, v2 = .slice (some ⟨g, 0, none⟩) n c := by obtain ⟨g, c, e, _⟩ := O2; exact ⟨g, c, e⟩
    have HO2 := Lib.hid O2
    clear O2 E2 O1 D1 A1
    go_wp2
    go_ret
    exact ⟨_, rfl, .inr (by show Own _ _ _ _ _ _ l.length _; rw [HLN.out]; exact HO2.out), B2⟩

set_option maxRecDepth 100000 in
set_option maxHeartbeats 1000000 in
theorem iCopyRow (r : R) (u : Value) (w : World) (hn : r.l.length ≤ 1048576) (h : AtN 3 w u r.l.length (vals r.l)) :
    Calls Try.prog 47 #[r.agg u] w fun e w' => ∃ v, e = .returned (r.agg v) ∧ OwnV w.heap.size w'.heap.size w' v r.l ∧ Below w.heap.size w w' := by
  have B0 := below_alloc2 w (.cells #[.int .i64 r.id, u] 27) (.cells #[.int .i64 0, .slice none 0 0] 27)
  have T0 := (two_new w (.int .i64 r.id) u 27).below (below_alloc _ (.cells #[.int .i64 0, .slice none 0 0] 27))
  have Z0 := two_new (w.alloc (.cells #[.int .i64 r.id, u] 27)) (.int .i64 0) (.slice none 0 0) 27
  have h0 := h.below B0
  rw [World.size_alloc] at Z0
  have hs0 : ((w.alloc (.cells #[.int .i64 r.id, u] 27)).alloc (.cells #[.int .i64 0, .slice none 0 0] 27)).heap.size = w.heap.size + 2 := by rw [World.size_alloc, World.size_alloc]
  obtain ⟨i, l⟩ := r
  simp only at B0 T0 Z0 h0 hs0 hn
  clear h
  generalize hw0 : (w.alloc (.cells #[.int .i64 i, u] 27)).alloc (.cells #[.int .i64 0, .slice none 0 0] 27) = w0 at B0 T0 Z0 h0 hs0
  have HW0 := Lib.hid hw0
  clear hw0
  have BD := (Below.refl w0.heap.size w0).drew
  have TD := T0.below BD
  have ZD := Z0.below BD
  have HC := Lib.hid (iClone u l w0.drew hn (h0.below BD))
  have BB := below_then B0 BD B0.size
  have hsd : w0.drew.heap.size = w.heap.size + 2 := by simpa using hs0
  obtain ⟨a, cp, hu⟩ := h0.sl
  generalize l.length = n at hu hn
  subst hu
  obtain ⟨t0, t1⟩ := T0.1
  clear T0 Z0 h0 BD B0
  go_enter Try.func47, Try.ntmps47
  go_wp2
  rw [HW0.out]
  refine wp_region_held_drew (S := fun W => W.cell? ⟨w.heap.size, 0, none⟩ = some (.int .i64 i) ∧ W.cell? ⟨w.heap.size, 1, none⟩ = some (.slice a n cp)) (by kernel_rfl) ⟨t0, t1⟩ (fun hH => ?_)
  clear t0 t1
  generalize w0.drew = wd at BB TD ZD hsd hH HC ⊢
  refine takeH (i := 0) (d := some 3) (v := .pointer (some ⟨w.heap.size, 0, none⟩)) rfl rfl (by kernel_rfl) (by kernel_rfl) (by kernel_rfl) (fun _ _ _ h => h) (Or.inl ⟨by rfl, fun W hSw => by obtain ⟨s0, s1⟩ := hSw; go_simp⟩) hH ?_
  try simp only [put_some, List.set_cons_zero, List.set_cons_succ]
  refine takeH (i := 1) (d := some 4) (v := .int .i64 i) rfl rfl (by kernel_rfl) (by kernel_rfl) (by kernel_rfl) (fun _ _ _ h => h) (Or.inl ⟨by rfl, fun W hSw => by obtain ⟨s0, s1⟩ := hSw; go_simp⟩) hH ?_
  try simp only [put_some, List.set_cons_zero, List.set_cons_succ]
  refine takeH (i := 2) (d := some 5) (v := .pointer (some ⟨w.heap.size, 1, none⟩)) rfl rfl (by kernel_rfl) (by kernel_rfl) (by kernel_rfl) (fun _ _ _ h => h) (Or.inl ⟨by rfl, fun W hSw => by obtain ⟨s0, s1⟩ := hSw; go_simp⟩) hH ?_
  try simp only [put_some, List.set_cons_zero, List.set_cons_succ]
  refine takeH (i := 3) (d := some 6) (v := .slice a n cp) rfl rfl (by kernel_rfl) (by kernel_rfl) (by kernel_rfl) (fun _ _ _ h => h) (Or.inl ⟨by rfl, fun W hSw => by obtain ⟨s0, s1⟩ := hSw; go_simp⟩) hH ?_
  try simp only [put_some, List.set_cons_zero, List.set_cons_succ]
  refine wpAnyH_ready (rs := [4]) (by kernel_rfl) (by simp) ?_
  refine AllReadyH.cons rfl (fun K hK => ?_) AllReadyH.nil
  go_simp
  go_at_call 68
  refine HC.out.mono ?_
  rintro e w2 ⟨v2, rfl, O2, b2⟩
  have T2 := TD.below b2
  have Z2 := ZD.below b2
  have B2 := below_then BB b2 BB.size
  have hs2 : w.heap.size + 2 ≤ w2.heap.size := by have := b2.size; omega
  rw [hsd] at O2
  obtain ⟨a2, c2, rfl⟩ := O2.atN.sl
  have HO2 := Lib.hid O2
  clear O2 TD ZD b2 HC
  go_wp2_with fail
  refine hK.out _ _ T2.1 (fun hH => ?_)
  clear hK K
  refine takeH (i := 5) (d := some 8) (v := .agg #[.int .i64 i, .slice a2 l.length c2]) rfl rfl (by kernel_rfl) (by kernel_rfl) (by kernel_rfl) (fun _ _ _ h => h) (Or.inl ⟨by rfl, fun W hSw => by obtain ⟨s0, s1⟩ := hSw; go_simp⟩) hH ?_
  try simp only [put_some, List.set_cons_zero, List.set_cons_succ]
  refine wpAnyH_ready (rs := [6]) (by kernel_rfl) (by simp) ?_
  refine AllReadyH.cons rfl (fun K hK => ?_) AllReadyH.nil
  obtain ⟨⟨z0, z1⟩, z2, z3⟩ := Z2
  obtain ⟨⟨y0, y1⟩, _⟩ := T2
  go_simp
  refine hK.out _ _ ⟨?_, ?_⟩ (fun hH => ?_)
  · exact (World.cell?_setCell_other _ _ _ _ (fun e => by injection e with e1; omega)).trans ((World.cell?_setCell_other _ _ _ _ (fun e => by injection e with e1; omega)).trans y0)
  · exact (World.cell?_setCell_other _ _ _ _ (fun e => by injection e with e1; omega)).trans ((World.cell?_setCell_other _ _ _ _ (fun e => by injection e with e1; omega)).trans y1)
  clear hK K
  refine wpAnyH_done (by kernel_rfl) ?_ _
  go_wp2
  refine bodyPost_ret (v := .agg #[.int .i64 i, .slice a2 l.length c2]) (by simp [results, Try.results47, go_sem, *]) rfl ⟨_, rfl, ?_, (B2.setCell (by simp) _).setCell (by simp) _⟩
  exact ((HO2.out.setBelow (by simp) _).setBelow (by simp) _).wide (by omega) (by simp)

end Go.Proofs.Ytkofafefnlommaa

/- Slices of Rows whose values are nil or read; append of a Row. -/
namespace Go.Proofs.Ytkofafefnlommaa
open Go.RowKit

/-- v is a slice of Rows whose values are nil or read. -/
def RdRsN (w : World) (v : Value) (ps : List P) : Prop := Rd 2 w v ps.length (prs ps) ∧ ∀ p ∈ ps, AtN 3 w p.2 p.1.l.length (vals p.1.l)
theorem RdRsN.below {w w' : World} {v : Value} {ps : List P} (h : RdRsN w v ps) (hb : Below w.heap.size w w') : RdRsN w' v ps := ⟨h.1.below hb, fun p hp => (h.2 p hp).below hb⟩
theorem RdRsN.rd {w : World} {v : Value} {ps : List P} (h : RdRsN w v ps) : RdRs w v ps := ⟨h.1, fun p hp => (h.2 p hp).rd⟩
theorem MyRs.rdN {lo hi w v} {ps : List P} (h : MyRs lo hi w v ps) : RdRsN w v ps := ⟨h.1.rd, fun p hp => (h.2.1 p hp).atN⟩
theorem RdRsN.walk {w : World} {v : Value} {ps : List P} (h : RdRsN w v ps) {n : Nat} (hl : ps.length = n) :
    ∃ a cap, v = .slice a n cap ∧ n ≤ maxLen ∧ Hid (∀ k, k < n → ∀ W, Below w.heap.size w W → ∃ b off, a = some ⟨b, off, none⟩ ∧ W.cell? ⟨b, off + k * 2, none⟩ = some (.int .i64 (ps.getD k P.zero).1.id) ∧ W.cell? ⟨b, off + k * 2 + 1, none⟩ = some (ps.getD k P.zero).2 ∧ AtN 3 W (ps.getD k P.zero).2 (ps.getD k P.zero).1.l.length (vals (ps.getD k P.zero).1.l)) := by
  obtain ⟨a, cap, rfl, hn, HC⟩ := h.rd.walk hl
  refine ⟨a, cap, rfl, hn, fun k hk W hW => ?_⟩
  obtain ⟨b, off, e, h1, h2, _⟩ := HC.out k hk W hW
  refine ⟨b, off, e, h1, h2, (h.2 _ ?_).below hW⟩
  have hk' : k < ps.length := by omega
  have e : ps.getD k P.zero = ps[k] := by simp [hk']
  rw [e]
  exact List.getElem_mem hk'
theorem aparts_snoc {us : List Value} {v : Value} (h : Apart us) (hv : ∀ u ∈ us, u.ownBlock = none ∨ u.ownBlock ≠ v.ownBlock) : Apart (us ++ [v]) := by
  unfold Apart at *
  rw [List.pairwise_append]
  exact ⟨h, List.pairwise_singleton _ _, fun a ha b hb => by rw [List.mem_singleton.1 hb]; exact hv a ha⟩
theorem OwnN.block_ne {lo hi lo' hi' w v u n xs} {l : List V} (h : OwnN 27 2 lo' hi' w v n xs) (k : OwnV lo hi w u l) : v.ownBlock = none ∨ v.ownBlock ≠ u.ownBlock := by
  rcases h with ⟨rfl, _⟩ | h
  · exact .inl rfl
  · exact .inr (OwnV.block_ne h k)
theorem OwnV.lt {lo hi w u} {l : List V} (h : OwnV lo hi w u l) {s : Nat} (hs : hi ≤ s) {v : Value} (hv : ∀ x, v.ownBlock = some x → s ≤ x) : u.ownBlock = none ∨ u.ownBlock ≠ v.ownBlock := by
  by_cases hu : u.ownBlock = none
  · exact .inl hu
  · refine .inr (fun e => ?_)
    cases hx : u.ownBlock with
    | none => exact hu hx
    | some x =>
      have h1 := h.in_ hx
      have h2 := hv x (e.symm.trans hx)
      omega
/-- One more row. -/
theorem MyRs.append {lo s : Nat} {w1 w2 : World} {out out' : Value} {ps : List P} {p : P} (h : MyRs lo s w1 out ps) (hls : lo ≤ s) (hp : OwnV s w1.heap.size w1 p.2 p.1.l) (hs : s ≤ w1.heap.size) (ho : Own 27 2 lo w2.heap.size w2 out' (ps.length + 1) (prs ps ++ p.cs)) (he : Ext w1 w2 out out') : MyRs lo w2.heap.size w2 out' (ps ++ [p]) := by
  have hz := he.grown.size
  refine ⟨?_, fun q hq => ?_, ?_⟩
  · rw [List.length_append]
    refine .inr ?_
    have e : prs (ps ++ [p]) = prs ps ++ p.cs := by simp [prs]
    rw [e]
    exact ho
  · rcases List.mem_append.1 hq with hq | hq
    · exact ((h.2.1 q hq).other he.grown (OwnN.block_ne h.1 (h.2.1 q hq))).wide (Nat.le_refl _) (by omega)
    · rw [List.mem_singleton.1 hq]
      exact (hp.other he.grown (OwnN.block_ne h.1 hp)).wide hls hz
  · rw [List.map_append]
    refine aparts_snoc h.2.2 (fun u hu => ?_)
    obtain ⟨q, hq, rfl⟩ := List.mem_map.1 hu
    exact (h.2.1 q hq).lt (Nat.le_refl _) (fun x hx => (hp.in_ hx).1)
/-- append(s, x): x, a Row, has just been laid in a block of its own. -/
theorem appendR_law {P : Program} {t e : TypeId} {z : Value} {bytes : Nat} (T : ElemT P t e z 2 bytes) {w : World} {ops : Array Oper} {rest : List Oper} {o : Oper} {a : Act} {Q : Exit → Act → World → Prop} (hgd : o.guard = none) (s x : Operand)
    (ho : o.op = .call { callee := .builtin .append, args := #[s, x], argTypes := #[t, t] })
    (lo hi : Nat) (v : Value) (n : Nat) (xs : List Value) (k : Int) (ua : Option Addr) (un uc : Nat) (hs : a.eval s = v) (hown : OwnN e 2 lo hi w v n xs) (hlo : lo ≤ w.heap.size)
    (N : Nat) (hN : w.heap.size = N) (hx : a.eval x = .slice (some ⟨N, 0, none⟩) 1 1)
    (h63 : n + 1 ≤ maxLen) (hbytes : (n + 1) * bytes ≤ 140737488355328)
    (h : ∀ v' w', Own e 2 lo w'.heap.size w' v' (n + 1) (xs ++ [.int .i64 k, .slice ua un uc]) → Ext w w' v v' → wpList P ops Q rest (a.put o.dst v') w') : wpList P ops Q (o :: rest) a (w.alloc (.cells #[.int .i64 k, .slice ua un uc] e)) := by
  subst hN
  refine append_lawN T hgd s x ho lo hi v n xs hs (hown.imp id (fun h => h.alloc _)) (by rw [World.size_alloc]; omega) w.heap.size 0 1 1 [.int .i64 k, .slice ua un uc] hx rfl ?_ ?_ (by omega) h63 hbytes (fun v' w' h1 h2 => h v' w' h1 ((Ext.alloc v _).trans h2))
  · intro j y hj
    match j, hj with
    | 0, hj => simp at hj; subst hj; simp
    | 1, hj => simp at hj; subst hj; simp
    | j + 2, hj => simp at hj
  · intro y hy
    simp at hy
    rcases hy with rfl | rfl <;> rfl
theorem Blk.ext {W W' : World} {b : Nat} {cs : List Value} {v v' : Value} (h : Blk W b cs) (he : Ext W W' v v') (hne : v.ownBlock ≠ some b) : Blk W' b cs := h.grown he.grown (fun e => hne e.symm)
theorem OwnN.not_low {e size lo hi w v n xs} (h : OwnN e size lo hi w v n xs) {b : Nat} (hb : b < lo) : v.ownBlock ≠ some b := by
  rcases h with ⟨rfl, _⟩ | ⟨g, cp, rfl, h1, _⟩
  · simp [Value.ownBlock]
  · simp [Value.ownBlock]
    omega

end Go.Proofs.Ytkofafefnlommaa

/- Chapter 13: the contracts of RowsOk, DropRows, FindRow, for either side. -/
namespace Go.Proofs.Ytkofafefnlommaa
open Go.RowKit

def CRowsOk (f : Nat) : Prop := ∀ (u v : Value) (zs : List Int) (ps : List P) (ls : List R) (w : World), zs.length ≤ 1048576 → Rd 1 w u zs.length (ints .i64 zs) → (∀ p ∈ ps, ∀ v ∈ p.1.l, v.s.size ≤ maxLen) → ps.length ≤ 1048576 → (∀ p ∈ ps, p.1.l.length ≤ 1048576) → RdRs w v ps → ps.map (·.1) = ls →
  Calls Try.prog f #[u, v] w fun e w' => e = .returned (.bool (rowsOkL zs ls)) ∧ Below w.heap.size w w'
def CDropRows (f : Nat) : Prop := ∀ (v u : Value) (zs : List Int) (ps : List P) (ls : List R) (w : World), zs.length ≤ 1048576 → Rd 1 w u zs.length (ints .i64 zs) → ps.length ≤ 1048576 → (∀ p ∈ ps, p.1.l.length ≤ 1048576) → RdRsN w v ps → ps.map (·.1) = ls →
  Calls Try.prog f #[v, u] w fun e w' => ∃ v', e = .returned v' ∧ ∃ qs, MyRs w.heap.size w'.heap.size w' v' qs ∧ qs.map (·.1) = dropL ls zs ∧ Below w.heap.size w w'
def CFindRow (f : Nat) : Prop := ∀ (v : Value) (n : Int) (ps : List P) (ls : List R) (w : World), ps.length ≤ 1048576 → (∀ p ∈ ps, p.1.l.length ≤ 1048576) → RdRsN w v ps → ps.map (·.1) = ls →
  Calls Try.prog f #[v, .int .i64 n] w fun e w' => ∃ u, e = .returned (.tuple #[((findL ls n).getD R.zero).agg u, .bool (findL ls n).isSome]) ∧ OwnV w.heap.size w'.heap.size w' u ((findL ls n).getD R.zero).l ∧ Below w.heap.size w w'


end Go.Proofs.Ytkofafefnlommaa

/- The exact laws of RowsOk, DropRows, FindRow, walked; the contracts of both sides come as hypotheses (written by mk_Law13.py). -/
namespace Go.Proofs.Ytkofafefnlommaa
open Go.RowKit

theorem markIntsN (v : Value) (n lo hi : Nat) (xs : List Value) (s : Nat) (w : World) (hs : s ≤ 1073741824) (hn : n ≤ 1073741824) (h : Own 3 1 lo hi w v n xs) :
    Calls Try.prog 32 #[v, .int .i64 (s : Nat)] w fun e w' => e = .returned (.int .i64 (s + n : Nat)) ∧ Own 3 1 lo hi w' v n (ints .i64 (marks .i64 s n)) ∧ Within lo hi w w' := by
  refine (markIntS v n lo hi xs s w (by omega) (by omega) hn h).mono ?_
  rintro e w' ⟨rfl, h1, h2⟩
  refine ⟨by rw [show ((s + n : Nat) : Int) = (s : Int) + (n : Int) by omega], h1, Within.of_grown h2 (fun g hg => ?_)⟩
  obtain ⟨g', cap, rfl, h3, h4, _⟩ := h
  simp only [Value.ownBlock, Option.some.injEq] at hg
  omega
theorem findL_small {l : List R} {n : Int} {N : Nat} (h : ∀ r ∈ l, r.l.length ≤ N) : ((findL l n).getD R.zero).l.length ≤ N := by
  cases hf : findL l n with
  | none => simp [R.zero]
  | some r => exact h r (List.mem_of_find?_eq_some hf)
theorem OwnV.rdr {lo hi w u} {i : Int} {l : List V} {m : Nat} (h : OwnV lo hi w u l) (_hm : l.length = m) : (⟨i, l⟩ : R).rd w u := h.rd
theorem OwnV.rdm {lo hi w u s m} (h : OwnV lo hi w u (vmarks s m)) : Rd 3 w u m (vals (vmarks s m)) := by
  have := h.rd
  rw [vmarks_len] at this
  exact this
theorem Two.within {lo hi : Nat} {W W' : World} {b : Nat} {x y : Value} (h : Two W b x y) (hw : Within lo hi W W') (hb : b < lo ∨ hi ≤ b) : Two W' b x y := by
  have hk := hw.2.2.2.2 b (lt_of_cell h.1.1) hb
  exact ⟨⟨(World.cell?_of_block hk).trans h.1.1, (World.cell?_of_block hk).trans h.1.2⟩, (World.frozen?_of_block hk).trans h.2.1, (World.frozen?_of_block hk).trans h.2.2⟩

set_option maxHeartbeats 1000000 in
theorem markRow1 (r : R) (u : Value) (lo hi s : Nat) (w : World) (h0 : 0 < s) (hs : s ≤ 1073741824) (hn : r.l.length ≤ 1073741824) (hz : hi ≤ w.heap.size) (h : OwnV lo hi w u r.l) :
    Calls Try.prog 30 #[r.agg u, .int .i64 (s : Nat)] w fun e w' => e = .returned (.int .i64 (s + 3 * r.l.length : Nat)) ∧ OwnV lo hi w' u (vmarks s r.l.length) ∧ Within lo hi w w' := by
  have B0 := below_alloc w (.cells #[.int .i64 r.id, u] 27)
  have HM := Lib.hid (markValV u lo hi r.l s _ h0 hs hn (h.below B0 hz))
  obtain ⟨a, cp, hu⟩ := h.atN.sl
  obtain ⟨i, l⟩ := r
  simp only at HM B0 hu hn
  generalize l.length = m at *
  subst hu
  go_enter Try.func30, Try.ntmps30
  go_wp2_with fail
  refine HM.out.mono ?_
  rintro e w1 ⟨rfl, o1, g1⟩
  have G1 := Lib.hid g1
  have O1 := Lib.hid o1
  clear g1 o1 HM
  go_wp2
  go_ret
  refine ⟨rfl, O1.out, (Within.refl lo hi w).trans ⟨B0.os, B0.tape, B0.output, B0.size, fun j hj _ => B0.block j hj⟩ |>.trans (Within.of_grown G1.out (fun g hg => O1.out.in_ hg))⟩

theorem markRow2 (i : Int) (l : List V) (m : Nat) (u : Value) (lo hi s : Nat) (w : World) (hm : l.length = m) (h0 : 0 < s) (hs : s ≤ 1073741824) (hn : m ≤ 1073741824) (hz : hi ≤ w.heap.size) (h : OwnV lo hi w u l) :
    Calls Try.prog 30 #[.agg #[.int .i64 i, u], .int .i64 (s : Nat)] w fun e w' => e = .returned (.int .i64 (s + 3 * m : Nat)) ∧ OwnV lo hi w' u (vmarks s m) ∧ Within lo hi w w' := by
  subst hm
  exact markRow1 ⟨i, l⟩ u lo hi s w h0 hs hn hz h

set_option maxHeartbeats 1000000 in
theorem heldRow1 (i : Int) (u : Value) (n s : Nat) (w : World) (h0 : 0 < s) (hs : s ≤ 1048576) (hn : n ≤ 1048576) (h : Rd 3 w u n (vals (vmarks s n))) :
    Calls Try.prog 31 #[.agg #[.int .i64 i, u], .int .i64 (s : Nat)] w fun e w' => e = .returned (.int .i64 (s + 3 * n : Nat)) ∧ Below w.heap.size w w' := by
  have B0 := below_alloc w (.cells #[.int .i64 i, u] 27)
  have HM := Lib.hid (heldValS u n s _ h0 (by omega) (by omega) (h.below B0))
  obtain ⟨a, cp, rfl, _⟩ := h
  have hmn : s + 3 * n ≤ 1073741824 := by omega
  generalize s + 3 * n = k at hmn HM ⊢
  have hk0 : ¬ ((k : Int) < 0) := by omega
  go_enter Try.func31, Try.ntmps31
  go_wp2_with fail
  refine HM.out.mono ?_
  rintro e w1 ⟨rfl, b1⟩
  have B1 := below_then B0 b1 B0.size
  clear b1 HM
  go_wp2
  go_ret
  exact ⟨rfl, B1⟩

set_option maxRecDepth 100000 in
set_option maxHeartbeats 4000000 in
theorem lawRowsOk (hs : CRowsOk 22) (hi : CRowsOk 25) (a : Option Addr) (len cap : Nat) (zs : List Int) (b : Option Addr) (lenb capb : Nat) (pa : List P) (w : World) (hl : len ≤ maxLen) (ha : Arg .i64 w a len zs) (hsa : ∀ p ∈ pa, ∀ v ∈ p.1.l, v.s.size ≤ maxLen) (hB : RdRs w (.slice b lenb capb) pa) :
    Calls Try.prog 4 #[.slice a len cap, .slice b lenb capb] w fun e w' => e = .returned (.bool true) ∧ Below w.heap.size w w' := by
  have HSA := Lib.hid hsa
  clear hsa
  unfold CRowsOk at hs hi
  have HZ := Lib.hid ha.1
  unfold maxLen at hl
  by_cases hbig : 1048576 < len
  · go_enter Try.func4, Try.ntmps4
    go_wp2
    go_ret
    exact ⟨rfl, Below.refl _ _⟩
  have hqq : (rowsOkL zs (pa.map (·.1)) != rowsOkL zs (pa.map (·.1))) = false := by simp
  have bt := Below.refl w.heap.size w
  go_enter Try.func4, Try.ntmps4
  go_wp2_with fail
  refine (szRowS (.slice b lenb capb) pa 1048576 w (by omega) (by omega) HSA.out (hB.below bt)).mono ?_
  rintro e w1 ⟨r2, rfl, hr2, hb⟩
  have z1 := hb.size
  replace bt := below_then bt hb (by omega)
  clear hb
  by_cases hn2 : r2 < 0
  · clear hr2
    go_wp2
    go_ret
    exact ⟨rfl, bt⟩
  have hka : (pa.length : Int) + bulkR pa ≤ 1048576 := by omega
  clear hr2
  have hma : pa.length ≤ 1048576 := by omega
  have HIa : Hid (∀ p ∈ pa, p.1.l.length ≤ 1048576) := fun p hp => by
    have := bulkR_mem hp
    omega
  have HRN : Hid (rlen pa ≤ 16777216) := by
    show _ ≤ _
    have := rlen_le pa
    omega
  clear hka
  go_wp2_with fail
  refine (toIntS a len cap zs w1 (by omega) (ha.below bt)).mono ?_
  rintro e w2 ⟨t1, rfl, o1, hb⟩
  have z2 := hb.size
  replace bt := below_then bt hb (by omega)
  clear hb
  go_wp2_with fail
  refine (toRowS (.slice b lenb capb) pa w2 hma HIa.out (hB.below bt)).mono ?_
  rintro e w3 ⟨t2, q2, rfl, e0, o0, hb⟩
  have z3 := hb.size
  replace o1 := o1.below hb (by omega)
  replace bt := below_then bt hb (by omega)
  clear hb
  have o2 := o0.my
  have Hq2 := Lib.hid e0
  clear o0 e0
  go_wp2_with fail
  refine (hs t1 t2 zs q2 (pa.map (·.1)) w3 (by rw [HZ.out]; omega) (by rw [HZ.out]; exact o1.rd) (rows_small Hq2.out HSA.out) (by rw [len_fst Hq2.out]; exact hma) (small_fst Hq2.out HIa.out) o2.rd Hq2.out).mono ?_
  rintro e w4 ⟨rfl, hb⟩
  have z4 := hb.size
  replace o1 := o1.below hb (by omega)
  replace o2 := o2.below hb (by omega)
  replace bt := below_then bt hb (by omega)
  clear hb
  clear o1 o2
  go_wp2_with fail
  refine (toIntS a len cap zs w4 (by omega) (ha.below bt)).mono ?_
  rintro e w5 ⟨x0, rfl, ox, hb⟩
  have z5 := hb.size
  replace bt := below_then bt hb (by omega)
  clear hb
  go_wp2_with fail
  refine (toRowS (.slice b lenb capb) pa w5 hma HIa.out (hB.below bt)).mono ?_
  rintro e w6 ⟨x1, qx, rfl, e0, o0, hb⟩
  have z6 := hb.size
  replace ox := ox.below hb (by omega)
  replace bt := below_then bt hb (by omega)
  clear hb
  have oy := o0.my
  have Hqx := Lib.hid e0
  clear o0 e0
  go_wp2_with fail
  refine (hi x0 x1 zs qx (pa.map (·.1)) w6 (by rw [HZ.out]; omega) (by rw [HZ.out]; exact ox.rd) (rows_small Hqx.out HSA.out) (by rw [len_fst Hqx.out]; exact hma) (small_fst Hqx.out HIa.out) oy.rd Hqx.out).mono ?_
  rintro e w7 ⟨rfl, hb⟩
  have z7 := hb.size
  replace ox := ox.below hb (by omega)
  replace oy := oy.below hb (by omega)
  replace bt := below_then bt hb (by omega)
  clear hb
  go_wp2_with fail
  refine (toIntS a len cap zs w7 (by omega) (ha.below bt)).mono ?_
  rintro e w8 ⟨t3, rfl, o3, hb⟩
  have z8 := hb.size
  replace ox := ox.below hb (by omega)
  replace oy := oy.below hb (by omega)
  replace bt := below_then bt hb (by omega)
  clear hb
  go_wp2_with fail
  refine (eqIntS x0 t3 len zs w8 HZ.out ox.at o3.at).mono ?_
  rintro e w9 ⟨rfl, hb⟩
  have z9 := hb.size
  replace ox := ox.below hb (by omega)
  replace oy := oy.below hb (by omega)
  replace o3 := o3.below hb (by omega)
  replace bt := below_then bt hb (by omega)
  clear hb
  clear o3
  go_wp2_with fail
  refine (toRowS (.slice b lenb capb) pa w9 hma HIa.out (hB.below bt)).mono ?_
  rintro e w10 ⟨t4, q4, rfl, e0, o0, hb⟩
  have z10 := hb.size
  replace ox := ox.below hb (by omega)
  replace oy := oy.below hb (by omega)
  replace bt := below_then bt hb (by omega)
  clear hb
  have o4 := o0.my
  have Hq4 := Lib.hid e0
  clear o0 e0
  go_wp2_with fail
  refine (eqRowS x1 t4 qx q4 w10 (Hq4.out.trans Hqx.out.symm) oy.rd o4.rd).mono ?_
  rintro e w11 ⟨rfl, hb⟩
  have z11 := hb.size
  replace ox := ox.below hb (by omega)
  replace oy := oy.below hb (by omega)
  replace o4 := o4.below hb (by omega)
  replace bt := below_then bt hb (by omega)
  clear hb
  clear o4
  go_wp2
  go_ret
  exact ⟨rfl, bt⟩

set_option maxRecDepth 100000 in
set_option maxHeartbeats 4000000 in
theorem lawDropRows (hs : CDropRows 18) (hi : CDropRows 13) (b : Option Addr) (lenb capb : Nat) (pa : List P) (a : Option Addr) (len cap : Nat) (zs : List Int) (w : World) (hl : len ≤ maxLen) (ha : Arg .i64 w a len zs) (hsa : ∀ p ∈ pa, ∀ v ∈ p.1.l, v.s.size ≤ maxLen) (hB : RdRs w (.slice b lenb capb) pa) :
    Calls Try.prog 6 #[.slice b lenb capb, .slice a len cap] w fun e w' => e = .returned (.bool true) ∧ Below w.heap.size w w' := by
  have HSA := Lib.hid hsa
  clear hsa
  unfold CDropRows at hs hi
  have HZ := Lib.hid ha.1
  unfold maxLen at hl
  by_cases hbig : 1048576 < len
  · go_enter Try.func6, Try.ntmps6
    go_wp2
    go_ret
    exact ⟨rfl, Below.refl _ _⟩
  have bt := Below.refl w.heap.size w
  go_enter Try.func6, Try.ntmps6
  go_wp2_with fail
  refine (szRowS (.slice b lenb capb) pa 1048576 w (by omega) (by omega) HSA.out (hB.below bt)).mono ?_
  rintro e w1 ⟨r2, rfl, hr2, hb⟩
  have z1 := hb.size
  replace bt := below_then bt hb (by omega)
  clear hb
  by_cases hn2 : r2 < 0
  · clear hr2
    go_wp2
    go_ret
    exact ⟨rfl, bt⟩
  have hka : (pa.length : Int) + bulkR pa ≤ 1048576 := by omega
  clear hr2
  have hma : pa.length ≤ 1048576 := by omega
  have HIa : Hid (∀ p ∈ pa, p.1.l.length ≤ 1048576) := fun p hp => by
    have := bulkR_mem hp
    omega
  have HRN : Hid (rlen pa ≤ 16777216) := by
    show _ ≤ _
    have := rlen_le pa
    omega
  clear hka
  go_wp2_with fail
  refine (toRowS (.slice b lenb capb) pa w1 hma HIa.out (hB.below bt)).mono ?_
  rintro e w2 ⟨t1, q1, rfl, e0, o0, hb⟩
  have z2 := hb.size
  replace bt := below_then bt hb (by omega)
  clear hb
  have o1 := o0.my
  have Hq1 := Lib.hid e0
  clear o0 e0
  go_wp2_with fail
  refine (toIntS a len cap zs w2 (by omega) (ha.below bt)).mono ?_
  rintro e w3 ⟨t2, rfl, o2, hb⟩
  have z3 := hb.size
  replace o1 := o1.below hb (by omega)
  replace bt := below_then bt hb (by omega)
  clear hb
  go_wp2_with fail
  refine (hs t1 t2 zs q1 (pa.map (·.1)) w3 (by rw [HZ.out]; omega) (by rw [HZ.out]; exact o2.rd) (by rw [len_fst Hq1.out]; exact hma) (small_fst Hq1.out HIa.out) o1.rdN Hq1.out).mono ?_
  rintro e w4 ⟨v0, rfl, qv, ov, ev, hb⟩
  have z4 := hb.size
  replace o1 := o1.below hb (by omega)
  replace o2 := o2.below hb (by omega)
  replace bt := below_then bt hb (by omega)
  clear hb
  have HV := Lib.hid ev
  clear ev
  clear o1 o2
  go_wp2_with fail
  refine (toRowS (.slice b lenb capb) pa w4 hma HIa.out (hB.below bt)).mono ?_
  rintro e w5 ⟨x0, qx, rfl, e0, o0, hb⟩
  have z5 := hb.size
  replace ov := ov.below hb (by omega)
  replace bt := below_then bt hb (by omega)
  clear hb
  have ox := o0.my
  have Hqx := Lib.hid e0
  clear o0 e0
  go_wp2_with fail
  refine (toIntS a len cap zs w5 (by omega) (ha.below bt)).mono ?_
  rintro e w6 ⟨x1, rfl, oy, hb⟩
  have z6 := hb.size
  replace ov := ov.below hb (by omega)
  replace ox := ox.below hb (by omega)
  replace bt := below_then bt hb (by omega)
  clear hb
  go_wp2_with fail
  refine (hi x0 x1 zs qx (pa.map (·.1)) w6 (by rw [HZ.out]; omega) (by rw [HZ.out]; exact oy.rd) (by rw [len_fst Hqx.out]; exact hma) (small_fst Hqx.out HIa.out) ox.rdN Hqx.out).mono ?_
  rintro e w7 ⟨g0, rfl, qg, og, eg, hb⟩
  have z7 := hb.size
  replace ov := ov.below hb (by omega)
  replace ox := ox.below hb (by omega)
  replace oy := oy.below hb (by omega)
  replace bt := below_then bt hb (by omega)
  clear hb
  have HG := Lib.hid eg
  clear eg
  go_wp2_with fail
  refine (eqRowS g0 v0 qg qv w7 (HV.out.trans HG.out.symm) og.rd ov.rd).mono ?_
  rintro e w8 ⟨rfl, hb⟩
  have z8 := hb.size
  replace ov := ov.below hb (by omega)
  replace ox := ox.below hb (by omega)
  replace oy := oy.below hb (by omega)
  replace og := og.below hb (by omega)
  replace bt := below_then bt hb (by omega)
  clear hb
  go_wp2_with fail
  refine (toRowS (.slice b lenb capb) pa w8 hma HIa.out (hB.below bt)).mono ?_
  rintro e w9 ⟨t3, q3, rfl, e0, o0, hb⟩
  have z9 := hb.size
  replace ov := ov.below hb (by omega)
  replace ox := ox.below hb (by omega)
  replace oy := oy.below hb (by omega)
  replace og := og.below hb (by omega)
  replace bt := below_then bt hb (by omega)
  clear hb
  have o3 := o0.my
  have Hq3 := Lib.hid e0
  clear o0 e0
  go_wp2_with fail
  refine (eqRowS x0 t3 qx q3 w9 (Hq3.out.trans Hqx.out.symm) ox.rd o3.rd).mono ?_
  rintro e w10 ⟨rfl, hb⟩
  have z10 := hb.size
  replace ov := ov.below hb (by omega)
  replace ox := ox.below hb (by omega)
  replace oy := oy.below hb (by omega)
  replace og := og.below hb (by omega)
  replace o3 := o3.below hb (by omega)
  replace bt := below_then bt hb (by omega)
  clear hb
  clear o3
  go_wp2_with fail
  refine (toIntS a len cap zs w10 (by omega) (ha.below bt)).mono ?_
  rintro e w11 ⟨t4, rfl, o4, hb⟩
  have z11 := hb.size
  replace ov := ov.below hb (by omega)
  replace ox := ox.below hb (by omega)
  replace oy := oy.below hb (by omega)
  replace og := og.below hb (by omega)
  replace bt := below_then bt hb (by omega)
  clear hb
  go_wp2_with fail
  refine (eqIntS x1 t4 len zs w11 HZ.out oy.at o4.at).mono ?_
  rintro e w12 ⟨rfl, hb⟩
  have z12 := hb.size
  replace ov := ov.below hb (by omega)
  replace ox := ox.below hb (by omega)
  replace oy := oy.below hb (by omega)
  replace og := og.below hb (by omega)
  replace o4 := o4.below hb (by omega)
  replace bt := below_then bt hb (by omega)
  clear hb
  clear o4
  go_wp2_with fail
  refine (markRowsM x0 qx _ _ 1 w12 (by omega) (by omega) (by rw [len_fst Hqx.out]; exact hma) (by rw [rlen_fst Hqx.out]; exact HRN.out) ox).mono ?_
  rintro e w13 ⟨rfl, _, hg⟩
  have z13 := hg.2.2.2.1
  replace ov := ov.within hg (by omega)
  replace oy := oy.within hg (by omega)
  replace og := og.within hg (by omega)
  replace bt := bt.trans (hg.below (by omega) (by omega))
  clear hg
  clear ox
  have HKX : Hid (rlen qx ≤ 16777216) := by
    show _ ≤ _
    rw [rlen_fst Hqx.out]
    exact HRN.out
  have hk1 := HKX.out
  generalize hk : rlen qx = kx at hk1
  clear hk
  have HK1 : Hid (1 + kx ≤ 16777217) := by show _ ≤ _; omega
  generalize 1 + kx = k1 at HK1
  have hk2 := HK1.out
  go_wp2_with fail
  refine (markIntsN x1 len _ _ _ k1 w13 (by omega) (by omega) oy).mono ?_
  rintro e w14 ⟨rfl, _, hg⟩
  have z14 := hg.2.2.2.1
  replace ov := ov.within hg (by omega)
  replace og := og.within hg (by omega)
  replace bt := bt.trans (hg.below (by omega) (by omega))
  clear hg
  clear oy
  go_wp2_with fail
  refine (eqRowS g0 v0 qg qv w14 (HV.out.trans HG.out.symm) og.rd ov.rd).mono ?_
  rintro e w15 ⟨rfl, hb⟩
  have z15 := hb.size
  replace ov := ov.below hb (by omega)
  replace og := og.below hb (by omega)
  replace bt := below_then bt hb (by omega)
  clear hb
  have HGL : Hid (qg.length ≤ 1048576 ∧ rlen qg ≤ 16777216) := by
    refine ⟨?_, ?_⟩
    · have e := congrArg List.length HG.out
      rw [List.length_map] at e
      rw [e]
      exact Nat.le_trans (dropL_len _ _) (by rw [List.length_map]; exact hma)
    · rw [rlen_R, HG.out]
      exact Nat.le_trans (rlenR_filter _ _) (by rw [← rlen_R]; exact HRN.out)
  go_wp2_with fail
  refine (markRowsM g0 qg _ _ 1 w15 (by omega) (by omega) HGL.out.1 HGL.out.2 og).mono ?_
  rintro e w16 ⟨rfl, on, hg⟩
  have z16 := hg.2.2.2.1
  replace ov := ov.within hg (by omega)
  replace bt := bt.trans (hg.below (by omega) (by omega))
  clear hg
  clear og
  have og := on
  clear on
  go_wp2_with fail
  refine (heldRowS g0 qg 1 w16 (by omega) (by omega) HGL.out.1 HGL.out.2 og.rd).mono ?_
  rintro e w17 ⟨rfl, hb⟩
  have z17 := hb.size
  replace ov := ov.below hb (by omega)
  replace og := og.below hb (by omega)
  replace bt := below_then bt hb (by omega)
  clear hb
  have HNE : ((1 + rlen qg : Nat) : Int) ≥ 0 := by omega
  go_wp2_with fail
  refine (toRowS (.slice b lenb capb) pa w17 hma HIa.out (hB.below bt)).mono ?_
  rintro e w18 ⟨t5, q5, rfl, e0, o0, hb⟩
  have z18 := hb.size
  replace ov := ov.below hb (by omega)
  replace og := og.below hb (by omega)
  replace bt := below_then bt hb (by omega)
  clear hb
  have o5 := o0.my
  have Hq5 := Lib.hid e0
  clear o0 e0
  go_wp2_with fail
  refine (toIntS a len cap zs w18 (by omega) (ha.below bt)).mono ?_
  rintro e w19 ⟨t6, rfl, o6, hb⟩
  have z19 := hb.size
  replace ov := ov.below hb (by omega)
  replace og := og.below hb (by omega)
  replace o5 := o5.below hb (by omega)
  replace bt := below_then bt hb (by omega)
  clear hb
  go_wp2_with fail
  refine (hi t5 t6 zs q5 (pa.map (·.1)) w19 (by rw [HZ.out]; omega) (by rw [HZ.out]; exact o6.rd) (by rw [len_fst Hq5.out]; exact hma) (small_fst Hq5.out HIa.out) o5.rdN Hq5.out).mono ?_
  rintro e w20 ⟨h0, rfl, qh, oh, eh, hb⟩
  have z20 := hb.size
  replace ov := ov.below hb (by omega)
  replace og := og.below hb (by omega)
  replace o5 := o5.below hb (by omega)
  replace o6 := o6.below hb (by omega)
  replace bt := below_then bt hb (by omega)
  clear hb
  clear o5 o6
  go_wp2_with fail
  refine (eqRowS h0 v0 qh qv w20 (HV.out.trans eh.symm) oh.rd ov.rd).mono ?_
  rintro e w21 ⟨rfl, hb⟩
  have z21 := hb.size
  replace ov := ov.below hb (by omega)
  replace og := og.below hb (by omega)
  replace oh := oh.below hb (by omega)
  replace bt := below_then bt hb (by omega)
  clear hb
  go_wp2_with fail
  refine (heldRowS g0 qg 1 w21 (by omega) (by omega) HGL.out.1 HGL.out.2 og.rd).mono ?_
  rintro e w22 ⟨rfl, hb⟩
  have z22 := hb.size
  replace ov := ov.below hb (by omega)
  replace og := og.below hb (by omega)
  replace oh := oh.below hb (by omega)
  replace bt := below_then bt hb (by omega)
  clear hb
  go_wp2
  go_ret
  exact ⟨rfl, bt⟩

end Go.Proofs.Ytkofafefnlommaa

/- The exact law of FindRow, walked; the contracts of both sides come as hypotheses (written by mk_Law13.py). -/
namespace Go.Proofs.Ytkofafefnlommaa
open Go.RowKit

set_option maxRecDepth 100000 in
set_option maxHeartbeats 4000000 in
theorem lawFindRow (hs : CFindRow 15) (hi : CFindRow 14) (b : Option Addr) (lenb capb : Nat) (pa : List P) (n : Int) (w : World) (hsa : ∀ p ∈ pa, ∀ v ∈ p.1.l, v.s.size ≤ maxLen) (hB : RdRs w (.slice b lenb capb) pa) :
    Calls Try.prog 5 #[.slice b lenb capb, .int .i64 n] w fun e w' => e = .returned (.bool true) ∧ Below w.heap.size w w' := by
  have HSA := Lib.hid hsa
  clear hsa
  unfold CFindRow at hs hi
  have bt := Below.refl w.heap.size w
  go_enter Try.func5, Try.ntmps5
  go_wp2_with fail
  refine (szRowS (.slice b lenb capb) pa 1048576 w (by omega) (by omega) HSA.out (hB.below bt)).mono ?_
  rintro e w1 ⟨r2, rfl, hr2, hb⟩
  have z1 := hb.size
  replace bt := below_then bt hb (by omega)
  clear hb
  by_cases hn2 : r2 < 0
  · clear hr2
    go_wp2
    go_ret
    exact ⟨rfl, bt⟩
  have hka : (pa.length : Int) + bulkR pa ≤ 1048576 := by omega
  clear hr2
  have hma : pa.length ≤ 1048576 := by omega
  have HIa : Hid (∀ p ∈ pa, p.1.l.length ≤ 1048576) := fun p hp => by
    have := bulkR_mem hp
    omega
  have HRN : Hid (rlen pa ≤ 16777216) := by
    show _ ≤ _
    have := rlen_le pa
    omega
  clear hka
  have HS : Hid (∀ (v : Value) (ps : List P) (w : World), ps.length ≤ 1048576 → (∀ p ∈ ps, p.1.l.length ≤ 1048576) → RdRsN w v ps → ps.map (·.1) = pa.map (·.1) → Calls Try.prog 15 #[v, .int .i64 n] w fun e w' => ∃ u, e = .returned (.tuple #[(((findL (pa.map (·.1)) n)).getD R.zero).agg u, .bool ((findL (pa.map (·.1)) n)).isSome]) ∧ OwnV w.heap.size w'.heap.size w' u (((findL (pa.map (·.1)) n)).getD R.zero).l ∧ Below w.heap.size w w') := fun v ps w h1 h2 h3 h4 => hs v n ps _ w h1 h2 h3 h4
  have HI : Hid (∀ (v : Value) (ps : List P) (w : World), ps.length ≤ 1048576 → (∀ p ∈ ps, p.1.l.length ≤ 1048576) → RdRsN w v ps → ps.map (·.1) = pa.map (·.1) → Calls Try.prog 14 #[v, .int .i64 n] w fun e w' => ∃ u, e = .returned (.tuple #[(((findL (pa.map (·.1)) n)).getD R.zero).agg u, .bool ((findL (pa.map (·.1)) n)).isSome]) ∧ OwnV w.heap.size w'.heap.size w' u (((findL (pa.map (·.1)) n)).getD R.zero).l ∧ Below w.heap.size w w') := fun v ps w h1 h2 h3 h4 => hi v n ps _ w h1 h2 h3 h4
  have HFL : Hid ((((findL (pa.map (·.1)) n)).getD R.zero).l.length ≤ 1048576) := findL_small (fun r hr => by obtain ⟨p, hp, rfl⟩ := List.mem_map.1 hr; exact HIa.out p hp)
  clear hs hi
  generalize ((findL (pa.map (·.1)) n)).getD R.zero = r at HS HI HFL
  generalize ((findL (pa.map (·.1)) n)).isSome = ok at HS HI
  obtain ⟨i, l⟩ := r
  simp only at HFL HS HI
  have hfl := HFL.out
  have hqq : (ok != ok) = false := by simp
  generalize hm : l.length = m at hfl
  have HM := Lib.hid hm
  clear hm
  go_wp2_with fail
  refine (toRowS (.slice b lenb capb) pa w1 hma HIa.out (hB.below bt)).mono ?_
  rintro e w2 ⟨t1, q1, rfl, e0, o0, hb⟩
  have z2 := hb.size
  replace bt := below_then bt hb (by omega)
  clear hb
  have o1 := o0.my
  have Hq1 := Lib.hid e0
  clear o0 e0
  go_wp2_with fail
  refine (HS.out t1 q1 w2 (by rw [len_fst Hq1.out]; exact hma) (small_fst Hq1.out HIa.out) o1.rdN Hq1.out).mono ?_
  rintro e w3 ⟨v0, rfl, ov, hb⟩
  have z3 := hb.size
  replace o1 := o1.below hb (by omega)
  replace bt := below_then bt hb (by omega)
  clear hb
  clear o1
  obtain ⟨v0a, v0c, v0e⟩ := ov.atN.sl
  rw [HM.out] at v0e
  subst v0e
  have hb := below_alloc w3 (.cells #[.int .i64 i, .slice v0a m v0c] 27)
  have T0 := two_new w3 (.int .i64 i) (.slice v0a m v0c) 27
  have hsT0 : (w3.alloc (.cells #[.int .i64 i, .slice v0a m v0c] 27)).heap.size = w3.heap.size + 1 := World.size_alloc _ _
  replace ov := ov.below hb (by omega)
  replace bt := below_then bt hb (by omega)
  clear hb
  generalize hw : w3.alloc (.cells #[.int .i64 i, .slice v0a m v0c] 27) = w4 at bt T0 hsT0 ov
  have Hw4 := Lib.hid hw
  clear hw
  go_wp2_with fail
  rw [Hw4.out]
  refine (toRowS (.slice b lenb capb) pa w4 hma HIa.out (hB.below bt)).mono ?_
  rintro e w5 ⟨x0, qx, rfl, e0, o0, hb⟩
  have z5 := hb.size
  replace ov := ov.below hb (by omega)
  replace T0 := T0.below hb
  replace bt := below_then bt hb (by omega)
  clear hb
  have ox := o0.my
  have Hqx := Lib.hid e0
  clear o0 e0
  go_wp2_with fail
  refine (HI.out x0 qx w5 (by rw [len_fst Hqx.out]; exact hma) (small_fst Hqx.out HIa.out) ox.rdN Hqx.out).mono ?_
  rintro e w6 ⟨g0, rfl, og, hb⟩
  have z6 := hb.size
  replace ov := ov.below hb (by omega)
  replace ox := ox.below hb (by omega)
  replace T0 := T0.below hb
  replace bt := below_then bt hb (by omega)
  clear hb
  obtain ⟨g0a, g0c, g0e⟩ := og.atN.sl
  rw [HM.out] at g0e
  subst g0e
  have hb := below_alloc w6 (.cells #[.int .i64 i, .slice g0a m g0c] 27)
  have T1 := two_new w6 (.int .i64 i) (.slice g0a m g0c) 27
  have hsT1 : (w6.alloc (.cells #[.int .i64 i, .slice g0a m g0c] 27)).heap.size = w6.heap.size + 1 := World.size_alloc _ _
  replace ov := ov.below hb (by omega)
  replace ox := ox.below hb (by omega)
  replace og := og.below hb (by omega)
  replace T0 := T0.below hb
  replace bt := below_then bt hb (by omega)
  clear hb
  obtain ⟨⟨T0a, T0b⟩, T0c, T0d⟩ := id T0
  obtain ⟨⟨T1a, T1b⟩, T1c, T1d⟩ := id T1
  generalize hw : w6.alloc (.cells #[.int .i64 i, .slice g0a m g0c] 27) = w7 at bt T1 hsT1 ov ox og T0
  have Hw7 := Lib.hid hw
  clear hw
  go_wp2_with fail
  rw [Hw7.out]
  refine (eqRow ⟨i, l⟩ (.slice g0a m g0c) (.slice v0a m v0c) w7 (og.rdr HM.out) (ov.rdr HM.out)).mono ?_
  rintro e w8 ⟨rfl, hb⟩
  clear T0a T0b T0c T0d T1a T1b T1c T1d
  have z8 := hb.size
  replace ov := ov.below hb (by omega)
  replace ox := ox.below hb (by omega)
  replace og := og.below hb (by omega)
  replace T0 := T0.below hb
  replace T1 := T1.below hb
  replace bt := below_then bt hb (by omega)
  clear hb
  go_wp2_with fail
  refine (toRowS (.slice b lenb capb) pa w8 hma HIa.out (hB.below bt)).mono ?_
  rintro e w9 ⟨t3, q3, rfl, e0, o0, hb⟩
  have z9 := hb.size
  replace ov := ov.below hb (by omega)
  replace ox := ox.below hb (by omega)
  replace og := og.below hb (by omega)
  replace T0 := T0.below hb
  replace T1 := T1.below hb
  replace bt := below_then bt hb (by omega)
  clear hb
  have o3 := o0.my
  have Hq3 := Lib.hid e0
  clear o0 e0
  go_wp2_with fail
  refine (eqRowS x0 t3 qx q3 w9 (Hq3.out.trans Hqx.out.symm) ox.rd o3.rd).mono ?_
  rintro e w10 ⟨rfl, hb⟩
  have z10 := hb.size
  replace ov := ov.below hb (by omega)
  replace ox := ox.below hb (by omega)
  replace og := og.below hb (by omega)
  replace o3 := o3.below hb (by omega)
  replace T0 := T0.below hb
  replace T1 := T1.below hb
  replace bt := below_then bt hb (by omega)
  clear hb
  clear o3
  go_wp2_with fail
  refine (markRowsM x0 qx _ _ 1 w10 (by omega) (by omega) (by rw [len_fst Hqx.out]; exact hma) (by rw [rlen_fst Hqx.out]; exact HRN.out) ox).mono ?_
  rintro e w11 ⟨rfl, _, hg⟩
  have z11 := hg.2.2.2.1
  replace ov := ov.within hg (by omega)
  replace og := og.within hg (by omega)
  replace T0 := T0.within hg (by omega)
  replace T1 := T1.within hg (by omega)
  replace bt := bt.trans (hg.below (by omega) (by omega))
  clear hg
  clear ox
  generalize 1 + rlen qx = k1
  obtain ⟨⟨T0a, T0b⟩, T0c, T0d⟩ := id T0
  obtain ⟨⟨T1a, T1b⟩, T1c, T1d⟩ := id T1
  go_wp2_with fail
  refine (eqRow ⟨i, l⟩ (.slice g0a m g0c) (.slice v0a m v0c) w11 (og.rdr HM.out) (ov.rdr HM.out)).mono ?_
  rintro e w12 ⟨rfl, hb⟩
  clear T0a T0b T0c T0d T1a T1b T1c T1d
  have z12 := hb.size
  replace ov := ov.below hb (by omega)
  replace og := og.below hb (by omega)
  replace T0 := T0.below hb
  replace T1 := T1.below hb
  replace bt := below_then bt hb (by omega)
  clear hb
  obtain ⟨⟨T1a, T1b⟩, T1c, T1d⟩ := id T1
  go_wp2_with fail
  refine (markRow2 i l m (.slice g0a m g0c) _ _ 1 w12 HM.out (by omega) (by omega) (by omega) (by omega) og).mono ?_
  rintro e w13 ⟨rfl, on, hg⟩
  clear T1a T1b T1c T1d
  have z13 := hg.2.2.2.1
  replace ov := ov.within hg (by omega)
  replace T0 := T0.within hg (by omega)
  replace T1 := T1.within hg (by omega)
  replace bt := bt.trans (hg.below (by omega) (by omega))
  clear hg
  clear og
  have og := on
  clear on
  obtain ⟨⟨T1a, T1b⟩, T1c, T1d⟩ := id T1
  go_wp2_with fail
  refine (heldRow1 i (.slice g0a m g0c) m 1 w13 (by omega) (by omega) (by omega) og.rdm).mono ?_
  rintro e w14 ⟨rfl, hb⟩
  clear T1a T1b T1c T1d
  have z14 := hb.size
  replace ov := ov.below hb (by omega)
  replace og := og.below hb (by omega)
  replace T0 := T0.below hb
  replace T1 := T1.below hb
  replace bt := below_then bt hb (by omega)
  clear hb
  have HNE : ((1 + 3 * m : Nat) : Int) ≥ 0 := by omega
  go_wp2_with fail
  refine (toRowS (.slice b lenb capb) pa w14 hma HIa.out (hB.below bt)).mono ?_
  rintro e w15 ⟨t5, q5, rfl, e0, o0, hb⟩
  have z15 := hb.size
  replace ov := ov.below hb (by omega)
  replace og := og.below hb (by omega)
  replace T0 := T0.below hb
  replace T1 := T1.below hb
  replace bt := below_then bt hb (by omega)
  clear hb
  have o5 := o0.my
  have Hq5 := Lib.hid e0
  clear o0 e0
  go_wp2_with fail
  refine (HI.out t5 q5 w15 (by rw [len_fst Hq5.out]; exact hma) (small_fst Hq5.out HIa.out) o5.rdN Hq5.out).mono ?_
  rintro e w16 ⟨h0, rfl, oh, hb⟩
  have z16 := hb.size
  replace ov := ov.below hb (by omega)
  replace og := og.below hb (by omega)
  replace o5 := o5.below hb (by omega)
  replace T0 := T0.below hb
  replace T1 := T1.below hb
  replace bt := below_then bt hb (by omega)
  clear hb
  clear o5
  obtain ⟨h0a, h0c, h0e⟩ := oh.atN.sl
  rw [HM.out] at h0e
  subst h0e
  have hb := below_alloc w16 (.cells #[.int .i64 i, .slice h0a m h0c] 27)
  have T2 := two_new w16 (.int .i64 i) (.slice h0a m h0c) 27
  have hsT2 : (w16.alloc (.cells #[.int .i64 i, .slice h0a m h0c] 27)).heap.size = w16.heap.size + 1 := World.size_alloc _ _
  replace ov := ov.below hb (by omega)
  replace og := og.below hb (by omega)
  replace oh := oh.below hb (by omega)
  replace T0 := T0.below hb
  replace T1 := T1.below hb
  replace bt := below_then bt hb (by omega)
  clear hb
  obtain ⟨⟨T0a, T0b⟩, T0c, T0d⟩ := id T0
  obtain ⟨⟨T2a, T2b⟩, T2c, T2d⟩ := id T2
  generalize hw : w16.alloc (.cells #[.int .i64 i, .slice h0a m h0c] 27) = w17 at bt T2 hsT2 ov og oh T0 T1
  have Hw17 := Lib.hid hw
  clear hw
  go_wp2_with fail
  rw [Hw17.out]
  refine (eqRow ⟨i, l⟩ (.slice h0a m h0c) (.slice v0a m v0c) w17 (oh.rdr HM.out) (ov.rdr HM.out)).mono ?_
  rintro e w18 ⟨rfl, hb⟩
  clear T0a T0b T0c T0d T2a T2b T2c T2d
  have z18 := hb.size
  replace ov := ov.below hb (by omega)
  replace og := og.below hb (by omega)
  replace oh := oh.below hb (by omega)
  replace T0 := T0.below hb
  replace T1 := T1.below hb
  replace T2 := T2.below hb
  replace bt := below_then bt hb (by omega)
  clear hb
  obtain ⟨⟨T1a, T1b⟩, T1c, T1d⟩ := id T1
  go_wp2_with fail
  refine (heldRow1 i (.slice g0a m g0c) m 1 w18 (by omega) (by omega) (by omega) og.rdm).mono ?_
  rintro e w19 ⟨rfl, hb⟩
  clear T1a T1b T1c T1d
  have z19 := hb.size
  replace ov := ov.below hb (by omega)
  replace og := og.below hb (by omega)
  replace oh := oh.below hb (by omega)
  replace T0 := T0.below hb
  replace T1 := T1.below hb
  replace T2 := T2.below hb
  replace bt := below_then bt hb (by omega)
  clear hb
  go_wp2
  go_ret
  exact ⟨rfl, bt⟩

end Go.Proofs.Ytkofafefnlommaa

/- The model's l13Has, DropRows (written by mk_S13.py). -/
namespace Go.Proofs.Ytkofafefnlommaa
open Go.RowKit

set_option maxHeartbeats 400000 in
theorem sHas (u : Value) (zs : List Int) (x : Int) (w : World) (h : Rd 1 w u zs.length (ints .i64 zs)) :
    Calls Try.prog 51 #[u, .int .i64 x] w fun e w' => e = .returned (.bool (hasI zs x)) ∧ w = w' := by
  generalize hl : zs.length = n at h
  obtain ⟨a, cap, rfl, hm, HC⟩ := h.ints hl
  unfold maxLen at hm
  have HL := Lib.hid hl
  clear h hl
  go_enter Try.func51, Try.ntmps51
  go_wp2
  go_loop [5] (fun i => ∃ k : Nat, k ≤ n ∧ i = .int .i64 k ∧ ∀ j, j < k → zs.getD j 0 ≠ x) (fun i => n - (intOf i).toNat)
  case atStart => exact ⟨0, Nat.zero_le _, rfl, fun j hj => by omega⟩
  case round =>
    obtain ⟨k, hk, rfl, hok⟩ := hrel
    have HOK := Lib.hid hok
    clear hok
    by_cases hlt : k < n
    · obtain ⟨b, off, rfl, hc⟩ := HC.out k hlt
      by_cases hzx : zs.getD k 0 = x
      · have HY : Hid (hasI zs x = true) := contains_hit (by rw [HL.out]; exact hlt) hzx
        rw [hzx] at hc
        clear hzx
        have hb1 : (x == x) = true := by simp
        go_wp2
        go_ret
        exact ⟨ret_bool HY.out.symm, rfl⟩
      · have HS : Hid (∀ j, j < k + 1 → zs.getD j 0 ≠ x) := fun j hj => by
          by_cases e : j = k
          · subst e; exact hzx
          · exact HOK.out j (by omega)
        generalize zs.getD k 0 = z at hc hzx
        have hb1 : (z == x) = false := by simpa using hzx
        have hb2 : (x == z) = false := by simpa using fun e => hzx e.symm
        clear hzx
        go_wp2
        go_round
        case rel => exact ⟨k + 1, by omega, by go_num, HS.out⟩
        case measure => simp [intOf]; omega
    · obtain rfl : k = n := by omega
      have HA : Hid (hasI zs x = false) := contains_no (fun j hj => HOK.out j (by rw [← HL.out]; exact hj))
      go_wp2
      go_ret
      exact ⟨ret_bool HA.out.symm, rfl⟩

set_option maxRecDepth 100000 in
set_option maxHeartbeats 4000000 in
theorem sDropRows : CDropRows 18 := by
  intro v u zs ps ls w hz hu hn hli h hls
  subst hls
  generalize hl : ps.length = n at hn
  obtain ⟨a, cap, rfl, _, HC⟩ := h.walk hl
  have HHS := Lib.hid (fun (x : Int) W (hW : Below w.heap.size w W) => sHas u zs x W (hu.below hW))
  obtain ⟨ua, uc, rfl, _⟩ := hu
  generalize zs.length = un at HHS hz ⊢
  have HLI : Hid (∀ k, k < n → (ps.getD k P.zero).1.l.length ≤ 1048576) := fun k hk => by
    have hk' : k < ps.length := by omega
    have e : ps.getD k P.zero = ps[k] := by simp [hk']
    rw [e]
    exact hli _ (List.getElem_mem hk')
  have HMT : Hid (∀ j, j < n → dropL ((ps.map (·.1)).take (j + 1)) zs = if hasI zs (ps.getD j P.zero).1.id = true then dropL ((ps.map (·.1)).take j) zs else dropL ((ps.map (·.1)).take j) zs ++ [(ps.getD j P.zero).1]) := fun j hj => by
    refine dropL_take (by rw [List.length_map]; omega) ?_
    exact (getD_fst ps j).symm
  have HALL : Hid (dropL ((ps.map (·.1)).take n) zs = dropL (ps.map (·.1)) zs) := by
    show _ = _
    rw [← hl, List.take_of_length_le (by rw [List.length_map]; exact Nat.le_refl _)]
  have HMN : Hid (∀ j, (dropL ((ps.map (·.1)).take j) zs).length ≤ j) := fun j => Nat.le_trans (dropL_len _ _) (by rw [List.length_take]; omega)
  have B1 := below_alloc w (.cells #[] 27)
  have O1 := own_lit (e := 27) (size := 2) w #[] 0 (Nat.zero_le _) rfl
  have hz1 : (w.alloc (.cells #[] 27)).heap.size = w.heap.size + 1 := World.size_alloc _ _
  generalize hw1 : w.alloc (.cells #[] 27) = w1 at B1 O1 hz1
  have HW1 := Lib.hid hw1
  clear hw1 hl h hli
  go_enter Try.func18, Try.ntmps18
  go_wp2
  rw [HW1.out]
  go_loopw [5, 6] (fun o i wr => ∃ (j : Nat) (qs : List P), j ≤ n ∧ i = .int .i64 j ∧ (∃ g cp, o = .slice (some ⟨g, 0, none⟩) qs.length cp) ∧ MyRs w.heap.size wr.heap.size wr o qs ∧ qs.map (·.1) = dropL ((ps.map (·.1)).take j) zs ∧ Below w.heap.size w wr) (fun _ i _ => n - (intOf i).toNat)
  case atStart => exact ⟨0, [], Nat.zero_le _, rfl, ⟨_, _, rfl⟩, ⟨.inr (show Own 27 2 w.heap.size w1.heap.size w1 _ 0 [] by simpa using O1), fun p hp => (by cases hp), List.Pairwise.nil⟩, rfl, B1⟩
  case round =>
    obtain ⟨j, qs, hj, rfl, ⟨og, ocp, rfl⟩, hmy, hqs, hbr⟩ := hrel
    have HMY := Lib.hid hmy
    have HQS := Lib.hid hqs
    have hsz := hbr.size
    have hql : qs.length ≤ j := by
      have e := congrArg List.length hqs
      rw [List.length_map] at e
      rw [e]
      exact HMN.out j
    clear O1 hqs B1 hz1
    by_cases hlt : j < n
    · obtain ⟨b, off, rfl, c0, c1, hat⟩ := HC.out j hlt wr hbr
      have HST := Lib.hid (HMT.out j hlt)
      have hll := HLI.out j hlt
      have HSJ := Lib.hid (fun W (hW : Below wr.heap.size wr W) => HHS.out (ps.getD j P.zero).1.id W (below_then hbr hW hbr.size))
      generalize hpj : ps.getD j P.zero = pj at c0 c1 hat HST hll HSJ
      clear hpj
      obtain ⟨r, x⟩ := pj
      simp only at c0 c1 hat HST hll HSJ
      obtain ⟨xa, xc, rfl⟩ := hat.sl
      have HAT := Lib.hid (fun W (hW : Below wr.heap.size wr W) => sL4Copy r (.slice xa r.l.length xc) W hll (hat.below hW))
      clear hat
      generalize hhb : hasI zs r.id = hb at HSJ
      have HHB := Lib.hid hhb
      clear hhb
      generalize hxl : r.l.length = xn at c1 hll HSJ HAT
      obtain ⟨ri, rl⟩ := r
      simp only at c0 c1 HST HHB HAT HSJ hll
      have HXL := Lib.hid hxl
      clear hmy hxl
      have BW := Below.refl wr.heap.size wr
      cases hb with
      | true =>
        have HF : Hid (MyRs w.heap.size wr.heap.size wr _ qs ∧ qs.map (·.1) = dropL ((ps.map (·.1)).take (j + 1)) zs ∧ Below w.heap.size w wr) := ⟨(HMY.out.below BW (Nat.le_refl _)).wide (Nat.le_refl _) BW.size, by rw [HST.out, if_pos HHB.out]; exact HQS.out, below_then hbr BW hbr.size⟩
        go_wp2_with fail
        refine (HSJ.out _ BW).mono ?_
        rintro e w' ⟨rfl, rfl⟩
        go_wp2
        go_roundw
        case rel => exact ⟨j + 1, qs, by omega, by go_num, ⟨_, _, rfl⟩, HF.out⟩
        case measure => simp [intOf]; omega
      | false =>
        have M2 := (HMY.out.below BW (Nat.le_refl _)).wide (Nat.le_refl _) BW.size
        have B2 := below_then hbr BW hbr.size
        have HA2 := Lib.hid (HAT.out _ BW)
        go_wp2_with fail
        refine (HSJ.out _ BW).mono ?_
        rintro e w' ⟨rfl, rfl⟩
        clear HSJ
        go_wp2_with fail
        refine HA2.out.mono ?_
        rintro e w3 ⟨x3, rfl, o3, b3⟩
        clear c0 c1
        obtain ⟨ya, yc, hy⟩ := o3.atN.sl
        generalize rl.length = yn at hy
        subst hy
        have M3 := (M2.below b3 (Nat.le_refl _))
        have B3 := below_then B2 b3 B2.size
        have hs3 := b3.size
        have hs2 := B2.size
        have A4 := below_alloc w3 (.cells #[.int .i64 ri, .slice ya yn yc] 27)
        have M4 := M3.below A4 hs3
        have B4 := below_then B3 A4 B3.size
        have O4 := (o3.below A4 (Nat.le_refl _)).wide (Nat.le_refl _) A4.size
        have hs4 := A4.size
        have HZ4 : Hid ((w3.alloc (.cells #[.int .i64 ri, .slice ya yn yc] 27)).heap.size = w3.heap.size + 1) := World.size_alloc _ _
        generalize hw4 : w3.alloc (.cells #[.int .i64 ri, .slice ya yn yc] 27) = w4 at M4 B4 O4 hs4 HZ4
        have HW4 := Lib.hid hw4
        clear hw4
        have HM4 := Lib.hid M4
        have HO4 := Lib.hid O4
        have ONN := M4.1
        have hlo4 : w.heap.size ≤ w4.heap.size := B4.size
        clear o3 b3 M4 O4 M2 M3 B2 HA2 HAT
        go_wp2_with (at_builtin; rw [HW4.out]; refine appendR_law Try.elemRows rfl _ _ rfl w.heap.size _ _ _ _ ri ya yn yc rfl ONN hlo4 _ HZ4.out rfl (by unfold maxLen; omega) (by omega) ?_)
        intro v5 w5 o5 e5
        have HF : Hid (MyRs w.heap.size w5.heap.size w5 v5 (qs ++ [(⟨ri, rl⟩, .slice ya yn yc)]) ∧ (qs ++ [((⟨ri, rl⟩ : R), Value.slice ya yn yc)]).map (·.1) = dropL ((ps.map (·.1)).take (j + 1)) zs ∧ Below w.heap.size w w5) := ⟨HM4.out.append (by omega) HO4.out (by omega) o5 e5, by rw [HST.out, if_neg (by rw [HHB.out]; simp), List.map_append, HQS.out]; rfl, B4.grown e5.grown B4.size (fun k hk => Nat.le_of_not_lt (fun hlt => ONN.not_low (b := k) (by omega) hk))⟩
        obtain ⟨vb, vc, hv5⟩ : ∃ g cp, v5 = .slice (some ⟨g, 0, none⟩) (qs.length + 1) cp := by obtain ⟨g, cp, e, _⟩ := o5; exact ⟨g, cp, e⟩
        subst hv5
        clear o5 e5 B4 ONN
        go_wp2
        go_roundw
        case rel => exact ⟨j + 1, _, by omega, by go_num, ⟨_, _, by rw [List.length_append]; rfl⟩, HF.out⟩
        case measure => simp [intOf]; omega
    · obtain rfl : j = n := by omega
      clear hmy
      go_wp2
      go_ret
      exact ⟨_, rfl, qs, HMY.out, HQS.out.trans HALL.out, hbr⟩

end Go.Proofs.Ytkofafefnlommaa

/- The program's slices.Index, slices.Contains, DropRows (written by mk_S13.py). -/
namespace Go.Proofs.Ytkofafefnlommaa
open Go.RowKit

set_option maxHeartbeats 400000 in
theorem iIndexInt (u : Value) (zs : List Int) (x : Int) (w : World) (h : Rd 1 w u zs.length (ints .i64 zs)) :
    Calls Try.prog 69 #[u, .int .i64 x] w fun e w' => ∃ z : Int, e = .returned (.int .i64 z) ∧ decide (0 ≤ z) = hasI zs x ∧ w = w' := by
  generalize hl : zs.length = n at h
  obtain ⟨a, cap, rfl, hm, HC⟩ := h.ints hl
  unfold maxLen at hm
  have HL := Lib.hid hl
  clear h hl
  go_enter Try.func69, Try.ntmps69
  go_wp2
  go_loop [8] (fun i => ∃ k : Nat, k ≤ n ∧ i = .int .i64 k ∧ ∀ j, j < k → zs.getD j 0 ≠ x) (fun i => n - (intOf i).toNat)
  case atStart => exact ⟨0, Nat.zero_le _, rfl, fun j hj => by omega⟩
  case round =>
    obtain ⟨k, hk, rfl, hok⟩ := hrel
    have HOK := Lib.hid hok
    clear hok
    by_cases hlt : k < n
    · obtain ⟨b, off, rfl, hc⟩ := HC.out k hlt
      by_cases hzx : zs.getD k 0 = x
      · have HY : Hid (hasI zs x = true) := contains_hit (by rw [HL.out]; exact hlt) hzx
        rw [hzx] at hc
        clear hzx
        have hb1 : (x == x) = true := by simp
        go_wp2
        go_ret
        exact ⟨_, rfl, by rw [HY.out]; simp, rfl⟩
      · have HS : Hid (∀ j, j < k + 1 → zs.getD j 0 ≠ x) := fun j hj => by
          by_cases e : j = k
          · subst e; exact hzx
          · exact HOK.out j (by omega)
        generalize zs.getD k 0 = z at hc hzx
        have hb1 : (z == x) = false := by simpa using hzx
        have hb2 : (x == z) = false := by simpa using fun e => hzx e.symm
        clear hzx
        go_wp2
        go_round
        case rel => exact ⟨k + 1, by omega, by go_num, HS.out⟩
        case measure => simp [intOf]; omega
    · obtain rfl : k = n := by omega
      have HA : Hid (hasI zs x = false) := contains_no (fun j hj => HOK.out j (by rw [← HL.out]; exact hj))
      go_wp2
      go_ret
      exact ⟨_, rfl, by rw [HA.out]; simp, rfl⟩

set_option maxHeartbeats 400000 in
theorem iContains (u : Value) (zs : List Int) (x : Int) (w : World) (h : Rd 1 w u zs.length (ints .i64 zs)) :
    Calls Try.prog 48 #[u, .int .i64 x] w fun e w' => e = .returned (.bool (hasI zs x)) ∧ w = w' := by
  have HI := Lib.hid (iIndexInt u zs x w h)
  obtain ⟨a, cap, rfl, _⟩ := h
  go_enter Try.func48, Try.ntmps48
  go_wp2_with fail
  refine HI.out.mono ?_
  rintro e w1 ⟨z, rfl, hz, rfl⟩
  have HZ := Lib.hid hz
  clear hz HI
  by_cases h0 : 0 ≤ z
  · have hd : decide (0 ≤ z) = true := decide_eq_true h0
    go_wp2
    go_ret
    exact ⟨ret_bool (by rw [← HZ.out]; simp [h0]), rfl⟩
  · have hd : decide (0 ≤ z) = false := decide_eq_false h0
    go_wp2
    go_ret
    exact ⟨ret_bool (by rw [← HZ.out]; simp [h0]), rfl⟩

set_option maxRecDepth 100000 in
set_option maxHeartbeats 4000000 in
theorem iDropRows : CDropRows 13 := by
  intro v u zs ps ls w hz hu hn hli h hls
  subst hls
  generalize hl : ps.length = n at hn
  obtain ⟨a, cap, rfl, _, HC⟩ := h.walk hl
  have HHS := Lib.hid (fun (x : Int) W (hW : Below w.heap.size w W) => iContains u zs x W (hu.below hW))
  obtain ⟨ua, uc, rfl, _⟩ := hu
  generalize zs.length = un at HHS hz ⊢
  have HLI : Hid (∀ k, k < n → (ps.getD k P.zero).1.l.length ≤ 1048576) := fun k hk => by
    have hk' : k < ps.length := by omega
    have e : ps.getD k P.zero = ps[k] := by simp [hk']
    rw [e]
    exact hli _ (List.getElem_mem hk')
  have HMT : Hid (∀ j, j < n → dropL ((ps.map (·.1)).take (j + 1)) zs = if hasI zs (ps.getD j P.zero).1.id = true then dropL ((ps.map (·.1)).take j) zs else dropL ((ps.map (·.1)).take j) zs ++ [(ps.getD j P.zero).1]) := fun j hj => by
    refine dropL_take (by rw [List.length_map]; omega) ?_
    exact (getD_fst ps j).symm
  have HALL : Hid (dropL ((ps.map (·.1)).take n) zs = dropL (ps.map (·.1)) zs) := by
    show _ = _
    rw [← hl, List.take_of_length_le (by rw [List.length_map]; exact Nat.le_refl _)]
  have HMN : Hid (∀ j, (dropL ((ps.map (·.1)).take j) zs).length ≤ j) := fun j => Nat.le_trans (dropL_len _ _) (by rw [List.length_take]; omega)
  have B1 := below_alloc w (.cells #[] 27)
  have O1 := own_lit (e := 27) (size := 2) w #[] 0 (Nat.zero_le _) rfl
  have hz1 : (w.alloc (.cells #[] 27)).heap.size = w.heap.size + 1 := World.size_alloc _ _
  generalize hw1 : w.alloc (.cells #[] 27) = w1 at B1 O1 hz1
  have HW1 := Lib.hid hw1
  clear hw1 hl h hli
  go_enter Try.func13, Try.ntmps13
  go_wp2
  rw [HW1.out]
  go_loopw [5, 11] (fun o i wr => ∃ (j : Nat) (qs : List P), j ≤ n ∧ i = .int .i64 j ∧ (∃ g cp, o = .slice (some ⟨g, 0, none⟩) qs.length cp) ∧ MyRs w.heap.size wr.heap.size wr o qs ∧ qs.map (·.1) = dropL ((ps.map (·.1)).take j) zs ∧ Below w.heap.size w wr) (fun _ i _ => n - (intOf i).toNat)
  case atStart => exact ⟨0, [], Nat.zero_le _, rfl, ⟨_, _, rfl⟩, ⟨.inr (show Own 27 2 w.heap.size w1.heap.size w1 _ 0 [] by simpa using O1), fun p hp => (by cases hp), List.Pairwise.nil⟩, rfl, B1⟩
  case round =>
    obtain ⟨j, qs, hj, rfl, ⟨og, ocp, rfl⟩, hmy, hqs, hbr⟩ := hrel
    have HMY := Lib.hid hmy
    have HQS := Lib.hid hqs
    have hsz := hbr.size
    have hql : qs.length ≤ j := by
      have e := congrArg List.length hqs
      rw [List.length_map] at e
      rw [e]
      exact HMN.out j
    clear O1 hqs B1 hz1
    by_cases hlt : j < n
    · obtain ⟨b, off, rfl, c0, c1, hat⟩ := HC.out j hlt wr hbr
      have HST := Lib.hid (HMT.out j hlt)
      have hll := HLI.out j hlt
      have HSJ := Lib.hid (fun W (hW : Below wr.heap.size wr W) => HHS.out (ps.getD j P.zero).1.id W (below_then hbr hW hbr.size))
      generalize hpj : ps.getD j P.zero = pj at c0 c1 hat HST hll HSJ
      clear hpj
      obtain ⟨r, x⟩ := pj
      simp only at c0 c1 hat HST hll HSJ
      obtain ⟨xa, xc, rfl⟩ := hat.sl
      have HAT := Lib.hid (fun W (hW : Below wr.heap.size wr W) => iCopyRow r (.slice xa r.l.length xc) W hll (hat.below hW))
      clear hat
      generalize hhb : hasI zs r.id = hb at HSJ
      have HHB := Lib.hid hhb
      clear hhb
      generalize hxl : r.l.length = xn at c1 hll HSJ HAT
      obtain ⟨ri, rl⟩ := r
      simp only at c0 c1 HST HHB HAT HSJ hll
      have HXL := Lib.hid hxl
      clear hmy hxl
      have BW := below_alloc wr (.cells #[.int .i64 ri, .slice xa xn xc] 27)
      have T2 := two_new wr (.int .i64 ri) (.slice xa xn xc) 27
      generalize hwa : wr.alloc (.cells #[.int .i64 ri, .slice xa xn xc] 27) = wa at BW T2
      have HWA := Lib.hid hwa
      obtain ⟨⟨t0, t1⟩, t2, t3⟩ := T2
      clear hwa
      cases hb with
      | true =>
        have HF : Hid (MyRs w.heap.size wa.heap.size wa _ qs ∧ qs.map (·.1) = dropL ((ps.map (·.1)).take (j + 1)) zs ∧ Below w.heap.size w wa) := ⟨(HMY.out.below BW (Nat.le_refl _)).wide (Nat.le_refl _) BW.size, by rw [HST.out, if_pos HHB.out]; exact HQS.out, below_then hbr BW hbr.size⟩
        go_wp2_with fail
        rw [HWA.out]
        refine (HSJ.out _ BW).mono ?_
        rintro e w' ⟨rfl, rfl⟩
        go_wp2
        go_roundw
        case rel => exact ⟨j + 1, qs, by omega, by go_num, ⟨_, _, rfl⟩, HF.out⟩
        case measure => simp [intOf]; omega
      | false =>
        have M2 := (HMY.out.below BW (Nat.le_refl _)).wide (Nat.le_refl _) BW.size
        have B2 := below_then hbr BW hbr.size
        have HA2 := Lib.hid (HAT.out _ BW)
        go_wp2_with fail
        rw [HWA.out]
        refine (HSJ.out _ BW).mono ?_
        rintro e w' ⟨rfl, rfl⟩
        clear HSJ
        go_wp2_with fail
        refine HA2.out.mono ?_
        rintro e w3 ⟨x3, rfl, o3, b3⟩
        clear c0 c1 t0 t1 t2 t3
        obtain ⟨ya, yc, hy⟩ := o3.atN.sl
        generalize rl.length = yn at hy
        subst hy
        have M3 := (M2.below b3 (Nat.le_refl _))
        have B3 := below_then B2 b3 B2.size
        have hs3 := b3.size
        have hs2 := B2.size
        have M4 := M3
        have B4 := B3
        have O4 := o3
        have hs4 := hs3
        have HM4 := Lib.hid M4
        have HO4 := Lib.hid O4
        have ONN := M4.1
        have hlo4 : w.heap.size ≤ w3.heap.size := B4.size
        clear o3 b3 M4 O4 M2 M3 B2 HA2 HAT
        go_wp2_with (at_builtin; refine appendR_law Try.elemRows rfl _ _ rfl w.heap.size _ _ _ _ ri ya yn yc rfl ONN hlo4 _ rfl rfl (by unfold maxLen; omega) (by omega) ?_)
        intro v5 w5 o5 e5
        have HF : Hid (MyRs w.heap.size w5.heap.size w5 v5 (qs ++ [(⟨ri, rl⟩, .slice ya yn yc)]) ∧ (qs ++ [((⟨ri, rl⟩ : R), Value.slice ya yn yc)]).map (·.1) = dropL ((ps.map (·.1)).take (j + 1)) zs ∧ Below w.heap.size w w5) := ⟨HM4.out.append (by omega) HO4.out (by omega) o5 e5, by rw [HST.out, if_neg (by rw [HHB.out]; simp), List.map_append, HQS.out]; rfl, B4.grown e5.grown B4.size (fun k hk => Nat.le_of_not_lt (fun hlt => ONN.not_low (b := k) (by omega) hk))⟩
        obtain ⟨vb, vc, hv5⟩ : ∃ g cp, v5 = .slice (some ⟨g, 0, none⟩) (qs.length + 1) cp := by obtain ⟨g, cp, e, _⟩ := o5; exact ⟨g, cp, e⟩
        subst hv5
        clear o5 e5 B4 ONN
        go_wp2
        go_roundw
        case rel => exact ⟨j + 1, _, by omega, by go_num, ⟨_, _, by rw [List.length_append]; rfl⟩, HF.out⟩
        case measure => simp [intOf]; omega
    · obtain rfl : j = n := by omega
      clear hmy
      go_wp2
      go_ret
      exact ⟨_, rfl, qs, HMY.out, HQS.out.trans HALL.out, hbr⟩

end Go.Proofs.Ytkofafefnlommaa

/- The program's FindRow (written by mk_S13b.py). -/
namespace Go.Proofs.Ytkofafefnlommaa
open Go.RowKit

set_option maxRecDepth 100000 in
set_option maxHeartbeats 4000000 in
theorem iFindRow : CFindRow 14 := by
  intro v id ps ls w hn hli h hls
  subst hls
  generalize hl : ps.length = n at hn
  obtain ⟨a, cap, rfl, _, HC⟩ := h.walk hl
  have HLI : Hid (∀ k, k < n → (ps.getD k P.zero).1.l.length ≤ 1048576) := fun k hk => by
    have hk' : k < ps.length := by omega
    have e : ps.getD k P.zero = ps[k] := by simp [hk']
    rw [e]
    exact hli _ (List.getElem_mem hk')
  have HHIT : Hid (∀ j, j < n → (∀ k, k < j → (ps.getD k P.zero).1.id ≠ id) → (ps.getD j P.zero).1.id = id → findL (ps.map (·.1)) id = some (ps.getD j P.zero).1) := fun j hj hk he => by
    have := find_hit (l := ps.map (·.1)) (n := id) (j := j) (by rw [List.length_map]; omega) (fun k hkj => by rw [getD_fstR]; exact hk k hkj) (by rw [getD_fstR]; exact he)
    rw [this, getD_fstR]
  have HNONE : Hid ((∀ k, k < n → (ps.getD k P.zero).1.id ≠ id) → findL (ps.map (·.1)) id = none) := fun hk => find_none (fun k hkj => by rw [getD_fstR]; exact hk k (by rw [List.length_map] at hkj; omega))
  have B1 := below_alloc w (.cells #[.int .i64 0, .slice none 0 0] 27)
  have T1 := two_new w (.int .i64 0) (.slice none 0 0) 27
  have hz1 : (w.alloc (.cells #[.int .i64 0, .slice none 0 0] 27)).heap.size = w.heap.size + 1 := World.size_alloc _ _
  generalize hw1 : w.alloc (.cells #[.int .i64 0, .slice none 0 0] 27) = w1 at B1 T1 hz1
  have HW1 := Lib.hid hw1
  clear hw1 hl h hli
  go_enter Try.func14, Try.ntmps14
  go_wp2
  rw [HW1.out]
  go_loopw [10] (fun i wr => ∃ j : Nat, j ≤ n ∧ i = .int .i64 j ∧ (∀ k, k < j → (ps.getD k P.zero).1.id ≠ id) ∧ Two wr w.heap.size (.int .i64 0) (.slice none 0 0) ∧ Below w.heap.size w wr ∧ w.heap.size + 1 ≤ wr.heap.size) (fun i _ => n - (intOf i).toNat)
  case atStart => exact ⟨0, Nat.zero_le _, rfl, fun k hk => by omega, T1, B1, by omega⟩
  case round =>
    obtain ⟨j, hj, rfl, hno, hT, hbr, hsz⟩ := hrel
    have HNO := Lib.hid hno
    clear hno T1 B1 hz1
    by_cases hlt : j < n
    · obtain ⟨b, off, rfl, c0, c1, hat⟩ := HC.out j hlt wr hbr
      have hll := HLI.out j hlt
      have HSTEP : Hid ((ps.getD j P.zero).1.id ≠ id → ∀ k, k < j + 1 → (ps.getD k P.zero).1.id ≠ id) := fun he k hk => by
        by_cases e : k = j
        · subst e; exact he
        · exact HNO.out k (by omega)
      have HFD := Lib.hid (HHIT.out j hlt HNO.out)
      generalize ps.getD j P.zero = pj at c0 c1 hat hll HSTEP HFD
      obtain ⟨r, x⟩ := pj
      simp only at c0 c1 hat hll HSTEP HFD
      obtain ⟨xa, xc, rfl⟩ := hat.sl
      have HAT := Lib.hid (fun W (hW : Below wr.heap.size wr W) => iCopyRow r (.slice xa r.l.length xc) W hll (hat.below hW))
      clear hat
      generalize hxl : r.l.length = xn at c1 hll HAT
      obtain ⟨ri, rl⟩ := r
      simp only at c0 c1 HAT HSTEP HFD
      clear hxl
      have BW := below_alloc wr (.cells #[.int .i64 ri, .slice xa xn xc] 27)
      have T2 := two_new wr (.int .i64 ri) (.slice xa xn xc) 27
      have T0 := hT.below BW
      generalize hwa : wr.alloc (.cells #[.int .i64 ri, .slice xa xn xc] 27) = wa at BW T2 T0
      have HWA := Lib.hid hwa
      obtain ⟨⟨t0, t1⟩, t2, t3⟩ := T2
      clear hwa
      by_cases he : ri = id
      · have HF := Lib.hid (HFD.out he)
        subst he
        have hb1 : (ri == ri) = true := by simp
        have HA2 := Lib.hid (HAT.out _ BW)
        have hT2 := T0
        have B2 := below_then hbr BW hbr.size
        have hs2 := BW.size
        clear HFD HSTEP HAT
        go_wp2_with fail
        rw [HWA.out]
        refine HA2.out.mono ?_
        rintro e w3 ⟨x3, rfl, o3, b3⟩
        clear c0 c1 t0 t1 t2 t3
        obtain ⟨ya, yc, hy⟩ := o3.atN.sl
        generalize rl.length = yn at hy
        subst hy
        have hs3 := b3.size
        have B3 := below_then B2 b3 B2.size
        have O3 := Lib.hid o3
        obtain ⟨⟨p0, p1⟩, p2, p3⟩ := hT2.below b3
        clear o3 b3 HA2 hT2
        go_wp2
        refine bodyPost_ret (v := .tuple #[.agg #[.int .i64 ri, .slice ya yn yc], .bool true]) (by simp [results, Try.results14, go_sem, *]) rfl ⟨.slice ya yn yc, ?_, ?_, ?_⟩
        · rw [HF.out]; rfl
        · rw [HF.out]
          exact ((O3.out.setBelow (by simp; omega) _).setBelow (by simp; omega) _).wide (by omega) (by simp)
        · exact (B3.setCell (by simp) _).setCell (by simp) _
      · have HS2 := Lib.hid (HSTEP.out he)
        have hb1 : (ri == id) = false := by simpa using he
        have hT2 := Lib.hid T0
        have B2 := below_then hbr BW hbr.size
        have hs2 := BW.size
        clear HFD HSTEP HAT he
        go_wp2
        rw [HWA.out]
        go_roundw
        case rel => exact ⟨j + 1, by omega, by go_num, HS2.out, hT2.out, B2, by omega⟩
        case measure => simp [intOf]; omega
    · obtain rfl : j = n := by omega
      have HF := Lib.hid (HNONE.out HNO.out)
      obtain ⟨⟨p0, p1⟩, p2, p3⟩ := hT
      go_wp2
      refine bodyPost_ret (v := .tuple #[.agg #[.int .i64 0, .slice none 0 0], .bool false]) (by simp [results, Try.results14, go_sem, *]) rfl ⟨.slice none 0 0, ?_, ?_, ?_⟩
      · rw [HF.out]; rfl
      · rw [HF.out]; exact .inl ⟨rfl, rfl, rfl⟩
      · exact (hbr.setCell (by simp) _).setCell (by simp) _

end Go.Proofs.Ytkofafefnlommaa

/- Rows of one's own: two lists of them joined, one Row put in, heads and tails of a slice. -/
namespace Go.Proofs.Ytkofafefnlommaa
open Go.RowKit

theorem MyRs.atN {lo hi w v} {ps : List P} (h : MyRs lo hi w v ps) : AtN 2 w v ps.length (prs ps) := h.1.atN
theorem prs_one {lo hi w v} {ps : List P} (h : MyRs lo hi w v ps) : ∀ u ∈ prs ps, u.oneCell' = true := by
  intro u hu
  unfold prs at hu
  obtain ⟨p, hp, hv⟩ := List.mem_flatMap.1 hu
  obtain ⟨a, cp, e⟩ := (h.2.1 p hp).atN.sl
  simp only [P.cs, List.mem_cons, List.not_mem_nil, or_false] at hv
  rcases hv with rfl | rfl
  · rfl
  · rw [e]
    rfl
/-- append(l4All(a), l4All(b)...): the rows of both are one's own. -/
theorem MyRs.join {lo lo1 h1 lo2 h2 : Nat} {w2 w3 : World} {va vb v' : Value} {qa qb : List P} (ha : MyRs lo1 h1 w2 va qa) (hb : MyRs lo2 h2 w2 vb qb) (_hown : Own 27 2 lo1 h1 w2 va qa.length (prs qa)) (l1 : lo ≤ lo1) (l2 : lo ≤ lo2) (k1 : h1 ≤ w2.heap.size) (k2 : h2 ≤ w2.heap.size) (hd : h1 ≤ lo2 ∨ h2 ≤ lo1)
    (ho : Own 27 2 lo1 w3.heap.size w3 v' (qa.length + qb.length) (prs qa ++ prs qb)) (he : Ext w2 w3 va v') : MyRs lo w3.heap.size w3 v' (qa ++ qb) := by
  have hz := he.grown.size
  refine ⟨?_, fun q hq => ?_, ?_⟩
  · rw [List.length_append]
    have e : prs (qa ++ qb) = prs qa ++ prs qb := by simp [prs]
    rw [e]
    exact .inr (ho.lower l1)
  · rcases List.mem_append.1 hq with hq | hq
    · exact ((ha.2.1 q hq).other he.grown (OwnN.block_ne ha.1 (ha.2.1 q hq))).wide l1 (by omega)
    · exact ((hb.2.1 q hq).other he.grown (OwnN.block_ne ha.1 (hb.2.1 q hq))).wide l2 (by omega)
  · rw [List.map_append]
    unfold Apart
    rw [List.pairwise_append]
    refine ⟨ha.2.2, hb.2.2, fun u hu v hv => ?_⟩
    obtain ⟨q, hq, rfl⟩ := List.mem_map.1 hu
    obtain ⟨p, hp, rfl⟩ := List.mem_map.1 hv
    rcases hd with hd | hd
    · exact (ha.2.1 q hq).lt hd (fun x hx => ((hb.2.1 p hp).in_ hx).1)
    · by_cases hn : q.2.ownBlock = none
      · exact .inl hn
      · refine .inr (fun e => ?_)
        cases hx : q.2.ownBlock with
        | none => exact hn hx
        | some x =>
          have e1 := (ha.2.1 q hq).in_ hx
          have e2 := (hb.2.1 p hp).in_ (e.symm.trans hx)
          omega

/-- One more Row at place k. -/
theorem MyRs.insert {lo s k : Nat} {w1 w2 : World} {out out' : Value} {ps : List P} {p : P} (h : MyRs lo s w1 out ps) (hls : lo ≤ s) (hp : OwnV s w1.heap.size w1 p.2 p.1.l) (hs : s ≤ w1.heap.size) (ho : Own 27 2 lo w2.heap.size w2 out' (ps.length + 1) (prs (ps.take k ++ p :: ps.drop k))) (he : Ext w1 w2 out out') : MyRs lo w2.heap.size w2 out' (ps.take k ++ p :: ps.drop k) := by
  have hz := he.grown.size
  have hl : (ps.take k ++ p :: ps.drop k).length = ps.length + 1 := by
    rw [List.length_append, List.length_cons, List.length_take, List.length_drop]
    omega
  have hold : ∀ q ∈ ps, OwnV lo w2.heap.size w2 q.2 q.1.l := fun q hq => ((h.2.1 q hq).other he.grown (OwnN.block_ne h.1 (h.2.1 q hq))).wide (Nat.le_refl _) (by omega)
  have hnew : ∀ q ∈ ps, (q.2.ownBlock = none ∨ q.2.ownBlock ≠ p.2.ownBlock) ∧ (p.2.ownBlock = none ∨ p.2.ownBlock ≠ q.2.ownBlock) := fun q hq => by
    have h1 := (h.2.1 q hq).lt (Nat.le_refl _) (fun x hx => (hp.in_ hx).1)
    refine ⟨h1, ?_⟩
    rcases h1 with h1 | h1
    · by_cases hn : p.2.ownBlock = none
      · exact .inl hn
      · exact .inr (fun e => hn (e.trans h1))
    · exact .inr (fun e => h1 e.symm)
  refine ⟨?_, fun q hq => ?_, ?_⟩
  · rw [hl]
    exact .inr ho
  · rcases List.mem_append.1 hq with hq | hq
    · exact hold q (List.mem_of_mem_take hq)
    · rcases List.mem_cons.1 hq with rfl | hq
      · exact (hp.other he.grown (OwnN.block_ne h.1 hp)).wide hls hz
      · exact hold q (List.mem_of_mem_drop hq)
  · have ha : Apart ((ps.take k ++ ps.drop k).map (·.2)) := by rw [List.take_append_drop]; exact h.2.2
    unfold Apart at ha ⊢
    rw [List.map_append, List.pairwise_append] at ha
    rw [List.map_append, List.map_cons, List.pairwise_append, List.pairwise_cons]
    refine ⟨ha.1, ⟨fun v hv => ?_, ha.2.1⟩, fun u hu v hv => ?_⟩
    · obtain ⟨q, hq, rfl⟩ := List.mem_map.1 hv
      exact (hnew q (List.mem_of_mem_drop hq)).2
    · rcases List.mem_cons.1 hv with rfl | hv
      · obtain ⟨q, hq, rfl⟩ := List.mem_map.1 hu
        exact (hnew q (List.mem_of_mem_take hq)).1
      · exact ha.2.2 u hu v hv
theorem prs_take (ps : List P) (k : Nat) : prs (ps.take k) = (prs ps).take (k * 2) := by
  induction ps generalizing k with
  | nil => simp [prs]
  | cons p ps ih =>
    cases k with
    | zero => simp [prs]
    | succ k =>
      have e : prs (p :: ps) = p.cs ++ prs ps := by simp [prs]
      have e2 : prs ((p :: ps).take (k + 1)) = p.cs ++ prs (ps.take k) := by simp [prs]
      rw [e, e2, ih, show (k + 1) * 2 = k * 2 + 2 by omega]
      simp [P.cs]
theorem prs_drop (ps : List P) (k : Nat) : prs (ps.drop k) = (prs ps).drop (k * 2) := by
  induction ps generalizing k with
  | nil => simp [prs]
  | cons p ps ih =>
    cases k with
    | zero => simp
    | succ k =>
      have e : prs (p :: ps) = p.cs ++ prs ps := by simp [prs]
      rw [e, List.drop_succ_cons, ih, show (k + 1) * 2 = k * 2 + 2 by omega]
      simp [P.cs]
theorem prs_put (ps : List P) (k : Nat) (p : P) : prs (ps.take k ++ p :: ps.drop k) = (prs ps).take (k * 2) ++ p.cs ++ (prs ps).drop (k * 2) := by
  have e : prs (ps.take k ++ p :: ps.drop k) = prs (ps.take k) ++ (p.cs ++ prs (ps.drop k)) := by simp [prs]
  rw [e, prs_take, prs_drop, List.append_assoc]
theorem At.hd2 {w : World} {b off n cap k : Nat} {ps : List P} (hl : ps.length = n) (h : At 2 w (.slice (some ⟨b, off, none⟩) n cap) n (prs ps)) (hr : ∀ p ∈ ps, AtN 3 w p.2 p.1.l.length (vals p.1.l)) (hk : k ≤ n) : RdRsN w (.slice (some ⟨b, off, none⟩) k cap) (ps.take k) := by
  obtain ⟨b', off', cap', e, h1, h2, h3, h4⟩ := h
  simp only [Value.slice.injEq, Option.some.injEq, Addr.mk.injEq, and_true, true_and] at e
  obtain ⟨⟨rfl, rfl⟩, rfl⟩ := e
  have hlk : (ps.take k).length = k := by rw [List.length_take]; omega
  refine ⟨⟨_, _, by rw [hlk], by omega, by rw [prs_len], .inr ⟨b, off, rfl, fun j u hu => ?_⟩⟩, fun p hp => hr p (List.mem_of_mem_take hp)⟩
  rw [prs_take, List.getElem?_take] at hu
  split at hu
  · exact h4 j u hu
  · cases hu
theorem At.tl2 {w : World} {b off n cap k tl : Nat} {ps : List P} (hl : ps.length = n) (h : At 2 w (.slice (some ⟨b, off, none⟩) n cap) n (prs ps)) (hr : ∀ p ∈ ps, AtN 3 w p.2 p.1.l.length (vals p.1.l)) (hk : k ≤ n) (ht : k < cap → tl = off + k * 2) : RdRsN w (.slice (some ⟨b, tl, none⟩) (n - k) (cap - k)) (ps.drop k) := by
  obtain ⟨b', off', cap', e, h1, h2, h3, h4⟩ := h
  simp only [Value.slice.injEq, Option.some.injEq, Addr.mk.injEq, and_true, true_and] at e
  obtain ⟨⟨rfl, rfl⟩, rfl⟩ := e
  have hlk : (ps.drop k).length = n - k := by rw [List.length_drop, hl]
  refine ⟨⟨_, _, by rw [hlk], by omega, by rw [prs_len], .inr ⟨b, tl, rfl, fun j u hu => ?_⟩⟩, fun p hp => hr p (List.mem_of_mem_drop hp)⟩
  have hlt := (List.getElem?_eq_some_iff.1 hu).1
  rw [prs_len, hlk] at hlt
  rw [prs_drop, List.getElem?_drop] at hu
  rw [ht (by omega), Nat.add_assoc]
  exact h4 _ _ hu
theorem tail2_at (cap k b off : Nat) : ∃ tl, (if cap = k then some (⟨b, off, none⟩ : Addr) else some ⟨b, off + k * 2, none⟩) = some ⟨b, tl, none⟩ ∧ Hid (k < cap → tl = off + k * 2) := by
  by_cases e : cap = k
  · exact ⟨off, by rw [if_pos e], fun h => by omega⟩
  · exact ⟨off + k * 2, by rw [if_neg e], fun _ => rfl⟩

end Go.Proofs.Ytkofafefnlommaa

/- The contract of PutRow, for either side (written by mk_S13p.py). -/
namespace Go.Proofs.Ytkofafefnlommaa
open Go.RowKit

def CPutRow (f : Nat) : Prop := ∀ (v u : Value) (r : R) (ps : List P) (ls : List R) (w : World), ps.length ≤ 1048576 → (∀ p ∈ ps, p.1.l.length ≤ 1048576) → At 2 w v ps.length (prs ps) → (∀ p ∈ ps, AtN 3 w p.2 p.1.l.length (vals p.1.l)) → r.l.length ≤ 1048576 → AtN 3 w u r.l.length (vals r.l) → ps.map (·.1) = ls →
  Calls Try.prog f #[v, r.agg u] w fun e w' => ∃ v', e = .returned v' ∧ ∃ qs, MyRs w.heap.size w'.heap.size w' v' qs ∧ qs.map (·.1) = putL ls r ∧ Below w.heap.size w w'

end Go.Proofs.Ytkofafefnlommaa

/- The exact law of PutRow, walked; the contracts of both sides come as hypotheses (written by mk_Law13p.py). -/
namespace Go.Proofs.Ytkofafefnlommaa
open Go.RowKit

theorem MyRs.at2 {lo hi w v} {ps : List P} (h : MyRs lo hi w v ps) (hv : v ≠ .slice none 0 0) : At 2 w v ps.length (prs ps) := (h.1.resolve_left (fun e => hv e.1)).at
theorem Own.atN' {e size lo hi w v n xs} (h : Own e size lo hi w v n xs) : AtN size w v n xs := .inr h.at
theorem OwnRs.at2 {lo hi w v} {ps : List P} (h : OwnRs lo hi w v ps) : At 2 w v ps.length (prs ps) := h.1.at
theorem MyRs.vals {lo hi w v} {ps : List P} (h : MyRs lo hi w v ps) : ∀ p ∈ ps, AtN 3 w p.2 p.1.l.length (Go.Proofs.Ytkofafefnlommaa.vals p.1.l) := fun p hp => (h.2.1 p hp).atN
theorem rlenR_append (a b : List R) : rlenR (a ++ b) = rlenR a + rlenR b := by simp [rlenR]
theorem rlenR_put (l : List R) (r : R) : rlenR (putL l r) = rlenR l + (1 + 3 * r.l.length) := by
  unfold putL
  have e : rlenR (r :: l.drop (putK l r.id)) = 1 + 3 * r.l.length + rlenR (l.drop (putK l r.id)) := by simp [rlenR]
  have e2 : rlenR l = rlenR (l.take (putK l r.id)) + rlenR (l.drop (putK l r.id)) := by rw [← rlenR_append, List.take_append_drop]
  rw [rlenR_append, e, e2]
  omega

set_option maxRecDepth 100000 in
set_option maxHeartbeats 2000000 in
theorem lawPutRow (hs : CPutRow 17) (hi : CPutRow 12) (b : Option Addr) (lenb capb : Nat) (pa : List P) (r : R) (u : Value) (w : World) (hsa : ∀ p ∈ pa, ∀ v ∈ p.1.l, v.s.size ≤ maxLen) (hB : RdRs w (.slice b lenb capb) pa) (hsr : ∀ v ∈ r.l, v.s.size ≤ maxLen) (hR : r.rd w u) :
    Calls Try.prog 7 #[.slice b lenb capb, r.agg u] w fun e w' => e = .returned (.bool true) ∧ Below w.heap.size w w' := by
  have HSA := Lib.hid hsa
  have HSR := Lib.hid hsr
  unfold CPutRow at hs hi
  obtain ⟨ua, uc, rfl, _, _⟩ := id hR
  obtain ⟨ri, rl⟩ := r
  generalize hrn : rl.length = rn at *
  have HRN := Lib.hid hrn
  simp only at HSR
  have bt := below_alloc w (.cells #[.int .i64 ri, .slice ua rn uc] 57)
  have T0 := two_new w (.int .i64 ri) (.slice ua rn uc) 57
  have hz0 : (w.alloc (.cells #[.int .i64 ri, .slice ua rn uc] 57)).heap.size = w.heap.size + 1 := World.size_alloc _ _
  generalize hw0 : w.alloc (.cells #[.int .i64 ri, .slice ua rn uc] 57) = w0 at bt T0 hz0
  have HW0 := Lib.hid hw0
  clear hw0 hsa hsr hrn
  go_enter Try.func7, Try.ntmps7
  go_wp2_with fail
  rw [HW0.out]
  refine (szRowS (.slice b lenb capb) pa 1048576 w0 (by omega) (by omega) HSA.out (hB.below bt)).mono ?_
  rintro e w1 ⟨r2, rfl, hr2, hb⟩
  have z1 := hb.size
  replace T0 := T0.below hb
  replace bt := below_then bt hb (by omega)
  clear hb
  by_cases hn2 : r2 < 0
  · clear hr2
    go_wp2
    go_ret
    exact ⟨rfl, bt⟩
  have hr2' := hr2.resolve_left hn2
  have hka : (pa.length : Int) + bulkR pa ≤ 1048576 := by omega
  have hr2b : 0 ≤ r2 ∧ r2 ≤ 1048576 := by omega
  clear hr2 hr2'
  have hma : pa.length ≤ 1048576 := by omega
  have HIa : Hid (∀ p ∈ pa, p.1.l.length ≤ 1048576) := fun p hp => by
    have := bulkR_mem hp
    omega
  have HRL : Hid (rlen pa ≤ 3145728) := by
    show _ ≤ _
    have := rlen_le pa
    omega
  have HRN' : Hid (rlen pa ≤ 16777216) := by
    show _ ≤ _
    have := HRL.out
    omega
  clear hka
  obtain ⟨⟨T0a, T0b⟩, T0c, T0d⟩ := id T0
  go_wp2_with fail
  refine (szRow ⟨ri, rl⟩ (.slice ua rn uc) r2 w1 hr2b.1 hr2b.2 HSR.out (hR.below bt)).mono ?_
  rintro e w2 ⟨r3, rfl, hr3, hb⟩
  clear T0a T0b T0c T0d
  have z2 := hb.size
  replace T0 := T0.below hb
  replace bt := below_then bt hb (by omega)
  clear hb
  by_cases hn3 : r3 < 0
  · clear hr3
    go_wp2
    go_ret
    exact ⟨rfl, bt⟩
  have hrn : rn ≤ 1048576 := by
    have := HRN.out
    have h3 := hr3.resolve_left hn3
    simp only at h3
    omega
  clear hr3
  have HC : Hid (∀ W, Below w2.heap.size w2 W → W.cell? ⟨w.heap.size, 0, none⟩ = some (.int .i64 ri) ∧ W.cell? ⟨w.heap.size, 1, none⟩ = some (.slice ua rn uc)) := fun W h => (T0.below h).1
  have hB' := (Below.refl w2.heap.size w2).drew
  go_wp2_with fail
  go_region_held3 (fun W => W.cell? ⟨w.heap.size, 0, none⟩ = some (.int .i64 ri) ∧ W.cell? ⟨w.heap.size, 1, none⟩ = some (.slice ua rn uc)) (exact HC.out _ hB') (first | (go_at_call 24; (with_reducible refine (toRowS (.slice b lenb capb) pa _ hma HIa.out (hB.below (below_then bt hB' (by omega)))).mono ?_); rintro e va1 ⟨t1, q1, rfl, e1, o1, hb⟩; replace hB' := below_then hB' hb hB'.size) | (go_at_call 35; (with_reducible refine (toRow ⟨ri, rl⟩ (.slice ua rn uc) _ (by rw [HRN.out]; omega) (hR.below (below_then bt hB' (by omega)))).mono ?_); rintro e vb1 ⟨s1, rfl, p1, hb⟩; replace o1 := o1.below hb (Nat.le_refl _); replace hB' := below_then hB' hb hB'.size) | (go_at_call 17; (with_reducible refine (hs t1 s1 ⟨ri, rl⟩ q1 (pa.map (·.1)) _ (by rw [len_fst e1]; exact hma) (small_fst e1 HIa.out) o1.at2 o1.my.vals (by rw [HRN.out]; omega) p1.atN' e1).mono ?_); rintro e vc1 ⟨v0, rfl, qv, ov, ev, hb⟩; replace hB' := below_then hB' hb hB'.size))
  have hb := hB'
  clear hB' o1 p1 e1 HC
  have zc1 := hb.size
  replace T0 := T0.below hb
  replace bt := below_then bt hb (by omega)
  clear hb
  have HV := Lib.hid ev
  clear ev
  go_wp2_with fail
  refine (toRowS (.slice b lenb capb) pa vc1 hma HIa.out (hB.below bt)).mono ?_
  rintro e w3 ⟨x0, qx, rfl, e0, o0, hb⟩
  have z3 := hb.size
  replace ov := ov.below hb (by omega)
  replace T0 := T0.below hb
  replace bt := below_then bt hb (by omega)
  clear hb
  have HX0 : Hid (x0 ≠ .slice none 0 0) := by obtain ⟨_, _, e, _⟩ := o0.1; rw [e]; simp [Hid]
  have ox := o0.my
  have Hqx := Lib.hid e0
  clear o0 e0
  obtain ⟨⟨T0a, T0b⟩, T0c, T0d⟩ := id T0
  go_wp2_with fail
  refine (toRow ⟨ri, rl⟩ (.slice ua rn uc) w3 (by rw [HRN.out]; omega) (hR.below bt)).mono ?_
  rintro e w4 ⟨x1, rfl, oy, hb⟩
  clear T0a T0b T0c T0d
  have z4 := hb.size
  replace ov := ov.below hb (by omega)
  replace ox := ox.below hb (by omega)
  replace T0 := T0.below hb
  replace bt := below_then bt hb (by omega)
  clear hb
  obtain ⟨gy, cy, hy⟩ : ∃ g cp, x1 = .slice (some ⟨g, 0, none⟩) rn cp := by obtain ⟨g, cp, e, _⟩ := oy; simp only [HRN.out] at e; exact ⟨g, cp, e⟩
  subst hy
  have hb := below_alloc w4 (.cells #[.int .i64 ri, .slice (some ⟨gy, 0, none⟩) rn cy] 27)
  have T1 := two_new w4 (.int .i64 ri) (.slice (some ⟨gy, 0, none⟩) rn cy) 27
  have hsT1 : (w4.alloc (.cells #[.int .i64 ri, .slice (some ⟨gy, 0, none⟩) rn cy] 27)).heap.size = w4.heap.size + 1 := World.size_alloc _ _
  replace ov := ov.below hb (by omega)
  replace ox := ox.below hb (by omega)
  replace oy := oy.below hb (by omega)
  replace T0 := T0.below hb
  replace bt := below_then bt hb (by omega)
  clear hb
  obtain ⟨⟨T1a, T1b⟩, T1c, T1d⟩ := id T1
  generalize hw : w4.alloc (.cells #[.int .i64 ri, .slice (some ⟨gy, 0, none⟩) rn cy] 27) = w5 at bt T1 hsT1 ov ox oy T0
  have Hw5 := Lib.hid hw
  clear hw
  generalize hqy : w4.heap.size = qy at T1 hsT1
  have HQY := Lib.hid hqy
  clear hqy
  go_wp2_with fail
  rw [Hw5.out]
  try rw [HQY.out]
  have hqw := HQY.out
  refine (hi x0 (.slice (some ⟨gy, 0, none⟩) rn cy) ⟨ri, rl⟩ qx (pa.map (·.1)) w5 (by rw [len_fst Hqx.out]; exact hma) (small_fst Hqx.out HIa.out) (ox.at2 HX0.out) ox.vals (by rw [HRN.out]; omega) oy.atN' Hqx.out).mono ?_
  rintro e w6 ⟨g0, rfl, qg, og, eg, hb⟩
  clear T1a T1b T1c T1d
  have z6 := hb.size
  replace ov := ov.below hb (by omega)
  replace ox := ox.below hb (by omega)
  replace oy := oy.below hb (by omega)
  replace T0 := T0.below hb
  replace T1 := T1.below hb
  replace bt := below_then bt hb (by omega)
  clear hb
  have HG := Lib.hid eg
  clear eg
  go_wp2_with fail
  refine (eqRowS g0 v0 qg qv w6 (HV.out.trans HG.out.symm) og.rd ov.rd).mono ?_
  rintro e w7 ⟨rfl, hb⟩
  have z7 := hb.size
  replace ov := ov.below hb (by omega)
  replace ox := ox.below hb (by omega)
  replace oy := oy.below hb (by omega)
  replace og := og.below hb (by omega)
  replace T0 := T0.below hb
  replace T1 := T1.below hb
  replace bt := below_then bt hb (by omega)
  clear hb
  go_wp2_with fail
  refine (toRowS (.slice b lenb capb) pa w7 hma HIa.out (hB.below bt)).mono ?_
  rintro e w8 ⟨t3, q3, rfl, e0, o0, hb⟩
  have z8 := hb.size
  replace ov := ov.below hb (by omega)
  replace ox := ox.below hb (by omega)
  replace oy := oy.below hb (by omega)
  replace og := og.below hb (by omega)
  replace T0 := T0.below hb
  replace T1 := T1.below hb
  replace bt := below_then bt hb (by omega)
  clear hb
  have o3 := o0.my
  have Hq3 := Lib.hid e0
  clear o0 e0
  go_wp2_with fail
  refine (eqRowS x0 t3 qx q3 w8 (Hq3.out.trans Hqx.out.symm) ox.rd o3.rd).mono ?_
  rintro e w9 ⟨rfl, hb⟩
  have z9 := hb.size
  replace ov := ov.below hb (by omega)
  replace ox := ox.below hb (by omega)
  replace oy := oy.below hb (by omega)
  replace og := og.below hb (by omega)
  replace o3 := o3.below hb (by omega)
  replace T0 := T0.below hb
  replace T1 := T1.below hb
  replace bt := below_then bt hb (by omega)
  clear hb
  clear o3
  have HC : Hid (∀ W, Below w9.heap.size w9 W → W.cell? ⟨qy, 0, none⟩ = some (.int .i64 ri) ∧ W.cell? ⟨qy, 1, none⟩ = some (.slice (some ⟨gy, 0, none⟩) rn cy) ∧ W.cell? ⟨w.heap.size, 0, none⟩ = some (.int .i64 ri) ∧ W.cell? ⟨w.heap.size, 1, none⟩ = some (.slice ua rn uc)) := fun W h => ⟨(T1.below h).1.1, (T1.below h).1.2, (T0.below h).1.1, (T0.below h).1.2⟩
  have hB' := (Below.refl w9.heap.size w9).drew
  go_wp2_with fail
  go_region_held3 (fun W => W.cell? ⟨qy, 0, none⟩ = some (.int .i64 ri) ∧ W.cell? ⟨qy, 1, none⟩ = some (.slice (some ⟨gy, 0, none⟩) rn cy) ∧ W.cell? ⟨w.heap.size, 0, none⟩ = some (.int .i64 ri) ∧ W.cell? ⟨w.heap.size, 1, none⟩ = some (.slice ua rn uc)) (exact HC.out _ hB') (first | (go_at_call 35; (with_reducible refine (toRow ⟨ri, rl⟩ (.slice ua rn uc) _ (by rw [HRN.out]; omega) (hR.below (below_then bt hB' (by omega)))).mono ?_); rintro e u1 ⟨t4, rfl, o4, hb⟩; replace hB' := below_then hB' hb hB'.size) | (go_at_call 28; (with_reducible refine (eqRow ⟨ri, rl⟩ (.slice (some ⟨gy, 0, none⟩) rn cy) t4 _ (R.of_own (r := ⟨ri, rl⟩) (oy.below hB' (by omega)) rfl) (R.of_own (r := ⟨ri, rl⟩) o4 rfl)).mono ?_); rintro e u2 ⟨rfl, hb⟩; replace hB' := below_then hB' hb hB'.size))
  have hb := hB'
  clear hB' o4 HC
  have zu2 := hb.size
  replace ov := ov.below hb (by omega)
  replace ox := ox.below hb (by omega)
  replace oy := oy.below hb (by omega)
  replace og := og.below hb (by omega)
  replace T0 := T0.below hb
  replace T1 := T1.below hb
  replace bt := below_then bt hb (by omega)
  clear hb
  go_wp2_with fail
  refine (markRowsM x0 qx _ _ 1 u2 (by omega) (by omega) (by rw [len_fst Hqx.out]; exact hma) (by rw [rlen_fst Hqx.out]; exact HRN'.out) ox).mono ?_
  rintro e w10 ⟨rfl, _, hg⟩
  have z10 := hg.2.2.2.1
  replace ov := ov.within hg (by omega)
  replace oy := oy.within hg (by omega)
  replace og := og.within hg (by omega)
  replace T0 := T0.within hg (by omega)
  replace T1 := T1.within hg (by omega)
  replace bt := bt.trans (hg.below (by omega) (by omega))
  clear hg
  clear ox
  have HK1 : Hid (0 < 1 + rlen qx ∧ 1 + rlen qx ≤ 3145729) := by
    have h := HRL.out
    rw [← rlen_fst Hqx.out] at h
    constructor <;> omega
  generalize 1 + rlen qx = k1 at HK1
  obtain ⟨hk0, hk2⟩ := HK1.out
  obtain ⟨⟨T1a, T1b⟩, T1c, T1d⟩ := id T1
  go_wp2_with fail
  refine (markRow2 ri rl rn (.slice (some ⟨gy, 0, none⟩) rn cy) _ _ k1 w10 HRN.out hk0 (by omega) (by omega) (by omega) (.inr oy)).mono ?_
  rintro e w11 ⟨rfl, _, hg⟩
  clear T1a T1b T1c T1d
  have z11 := hg.2.2.2.1
  replace ov := ov.within hg (by omega)
  replace og := og.within hg (by omega)
  replace T0 := T0.within hg (by omega)
  replace T1 := T1.within hg (by omega)
  replace bt := bt.trans (hg.below (by omega) (by omega))
  clear hg
  clear oy
  generalize k1 + 3 * rn = k3
  go_wp2_with fail
  refine (eqRowS g0 v0 qg qv w11 (HV.out.trans HG.out.symm) og.rd ov.rd).mono ?_
  rintro e w12 ⟨rfl, hb⟩
  have z12 := hb.size
  replace ov := ov.below hb (by omega)
  replace og := og.below hb (by omega)
  replace T0 := T0.below hb
  replace T1 := T1.below hb
  replace bt := below_then bt hb (by omega)
  clear hb
  have HGL : Hid (qg.length ≤ 1048577 ∧ rlen qg ≤ 16777216) := by
    refine ⟨?_, ?_⟩
    · have e := congrArg List.length HG.out
      rw [List.length_map, putL_len, List.length_map] at e
      omega
    · have h := HRL.out
      rw [rlen_R, HG.out, rlenR_put, ← rlen_R]
      have := HRN.out
      simp only
      omega
  go_wp2_with fail
  refine (markRowsW g0 qg _ _ 1 w12 (by omega) (by omega) HGL.out.1 HGL.out.2 og).mono ?_
  rintro e w13 ⟨rfl, on, hg⟩
  have z13 := hg.2.2.2.1
  replace ov := ov.within hg (by omega)
  replace T0 := T0.within hg (by omega)
  replace T1 := T1.within hg (by omega)
  replace bt := bt.trans (hg.below (by omega) (by omega))
  clear hg
  clear og
  have og := on
  clear on
  go_wp2_with fail
  refine (heldRowSw g0 qg 1 w13 (by omega) (by omega) HGL.out.1 HGL.out.2 og.rd).mono ?_
  rintro e w14 ⟨rfl, hb⟩
  have z14 := hb.size
  replace ov := ov.below hb (by omega)
  replace og := og.below hb (by omega)
  replace T0 := T0.below hb
  replace T1 := T1.below hb
  replace bt := below_then bt hb (by omega)
  clear hb
  have HNE : ((1 + rlen qg : Nat) : Int) ≥ 0 := by omega
  have HC : Hid (∀ W, Below w14.heap.size w14 W → W.cell? ⟨w.heap.size, 0, none⟩ = some (.int .i64 ri) ∧ W.cell? ⟨w.heap.size, 1, none⟩ = some (.slice ua rn uc)) := fun W h => (T0.below h).1
  have hB' := (Below.refl w14.heap.size w14).drew
  go_wp2_with fail
  go_region_held3 (fun W => W.cell? ⟨w.heap.size, 0, none⟩ = some (.int .i64 ri) ∧ W.cell? ⟨w.heap.size, 1, none⟩ = some (.slice ua rn uc)) (exact HC.out _ hB') (first | (go_at_call 24; (with_reducible refine (toRowS (.slice b lenb capb) pa _ hma HIa.out (hB.below (below_then bt hB' (by omega)))).mono ?_); rintro e va5 ⟨t5, q5, rfl, e5, o5, hb⟩; replace hB' := below_then hB' hb hB'.size) | (go_at_call 35; (with_reducible refine (toRow ⟨ri, rl⟩ (.slice ua rn uc) _ (by rw [HRN.out]; omega) (hR.below (below_then bt hB' (by omega)))).mono ?_); rintro e vb5 ⟨s5, rfl, p5, hb⟩; replace o5 := o5.below hb (Nat.le_refl _); replace hB' := below_then hB' hb hB'.size) | (go_at_call 12; (with_reducible refine (hi t5 s5 ⟨ri, rl⟩ q5 (pa.map (·.1)) _ (by rw [len_fst e5]; exact hma) (small_fst e5 HIa.out) o5.at2 o5.my.vals (by rw [HRN.out]; omega) p5.atN' e5).mono ?_); rintro e vc5 ⟨h0, rfl, qh, oh, eh, hb⟩; replace hB' := below_then hB' hb hB'.size))
  have hb := hB'
  clear hB' o5 p5 e5 HC
  have zc5 := hb.size
  replace ov := ov.below hb (by omega)
  replace og := og.below hb (by omega)
  replace T0 := T0.below hb
  replace T1 := T1.below hb
  replace bt := below_then bt hb (by omega)
  clear hb
  go_wp2_with fail
  refine (eqRowS h0 v0 qh qv vc5 (HV.out.trans eh.symm) oh.rd ov.rd).mono ?_
  rintro e w15 ⟨rfl, hb⟩
  have z15 := hb.size
  replace ov := ov.below hb (by omega)
  replace og := og.below hb (by omega)
  replace oh := oh.below hb (by omega)
  replace T0 := T0.below hb
  replace T1 := T1.below hb
  replace bt := below_then bt hb (by omega)
  clear hb
  go_wp2_with fail
  refine (heldRowSw g0 qg 1 w15 (by omega) (by omega) HGL.out.1 HGL.out.2 og.rd).mono ?_
  rintro e w16 ⟨rfl, hb⟩
  have z16 := hb.size
  replace ov := ov.below hb (by omega)
  replace og := og.below hb (by omega)
  replace oh := oh.below hb (by omega)
  replace T0 := T0.below hb
  replace T1 := T1.below hb
  replace bt := below_then bt hb (by omega)
  clear hb
  go_wp2
  go_ret
  exact ⟨rfl, bt⟩

end Go.Proofs.Ytkofafefnlommaa

/- The model's l4All (written by mk_S12j.py). -/
namespace Go.Proofs.Ytkofafefnlommaa
open Go.RowKit

set_option maxRecDepth 100000 in
set_option maxHeartbeats 4000000 in
theorem sL4All (v : Value) (ps : List P) (w : World) (hn : ps.length ≤ 1048576) (hli : ∀ p ∈ ps, p.1.l.length ≤ 1048576) (h : RdRsN w v ps) :
    Calls Try.prog 50 #[v] w fun e w' => ∃ v' qs, e = .returned v' ∧ MyRs w.heap.size w'.heap.size w' v' qs ∧ qs.map (·.1) = ps.map (·.1) ∧ (∃ g cp, v' = .slice (some ⟨g, 0, none⟩) qs.length cp) ∧ Below w.heap.size w w' := by
  generalize hl : ps.length = n at hn
  obtain ⟨a, cap, rfl, _, HC⟩ := h.walk hl
  have HLI : Hid (∀ k, k < n → (ps.getD k P.zero).1.l.length ≤ 1048576) := fun k hk => by
    have hk' : k < ps.length := by omega
    have e : ps.getD k P.zero = ps[k] := by simp [hk']
    rw [e]
    exact hli _ (List.getElem_mem hk')
  have HMT : Hid (∀ j, j < n → (ps.map (·.1)).take (j + 1) = (ps.map (·.1)).take j ++ [(ps.getD j P.zero).1]) := fun j hj => by
    have hk' : j < ps.length := by omega
    rw [List.take_succ_eq_append_getElem (by rw [List.length_map]; omega), getDe ps P.zero hk', List.getElem_map]
  have HALL : Hid ((ps.map (·.1)).take n = ps.map (·.1)) := by
    show _ = _
    rw [← hl, List.take_of_length_le (by rw [List.length_map]; exact Nat.le_refl _)]
  have B1 := below_alloc w (.cells #[] 27)
  have O1 := own_lit (e := 27) (size := 2) w #[] 0 (Nat.zero_le _) rfl
  have hz1 : (w.alloc (.cells #[] 27)).heap.size = w.heap.size + 1 := World.size_alloc _ _
  generalize hw1 : w.alloc (.cells #[] 27) = w1 at B1 O1 hz1
  have HW1 := Lib.hid hw1
  clear hw1 hl h hli
  go_enter Try.func50, Try.ntmps50
  go_wp2
  rw [HW1.out]
  go_loopw [3, 4] (fun o i wr => ∃ (j : Nat) (qs : List P), j ≤ n ∧ i = .int .i64 j ∧ (∃ g cp, o = .slice (some ⟨g, 0, none⟩) qs.length cp) ∧ MyRs w.heap.size wr.heap.size wr o qs ∧ qs.map (·.1) = (ps.map (·.1)).take j ∧ qs.length = j ∧ Below w.heap.size w wr ∧ w.heap.size ≤ wr.heap.size) (fun _ i _ => n - (intOf i).toNat)
  case atStart => exact ⟨0, [], Nat.zero_le _, rfl, ⟨_, _, rfl⟩, ⟨.inr (show Own 27 2 w.heap.size w1.heap.size w1 _ 0 [] by simpa using O1), fun p hp => (by cases hp), List.Pairwise.nil⟩, rfl, rfl, B1, by omega⟩
  case round =>
    obtain ⟨j, qs, hj, rfl, ⟨og, ocp, rfl⟩, hmy, hqs, hql, hbr, hsz⟩ := hrel
    have HMY := Lib.hid hmy
    have HQS := Lib.hid hqs
    have HQL := Lib.hid hql
    clear O1 hqs B1 hz1 hql
    by_cases hlt : j < n
    · obtain ⟨b, off, rfl, c0, c1, hat⟩ := HC.out j hlt wr hbr
      have HST : Hid (∀ y : Value, (qs ++ [((ps.getD j P.zero).1, y)]).map (·.1) = (ps.map (·.1)).take (j + 1)) := fun y => by
        rw [HMT.out j hlt, List.map_append, HQS.out]
        rfl
      have hll := HLI.out j hlt
      generalize hpj : ps.getD j P.zero = pj at c0 c1 hat HST hll
      clear hpj
      obtain ⟨r, x⟩ := pj
      simp only at c0 c1 hat hll
      obtain ⟨xa, xc, rfl⟩ := hat.sl
      have HAT := Lib.hid (sL4Copy r (.slice xa r.l.length xc) wr hll hat)
      clear hat
      generalize r.l.length = xn at c1 hll HAT
      obtain ⟨ri, rl⟩ := r
      simp only [R.agg] at c0 c1 HAT
      clear hmy
      go_wp2_with fail
      refine HAT.out.mono ?_
      rintro e w3 ⟨x3, rfl, o3, b3⟩
      obtain ⟨ya, yc, hy⟩ := o3.atN.sl
      generalize rl.length = yn at hy
      subst hy
      have A4 := below_alloc w3 (.cells #[.int .i64 ri, .slice ya yn yc] 27)
      have M4 := ((HMY.out.below b3 (Nat.le_refl _)).below A4 b3.size)
      have B4 := below_then (below_then hbr b3 hbr.size) A4 (below_then hbr b3 hbr.size).size
      have O4 := (o3.below A4 (Nat.le_refl _)).wide (Nat.le_refl _) A4.size
      have hs3 := b3.size
      have hs4 := A4.size
      have HZ4 : Hid ((w3.alloc (.cells #[.int .i64 ri, .slice ya yn yc] 27)).heap.size = w3.heap.size + 1) := World.size_alloc _ _
      generalize hw4 : w3.alloc (.cells #[.int .i64 ri, .slice ya yn yc] 27) = w4 at M4 B4 O4 hs4 HZ4
      have HW4 := Lib.hid hw4
      clear hw4 A4
      have HM4 := Lib.hid M4
      have HO4 := Lib.hid O4
      have ONN := M4.1
      have hlo4 : w.heap.size ≤ w4.heap.size := by omega
      clear o3 b3 M4 O4 HAT c0 c1
      go_wp2_with (at_builtin; rw [HW4.out]; refine appendR_law Try.elemRows rfl _ _ rfl w.heap.size _ _ _ _ ri ya yn yc rfl ONN hlo4 _ HZ4.out rfl (by have := HQL.out; unfold maxLen; omega) (by have := HQL.out; omega) ?_)
      intro v5 w5 o5 e5
      have HF : Hid (MyRs w.heap.size w5.heap.size w5 v5 (qs ++ [(⟨ri, rl⟩, .slice ya yn yc)]) ∧ (qs ++ [((⟨ri, rl⟩ : R), Value.slice ya yn yc)]).map (·.1) = (ps.map (·.1)).take (j + 1) ∧ (qs ++ [((⟨ri, rl⟩ : R), Value.slice ya yn yc)]).length = j + 1 ∧ Below w.heap.size w w5 ∧ w.heap.size ≤ w5.heap.size) := ⟨HM4.out.append (by omega) HO4.out (by omega) o5 e5, HST.out _, by rw [List.length_append, HQL.out]; rfl, B4.grown e5.grown B4.size (fun k hk => Nat.le_of_not_lt (fun hlt => ONN.not_low (b := k) (by omega) hk)), Nat.le_trans hlo4 e5.grown.size⟩
      obtain ⟨vb, vc, hv5⟩ : ∃ g cp, v5 = .slice (some ⟨g, 0, none⟩) (qs.length + 1) cp := by obtain ⟨g, cp, e, _⟩ := o5; exact ⟨g, cp, e⟩
      subst hv5
      clear o5 e5 B4 ONN
      go_wp2
      go_roundw
      case rel => exact ⟨j + 1, _, by omega, by go_num, ⟨_, _, by rw [List.length_append]; rfl⟩, HF.out.1, HF.out.2⟩
      case measure => simp [intOf]; omega
    · obtain rfl : j = n := by omega
      clear hmy
      go_wp2
      go_ret
      exact ⟨_, rfl, qs, HMY.out, HQS.out.trans HALL.out, ⟨_, _, rfl⟩, hbr⟩

end Go.Proofs.Ytkofafefnlommaa
