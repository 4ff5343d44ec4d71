/- Texts of this claim, one behind the other: S12a, S12b, Rs12, S12s, Law12s. -/
import Derived.Test.YtafoldpmodipaaaP23
import Derived.Test.YtafoldpmodipaaaP5
import Derived.Test.YtafoldpmodipaaaP16
import Derived.Lib.SliceRun
import Derived.Test.YtafoldpmodipaaaP17

/- The model's l4Copy, the program's slices.Clone and copyRow (written by mk_S12a.py). -/
namespace Go.Proofs.Ytafoldpmodipaaa
open Go.RowKit

theorem OwnN.atN {e size lo hi w v n xs} (h : OwnN e size lo hi w v n xs) : AtN size w v n xs := h.imp id Own.at
theorem OwnV.atN {lo hi w u} {l : List V} (h : OwnV lo hi w u l) : AtN 3 w u l.length (vals l) := OwnN.atN h
theorem AtN.sl {size w v n xs} (h : AtN size w v n xs) : ∃ a cp, v = .slice a n cp := by
  obtain ⟨a, cp, e, _⟩ := h.rd
  exact ⟨a, cp, e⟩
theorem run_append_atN {P : Program} {t e : TypeId} {z : Value} {size bytes : Nat} (T : ElemT P t e z size bytes) (w : World) (ty : TypeId)
    (lo hi : Nat) (v : Value) (n : Nat) (xs : List Value) (hown : Own e size lo hi w v n xs) (xv : Value) (m : Nat) (news : List Value) (hX : AtN size w xv m news) (h1 : ∀ u ∈ news, u.oneCell' = true)
    (h63 : n + m ≤ maxLen) (hbytes : (n + m) * bytes ≤ 140737488355328) :
    ∃ v' w', (Builtin.append_ #[t, t] ty #[v, xv]).run P w = .ok v' w' ∧ Own e size lo w'.heap.size w' v' (n + m) (xs ++ news) ∧ Ext w w' v v' := by
  rcases hX with ⟨rfl, rfl, rfl⟩ | ⟨b, off, cap, rfl, _, _, hl, hc⟩
  · obtain ⟨i, hi', hz, hs, hb⟩ := T.info
    have hr := run_append_owned_none (P := P) (w := w) lo t ty e i size T.ht hi' v n xs hown.row
    refine ⟨v, w, hr, ?_, Ext.refl _ _⟩
    rw [List.append_nil]
    obtain ⟨g, cp, rfl, h2, h3, h4⟩ := hown
    exact ⟨g, cp, rfl, h2, (h4.lt g rfl).2, h4⟩
  · exact append_block w t ty e z size bytes T lo hi v n xs hown ⟨b, off, none⟩ m cap news hl (fun j u hu => by rw [addr_add]; exact hc j u hu) h1 h63 hbytes
/-- append(s, x...) as one operation: s one's own, x nil or read. -/
theorem appendN_op {P : Program} {t e : TypeId} {z : Value} {size bytes : Nat} (T : ElemT P t e z size bytes) {w : World} {o : Oper} {a : Act} {K : Act → World → Prop} {Q : Exit → Act → World → Prop} (s x : Operand)
    (ho : o.op = .call { callee := .builtin .append, args := #[s, x], argTypes := #[t, t] })
    (lo hi : Nat) (v : Value) (n : Nat) (xs : List Value) (hs : a.eval s = v) (hown : Own e size lo hi w v n xs)
    (xv : Value) (m : Nat) (news : List Value) (hx : a.eval x = xv) (hX : AtN size w xv m news) (h1 : ∀ u ∈ news, u.oneCell' = true)
    (h63 : n + m ≤ maxLen) (hbytes : (n + m) * bytes ≤ 140737488355328)
    (h : ∀ v' w', Own e size lo w'.heap.size w' v' (n + m) (xs ++ news) → Ext w w' v v' → K (a.put o.dst v') w') : Oper.wp P o a w K Q := by
  obtain ⟨v', w', hr, h2, h3⟩ := run_append_atN T w o.type lo hi v n xs hown xv m news hX h1 h63 hbytes
  unfold Oper.wp execOp
  simp only [ho, resolve, invoke, builtin, Sem.run_bind, Sem.run_pure, Result.andThen_ok, List.map_toArray, List.map_cons, List.map_nil, hs, hx, hr]
  exact h v' w' h2 h3
theorem appendN_law {P : Program} {t e : TypeId} {z : Value} {size bytes : Nat} (T : ElemT P t e z size bytes) {w : World} {ops : Array Oper} {rest : List Oper} {o : Oper} {a : Act} {Q : Exit → Act → World → Prop} (hgd : o.guard = none) (s x : Operand)
    (ho : o.op = .call { callee := .builtin .append, args := #[s, x], argTypes := #[t, t] })
    (lo hi : Nat) (v : Value) (n : Nat) (xs : List Value) (hs : a.eval s = v) (hown : Own e size lo hi w v n xs)
    (xv : Value) (m : Nat) (news : List Value) (hx : a.eval x = xv) (hX : AtN size w xv m news) (h1 : ∀ u ∈ news, u.oneCell' = true)
    (h63 : n + m ≤ maxLen) (hbytes : (n + m) * bytes ≤ 140737488355328)
    (h : ∀ v' w', Own e size lo w'.heap.size w' v' (n + m) (xs ++ news) → Ext w w' v v' → wpList P ops Q rest (a.put o.dst v') w') : wpList P ops Q (o :: rest) a w := by
  refine wpList_plain hgd fun K hK => ?_
  obtain ⟨v', w', hr, h2, h3⟩ := run_append_atN T w o.type lo hi v n xs hown xv m news hX h1 h63 hbytes
  unfold Oper.wp execOp
  simp only [ho, resolve, invoke, builtin, Sem.run_bind, Sem.run_pure, Result.andThen_ok, List.map_toArray, List.map_cons, List.map_nil, hs, hx, hr]
  exact hK _ _ (h v' w' h2 h3)
theorem Two.grown {W W' : World} {b : Nat} {x y : Value} {row : Option Nat} (h : Two W b x y) (hg : W.grownBy W' row) (hne : some b ≠ row) : Two W' b x y := by
  have hb := hg.block b (lt_of_cell h.1.1) hne
  exact ⟨⟨(World.cell?_of_block hb).trans h.1.1, (World.cell?_of_block hb).trans h.1.2⟩, (World.frozen?_of_block hb).trans h.2.1, (World.frozen?_of_block hb).trans h.2.2⟩
theorem OwnN.setBelow {e size lo hi w v n xs} (h : OwnN e size lo hi w v n xs) {a : Addr} (ha : a.block < lo) (u : Value) : OwnN e size lo hi (w.setCell a u) v n xs := h.imp id (fun h => h.setBelow ha u)
theorem OwnV.setBelow {lo hi w u} {l : List V} (h : OwnV lo hi w u l) {a : Addr} (ha : a.block < lo) (x : Value) : OwnV lo hi (w.setCell a x) u l := OwnN.setBelow h ha x
theorem valsOne (l : List V) : ∀ u ∈ vals l, u.oneCell' = true := by
  intro u hu
  unfold vals at hu
  obtain ⟨v, _, hv⟩ := List.mem_flatMap.1 hu
  simp only [V.cs, List.mem_cons, List.not_mem_nil, or_false] at hv
  rcases hv with rfl | rfl | rfl <;> rfl

set_option maxRecDepth 100000 in
set_option maxHeartbeats 1000000 in
theorem sL4Copy (r : R) (u : Value) (w : World) (hn : r.l.length ≤ 1048576) (h : AtN 3 w u r.l.length (vals r.l)) :
    Calls Try.prog 41 #[r.agg u] w fun e w' => ∃ v, e = .returned (r.agg v) ∧ OwnV w.heap.size w'.heap.size w' v r.l ∧ Below w.heap.size w w' := by
  have B0 := below_alloc2 w (.cells #[.int .i64 r.id, u] 71) (.cells #[.int .i64 0, .slice none 0 0] 71)
  have T0 := (two_new w (.int .i64 r.id) u 71).below (below_alloc _ (.cells #[.int .i64 0, .slice none 0 0] 71))
  have Z0 := two_new (w.alloc (.cells #[.int .i64 r.id, u] 71)) (.int .i64 0) (.slice none 0 0) 71
  have h0 := h.below B0
  rw [World.size_alloc] at Z0
  have hs0 : ((w.alloc (.cells #[.int .i64 r.id, u] 71)).alloc (.cells #[.int .i64 0, .slice none 0 0] 71)).heap.size = w.heap.size + 2 := by rw [World.size_alloc, World.size_alloc]
  obtain ⟨i, l⟩ := r
  simp only at B0 T0 Z0 h0 hs0 hn
  clear h
  generalize hw0 : (w.alloc (.cells #[.int .i64 i, u] 71)).alloc (.cells #[.int .i64 0, .slice none 0 0] 71) = w0 at B0 T0 Z0 h0 hs0
  have HW0 := Lib.hid hw0
  clear hw0
  generalize hln : l.length = n at h0 hn
  have HLN := Lib.hid hln
  obtain ⟨a, cp, hu⟩ := h0.sl
  subst hu
  have BD := (Below.refl w0.heap.size w0).drew
  have TD := T0.below BD
  have ZD := Z0.below BD
  have hD := h0.below BD
  have BB := below_then B0 BD B0.size
  have hsd : w0.drew.heap.size = w.heap.size + 2 := by simpa using hs0
  obtain ⟨t0, t1⟩ := T0.1
  clear T0 Z0 h0 hln BD B0
  go_enter Try.func41, Try.ntmps41
  go_wp2
  rw [HW0.out]
  refine wp_region_held_drew (S := fun W => W.cell? ⟨w.heap.size, 0, none⟩ = some (.int .i64 i) ∧ W.cell? ⟨w.heap.size, 1, none⟩ = some (.slice a n cp)) (by kernel_rfl) ⟨t0, t1⟩ (fun hH => ?_)
  clear t0 t1
  generalize w0.drew = wd at BB TD ZD hsd hH hD ⊢
  refine takeH (i := 0) (d := some 3) (v := .pointer (some ⟨w.heap.size, 0, none⟩)) rfl rfl (by kernel_rfl) (by kernel_rfl) (by kernel_rfl) (fun _ _ _ h => h) (Or.inl ⟨by rfl, fun W hSw => by obtain ⟨s0, s1⟩ := hSw; go_simp⟩) hH ?_
  try simp only [put_some, List.set_cons_zero, List.set_cons_succ]
  refine takeH (i := 1) (d := some 4) (v := .int .i64 i) rfl rfl (by kernel_rfl) (by kernel_rfl) (by kernel_rfl) (fun _ _ _ h => h) (Or.inl ⟨by rfl, fun W hSw => by obtain ⟨s0, s1⟩ := hSw; go_simp⟩) hH ?_
  try simp only [put_some, List.set_cons_zero, List.set_cons_succ]
  refine takeH (i := 3) (d := some 6) (v := .pointer (some ⟨w.heap.size, 1, none⟩)) rfl rfl (by kernel_rfl) (by kernel_rfl) (by kernel_rfl) (fun _ _ _ h => h) (Or.inl ⟨by rfl, fun W hSw => by obtain ⟨s0, s1⟩ := hSw; go_simp⟩) hH ?_
  try simp only [put_some, List.set_cons_zero, List.set_cons_succ]
  refine takeH (i := 4) (d := some 7) (v := .slice a n cp) rfl rfl (by kernel_rfl) (by kernel_rfl) (by kernel_rfl) (fun _ _ _ h => h) (Or.inl ⟨by rfl, fun W hSw => by obtain ⟨s0, s1⟩ := hSw; go_simp⟩) hH ?_
  try simp only [put_some, List.set_cons_zero, List.set_cons_succ]
  refine wpAnyH_ready (rs := [2]) (by kernel_rfl) (by simp) ?_
  refine AllReadyH.cons rfl (fun K hK => ?_) AllReadyH.nil
  go_simp
  have O1 := own_lit (e := 30) (size := 3) wd #[] 0 (Nat.zero_le _) rfl
  have A1 := below_alloc wd (.cells #[] 30)
  have T1 := TD.below A1
  have Z1 := ZD.below A1
  have D1 := hD.below A1
  have B1 := below_then BB A1 BB.size
  have hs1 : (wd.alloc (.cells #[] 30)).heap.size = w.heap.size + 3 := by rw [World.size_alloc, hsd]
  refine hK.out _ _ T1.1 (fun hH => ?_)
  clear hK K TD ZD hD BB A1
  rw [hsd] at O1
  generalize wd.alloc (.cells #[] 30) = w1 at O1 T1 Z1 D1 B1 hs1 hH ⊢
  try rw [hsd]
  refine wpAnyH_ready (rs := [5]) (by kernel_rfl) (by simp) ?_
  refine AllReadyH.cons rfl (fun K hK => ?_) AllReadyH.nil
  refine appendN_op Try.elemVals (.tmp 5) (.tmp 7) rfl (w.heap.size + 2) w1.heap.size (.slice (some ⟨w.heap.size + 2, 0, none⟩) 0 0) 0 [] rfl (Own.wide (by simpa using O1) (by omega)) (.slice a n cp) n (vals l) rfl D1 (valsOne l) (by unfold maxLen; omega) (by omega) ?_
  intro v2 w2 O2 E2
  rw [Nat.zero_add, List.nil_append] at O2
  have HE2 := Lib.hid E2.grown
  have T2 : Two w2 w.heap.size _ _ := T1.grown E2.grown (by simp [Value.ownBlock])
  have Z2 : Two w2 (w.heap.size + 1) _ _ := Z1.grown E2.grown (by simp [Value.ownBlock])
  have B2 := B1.grown E2.grown B1.size (fun k hk => by simp [Value.ownBlock] at hk; omega)
  have hs2 : w.heap.size + 3 ≤ w2.heap.size := by have := E2.grown.size; omega
  obtain ⟨g2, c2, rfl⟩ : ∃ g c, v2 = .slice (some ⟨g, 0, none⟩) n c := by obtain ⟨g, c, e, _⟩ := O2; exact ⟨g, c, e⟩
  have HO2 := Lib.hid O2
  refine hK.out _ _ T2.1 (fun hH => ?_)
  clear hK K E2 O1 T1 Z1 D1 B1 O2
  refine takeH (i := 6) (d := some 9) (v := .agg #[.int .i64 i, .slice (some ⟨g2, 0, none⟩) n c2]) rfl rfl (by kernel_rfl) (by kernel_rfl) (by kernel_rfl) (fun _ _ _ h => h) (Or.inl ⟨by rfl, fun W hSw => by obtain ⟨s0, s1⟩ := hSw; go_simp⟩) hH ?_
  try simp only [put_some, List.set_cons_zero, List.set_cons_succ]
  refine wpAnyH_ready (rs := [7]) (by kernel_rfl) (by simp) ?_
  refine AllReadyH.cons rfl (fun K hK => ?_) AllReadyH.nil
  obtain ⟨⟨z0, z1⟩, z2, z3⟩ := Z2
  obtain ⟨⟨y0, y1⟩, _⟩ := T2
  go_simp
  refine hK.out _ _ ⟨?_, ?_⟩ (fun hH => ?_)
  · exact (World.cell?_setCell_other _ _ _ _ (fun e => by injection e with e1; omega)).trans ((World.cell?_setCell_other _ _ _ _ (fun e => by injection e with e1; omega)).trans y0)
  · exact (World.cell?_setCell_other _ _ _ _ (fun e => by injection e with e1; omega)).trans ((World.cell?_setCell_other _ _ _ _ (fun e => by injection e with e1; omega)).trans y1)
  clear hK K
  refine wpAnyH_done (by kernel_rfl) ?_ _
  go_wp2
  refine bodyPost_ret (v := .agg #[.int .i64 i, .slice (some ⟨g2, 0, none⟩) n c2]) (by simp [results, Try.results41, go_sem, *]) rfl ⟨_, rfl, ?_, (B2.setCell (by simp) _).setCell (by simp) _⟩
  refine .inr ?_
  show Own _ _ _ _ _ _ l.length _
  rw [HLN.out]
  exact (((HO2.out.setBelow (by simp) _).setBelow (by simp) _).lower (by omega)).wide (by simp)

set_option maxRecDepth 100000 in
set_option maxHeartbeats 1000000 in
theorem iClone (u : Value) (l : List V) (w : World) (hn : l.length ≤ 1048576) (h : AtN 3 w u l.length (vals l)) :
    Calls Try.prog 83 #[u] w fun e w' => ∃ v, e = .returned v ∧ OwnV w.heap.size w'.heap.size w' v l ∧ Below w.heap.size w w' := by
  generalize hln : l.length = n at h hn
  have HLN := Lib.hid hln
  clear hln
  rcases h with ⟨rfl, rfl, hnil⟩ | h
  · have HNV := Lib.hid hnil
    have hnl : ∀ W, (binOp .eql 60 (.slice none 0 0) (.slice none 0 0)).run Try.prog W = .ok (.bool true) W := fun W => Lib.run_eql_slice_nil W _ 30 none 0 0 0 0 Try.underlying60
    clear hnil
    go_enter Try.func83, Try.ntmps83
    go_wp2
    go_ret
    exact ⟨_, rfl, .inl ⟨rfl, HLN.out, HNV.out⟩, Below.refl _ _⟩
  · have hN : AtN 3 w u n (vals l) := .inr h
    obtain ⟨b, off, cap, rfl, _, _, _, _⟩ := id h
    clear h
    have O1 := own_lit (e := 30) (size := 3) w #[] 0 (Nat.zero_le _) rfl
    have A1 := below_alloc w (.cells #[] 30)
    have D1 := hN.below A1
    clear hN
    generalize hw1 : w.alloc (.cells #[] 30) = w1 at O1 A1 D1
    have HW1 := Lib.hid hw1
    have hs1 : w1.heap.size = w.heap.size + 1 := by rw [← hw1, World.size_alloc]
    clear hw1
    have hnl : ∀ W, (binOp .eql 60 (.slice (some ⟨b, off, none⟩) n cap) (.slice none 0 0)).run Try.prog W = .ok (.bool false) W := fun W => Lib.run_eql_slice_nil W _ 30 (some ⟨b, off, none⟩) n cap 0 0 Try.underlying60
    go_enter Try.func83, Try.ntmps83
    go_wp2_with (at_builtin; rw [HW1.out]; refine appendN_law Try.elemVals rfl _ _ rfl w.heap.size w1.heap.size (.slice (some ⟨w.heap.size, 0, none⟩) 0 0) 0 [] rfl (Own.wide (by simpa using O1) (by omega)) (.slice (some ⟨b, off, none⟩) n cap) n (vals l) rfl D1 (valsOne l) (by unfold maxLen; omega) (by omega) ?_)
    intro v2 w2 O2 E2
    try rw [Nat.zero_add] at O2
    try rw [List.nil_append] at O2
    have B2 := A1.grown E2.grown A1.size (fun k hk => by simp [Value.ownBlock] at hk; omega)
    obtain ⟨g2, c2, rfl⟩ : ∃ g c, v2 = .slice (some ⟨g, 0, none⟩) n c := by obtain ⟨g, c, e, _⟩ := O2; exact ⟨g, c, e⟩
    have HO2 := Lib.hid O2
    clear O2 E2 O1 D1 A1
    go_wp2
    go_ret
    exact ⟨_, rfl, .inr (by show Own _ _ _ _ _ _ l.length _; rw [HLN.out]; exact HO2.out), B2⟩

set_option maxRecDepth 100000 in
set_option maxHeartbeats 1000000 in
theorem iCopyRow (r : R) (u : Value) (w : World) (hn : r.l.length ≤ 1048576) (h : AtN 3 w u r.l.length (vals r.l)) :
    Calls Try.prog 45 #[r.agg u] w fun e w' => ∃ v, e = .returned (r.agg v) ∧ OwnV w.heap.size w'.heap.size w' v r.l ∧ Below w.heap.size w w' := by
  have B0 := below_alloc2 w (.cells #[.int .i64 r.id, u] 71) (.cells #[.int .i64 0, .slice none 0 0] 71)
  have T0 := (two_new w (.int .i64 r.id) u 71).below (below_alloc _ (.cells #[.int .i64 0, .slice none 0 0] 71))
  have Z0 := two_new (w.alloc (.cells #[.int .i64 r.id, u] 71)) (.int .i64 0) (.slice none 0 0) 71
  have h0 := h.below B0
  rw [World.size_alloc] at Z0
  have hs0 : ((w.alloc (.cells #[.int .i64 r.id, u] 71)).alloc (.cells #[.int .i64 0, .slice none 0 0] 71)).heap.size = w.heap.size + 2 := by rw [World.size_alloc, World.size_alloc]
  obtain ⟨i, l⟩ := r
  simp only at B0 T0 Z0 h0 hs0 hn
  clear h
  generalize hw0 : (w.alloc (.cells #[.int .i64 i, u] 71)).alloc (.cells #[.int .i64 0, .slice none 0 0] 71) = w0 at B0 T0 Z0 h0 hs0
  have HW0 := Lib.hid hw0
  clear hw0
  have BD := (Below.refl w0.heap.size w0).drew
  have TD := T0.below BD
  have ZD := Z0.below BD
  have HC := Lib.hid (iClone u l w0.drew hn (h0.below BD))
  have BB := below_then B0 BD B0.size
  have hsd : w0.drew.heap.size = w.heap.size + 2 := by simpa using hs0
  obtain ⟨a, cp, hu⟩ := h0.sl
  generalize l.length = n at hu hn
  subst hu
  obtain ⟨t0, t1⟩ := T0.1
  clear T0 Z0 h0 BD B0
  go_enter Try.func45, Try.ntmps45
  go_wp2
  rw [HW0.out]
  refine wp_region_held_drew (S := fun W => W.cell? ⟨w.heap.size, 0, none⟩ = some (.int .i64 i) ∧ W.cell? ⟨w.heap.size, 1, none⟩ = some (.slice a n cp)) (by kernel_rfl) ⟨t0, t1⟩ (fun hH => ?_)
  clear t0 t1
  generalize w0.drew = wd at BB TD ZD hsd hH HC ⊢
  refine takeH (i := 0) (d := some 3) (v := .pointer (some ⟨w.heap.size, 0, none⟩)) rfl rfl (by kernel_rfl) (by kernel_rfl) (by kernel_rfl) (fun _ _ _ h => h) (Or.inl ⟨by rfl, fun W hSw => by obtain ⟨s0, s1⟩ := hSw; go_simp⟩) hH ?_
  try simp only [put_some, List.set_cons_zero, List.set_cons_succ]
  refine takeH (i := 1) (d := some 4) (v := .int .i64 i) rfl rfl (by kernel_rfl) (by kernel_rfl) (by kernel_rfl) (fun _ _ _ h => h) (Or.inl ⟨by rfl, fun W hSw => by obtain ⟨s0, s1⟩ := hSw; go_simp⟩) hH ?_
  try simp only [put_some, List.set_cons_zero, List.set_cons_succ]
  refine takeH (i := 2) (d := some 5) (v := .pointer (some ⟨w.heap.size, 1, none⟩)) rfl rfl (by kernel_rfl) (by kernel_rfl) (by kernel_rfl) (fun _ _ _ h => h) (Or.inl ⟨by rfl, fun W hSw => by obtain ⟨s0, s1⟩ := hSw; go_simp⟩) hH ?_
  try simp only [put_some, List.set_cons_zero, List.set_cons_succ]
  refine takeH (i := 3) (d := some 6) (v := .slice a n cp) rfl rfl (by kernel_rfl) (by kernel_rfl) (by kernel_rfl) (fun _ _ _ h => h) (Or.inl ⟨by rfl, fun W hSw => by obtain ⟨s0, s1⟩ := hSw; go_simp⟩) hH ?_
  try simp only [put_some, List.set_cons_zero, List.set_cons_succ]
  refine wpAnyH_ready (rs := [4]) (by kernel_rfl) (by simp) ?_
  refine AllReadyH.cons rfl (fun K hK => ?_) AllReadyH.nil
  go_simp
  go_at_call 83
  refine HC.out.mono ?_
  rintro e w2 ⟨v2, rfl, O2, b2⟩
  have T2 := TD.below b2
  have Z2 := ZD.below b2
  have B2 := below_then BB b2 BB.size
  have hs2 : w.heap.size + 2 ≤ w2.heap.size := by have := b2.size; omega
  rw [hsd] at O2
  obtain ⟨a2, c2, rfl⟩ := O2.atN.sl
  have HO2 := Lib.hid O2
  clear O2 TD ZD b2 HC
  go_wp2_with fail
  refine hK.out _ _ T2.1 (fun hH => ?_)
  clear hK K
  refine takeH (i := 5) (d := some 8) (v := .agg #[.int .i64 i, .slice a2 l.length c2]) rfl rfl (by kernel_rfl) (by kernel_rfl) (by kernel_rfl) (fun _ _ _ h => h) (Or.inl ⟨by rfl, fun W hSw => by obtain ⟨s0, s1⟩ := hSw; go_simp⟩) hH ?_
  try simp only [put_some, List.set_cons_zero, List.set_cons_succ]
  refine wpAnyH_ready (rs := [6]) (by kernel_rfl) (by simp) ?_
  refine AllReadyH.cons rfl (fun K hK => ?_) AllReadyH.nil
  obtain ⟨⟨z0, z1⟩, z2, z3⟩ := Z2
  obtain ⟨⟨y0, y1⟩, _⟩ := T2
  go_simp
  refine hK.out _ _ ⟨?_, ?_⟩ (fun hH => ?_)
  · exact (World.cell?_setCell_other _ _ _ _ (fun e => by injection e with e1; omega)).trans ((World.cell?_setCell_other _ _ _ _ (fun e => by injection e with e1; omega)).trans y0)
  · exact (World.cell?_setCell_other _ _ _ _ (fun e => by injection e with e1; omega)).trans ((World.cell?_setCell_other _ _ _ _ (fun e => by injection e with e1; omega)).trans y1)
  clear hK K
  refine wpAnyH_done (by kernel_rfl) ?_ _
  go_wp2
  refine bodyPost_ret (v := .agg #[.int .i64 i, .slice a2 l.length c2]) (by simp [results, Try.results45, go_sem, *]) rfl ⟨_, rfl, ?_, (B2.setCell (by simp) _).setCell (by simp) _⟩
  exact ((HO2.out.setBelow (by simp) _).setBelow (by simp) _).wide (by omega) (by simp)

end Go.Proofs.Ytafoldpmodipaaa

/- The model's Meant (written by mk_S12b.py). -/
namespace Go.Proofs.Ytafoldpmodipaaa
open Go.RowKit

/-- v is a slice of Rows whose values are nil or read. -/
def RdRsN (w : World) (v : Value) (ps : List P) : Prop := Rd 2 w v ps.length (prs ps) ∧ ∀ p ∈ ps, AtN 3 w p.2 p.1.l.length (vals p.1.l)
theorem RdRsN.below {w w' : World} {v : Value} {ps : List P} (h : RdRsN w v ps) (hb : Below w.heap.size w w') : RdRsN w' v ps := ⟨h.1.below hb, fun p hp => (h.2 p hp).below hb⟩
theorem RdRsN.rd {w : World} {v : Value} {ps : List P} (h : RdRsN w v ps) : RdRs w v ps := ⟨h.1, fun p hp => (h.2 p hp).rd⟩
theorem MyRs.rdN {lo hi w v} {ps : List P} (h : MyRs lo hi w v ps) : RdRsN w v ps := ⟨h.1.rd, fun p hp => (h.2.1 p hp).atN⟩
theorem RdRsN.walk {w : World} {v : Value} {ps : List P} (h : RdRsN w v ps) {n : Nat} (hl : ps.length = n) :
    ∃ a cap, v = .slice a n cap ∧ n ≤ maxLen ∧ Hid (∀ k, k < n → ∀ W, Below w.heap.size w W → ∃ b off, a = some ⟨b, off, none⟩ ∧ W.cell? ⟨b, off + k * 2, none⟩ = some (.int .i64 (ps.getD k P.zero).1.id) ∧ W.cell? ⟨b, off + k * 2 + 1, none⟩ = some (ps.getD k P.zero).2 ∧ AtN 3 W (ps.getD k P.zero).2 (ps.getD k P.zero).1.l.length (vals (ps.getD k P.zero).1.l)) := by
  obtain ⟨a, cap, rfl, hn, HC⟩ := h.rd.walk hl
  refine ⟨a, cap, rfl, hn, fun k hk W hW => ?_⟩
  obtain ⟨b, off, e, h1, h2, _⟩ := HC.out k hk W hW
  refine ⟨b, off, e, h1, h2, (h.2 _ ?_).below hW⟩
  have hk' : k < ps.length := by omega
  have e : ps.getD k P.zero = ps[k] := by simp [hk']
  rw [e]
  exact List.getElem_mem hk'
theorem apart_snoc {us : List Value} {v : Value} (h : Apart us) (hv : ∀ u ∈ us, u.ownBlock = none ∨ u.ownBlock ≠ v.ownBlock) : Apart (us ++ [v]) := by
  unfold Apart at *
  rw [List.pairwise_append]
  exact ⟨h, List.pairwise_singleton _ _, fun a ha b hb => by rw [List.mem_singleton.1 hb]; exact hv a ha⟩
theorem OwnN.block_ne {lo hi lo' hi' w v u n xs} {l : List V} (h : OwnN 71 2 lo' hi' w v n xs) (k : OwnV lo hi w u l) : v.ownBlock = none ∨ v.ownBlock ≠ u.ownBlock := by
  rcases h with ⟨rfl, _⟩ | h
  · exact .inl rfl
  · exact .inr (OwnV.block_ne h k)
theorem OwnV.lt {lo hi w u} {l : List V} (h : OwnV lo hi w u l) {s : Nat} (hs : hi ≤ s) {v : Value} (hv : ∀ x, v.ownBlock = some x → s ≤ x) : u.ownBlock = none ∨ u.ownBlock ≠ v.ownBlock := by
  by_cases hu : u.ownBlock = none
  · exact .inl hu
  · refine .inr (fun e => ?_)
    cases hx : u.ownBlock with
    | none => exact hu hx
    | some x =>
      have h1 := h.in_ hx
      have h2 := hv x (e.symm.trans hx)
      omega
/-- One more row. -/
theorem MyRs.append {lo s : Nat} {w1 w2 : World} {out out' : Value} {ps : List P} {p : P} (h : MyRs lo s w1 out ps) (hls : lo ≤ s) (hp : OwnV s w1.heap.size w1 p.2 p.1.l) (hs : s ≤ w1.heap.size) (ho : Own 71 2 lo w2.heap.size w2 out' (ps.length + 1) (prs ps ++ p.cs)) (he : Ext w1 w2 out out') : MyRs lo w2.heap.size w2 out' (ps ++ [p]) := by
  have hz := he.grown.size
  refine ⟨?_, fun q hq => ?_, ?_⟩
  · rw [List.length_append]
    refine .inr ?_
    have e : prs (ps ++ [p]) = prs ps ++ p.cs := by simp [prs]
    rw [e]
    exact ho
  · rcases List.mem_append.1 hq with hq | hq
    · exact ((h.2.1 q hq).other he.grown (OwnN.block_ne h.1 (h.2.1 q hq))).wide (Nat.le_refl _) (by omega)
    · rw [List.mem_singleton.1 hq]
      exact (hp.other he.grown (OwnN.block_ne h.1 hp)).wide hls hz
  · rw [List.map_append]
    refine apart_snoc h.2.2 (fun u hu => ?_)
    obtain ⟨q, hq, rfl⟩ := List.mem_map.1 hu
    exact (h.2.1 q hq).lt (Nat.le_refl _) (fun x hx => (hp.in_ hx).1)
/-- append(s, x): x, a Row, has just been laid in a block of its own. -/
theorem appendR_law {P : Program} {t e : TypeId} {z : Value} {bytes : Nat} (T : ElemT P t e z 2 bytes) {w : World} {ops : Array Oper} {rest : List Oper} {o : Oper} {a : Act} {Q : Exit → Act → World → Prop} (hgd : o.guard = none) (s x : Operand)
    (ho : o.op = .call { callee := .builtin .append, args := #[s, x], argTypes := #[t, t] })
    (lo hi : Nat) (v : Value) (n : Nat) (xs : List Value) (k : Int) (ua : Option Addr) (un uc : Nat) (hs : a.eval s = v) (hown : OwnN e 2 lo hi w v n xs) (hlo : lo ≤ w.heap.size)
    (N : Nat) (hN : w.heap.size = N) (hx : a.eval x = .slice (some ⟨N, 0, none⟩) 1 1)
    (h63 : n + 1 ≤ maxLen) (hbytes : (n + 1) * bytes ≤ 140737488355328)
    (h : ∀ v' w', Own e 2 lo w'.heap.size w' v' (n + 1) (xs ++ [.int .i64 k, .slice ua un uc]) → Ext w w' v v' → wpList P ops Q rest (a.put o.dst v') w') : wpList P ops Q (o :: rest) a (w.alloc (.cells #[.int .i64 k, .slice ua un uc] e)) := by
  subst hN
  refine append_lawN T hgd s x ho lo hi v n xs hs (hown.imp id (fun h => h.alloc _)) (by rw [World.size_alloc]; omega) w.heap.size 0 1 1 [.int .i64 k, .slice ua un uc] hx rfl ?_ ?_ (by omega) h63 hbytes (fun v' w' h1 h2 => h v' w' h1 ((Ext.alloc v _).trans h2))
  · intro j y hj
    match j, hj with
    | 0, hj => simp at hj; subst hj; simp
    | 1, hj => simp at hj; subst hj; simp
    | j + 2, hj => simp at hj
  · intro y hy
    simp at hy
    rcases hy with rfl | rfl <;> rfl
theorem meant_take {t : T} {l : List R} {r : R} {j : Nat} (hj : j < l.length) (e : l.getD j R.zero = r) : meantL t (l.take (j + 1)) = if t.holds r.l = true then meantL t (l.take j) ++ [r] else meantL t (l.take j) := by
  rw [List.take_succ_eq_append_getElem hj, meantL_snoc, ← getDe l R.zero hj, e]
theorem Blk.ext {W W' : World} {b : Nat} {cs : List Value} {v v' : Value} (h : Blk W b cs) (he : Ext W W' v v') (hne : v.ownBlock ≠ some b) : Blk W' b cs := h.grown he.grown (fun e => hne e.symm)
theorem OwnN.not_low {e size lo hi w v n xs} (h : OwnN e size lo hi w v n xs) {b : Nat} (hb : b < lo) : v.ownBlock ≠ some b := by
  rcases h with ⟨rfl, _⟩ | ⟨g, cp, rfl, h1, _⟩
  · simp [Value.ownBlock]
  · simp [Value.ownBlock]
    omega

set_option maxRecDepth 100000 in
set_option maxHeartbeats 4000000 in
theorem sMeant {Q : Nat → Prop} (qk qc : Int) (t : T) (u : Value) (oa : Option Addr) (on oc : Nat) (v : Value) (ps : List P) (w : World) (hr : RdT Q w t u) (hn : ps.length ≤ 1048576) (hli : ∀ p ∈ ps, p.1.l.length ≤ 1048576) (h : RdRsN w v ps) :
    Calls Try.prog 13 #[.agg #[.int .i64 qk, .int .i64 t.kind, .int .i64 t.col, .int .i64 t.op, .int .i64 t.v.ty, .int .i64 t.v.n, .string t.v.s, u, .int .i64 qc, .slice oa on oc], v] w fun e w' => ∃ v', e = .returned v' ∧ ∃ qs, MyRs w.heap.size w'.heap.size w' v' qs ∧ qs.map (·.1) = meantL t (ps.map (·.1)) ∧ Below w.heap.size w w' := by
  generalize hl : ps.length = n at hn
  obtain ⟨a, cap, rfl, _, HC⟩ := h.walk hl
  obtain ⟨ua, uc, rfl, _⟩ := RdT_def.1 hr
  have HSH := Lib.hid (fun (vs : List V) vu W (hW : Below w.heap.size w W) (hv : Rd 3 W vu vs.length (vals vs)) => sHolds vs t _ _ vu W (hr.below hW) hv)
  generalize t.l.length = un at HSH ⊢
  have HLI : Hid (∀ k, k < n → (ps.getD k P.zero).1.l.length ≤ 1048576) := fun k hk => by
    have hk' : k < ps.length := by omega
    have e : ps.getD k P.zero = ps[k] := by simp [hk']
    rw [e]
    exact hli _ (List.getElem_mem hk')
  have HMT : Hid (∀ j, j < n → meantL t ((ps.map (·.1)).take (j + 1)) = if t.holds (ps.getD j P.zero).1.l = true then meantL t ((ps.map (·.1)).take j) ++ [(ps.getD j P.zero).1] else meantL t ((ps.map (·.1)).take j)) := fun j hj => by
    refine meant_take (by rw [List.length_map]; omega) ?_
    have hk' : j < ps.length := by omega
    rw [getDe _ _ (by rw [List.length_map]; omega), getDe ps P.zero hk', List.getElem_map]
  have HALL : Hid (meantL t ((ps.map (·.1)).take n) = meantL t (ps.map (·.1))) := by
    show _ = _
    rw [← hl, List.take_of_length_le (by rw [List.length_map]; exact Nat.le_refl _)]
  have HMN : Hid (∀ j, (meantL t ((ps.map (·.1)).take j)).length ≤ j) := fun j => Nat.le_trans (meantL_len _ _) (by rw [List.length_take]; omega)
  have B0 := below_alloc w (.cells #[.int .i64 qk, .int .i64 t.kind, .int .i64 t.col, .int .i64 t.op, .int .i64 t.v.ty, .int .i64 t.v.n, .string t.v.s, .slice ua un uc, .int .i64 qc, .slice oa on oc] 48)
  have K0 := blk_new w [.int .i64 qk, .int .i64 t.kind, .int .i64 t.col, .int .i64 t.op, .int .i64 t.v.ty, .int .i64 t.v.n, .string t.v.s, .slice ua un uc, .int .i64 qc, .slice oa on oc] 48
  have B1 := below_then B0 (below_alloc _ (.cells #[] 71)) B0.size
  have K1 := K0.below (below_alloc _ (.cells #[] 71))
  have O1 := own_lit (e := 71) (size := 2) (w.alloc (.cells #[.int .i64 qk, .int .i64 t.kind, .int .i64 t.col, .int .i64 t.op, .int .i64 t.v.ty, .int .i64 t.v.n, .string t.v.s, .slice ua un uc, .int .i64 qc, .slice oa on oc] 48)) #[] 0 (Nat.zero_le _) rfl
  have hz1 : ((w.alloc (.cells #[.int .i64 qk, .int .i64 t.kind, .int .i64 t.col, .int .i64 t.op, .int .i64 t.v.ty, .int .i64 t.v.n, .string t.v.s, .slice ua un uc, .int .i64 qc, .slice oa on oc] 48)).alloc (.cells #[] 71)).heap.size = w.heap.size + 2 := by rw [World.size_alloc, World.size_alloc]
  rw [World.size_alloc] at O1
  generalize hw1 : (w.alloc (.cells #[.int .i64 qk, .int .i64 t.kind, .int .i64 t.col, .int .i64 t.op, .int .i64 t.v.ty, .int .i64 t.v.n, .string t.v.s, .slice ua un uc, .int .i64 qc, .slice oa on oc] 48)).alloc (.cells #[] 71) = w1 at B1 K1 O1 hz1
  have HW1 := Lib.hid hw1
  clear hw1 hl hr h hli B0 K0
  go_enter Try.func13, Try.ntmps13
  go_wp2
  rw [HW1.out]
  go_loopw [5, 6] (fun o i wr => ∃ (j : Nat) (qs : List P), j ≤ n ∧ i = .int .i64 j ∧ (∃ g cp, o = .slice (some ⟨g, 0, none⟩) qs.length cp) ∧ MyRs (w.heap.size + 1) wr.heap.size wr o qs ∧ qs.map (·.1) = meantL t ((ps.map (·.1)).take j) ∧ Blk wr w.heap.size [.int .i64 qk, .int .i64 t.kind, .int .i64 t.col, .int .i64 t.op, .int .i64 t.v.ty, .int .i64 t.v.n, .string t.v.s, .slice ua un uc, .int .i64 qc, .slice oa on oc] ∧ Below w.heap.size w wr ∧ w.heap.size + 1 ≤ wr.heap.size) (fun _ i _ => n - (intOf i).toNat)
  case atStart => exact ⟨0, [], Nat.zero_le _, rfl, ⟨_, _, rfl⟩, ⟨.inr (show Own 71 2 (w.heap.size + 1) w1.heap.size w1 _ 0 [] by simpa using O1), fun p hp => (by cases hp), List.Pairwise.nil⟩, rfl, K1, B1, by omega⟩
  case round =>
    obtain ⟨j, qs, hj, rfl, ⟨og, ocp, rfl⟩, hmy, hqs, hK, hbr, hsz⟩ := hrel
    have HMY := Lib.hid hmy
    have HQS := Lib.hid hqs
    have hql : qs.length ≤ j := by
      have e := congrArg List.length hqs
      rw [List.length_map] at e
      rw [e]
      exact HMN.out j
    clear O1 K1 hqs B1 hz1
    by_cases hlt : j < n
    · obtain ⟨b, off, rfl, c0, c1, hat⟩ := HC.out j hlt wr hbr
      have HST := Lib.hid (HMT.out j hlt)
      have hll := HLI.out j hlt
      have HSJ := Lib.hid (fun W (hW : Below wr.heap.size wr W) => HSH.out (ps.getD j P.zero).1.l (ps.getD j P.zero).2 W (below_then hbr hW hbr.size) (hat.below hW).rd)
      generalize hpj : ps.getD j P.zero = pj at c0 c1 hat HST hll HSJ
      clear hpj
      obtain ⟨r, x⟩ := pj
      simp only at c0 c1 hat HST hll HSJ
      obtain ⟨xa, xc, rfl⟩ := hat.sl
      have HAT := Lib.hid (fun W (hW : Below wr.heap.size wr W) => sL4Copy r (.slice xa r.l.length xc) W hll (hat.below hW))
      clear hat
      generalize hhb : t.holds r.l = hb at HSJ
      have HHB := Lib.hid hhb
      clear hhb
      generalize hxl : r.l.length = xn at c1 hll HSJ HAT
      obtain ⟨ri, rl⟩ := r
      simp only at c0 c1 HST HHB HAT
      have HKC : Hid (∀ W, Below wr.heap.size wr W → W.cell? ⟨w.heap.size, 1, none⟩ = some (.int .i64 t.kind) ∧ W.cell? ⟨w.heap.size, 2, none⟩ = some (.int .i64 t.col) ∧ W.cell? ⟨w.heap.size, 3, none⟩ = some (.int .i64 t.op) ∧ W.cell? ⟨w.heap.size, 4, none⟩ = some (.int .i64 t.v.ty) ∧ W.cell? ⟨w.heap.size, 5, none⟩ = some (.int .i64 t.v.n) ∧ W.cell? ⟨w.heap.size, 6, none⟩ = some (.string t.v.s) ∧ W.cell? ⟨w.heap.size, 7, none⟩ = some (.slice ua un uc) ∧ W.cell? ⟨b, off + j * 2 + 1, none⟩ = some (.slice xa xn xc)) := fun W hW => ⟨(hK.below hW 1 _ rfl).1, (hK.below hW 2 _ rfl).1, (hK.below hW 3 _ rfl).1, (hK.below hW 4 _ rfl).1, (hK.below hW 5 _ rfl).1, (hK.below hW 6 _ rfl).1, (hK.below hW 7 _ rfl).1, (hW.cell (p := ⟨b, off + j * 2 + 1, none⟩) (lt_of_cell c1)).trans c1⟩
      have HC0 : Hid (∀ W, Below wr.heap.size wr W → W.cell? ⟨b, off + j * 2, none⟩ = some (.int .i64 ri) ∧ W.cell? ⟨b, off + j * 2 + 1, none⟩ = some (.slice xa xn xc)) := fun W hW => ⟨(hW.cell (p := ⟨b, off + j * 2, none⟩) (lt_of_cell c0)).trans c0, (hW.cell (p := ⟨b, off + j * 2 + 1, none⟩) (lt_of_cell c1)).trans c1⟩
      have HKK := Lib.hid hK
      have HXL := Lib.hid hxl
      clear hmy hK hxl
      clear c0 c1
      have hB' := (Below.refl wr.heap.size wr).drew
      cases hb with
      | false =>
        go_wp2
        go_region_held3 (fun W => W.cell? ⟨w.heap.size, 1, none⟩ = some (.int .i64 t.kind) ∧ W.cell? ⟨w.heap.size, 2, none⟩ = some (.int .i64 t.col) ∧ W.cell? ⟨w.heap.size, 3, none⟩ = some (.int .i64 t.op) ∧ W.cell? ⟨w.heap.size, 4, none⟩ = some (.int .i64 t.v.ty) ∧ W.cell? ⟨w.heap.size, 5, none⟩ = some (.int .i64 t.v.n) ∧ W.cell? ⟨w.heap.size, 6, none⟩ = some (.string t.v.s) ∧ W.cell? ⟨w.heap.size, 7, none⟩ = some (.slice ua un uc) ∧ W.cell? ⟨b, off + j * 2 + 1, none⟩ = some (.slice xa xn xc)) (exact HKC.out _ hB') ((go_at_call 29; (with_reducible refine (HSJ.out _ hB').mono ?_); rintro e w2 ⟨rfl, hb2⟩; replace hB' := below_then hB' hb2 hB'.size))
        all_goals
          have HF : Hid (MyRs (w.heap.size + 1) w2.heap.size w2 _ qs ∧ qs.map (·.1) = meantL t ((ps.map (·.1)).take (j + 1)) ∧ Blk w2 w.heap.size [.int .i64 qk, .int .i64 t.kind, .int .i64 t.col, .int .i64 t.op, .int .i64 t.v.ty, .int .i64 t.v.n, .string t.v.s, .slice ua un uc, .int .i64 qc, .slice oa on oc] ∧ Below w.heap.size w w2 ∧ w.heap.size + 1 ≤ w2.heap.size) := ⟨(HMY.out.below hB' (Nat.le_refl _)).wide (Nat.le_refl _) hB'.size, by rw [HST.out, if_neg (by rw [HHB.out]; simp)]; exact HQS.out, HKK.out.below hB', below_then hbr hB' hbr.size, Nat.le_trans hsz hB'.size⟩
          go_wp2
          go_roundw
          case rel => exact ⟨j + 1, qs, by omega, by go_num, ⟨_, _, rfl⟩, HF.out.1, HF.out.2⟩
          case measure => simp [intOf]; omega
      | true =>
        go_wp2
        go_region_held3 (fun W => W.cell? ⟨w.heap.size, 1, none⟩ = some (.int .i64 t.kind) ∧ W.cell? ⟨w.heap.size, 2, none⟩ = some (.int .i64 t.col) ∧ W.cell? ⟨w.heap.size, 3, none⟩ = some (.int .i64 t.op) ∧ W.cell? ⟨w.heap.size, 4, none⟩ = some (.int .i64 t.v.ty) ∧ W.cell? ⟨w.heap.size, 5, none⟩ = some (.int .i64 t.v.n) ∧ W.cell? ⟨w.heap.size, 6, none⟩ = some (.string t.v.s) ∧ W.cell? ⟨w.heap.size, 7, none⟩ = some (.slice ua un uc) ∧ W.cell? ⟨b, off + j * 2 + 1, none⟩ = some (.slice xa xn xc)) (exact HKC.out _ hB') ((go_at_call 29; (with_reducible refine (HSJ.out _ hB').mono ?_); rintro e w2 ⟨rfl, hb2⟩; replace hB' := below_then hB' hb2 hB'.size))
        all_goals
          have M2 := (HMY.out.below hB' (Nat.le_refl _)).wide (Nat.le_refl _) hB'.size
          have K2 := HKK.out.below hB'
          have B2 := below_then hbr hB' hbr.size
          have hs2 := Nat.le_trans hsz hB'.size
          obtain ⟨e0, e1⟩ := HC0.out _ hB'
          have HA2 := Lib.hid (HAT.out _ hB')
          clear hB'
          go_wp2_with fail
          refine HA2.out.mono ?_
          rintro e w3 ⟨x3, rfl, o3, b3⟩
          clear e0 e1
          obtain ⟨ya, yc, hy⟩ := o3.atN.sl
          generalize rl.length = yn at hy
          subst hy
          have A4 := below_alloc w3 (.cells #[.int .i64 ri, .slice ya yn yc] 71)
          have T4 := two_new w3 (.int .i64 ri) (.slice ya yn yc) 71
          have M4 := ((M2.below b3 (Nat.le_refl _)).below A4 b3.size)
          have K4 := (K2.below b3).below A4
          have B4 := below_then (below_then B2 b3 B2.size) A4 (below_then B2 b3 B2.size).size
          have O4 := (o3.below A4 (Nat.le_refl _)).wide (Nat.le_refl _) A4.size
          have hs3 := b3.size
          have hs4 := A4.size
          have HZ4 : Hid ((w3.alloc (.cells #[.int .i64 ri, .slice ya yn yc] 71)).heap.size = w3.heap.size + 1) := World.size_alloc _ _
          generalize hw4 : w3.alloc (.cells #[.int .i64 ri, .slice ya yn yc] 71) = w4 at M4 K4 B4 O4 hs4 HZ4
          have HW4 := Lib.hid hw4
          clear T4
          clear hw4
          have HM4 := Lib.hid M4
          have HO4 := Lib.hid O4
          have ONN := M4.1
          have hlo4 : w.heap.size + 1 ≤ w4.heap.size := by omega
          clear o3 b3 M4 O4 M2 K2 B2 HA2 HAT HSJ HKC HC0
          go_wp2_with (at_builtin; rw [HW4.out]; refine appendR_law Try.elemRows rfl _ _ rfl (w.heap.size + 1) _ _ _ _ ri ya yn yc rfl ONN hlo4 _ HZ4.out rfl (by unfold maxLen; omega) (by omega) ?_)
          intro v5 w5 o5 e5
          have HF : Hid (MyRs (w.heap.size + 1) w5.heap.size w5 v5 (qs ++ [(⟨ri, rl⟩, .slice ya yn yc)]) ∧ (qs ++ [((⟨ri, rl⟩ : R), Value.slice ya yn yc)]).map (·.1) = meantL t ((ps.map (·.1)).take (j + 1)) ∧ Blk w5 w.heap.size [.int .i64 qk, .int .i64 t.kind, .int .i64 t.col, .int .i64 t.op, .int .i64 t.v.ty, .int .i64 t.v.n, .string t.v.s, .slice ua un uc, .int .i64 qc, .slice oa on oc] ∧ Below w.heap.size w w5 ∧ w.heap.size + 1 ≤ w5.heap.size) := ⟨HM4.out.append (by omega) HO4.out (by omega) o5 e5, by rw [HST.out, if_pos HHB.out, List.map_append, HQS.out]; rfl, K4.ext e5 (ONN.not_low (Nat.lt_succ_self _)), B4.grown e5.grown B4.size (fun k hk => Nat.le_of_not_lt (fun hlt => ONN.not_low (b := k) (by omega) hk)), Nat.le_trans hlo4 e5.grown.size⟩
          obtain ⟨vb, vc, hv5⟩ : ∃ g cp, v5 = .slice (some ⟨g, 0, none⟩) (qs.length + 1) cp := by obtain ⟨g, cp, e, _⟩ := o5; exact ⟨g, cp, e⟩
          subst hv5
          clear o5 e5 K4 B4 ONN
          go_wp2
          go_roundw
          case rel => exact ⟨j + 1, _, by omega, by go_num, ⟨_, _, by rw [List.length_append]; rfl⟩, HF.out.1, HF.out.2⟩
          case measure => simp [intOf]; omega
    · obtain rfl : j = n := by omega
      clear hmy hK
      go_wp2
      go_ret
      exact ⟨_, rfl, qs, HMY.out.wide (by omega) (Nat.le_refl _), HQS.out.trans HALL.out, hbr⟩

end Go.Proofs.Ytafoldpmodipaaa

/- The laws' own helpers over Results: szResult, toResult, eqResult, markResult, heldResult (written by mk_Rs12.py). -/
namespace Go.Proofs.Ytafoldpmodipaaa
open Go.RowKit

theorem MyRs.setBelow {lo hi w v} {ps : List P} (h : MyRs lo hi w v ps) {a : Addr} (ha : a.block < lo) (x : Value) : MyRs lo hi (w.setCell a x) v ps := ⟨h.1.setBelow ha x, fun p hp => (h.2.1 p hp).setBelow ha x, h.2.2⟩
set_option maxHeartbeats 1000000 in
theorem szResult (n : Int) (hs : Bool) (vt vn : Int) (vs : ByteArray) (u : Value) (ps : List P) (left : Int) (w : World) (hv : vs.size ≤ maxLen) (hss : ∀ p ∈ ps, ∀ v ∈ p.1.l, v.s.size ≤ maxLen) (h : RdRs w u ps) (h0 : 0 ≤ left) (h1 : left ≤ 1048576) :
    Calls Try.prog 6 #[.agg #[u, .int .i64 n, .bool hs, .int .i64 vt, .int .i64 vn, .string vs], .int .i64 left] w fun e w' => ∃ r : Int, e = .returned (.int .i64 r) ∧ (r < 0 ∨ (0 ≤ r ∧ (ps.length : Int) + bulkR ps ≤ left - r)) ∧ Below w.heap.size w w' := by
  have B0 := below_alloc w (.cells #[u, .int .i64 n, .bool hs, .int .i64 vt, .int .i64 vn, .string vs] 26)
  have C0 := blk_new w [u, .int .i64 n, .bool hs, .int .i64 vt, .int .i64 vn, .string vs] 26
  have HS := Lib.hid (fun W (hb : Below w.heap.size w W) => szRowS u ps left W h0 h1 hss (h.below hb))
  have HV := Lib.hid (fun (z : Int) W (h0 : 0 ≤ z) (h1 : z ≤ 1048576) => szVal ⟨vt, vn, vs⟩ z W h0 h1 hv)
  have HE : Hid (∀ z : Int, 0 ≤ z → szV ⟨vt, vn, vs⟩ z < 0 ∨ (0 ≤ szV ⟨vt, vn, vs⟩ z ∧ szV ⟨vt, vn, vs⟩ z ≤ z)) := fun z hz => by
    have := szV_le (v := ⟨vt, vn, vs⟩) hz
    omega
  obtain ⟨⟨a, cap, hu, _⟩, _⟩ := id h
  generalize ps.length = m at hu HS ⊢
  subst hu
  clear h hss hv
  generalize hw0 : w.alloc (.cells #[.slice a m cap, .int .i64 n, .bool hs, .int .i64 vt, .int .i64 vn, .string vs] 26) = w0 at B0 C0
  have HW0 := Lib.hid hw0
  have p0 := (C0 0 _ rfl).1
  clear hw0
  go_enter Try.func6, Try.ntmps6
  go_wp2_with fail
  rw [HW0.out]
  refine (HS.out _ B0).mono ?_
  rintro e w1 ⟨r, rfl, hr, b1⟩
  have B1 := below_then B0 b1 B0.size
  obtain ⟨p3, -⟩ := C0.below b1 3 _ rfl
  obtain ⟨p4, -⟩ := C0.below b1 4 _ rfl
  obtain ⟨p5, -⟩ := C0.below b1 5 _ rfl
  clear b1 HS C0 B0 p0 HW0
  by_cases hneg : r < 0
  · clear p3 p4 p5 hr
    go_wp2
    go_ret
    exact ⟨_, rfl, .inl (by omega), B1⟩
  · have HR := Lib.hid (hr.resolve_left hneg)
    have hr1 : r ≤ 1048576 := by
      have := HR.out
      omega
    have HZ := Lib.hid (HE.out r (by omega))
    have HVR := Lib.hid (fun W => HV.out r W (by omega) hr1)
    generalize szV ⟨vt, vn, vs⟩ r = q at HZ HVR
    clear hr HE HV
    go_wp2_with fail
    refine (HVR.out _).mono ?_
    rintro e w2 ⟨rfl, b2⟩
    have B2 := below_then B1 b2 B1.size
    clear b2 HVR p3 p4 p5
    by_cases hneg2 : q < 0
    · go_wp2
      go_ret
      exact ⟨_, rfl, .inl (by omega), B2⟩
    · go_wp2
      go_ret
      exact ⟨_, rfl, .inr ⟨by omega, by have := HR.out; have := HZ.out; omega⟩, B2⟩

set_option maxHeartbeats 2000000 in
theorem toResult (n : Int) (hs : Bool) (vt vn : Int) (vs : ByteArray) (a : Option Addr) (len cap : Nat) (ps : List P) (w : World) (hle : ps.length ≤ 1048576) (hli : ∀ p ∈ ps, p.1.l.length ≤ 1048576) (h : RdRs w (.slice a len cap) ps) :
    Calls Try.prog 8 #[.agg #[.slice a len cap, .int .i64 n, .bool hs, .int .i64 vt, .int .i64 vn, .string vs]] w fun e w' => ∃ u', e = .returned (.agg #[u', .int .i64 n, .bool hs, .int .i64 vt, .int .i64 vn, .string vs]) ∧ ∃ qs, MyRs w.heap.size w'.heap.size w' u' qs ∧ qs.map (·.1) = ps.map (·.1) ∧ Below w.heap.size w w' := by
  have HS := Lib.hid (fun W (hW : Below w.heap.size w W) => toRowS (.slice a len cap) ps W hle hli (h.below hW))
  have HV := Lib.hid (fun W => toVal ⟨vt, vn, vs⟩ W)
  have B0 := below_alloc3 w (.cells #[.slice a len cap, .int .i64 n, .bool hs, .int .i64 vt, .int .i64 vn, .string vs] 26) (.cells #[.slice none 0 0, .int .i64 0, .bool false, .int .i64 0, .int .i64 0, .string ⟨#[]⟩] 32) (.cells #[.slice none 0 0, .int .i64 0, .bool false, .int .i64 0, .int .i64 0, .string ⟨#[]⟩] 32)
  have C0 := ((blk_new w [.slice a len cap, .int .i64 n, .bool hs, .int .i64 vt, .int .i64 vn, .string vs] 26).below (below_alloc _ (.cells #[.slice none 0 0, .int .i64 0, .bool false, .int .i64 0, .int .i64 0, .string ⟨#[]⟩] 32))).below (below_alloc _ (.cells #[.slice none 0 0, .int .i64 0, .bool false, .int .i64 0, .int .i64 0, .string ⟨#[]⟩] 32))
  have C1 := (blk_new (w.alloc (.cells #[.slice a len cap, .int .i64 n, .bool hs, .int .i64 vt, .int .i64 vn, .string vs] 26)) [.slice none 0 0, .int .i64 0, .bool false, .int .i64 0, .int .i64 0, .string ⟨#[]⟩] 32).below (below_alloc _ (.cells #[.slice none 0 0, .int .i64 0, .bool false, .int .i64 0, .int .i64 0, .string ⟨#[]⟩] 32))
  have C2 := blk_new ((w.alloc (.cells #[.slice a len cap, .int .i64 n, .bool hs, .int .i64 vt, .int .i64 vn, .string vs] 26)).alloc (.cells #[.slice none 0 0, .int .i64 0, .bool false, .int .i64 0, .int .i64 0, .string ⟨#[]⟩] 32)) [.slice none 0 0, .int .i64 0, .bool false, .int .i64 0, .int .i64 0, .string ⟨#[]⟩] 32
  rw [World.size_alloc] at C1
  rw [World.size_alloc, World.size_alloc] at C2
  have HSZ : Hid ((((w.alloc (.cells #[.slice a len cap, .int .i64 n, .bool hs, .int .i64 vt, .int .i64 vn, .string vs] 26)).alloc (.cells #[.slice none 0 0, .int .i64 0, .bool false, .int .i64 0, .int .i64 0, .string ⟨#[]⟩] 32)).alloc (.cells #[.slice none 0 0, .int .i64 0, .bool false, .int .i64 0, .int .i64 0, .string ⟨#[]⟩] 32)).heap.size = w.heap.size + 3) := by
    show _ = _
    rw [World.size_alloc, World.size_alloc, World.size_alloc]
  clear h hli
  generalize hw0 : ((w.alloc (.cells #[.slice a len cap, .int .i64 n, .bool hs, .int .i64 vt, .int .i64 vn, .string vs] 26)).alloc (.cells #[.slice none 0 0, .int .i64 0, .bool false, .int .i64 0, .int .i64 0, .string ⟨#[]⟩] 32)).alloc (.cells #[.slice none 0 0, .int .i64 0, .bool false, .int .i64 0, .int .i64 0, .string ⟨#[]⟩] 32) = w0 at B0 C0 C1 C2 HSZ
  have HW0 := Lib.hid hw0
  have p0 := (C0 0 _ rfl).1
  clear hw0
  go_enter Try.func8, Try.ntmps8
  go_wp2_with fail
  rw [HW0.out]
  refine (HS.out _ B0).mono ?_
  rintro e w1 ⟨v1, qs, rfl, hqs, o1, b1⟩
  have hql : qs.length = ps.length := by simpa using congrArg List.length hqs
  obtain ⟨g1, c1, hv1⟩ : ∃ g cp, v1 = .slice (some ⟨g, 0, none⟩) qs.length cp := by
    obtain ⟨g, cp, e, _⟩ := o1.1
    exact ⟨g, cp, e⟩
  have M1 := o1.my
  generalize hm1 : qs.length = m1 at hv1
  subst hv1
  have HQS := Lib.hid hqs
  clear p0 hql hm1 hqs o1
  have B1 := below_then B0 b1 B0.size
  have hs1 := b1.size
  rw [HSZ.out] at hs1 M1
  replace C0 := C0.below b1
  replace C1 := C1.below b1
  replace C2 := C2.below b1
  have D2 := (((C2.set 0 (.slice (some ⟨g1, 0, none⟩) m1 c1)).set 1 (.int .i64 n)).set 2 (.bool hs))
  have D1 := (((C1.other (p := ⟨w.heap.size + 1 + 1, 0, none⟩) (by simp) (.slice (some ⟨g1, 0, none⟩) m1 c1)).other (p := ⟨w.heap.size + 1 + 1, 1, none⟩) (by simp) (.int .i64 n)).other (p := ⟨w.heap.size + 1 + 1, 2, none⟩) (by simp) (.bool hs))
  have D0 := (((C0.other (p := ⟨w.heap.size + 1 + 1, 0, none⟩) (by simp; omega) (.slice (some ⟨g1, 0, none⟩) m1 c1)).other (p := ⟨w.heap.size + 1 + 1, 1, none⟩) (by simp; omega) (.int .i64 n)).other (p := ⟨w.heap.size + 1 + 1, 2, none⟩) (by simp; omega) (.bool hs))
  have B2 := (((B1.setCell (p := ⟨w.heap.size + 1 + 1, 0, none⟩) (by simp; omega) (.slice (some ⟨g1, 0, none⟩) m1 c1)).setCell (p := ⟨w.heap.size + 1 + 1, 1, none⟩) (by simp; omega) (.int .i64 n)).setCell (p := ⟨w.heap.size + 1 + 1, 2, none⟩) (by simp; omega) (.bool hs))
  have M2 := (((M1.setBelow (a := ⟨w.heap.size + 1 + 1, 0, none⟩) (by simp) (.slice (some ⟨g1, 0, none⟩) m1 c1)).setBelow (a := ⟨w.heap.size + 1 + 1, 1, none⟩) (by simp) (.int .i64 n)).setBelow (a := ⟨w.heap.size + 1 + 1, 2, none⟩) (by simp) (.bool hs))
  have c1' := (C0 1 _ rfl).1
  have c2' := (C0 2 _ rfl).1
  have c3' := (C0 3 _ rfl).1
  have c4' := (C0 4 _ rfl).1
  have c5' := (C0 5 _ rfl).1
  have e0 := (C2 0 _ rfl).1
  have f0 := (C2 0 _ rfl).2
  have e1 := (C2 1 _ rfl).1
  have f1 := (C2 1 _ rfl).2
  have e2 := (C2 2 _ rfl).1
  have f2 := (C2 2 _ rfl).2
  have hs2 : (((w1.setCell ⟨w.heap.size + 1 + 1, 0, none⟩ (.slice (some ⟨g1, 0, none⟩) m1 c1)).setCell ⟨w.heap.size + 1 + 1, 1, none⟩ (.int .i64 n)).setCell ⟨w.heap.size + 1 + 1, 2, none⟩ (.bool hs)).heap.size = w1.heap.size := by simp [World.setCell]
  rw [← hs2] at M2
  have HG : Hid (w.heap.size + 3 ≤ (((w1.setCell ⟨w.heap.size + 1 + 1, 0, none⟩ (.slice (some ⟨g1, 0, none⟩) m1 c1)).setCell ⟨w.heap.size + 1 + 1, 1, none⟩ (.int .i64 n)).setCell ⟨w.heap.size + 1 + 1, 2, none⟩ (.bool hs)).heap.size) := by
    show _ ≤ _
    rw [hs2]
    exact hs1
  generalize hw2 : (((w1.setCell ⟨w.heap.size + 1 + 1, 0, none⟩ (.slice (some ⟨g1, 0, none⟩) m1 c1)).setCell ⟨w.heap.size + 1 + 1, 1, none⟩ (.int .i64 n)).setCell ⟨w.heap.size + 1 + 1, 2, none⟩ (.bool hs)) = w2 at D1 D2 D0 B2 M2 HG
  have HW2 := Lib.hid hw2
  clear hw2 b1 HS C0 C1 C2 B0 B1 M1 hs2 hs1
  go_wp2_with fail
  rw [HW2.out]
  refine (HV.out _).mono ?_
  rintro e w3 ⟨rfl, b3⟩
  have B3 := below_then B2 b3 B2.size
  replace D1 := D1.below b3
  replace D2 := D2.below b3
  have HM2 := Lib.hid (M2.below b3 (Nat.le_refl _))
  have HS3 := Lib.hid b3.size
  simp only [List.set_cons_succ, List.set_cons_zero] at D2
  obtain ⟨d0, gg0⟩ := D2 0 _ rfl
  obtain ⟨d1, gg1⟩ := D2 1 _ rfl
  obtain ⟨d2, gg2⟩ := D2 2 _ rfl
  obtain ⟨d3, gg3⟩ := D2 3 _ rfl
  obtain ⟨d4, gg4⟩ := D2 4 _ rfl
  obtain ⟨d5, gg5⟩ := D2 5 _ rfl
  obtain ⟨mm0, nn0⟩ := D1 0 _ rfl
  obtain ⟨mm1, nn1⟩ := D1 1 _ rfl
  obtain ⟨mm2, nn2⟩ := D1 2 _ rfl
  obtain ⟨mm3, nn3⟩ := D1 3 _ rfl
  obtain ⟨mm4, nn4⟩ := D1 4 _ rfl
  obtain ⟨mm5, nn5⟩ := D1 5 _ rfl
  clear D0 D1 D2 b3 B2 M2 HV c1' c2' c3' c4' c5' e0 e1 e2 f0 f1 f2 HW2 HW0 HSZ
  go_wp2
  refine bodyPost_ret (v := .agg #[.slice (some ⟨g1, 0, none⟩) m1 c1, .int .i64 n, .bool hs, .int .i64 vt, .int .i64 vn, .string vs]) (by simp [results, Try.results8, go_sem, *]) rfl ⟨_, rfl, qs, ?_, HQS.out, ?_⟩
  · have := HG.out
    exact MyRs.wide ((((((((((HM2.out.setBelow (by simp) _).setBelow (by simp) _).setBelow (by simp) _).setBelow (by simp) _).setBelow (by simp) _).setBelow (by simp) _).setBelow (by simp) _).setBelow (by simp) _).setBelow (by simp) _)) (by omega) (by have := HS3.out; simpa using this)
  · exact (((((((((B3.setCell (by simp; omega) _).setCell (by simp; omega) _).setCell (by simp; omega) _).setCell (by simp) _).setCell (by simp) _).setCell (by simp) _).setCell (by simp) _).setCell (by simp) _).setCell (by simp) _)

set_option maxHeartbeats 1000000 in
theorem eqResult (n : Int) (hs : Bool) (vt vn : Int) (vs : ByteArray) (u1 u2 : Value) (ps qs : List P) (w : World) (he : qs.map (·.1) = ps.map (·.1)) (h1 : RdRs w u1 ps) (h2 : RdRs w u2 qs) :
    Calls Try.prog 10 #[.agg #[u1, .int .i64 n, .bool hs, .int .i64 vt, .int .i64 vn, .string vs], .agg #[u2, .int .i64 n, .bool hs, .int .i64 vt, .int .i64 vn, .string vs]] w fun e w' => e = .returned (.bool true) ∧ Below w.heap.size w w' := by
  have HS := Lib.hid (fun W (hW : Below w.heap.size w W) => eqRowS u1 u2 ps qs W he (h1.below hW) (h2.below hW))
  have HV := Lib.hid (fun W => eqVal ⟨vt, vn, vs⟩ W)
  have B0 := below_alloc2 w (.cells #[u1, .int .i64 n, .bool hs, .int .i64 vt, .int .i64 vn, .string vs] 32) (.cells #[u2, .int .i64 n, .bool hs, .int .i64 vt, .int .i64 vn, .string vs] 32)
  have C0 := (blk_new w [u1, .int .i64 n, .bool hs, .int .i64 vt, .int .i64 vn, .string vs] 32).below (below_alloc _ (.cells #[u2, .int .i64 n, .bool hs, .int .i64 vt, .int .i64 vn, .string vs] 32))
  have C1 := blk_new (w.alloc (.cells #[u1, .int .i64 n, .bool hs, .int .i64 vt, .int .i64 vn, .string vs] 32)) [u2, .int .i64 n, .bool hs, .int .i64 vt, .int .i64 vn, .string vs] 32
  rw [World.size_alloc] at C1
  obtain ⟨⟨a1, x1, hu1, _⟩, _⟩ := h1
  obtain ⟨⟨a2, x2, hu2, _⟩, _⟩ := h2
  generalize ps.length = m1 at hu1
  generalize qs.length = m2 at hu2
  subst hu1 hu2
  have hn : (n != n) = false := by simp
  have hh : (hs != hs) = false := by simp
  go_enter Try.func10, Try.ntmps10
  go_wp2_with fail
  refine (HS.out _ B0).mono ?_
  rintro e w1 ⟨rfl, b1⟩
  have B1 := below_then B0 b1 B0.size
  have c1 := (C0.below b1 1 _ rfl).1
  have d1 := (C1.below b1 1 _ rfl).1
  have c2 := (C0.below b1 2 _ rfl).1
  have d2 := (C1.below b1 2 _ rfl).1
  have c3 := (C0.below b1 3 _ rfl).1
  have d3 := (C1.below b1 3 _ rfl).1
  have c4 := (C0.below b1 4 _ rfl).1
  have d4 := (C1.below b1 4 _ rfl).1
  have c5 := (C0.below b1 5 _ rfl).1
  have d5 := (C1.below b1 5 _ rfl).1
  clear b1 HS C0 C1 B0
  go_wp2_with fail
  refine (HV.out _).mono ?_
  rintro e w2 ⟨rfl, b2⟩
  have B2 := below_then B1 b2 B1.size
  clear b2 HV c1 d1 c2 d2 c3 d3 c4 d4 c5 d5
  go_wp2
  go_ret
  exact ⟨rfl, B2⟩

end Go.Proofs.Ytafoldpmodipaaa

/- SameResult of the model and of the program (written by mk_Law12s.py). -/
namespace Go.Proofs.Ytafoldpmodipaaa
open Go.RowKit

/-- SameResult. -/
def sameS (l1 : List R) (n1 : Int) (h1 : Bool) (v1 : V) (l2 : List R) (n2 : Int) (h2 : Bool) (v2 : V) : Bool := sameR l1 l2 && ((n1 == n2) && ((h1 == h2) && v1.eqB v2))

set_option maxRecDepth 100000 in
set_option maxHeartbeats 1000000 in
theorem sSameResult (n1 : Int) (hs1 : Bool) (vt1 vn1 : Int) (vs1 : ByteArray) (n2 : Int) (hs2 : Bool) (vt2 vn2 : Int) (vs2 : ByteArray) (u1 u2 : Value) (ps1 ps2 : List P) (w : World) (k1 : RdRs w u1 ps1) (k2 : RdRs w u2 ps2) :
    Calls Try.prog 7 #[.agg #[u1, .int .i64 n1, .bool hs1, .int .i64 vt1, .int .i64 vn1, .string vs1], .agg #[u2, .int .i64 n2, .bool hs2, .int .i64 vt2, .int .i64 vn2, .string vs2]] w fun e w' => e = .returned (.bool (sameS (ps1.map (·.1)) n1 hs1 ⟨vt1, vn1, vs1⟩ (ps2.map (·.1)) n2 hs2 ⟨vt2, vn2, vs2⟩)) ∧ Below w.heap.size w w' := by
  have HS := Lib.hid (fun W (hW : Below w.heap.size w W) => sSameRows u1 u2 ps1 ps2 W (k1.below hW) (k2.below hW))
  unfold sameS
  generalize sameR (ps1.map (·.1)) (ps2.map (·.1)) = sr at HS ⊢
  have B0 := below_alloc2 w (.cells #[u1, .int .i64 n1, .bool hs1, .int .i64 vt1, .int .i64 vn1, .string vs1] 32) (.cells #[u2, .int .i64 n2, .bool hs2, .int .i64 vt2, .int .i64 vn2, .string vs2] 32)
  have C0 := (blk_new w [u1, .int .i64 n1, .bool hs1, .int .i64 vt1, .int .i64 vn1, .string vs1] 32).below (below_alloc _ (.cells #[u2, .int .i64 n2, .bool hs2, .int .i64 vt2, .int .i64 vn2, .string vs2] 32))
  have C1 := blk_new (w.alloc (.cells #[u1, .int .i64 n1, .bool hs1, .int .i64 vt1, .int .i64 vn1, .string vs1] 32)) [u2, .int .i64 n2, .bool hs2, .int .i64 vt2, .int .i64 vn2, .string vs2] 32
  rw [World.size_alloc] at C1
  obtain ⟨⟨a1, x1, hu1, _⟩, _⟩ := k1
  obtain ⟨⟨a2, x2, hu2, _⟩, _⟩ := k2
  generalize ps1.length = m1 at hu1
  generalize ps2.length = m2 at hu2
  subst hu1 hu2
  have hv := fun W => run_eql_val ⟨vt1, vn1, vs1⟩ ⟨vt2, vn2, vs2⟩ W
  generalize V.eqB ⟨vt1, vn1, vs1⟩ ⟨vt2, vn2, vs2⟩ = ve at hv ⊢
  go_enter Try.func7, Try.ntmps7
  go_wp2_with fail
  refine (HS.out _ B0).mono ?_
  rintro e w1 ⟨rfl, b1⟩
  have B1 := below_then B0 b1 B0.size
  have c1 := (C0.below b1 1 _ rfl).1
  have d1 := (C1.below b1 1 _ rfl).1
  have c2 := (C0.below b1 2 _ rfl).1
  have d2 := (C1.below b1 2 _ rfl).1
  have c3 := (C0.below b1 3 _ rfl).1
  have d3 := (C1.below b1 3 _ rfl).1
  have c4 := (C0.below b1 4 _ rfl).1
  have d4 := (C1.below b1 4 _ rfl).1
  have c5 := (C0.below b1 5 _ rfl).1
  have d5 := (C1.below b1 5 _ rfl).1
  clear b1 HS C0 C1 B0
  cases sr with
  | false =>
    go_wp2
    go_ret
    exact ⟨rfl, B1⟩
  | true =>
    by_cases hn : n1 = n2
    · subst hn
      have hnn : (n1 == n1) = true := by simp
      cases hs1 <;> cases hs2 <;> cases ve
      all_goals
        go_wp2
        go_ret
        exact ⟨ret_bool (by rw [hnn]; rfl), B1⟩
    · have hnn : (n1 == n2) = false := by simp [hn]
      go_wp2
      go_ret
      exact ⟨ret_bool (by rw [hnn]; rfl), B1⟩

set_option maxRecDepth 100000 in
set_option maxHeartbeats 1000000 in
theorem iSameResult (n1 : Int) (hs1 : Bool) (vt1 vn1 : Int) (vs1 : ByteArray) (n2 : Int) (hs2 : Bool) (vt2 vn2 : Int) (vs2 : ByteArray) (u1 u2 : Value) (ps1 ps2 : List P) (w : World) (h1 : ∀ p ∈ ps1, p.1.l.length ≤ 1048576) (h2 : ∀ p ∈ ps2, p.1.l.length ≤ 1048576) (l1 : ps1.length ≤ 1048576) (l2 : ps2.length ≤ 1048576) (k1 : RdRs w u1 ps1) (k2 : RdRs w u2 ps2) :
    Calls Try.prog 9 #[.agg #[u1, .int .i64 n1, .bool hs1, .int .i64 vt1, .int .i64 vn1, .string vs1], .agg #[u2, .int .i64 n2, .bool hs2, .int .i64 vt2, .int .i64 vn2, .string vs2]] w fun e w' => e = .returned (.bool (sameS (ps1.map (·.1)) n1 hs1 ⟨vt1, vn1, vs1⟩ (ps2.map (·.1)) n2 hs2 ⟨vt2, vn2, vs2⟩)) ∧ Below w.heap.size w w' := by
  have HS := Lib.hid (fun W (hW : Below w.heap.size w W) => iSameRows u1 u2 ps1 ps2 _ _ W l1 l2 h1 h2 (k1.below hW) (k2.below hW) rfl rfl)
  unfold sameS
  generalize sameR (ps1.map (·.1)) (ps2.map (·.1)) = sr at HS ⊢
  have B0 := below_alloc2 w (.cells #[u1, .int .i64 n1, .bool hs1, .int .i64 vt1, .int .i64 vn1, .string vs1] 32) (.cells #[u2, .int .i64 n2, .bool hs2, .int .i64 vt2, .int .i64 vn2, .string vs2] 32)
  have C0 := (blk_new w [u1, .int .i64 n1, .bool hs1, .int .i64 vt1, .int .i64 vn1, .string vs1] 32).below (below_alloc _ (.cells #[u2, .int .i64 n2, .bool hs2, .int .i64 vt2, .int .i64 vn2, .string vs2] 32))
  have C1 := blk_new (w.alloc (.cells #[u1, .int .i64 n1, .bool hs1, .int .i64 vt1, .int .i64 vn1, .string vs1] 32)) [u2, .int .i64 n2, .bool hs2, .int .i64 vt2, .int .i64 vn2, .string vs2] 32
  rw [World.size_alloc] at C1
  obtain ⟨⟨a1, x1, hu1, _⟩, _⟩ := k1
  obtain ⟨⟨a2, x2, hu2, _⟩, _⟩ := k2
  generalize ps1.length = m1 at hu1
  generalize ps2.length = m2 at hu2
  subst hu1 hu2
  have hv := fun W => run_eql_val ⟨vt1, vn1, vs1⟩ ⟨vt2, vn2, vs2⟩ W
  generalize V.eqB ⟨vt1, vn1, vs1⟩ ⟨vt2, vn2, vs2⟩ = ve at hv ⊢
  go_enter Try.func9, Try.ntmps9
  go_wp2_with fail
  refine (HS.out _ B0).mono ?_
  rintro e w1 ⟨rfl, b1⟩
  have B1 := below_then B0 b1 B0.size
  have c1 := (C0.below b1 1 _ rfl).1
  have d1 := (C1.below b1 1 _ rfl).1
  have c2 := (C0.below b1 2 _ rfl).1
  have d2 := (C1.below b1 2 _ rfl).1
  have c3 := (C0.below b1 3 _ rfl).1
  have d3 := (C1.below b1 3 _ rfl).1
  have c4 := (C0.below b1 4 _ rfl).1
  have d4 := (C1.below b1 4 _ rfl).1
  have c5 := (C0.below b1 5 _ rfl).1
  have d5 := (C1.below b1 5 _ rfl).1
  clear b1 HS C0 C1 B0
  cases sr with
  | false =>
    go_wp2
    go_ret
    exact ⟨rfl, B1⟩
  | true =>
    by_cases hn : n1 = n2
    · subst hn
      have hnn : (n1 == n1) = true := by simp
      cases hs1 <;> cases hs2 <;> cases ve
      all_goals
        go_wp2
        go_ret
        exact ⟨ret_bool (by rw [hnn]; rfl), B1⟩
    · have hnn : (n1 == n2) = false := by simp [hn]
      go_wp2
      go_ret
      exact ⟨ret_bool (by rw [hnn]; rfl), B1⟩

end Go.Proofs.Ytafoldpmodipaaa

/- The exact law of SameResult, walked (written by mk_Law12s.py). -/
namespace Go.Proofs.Ytafoldpmodipaaa
open Go.RowKit

set_option maxRecDepth 100000 in
set_option maxHeartbeats 4000000 in
theorem lawSameResult (a : Option Addr) (len cap : Nat) (pa : List P) (n1 : Int) (hs1 : Bool) (vt1 vn1 : Int) (vs1 : ByteArray) (b : Option Addr) (lenb capb : Nat) (pb : List P) (n2 : Int) (hs2 : Bool) (vt2 vn2 : Int) (vs2 : ByteArray) (w : World)
    (hva : vs1.size ≤ maxLen) (hsa : ∀ p ∈ pa, ∀ v ∈ p.1.l, v.s.size ≤ maxLen) (hA : RdRs w (.slice a len cap) pa) (hvb : vs2.size ≤ maxLen) (hsb : ∀ p ∈ pb, ∀ v ∈ p.1.l, v.s.size ≤ maxLen) (hB : RdRs w (.slice b lenb capb) pb) :
    Calls Try.prog 3 #[.agg #[.slice a len cap, .int .i64 n1, .bool hs1, .int .i64 vt1, .int .i64 vn1, .string vs1], .agg #[.slice b lenb capb, .int .i64 n2, .bool hs2, .int .i64 vt2, .int .i64 vn2, .string vs2]] w fun e w' => e = .returned (.bool true) ∧ Below w.heap.size w w' := by
  have HSA := Lib.hid hsa
  have HSB := Lib.hid hsb
  have HVa := Lib.hid hva
  have HVb := Lib.hid hvb
  have bt := below_alloc2 w (.cells #[.slice a len cap, .int .i64 n1, .bool hs1, .int .i64 vt1, .int .i64 vn1, .string vs1] 26) (.cells #[.slice b lenb capb, .int .i64 n2, .bool hs2, .int .i64 vt2, .int .i64 vn2, .string vs2] 26)
  have C0 := (blk_new w [.slice a len cap, .int .i64 n1, .bool hs1, .int .i64 vt1, .int .i64 vn1, .string vs1] 26).below (below_alloc _ (.cells #[.slice b lenb capb, .int .i64 n2, .bool hs2, .int .i64 vt2, .int .i64 vn2, .string vs2] 26))
  have C1 := blk_new (w.alloc (.cells #[.slice a len cap, .int .i64 n1, .bool hs1, .int .i64 vt1, .int .i64 vn1, .string vs1] 26)) [.slice b lenb capb, .int .i64 n2, .bool hs2, .int .i64 vt2, .int .i64 vn2, .string vs2] 26
  rw [World.size_alloc] at C1
  have hz0 : ((w.alloc (.cells #[.slice a len cap, .int .i64 n1, .bool hs1, .int .i64 vt1, .int .i64 vn1, .string vs1] 26)).alloc (.cells #[.slice b lenb capb, .int .i64 n2, .bool hs2, .int .i64 vt2, .int .i64 vn2, .string vs2] 26)).heap.size = w.heap.size + 2 := by rw [World.size_alloc, World.size_alloc]
  generalize hw0 : (w.alloc (.cells #[.slice a len cap, .int .i64 n1, .bool hs1, .int .i64 vt1, .int .i64 vn1, .string vs1] 26)).alloc (.cells #[.slice b lenb capb, .int .i64 n2, .bool hs2, .int .i64 vt2, .int .i64 vn2, .string vs2] 26) = w0 at bt C0 C1 hz0
  have HW0 := Lib.hid hw0
  clear hw0 hsa hsb hva hvb
  go_enter Try.func3, Try.ntmps3
  have p0 := (C0 0 _ rfl).1
  have p1 := (C0 1 _ rfl).1
  have p2 := (C0 2 _ rfl).1
  have p3 := (C0 3 _ rfl).1
  have p4 := (C0 4 _ rfl).1
  have p5 := (C0 5 _ rfl).1
  go_wp2_with fail
  rw [HW0.out]
  refine (szResult n1 hs1 vt1 vn1 vs1 _ pa 1048576 w0 HVa.out HSA.out (hA.below bt) (by omega) (by omega)).mono ?_
  rintro e w1 ⟨r1, rfl, hr1, hb⟩
  clear p0 p1 p2 p3 p4 p5
  have z1 := hb.size
  replace C0 := C0.below hb
  replace C1 := C1.below hb
  replace bt := below_then bt hb (by omega)
  clear hb
  by_cases hnr1 : r1 < 0
  · clear hr1
    go_wp2
    go_ret
    exact ⟨rfl, bt⟩
  have hr1' := hr1.resolve_left hnr1
  have hma : pa.length ≤ 1048576 := by omega
  have HIa : Hid (∀ p ∈ pa, p.1.l.length ≤ 1048576) := fun p hp => by
    have := bulkR_mem hp
    omega
  have hler1 : r1 ≤ 1048576 := by omega
  clear hr1 hr1'
  have p0 := (C1 0 _ rfl).1
  have p1 := (C1 1 _ rfl).1
  have p2 := (C1 2 _ rfl).1
  have p3 := (C1 3 _ rfl).1
  have p4 := (C1 4 _ rfl).1
  have p5 := (C1 5 _ rfl).1
  go_wp2_with fail
  refine (szResult n2 hs2 vt2 vn2 vs2 _ pb r1 w1 HVb.out HSB.out (hB.below bt) (by omega) hler1).mono ?_
  rintro e w2 ⟨r2, rfl, hr2, hb⟩
  clear p0 p1 p2 p3 p4 p5
  have z2 := hb.size
  replace C0 := C0.below hb
  replace C1 := C1.below hb
  replace bt := below_then bt hb (by omega)
  clear hb
  by_cases hnr2 : r2 < 0
  · clear hr2
    go_wp2
    go_ret
    exact ⟨rfl, bt⟩
  have hr2' := hr2.resolve_left hnr2
  have hmb : pb.length ≤ 1048576 := by omega
  have HIb : Hid (∀ p ∈ pb, p.1.l.length ≤ 1048576) := fun p hp => by
    have := bulkR_mem hp
    omega
  have hler2 : r2 ≤ 1048576 := by omega
  clear hr2 hr2'
  have HKB : Hid (∀ W, Below w2.heap.size w2 W → W.cell? ⟨w.heap.size, 0, none⟩ = some (.slice a len cap) ∧ W.cell? ⟨w.heap.size, 1, none⟩ = some (.int .i64 n1) ∧ W.cell? ⟨w.heap.size, 2, none⟩ = some (.bool hs1) ∧ W.cell? ⟨w.heap.size, 3, none⟩ = some (.int .i64 vt1) ∧ W.cell? ⟨w.heap.size, 4, none⟩ = some (.int .i64 vn1) ∧ W.cell? ⟨w.heap.size, 5, none⟩ = some (.string vs1) ∧ W.cell? ⟨w.heap.size + 1, 0, none⟩ = some (.slice b lenb capb) ∧ W.cell? ⟨w.heap.size + 1, 1, none⟩ = some (.int .i64 n2) ∧ W.cell? ⟨w.heap.size + 1, 2, none⟩ = some (.bool hs2) ∧ W.cell? ⟨w.heap.size + 1, 3, none⟩ = some (.int .i64 vt2) ∧ W.cell? ⟨w.heap.size + 1, 4, none⟩ = some (.int .i64 vn2) ∧ W.cell? ⟨w.heap.size + 1, 5, none⟩ = some (.string vs2)) := fun W h => ⟨(C0.below h 0 _ rfl).1, (C0.below h 1 _ rfl).1, (C0.below h 2 _ rfl).1, (C0.below h 3 _ rfl).1, (C0.below h 4 _ rfl).1, (C0.below h 5 _ rfl).1, (C1.below h 0 _ rfl).1, (C1.below h 1 _ rfl).1, (C1.below h 2 _ rfl).1, (C1.below h 3 _ rfl).1, (C1.below h 4 _ rfl).1, (C1.below h 5 _ rfl).1⟩
  have HTA := Lib.hid (fun W (hW : Below w2.heap.size w2 W) => toResult n1 hs1 vt1 vn1 vs1 a len cap pa W hma HIa.out (hA.below (below_then bt hW (by omega))))
  have HTB := Lib.hid (fun W (hW : Below w2.heap.size w2 W) => toResult n2 hs2 vt2 vn2 vs2 b lenb capb pb W hmb HIb.out (hB.below (below_then bt hW (by omega))))
  have HSM := Lib.hid (fun W u1 u2 q1 q2 (k1 : RdRs W u1 q1) (k2 : RdRs W u2 q2) => sSameResult n1 hs1 vt1 vn1 vs1 n2 hs2 vt2 vn2 vs2 u1 u2 q1 q2 W k1 k2)
  have hB' := (Below.refl w2.heap.size w2).drew
  go_wp2_with fail
  go_region_held3 (fun W => W.cell? ⟨w.heap.size, 0, none⟩ = some (.slice a len cap) ∧ W.cell? ⟨w.heap.size, 1, none⟩ = some (.int .i64 n1) ∧ W.cell? ⟨w.heap.size, 2, none⟩ = some (.bool hs1) ∧ W.cell? ⟨w.heap.size, 3, none⟩ = some (.int .i64 vt1) ∧ W.cell? ⟨w.heap.size, 4, none⟩ = some (.int .i64 vn1) ∧ W.cell? ⟨w.heap.size, 5, none⟩ = some (.string vs1) ∧ W.cell? ⟨w.heap.size + 1, 0, none⟩ = some (.slice b lenb capb) ∧ W.cell? ⟨w.heap.size + 1, 1, none⟩ = some (.int .i64 n2) ∧ W.cell? ⟨w.heap.size + 1, 2, none⟩ = some (.bool hs2) ∧ W.cell? ⟨w.heap.size + 1, 3, none⟩ = some (.int .i64 vt2) ∧ W.cell? ⟨w.heap.size + 1, 4, none⟩ = some (.int .i64 vn2) ∧ W.cell? ⟨w.heap.size + 1, 5, none⟩ = some (.string vs2)) (exact HKB.out _ hB') (first | (go_at_call 8; (with_reducible refine (HTA.out _ hB').mono ?_); rintro e wA ⟨uA, rfl, qA, oA, eA, hb⟩; replace hB' := below_then hB' hb hB'.size; try replace oB := oB.below hb (Nat.le_refl _)) | (go_at_call 8; (with_reducible refine (HTB.out _ hB').mono ?_); rintro e wB ⟨uB, rfl, qB, oB, eB, hb⟩; replace hB' := below_then hB' hb hB'.size; try replace oA := oA.below hb (Nat.le_refl _)) | (go_at_call 7; (with_reducible refine (HSM.out _ _ _ _ _ oA.rd oB.rd).mono ?_); rintro e wC ⟨rfl, hb⟩; replace hB' := below_then hB' hb hB'.size))
  all_goals
    try rw [eA, eB]
    have hb := hB'
    clear hB' oA oB eA eB HTA HTB HKB HSM
    have zC := hb.size
    replace C0 := C0.below hb
    replace C1 := C1.below hb
    replace bt := below_then bt hb (by omega)
    clear hb
    have p0 := (C0 0 _ rfl).1
    have p1 := (C0 1 _ rfl).1
    have p2 := (C0 2 _ rfl).1
    have p3 := (C0 3 _ rfl).1
    have p4 := (C0 4 _ rfl).1
    have p5 := (C0 5 _ rfl).1
    go_wp2_with fail
    refine (toResult n1 hs1 vt1 vn1 vs1 a len cap pa wC hma HIa.out (hA.below bt)).mono ?_
    rintro e w3 ⟨x0, rfl, qx0, o0, e0, hb⟩
    clear p0 p1 p2 p3 p4 p5
    have z3 := hb.size
    replace C0 := C0.below hb
    replace C1 := C1.below hb
    replace bt := below_then bt hb (by omega)
    clear hb
    have ox0 := o0
    have Hqx0 := Lib.hid e0
    clear o0 e0
    obtain ⟨ya, yc, ye⟩ := ox0.1.sl
    generalize qx0.length = ym at ye
    subst ye
    have hb := below_alloc w3 (.cells #[.slice ya ym yc, .int .i64 n1, .bool hs1, .int .i64 vt1, .int .i64 vn1, .string vs1] 32)
    have CX := blk_new w3 [.slice ya ym yc, .int .i64 n1, .bool hs1, .int .i64 vt1, .int .i64 vn1, .string vs1] 32
    have hzx : (w3.alloc (.cells #[.slice ya ym yc, .int .i64 n1, .bool hs1, .int .i64 vt1, .int .i64 vn1, .string vs1] 32)).heap.size = w3.heap.size + 1 := World.size_alloc _ _
    replace ox0 := ox0.below hb (by omega)
    replace C0 := C0.below hb
    replace C1 := C1.below hb
    replace bt := below_then bt hb (by omega)
    clear hb
    have k0 := (C1 0 _ rfl).1
    have k1 := (C1 1 _ rfl).1
    have k2 := (C1 2 _ rfl).1
    have k3 := (C1 3 _ rfl).1
    have k4 := (C1 4 _ rfl).1
    have k5 := (C1 5 _ rfl).1
    generalize hwx : w3.alloc (.cells #[.slice ya ym yc, .int .i64 n1, .bool hs1, .int .i64 vt1, .int .i64 vn1, .string vs1] 32) = wx at bt CX hzx ox0 C0 C1
    have HWX := Lib.hid hwx
    generalize hqx : w3.heap.size = qx at CX hzx
    have HQX := Lib.hid hqx
    clear hwx hqx
    go_wp2_with fail
    rw [HWX.out, HQX.out]
    refine (toResult n2 hs2 vt2 vn2 vs2 b lenb capb pb wx hmb HIb.out (hB.below bt)).mono ?_
    rintro e w4 ⟨x1, rfl, qx1, o0, e0, hb⟩
    have hqw := HQX.out
    clear k0 k1 k2 k3 k4 k5
    have z4 := hb.size
    replace ox0 := ox0.below hb (by omega)
    replace C0 := C0.below hb
    replace C1 := C1.below hb
    replace CX := CX.below hb
    replace bt := below_then bt hb (by omega)
    clear hb
    have ox1 := o0
    have Hqx1 := Lib.hid e0
    clear o0 e0
    obtain ⟨ga, gc, ge⟩ := ox1.1.sl
    generalize qx1.length = gm at ge
    subst ge
    have hb := below_alloc w4 (.cells #[.slice ga gm gc, .int .i64 n2, .bool hs2, .int .i64 vt2, .int .i64 vn2, .string vs2] 32)
    have CY := blk_new w4 [.slice ga gm gc, .int .i64 n2, .bool hs2, .int .i64 vt2, .int .i64 vn2, .string vs2] 32
    have hzy : (w4.alloc (.cells #[.slice ga gm gc, .int .i64 n2, .bool hs2, .int .i64 vt2, .int .i64 vn2, .string vs2] 32)).heap.size = w4.heap.size + 1 := World.size_alloc _ _
    replace ox0 := ox0.below hb (by omega)
    replace ox1 := ox1.below hb (by omega)
    replace C0 := C0.below hb
    replace C1 := C1.below hb
    replace CX := CX.below hb
    replace bt := below_then bt hb (by omega)
    clear hb
    have k0 := (CX 0 _ rfl).1
    have k1 := (CX 1 _ rfl).1
    have k2 := (CX 2 _ rfl).1
    have k3 := (CX 3 _ rfl).1
    have k4 := (CX 4 _ rfl).1
    have k5 := (CX 5 _ rfl).1
    generalize hwy : w4.alloc (.cells #[.slice ga gm gc, .int .i64 n2, .bool hs2, .int .i64 vt2, .int .i64 vn2, .string vs2] 32) = wy at bt CY hzy ox0 ox1 C0 C1 CX
    have HWY := Lib.hid hwy
    generalize hqy : w4.heap.size = qy at CY hzy
    have HQY := Lib.hid hqy
    clear hwy hqy
    go_wp2_with fail
    rw [HWY.out]
    have hqw2 := HQY.out
    refine (iSameResult n1 hs1 vt1 vn1 vs1 n2 hs2 vt2 vn2 vs2 _ _ qx0 qx1 wy (small_fst Hqx0.out HIa.out) (small_fst Hqx1.out HIb.out) (by rw [len_fst Hqx0.out]; exact hma) (by rw [len_fst Hqx1.out]; exact hmb) ox0.rd ox1.rd).mono ?_
    rintro e w5 ⟨rfl, hb⟩
    have z5 := hb.size
    replace ox0 := ox0.below hb (by omega)
    replace ox1 := ox1.below hb (by omega)
    replace C0 := C0.below hb
    replace C1 := C1.below hb
    replace CX := CX.below hb
    replace CY := CY.below hb
    replace bt := below_then bt hb (by omega)
    clear hb
    try rw [Hqx0.out, Hqx1.out]
    have hqq : (sameS (pa.map (·.1)) n1 hs1 ⟨vt1, vn1, vs1⟩ (pb.map (·.1)) n2 hs2 ⟨vt2, vn2, vs2⟩ != sameS (pa.map (·.1)) n1 hs1 ⟨vt1, vn1, vs1⟩ (pb.map (·.1)) n2 hs2 ⟨vt2, vn2, vs2⟩) = false := by simp
    generalize sameS (pa.map (·.1)) n1 hs1 ⟨vt1, vn1, vs1⟩ (pb.map (·.1)) n2 hs2 ⟨vt2, vn2, vs2⟩ = sr at hqq ⊢
    clear k0 k1 k2 k3 k4 k5
    have HKB : Hid (∀ W, Below w5.heap.size w5 W → W.cell? ⟨qx, 0, none⟩ = some (.slice ya ym yc) ∧ W.cell? ⟨qx, 1, none⟩ = some (.int .i64 n1) ∧ W.cell? ⟨qx, 2, none⟩ = some (.bool hs1) ∧ W.cell? ⟨qx, 3, none⟩ = some (.int .i64 vt1) ∧ W.cell? ⟨qx, 4, none⟩ = some (.int .i64 vn1) ∧ W.cell? ⟨qx, 5, none⟩ = some (.string vs1) ∧ W.cell? ⟨w.heap.size, 0, none⟩ = some (.slice a len cap) ∧ W.cell? ⟨w.heap.size, 1, none⟩ = some (.int .i64 n1) ∧ W.cell? ⟨w.heap.size, 2, none⟩ = some (.bool hs1) ∧ W.cell? ⟨w.heap.size, 3, none⟩ = some (.int .i64 vt1) ∧ W.cell? ⟨w.heap.size, 4, none⟩ = some (.int .i64 vn1) ∧ W.cell? ⟨w.heap.size, 5, none⟩ = some (.string vs1)) := fun W h => ⟨(CX.below h 0 _ rfl).1, (CX.below h 1 _ rfl).1, (CX.below h 2 _ rfl).1, (CX.below h 3 _ rfl).1, (CX.below h 4 _ rfl).1, (CX.below h 5 _ rfl).1, (C0.below h 0 _ rfl).1, (C0.below h 1 _ rfl).1, (C0.below h 2 _ rfl).1, (C0.below h 3 _ rfl).1, (C0.below h 4 _ rfl).1, (C0.below h 5 _ rfl).1⟩
    have HTA := Lib.hid (fun W (hW : Below w5.heap.size w5 W) => toResult n1 hs1 vt1 vn1 vs1 a len cap pa W hma HIa.out (hA.below (below_then bt hW (by omega))))
    have HEA := Lib.hid (fun W u2 q2 (hW : Below w5.heap.size w5 W) (e2 : q2.map (·.1) = pa.map (·.1)) (k2 : RdRs W u2 q2) => eqResult n1 hs1 vt1 vn1 vs1 (.slice ya ym yc) u2 qx0 q2 W (e2.trans Hqx0.out.symm) (ox0.rd.below hW) k2)
    have hB' := (Below.refl w5.heap.size w5).drew
    go_wp2_with fail
    go_region_held3 (fun W => W.cell? ⟨qx, 0, none⟩ = some (.slice ya ym yc) ∧ W.cell? ⟨qx, 1, none⟩ = some (.int .i64 n1) ∧ W.cell? ⟨qx, 2, none⟩ = some (.bool hs1) ∧ W.cell? ⟨qx, 3, none⟩ = some (.int .i64 vt1) ∧ W.cell? ⟨qx, 4, none⟩ = some (.int .i64 vn1) ∧ W.cell? ⟨qx, 5, none⟩ = some (.string vs1) ∧ W.cell? ⟨w.heap.size, 0, none⟩ = some (.slice a len cap) ∧ W.cell? ⟨w.heap.size, 1, none⟩ = some (.int .i64 n1) ∧ W.cell? ⟨w.heap.size, 2, none⟩ = some (.bool hs1) ∧ W.cell? ⟨w.heap.size, 3, none⟩ = some (.int .i64 vt1) ∧ W.cell? ⟨w.heap.size, 4, none⟩ = some (.int .i64 vn1) ∧ W.cell? ⟨w.heap.size, 5, none⟩ = some (.string vs1)) (exact HKB.out _ hB') (first | (go_at_call 8; (with_reducible refine (HTA.out _ hB').mono ?_); rintro e wD1 ⟨uA, rfl, qA, oA, eA, hb⟩; replace hB' := below_then hB' hb hB'.size) | (go_at_call 10; (with_reducible refine (HEA.out _ _ _ hB' eA oA.rd).mono ?_); rintro e wE1 ⟨rfl, hb⟩; replace hB' := below_then hB' hb hB'.size))
    all_goals
      have hb := hB'
      clear hB' oA eA HTA HEA HKB
      have zE1 := hb.size
      replace ox0 := ox0.below hb (by omega)
      replace ox1 := ox1.below hb (by omega)
      replace C0 := C0.below hb
      replace C1 := C1.below hb
      replace CX := CX.below hb
      replace CY := CY.below hb
      replace bt := below_then bt hb (by omega)
      clear hb
      have HKB : Hid (∀ W, Below wE1.heap.size wE1 W → W.cell? ⟨qy, 0, none⟩ = some (.slice ga gm gc) ∧ W.cell? ⟨qy, 1, none⟩ = some (.int .i64 n2) ∧ W.cell? ⟨qy, 2, none⟩ = some (.bool hs2) ∧ W.cell? ⟨qy, 3, none⟩ = some (.int .i64 vt2) ∧ W.cell? ⟨qy, 4, none⟩ = some (.int .i64 vn2) ∧ W.cell? ⟨qy, 5, none⟩ = some (.string vs2) ∧ W.cell? ⟨w.heap.size + 1, 0, none⟩ = some (.slice b lenb capb) ∧ W.cell? ⟨w.heap.size + 1, 1, none⟩ = some (.int .i64 n2) ∧ W.cell? ⟨w.heap.size + 1, 2, none⟩ = some (.bool hs2) ∧ W.cell? ⟨w.heap.size + 1, 3, none⟩ = some (.int .i64 vt2) ∧ W.cell? ⟨w.heap.size + 1, 4, none⟩ = some (.int .i64 vn2) ∧ W.cell? ⟨w.heap.size + 1, 5, none⟩ = some (.string vs2)) := fun W h => ⟨(CY.below h 0 _ rfl).1, (CY.below h 1 _ rfl).1, (CY.below h 2 _ rfl).1, (CY.below h 3 _ rfl).1, (CY.below h 4 _ rfl).1, (CY.below h 5 _ rfl).1, (C1.below h 0 _ rfl).1, (C1.below h 1 _ rfl).1, (C1.below h 2 _ rfl).1, (C1.below h 3 _ rfl).1, (C1.below h 4 _ rfl).1, (C1.below h 5 _ rfl).1⟩
      have HTA := Lib.hid (fun W (hW : Below wE1.heap.size wE1 W) => toResult n2 hs2 vt2 vn2 vs2 b lenb capb pb W hmb HIb.out (hB.below (below_then bt hW (by omega))))
      have HEA := Lib.hid (fun W u2 q2 (hW : Below wE1.heap.size wE1 W) (e2 : q2.map (·.1) = pb.map (·.1)) (k2 : RdRs W u2 q2) => eqResult n2 hs2 vt2 vn2 vs2 (.slice ga gm gc) u2 qx1 q2 W (e2.trans Hqx1.out.symm) (ox1.rd.below hW) k2)
      have hB' := (Below.refl wE1.heap.size wE1).drew
      go_wp2_with fail
      go_region_held3 (fun W => W.cell? ⟨qy, 0, none⟩ = some (.slice ga gm gc) ∧ W.cell? ⟨qy, 1, none⟩ = some (.int .i64 n2) ∧ W.cell? ⟨qy, 2, none⟩ = some (.bool hs2) ∧ W.cell? ⟨qy, 3, none⟩ = some (.int .i64 vt2) ∧ W.cell? ⟨qy, 4, none⟩ = some (.int .i64 vn2) ∧ W.cell? ⟨qy, 5, none⟩ = some (.string vs2) ∧ W.cell? ⟨w.heap.size + 1, 0, none⟩ = some (.slice b lenb capb) ∧ W.cell? ⟨w.heap.size + 1, 1, none⟩ = some (.int .i64 n2) ∧ W.cell? ⟨w.heap.size + 1, 2, none⟩ = some (.bool hs2) ∧ W.cell? ⟨w.heap.size + 1, 3, none⟩ = some (.int .i64 vt2) ∧ W.cell? ⟨w.heap.size + 1, 4, none⟩ = some (.int .i64 vn2) ∧ W.cell? ⟨w.heap.size + 1, 5, none⟩ = some (.string vs2)) (exact HKB.out _ hB') (first | (go_at_call 8; (with_reducible refine (HTA.out _ hB').mono ?_); rintro e wD2 ⟨uA, rfl, qA, oA, eA, hb⟩; replace hB' := below_then hB' hb hB'.size) | (go_at_call 10; (with_reducible refine (HEA.out _ _ _ hB' eA oA.rd).mono ?_); rintro e wE2 ⟨rfl, hb⟩; replace hB' := below_then hB' hb hB'.size))
      all_goals
        have hb := hB'
        clear hB' oA eA HTA HEA HKB
        have zE2 := hb.size
        replace ox0 := ox0.below hb (by omega)
        replace ox1 := ox1.below hb (by omega)
        replace C0 := C0.below hb
        replace C1 := C1.below hb
        replace CX := CX.below hb
        replace CY := CY.below hb
        replace bt := below_then bt hb (by omega)
        clear hb
        go_wp2
        go_ret
        exact ⟨rfl, bt⟩

end Go.Proofs.Ytafoldpmodipaaa
