/- Texts of this claim, one behind the other: S12a, RowsA, C13, Law13, S13b. -/
import Derived.Test.YtkofafefnlommaaGreatP19
import Derived.Test.YtkofafefnlommaaGreatP6
import Derived.Test.YtkofafefnlommaaGreatP16
import Derived.Lib.SliceRun
import Derived.Test.YtkofafefnlommaaGreatP4

/- The model's l4Copy, the program's slices.Clone and copyRow (written by mk_S12a.py). -/
namespace Go.Proofs.YtkofafefnlommaaGreat
open Go.RowKit

theorem OwnN.atN {e size lo hi w v n xs} (h : OwnN e size lo hi w v n xs) : AtN size w v n xs := h.imp id Own.at
theorem OwnV.atN {lo hi w u} {l : List V} (h : OwnV lo hi w u l) : AtN 3 w u l.length (vals l) := OwnN.atN h
theorem AtN.sl {size w v n xs} (h : AtN size w v n xs) : ∃ a cp, v = .slice a n cp := by
  obtain ⟨a, cp, e, _⟩ := h.rd
  exact ⟨a, cp, e⟩
theorem run_append_atN {P : Program} {t e : TypeId} {z : Value} {size bytes : Nat} (T : ElemT P t e z size bytes) (w : World) (ty : TypeId)
    (lo hi : Nat) (v : Value) (n : Nat) (xs : List Value) (hown : Own e size lo hi w v n xs) (xv : Value) (m : Nat) (news : List Value) (hX : AtN size w xv m news) (h1 : ∀ u ∈ news, u.oneCell' = true)
    (h63 : n + m ≤ maxLen) (hbytes : (n + m) * bytes ≤ 140737488355328) :
    ∃ v' w', (Builtin.append_ #[t, t] ty #[v, xv]).run P w = .ok v' w' ∧ Own e size lo w'.heap.size w' v' (n + m) (xs ++ news) ∧ Ext w w' v v' := by
  rcases hX with ⟨rfl, rfl, rfl⟩ | ⟨b, off, cap, rfl, _, _, hl, hc⟩
  · obtain ⟨i, hi', hz, hs, hb⟩ := T.info
    have hr := run_append_owned_none (P := P) (w := w) lo t ty e i size T.ht hi' v n xs hown.row
    refine ⟨v, w, hr, ?_, Ext.refl _ _⟩
    rw [List.append_nil]
    obtain ⟨g, cp, rfl, h2, h3, h4⟩ := hown
    exact ⟨g, cp, rfl, h2, (h4.lt g rfl).2, h4⟩
  · exact append_block w t ty e z size bytes T lo hi v n xs hown ⟨b, off, none⟩ m cap news hl (fun j u hu => by rw [addr_add]; exact hc j u hu) h1 h63 hbytes
/-- append(s, x...) as one operation: s one's own, x nil or read. -/
theorem appendN_op {P : Program} {t e : TypeId} {z : Value} {size bytes : Nat} (T : ElemT P t e z size bytes) {w : World} {o : Oper} {a : Act} {K : Act → World → Prop} {Q : Exit → Act → World → Prop} (s x : Operand)
    (ho : o.op = .call { callee := .builtin .append, args := #[s, x], argTypes := #[t, t] })
    (lo hi : Nat) (v : Value) (n : Nat) (xs : List Value) (hs : a.eval s = v) (hown : Own e size lo hi w v n xs)
    (xv : Value) (m : Nat) (news : List Value) (hx : a.eval x = xv) (hX : AtN size w xv m news) (h1 : ∀ u ∈ news, u.oneCell' = true)
    (h63 : n + m ≤ maxLen) (hbytes : (n + m) * bytes ≤ 140737488355328)
    (h : ∀ v' w', Own e size lo w'.heap.size w' v' (n + m) (xs ++ news) → Ext w w' v v' → K (a.put o.dst v') w') : Oper.wp P o a w K Q := by
  obtain ⟨v', w', hr, h2, h3⟩ := run_append_atN T w o.type lo hi v n xs hown xv m news hX h1 h63 hbytes
  unfold Oper.wp execOp
  simp only [ho, resolve, invoke, builtin, Sem.run_bind, Sem.run_pure, Result.andThen_ok, List.map_toArray, List.map_cons, List.map_nil, hs, hx, hr]
  exact h v' w' h2 h3
theorem appendN_law {P : Program} {t e : TypeId} {z : Value} {size bytes : Nat} (T : ElemT P t e z size bytes) {w : World} {ops : Array Oper} {rest : List Oper} {o : Oper} {a : Act} {Q : Exit → Act → World → Prop} (hgd : o.guard = none) (s x : Operand)
    (ho : o.op = .call { callee := .builtin .append, args := #[s, x], argTypes := #[t, t] })
    (lo hi : Nat) (v : Value) (n : Nat) (xs : List Value) (hs : a.eval s = v) (hown : Own e size lo hi w v n xs)
    (xv : Value) (m : Nat) (news : List Value) (hx : a.eval x = xv) (hX : AtN size w xv m news) (h1 : ∀ u ∈ news, u.oneCell' = true)
    (h63 : n + m ≤ maxLen) (hbytes : (n + m) * bytes ≤ 140737488355328)
    (h : ∀ v' w', Own e size lo w'.heap.size w' v' (n + m) (xs ++ news) → Ext w w' v v' → wpList P ops Q rest (a.put o.dst v') w') : wpList P ops Q (o :: rest) a w := by
  refine wpList_plain hgd fun K hK => ?_
  obtain ⟨v', w', hr, h2, h3⟩ := run_append_atN T w o.type lo hi v n xs hown xv m news hX h1 h63 hbytes
  unfold Oper.wp execOp
  simp only [ho, resolve, invoke, builtin, Sem.run_bind, Sem.run_pure, Result.andThen_ok, List.map_toArray, List.map_cons, List.map_nil, hs, hx, hr]
  exact hK _ _ (h v' w' h2 h3)
theorem Two.grown {W W' : World} {b : Nat} {x y : Value} {row : Option Nat} (h : Two W b x y) (hg : W.grownBy W' row) (hne : some b ≠ row) : Two W' b x y := by
  have hb := hg.block b (lt_of_cell h.1.1) hne
  exact ⟨⟨(World.cell?_of_block hb).trans h.1.1, (World.cell?_of_block hb).trans h.1.2⟩, (World.frozen?_of_block hb).trans h.2.1, (World.frozen?_of_block hb).trans h.2.2⟩
theorem OwnN.setBelow {e size lo hi w v n xs} (h : OwnN e size lo hi w v n xs) {a : Addr} (ha : a.block < lo) (u : Value) : OwnN e size lo hi (w.setCell a u) v n xs := h.imp id (fun h => h.setBelow ha u)
theorem OwnV.setBelow {lo hi w u} {l : List V} (h : OwnV lo hi w u l) {a : Addr} (ha : a.block < lo) (x : Value) : OwnV lo hi (w.setCell a x) u l := OwnN.setBelow h ha x
theorem valsOne (l : List V) : ∀ u ∈ vals l, u.oneCell' = true := by
  intro u hu
  unfold vals at hu
  obtain ⟨v, _, hv⟩ := List.mem_flatMap.1 hu
  simp only [V.cs, List.mem_cons, List.not_mem_nil, or_false] at hv
  rcases hv with rfl | rfl | rfl <;> rfl

end Go.Proofs.YtkofafefnlommaaGreat

/- Slices of Rows whose values are nil or read; append of a Row. -/
namespace Go.Proofs.YtkofafefnlommaaGreat
open Go.RowKit

/-- v is a slice of Rows whose values are nil or read. -/
def RdRsN (w : World) (v : Value) (ps : List P) : Prop := Rd 2 w v ps.length (prs ps) ∧ ∀ p ∈ ps, AtN 3 w p.2 p.1.l.length (vals p.1.l)
theorem RdRsN.below {w w' : World} {v : Value} {ps : List P} (h : RdRsN w v ps) (hb : Below w.heap.size w w') : RdRsN w' v ps := ⟨h.1.below hb, fun p hp => (h.2 p hp).below hb⟩
theorem RdRsN.rd {w : World} {v : Value} {ps : List P} (h : RdRsN w v ps) : RdRs w v ps := ⟨h.1, fun p hp => (h.2 p hp).rd⟩
theorem MyRs.rdN {lo hi w v} {ps : List P} (h : MyRs lo hi w v ps) : RdRsN w v ps := ⟨h.1.rd, fun p hp => (h.2.1 p hp).atN⟩
theorem RdRsN.walk {w : World} {v : Value} {ps : List P} (h : RdRsN w v ps) {n : Nat} (hl : ps.length = n) :
    ∃ a cap, v = .slice a n cap ∧ n ≤ maxLen ∧ Hid (∀ k, k < n → ∀ W, Below w.heap.size w W → ∃ b off, a = some ⟨b, off, none⟩ ∧ W.cell? ⟨b, off + k * 2, none⟩ = some (.int .i64 (ps.getD k P.zero).1.id) ∧ W.cell? ⟨b, off + k * 2 + 1, none⟩ = some (ps.getD k P.zero).2 ∧ AtN 3 W (ps.getD k P.zero).2 (ps.getD k P.zero).1.l.length (vals (ps.getD k P.zero).1.l)) := by
  obtain ⟨a, cap, rfl, hn, HC⟩ := h.rd.walk hl
  refine ⟨a, cap, rfl, hn, fun k hk W hW => ?_⟩
  obtain ⟨b, off, e, h1, h2, _⟩ := HC.out k hk W hW
  refine ⟨b, off, e, h1, h2, (h.2 _ ?_).below hW⟩
  have hk' : k < ps.length := by omega
  have e : ps.getD k P.zero = ps[k] := by simp [hk']
  rw [e]
  exact List.getElem_mem hk'
theorem aparts_snoc {us : List Value} {v : Value} (h : Apart us) (hv : ∀ u ∈ us, u.ownBlock = none ∨ u.ownBlock ≠ v.ownBlock) : Apart (us ++ [v]) := by
  unfold Apart at *
  rw [List.pairwise_append]
  exact ⟨h, List.pairwise_singleton _ _, fun a ha b hb => by rw [List.mem_singleton.1 hb]; exact hv a ha⟩
theorem OwnN.block_ne {lo hi lo' hi' w v u n xs} {l : List V} (h : OwnN 66 2 lo' hi' w v n xs) (k : OwnV lo hi w u l) : v.ownBlock = none ∨ v.ownBlock ≠ u.ownBlock := by
  rcases h with ⟨rfl, _⟩ | h
  · exact .inl rfl
  · exact .inr (OwnV.block_ne h k)
theorem OwnV.lt {lo hi w u} {l : List V} (h : OwnV lo hi w u l) {s : Nat} (hs : hi ≤ s) {v : Value} (hv : ∀ x, v.ownBlock = some x → s ≤ x) : u.ownBlock = none ∨ u.ownBlock ≠ v.ownBlock := by
  by_cases hu : u.ownBlock = none
  · exact .inl hu
  · refine .inr (fun e => ?_)
    cases hx : u.ownBlock with
    | none => exact hu hx
    | some x =>
      have h1 := h.in_ hx
      have h2 := hv x (e.symm.trans hx)
      omega
/-- One more row. -/
theorem MyRs.append {lo s : Nat} {w1 w2 : World} {out out' : Value} {ps : List P} {p : P} (h : MyRs lo s w1 out ps) (hls : lo ≤ s) (hp : OwnV s w1.heap.size w1 p.2 p.1.l) (hs : s ≤ w1.heap.size) (ho : Own 66 2 lo w2.heap.size w2 out' (ps.length + 1) (prs ps ++ p.cs)) (he : Ext w1 w2 out out') : MyRs lo w2.heap.size w2 out' (ps ++ [p]) := by
  have hz := he.grown.size
  refine ⟨?_, fun q hq => ?_, ?_⟩
  · rw [List.length_append]
    refine .inr ?_
    have e : prs (ps ++ [p]) = prs ps ++ p.cs := by simp [prs]
    rw [e]
    exact ho
  · rcases List.mem_append.1 hq with hq | hq
    · exact ((h.2.1 q hq).other he.grown (OwnN.block_ne h.1 (h.2.1 q hq))).wide (Nat.le_refl _) (by omega)
    · rw [List.mem_singleton.1 hq]
      exact (hp.other he.grown (OwnN.block_ne h.1 hp)).wide hls hz
  · rw [List.map_append]
    refine aparts_snoc h.2.2 (fun u hu => ?_)
    obtain ⟨q, hq, rfl⟩ := List.mem_map.1 hu
    exact (h.2.1 q hq).lt (Nat.le_refl _) (fun x hx => (hp.in_ hx).1)
/-- append(s, x): x, a Row, has just been laid in a block of its own. -/
theorem appendR_law {P : Program} {t e : TypeId} {z : Value} {bytes : Nat} (T : ElemT P t e z 2 bytes) {w : World} {ops : Array Oper} {rest : List Oper} {o : Oper} {a : Act} {Q : Exit → Act → World → Prop} (hgd : o.guard = none) (s x : Operand)
    (ho : o.op = .call { callee := .builtin .append, args := #[s, x], argTypes := #[t, t] })
    (lo hi : Nat) (v : Value) (n : Nat) (xs : List Value) (k : Int) (ua : Option Addr) (un uc : Nat) (hs : a.eval s = v) (hown : OwnN e 2 lo hi w v n xs) (hlo : lo ≤ w.heap.size)
    (N : Nat) (hN : w.heap.size = N) (hx : a.eval x = .slice (some ⟨N, 0, none⟩) 1 1)
    (h63 : n + 1 ≤ maxLen) (hbytes : (n + 1) * bytes ≤ 140737488355328)
    (h : ∀ v' w', Own e 2 lo w'.heap.size w' v' (n + 1) (xs ++ [.int .i64 k, .slice ua un uc]) → Ext w w' v v' → wpList P ops Q rest (a.put o.dst v') w') : wpList P ops Q (o :: rest) a (w.alloc (.cells #[.int .i64 k, .slice ua un uc] e)) := by
  subst hN
  refine append_lawN T hgd s x ho lo hi v n xs hs (hown.imp id (fun h => h.alloc _)) (by rw [World.size_alloc]; omega) w.heap.size 0 1 1 [.int .i64 k, .slice ua un uc] hx rfl ?_ ?_ (by omega) h63 hbytes (fun v' w' h1 h2 => h v' w' h1 ((Ext.alloc v _).trans h2))
  · intro j y hj
    match j, hj with
    | 0, hj => simp at hj; subst hj; simp
    | 1, hj => simp at hj; subst hj; simp
    | j + 2, hj => simp at hj
  · intro y hy
    simp at hy
    rcases hy with rfl | rfl <;> rfl
theorem Blk.ext {W W' : World} {b : Nat} {cs : List Value} {v v' : Value} (h : Blk W b cs) (he : Ext W W' v v') (hne : v.ownBlock ≠ some b) : Blk W' b cs := h.grown he.grown (fun e => hne e.symm)
theorem OwnN.not_low {e size lo hi w v n xs} (h : OwnN e size lo hi w v n xs) {b : Nat} (hb : b < lo) : v.ownBlock ≠ some b := by
  rcases h with ⟨rfl, _⟩ | ⟨g, cp, rfl, h1, _⟩
  · simp [Value.ownBlock]
  · simp [Value.ownBlock]
    omega

end Go.Proofs.YtkofafefnlommaaGreat

/- Chapter 13: the contracts of RowsOk, DropRows, FindRow, for either side. -/
namespace Go.Proofs.YtkofafefnlommaaGreat
open Go.RowKit

def CRowsOk (f : Nat) : Prop := ∀ (u v : Value) (zs : List Int) (ps : List P) (ls : List R) (w : World), zs.length ≤ 1048576 → Rd 1 w u zs.length (ints .i64 zs) → (∀ p ∈ ps, ∀ v ∈ p.1.l, v.s.size ≤ maxLen) → ps.length ≤ 1048576 → (∀ p ∈ ps, p.1.l.length ≤ 1048576) → RdRs w v ps → ps.map (·.1) = ls →
  Calls Tryz.prog f #[u, v] w fun e w' => e = .returned (.bool (rowsOkL zs ls)) ∧ Below w.heap.size w w'
def CDropRows (f : Nat) : Prop := ∀ (v u : Value) (zs : List Int) (ps : List P) (ls : List R) (w : World), zs.length ≤ 1048576 → Rd 1 w u zs.length (ints .i64 zs) → ps.length ≤ 1048576 → (∀ p ∈ ps, p.1.l.length ≤ 1048576) → RdRsN w v ps → ps.map (·.1) = ls →
  Calls Tryz.prog f #[v, u] w fun e w' => ∃ v', e = .returned v' ∧ ∃ qs, MyRs w.heap.size w'.heap.size w' v' qs ∧ qs.map (·.1) = dropL ls zs ∧ Below w.heap.size w w'
def CFindRow (f : Nat) : Prop := ∀ (v : Value) (n : Int) (ps : List P) (ls : List R) (w : World), ps.length ≤ 1048576 → (∀ p ∈ ps, p.1.l.length ≤ 1048576) → RdRsN w v ps → ps.map (·.1) = ls →
  Calls Tryz.prog f #[v, .int .i64 n] w fun e w' => ∃ u, e = .returned (.tuple #[((findL ls n).getD R.zero).agg u, .bool (findL ls n).isSome]) ∧ OwnV w.heap.size w'.heap.size w' u ((findL ls n).getD R.zero).l ∧ Below w.heap.size w w'


end Go.Proofs.YtkofafefnlommaaGreat

/- The exact laws of RowsOk, DropRows, FindRow, walked; the contracts of both sides come as hypotheses (written by mk_Law13.py). -/
namespace Go.Proofs.YtkofafefnlommaaGreat
open Go.RowKit

theorem markIntsN (v : Value) (n lo hi : Nat) (xs : List Value) (s : Nat) (w : World) (hs : s ≤ 1073741824) (hn : n ≤ 1073741824) (h : Own 3 1 lo hi w v n xs) :
    Calls Tryz.prog 28 #[v, .int .i64 (s : Nat)] w fun e w' => e = .returned (.int .i64 (s + n : Nat)) ∧ Own 3 1 lo hi w' v n (ints .i64 (marks .i64 s n)) ∧ Within lo hi w w' := by
  refine (markIntS v n lo hi xs s w (by omega) (by omega) hn h).mono ?_
  rintro e w' ⟨rfl, h1, h2⟩
  refine ⟨by rw [show ((s + n : Nat) : Int) = (s : Int) + (n : Int) by omega], h1, Within.of_grown h2 (fun g hg => ?_)⟩
  obtain ⟨g', cap, rfl, h3, h4, _⟩ := h
  simp only [Value.ownBlock, Option.some.injEq] at hg
  omega
theorem heldIntsN (v : Value) (n s : Nat) (w : World) (hs : s ≤ 1073741824) (hn : n ≤ 1073741824) (h : At 1 w v n (ints .i64 (marks .i64 s n))) :
    Calls Tryz.prog 34 #[v, .int .i64 (s : Nat)] w fun e w' => e = .returned (.int .i64 (s + n : Nat)) ∧ Below w.heap.size w w' := by
  refine (heldIntS v n s w (by omega) (by omega) hn h).mono ?_
  rintro e w' ⟨rfl, rfl⟩
  exact ⟨by rw [show ((s + n : Nat) : Int) = (s : Int) + (n : Int) by omega], Below.refl _ _⟩
theorem findL_small {l : List R} {n : Int} {N : Nat} (h : ∀ r ∈ l, r.l.length ≤ N) : ((findL l n).getD R.zero).l.length ≤ N := by
  cases hf : findL l n with
  | none => simp [R.zero]
  | some r => exact h r (List.mem_of_find?_eq_some hf)
theorem OwnV.rdr {lo hi w u} {i : Int} {l : List V} {m : Nat} (h : OwnV lo hi w u l) (_hm : l.length = m) : (⟨i, l⟩ : R).rd w u := h.rd
theorem OwnV.rdm {lo hi w u s m} (h : OwnV lo hi w u (vmarks s m)) : Rd 3 w u m (vals (vmarks s m)) := by
  have := h.rd
  rw [vmarks_len] at this
  exact this
theorem Two.within {lo hi : Nat} {W W' : World} {b : Nat} {x y : Value} (h : Two W b x y) (hw : Within lo hi W W') (hb : b < lo ∨ hi ≤ b) : Two W' b x y := by
  have hk := hw.2.2.2.2 b (lt_of_cell h.1.1) hb
  exact ⟨⟨(World.cell?_of_block hk).trans h.1.1, (World.cell?_of_block hk).trans h.1.2⟩, (World.frozen?_of_block hk).trans h.2.1, (World.frozen?_of_block hk).trans h.2.2⟩

end Go.Proofs.YtkofafefnlommaaGreat

/- The model's RowsOk, FindRow (written by mk_S13b.py). -/
namespace Go.Proofs.YtkofafefnlommaaGreat
open Go.RowKit

set_option maxRecDepth 100000 in
set_option maxHeartbeats 4000000 in
theorem sRowsOk : CRowsOk 15 := by
  intro u v zs ps ls w hz hu hss hn hli h hls
  subst hls
  generalize hl : ps.length = n at hn
  obtain ⟨a, cap, rfl, _, HC⟩ := h.walk hl
  have HRK := Lib.hid (fun (r : R) (x : Value) W (hW : Below w.heap.size w W) (hs : ∀ v ∈ r.l, v.s.size ≤ maxLen) (hr : r.rd W x) => sRowOk u x zs r W hs (hu.below hW) hr)
  have HCO := Lib.hid (fun W (hW : Below w.heap.size w W) => sColsOk u zs W (hu.below hW))
  obtain ⟨a1, c1, rfl, _⟩ := hu
  have HSS : Hid (∀ k, k < n → ∀ v ∈ (ps.getD k P.zero).1.l, v.s.size ≤ maxLen) := fun k hk => by
    have hk' : k < ps.length := by omega
    have e : ps.getD k P.zero = ps[k] := by simp [hk']
    rw [e]
    exact hss _ (List.getElem_mem hk')
  have HG : Hid (∀ k, (ps.map (·.1)).getD k R.zero = (ps.getD k P.zero).1) := fun k => (getD_fst ps k).symm
  have HL := Lib.hid hl
  have HZL := Lib.hid hz
  generalize hzn : zs.length = zn at HRK HCO ⊢
  clear hss hl h hli hz
  go_enter Tryz.func15, Tryz.ntmps15
  go_wp2
  go_loopw [5] (fun i wr => ∃ k : Nat, k ≤ n ∧ i = .int .i64 k ∧ (∀ j, j < k → goodB zs (ps.map (·.1)) j = true) ∧ Below w.heap.size w wr) (fun i _ => n - (intOf i).toNat)
  case atStart => exact ⟨0, Nat.zero_le _, rfl, fun j hj => by omega, Below.refl _ _⟩
  case round =>
    obtain ⟨k, hk, rfl, hok, hbr⟩ := hrel
    have HOK := Lib.hid hok
    clear hok hzn
    by_cases hlt : k < n
    · obtain ⟨b, off, rfl, c0, c1', hrd⟩ := HC.out k hlt wr hbr
      have HGD : Hid (goodB zs (ps.map (·.1)) k = (rowB zs (ps.getD k P.zero).1 && (decide ((ps.getD k P.zero).1.id ≤ 1000000000) && (decide (k = 0) || decide ((ps.getD (k - 1) P.zero).1.id < (ps.getD k P.zero).1.id))))) := by
        show goodB _ _ _ = _
        unfold goodB
        rw [HG.out k, HG.out (k - 1)]
      have HSY : Hid (goodB zs (ps.map (·.1)) k = true → ∀ j, j < k + 1 → goodB zs (ps.map (·.1)) j = true) := fun h j hj => by
        by_cases e : j = k
        · subst e; exact h
        · exact HOK.out j (by omega)
      have HNN : Hid (goodB zs (ps.map (·.1)) k = false → rowsOkL zs (ps.map (·.1)) = false) := rowsOk_no (by rw [List.length_map, HL.out]; exact hlt)
      have HRO := Lib.hid (fun W (hW : Below wr.heap.size wr W) => HRK.out (ps.getD k P.zero).1 (ps.getD k P.zero).2 W (below_then hbr hW hbr.size) (HSS.out k hlt) (hrd.below hW))
      have HPV : Hid (∀ p, k = p + 1 → wr.cell? ⟨b, off + p * 2, none⟩ = some (.int .i64 (ps.getD p P.zero).1.id)) := fun p hp => by
        obtain ⟨b', off', e, d0, _⟩ := HC.out p (by omega) wr hbr
        simp only [Option.some.injEq, Addr.mk.injEq, and_true] at e
        obtain ⟨rfl, rfl⟩ := e
        exact d0
      obtain ⟨q, hq⟩ : ∃ q, rowB zs (ps.getD k P.zero).1 = q := ⟨_, rfl⟩
      rw [hq] at HRO HGD
      clear hq
      generalize ps.getD k P.zero = pk at c0 c1' hrd HRO HGD
      obtain ⟨⟨ri, rl⟩, x⟩ := pk
      obtain ⟨xa, xc, hx, _⟩ := hrd
      simp only at hx c0 c1' HRO HGD
      generalize rl.length = xn at hx
      subst hx
      have HK : Hid (∀ W, Below wr.heap.size wr W → W.cell? ⟨b, off + k * 2, none⟩ = some (.int .i64 ri) ∧ W.cell? ⟨b, off + k * 2 + 1, none⟩ = some (.slice xa xn xc)) := fun W h => ⟨(h.cell (p := ⟨b, off + k * 2, none⟩) (lt_of_cell c0)).trans c0, (h.cell (p := ⟨b, off + k * 2 + 1, none⟩) (lt_of_cell c1')).trans c1'⟩
      have hB' := (Below.refl wr.heap.size wr).drew
      clear c0 c1'
      cases q with
      | false =>
        have HNO := Lib.hid (HNN.out (by rw [HGD.out, Bool.false_and]))
        clear HGD HSY HNN HPV
        go_wp2
        refine wp_region_held_drew (S := fun W => W.cell? ⟨b, off + k * 2, none⟩ = some (.int .i64 ri) ∧ W.cell? ⟨b, off + k * 2 + 1, none⟩ = some (.slice xa xn xc)) (by kernel_rfl) (HK.out _ hB') (fun hH => ?_)
        refine takeH (i := 0) (d := some 12) (v := .slice a1 zn c1) rfl rfl (by kernel_rfl) (by kernel_rfl) (by kernel_rfl) (fun _ _ _ h => h) (Or.inl ⟨by rfl, fun W hSw => by obtain ⟨s0, s1⟩ := hSw; go_simp <;> try omega⟩) hH ?_
        try simp only [put_some, List.set_cons_zero, List.set_cons_succ]
        refine takeH (i := 1) (d := some 13) (v := .slice (some ⟨b, off, none⟩) n cap) rfl rfl (by kernel_rfl) (by kernel_rfl) (by kernel_rfl) (fun _ _ _ h => h) (Or.inl ⟨by rfl, fun W hSw => by obtain ⟨s0, s1⟩ := hSw; go_simp <;> try omega⟩) hH ?_
        try simp only [put_some, List.set_cons_zero, List.set_cons_succ]
        refine takeH (i := 2) (d := some 14) (v := .int .i64 (k : Nat)) rfl rfl (by kernel_rfl) (by kernel_rfl) (by kernel_rfl) (fun _ _ _ h => h) (Or.inl ⟨by rfl, fun W hSw => by obtain ⟨s0, s1⟩ := hSw; go_simp <;> try omega⟩) hH ?_
        try simp only [put_some, List.set_cons_zero, List.set_cons_succ]
        refine takeH (i := 3) (d := some 15) (v := .pointer (some ⟨b, off + k * 2, none⟩)) rfl rfl (by kernel_rfl) (by kernel_rfl) (by kernel_rfl) (fun _ _ _ h => h) (Or.inl ⟨by rfl, fun W hSw => by obtain ⟨s0, s1⟩ := hSw; go_simp <;> try omega⟩) hH ?_
        try simp only [put_some, List.set_cons_zero, List.set_cons_succ]
        refine takeH (i := 4) (d := some 16) (v := .agg #[.int .i64 ri, .slice xa xn xc]) rfl rfl (by kernel_rfl) (by kernel_rfl) (by kernel_rfl) (fun _ _ _ h => h) (Or.inl ⟨by rfl, fun W hSw => by obtain ⟨s0, s1⟩ := hSw; go_simp <;> try omega⟩) hH ?_
        try simp only [put_some, List.set_cons_zero, List.set_cons_succ]
        refine wpAnyH_ready (rs := [5]) (by kernel_rfl) (by simp) ?_
        refine AllReadyH.cons rfl (fun K hK => ?_) AllReadyH.nil
        go_simp
        go_at_call 53
        refine (HRO.out _ hB').mono ?_
        rintro e w2 ⟨rfl, hb2⟩
        replace hB' := below_then hB' hb2 hB'.size
        go_wp2_with fail
        refine hK.out _ _ (HK.out _ hB') (fun hH => ?_)
        clear hK K
        refine takeH (i := 6) (d := some 18) (v := .bool true) rfl rfl (by kernel_rfl) (by kernel_rfl) (by kernel_rfl) (fun _ _ _ h => h) (Or.inl ⟨by rfl, fun W hSw => by obtain ⟨s0, s1⟩ := hSw; go_simp <;> try omega⟩) hH ?_
        try simp only [put_some, List.set_cons_zero, List.set_cons_succ]
        refine takeH (i := 7) (d := some 19) (v := .bool true) rfl rfl (by kernel_rfl) (by kernel_rfl) (by kernel_rfl) (fun _ _ _ h => h) (Or.inl ⟨by rfl, fun W hSw => by obtain ⟨s0, s1⟩ := hSw; go_simp <;> try omega⟩) hH ?_
        try simp only [put_some, List.set_cons_zero, List.set_cons_succ]
        refine takeH (i := 8) (d := some 20) (v := undef) rfl rfl (by kernel_rfl) (by kernel_rfl) (by kernel_rfl) (fun _ _ _ h => h) (Or.inr ⟨by rfl, rfl⟩) hH ?_
        try simp only [put_some, List.set_cons_zero, List.set_cons_succ]
        refine takeH (i := 9) (d := some 21) (v := undef) rfl rfl (by kernel_rfl) (by kernel_rfl) (by kernel_rfl) (fun _ _ _ h => h) (Or.inr ⟨by rfl, rfl⟩) hH ?_
        try simp only [put_some, List.set_cons_zero, List.set_cons_succ]
        refine takeH (i := 10) (d := some 22) (v := undef) rfl rfl (by kernel_rfl) (by kernel_rfl) (by kernel_rfl) (fun _ _ _ h => h) (Or.inr ⟨by rfl, rfl⟩) hH ?_
        try simp only [put_some, List.set_cons_zero, List.set_cons_succ]
        refine takeH (i := 11) (d := some 23) (v := undef) rfl rfl (by kernel_rfl) (by kernel_rfl) (by kernel_rfl) (fun _ _ _ h => h) (Or.inr ⟨by rfl, rfl⟩) hH ?_
        try simp only [put_some, List.set_cons_zero, List.set_cons_succ]
        refine takeH (i := 12) (d := some 24) (v := undef) rfl rfl (by kernel_rfl) (by kernel_rfl) (by kernel_rfl) (fun _ _ _ h => h) (Or.inr ⟨by rfl, rfl⟩) hH ?_
        try simp only [put_some, List.set_cons_zero, List.set_cons_succ]
        refine takeH (i := 13) (d := some 25) (v := undef) rfl rfl (by kernel_rfl) (by kernel_rfl) (by kernel_rfl) (fun _ _ _ h => h) (Or.inr ⟨by rfl, rfl⟩) hH ?_
        try simp only [put_some, List.set_cons_zero, List.set_cons_succ]
        refine takeH (i := 14) (d := some 26) (v := .bool true) rfl rfl (by kernel_rfl) (by kernel_rfl) (by kernel_rfl) (fun _ _ _ h => h) (Or.inl ⟨by rfl, fun W hSw => by obtain ⟨s0, s1⟩ := hSw; go_simp <;> try omega⟩) hH ?_
        try simp only [put_some, List.set_cons_zero, List.set_cons_succ]
        refine takeH (i := 15) (d := some 27) (v := .bool true) rfl rfl (by kernel_rfl) (by kernel_rfl) (by kernel_rfl) (fun _ _ _ h => h) (Or.inl ⟨by rfl, fun W hSw => by obtain ⟨s0, s1⟩ := hSw; go_simp <;> try omega⟩) hH ?_
        try simp only [put_some, List.set_cons_zero, List.set_cons_succ]
        refine takeH (i := 16) (d := some 28) (v := undef) rfl rfl (by kernel_rfl) (by kernel_rfl) (by kernel_rfl) (fun _ _ _ h => h) (Or.inr ⟨by rfl, rfl⟩) hH ?_
        try simp only [put_some, List.set_cons_zero, List.set_cons_succ]
        refine takeH (i := 17) (d := some 29) (v := undef) rfl rfl (by kernel_rfl) (by kernel_rfl) (by kernel_rfl) (fun _ _ _ h => h) (Or.inr ⟨by rfl, rfl⟩) hH ?_
        try simp only [put_some, List.set_cons_zero, List.set_cons_succ]
        refine takeH (i := 18) (d := some 30) (v := undef) rfl rfl (by kernel_rfl) (by kernel_rfl) (by kernel_rfl) (fun _ _ _ h => h) (Or.inr ⟨by rfl, rfl⟩) hH ?_
        try simp only [put_some, List.set_cons_zero, List.set_cons_succ]
        refine takeH (i := 19) (d := some 31) (v := undef) rfl rfl (by kernel_rfl) (by kernel_rfl) (by kernel_rfl) (fun _ _ _ h => h) (Or.inr ⟨by rfl, rfl⟩) hH ?_
        try simp only [put_some, List.set_cons_zero, List.set_cons_succ]
        refine takeH (i := 20) (d := some 32) (v := undef) rfl rfl (by kernel_rfl) (by kernel_rfl) (by kernel_rfl) (fun _ _ _ h => h) (Or.inr ⟨by rfl, rfl⟩) hH ?_
        try simp only [put_some, List.set_cons_zero, List.set_cons_succ]
        refine takeH (i := 21) (d := some 33) (v := undef) rfl rfl (by kernel_rfl) (by kernel_rfl) (by kernel_rfl) (fun _ _ _ h => h) (Or.inr ⟨by rfl, rfl⟩) hH ?_
        try simp only [put_some, List.set_cons_zero, List.set_cons_succ]
        refine takeH (i := 22) (d := some 34) (v := undef) rfl rfl (by kernel_rfl) (by kernel_rfl) (by kernel_rfl) (fun _ _ _ h => h) (Or.inr ⟨by rfl, rfl⟩) hH ?_
        try simp only [put_some, List.set_cons_zero, List.set_cons_succ]
        refine takeH (i := 23) (d := some 35) (v := undef) rfl rfl (by kernel_rfl) (by kernel_rfl) (by kernel_rfl) (fun _ _ _ h => h) (Or.inr ⟨by rfl, rfl⟩) hH ?_
        try simp only [put_some, List.set_cons_zero, List.set_cons_succ]
        refine takeH (i := 24) (d := some 36) (v := undef) rfl rfl (by kernel_rfl) (by kernel_rfl) (by kernel_rfl) (fun _ _ _ h => h) (Or.inr ⟨by rfl, rfl⟩) hH ?_
        try simp only [put_some, List.set_cons_zero, List.set_cons_succ]
        refine takeH (i := 25) (d := some 37) (v := undef) rfl rfl (by kernel_rfl) (by kernel_rfl) (by kernel_rfl) (fun _ _ _ h => h) (Or.inr ⟨by rfl, rfl⟩) hH ?_
        try simp only [put_some, List.set_cons_zero, List.set_cons_succ]
        refine takeH (i := 26) (d := some 38) (v := undef) rfl rfl (by kernel_rfl) (by kernel_rfl) (by kernel_rfl) (fun _ _ _ h => h) (Or.inr ⟨by rfl, rfl⟩) hH ?_
        try simp only [put_some, List.set_cons_zero, List.set_cons_succ]
        refine takeH (i := 27) (d := some 39) (v := undef) rfl rfl (by kernel_rfl) (by kernel_rfl) (by kernel_rfl) (fun _ _ _ h => h) (Or.inr ⟨by rfl, rfl⟩) hH ?_
        try simp only [put_some, List.set_cons_zero, List.set_cons_succ]
        refine takeH (i := 28) (d := some 40) (v := undef) rfl rfl (by kernel_rfl) (by kernel_rfl) (by kernel_rfl) (fun _ _ _ h => h) (Or.inr ⟨by rfl, rfl⟩) hH ?_
        try simp only [put_some, List.set_cons_zero, List.set_cons_succ]
        refine takeH (i := 29) (d := some 41) (v := undef) rfl rfl (by kernel_rfl) (by kernel_rfl) (by kernel_rfl) (fun _ _ _ h => h) (Or.inr ⟨by rfl, rfl⟩) hH ?_
        try simp only [put_some, List.set_cons_zero, List.set_cons_succ]
        refine takeH (i := 30) (d := some 42) (v := undef) rfl rfl (by kernel_rfl) (by kernel_rfl) (by kernel_rfl) (fun _ _ _ h => h) (Or.inr ⟨by rfl, rfl⟩) hH ?_
        try simp only [put_some, List.set_cons_zero, List.set_cons_succ]
        refine takeH (i := 31) (d := some 43) (v := undef) rfl rfl (by kernel_rfl) (by kernel_rfl) (by kernel_rfl) (fun _ _ _ h => h) (Or.inr ⟨by rfl, rfl⟩) hH ?_
        try simp only [put_some, List.set_cons_zero, List.set_cons_succ]
        refine takeH (i := 32) (d := some 44) (v := .bool true) rfl rfl (by kernel_rfl) (by kernel_rfl) (by kernel_rfl) (fun _ _ _ h => h) (Or.inl ⟨by rfl, fun W hSw => by obtain ⟨s0, s1⟩ := hSw; go_simp <;> try omega⟩) hH ?_
        try simp only [put_some, List.set_cons_zero, List.set_cons_succ]
        refine wpAnyH_done (by kernel_rfl) ?_ _
        go_wp2
        go_ret
        exact ⟨ret_bool HNO.out.symm, below_then hbr hB' hbr.size⟩
      | true =>
        by_cases hg : 1000000000 < ri
        · have HNO := Lib.hid (HNN.out (by rw [HGD.out, decide_eq_false (by omega), Bool.false_and, Bool.and_false]))
          clear HGD HSY HNN HPV
          go_wp2
          refine wp_region_held_drew (S := fun W => W.cell? ⟨b, off + k * 2, none⟩ = some (.int .i64 ri) ∧ W.cell? ⟨b, off + k * 2 + 1, none⟩ = some (.slice xa xn xc)) (by kernel_rfl) (HK.out _ hB') (fun hH => ?_)
          refine takeH (i := 0) (d := some 12) (v := .slice a1 zn c1) rfl rfl (by kernel_rfl) (by kernel_rfl) (by kernel_rfl) (fun _ _ _ h => h) (Or.inl ⟨by rfl, fun W hSw => by obtain ⟨s0, s1⟩ := hSw; go_simp <;> try omega⟩) hH ?_
          try simp only [put_some, List.set_cons_zero, List.set_cons_succ]
          refine takeH (i := 1) (d := some 13) (v := .slice (some ⟨b, off, none⟩) n cap) rfl rfl (by kernel_rfl) (by kernel_rfl) (by kernel_rfl) (fun _ _ _ h => h) (Or.inl ⟨by rfl, fun W hSw => by obtain ⟨s0, s1⟩ := hSw; go_simp <;> try omega⟩) hH ?_
          try simp only [put_some, List.set_cons_zero, List.set_cons_succ]
          refine takeH (i := 2) (d := some 14) (v := .int .i64 (k : Nat)) rfl rfl (by kernel_rfl) (by kernel_rfl) (by kernel_rfl) (fun _ _ _ h => h) (Or.inl ⟨by rfl, fun W hSw => by obtain ⟨s0, s1⟩ := hSw; go_simp <;> try omega⟩) hH ?_
          try simp only [put_some, List.set_cons_zero, List.set_cons_succ]
          refine takeH (i := 3) (d := some 15) (v := .pointer (some ⟨b, off + k * 2, none⟩)) rfl rfl (by kernel_rfl) (by kernel_rfl) (by kernel_rfl) (fun _ _ _ h => h) (Or.inl ⟨by rfl, fun W hSw => by obtain ⟨s0, s1⟩ := hSw; go_simp <;> try omega⟩) hH ?_
          try simp only [put_some, List.set_cons_zero, List.set_cons_succ]
          refine takeH (i := 4) (d := some 16) (v := .agg #[.int .i64 ri, .slice xa xn xc]) rfl rfl (by kernel_rfl) (by kernel_rfl) (by kernel_rfl) (fun _ _ _ h => h) (Or.inl ⟨by rfl, fun W hSw => by obtain ⟨s0, s1⟩ := hSw; go_simp <;> try omega⟩) hH ?_
          try simp only [put_some, List.set_cons_zero, List.set_cons_succ]
          refine wpAnyH_ready (rs := [5]) (by kernel_rfl) (by simp) ?_
          refine AllReadyH.cons rfl (fun K hK => ?_) AllReadyH.nil
          go_simp
          go_at_call 53
          refine (HRO.out _ hB').mono ?_
          rintro e w2 ⟨rfl, hb2⟩
          replace hB' := below_then hB' hb2 hB'.size
          go_wp2_with fail
          refine hK.out _ _ (HK.out _ hB') (fun hH => ?_)
          clear hK K
          refine takeH (i := 6) (d := some 18) (v := .bool false) rfl rfl (by kernel_rfl) (by kernel_rfl) (by kernel_rfl) (fun _ _ _ h => h) (Or.inl ⟨by rfl, fun W hSw => by obtain ⟨s0, s1⟩ := hSw; go_simp <;> try omega⟩) hH ?_
          try simp only [put_some, List.set_cons_zero, List.set_cons_succ]
          refine takeH (i := 7) (d := some 19) (v := .bool false) rfl rfl (by kernel_rfl) (by kernel_rfl) (by kernel_rfl) (fun _ _ _ h => h) (Or.inl ⟨by rfl, fun W hSw => by obtain ⟨s0, s1⟩ := hSw; go_simp <;> try omega⟩) hH ?_
          try simp only [put_some, List.set_cons_zero, List.set_cons_succ]
          refine takeH (i := 8) (d := some 20) (v := .slice (some ⟨b, off, none⟩) n cap) rfl rfl (by kernel_rfl) (by kernel_rfl) (by kernel_rfl) (fun _ _ _ h => h) (Or.inl ⟨by rfl, fun W hSw => by obtain ⟨s0, s1⟩ := hSw; go_simp <;> try omega⟩) hH ?_
          try simp only [put_some, List.set_cons_zero, List.set_cons_succ]
          refine takeH (i := 9) (d := some 21) (v := .int .i64 (k : Nat)) rfl rfl (by kernel_rfl) (by kernel_rfl) (by kernel_rfl) (fun _ _ _ h => h) (Or.inl ⟨by rfl, fun W hSw => by obtain ⟨s0, s1⟩ := hSw; go_simp <;> try omega⟩) hH ?_
          try simp only [put_some, List.set_cons_zero, List.set_cons_succ]
          refine takeH (i := 10) (d := some 22) (v := .pointer (some ⟨b, off + k * 2, none⟩)) rfl rfl (by kernel_rfl) (by kernel_rfl) (by kernel_rfl) (fun _ _ _ h => h) (Or.inl ⟨by rfl, fun W hSw => by obtain ⟨s0, s1⟩ := hSw; go_simp <;> try omega⟩) hH ?_
          try simp only [put_some, List.set_cons_zero, List.set_cons_succ]
          refine takeH (i := 11) (d := some 23) (v := .pointer (some ⟨b, off + k * 2, none⟩)) rfl rfl (by kernel_rfl) (by kernel_rfl) (by kernel_rfl) (fun _ _ _ h => h) (Or.inl ⟨by rfl, fun W hSw => by obtain ⟨s0, s1⟩ := hSw; go_simp <;> try omega⟩) hH ?_
          try simp only [put_some, List.set_cons_zero, List.set_cons_succ]
          refine takeH (i := 12) (d := some 24) (v := .int .i64 ri) rfl rfl (by kernel_rfl) (by kernel_rfl) (by kernel_rfl) (fun _ _ _ h => h) (Or.inl ⟨by rfl, fun W hSw => by obtain ⟨s0, s1⟩ := hSw; go_simp <;> try omega⟩) hH ?_
          try simp only [put_some, List.set_cons_zero, List.set_cons_succ]
          refine takeH (i := 13) (d := some 25) (v := .bool true) rfl rfl (by kernel_rfl) (by kernel_rfl) (by kernel_rfl) (fun _ _ _ h => h) (Or.inl ⟨by rfl, fun W hSw => by obtain ⟨s0, s1⟩ := hSw; go_simp <;> try omega⟩) hH ?_
          try simp only [put_some, List.set_cons_zero, List.set_cons_succ]
          refine takeH (i := 14) (d := some 26) (v := .bool true) rfl rfl (by kernel_rfl) (by kernel_rfl) (by kernel_rfl) (fun _ _ _ h => h) (Or.inl ⟨by rfl, fun W hSw => by obtain ⟨s0, s1⟩ := hSw; go_simp <;> try omega⟩) hH ?_
          try simp only [put_some, List.set_cons_zero, List.set_cons_succ]
          refine takeH (i := 15) (d := some 27) (v := .bool true) rfl rfl (by kernel_rfl) (by kernel_rfl) (by kernel_rfl) (fun _ _ _ h => h) (Or.inl ⟨by rfl, fun W hSw => by obtain ⟨s0, s1⟩ := hSw; go_simp <;> try omega⟩) hH ?_
          try simp only [put_some, List.set_cons_zero, List.set_cons_succ]
          refine takeH (i := 16) (d := some 28) (v := undef) rfl rfl (by kernel_rfl) (by kernel_rfl) (by kernel_rfl) (fun _ _ _ h => h) (Or.inr ⟨by rfl, rfl⟩) hH ?_
          try simp only [put_some, List.set_cons_zero, List.set_cons_succ]
          refine takeH (i := 17) (d := some 29) (v := undef) rfl rfl (by kernel_rfl) (by kernel_rfl) (by kernel_rfl) (fun _ _ _ h => h) (Or.inr ⟨by rfl, rfl⟩) hH ?_
          try simp only [put_some, List.set_cons_zero, List.set_cons_succ]
          refine takeH (i := 18) (d := some 30) (v := undef) rfl rfl (by kernel_rfl) (by kernel_rfl) (by kernel_rfl) (fun _ _ _ h => h) (Or.inr ⟨by rfl, rfl⟩) hH ?_
          try simp only [put_some, List.set_cons_zero, List.set_cons_succ]
          refine takeH (i := 19) (d := some 31) (v := undef) rfl rfl (by kernel_rfl) (by kernel_rfl) (by kernel_rfl) (fun _ _ _ h => h) (Or.inr ⟨by rfl, rfl⟩) hH ?_
          try simp only [put_some, List.set_cons_zero, List.set_cons_succ]
          refine takeH (i := 20) (d := some 32) (v := undef) rfl rfl (by kernel_rfl) (by kernel_rfl) (by kernel_rfl) (fun _ _ _ h => h) (Or.inr ⟨by rfl, rfl⟩) hH ?_
          try simp only [put_some, List.set_cons_zero, List.set_cons_succ]
          refine takeH (i := 21) (d := some 33) (v := undef) rfl rfl (by kernel_rfl) (by kernel_rfl) (by kernel_rfl) (fun _ _ _ h => h) (Or.inr ⟨by rfl, rfl⟩) hH ?_
          try simp only [put_some, List.set_cons_zero, List.set_cons_succ]
          refine takeH (i := 22) (d := some 34) (v := undef) rfl rfl (by kernel_rfl) (by kernel_rfl) (by kernel_rfl) (fun _ _ _ h => h) (Or.inr ⟨by rfl, rfl⟩) hH ?_
          try simp only [put_some, List.set_cons_zero, List.set_cons_succ]
          refine takeH (i := 23) (d := some 35) (v := undef) rfl rfl (by kernel_rfl) (by kernel_rfl) (by kernel_rfl) (fun _ _ _ h => h) (Or.inr ⟨by rfl, rfl⟩) hH ?_
          try simp only [put_some, List.set_cons_zero, List.set_cons_succ]
          refine takeH (i := 24) (d := some 36) (v := undef) rfl rfl (by kernel_rfl) (by kernel_rfl) (by kernel_rfl) (fun _ _ _ h => h) (Or.inr ⟨by rfl, rfl⟩) hH ?_
          try simp only [put_some, List.set_cons_zero, List.set_cons_succ]
          refine takeH (i := 25) (d := some 37) (v := undef) rfl rfl (by kernel_rfl) (by kernel_rfl) (by kernel_rfl) (fun _ _ _ h => h) (Or.inr ⟨by rfl, rfl⟩) hH ?_
          try simp only [put_some, List.set_cons_zero, List.set_cons_succ]
          refine takeH (i := 26) (d := some 38) (v := undef) rfl rfl (by kernel_rfl) (by kernel_rfl) (by kernel_rfl) (fun _ _ _ h => h) (Or.inr ⟨by rfl, rfl⟩) hH ?_
          try simp only [put_some, List.set_cons_zero, List.set_cons_succ]
          refine takeH (i := 27) (d := some 39) (v := undef) rfl rfl (by kernel_rfl) (by kernel_rfl) (by kernel_rfl) (fun _ _ _ h => h) (Or.inr ⟨by rfl, rfl⟩) hH ?_
          try simp only [put_some, List.set_cons_zero, List.set_cons_succ]
          refine takeH (i := 28) (d := some 40) (v := undef) rfl rfl (by kernel_rfl) (by kernel_rfl) (by kernel_rfl) (fun _ _ _ h => h) (Or.inr ⟨by rfl, rfl⟩) hH ?_
          try simp only [put_some, List.set_cons_zero, List.set_cons_succ]
          refine takeH (i := 29) (d := some 41) (v := undef) rfl rfl (by kernel_rfl) (by kernel_rfl) (by kernel_rfl) (fun _ _ _ h => h) (Or.inr ⟨by rfl, rfl⟩) hH ?_
          try simp only [put_some, List.set_cons_zero, List.set_cons_succ]
          refine takeH (i := 30) (d := some 42) (v := undef) rfl rfl (by kernel_rfl) (by kernel_rfl) (by kernel_rfl) (fun _ _ _ h => h) (Or.inr ⟨by rfl, rfl⟩) hH ?_
          try simp only [put_some, List.set_cons_zero, List.set_cons_succ]
          refine takeH (i := 31) (d := some 43) (v := undef) rfl rfl (by kernel_rfl) (by kernel_rfl) (by kernel_rfl) (fun _ _ _ h => h) (Or.inr ⟨by rfl, rfl⟩) hH ?_
          try simp only [put_some, List.set_cons_zero, List.set_cons_succ]
          refine takeH (i := 32) (d := some 44) (v := .bool true) rfl rfl (by kernel_rfl) (by kernel_rfl) (by kernel_rfl) (fun _ _ _ h => h) (Or.inl ⟨by rfl, fun W hSw => by obtain ⟨s0, s1⟩ := hSw; go_simp <;> try omega⟩) hH ?_
          try simp only [put_some, List.set_cons_zero, List.set_cons_succ]
          refine wpAnyH_done (by kernel_rfl) ?_ _
          go_wp2
          go_ret
          exact ⟨ret_bool HNO.out.symm, below_then hbr hB' hbr.size⟩
        · rcases Nat.eq_zero_or_pos k with hk0 | hk0
          · have HS2 := Lib.hid (HSY.out (by rw [HGD.out, decide_eq_true (show ri ≤ 1000000000 by omega), decide_eq_true hk0]; rfl))
            clear HGD HSY HNN HPV
            have hkz : ¬ (0 < (k : Int)) := by omega
            have hkn' : (k : Int) < (n : Int) := by omega
            clear hk0
            go_wp2
            refine wp_region_held_drew (S := fun W => W.cell? ⟨b, off + k * 2, none⟩ = some (.int .i64 ri) ∧ W.cell? ⟨b, off + k * 2 + 1, none⟩ = some (.slice xa xn xc)) (by kernel_rfl) (HK.out _ hB') (fun hH => ?_)
            refine takeH (i := 0) (d := some 12) (v := .slice a1 zn c1) rfl rfl (by kernel_rfl) (by kernel_rfl) (by kernel_rfl) (fun _ _ _ h => h) (Or.inl ⟨by rfl, fun W hSw => by obtain ⟨s0, s1⟩ := hSw; go_simp <;> try omega⟩) hH ?_
            try simp only [put_some, List.set_cons_zero, List.set_cons_succ]
            refine takeH (i := 1) (d := some 13) (v := .slice (some ⟨b, off, none⟩) n cap) rfl rfl (by kernel_rfl) (by kernel_rfl) (by kernel_rfl) (fun _ _ _ h => h) (Or.inl ⟨by rfl, fun W hSw => by obtain ⟨s0, s1⟩ := hSw; go_simp <;> try omega⟩) hH ?_
            try simp only [put_some, List.set_cons_zero, List.set_cons_succ]
            refine takeH (i := 2) (d := some 14) (v := .int .i64 (k : Nat)) rfl rfl (by kernel_rfl) (by kernel_rfl) (by kernel_rfl) (fun _ _ _ h => h) (Or.inl ⟨by rfl, fun W hSw => by obtain ⟨s0, s1⟩ := hSw; go_simp <;> try omega⟩) hH ?_
            try simp only [put_some, List.set_cons_zero, List.set_cons_succ]
            refine takeH (i := 3) (d := some 15) (v := .pointer (some ⟨b, off + k * 2, none⟩)) rfl rfl (by kernel_rfl) (by kernel_rfl) (by kernel_rfl) (fun _ _ _ h => h) (Or.inl ⟨by rfl, fun W hSw => by obtain ⟨s0, s1⟩ := hSw; go_simp <;> try omega⟩) hH ?_
            try simp only [put_some, List.set_cons_zero, List.set_cons_succ]
            refine takeH (i := 4) (d := some 16) (v := .agg #[.int .i64 ri, .slice xa xn xc]) rfl rfl (by kernel_rfl) (by kernel_rfl) (by kernel_rfl) (fun _ _ _ h => h) (Or.inl ⟨by rfl, fun W hSw => by obtain ⟨s0, s1⟩ := hSw; go_simp <;> try omega⟩) hH ?_
            try simp only [put_some, List.set_cons_zero, List.set_cons_succ]
            refine wpAnyH_ready (rs := [5]) (by kernel_rfl) (by simp) ?_
            refine AllReadyH.cons rfl (fun K hK => ?_) AllReadyH.nil
            go_simp
            go_at_call 53
            refine (HRO.out _ hB').mono ?_
            rintro e w2 ⟨rfl, hb2⟩
            replace hB' := below_then hB' hb2 hB'.size
            go_wp2_with fail
            refine hK.out _ _ (HK.out _ hB') (fun hH => ?_)
            clear hK K
            refine takeH (i := 6) (d := some 18) (v := .bool false) rfl rfl (by kernel_rfl) (by kernel_rfl) (by kernel_rfl) (fun _ _ _ h => h) (Or.inl ⟨by rfl, fun W hSw => by obtain ⟨s0, s1⟩ := hSw; go_simp <;> try omega⟩) hH ?_
            try simp only [put_some, List.set_cons_zero, List.set_cons_succ]
            refine takeH (i := 7) (d := some 19) (v := .bool false) rfl rfl (by kernel_rfl) (by kernel_rfl) (by kernel_rfl) (fun _ _ _ h => h) (Or.inl ⟨by rfl, fun W hSw => by obtain ⟨s0, s1⟩ := hSw; go_simp <;> try omega⟩) hH ?_
            try simp only [put_some, List.set_cons_zero, List.set_cons_succ]
            refine takeH (i := 8) (d := some 20) (v := .slice (some ⟨b, off, none⟩) n cap) rfl rfl (by kernel_rfl) (by kernel_rfl) (by kernel_rfl) (fun _ _ _ h => h) (Or.inl ⟨by rfl, fun W hSw => by obtain ⟨s0, s1⟩ := hSw; go_simp <;> try omega⟩) hH ?_
            try simp only [put_some, List.set_cons_zero, List.set_cons_succ]
            refine takeH (i := 9) (d := some 21) (v := .int .i64 (k : Nat)) rfl rfl (by kernel_rfl) (by kernel_rfl) (by kernel_rfl) (fun _ _ _ h => h) (Or.inl ⟨by rfl, fun W hSw => by obtain ⟨s0, s1⟩ := hSw; go_simp <;> try omega⟩) hH ?_
            try simp only [put_some, List.set_cons_zero, List.set_cons_succ]
            refine takeH (i := 10) (d := some 22) (v := .pointer (some ⟨b, off + k * 2, none⟩)) rfl rfl (by kernel_rfl) (by kernel_rfl) (by kernel_rfl) (fun _ _ _ h => h) (Or.inl ⟨by rfl, fun W hSw => by obtain ⟨s0, s1⟩ := hSw; go_simp <;> try omega⟩) hH ?_
            try simp only [put_some, List.set_cons_zero, List.set_cons_succ]
            refine takeH (i := 11) (d := some 23) (v := .pointer (some ⟨b, off + k * 2, none⟩)) rfl rfl (by kernel_rfl) (by kernel_rfl) (by kernel_rfl) (fun _ _ _ h => h) (Or.inl ⟨by rfl, fun W hSw => by obtain ⟨s0, s1⟩ := hSw; go_simp <;> try omega⟩) hH ?_
            try simp only [put_some, List.set_cons_zero, List.set_cons_succ]
            refine takeH (i := 12) (d := some 24) (v := .int .i64 ri) rfl rfl (by kernel_rfl) (by kernel_rfl) (by kernel_rfl) (fun _ _ _ h => h) (Or.inl ⟨by rfl, fun W hSw => by obtain ⟨s0, s1⟩ := hSw; go_simp <;> try omega⟩) hH ?_
            try simp only [put_some, List.set_cons_zero, List.set_cons_succ]
            refine takeH (i := 13) (d := some 25) (v := .bool false) rfl rfl (by kernel_rfl) (by kernel_rfl) (by kernel_rfl) (fun _ _ _ h => h) (Or.inl ⟨by rfl, fun W hSw => by obtain ⟨s0, s1⟩ := hSw; go_simp <;> try omega⟩) hH ?_
            try simp only [put_some, List.set_cons_zero, List.set_cons_succ]
            refine takeH (i := 14) (d := some 26) (v := .bool false) rfl rfl (by kernel_rfl) (by kernel_rfl) (by kernel_rfl) (fun _ _ _ h => h) (Or.inl ⟨by rfl, fun W hSw => by obtain ⟨s0, s1⟩ := hSw; go_simp <;> try omega⟩) hH ?_
            try simp only [put_some, List.set_cons_zero, List.set_cons_succ]
            refine takeH (i := 15) (d := some 27) (v := .bool false) rfl rfl (by kernel_rfl) (by kernel_rfl) (by kernel_rfl) (fun _ _ _ h => h) (Or.inl ⟨by rfl, fun W hSw => by obtain ⟨s0, s1⟩ := hSw; go_simp <;> try omega⟩) hH ?_
            try simp only [put_some, List.set_cons_zero, List.set_cons_succ]
            refine takeH (i := 16) (d := some 28) (v := .int .i64 (k : Nat)) rfl rfl (by kernel_rfl) (by kernel_rfl) (by kernel_rfl) (fun _ _ _ h => h) (Or.inl ⟨by rfl, fun W hSw => by obtain ⟨s0, s1⟩ := hSw; go_simp <;> try omega⟩) hH ?_
            try simp only [put_some, List.set_cons_zero, List.set_cons_succ]
            refine takeH (i := 17) (d := some 29) (v := .bool false) rfl rfl (by kernel_rfl) (by kernel_rfl) (by kernel_rfl) (fun _ _ _ h => h) (Or.inl ⟨by rfl, fun W hSw => by obtain ⟨s0, s1⟩ := hSw; go_simp <;> try omega⟩) hH ?_
            try simp only [put_some, List.set_cons_zero, List.set_cons_succ]
            refine takeH (i := 18) (d := some 30) (v := .bool false) rfl rfl (by kernel_rfl) (by kernel_rfl) (by kernel_rfl) (fun _ _ _ h => h) (Or.inl ⟨by rfl, fun W hSw => by obtain ⟨s0, s1⟩ := hSw; go_simp <;> try omega⟩) hH ?_
            try simp only [put_some, List.set_cons_zero, List.set_cons_succ]
            refine takeH (i := 19) (d := some 31) (v := undef) rfl rfl (by kernel_rfl) (by kernel_rfl) (by kernel_rfl) (fun _ _ _ h => h) (Or.inr ⟨by rfl, rfl⟩) hH ?_
            try simp only [put_some, List.set_cons_zero, List.set_cons_succ]
            refine takeH (i := 20) (d := some 32) (v := undef) rfl rfl (by kernel_rfl) (by kernel_rfl) (by kernel_rfl) (fun _ _ _ h => h) (Or.inr ⟨by rfl, rfl⟩) hH ?_
            try simp only [put_some, List.set_cons_zero, List.set_cons_succ]
            refine takeH (i := 21) (d := some 33) (v := undef) rfl rfl (by kernel_rfl) (by kernel_rfl) (by kernel_rfl) (fun _ _ _ h => h) (Or.inr ⟨by rfl, rfl⟩) hH ?_
            try simp only [put_some, List.set_cons_zero, List.set_cons_succ]
            refine takeH (i := 22) (d := some 34) (v := undef) rfl rfl (by kernel_rfl) (by kernel_rfl) (by kernel_rfl) (fun _ _ _ h => h) (Or.inr ⟨by rfl, rfl⟩) hH ?_
            try simp only [put_some, List.set_cons_zero, List.set_cons_succ]
            refine takeH (i := 23) (d := some 35) (v := undef) rfl rfl (by kernel_rfl) (by kernel_rfl) (by kernel_rfl) (fun _ _ _ h => h) (Or.inr ⟨by rfl, rfl⟩) hH ?_
            try simp only [put_some, List.set_cons_zero, List.set_cons_succ]
            refine takeH (i := 24) (d := some 36) (v := undef) rfl rfl (by kernel_rfl) (by kernel_rfl) (by kernel_rfl) (fun _ _ _ h => h) (Or.inr ⟨by rfl, rfl⟩) hH ?_
            try simp only [put_some, List.set_cons_zero, List.set_cons_succ]
            refine takeH (i := 25) (d := some 37) (v := undef) rfl rfl (by kernel_rfl) (by kernel_rfl) (by kernel_rfl) (fun _ _ _ h => h) (Or.inr ⟨by rfl, rfl⟩) hH ?_
            try simp only [put_some, List.set_cons_zero, List.set_cons_succ]
            refine takeH (i := 26) (d := some 38) (v := undef) rfl rfl (by kernel_rfl) (by kernel_rfl) (by kernel_rfl) (fun _ _ _ h => h) (Or.inr ⟨by rfl, rfl⟩) hH ?_
            try simp only [put_some, List.set_cons_zero, List.set_cons_succ]
            refine takeH (i := 27) (d := some 39) (v := undef) rfl rfl (by kernel_rfl) (by kernel_rfl) (by kernel_rfl) (fun _ _ _ h => h) (Or.inr ⟨by rfl, rfl⟩) hH ?_
            try simp only [put_some, List.set_cons_zero, List.set_cons_succ]
            refine takeH (i := 28) (d := some 40) (v := undef) rfl rfl (by kernel_rfl) (by kernel_rfl) (by kernel_rfl) (fun _ _ _ h => h) (Or.inr ⟨by rfl, rfl⟩) hH ?_
            try simp only [put_some, List.set_cons_zero, List.set_cons_succ]
            refine takeH (i := 29) (d := some 41) (v := undef) rfl rfl (by kernel_rfl) (by kernel_rfl) (by kernel_rfl) (fun _ _ _ h => h) (Or.inr ⟨by rfl, rfl⟩) hH ?_
            try simp only [put_some, List.set_cons_zero, List.set_cons_succ]
            refine takeH (i := 30) (d := some 42) (v := undef) rfl rfl (by kernel_rfl) (by kernel_rfl) (by kernel_rfl) (fun _ _ _ h => h) (Or.inr ⟨by rfl, rfl⟩) hH ?_
            try simp only [put_some, List.set_cons_zero, List.set_cons_succ]
            refine takeH (i := 31) (d := some 43) (v := .bool false) rfl rfl (by kernel_rfl) (by kernel_rfl) (by kernel_rfl) (fun _ _ _ h => h) (Or.inl ⟨by rfl, fun W hSw => by obtain ⟨s0, s1⟩ := hSw; go_simp <;> try omega⟩) hH ?_
            try simp only [put_some, List.set_cons_zero, List.set_cons_succ]
            refine takeH (i := 32) (d := some 44) (v := .bool false) rfl rfl (by kernel_rfl) (by kernel_rfl) (by kernel_rfl) (fun _ _ _ h => h) (Or.inl ⟨by rfl, fun W hSw => by obtain ⟨s0, s1⟩ := hSw; go_simp <;> try omega⟩) hH ?_
            try simp only [put_some, List.set_cons_zero, List.set_cons_succ]
            refine wpAnyH_done (by kernel_rfl) ?_ _
            go_wp2
            go_roundw
            case rel => exact ⟨k + 1, by omega, by go_num, HS2.out, below_then hbr hB' hbr.size⟩
            case measure => simp [intOf]; omega
          · obtain ⟨p, hp⟩ : ∃ p, k = p + 1 := ⟨k - 1, by omega⟩
            have d0 := HPV.out p hp
            have e1 : k - 1 = p := by omega
            rw [e1] at HGD
            generalize (ps.getD p P.zero).1.id = pid at d0 HGD
            have HKD : Hid (∀ W, Below wr.heap.size wr W → W.cell? ⟨b, off + k * 2, none⟩ = some (.int .i64 ri) ∧ W.cell? ⟨b, off + k * 2 + 1, none⟩ = some (.slice xa xn xc) ∧ W.cell? ⟨b, off + p * 2, none⟩ = some (.int .i64 pid)) := fun W h => ⟨(HK.out W h).1, (HK.out W h).2, (h.cell (p := ⟨b, off + p * 2, none⟩) (lt_of_cell d0)).trans d0⟩
            have hwp : IntKind.i64.wrap ((k : Int) - 1) = (p : Int) := by rw [IntKind.wrap_i64]; omega
            have hkz : (0 : Int) < (k : Int) := by omega
            have hpn : p < n := by omega
            have hpn' : (p : Int) < (n : Int) := by omega
            have hkn' : (k : Int) < (n : Int) := by omega
            have HP := Lib.hid hp
            have hgd : decide (k = 0) = false := decide_eq_false (by omega)
            rw [hgd, decide_eq_true (show ri ≤ 1000000000 by omega)] at HGD
            simp only [Bool.true_and, Bool.false_or] at HGD
            clear d0 e1 hp HPV hgd hk0
            by_cases hle : ri ≤ pid
            · have HNO := Lib.hid (HNN.out (by rw [HGD.out]; exact decide_eq_false (by omega)))
              clear HGD HSY HNN
              go_wp2
              refine wp_region_held_drew (S := fun W => W.cell? ⟨b, off + k * 2, none⟩ = some (.int .i64 ri) ∧ W.cell? ⟨b, off + k * 2 + 1, none⟩ = some (.slice xa xn xc) ∧ W.cell? ⟨b, off + p * 2, none⟩ = some (.int .i64 pid)) (by kernel_rfl) (HKD.out _ hB') (fun hH => ?_)
              refine takeH (i := 0) (d := some 12) (v := .slice a1 zn c1) rfl rfl (by kernel_rfl) (by kernel_rfl) (by kernel_rfl) (fun _ _ _ h => h) (Or.inl ⟨by rfl, fun W hSw => by obtain ⟨s0, s1, s2⟩ := hSw; go_simp <;> try omega⟩) hH ?_
              try simp only [put_some, List.set_cons_zero, List.set_cons_succ]
              refine takeH (i := 1) (d := some 13) (v := .slice (some ⟨b, off, none⟩) n cap) rfl rfl (by kernel_rfl) (by kernel_rfl) (by kernel_rfl) (fun _ _ _ h => h) (Or.inl ⟨by rfl, fun W hSw => by obtain ⟨s0, s1, s2⟩ := hSw; go_simp <;> try omega⟩) hH ?_
              try simp only [put_some, List.set_cons_zero, List.set_cons_succ]
              refine takeH (i := 2) (d := some 14) (v := .int .i64 (k : Nat)) rfl rfl (by kernel_rfl) (by kernel_rfl) (by kernel_rfl) (fun _ _ _ h => h) (Or.inl ⟨by rfl, fun W hSw => by obtain ⟨s0, s1, s2⟩ := hSw; go_simp <;> try omega⟩) hH ?_
              try simp only [put_some, List.set_cons_zero, List.set_cons_succ]
              refine takeH (i := 3) (d := some 15) (v := .pointer (some ⟨b, off + k * 2, none⟩)) rfl rfl (by kernel_rfl) (by kernel_rfl) (by kernel_rfl) (fun _ _ _ h => h) (Or.inl ⟨by rfl, fun W hSw => by obtain ⟨s0, s1, s2⟩ := hSw; go_simp <;> try omega⟩) hH ?_
              try simp only [put_some, List.set_cons_zero, List.set_cons_succ]
              refine takeH (i := 4) (d := some 16) (v := .agg #[.int .i64 ri, .slice xa xn xc]) rfl rfl (by kernel_rfl) (by kernel_rfl) (by kernel_rfl) (fun _ _ _ h => h) (Or.inl ⟨by rfl, fun W hSw => by obtain ⟨s0, s1, s2⟩ := hSw; go_simp <;> try omega⟩) hH ?_
              try simp only [put_some, List.set_cons_zero, List.set_cons_succ]
              refine wpAnyH_ready (rs := [5]) (by kernel_rfl) (by simp) ?_
              refine AllReadyH.cons rfl (fun K hK => ?_) AllReadyH.nil
              go_simp
              go_at_call 53
              refine (HRO.out _ hB').mono ?_
              rintro e w2 ⟨rfl, hb2⟩
              replace hB' := below_then hB' hb2 hB'.size
              go_wp2_with fail
              refine hK.out _ _ (HKD.out _ hB') (fun hH => ?_)
              clear hK K
              refine takeH (i := 6) (d := some 18) (v := .bool false) rfl rfl (by kernel_rfl) (by kernel_rfl) (by kernel_rfl) (fun _ _ _ h => h) (Or.inl ⟨by rfl, fun W hSw => by obtain ⟨s0, s1, s2⟩ := hSw; go_simp <;> try omega⟩) hH ?_
              try simp only [put_some, List.set_cons_zero, List.set_cons_succ]
              refine takeH (i := 7) (d := some 19) (v := .bool false) rfl rfl (by kernel_rfl) (by kernel_rfl) (by kernel_rfl) (fun _ _ _ h => h) (Or.inl ⟨by rfl, fun W hSw => by obtain ⟨s0, s1, s2⟩ := hSw; go_simp <;> try omega⟩) hH ?_
              try simp only [put_some, List.set_cons_zero, List.set_cons_succ]
              refine takeH (i := 8) (d := some 20) (v := .slice (some ⟨b, off, none⟩) n cap) rfl rfl (by kernel_rfl) (by kernel_rfl) (by kernel_rfl) (fun _ _ _ h => h) (Or.inl ⟨by rfl, fun W hSw => by obtain ⟨s0, s1, s2⟩ := hSw; go_simp <;> try omega⟩) hH ?_
              try simp only [put_some, List.set_cons_zero, List.set_cons_succ]
              refine takeH (i := 9) (d := some 21) (v := .int .i64 (k : Nat)) rfl rfl (by kernel_rfl) (by kernel_rfl) (by kernel_rfl) (fun _ _ _ h => h) (Or.inl ⟨by rfl, fun W hSw => by obtain ⟨s0, s1, s2⟩ := hSw; go_simp <;> try omega⟩) hH ?_
              try simp only [put_some, List.set_cons_zero, List.set_cons_succ]
              refine takeH (i := 10) (d := some 22) (v := .pointer (some ⟨b, off + k * 2, none⟩)) rfl rfl (by kernel_rfl) (by kernel_rfl) (by kernel_rfl) (fun _ _ _ h => h) (Or.inl ⟨by rfl, fun W hSw => by obtain ⟨s0, s1, s2⟩ := hSw; go_simp <;> try omega⟩) hH ?_
              try simp only [put_some, List.set_cons_zero, List.set_cons_succ]
              refine takeH (i := 11) (d := some 23) (v := .pointer (some ⟨b, off + k * 2, none⟩)) rfl rfl (by kernel_rfl) (by kernel_rfl) (by kernel_rfl) (fun _ _ _ h => h) (Or.inl ⟨by rfl, fun W hSw => by obtain ⟨s0, s1, s2⟩ := hSw; go_simp <;> try omega⟩) hH ?_
              try simp only [put_some, List.set_cons_zero, List.set_cons_succ]
              refine takeH (i := 12) (d := some 24) (v := .int .i64 ri) rfl rfl (by kernel_rfl) (by kernel_rfl) (by kernel_rfl) (fun _ _ _ h => h) (Or.inl ⟨by rfl, fun W hSw => by obtain ⟨s0, s1, s2⟩ := hSw; go_simp <;> try omega⟩) hH ?_
              try simp only [put_some, List.set_cons_zero, List.set_cons_succ]
              refine takeH (i := 13) (d := some 25) (v := .bool false) rfl rfl (by kernel_rfl) (by kernel_rfl) (by kernel_rfl) (fun _ _ _ h => h) (Or.inl ⟨by rfl, fun W hSw => by obtain ⟨s0, s1, s2⟩ := hSw; go_simp <;> try omega⟩) hH ?_
              try simp only [put_some, List.set_cons_zero, List.set_cons_succ]
              refine takeH (i := 14) (d := some 26) (v := .bool false) rfl rfl (by kernel_rfl) (by kernel_rfl) (by kernel_rfl) (fun _ _ _ h => h) (Or.inl ⟨by rfl, fun W hSw => by obtain ⟨s0, s1, s2⟩ := hSw; go_simp <;> try omega⟩) hH ?_
              try simp only [put_some, List.set_cons_zero, List.set_cons_succ]
              refine takeH (i := 15) (d := some 27) (v := .bool false) rfl rfl (by kernel_rfl) (by kernel_rfl) (by kernel_rfl) (fun _ _ _ h => h) (Or.inl ⟨by rfl, fun W hSw => by obtain ⟨s0, s1, s2⟩ := hSw; go_simp <;> try omega⟩) hH ?_
              try simp only [put_some, List.set_cons_zero, List.set_cons_succ]
              refine takeH (i := 16) (d := some 28) (v := .int .i64 (k : Nat)) rfl rfl (by kernel_rfl) (by kernel_rfl) (by kernel_rfl) (fun _ _ _ h => h) (Or.inl ⟨by rfl, fun W hSw => by obtain ⟨s0, s1, s2⟩ := hSw; go_simp <;> try omega⟩) hH ?_
              try simp only [put_some, List.set_cons_zero, List.set_cons_succ]
              refine takeH (i := 17) (d := some 29) (v := .bool true) rfl rfl (by kernel_rfl) (by kernel_rfl) (by kernel_rfl) (fun _ _ _ h => h) (Or.inl ⟨by rfl, fun W hSw => by obtain ⟨s0, s1, s2⟩ := hSw; go_simp <;> try omega⟩) hH ?_
              try simp only [put_some, List.set_cons_zero, List.set_cons_succ]
              refine takeH (i := 18) (d := some 30) (v := .bool true) rfl rfl (by kernel_rfl) (by kernel_rfl) (by kernel_rfl) (fun _ _ _ h => h) (Or.inl ⟨by rfl, fun W hSw => by obtain ⟨s0, s1, s2⟩ := hSw; go_simp <;> try omega⟩) hH ?_
              try simp only [put_some, List.set_cons_zero, List.set_cons_succ]
              refine takeH (i := 19) (d := some 31) (v := .slice (some ⟨b, off, none⟩) n cap) rfl rfl (by kernel_rfl) (by kernel_rfl) (by kernel_rfl) (fun _ _ _ h => h) (Or.inl ⟨by rfl, fun W hSw => by obtain ⟨s0, s1, s2⟩ := hSw; go_simp <;> try omega⟩) hH ?_
              try simp only [put_some, List.set_cons_zero, List.set_cons_succ]
              refine takeH (i := 20) (d := some 32) (v := .int .i64 (k : Nat)) rfl rfl (by kernel_rfl) (by kernel_rfl) (by kernel_rfl) (fun _ _ _ h => h) (Or.inl ⟨by rfl, fun W hSw => by obtain ⟨s0, s1, s2⟩ := hSw; go_simp <;> try omega⟩) hH ?_
              try simp only [put_some, List.set_cons_zero, List.set_cons_succ]
              refine takeH (i := 21) (d := some 33) (v := .int .i64 (p : Nat)) rfl rfl (by kernel_rfl) (by kernel_rfl) (by kernel_rfl) (fun _ _ _ h => h) (Or.inl ⟨by rfl, fun W hSw => by obtain ⟨s0, s1, s2⟩ := hSw; go_simp <;> try omega⟩) hH ?_
              try simp only [put_some, List.set_cons_zero, List.set_cons_succ]
              refine takeH (i := 22) (d := some 34) (v := .pointer (some ⟨b, off + p * 2, none⟩)) rfl rfl (by kernel_rfl) (by kernel_rfl) (by kernel_rfl) (fun _ _ _ h => h) (Or.inl ⟨by rfl, fun W hSw => by obtain ⟨s0, s1, s2⟩ := hSw; go_simp <;> try omega⟩) hH ?_
              try simp only [put_some, List.set_cons_zero, List.set_cons_succ]
              refine takeH (i := 23) (d := some 35) (v := .pointer (some ⟨b, off + p * 2, none⟩)) rfl rfl (by kernel_rfl) (by kernel_rfl) (by kernel_rfl) (fun _ _ _ h => h) (Or.inl ⟨by rfl, fun W hSw => by obtain ⟨s0, s1, s2⟩ := hSw; go_simp <;> try omega⟩) hH ?_
              try simp only [put_some, List.set_cons_zero, List.set_cons_succ]
              refine takeH (i := 24) (d := some 36) (v := .int .i64 pid) rfl rfl (by kernel_rfl) (by kernel_rfl) (by kernel_rfl) (fun _ _ _ h => h) (Or.inl ⟨by rfl, fun W hSw => by obtain ⟨s0, s1, s2⟩ := hSw; go_simp <;> try omega⟩) hH ?_
              try simp only [put_some, List.set_cons_zero, List.set_cons_succ]
              refine takeH (i := 25) (d := some 37) (v := .slice (some ⟨b, off, none⟩) n cap) rfl rfl (by kernel_rfl) (by kernel_rfl) (by kernel_rfl) (fun _ _ _ h => h) (Or.inl ⟨by rfl, fun W hSw => by obtain ⟨s0, s1, s2⟩ := hSw; go_simp <;> try omega⟩) hH ?_
              try simp only [put_some, List.set_cons_zero, List.set_cons_succ]
              refine takeH (i := 26) (d := some 38) (v := .int .i64 (k : Nat)) rfl rfl (by kernel_rfl) (by kernel_rfl) (by kernel_rfl) (fun _ _ _ h => h) (Or.inl ⟨by rfl, fun W hSw => by obtain ⟨s0, s1, s2⟩ := hSw; go_simp <;> try omega⟩) hH ?_
              try simp only [put_some, List.set_cons_zero, List.set_cons_succ]
              refine takeH (i := 27) (d := some 39) (v := .pointer (some ⟨b, off + k * 2, none⟩)) rfl rfl (by kernel_rfl) (by kernel_rfl) (by kernel_rfl) (fun _ _ _ h => h) (Or.inl ⟨by rfl, fun W hSw => by obtain ⟨s0, s1, s2⟩ := hSw; go_simp <;> try omega⟩) hH ?_
              try simp only [put_some, List.set_cons_zero, List.set_cons_succ]
              refine takeH (i := 28) (d := some 40) (v := .pointer (some ⟨b, off + k * 2, none⟩)) rfl rfl (by kernel_rfl) (by kernel_rfl) (by kernel_rfl) (fun _ _ _ h => h) (Or.inl ⟨by rfl, fun W hSw => by obtain ⟨s0, s1, s2⟩ := hSw; go_simp <;> try omega⟩) hH ?_
              try simp only [put_some, List.set_cons_zero, List.set_cons_succ]
              refine takeH (i := 29) (d := some 41) (v := .int .i64 ri) rfl rfl (by kernel_rfl) (by kernel_rfl) (by kernel_rfl) (fun _ _ _ h => h) (Or.inl ⟨by rfl, fun W hSw => by obtain ⟨s0, s1, s2⟩ := hSw; go_simp <;> try omega⟩) hH ?_
              try simp only [put_some, List.set_cons_zero, List.set_cons_succ]
              refine takeH (i := 30) (d := some 42) (v := .bool true) rfl rfl (by kernel_rfl) (by kernel_rfl) (by kernel_rfl) (fun _ _ _ h => h) (Or.inl ⟨by rfl, fun W hSw => by obtain ⟨s0, s1, s2⟩ := hSw; go_simp <;> try omega⟩) hH ?_
              try simp only [put_some, List.set_cons_zero, List.set_cons_succ]
              refine takeH (i := 31) (d := some 43) (v := .bool true) rfl rfl (by kernel_rfl) (by kernel_rfl) (by kernel_rfl) (fun _ _ _ h => h) (Or.inl ⟨by rfl, fun W hSw => by obtain ⟨s0, s1, s2⟩ := hSw; go_simp <;> try omega⟩) hH ?_
              try simp only [put_some, List.set_cons_zero, List.set_cons_succ]
              refine takeH (i := 32) (d := some 44) (v := .bool true) rfl rfl (by kernel_rfl) (by kernel_rfl) (by kernel_rfl) (fun _ _ _ h => h) (Or.inl ⟨by rfl, fun W hSw => by obtain ⟨s0, s1, s2⟩ := hSw; go_simp <;> try omega⟩) hH ?_
              try simp only [put_some, List.set_cons_zero, List.set_cons_succ]
              refine wpAnyH_done (by kernel_rfl) ?_ _
              go_wp2
              go_ret
              exact ⟨ret_bool HNO.out.symm, below_then hbr hB' hbr.size⟩
            · have HS2 := Lib.hid (HSY.out (by rw [HGD.out]; exact decide_eq_true (by omega)))
              clear HGD HSY HNN
              go_wp2
              refine wp_region_held_drew (S := fun W => W.cell? ⟨b, off + k * 2, none⟩ = some (.int .i64 ri) ∧ W.cell? ⟨b, off + k * 2 + 1, none⟩ = some (.slice xa xn xc) ∧ W.cell? ⟨b, off + p * 2, none⟩ = some (.int .i64 pid)) (by kernel_rfl) (HKD.out _ hB') (fun hH => ?_)
              refine takeH (i := 0) (d := some 12) (v := .slice a1 zn c1) rfl rfl (by kernel_rfl) (by kernel_rfl) (by kernel_rfl) (fun _ _ _ h => h) (Or.inl ⟨by rfl, fun W hSw => by obtain ⟨s0, s1, s2⟩ := hSw; go_simp <;> try omega⟩) hH ?_
              try simp only [put_some, List.set_cons_zero, List.set_cons_succ]
              refine takeH (i := 1) (d := some 13) (v := .slice (some ⟨b, off, none⟩) n cap) rfl rfl (by kernel_rfl) (by kernel_rfl) (by kernel_rfl) (fun _ _ _ h => h) (Or.inl ⟨by rfl, fun W hSw => by obtain ⟨s0, s1, s2⟩ := hSw; go_simp <;> try omega⟩) hH ?_
              try simp only [put_some, List.set_cons_zero, List.set_cons_succ]
              refine takeH (i := 2) (d := some 14) (v := .int .i64 (k : Nat)) rfl rfl (by kernel_rfl) (by kernel_rfl) (by kernel_rfl) (fun _ _ _ h => h) (Or.inl ⟨by rfl, fun W hSw => by obtain ⟨s0, s1, s2⟩ := hSw; go_simp <;> try omega⟩) hH ?_
              try simp only [put_some, List.set_cons_zero, List.set_cons_succ]
              refine takeH (i := 3) (d := some 15) (v := .pointer (some ⟨b, off + k * 2, none⟩)) rfl rfl (by kernel_rfl) (by kernel_rfl) (by kernel_rfl) (fun _ _ _ h => h) (Or.inl ⟨by rfl, fun W hSw => by obtain ⟨s0, s1, s2⟩ := hSw; go_simp <;> try omega⟩) hH ?_
              try simp only [put_some, List.set_cons_zero, List.set_cons_succ]
              refine takeH (i := 4) (d := some 16) (v := .agg #[.int .i64 ri, .slice xa xn xc]) rfl rfl (by kernel_rfl) (by kernel_rfl) (by kernel_rfl) (fun _ _ _ h => h) (Or.inl ⟨by rfl, fun W hSw => by obtain ⟨s0, s1, s2⟩ := hSw; go_simp <;> try omega⟩) hH ?_
              try simp only [put_some, List.set_cons_zero, List.set_cons_succ]
              refine wpAnyH_ready (rs := [5]) (by kernel_rfl) (by simp) ?_
              refine AllReadyH.cons rfl (fun K hK => ?_) AllReadyH.nil
              go_simp
              go_at_call 53
              refine (HRO.out _ hB').mono ?_
              rintro e w2 ⟨rfl, hb2⟩
              replace hB' := below_then hB' hb2 hB'.size
              go_wp2_with fail
              refine hK.out _ _ (HKD.out _ hB') (fun hH => ?_)
              clear hK K
              refine takeH (i := 6) (d := some 18) (v := .bool false) rfl rfl (by kernel_rfl) (by kernel_rfl) (by kernel_rfl) (fun _ _ _ h => h) (Or.inl ⟨by rfl, fun W hSw => by obtain ⟨s0, s1, s2⟩ := hSw; go_simp <;> try omega⟩) hH ?_
              try simp only [put_some, List.set_cons_zero, List.set_cons_succ]
              refine takeH (i := 7) (d := some 19) (v := .bool false) rfl rfl (by kernel_rfl) (by kernel_rfl) (by kernel_rfl) (fun _ _ _ h => h) (Or.inl ⟨by rfl, fun W hSw => by obtain ⟨s0, s1, s2⟩ := hSw; go_simp <;> try omega⟩) hH ?_
              try simp only [put_some, List.set_cons_zero, List.set_cons_succ]
              refine takeH (i := 8) (d := some 20) (v := .slice (some ⟨b, off, none⟩) n cap) rfl rfl (by kernel_rfl) (by kernel_rfl) (by kernel_rfl) (fun _ _ _ h => h) (Or.inl ⟨by rfl, fun W hSw => by obtain ⟨s0, s1, s2⟩ := hSw; go_simp <;> try omega⟩) hH ?_
              try simp only [put_some, List.set_cons_zero, List.set_cons_succ]
              refine takeH (i := 9) (d := some 21) (v := .int .i64 (k : Nat)) rfl rfl (by kernel_rfl) (by kernel_rfl) (by kernel_rfl) (fun _ _ _ h => h) (Or.inl ⟨by rfl, fun W hSw => by obtain ⟨s0, s1, s2⟩ := hSw; go_simp <;> try omega⟩) hH ?_
              try simp only [put_some, List.set_cons_zero, List.set_cons_succ]
              refine takeH (i := 10) (d := some 22) (v := .pointer (some ⟨b, off + k * 2, none⟩)) rfl rfl (by kernel_rfl) (by kernel_rfl) (by kernel_rfl) (fun _ _ _ h => h) (Or.inl ⟨by rfl, fun W hSw => by obtain ⟨s0, s1, s2⟩ := hSw; go_simp <;> try omega⟩) hH ?_
              try simp only [put_some, List.set_cons_zero, List.set_cons_succ]
              refine takeH (i := 11) (d := some 23) (v := .pointer (some ⟨b, off + k * 2, none⟩)) rfl rfl (by kernel_rfl) (by kernel_rfl) (by kernel_rfl) (fun _ _ _ h => h) (Or.inl ⟨by rfl, fun W hSw => by obtain ⟨s0, s1, s2⟩ := hSw; go_simp <;> try omega⟩) hH ?_
              try simp only [put_some, List.set_cons_zero, List.set_cons_succ]
              refine takeH (i := 12) (d := some 24) (v := .int .i64 ri) rfl rfl (by kernel_rfl) (by kernel_rfl) (by kernel_rfl) (fun _ _ _ h => h) (Or.inl ⟨by rfl, fun W hSw => by obtain ⟨s0, s1, s2⟩ := hSw; go_simp <;> try omega⟩) hH ?_
              try simp only [put_some, List.set_cons_zero, List.set_cons_succ]
              refine takeH (i := 13) (d := some 25) (v := .bool false) rfl rfl (by kernel_rfl) (by kernel_rfl) (by kernel_rfl) (fun _ _ _ h => h) (Or.inl ⟨by rfl, fun W hSw => by obtain ⟨s0, s1, s2⟩ := hSw; go_simp <;> try omega⟩) hH ?_
              try simp only [put_some, List.set_cons_zero, List.set_cons_succ]
              refine takeH (i := 14) (d := some 26) (v := .bool false) rfl rfl (by kernel_rfl) (by kernel_rfl) (by kernel_rfl) (fun _ _ _ h => h) (Or.inl ⟨by rfl, fun W hSw => by obtain ⟨s0, s1, s2⟩ := hSw; go_simp <;> try omega⟩) hH ?_
              try simp only [put_some, List.set_cons_zero, List.set_cons_succ]
              refine takeH (i := 15) (d := some 27) (v := .bool false) rfl rfl (by kernel_rfl) (by kernel_rfl) (by kernel_rfl) (fun _ _ _ h => h) (Or.inl ⟨by rfl, fun W hSw => by obtain ⟨s0, s1, s2⟩ := hSw; go_simp <;> try omega⟩) hH ?_
              try simp only [put_some, List.set_cons_zero, List.set_cons_succ]
              refine takeH (i := 16) (d := some 28) (v := .int .i64 (k : Nat)) rfl rfl (by kernel_rfl) (by kernel_rfl) (by kernel_rfl) (fun _ _ _ h => h) (Or.inl ⟨by rfl, fun W hSw => by obtain ⟨s0, s1, s2⟩ := hSw; go_simp <;> try omega⟩) hH ?_
              try simp only [put_some, List.set_cons_zero, List.set_cons_succ]
              refine takeH (i := 17) (d := some 29) (v := .bool true) rfl rfl (by kernel_rfl) (by kernel_rfl) (by kernel_rfl) (fun _ _ _ h => h) (Or.inl ⟨by rfl, fun W hSw => by obtain ⟨s0, s1, s2⟩ := hSw; go_simp <;> try omega⟩) hH ?_
              try simp only [put_some, List.set_cons_zero, List.set_cons_succ]
              refine takeH (i := 18) (d := some 30) (v := .bool true) rfl rfl (by kernel_rfl) (by kernel_rfl) (by kernel_rfl) (fun _ _ _ h => h) (Or.inl ⟨by rfl, fun W hSw => by obtain ⟨s0, s1, s2⟩ := hSw; go_simp <;> try omega⟩) hH ?_
              try simp only [put_some, List.set_cons_zero, List.set_cons_succ]
              refine takeH (i := 19) (d := some 31) (v := .slice (some ⟨b, off, none⟩) n cap) rfl rfl (by kernel_rfl) (by kernel_rfl) (by kernel_rfl) (fun _ _ _ h => h) (Or.inl ⟨by rfl, fun W hSw => by obtain ⟨s0, s1, s2⟩ := hSw; go_simp <;> try omega⟩) hH ?_
              try simp only [put_some, List.set_cons_zero, List.set_cons_succ]
              refine takeH (i := 20) (d := some 32) (v := .int .i64 (k : Nat)) rfl rfl (by kernel_rfl) (by kernel_rfl) (by kernel_rfl) (fun _ _ _ h => h) (Or.inl ⟨by rfl, fun W hSw => by obtain ⟨s0, s1, s2⟩ := hSw; go_simp <;> try omega⟩) hH ?_
              try simp only [put_some, List.set_cons_zero, List.set_cons_succ]
              refine takeH (i := 21) (d := some 33) (v := .int .i64 (p : Nat)) rfl rfl (by kernel_rfl) (by kernel_rfl) (by kernel_rfl) (fun _ _ _ h => h) (Or.inl ⟨by rfl, fun W hSw => by obtain ⟨s0, s1, s2⟩ := hSw; go_simp <;> try omega⟩) hH ?_
              try simp only [put_some, List.set_cons_zero, List.set_cons_succ]
              refine takeH (i := 22) (d := some 34) (v := .pointer (some ⟨b, off + p * 2, none⟩)) rfl rfl (by kernel_rfl) (by kernel_rfl) (by kernel_rfl) (fun _ _ _ h => h) (Or.inl ⟨by rfl, fun W hSw => by obtain ⟨s0, s1, s2⟩ := hSw; go_simp <;> try omega⟩) hH ?_
              try simp only [put_some, List.set_cons_zero, List.set_cons_succ]
              refine takeH (i := 23) (d := some 35) (v := .pointer (some ⟨b, off + p * 2, none⟩)) rfl rfl (by kernel_rfl) (by kernel_rfl) (by kernel_rfl) (fun _ _ _ h => h) (Or.inl ⟨by rfl, fun W hSw => by obtain ⟨s0, s1, s2⟩ := hSw; go_simp <;> try omega⟩) hH ?_
              try simp only [put_some, List.set_cons_zero, List.set_cons_succ]
              refine takeH (i := 24) (d := some 36) (v := .int .i64 pid) rfl rfl (by kernel_rfl) (by kernel_rfl) (by kernel_rfl) (fun _ _ _ h => h) (Or.inl ⟨by rfl, fun W hSw => by obtain ⟨s0, s1, s2⟩ := hSw; go_simp <;> try omega⟩) hH ?_
              try simp only [put_some, List.set_cons_zero, List.set_cons_succ]
              refine takeH (i := 25) (d := some 37) (v := .slice (some ⟨b, off, none⟩) n cap) rfl rfl (by kernel_rfl) (by kernel_rfl) (by kernel_rfl) (fun _ _ _ h => h) (Or.inl ⟨by rfl, fun W hSw => by obtain ⟨s0, s1, s2⟩ := hSw; go_simp <;> try omega⟩) hH ?_
              try simp only [put_some, List.set_cons_zero, List.set_cons_succ]
              refine takeH (i := 26) (d := some 38) (v := .int .i64 (k : Nat)) rfl rfl (by kernel_rfl) (by kernel_rfl) (by kernel_rfl) (fun _ _ _ h => h) (Or.inl ⟨by rfl, fun W hSw => by obtain ⟨s0, s1, s2⟩ := hSw; go_simp <;> try omega⟩) hH ?_
              try simp only [put_some, List.set_cons_zero, List.set_cons_succ]
              refine takeH (i := 27) (d := some 39) (v := .pointer (some ⟨b, off + k * 2, none⟩)) rfl rfl (by kernel_rfl) (by kernel_rfl) (by kernel_rfl) (fun _ _ _ h => h) (Or.inl ⟨by rfl, fun W hSw => by obtain ⟨s0, s1, s2⟩ := hSw; go_simp <;> try omega⟩) hH ?_
              try simp only [put_some, List.set_cons_zero, List.set_cons_succ]
              refine takeH (i := 28) (d := some 40) (v := .pointer (some ⟨b, off + k * 2, none⟩)) rfl rfl (by kernel_rfl) (by kernel_rfl) (by kernel_rfl) (fun _ _ _ h => h) (Or.inl ⟨by rfl, fun W hSw => by obtain ⟨s0, s1, s2⟩ := hSw; go_simp <;> try omega⟩) hH ?_
              try simp only [put_some, List.set_cons_zero, List.set_cons_succ]
              refine takeH (i := 29) (d := some 41) (v := .int .i64 ri) rfl rfl (by kernel_rfl) (by kernel_rfl) (by kernel_rfl) (fun _ _ _ h => h) (Or.inl ⟨by rfl, fun W hSw => by obtain ⟨s0, s1, s2⟩ := hSw; go_simp <;> try omega⟩) hH ?_
              try simp only [put_some, List.set_cons_zero, List.set_cons_succ]
              refine takeH (i := 30) (d := some 42) (v := .bool false) rfl rfl (by kernel_rfl) (by kernel_rfl) (by kernel_rfl) (fun _ _ _ h => h) (Or.inl ⟨by rfl, fun W hSw => by obtain ⟨s0, s1, s2⟩ := hSw; go_simp <;> try omega⟩) hH ?_
              try simp only [put_some, List.set_cons_zero, List.set_cons_succ]
              refine takeH (i := 31) (d := some 43) (v := .bool false) rfl rfl (by kernel_rfl) (by kernel_rfl) (by kernel_rfl) (fun _ _ _ h => h) (Or.inl ⟨by rfl, fun W hSw => by obtain ⟨s0, s1, s2⟩ := hSw; go_simp <;> try omega⟩) hH ?_
              try simp only [put_some, List.set_cons_zero, List.set_cons_succ]
              refine takeH (i := 32) (d := some 44) (v := .bool false) rfl rfl (by kernel_rfl) (by kernel_rfl) (by kernel_rfl) (fun _ _ _ h => h) (Or.inl ⟨by rfl, fun W hSw => by obtain ⟨s0, s1, s2⟩ := hSw; go_simp <;> try omega⟩) hH ?_
              try simp only [put_some, List.set_cons_zero, List.set_cons_succ]
              refine wpAnyH_done (by kernel_rfl) ?_ _
              go_wp2
              go_roundw
              case rel => exact ⟨k + 1, by omega, by go_num, HS2.out, below_then hbr hB' hbr.size⟩
              case measure => simp [intOf]; omega
    · obtain rfl : k = n := by omega
      have HA : Hid (rowsOkL zs (ps.map (·.1)) = (colsB zs && decide (k ≤ 12))) := by
        show _ = _
        have e := rowsOk_end (zs := zs) (l := ps.map (·.1)) (fun j hj => HOK.out j (by rw [List.length_map, HL.out] at hj; exact hj))
        rw [List.length_map, HL.out] at e
        exact e
      generalize colsB zs = q at HCO HA
      cases q with
      | false =>
        go_wp2_with fail
        refine (HCO.out _ hbr).mono ?_
        rintro e w' ⟨rfl, rfl⟩
        go_wp2
        go_ret
        exact ⟨ret_bool (by rw [HA.out]; rfl), hbr⟩
      | true =>
        by_cases h12 : k ≤ 12
        · have h12' : (k : Int) ≤ 12 := by omega
          have HE : Hid (rowsOkL zs (ps.map (·.1)) = true) := by show _ = _; rw [HA.out, decide_eq_true h12]; rfl
          go_wp2_with fail
          refine (HCO.out _ hbr).mono ?_
          rintro e w' ⟨rfl, rfl⟩
          go_wp2
          go_ret
          exact ⟨ret_bool (by rw [HE.out] <;> try simp <;> try omega), hbr⟩
        · have h12' : ¬ ((k : Int) ≤ 12) := by omega
          have HE : Hid (rowsOkL zs (ps.map (·.1)) = false) := by show _ = _; rw [HA.out, decide_eq_false h12]; rfl
          go_wp2_with fail
          refine (HCO.out _ hbr).mono ?_
          rintro e w' ⟨rfl, rfl⟩
          go_wp2
          go_ret
          exact ⟨ret_bool (by rw [HE.out] <;> try simp <;> try omega), hbr⟩

end Go.Proofs.YtkofafefnlommaaGreat
