/- Texts of this claim, one behind the other: I7s, I7c, I7e. -/
import Derived.Test.YtkofafefnlommaaGreatP25
import Derived.Test.YtkofafefnlommaaGreatP17
import Derived.Test.YtkofafefnlommaaGreatP10
import Derived.Test.YtkofafefnlommaaGreatP3

/- The contracts of impl's compareVals and of slices.SortFunc at Vals. -/
namespace Go.Proofs.YtkofafefnlommaaGreat
open Go.RowKit Go.Sort

/-- From W to w' nothing but draws and new blocks. -/
def Laid (W w' : World) : Prop := ∃ q os, w' = grow (W.drewN q) os
theorem Laid.alloc2 (W : World) (o p : Obj) : Laid W ((W.alloc o).alloc p) := ⟨0, #[o] ++ #[p], by rw [alloc_eq_grow, alloc_eq_grow, grow_grow]; rfl⟩
theorem Laid.trans {a b c : World} (h : Laid a b) (k : Laid b c) : Laid a c := by
  obtain ⟨q, os, rfl⟩ := h
  obtain ⟨r, os', rfl⟩ := k
  refine ⟨q + r, os ++ os', ?_⟩
  rw [show (grow (a.drewN q) os).drewN r = grow ((a.drewN q).drewN r) os from rfl, World.drewN_drewN, grow_grow]
theorem Laid.below {W w' : World} (h : Laid W w') : Below W.heap.size W w' := by
  obtain ⟨q, os, rfl⟩ := h
  refine ⟨rfl, rfl, rfl, by simp [World.drewN], fun k hk => ?_⟩
  show ((W.drewN q).heap ++ os)[k]? = _
  rw [Array.getElem?_append_left (by exact hk)]
  rfl

theorem lessLaid (a b : V) (w : World) : Calls Tryz.prog 194 #[a.agg, b.agg] w fun e w' => e = .returned (.bool (lessV a b)) ∧ Laid w w' := by
  obtain ⟨t1, n1, s1⟩ := a
  obtain ⟨t2, n2, s2⟩ := b
  have HE := Lib.hid (show lessV ⟨t1, n1, s1⟩ ⟨t2, n2, s2⟩ = if (t1 != t2) = true then decide (t1 < t2) else if (n1 != n2) = true then decide (n1 < n2) else Op.bytesLess s1.toList s2.toList from rfl)
  cases h1 : (t1 != t2) with
  | true =>
    rw [if_pos h1] at HE
    go_enter Tryz.func194, Tryz.ntmps194
    go_wp2
    go_ret
    exact ⟨ret_bool HE.out.symm, Laid.alloc2 _ _ _⟩
  | false =>
    rw [if_neg (by rw [h1]; simp)] at HE
    cases h2 : (n1 != n2) with
    | true =>
      rw [if_pos h2] at HE
      go_enter Tryz.func194, Tryz.ntmps194
      go_wp2
      go_ret
      exact ⟨ret_bool HE.out.symm, Laid.alloc2 _ _ _⟩
    | false =>
      rw [if_neg (by rw [h2]; simp)] at HE
      go_enter Tryz.func194, Tryz.ntmps194
      go_wp2
      go_ret
      exact ⟨ret_bool HE.out.symm, Laid.alloc2 _ _ _⟩

/-- compareVals. -/
def cmpV (a b : V) : Int := if lessV a b = true then -1 else if lessV b a = true then 1 else 0
theorem compareVals (a b : V) (w : World) : Calls Tryz.prog 177 #[a.agg, b.agg] w fun e w' => e = .returned (.int .i64 (cmpV a b)) ∧ Laid w w' := by
  have l0 := Laid.alloc2 w (.cells #[.int .i64 a.ty, .int .i64 a.n, .string a.s] 77) (.cells #[.int .i64 b.ty, .int .i64 b.n, .string b.s] 77)
  have h1 := (held_new w a 77).below (below_alloc _ (.cells #[.int .i64 b.ty, .int .i64 b.n, .string b.s] 77))
  have h2 := held_new (w.alloc (.cells #[.int .i64 a.ty, .int .i64 a.n, .string a.s] 77)) b 77
  have HA := Lib.hid (fun W => lessLaid a b W)
  have HB := Lib.hid (fun W => lessLaid b a W)
  have HE : Hid (cmpV a b = if lessV a b = true then -1 else if lessV b a = true then 1 else 0) := rfl
  generalize lessV a b = p at HA HE
  generalize lessV b a = q at HB HE
  rw [World.size_alloc] at h2
  obtain ⟨t1, n1, s1⟩ := a
  obtain ⟨t2, n2, s2⟩ := b
  go_enter Tryz.func177, Tryz.ntmps177
  simp only at l0 h1 h2
  go_wp2_with fail
  refine (HA.out _).mono ?_
  rintro e w1 ⟨rfl, l1⟩
  have b1 := l1.below
  replace h1 := h1.below b1
  replace h2 := h2.below b1
  have L1 := l0.trans l1
  obtain ⟨⟨a0, a1, a2⟩, _⟩ := h1
  obtain ⟨⟨c0, c1, c2⟩, _⟩ := h2
  simp only at a0 a1 a2 c0 c1 c2
  clear l0 l1 b1 HA
  cases p with
  | true =>
    go_wp2
    go_ret
    exact ⟨ret_int (by rw [HE.out]; rfl), L1⟩
  | false =>
    go_wp2_with fail
    refine (HB.out _).mono ?_
    rintro e w2 ⟨rfl, l2⟩
    have L2 := L1.trans l2
    clear l2 L1 a0 a1 a2 c0 c1 c2
    cases q with
    | true =>
      go_wp2
      go_ret
      exact ⟨ret_int (by rw [HE.out]; rfl), L2⟩
    | false =>
      go_wp2
      go_ret
      exact ⟨ret_int (by rw [HE.out]; rfl), L2⟩
theorem ltV (x y : V) : ltOf cmpV x y = lessV x y := by
  unfold ltOf cmpV
  cases h : lessV x y with
  | true => rfl
  | false => cases lessV y x <;> rfl
theorem swoV : SWO (ltOf cmpV) where
  irrefl x := by rw [ltV]; exact lessV_irrefl x
  trans x y z h1 h2 := by rw [ltV] at *; exact lessV_trans h1 h2
  ntrans x y z h1 h2 := by rw [ltV] at *; exact lessV_ntrans h1 h2
theorem cmpLays [Inhabited V] (blk off size : Nat) (w : World) : CmpLays Tryz.prog 177 #[] V.cs 3 cmpV blk off size w :=
  fun _ _ _ _ x y => (compareVals x y _).mono fun _ _ ⟨h1, q, os, h2⟩ => ⟨h1, q, os, h2⟩

theorem getElem!_toList [Inhabited V] {d : Array V} {i : Nat} (h : i < d.size) : d[i]! = d.toList.getD i V.zero := by
  rw [getElem!_pos d i h, getDe d.toList V.zero (by simpa using h)]
  simp
theorem vals_at {l : List V} {t : Nat} (h : t < l.length * 3) : (vals l)[t]? = (V.cs (l.getD (t / 3) V.zero))[t % 3]? := by
  have hk : t / 3 < l.length := by omega
  have := vals_get (l := l) (k := t / 3) (j := t % 3) hk (Nat.mod_lt _ (by omega))
  rw [show t / 3 * 3 + t % 3 = t by omega] at this
  rw [this, getDe l V.zero hk]
theorem cs_at (v : V) {j : Nat} (h : j < 3) : (V.cs v)[j]? = some (V.cs v)[j]! := by
  rw [List.getElem?_eq_getElem (show j < (V.cs v).length from h), getElem!_pos (V.cs v) j h]
  rfl
theorem flat_at [Inhabited V] {d : Array V} {t : Nat} (h : t < d.size * 3) : (vals d.toList)[t]? = some (flatK V.cs 3 d)[t]! := by
  rw [vals_at (by simpa using h), get_flatK V.cs 3 d t h, getElem!_toList (show t / 3 < d.size by omega), cs_at _ (Nat.mod_lt _ (by omega))]
theorem holds_own [Inhabited V] {w : World} {lo : Nat} {e : TypeId} {g n cap : Nat} {l : List V} (hl : l.length = n) (h : w.ownsRow lo e 3 (.slice (some ⟨g, 0, none⟩) n cap) n (vals l)) : HoldsK V.cs 3 w g 0 l.toArray := by
  intro j hj
  have hj' : j < l.length * 3 := by simpa using hj
  rw [Nat.zero_add]
  refine ⟨?_, h.frozenAt j⟩
  have h1 := h.cellAt j (by omega)
  have h2 := flat_at (d := l.toArray) (t := j) (by simpa using hj')
  rw [h1]
  exact h2
theorem own_sorted [Inhabited V] {w : World} {lo : Nat} {e : TypeId} {g n cap m : Nat} {xs : List Value} {d : Array V} {os : Array Obj} (hd : d.size = n) (h : w.ownsRow lo e 3 (.slice (some ⟨g, 0, none⟩) n cap) n xs) :
    (sortWorldK V.cs 3 w g 0 m d os).ownsRow lo e 3 (.slice (some ⟨g, 0, none⟩) n cap) n (vals d.toList) ∧ w.grownBy (sortWorldK V.cs 3 w g 0 m d os) (some g) := by
  obtain ⟨h1, h2⟩ := h
  rcases h2 with ⟨e0, _⟩ | ⟨g', cap', cur, e0, a1, a2, a3, a4, a5, a6⟩
  · cases e0
  cases e0
  have hlt : g < w.heap.size := (Array.getElem?_eq_some_iff.1 a2).1
  have hheap : (sortWorldK V.cs 3 w g 0 m d os).heap = w.heap.modify g (onCells (putCells id 0 (flatK V.cs 3 d))) ++ os := rfl
  refine ⟨⟨by rw [vals_len]; simp [hd], .inr ⟨g, cap, putCells id 0 (flatK V.cs 3 d) cur, rfl, a1, ?_, a3, a4, ?_, ?_⟩⟩, rfl, rfl, rfl, ?_, ?_⟩
  · rw [hheap, Array.getElem?_append_left (by simpa using hlt), Array.getElem?_modify, if_pos rfl, a2]
    rfl
  · simp [putCells, a5]
  · apply List.ext_getElem?
    intro t
    by_cases ht : t < n * 3
    · have hn3 : n * 3 ≤ cap * 3 := Nat.mul_le_mul_right _ a3
      rw [List.getElem?_take_of_lt ht, flat_at (by rw [hd]; exact ht)]
      simp only [putCells, Array.getElem?_toList, Array.getElem?_mapIdx]
      rw [Array.getElem?_eq_getElem (show t < cur.size by omega)]
      simp only [Option.map_some, size_flatK, hd, Nat.zero_le, Nat.zero_add, true_and, if_pos ht, Nat.sub_zero, id]
    · rw [List.getElem?_eq_none (by simp; omega), List.getElem?_eq_none (by rw [vals_len]; simp [hd]; omega)]
  · rw [hheap]
    simp
  · intro k hk hne
    rw [hheap, Array.getElem?_append_left (by simpa using hk), Array.getElem?_modify, if_neg (fun e => hne (by rw [e]))]

/-- slices.SortFunc(d, compareVals). -/
theorem sortVals {w : World} {lo : Nat} {g n cap : Nat} {l : List V} (hn : n ≤ 1048576) (hl : l.length = n) (h : w.ownsRow lo 77 3 (.slice (some ⟨g, 0, none⟩) n cap) n (vals l)) :
    Calls Tryz.prog 176 #[.slice (some ⟨g, 0, none⟩) n cap, .func (.func 177) #[] #[]] w fun e w' =>
      e = .returned (.tuple #[]) ∧ ∃ s : List V, s.Perm l ∧ Rising s ∧ w'.ownsRow lo 77 3 (.slice (some ⟨g, 0, none⟩) n cap) n (vals s) ∧ w.grownBy w' (some g) := by
  haveI : Inhabited V := ⟨V.zero⟩
  have hsz : l.toArray.size = n := by simpa using hl
  have eg : ∀ args w, (callFunc 177 args).run Tryz.prog w = .ok (.enter 177 args) w := enters_of Tryz.func177 (by kernel_rfl) rfl
  have hcon := AnyQ.slices_SortFunc Tryz.sortV 3 Tryz.isAgg77 Tryz.sizeOf77 V.cs (fun _ => rfl) (fun x v hv => by simp [V.cs] at hv; rcases hv with rfl | rfl | rfl <;> rfl) cmpV swoV 177 #[] g 0 cap l.toArray w eg (cmpLays g 0 l.toArray.size w) (holds_own hl h) (h.lt g rfl).2 (by rw [hsz]; omega)
  rw [hsz] at hcon
  refine hcon.mono ?_
  rintro e w' ⟨rfl, d', m, os, hp, hs, rfl⟩
  have hd : d'.size = n := by rw [hp.1]; exact hsz
  obtain ⟨o1, o2⟩ := own_sorted (m := m) (os := os) hd h
  refine ⟨rfl, d'.toList, ?_, ?_, o1, o2⟩
  · have := hp.2.2
    rw [Array.extract_eq_self_of_le (by omega), Array.extract_eq_self_of_le (by omega)] at this
    exact this
  · intro i j hij hj
    have hj' : j < n := by rw [← hd]; simpa using hj
    have := hs i j (Nat.zero_le _) hij hj'
    rw [ltV, getElem!_toList (by omega), getElem!_toList (by omega)] at this
    exact this

end Go.Proofs.YtkofafefnlommaaGreat

/- The contracts of slices.Compact at Vals, and of impl's Dict. -/
namespace Go.Proofs.YtkofafefnlommaaGreat
open Go.RowKit

theorem run_clear_vals (w : World) (ty : TypeId) (g o n c : Nat) (hn : 0 < n) (hc : ∀ j, j < n * 3 → (w.cell? ⟨g, o + j, none⟩).isSome = true) (hf : ∀ j, j < n * 3 → w.frozen? ⟨g, o + j, none⟩ = false) :
    (Builtin.clear_ #[55] ty #[.slice (some ⟨g, o, none⟩) n c]).run Tryz.prog w = .ok (.tuple #[]) (w.setCells g o (Builtin.zeroCells V.zero.agg.cells n).toList) := by
  have hzl : (Builtin.zeroCells V.zero.agg.cells n).toList.length = n * 3 := by simp [Builtin.zeroCells, V.zero, Value.cells]
  have hst := run_storeCells_cells (P := Tryz.prog) g o (Builtin.zeroCells V.zero.agg.cells n).toList 0 w (by rw [hzl]; simpa using hc) (by rw [hzl]; simpa using hf) (by
    intro v hv
    simp [Builtin.zeroCells] at hv
    obtain ⟨a, _, rfl⟩ := hv
    have h4 : V.zero.agg.cells.size = 3 := rfl
    rw [h4]
    have h5 : a % 3 < 3 := Nat.mod_lt _ (by omega)
    generalize a % 3 = q at h5
    match q, h5 with
    | 0, _ => rfl
    | 1, _ => rfl
    | 2, _ => rfl)
  have hv : ∀ W, (zeroValue 77).run Tryz.prog W = .ok V.zero.agg W := fun W => by
    have hz : Tryz.t77.zero = some V.zero.agg := by kernel_rfl
    simp [zeroValue, hz]
  simp only [Nat.add_zero] at hst
  obtain ⟨m, rfl⟩ : ∃ m, n = m + 1 := ⟨n - 1, by omega⟩
  simp [Builtin.clear_, run_underlying Tryz.elemVals.ht, hv, hst]

theorem row_at {w : World} {lo : Nat} {e : TypeId} {g n cap : Nat} {l : List V} (hl : l.length = n) (h : w.ownsRow lo e 3 (.slice (some ⟨g, 0, none⟩) n cap) n (vals l)) {j : Nat} (hj : j < n) :
    w.cell? ⟨g, j * 3, none⟩ = some (.int .i64 (l.getD j V.zero).ty) ∧ w.cell? ⟨g, j * 3 + 1, none⟩ = some (.int .i64 (l.getD j V.zero).n) ∧ w.cell? ⟨g, j * 3 + 2, none⟩ = some (.string (l.getD j V.zero).s) := by
  have hlt : j < l.length := by omega
  have := cells3 (b := g) (off := 0) (fun i u hu => by
    have := h.cells (g := g) rfl i u hu
    rw [addr_add] at this
    exact this) hlt
  rw [getDe l V.zero hlt]
  simpa using this
theorem row_drewN {w : World} {lo : Nat} {e : TypeId} {size : Nat} {v : Value} {n : Nat} {xs : List Value} (h : w.ownsRow lo e size v n xs) (q : Nat) : (w.drewN q).ownsRow lo e size v n xs := h
theorem below_grown {w w' : World} {row : Option Nat} (h : Below w.heap.size w w') : w.grownBy w' row := ⟨h.os, h.tape, h.output, h.size, fun k hk _ => h.block k hk⟩
/-- The slice while it is compacted: its first c elements are what is left of l's first t; from t - 1 on it is as it was. -/
structure Comp (l : List V) (t : Nat) (A : List V) : Prop where
  len : A.length = l.length
  head : A.take (compK l t).length = compK l t
  tail : ∀ j, t ≤ j + 1 → A.getD j V.zero = l.getD j V.zero
  short : (compK l t).length + 1 ≤ t
theorem comp_start {l : List V} {k : Nat} (hk : 0 < k) (hl : k < l.length) (ha : ∀ i, 0 < i → i < k → (l.getD i V.zero).eqB (l.getD (i - 1) V.zero) = false) (he : (l.getD k V.zero).eqB (l.getD (k - 1) V.zero) = true) :
    Comp l (k + 1) l ∧ (compK l (k + 1)).length = k := by
  have e1 : compK l (k + 1) = l.take k := by
    rw [compK, if_neg, compK_all (by omega) ha]
    rintro (h | h)
    · omega
    · rw [h] at he; cases he
  have e2 : (l.take k).length = k := by simp; omega
  refine ⟨⟨rfl, by rw [e1, e2], fun _ _ => rfl, by rw [e1, e2]; omega⟩, by rw [e1, e2]⟩
theorem comp_same {l A : List V} {t : Nat} (h : Comp l t A) (h0 : 0 < t) (he : (l.getD t V.zero).eqB (l.getD (t - 1) V.zero) = true) : Comp l (t + 1) A ∧ (compK l (t + 1)).length = (compK l t).length := by
  have e1 : compK l (t + 1) = compK l t := by
    rw [compK, if_neg]
    rintro (h | h)
    · omega
    · rw [h] at he; cases he
  refine ⟨⟨h.len, by rw [e1]; exact h.head, fun j hj => h.tail j (by omega), by rw [e1]; have := h.short; omega⟩, by rw [e1]⟩
theorem comp_next {l A : List V} {t : Nat} (h : Comp l t A) (ht : t < l.length) (he : (l.getD t V.zero).eqB (l.getD (t - 1) V.zero) = false) : Comp l (t + 1) (A.set (compK l t).length (l.getD t V.zero)) ∧ (compK l (t + 1)).length = (compK l t).length + 1 := by
  have e1 : compK l (t + 1) = compK l t ++ [l.getD t V.zero] := by
    rw [compK, if_pos (.inr he)]
  have hs := h.short
  have hlen := h.len
  have hc : (compK l t).length < A.length := by omega
  refine ⟨⟨by simp [hlen], ?_, fun j hj => ?_, by rw [e1]; simp; omega⟩, by rw [e1]; simp⟩
  · rw [e1, List.length_append, List.length_singleton, List.take_succ_eq_append_getElem (by simpa using hc), List.take_set_of_le (Nat.le_refl _), h.head]
    simp
  · have h2 := h.tail j (by omega)
    simp only [List.getD_eq_getElem?_getD, List.getElem?_set] at h2 ⊢
    rw [if_neg (by omega)]
    exact h2

set_option maxRecDepth 100000 in
set_option maxHeartbeats 4000000 in
theorem iCompact {w : World} {lo : Nat} {g n cap : Nat} {l : List V} (hn : n ≤ 1048576) (hl : l.length = n) (hcap : n ≤ cap) (hcm : cap ≤ maxLen) (h : w.ownsRow lo 77 3 (.slice (some ⟨g, 0, none⟩) n cap) n (vals l)) :
    Calls Tryz.prog 178 #[.slice (some ⟨g, 0, none⟩) n cap] w fun e w' =>
      e = .returned (.slice (some ⟨g, 0, none⟩) (compK l n).length cap) ∧ w'.ownsRow lo 77 3 (.slice (some ⟨g, 0, none⟩) (compK l n).length cap) (compK l n).length (vals (compK l n)) ∧ w.grownBy w' (some g) := by
  have HL := Lib.hid hl
  have HALL : Hid ((∀ i, 0 < i → i < n → (l.getD i V.zero).eqB (l.getD (i - 1) V.zero) = false) → compK l n = l) := fun h1 => by
    rw [compK_all (by omega) h1, ← hl, List.take_length]
  unfold maxLen at hcm
  by_cases h2 : n < 2
  · have HE := Lib.hid (HALL.out (fun i h0 h1 => by omega))
    rw [HE.out, hl]
    clear hl
    go_enter Tryz.func178, Tryz.ntmps178
    go_wp2
    go_ret
    exact ⟨rfl, h, grownBy_refl _ _⟩
  · generalize hR : compK l n = R at HALL
    have HR := Lib.hid hR
    clear hl hR
    go_enter Tryz.func178, Tryz.ntmps178
    go_wp2
    go_loopw [3] (fun i wr => ∃ k : Nat, 0 < k ∧ k ≤ n ∧ i = .int .i64 k ∧ (∀ i, 0 < i → i < k → (l.getD i V.zero).eqB (l.getD (i - 1) V.zero) = false) ∧ wr.ownsRow lo 77 3 (.slice (some ⟨g, 0, none⟩) n cap) n (vals l) ∧ w.grownBy wr (some g)) (fun i _ => n - (intOf i).toNat)
    case atStart => exact ⟨1, by omega, by omega, rfl, fun i h0 h1 => by omega, h, grownBy_refl _ _⟩
    case round =>
      obtain ⟨k, hk0, hk, rfl, hno, hrow, hgr⟩ := hrel
      have HNO := Lib.hid hno
      clear hno
      by_cases hlt : k < n
      · obtain ⟨K, rfl⟩ : ∃ K, k = K + 1 := ⟨k - 1, by omega⟩
        have HC : Hid (∀ j, j < n → wr.cell? ⟨g, j * 3, none⟩ = some (.int .i64 (l.getD j V.zero).ty) ∧ wr.cell? ⟨g, j * 3 + 1, none⟩ = some (.int .i64 (l.getD j V.zero).n) ∧ wr.cell? ⟨g, j * 3 + 2, none⟩ = some (.string (l.getD j V.zero).s)) := fun j hj => row_at HL.out hrow hj
        obtain ⟨p0, p1, p2⟩ := HC.out (K + 1) hlt
        obtain ⟨q0, q1, q2⟩ := HC.out K (by omega)
        have hq := fun W => run_eql_val (l.getD (K + 1) V.zero) (l.getD K V.zero) W
        have HNK : Hid ((l.getD (K + 1) V.zero).eqB (l.getD K V.zero) = false → ∀ i, 0 < i → i < K + 2 → (l.getD i V.zero).eqB (l.getD (i - 1) V.zero) = false) := fun h1 i h0 hi => by
          by_cases e : i = K + 1
          · subst e; exact h1
          · exact HNO.out i h0 (by omega)
        have HST : Hid ((l.getD (K + 1) V.zero).eqB (l.getD K V.zero) = true → Comp l (K + 2) l ∧ (compK l (K + 2)).length = K + 1) := fun h1 => comp_start (by omega) (by rw [HL.out]; exact hlt) HNO.out h1
        have hKw : ((K : Int) + 1 - 1) = (K : Int) := by omega
        generalize l.getD (K + 1) V.zero = y at p0 p1 p2 hq HNK HST
        generalize l.getD K V.zero = x at q0 q1 q2 hq HNK HST
        obtain ⟨xt, xn, xs⟩ := x
        obtain ⟨yt, yn, ys⟩ := y
        simp only at p0 p1 p2 q0 q1 q2
        have ROW := Lib.hid hrow
        cases he : V.eqB ⟨yt, yn, ys⟩ ⟨xt, xn, xs⟩ with
        | false =>
          have HS := Lib.hid (HNK.out he)
          rw [he] at hq
          clear he HNK HST hrow
          go_wp2
          go_quiet (fail)
          go_wp2
          go_roundw
          case rel => exact ⟨K + 2, by omega, by omega, by go_num, HS.out, row_drewN ROW.out _, hgr.trans (below_grown (below_drewN _ _ _))⟩
          case measure => simp [intOf]; omega
        | true =>
          obtain ⟨hst, hstl⟩ := HST.out he
          have HS := Lib.hid hst
          have HSL := Lib.hid hstl
          rw [he] at hq
          have hck : (cap = K + 1) = False := by simp; omega
          clear he HNK HST hrow hst hstl HC
          go_wp2
          go_quiet (fail)
          go_wp2
          have ROW2 := Lib.hid (row_drewN ROW.out nq)
          have hgr2 : w.grownBy (wr.drewN nq) (some g) := hgr.trans (below_grown (below_drewN _ _ _))
          generalize wr.drewN nq = W5 at ROW2 hgr2 ⊢
          clear ROW hgr p0 p1 p2 q0 q1 q2 hq hKw
          go_loopw [3, 5] (fun a b wr => ∃ (j : Nat) (A : List V), 0 < j ∧ j ≤ n - (K + 1) ∧ a = .int .i64 ((compK l (K + 1 + j)).length : Nat) ∧ b = .int .i64 j ∧ Comp l (K + 1 + j) A ∧ wr.ownsRow lo 77 3 (.slice (some ⟨g, 0, none⟩) n cap) n (vals A) ∧ w.grownBy wr (some g)) (fun _ b _ => n - (intOf b).toNat)
          case atStart => exact ⟨1, l, by omega, by omega, by rw [HSL.out], rfl, HS.out, ROW2.out, hgr2⟩
          case round =>
            obtain ⟨j, A, hj0, hj, rfl, rfl, hcomp, hrow, hgr⟩ := hrel
            have hcl := hcomp.short
            have HAL : Hid (A.length = n) := hcomp.len.trans HL.out
            clear HS HSL ROW2 hgr2
            by_cases hjl : j < n - (K + 1)
            · obtain ⟨J, rfl⟩ : ∃ J, j = J + 1 := ⟨j - 1, by omega⟩
              obtain ⟨p0, p1, p2⟩ := row_at HAL.out hrow (j := K + 1 + (J + 1)) (by omega)
              obtain ⟨q0, q1, q2⟩ := row_at HAL.out hrow (j := K + 1 + J) (by omega)
              rw [hcomp.tail (K + 1 + (J + 1)) (by omega), show (K + 1 + (J + 1)) * 3 = (K + 1) * 3 + (J + 1) * 3 by omega] at p0
              rw [hcomp.tail (K + 1 + (J + 1)) (by omega), show (K + 1 + (J + 1)) * 3 = (K + 1) * 3 + (J + 1) * 3 by omega] at p1
              rw [hcomp.tail (K + 1 + (J + 1)) (by omega), show (K + 1 + (J + 1)) * 3 = (K + 1) * 3 + (J + 1) * 3 by omega] at p2
              rw [hcomp.tail (K + 1 + J) (by omega), show (K + 1 + J) * 3 = (K + 1) * 3 + J * 3 by omega] at q0
              rw [hcomp.tail (K + 1 + J) (by omega), show (K + 1 + J) * 3 = (K + 1) * 3 + J * 3 by omega] at q1
              rw [hcomp.tail (K + 1 + J) (by omega), show (K + 1 + J) * 3 = (K + 1) * 3 + J * 3 by omega] at q2
              have hq := fun W => run_neq_val (l.getD (K + 1 + (J + 1)) V.zero) (l.getD (K + 1 + J) V.zero) W
              have HSAME : Hid ((l.getD (K + 1 + (J + 1)) V.zero).eqB (l.getD (K + 1 + J) V.zero) = true → Comp l (K + 1 + (J + 2)) A ∧ (compK l (K + 1 + (J + 2))).length = (compK l (K + 1 + (J + 1))).length) := fun h1 => comp_same (t := K + 1 + (J + 1)) hcomp (by omega) h1
              have HNEXT : Hid ((l.getD (K + 1 + (J + 1)) V.zero).eqB (l.getD (K + 1 + J) V.zero) = false → Comp l (K + 1 + (J + 2)) (A.set (compK l (K + 1 + (J + 1))).length (l.getD (K + 1 + (J + 1)) V.zero)) ∧ (compK l (K + 1 + (J + 2))).length = (compK l (K + 1 + (J + 1))).length + 1) := fun h1 => comp_next (t := K + 1 + (J + 1)) hcomp (by rw [HL.out]; omega) h1
              generalize l.getD (K + 1 + (J + 1)) V.zero = y at p0 p1 p2 hq HSAME HNEXT
              generalize l.getD (K + 1 + J) V.zero = x at q0 q1 q2 hq HSAME HNEXT
              generalize hcc : (compK l (K + 1 + (J + 1))).length = c at HSAME HNEXT hcl ⊢
              obtain ⟨xt, xn, xs⟩ := x
              obtain ⟨yt, yn, ys⟩ := y
              simp only at p0 p1 p2 q0 q1 q2
              have hJw : ((J : Int) + 1 - 1) = (J : Int) := by omega
              have HCOMP := Lib.hid hcomp
              have ROW := Lib.hid hrow
              clear hcomp hcc
              cases he : V.eqB ⟨yt, yn, ys⟩ ⟨xt, xn, xs⟩ with
              | true =>
                obtain ⟨m1, m2⟩ := HSAME.out he
                have M1 := Lib.hid m1
                have M2 := Lib.hid m2
                rw [he] at hq
                clear he HSAME HNEXT hrow m1 m2
                go_wp2
                go_quiet (fail)
                go_wp2
                go_roundw
                case rel => exact ⟨J + 2, A, by omega, by omega, by rw [M2.out], by go_num, M1.out, row_drewN ROW.out _, hgr.trans (below_grown (below_drewN _ _ _))⟩
                case measure => simp [intOf]; omega
              | false =>
                obtain ⟨m1, m2⟩ := HNEXT.out he
                have M1 := Lib.hid m1
                have M2 := Lib.hid m2
                rw [he] at hq
                clear he HSAME HNEXT hrow m1 m2
                go_wp2
                go_quiet (fail)
                have row2 := row_drewN ROW.out nq
                have hgr2 : w.grownBy (wr.drewN nq) (some g) := hgr.trans (below_grown (below_drewN _ _ _))
                replace p0 : (wr.drewN nq).cell? ⟨g, (K + 1) * 3 + (J + 1) * 3, none⟩ = some (.int .i64 yt) := p0
                replace p1 : (wr.drewN nq).cell? ⟨g, (K + 1) * 3 + (J + 1) * 3 + 1, none⟩ = some (.int .i64 yn) := p1
                replace p2 : (wr.drewN nq).cell? ⟨g, (K + 1) * 3 + (J + 1) * 3 + 2, none⟩ = some (.string ys) := p2
                generalize wr.drewN nq = W6 at row2 hgr2 p0 p1 p2 ⊢
                have R := Lib.hid (stored3 row2 c ⟨yt, yn, ys⟩ (by rw [HAL.out]; omega))
                obtain ⟨x0, s0⟩ := cellAt_some row2 (c * 3) (by omega)
                obtain ⟨x1, s1⟩ := cellAt_some row2 (c * 3 + 1) (by omega)
                obtain ⟨x2, s2⟩ := cellAt_some row2 (c * 3 + 2) (by omega)
                have f0 := row2.frozenAt (c * 3)
                have f1 := row2.frozenAt (c * 3 + 1)
                have f2 := row2.frozenAt (c * 3 + 2)
                have HG2 := Lib.hid hgr2
                clear row2 hgr hgr2 ROW q0 q1 q2 hq
                go_wp2
                go_roundw
                case rel => exact ⟨J + 2, _, by omega, by omega, by rw [M2.out]; go_num, by go_num, M1.out, R.out.1, HG2.out.trans R.out.2⟩
                case measure => simp [intOf]; omega
            · obtain rfl : j = n - (K + 1) := by omega
              rw [show K + 1 + (n - (K + 1)) = n by omega] at hcomp hcl ⊢
              have HTK : Hid ((vals A).take ((compK l n).length * 3) = vals (compK l n)) := by
                show _ = _
                rw [← vals_take, hcomp.head]
              rw [HR.out] at HTK hcl ⊢
              have r0 := hrow
              obtain ⟨ys, r1, r2, r3⟩ := row_cells (Builtin.zeroCells V.zero.agg.cells (n - R.length)).toList (R.length * 3) wr _ r0
              have R1 := row_shorter r1 (m := R.length) (by omega)
              rw [r2, HTK.out] at R1
              have RR := Lib.hid R1
              have R3 := Lib.hid (hgr.trans r3)
              have hcl2 : ∀ ty, (Builtin.clear_ #[55] ty #[.slice (some ⟨g, R.length * 3, none⟩) (n - R.length) (cap - R.length)]).run Tryz.prog wr = .ok (.tuple #[]) (wr.setCells g (R.length * 3) (Builtin.zeroCells V.zero.agg.cells (n - R.length)).toList) := fun ty => run_clear_vals wr ty g (R.length * 3) (n - R.length) (cap - R.length) (by omega) (fun j hj => by
                obtain ⟨x, hx⟩ := cellAt_some r0 (R.length * 3 + j) (by omega)
                rw [hx]
                rfl) (fun j hj => r0.frozenAt _)
              generalize wr.setCells g (R.length * 3) (Builtin.zeroCells V.zero.agg.cells (n - R.length)).toList = wc at RR R3 hcl2
              have hc1 : (cap = R.length) = False := by simp; omega
              have hc2 : (cap < R.length) = False := by simp; omega
              clear r0 r1 r2 r3 R1 hrow hgr hcomp HTK
              generalize hRc : R.length = c at hcl hcl2 RR hc1 hc2 ⊢
              have HRC := Lib.hid hRc
              clear hRc
              go_wp2
              go_ret
              obtain rfl := HRC.out
              exact ⟨rfl, RR.out, R3.out⟩
      · obtain rfl : k = n := by omega
        have HE := Lib.hid (HALL.out HNO.out)
        go_wp2
        go_ret
        rw [HE.out, HL.out]
        exact ⟨rfl, hrow, hgr⟩

end Go.Proofs.YtkofafefnlommaaGreat

/- The contract of impl's Dict. -/
namespace Go.Proofs.YtkofafefnlommaaGreat
open Go.RowKit

theorem append_zero_law {P : Program} {t e : TypeId} {z : Value} {size bytes : Nat} (T : ElemT P t e z size bytes) {w : World} {ops : Array Oper} {rest : List Oper} {o : Oper} {a : Act} {Q : Exit → Act → World → Prop} (hgd : o.guard = none) (s x : Operand)
    (ho : o.op = .call { callee := .builtin .append, args := #[s, x], argTypes := #[t, t] })
    (lo hi : Nat) (v : Value) (n : Nat) (xs : List Value) (hs : a.eval s = v) (hown : Own e size lo hi w v n xs) (y : Option Addr) (c : Nat) (hx : a.eval x = .slice y 0 c)
    (h : wpList P ops Q rest (a.put o.dst v) w) : wpList P ops Q (o :: rest) a w := by
  obtain ⟨i, hi', _⟩ := T.info
  have hrun : (Builtin.append_ #[t, t] o.type #[v, .slice y 0 c]).run P w = .ok v w := by
    rcases hown.row.2 with ⟨rfl, rfl⟩ | ⟨g, cap, cur, rfl, _, _, hnc, _⟩
    · cases y <;> simp [Builtin.append_, run_underlying T.ht, sizeOf, typeInfo, hi', Builtin.lenOf, Builtin.firstCells, loadCells, loadCellsFrom]
    · cases y <;> simp [Builtin.append_, run_underlying T.ht, sizeOf, typeInfo, hi', Builtin.lenOf, Builtin.firstCells, hnc, storeCells, loadCells, loadCellsFrom]
  refine wpList_plain hgd fun K hK => ?_
  unfold Oper.wp
  simp [execOp, ho, resolve, invoke, builtin, hs, hx, hrun, Result.andThen]
  exact hK _ _ h
theorem own_grown_below {w0 w w' : World} {g : Nat} (hb : Below w0.heap.size w0 w) (hg : w.grownBy w' (some g)) (hlo : w0.heap.size ≤ g) : Below w0.heap.size w0 w' :=
  hb.trans ⟨hg.os, hg.tape, hg.output, hg.size, fun k hk => hg.block k (by have := hb.size; omega) (fun e => by simp at e; omega)⟩

set_option maxHeartbeats 2000000 in
theorem iDict : CDict := by
  intro u l w hn hss h
  have hown0 := own_lit (e := 77) (size := 3) w #[] 0 (Nat.zero_le _) rfl
  have hb0 := below_alloc w (.cells #[] 77)
  generalize hl : l.length = n at h hn
  have HL := Lib.hid hl
  obtain ⟨a, cap, rfl, hm, hlx, hor⟩ := h.below hb0
  have HV : Hid ((vals l).length = n * 3) := by show _ = _; rw [vals_len, hl]
  have HFIN : Hid (∀ (v : Value) (w2 : World), Own 77 3 w.heap.size w2.heap.size w2 v n (vals l) → Below w.heap.size w w2 →
      ∃ g cp, v = .slice (some ⟨g, 0, none⟩) n cp ∧ Calls Tryz.prog 176 #[v, .func (.func 177) #[] #[]] w2 fun e w3 => e = .returned (.tuple #[]) ∧ Below w.heap.size w w3 ∧
        Calls Tryz.prog 178 #[v] w3 fun e w4 => ∃ v', e = .returned v' ∧ Own 77 3 w.heap.size w4.heap.size w4 v' (dictL l).length (vals (dictL l)) ∧ Below w.heap.size w w4) := by
    intro v w2 o2 b2
    obtain ⟨g, cp, rfl, g1, g2, row⟩ := o2
    have hcp : n ≤ cp ∧ cp ≤ maxLen := by
      rcases row.2 with ⟨e, _⟩ | ⟨g', cap', cur, e, _, _, h1, h2, _⟩
      · cases e
      · cases e; exact ⟨h1, h2⟩
    refine ⟨g, cp, rfl, (sortVals hn hl row).mono ?_⟩
    rintro e w3 ⟨rfl, s, hp, hr, row3, hg3⟩
    have b3 := own_grown_below b2 hg3 g1
    have hsl : s.length = n := by rw [hp.length_eq]; exact hl
    refine ⟨rfl, b3, (iCompact hn hsl hcp.1 hcp.2 row3).mono ?_⟩
    rintro e w4 ⟨rfl, row4, hg4⟩
    have hcd : compK s n = dictL l := by rw [← hsl]; exact comp_dict hp hr
    rw [hcd] at row4
    rw [hcd]
    exact ⟨_, rfl, ⟨g, cp, rfl, g1, (row4.lt g rfl).2, row4⟩, own_grown_below b3 hg4 g1⟩
  clear hlx h hl hss
  unfold maxLen at hm
  rcases hor with h0 | ⟨b, off, rfl, hc⟩
  · subst h0
    have hvl : vals l = [] := List.length_eq_zero_iff.1 (by rw [HV.out])
    rw [hvl] at HFIN
    go_enter Tryz.func155, Tryz.ntmps155
    go_wp2_with (at_builtin; refine append_zero_law Tryz.elemVals rfl _ _ rfl _ _ _ 0 [] rfl hown0 a cap rfl ?_)
    obtain ⟨g, cp, e, HS⟩ := HFIN.out _ _ hown0 hb0
    have HS := Lib.hid HS
    clear e HFIN
    go_wp2_with fail
    refine HS.out.mono ?_
    rintro e w3 ⟨rfl, b3, hcm⟩
    have HCM := Lib.hid hcm
    clear hcm HS
    go_wp2_with fail
    refine HCM.out.mono ?_
    rintro e w4 ⟨v4, rfl, o4, b4⟩
    have O4 := Lib.hid o4
    clear o4 HCM
    go_wp2
    go_ret
    exact ⟨_, rfl, O4.out, b4⟩
  · have HC := Lib.hid hc
    clear hc
    go_enter Tryz.func155, Tryz.ntmps155
    go_wp2_with (at_builtin; refine append_law Tryz.elemVals rfl _ _ rfl _ _ _ 0 [] rfl hown0 b off n cap (vals l) rfl HV.out HC.out (vals_one l) (by unfold maxLen; omega) (by omega) ?_)
    intro v2 w2 o2 e2
    have b2 := hb0.trans (e2.below hown0)
    obtain ⟨g, cp, rfl, HS⟩ := HFIN.out _ _ o2 b2
    have HS := Lib.hid HS
    clear HFIN o2 e2 hown0
    go_wp2_with fail
    refine HS.out.mono ?_
    rintro e w3 ⟨rfl, b3, hcm⟩
    have HCM := Lib.hid hcm
    clear hcm HS
    go_wp2_with fail
    refine HCM.out.mono ?_
    rintro e w4 ⟨v4, rfl, o4, b4⟩
    have O4 := Lib.hid o4
    clear o4 HCM
    go_wp2
    go_ret
    exact ⟨_, rfl, O4.out, b4⟩

end Go.Proofs.YtkofafefnlommaaGreat
