/- The contracts of impl's compareVals and of slices.SortFunc at Vals. -/
import Derived.Test.YthniakklkepomaaI7
import Derived.Test.YthniakklkepomaaIVals
import Derived.Test.YthniakklkepomaaRowS
import Derived.Test.YthniakklkepomaaShelf7
namespace Go.Proofs.Ythniakklkepomaa
open Go.RowKit Go.Sort

/-- From W to w' nothing but draws and new blocks. -/
def Laid (W w' : World) : Prop := ∃ q os, w' = grow (W.drewN q) os
theorem Laid.alloc2 (W : World) (o p : Obj) : Laid W ((W.alloc o).alloc p) := ⟨0, #[o] ++ #[p], by rw [alloc_eq_grow, alloc_eq_grow, grow_grow]; rfl⟩
theorem Laid.trans {a b c : World} (h : Laid a b) (k : Laid b c) : Laid a c := by
  obtain ⟨q, os, rfl⟩ := h
  obtain ⟨r, os', rfl⟩ := k
  refine ⟨q + r, os ++ os', ?_⟩
  rw [show (grow (a.drewN q) os).drewN r = grow ((a.drewN q).drewN r) os from rfl, World.drewN_drewN, grow_grow]
theorem Laid.below {W w' : World} (h : Laid W w') : Below W.heap.size W w' := by
  obtain ⟨q, os, rfl⟩ := h
  refine ⟨rfl, rfl, rfl, by simp [World.drewN], fun k hk => ?_⟩
  show ((W.drewN q).heap ++ os)[k]? = _
  rw [Array.getElem?_append_left (by exact hk)]
  rfl

theorem lessLaid (a b : V) (w : World) : Calls Try.prog 89 #[a.agg, b.agg] w fun e w' => e = .returned (.bool (lessV a b)) ∧ Laid w w' := by
  obtain ⟨t1, n1, s1⟩ := a
  obtain ⟨t2, n2, s2⟩ := b
  have HE := Lib.hid (show lessV ⟨t1, n1, s1⟩ ⟨t2, n2, s2⟩ = if (t1 != t2) = true then decide (t1 < t2) else if (n1 != n2) = true then decide (n1 < n2) else Op.bytesLess s1.toList s2.toList from rfl)
  cases h1 : (t1 != t2) with
  | true =>
    rw [if_pos h1] at HE
    go_enter Try.func89, Try.ntmps89
    go_wp2
    go_ret
    exact ⟨ret_bool HE.out.symm, Laid.alloc2 _ _ _⟩
  | false =>
    rw [if_neg (by rw [h1]; simp)] at HE
    cases h2 : (n1 != n2) with
    | true =>
      rw [if_pos h2] at HE
      go_enter Try.func89, Try.ntmps89
      go_wp2
      go_ret
      exact ⟨ret_bool HE.out.symm, Laid.alloc2 _ _ _⟩
    | false =>
      rw [if_neg (by rw [h2]; simp)] at HE
      go_enter Try.func89, Try.ntmps89
      go_wp2
      go_ret
      exact ⟨ret_bool HE.out.symm, Laid.alloc2 _ _ _⟩

/-- compareVals. -/
def cmpV (a b : V) : Int := if lessV a b = true then -1 else if lessV b a = true then 1 else 0
theorem compareVals (a b : V) (w : World) : Calls Try.prog 75 #[a.agg, b.agg] w fun e w' => e = .returned (.int .i64 (cmpV a b)) ∧ Laid w w' := by
  have l0 := Laid.alloc2 w (.cells #[.int .i64 a.ty, .int .i64 a.n, .string a.s] 41) (.cells #[.int .i64 b.ty, .int .i64 b.n, .string b.s] 41)
  have h1 := (held_new w a 41).below (below_alloc _ (.cells #[.int .i64 b.ty, .int .i64 b.n, .string b.s] 41))
  have h2 := held_new (w.alloc (.cells #[.int .i64 a.ty, .int .i64 a.n, .string a.s] 41)) b 41
  have HA := Lib.hid (fun W => lessLaid a b W)
  have HB := Lib.hid (fun W => lessLaid b a W)
  have HE : Hid (cmpV a b = if lessV a b = true then -1 else if lessV b a = true then 1 else 0) := rfl
  generalize lessV a b = p at HA HE
  generalize lessV b a = q at HB HE
  rw [World.size_alloc] at h2
  obtain ⟨t1, n1, s1⟩ := a
  obtain ⟨t2, n2, s2⟩ := b
  go_enter Try.func75, Try.ntmps75
  simp only at l0 h1 h2
  go_wp2_with fail
  refine (HA.out _).mono ?_
  rintro e w1 ⟨rfl, l1⟩
  have b1 := l1.below
  replace h1 := h1.below b1
  replace h2 := h2.below b1
  have L1 := l0.trans l1
  obtain ⟨⟨a0, a1, a2⟩, _⟩ := h1
  obtain ⟨⟨c0, c1, c2⟩, _⟩ := h2
  simp only at a0 a1 a2 c0 c1 c2
  clear l0 l1 b1 HA
  cases p with
  | true =>
    go_wp2
    go_ret
    exact ⟨ret_int (by rw [HE.out]; rfl), L1⟩
  | false =>
    go_wp2_with fail
    refine (HB.out _).mono ?_
    rintro e w2 ⟨rfl, l2⟩
    have L2 := L1.trans l2
    clear l2 L1 a0 a1 a2 c0 c1 c2
    cases q with
    | true =>
      go_wp2
      go_ret
      exact ⟨ret_int (by rw [HE.out]; rfl), L2⟩
    | false =>
      go_wp2
      go_ret
      exact ⟨ret_int (by rw [HE.out]; rfl), L2⟩
theorem ltV (x y : V) : ltOf cmpV x y = lessV x y := by
  unfold ltOf cmpV
  cases h : lessV x y with
  | true => rfl
  | false => cases lessV y x <;> rfl
theorem swoV : SWO (ltOf cmpV) where
  irrefl x := by rw [ltV]; exact lessV_irrefl x
  trans x y z h1 h2 := by rw [ltV] at *; exact lessV_trans h1 h2
  ntrans x y z h1 h2 := by rw [ltV] at *; exact lessV_ntrans h1 h2
theorem cmpLays [Inhabited V] (blk off size : Nat) (w : World) : CmpLays Try.prog 75 #[] V.cs 3 cmpV blk off size w :=
  fun _ _ _ _ x y => (compareVals x y _).mono fun _ _ ⟨h1, q, os, h2⟩ => ⟨h1, q, os, h2⟩

theorem getElem!_toList [Inhabited V] {d : Array V} {i : Nat} (h : i < d.size) : d[i]! = d.toList.getD i V.zero := by
  rw [getElem!_pos d i h, getDe d.toList V.zero (by simpa using h)]
  simp
theorem vals_at {l : List V} {t : Nat} (h : t < l.length * 3) : (vals l)[t]? = (V.cs (l.getD (t / 3) V.zero))[t % 3]? := by
  have hk : t / 3 < l.length := by omega
  have := vals_get (l := l) (k := t / 3) (j := t % 3) hk (Nat.mod_lt _ (by omega))
  rw [show t / 3 * 3 + t % 3 = t by omega] at this
  rw [this, getDe l V.zero hk]
theorem cs_at (v : V) {j : Nat} (h : j < 3) : (V.cs v)[j]? = some (V.cs v)[j]! := by
  rw [List.getElem?_eq_getElem (show j < (V.cs v).length from h), getElem!_pos (V.cs v) j h]
  rfl
theorem flat_at [Inhabited V] {d : Array V} {t : Nat} (h : t < d.size * 3) : (vals d.toList)[t]? = some (flatK V.cs 3 d)[t]! := by
  rw [vals_at (by simpa using h), get_flatK V.cs 3 d t h, getElem!_toList (show t / 3 < d.size by omega), cs_at _ (Nat.mod_lt _ (by omega))]
theorem holds_own [Inhabited V] {w : World} {lo : Nat} {e : TypeId} {g n cap : Nat} {l : List V} (hl : l.length = n) (h : w.ownsRow lo e 3 (.slice (some ⟨g, 0, none⟩) n cap) n (vals l)) : HoldsK V.cs 3 w g 0 l.toArray := by
  intro j hj
  have hj' : j < l.length * 3 := by simpa using hj
  rw [Nat.zero_add]
  refine ⟨?_, h.frozenAt j⟩
  have h1 := h.cellAt j (by omega)
  have h2 := flat_at (d := l.toArray) (t := j) (by simpa using hj')
  rw [h1]
  exact h2
theorem own_sorted [Inhabited V] {w : World} {lo : Nat} {e : TypeId} {g n cap m : Nat} {xs : List Value} {d : Array V} {os : Array Obj} (hd : d.size = n) (h : w.ownsRow lo e 3 (.slice (some ⟨g, 0, none⟩) n cap) n xs) :
    (sortWorldK V.cs 3 w g 0 m d os).ownsRow lo e 3 (.slice (some ⟨g, 0, none⟩) n cap) n (vals d.toList) ∧ w.grownBy (sortWorldK V.cs 3 w g 0 m d os) (some g) := by
  obtain ⟨h1, h2⟩ := h
  rcases h2 with ⟨e0, _⟩ | ⟨g', cap', cur, e0, a1, a2, a3, a4, a5, a6⟩
  · cases e0
  cases e0
  have hlt : g < w.heap.size := (Array.getElem?_eq_some_iff.1 a2).1
  have hheap : (sortWorldK V.cs 3 w g 0 m d os).heap = w.heap.modify g (onCells (putCells id 0 (flatK V.cs 3 d))) ++ os := rfl
  refine ⟨⟨by rw [vals_len]; simp [hd], .inr ⟨g, cap, putCells id 0 (flatK V.cs 3 d) cur, rfl, a1, ?_, a3, a4, ?_, ?_⟩⟩, rfl, rfl, rfl, ?_, ?_⟩
  · rw [hheap, Array.getElem?_append_left (by simpa using hlt), Array.getElem?_modify, if_pos rfl, a2]
    rfl
  · simp [putCells, a5]
  · apply List.ext_getElem?
    intro t
    by_cases ht : t < n * 3
    · have hn3 : n * 3 ≤ cap * 3 := Nat.mul_le_mul_right _ a3
      rw [List.getElem?_take_of_lt ht, flat_at (by rw [hd]; exact ht)]
      simp only [putCells, Array.getElem?_toList, Array.getElem?_mapIdx]
      rw [Array.getElem?_eq_getElem (show t < cur.size by omega)]
      simp only [Option.map_some, size_flatK, hd, Nat.zero_le, Nat.zero_add, true_and, if_pos ht, Nat.sub_zero, id]
    · rw [List.getElem?_eq_none (by simp; omega), List.getElem?_eq_none (by rw [vals_len]; simp [hd]; omega)]
  · rw [hheap]
    simp
  · intro k hk hne
    rw [hheap, Array.getElem?_append_left (by simpa using hk), Array.getElem?_modify, if_neg (fun e => hne (by rw [e]))]

/-- slices.SortFunc(d, compareVals). -/
theorem sortVals {w : World} {lo : Nat} {g n cap : Nat} {l : List V} (hn : n ≤ 1048576) (hl : l.length = n) (h : w.ownsRow lo 41 3 (.slice (some ⟨g, 0, none⟩) n cap) n (vals l)) :
    Calls Try.prog 74 #[.slice (some ⟨g, 0, none⟩) n cap, .func (.func 75) #[] #[]] w fun e w' =>
      e = .returned (.tuple #[]) ∧ ∃ s : List V, s.Perm l ∧ Rising s ∧ w'.ownsRow lo 41 3 (.slice (some ⟨g, 0, none⟩) n cap) n (vals s) ∧ w.grownBy w' (some g) := by
  haveI : Inhabited V := ⟨V.zero⟩
  have hsz : l.toArray.size = n := by simpa using hl
  have eg : ∀ args w, (callFunc 75 args).run Try.prog w = .ok (.enter 75 args) w := enters_of Try.func75 (by kernel_rfl) rfl
  have hcon := AnyQ.slices_SortFunc Try.sortV 3 Try.isAgg41 Try.sizeOf41 V.cs (fun _ => rfl) (fun x v hv => by simp [V.cs] at hv; rcases hv with rfl | rfl | rfl <;> rfl) cmpV swoV 75 #[] g 0 cap l.toArray w eg (cmpLays g 0 l.toArray.size w) (holds_own hl h) (h.lt g rfl).2 (by rw [hsz]; omega)
  rw [hsz] at hcon
  refine hcon.mono ?_
  rintro e w' ⟨rfl, d', m, os, hp, hs, rfl⟩
  have hd : d'.size = n := by rw [hp.1]; exact hsz
  obtain ⟨o1, o2⟩ := own_sorted (m := m) (os := os) hd h
  refine ⟨rfl, d'.toList, ?_, ?_, o1, o2⟩
  · have := hp.2.2
    rw [Array.extract_eq_self_of_le (by omega), Array.extract_eq_self_of_le (by omega)] at this
    exact this
  · intro i j hij hj
    have hj' : j < n := by rw [← hd]; simpa using hj
    have := hs i j (Nat.zero_le _) hij hj'
    rw [ltV, getElem!_toList (by omega), getElem!_toList (by omega)] at this
    exact this

end Go.Proofs.Ythniakklkepomaa
