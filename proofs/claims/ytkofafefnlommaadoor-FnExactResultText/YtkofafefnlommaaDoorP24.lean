/- Texts of this claim, one behind the other: Q12. -/
import Derived.Test.YtkofafefnlommaaDoorP22
import Derived.Test.YtkofafefnlommaaDoorP3
import Derived.Test.YtkofafefnlommaaDoorP15
import Derived.Test.YtkofafefnlommaaDoorP17

/- The laws' own helpers over Queries: szQuery, toQuery, eqQuery, markQuery (written by mk_Q12.py). -/
namespace Go.Proofs.YtkofafefnlommaaDoor
open Go.RowKit

theorem szIntS (a : Option Addr) (len cap : Nat) (left : Int) (w : World) (hl : len ≤ maxLen) (h0 : 0 ≤ left) (h1 : left ≤ 1048576) :
    Calls Tryd.prog 38 #[.slice a len cap, .int .i64 left] w fun e w' => ∃ r : Int, e = .returned (.int .i64 r) ∧ (r < 0 ∨ (0 ≤ r ∧ (len : Int) ≤ left - r)) ∧ Below w.heap.size w w' := by
  unfold maxLen at hl
  by_cases hb : left - (len : Int) < 0
  · go_enter Tryd.func38, Tryd.ntmps38
    go_wp2
    go_ret
    exact ⟨_, rfl, .inl (by omega), Below.refl _ _⟩
  · go_enter Tryd.func38, Tryd.ntmps38
    go_wp2
    go_ret
    exact ⟨_, rfl, .inr ⟨by omega, by omega⟩, Below.refl _ _⟩

set_option maxHeartbeats 1000000 in
theorem szQuery {Q : Nat → Prop} (qk qc : Int) (t : T) (u : Value) (a : Option Addr) (len cap : Nat) (left : Int) (w : World) (hl : len ≤ maxLen) (hs : t.Small) (h : RdT Q w t u) (h0 : 0 ≤ left) (h1 : left ≤ 1048576) :
    Calls Tryd.prog 11 #[.agg #[.int .i64 qk, .int .i64 t.kind, .int .i64 t.col, .int .i64 t.op, .int .i64 t.v.ty, .int .i64 t.v.n, .string t.v.s, u, .int .i64 qc, .slice a len cap], .int .i64 left] w fun e w' => ∃ r : Int, e = .returned (.int .i64 r) ∧ (r < 0 ∨ (0 ≤ r ∧ (t.bulk : Int) + len ≤ left - r + 1)) ∧ Below w.heap.size w w' := by
  have B0 := below_alloc w (.cells #[.int .i64 qk, .int .i64 t.kind, .int .i64 t.col, .int .i64 t.op, .int .i64 t.v.ty, .int .i64 t.v.n, .string t.v.s, u, .int .i64 qc, .slice a len cap] 38)
  have C0 := blk_new w [.int .i64 qk, .int .i64 t.kind, .int .i64 t.col, .int .i64 t.op, .int .i64 t.v.ty, .int .i64 t.v.n, .string t.v.s, u, .int .i64 qc, .slice a len cap] 38
  have HS := Lib.hid (fun W (hb : Below w.heap.size w W) => szPred t u left W hs (h.below hb) h0 h1)
  have HI := Lib.hid (fun (z : Int) W (h0 : 0 ≤ z) (h1 : z ≤ 1048576) => szIntS a len cap z W hl h0 h1)
  have HP := Lib.hid t.bulk_pos
  clear h hs hl
  generalize hw0 : w.alloc (.cells #[.int .i64 qk, .int .i64 t.kind, .int .i64 t.col, .int .i64 t.op, .int .i64 t.v.ty, .int .i64 t.v.n, .string t.v.s, u, .int .i64 qc, .slice a len cap] 38) = w0 at B0 C0
  have HW0 := Lib.hid hw0
  obtain ⟨p1, -⟩ := C0 1 _ rfl
  obtain ⟨p2, -⟩ := C0 2 _ rfl
  obtain ⟨p3, -⟩ := C0 3 _ rfl
  obtain ⟨p4, -⟩ := C0 4 _ rfl
  obtain ⟨p5, -⟩ := C0 5 _ rfl
  obtain ⟨p6, -⟩ := C0 6 _ rfl
  obtain ⟨p7, -⟩ := C0 7 _ rfl
  clear hw0
  go_enter Tryd.func11, Tryd.ntmps11
  go_wp2_with fail
  rw [HW0.out]
  refine (HS.out _ B0).mono ?_
  rintro e w1 ⟨r, rfl, hr, b1⟩
  have B1 := below_then B0 b1 B0.size
  obtain ⟨p9, -⟩ := C0.below b1 9 _ rfl
  clear b1 HS C0 B0 p1 p2 p3 p4 p5 p6 p7 HW0
  by_cases hneg : r < 0
  · clear p9 hr
    go_wp2
    go_ret
    exact ⟨_, rfl, .inl (by omega), B1⟩
  · have HR := Lib.hid (hr.resolve_left hneg)
    have hr1 : r ≤ 1048576 := by
      have := HR.out
      have := HP.out
      omega
    clear hr
    go_wp2_with fail
    refine (HI.out r _ (by omega) hr1).mono ?_
    rintro e w2 ⟨q, rfl, hq, b2⟩
    have B2 := below_then B1 b2 B1.size
    clear b2 HI p9
    by_cases hneg2 : q < 0
    · go_wp2
      go_ret
      exact ⟨_, rfl, .inl (by omega), B2⟩
    · have hq2 := hq.resolve_left hneg2
      clear hq
      go_wp2
      go_ret
      exact ⟨_, rfl, .inr ⟨by omega, by have := HR.out; omega⟩, B2⟩

/-- A Query's memory, one's own: the predicate's blocks below m, the list's from m on. -/
def OwnQ (lo hi : Nat) (w : World) (t : T) (out : List Int) (u o : Value) : Prop := ∃ m, lo ≤ m ∧ m ≤ hi ∧ OwnT lo m w t u ∧ Own 3 1 m hi w o out.length (ints .i64 out)
theorem OwnQ.below {lo hi B : Nat} {w w' : World} {t : T} {out : List Int} {u o : Value} (h : OwnQ lo hi w t out u o) (hb : Below B w w') (hB : hi ≤ B) : OwnQ lo hi w' t out u o := by
  obtain ⟨m, h1, h2, h3, h4⟩ := h
  exact ⟨m, h1, h2, h3.below hb (by omega), h4.below hb hB⟩
theorem OwnQ.within {lo hi lo' hi' : Nat} {w w' : World} {t : T} {out : List Int} {u o : Value} (h : OwnQ lo hi w t out u o) (hw : Within lo' hi' w w') (hr : hi ≤ lo' ∨ hi' ≤ lo) (hs : hi ≤ w.heap.size) : OwnQ lo hi w' t out u o := by
  obtain ⟨m, h1, h2, h3, h4⟩ := h
  exact ⟨m, h1, h2, h3.within (by omega) hw (by omega), h4.within hw (by omega)⟩
theorem OwnQ.rd {lo hi : Nat} {w : World} {t : T} {out : List Int} {u o : Value} (h : OwnQ lo hi w t out u o) (hs : hi ≤ w.heap.size) : RdT (PQ lo w) w t u := by
  obtain ⟨m, h1, h2, h3, h4⟩ := h
  exact h3.rd (by omega)
theorem OwnQ.at {lo hi : Nat} {w : World} {t : T} {out : List Int} {u o : Value} (h : OwnQ lo hi w t out u o) : At 1 w o out.length (ints .i64 out) := by
  obtain ⟨m, h1, h2, h3, h4⟩ := h
  exact h4.at
theorem OwnQ.sl {lo hi : Nat} {w : World} {t : T} {out : List Int} {u o : Value} (h : OwnQ lo hi w t out u o) : ∃ a1 c1 g c2, u = .slice a1 t.l.length c1 ∧ o = .slice (some ⟨g, 0, none⟩) out.length c2 := by
  obtain ⟨m, h1, h2, h3, g, c2, rfl, _⟩ := h
  obtain ⟨a1, c1, rfl⟩ := h3.sl
  exact ⟨a1, c1, g, c2, rfl, rfl⟩

set_option maxHeartbeats 2000000 in
theorem toQuery {Q : Nat → Prop} (qk qc : Int) (t : T) (out : List Int) (u : Value) (a : Option Addr) (len cap : Nat) (w : World) (hb : t.bulk ≤ 1073741824) (hln : len ≤ 1073741824) (hr : RdT Q w t u) (ho : Arg .i64 w a len out) :
    Calls Tryd.prog 14 #[.agg #[.int .i64 qk, .int .i64 t.kind, .int .i64 t.col, .int .i64 t.op, .int .i64 t.v.ty, .int .i64 t.v.n, .string t.v.s, u, .int .i64 qc, .slice a len cap]] w fun e w' => ∃ u' o', e = .returned (.agg #[.int .i64 qk, .int .i64 t.kind, .int .i64 t.col, .int .i64 t.op, .int .i64 t.v.ty, .int .i64 t.v.n, .string t.v.s, u', .int .i64 qc, o']) ∧ OwnQ w.heap.size w'.heap.size w' t out u' o' ∧ Below w.heap.size w w' := by
  have HS := Lib.hid (fun W (hW : Below w.heap.size w W) => toPredO t _ u W hb (hr.below hW))
  have HI := Lib.hid (fun W (hW : Below w.heap.size w W) => toIntS a len cap out W hln (ho.below hW))
  have HL := Lib.hid ho.1
  have HSL := Lib.hid (fun (lo hi : Nat) W u' (hr : OwnT lo hi W t u') => hr.sl)
  clear hr ho hb hln
  generalize t.l.length = n1 at HSL
  generalize ht : t = t0 at HS HSL ⊢
  have HTT := Lib.hid ht
  clear ht
  obtain ⟨xk, xc, xo, ⟨xt, xn, xs⟩, xl⟩ := t
  have HA : Hid (∀ u', t0.agg u' = .agg #[.int .i64 xk, .int .i64 xc, .int .i64 xo, .int .i64 xt, .int .i64 xn, .string xs, u']) := fun u' => by
    rw [← HTT.out]
    rfl
  have HA2 : Hid (∀ u' o', (.agg #[.int .i64 qk, .int .i64 t0.kind, .int .i64 t0.col, .int .i64 t0.op, .int .i64 t0.v.ty, .int .i64 t0.v.n, .string t0.v.s, u', .int .i64 qc, o'] : Value) = .agg #[.int .i64 qk, .int .i64 xk, .int .i64 xc, .int .i64 xo, .int .i64 xt, .int .i64 xn, .string xs, u', .int .i64 qc, o']) := fun u' o' => by
    rw [← HTT.out]
    rfl
  rw [HA2.out]
  simp only [HA.out] at HS
  clear HTT
  have B0 := below_alloc3 w (.cells #[.int .i64 qk, .int .i64 xk, .int .i64 xc, .int .i64 xo, .int .i64 xt, .int .i64 xn, .string xs, u, .int .i64 qc, .slice a len cap] 38) (.cells #[.int .i64 0, .int .i64 0, .int .i64 0, .int .i64 0, .int .i64 0, .int .i64 0, .string ⟨#[]⟩, .slice none 0 0, .int .i64 0, .slice none 0 0] 46) (.cells #[.int .i64 qk, .int .i64 0, .int .i64 0, .int .i64 0, .int .i64 0, .int .i64 0, .string ⟨#[]⟩, .slice none 0 0, .int .i64 0, .slice none 0 0] 46)
  have C0 := ((blk_new w [.int .i64 qk, .int .i64 xk, .int .i64 xc, .int .i64 xo, .int .i64 xt, .int .i64 xn, .string xs, u, .int .i64 qc, .slice a len cap] 38).below (below_alloc _ (.cells #[.int .i64 0, .int .i64 0, .int .i64 0, .int .i64 0, .int .i64 0, .int .i64 0, .string ⟨#[]⟩, .slice none 0 0, .int .i64 0, .slice none 0 0] 46))).below (below_alloc _ (.cells #[.int .i64 qk, .int .i64 0, .int .i64 0, .int .i64 0, .int .i64 0, .int .i64 0, .string ⟨#[]⟩, .slice none 0 0, .int .i64 0, .slice none 0 0] 46))
  have C1 := (blk_new (w.alloc (.cells #[.int .i64 qk, .int .i64 xk, .int .i64 xc, .int .i64 xo, .int .i64 xt, .int .i64 xn, .string xs, u, .int .i64 qc, .slice a len cap] 38)) [.int .i64 0, .int .i64 0, .int .i64 0, .int .i64 0, .int .i64 0, .int .i64 0, .string ⟨#[]⟩, .slice none 0 0, .int .i64 0, .slice none 0 0] 46).below (below_alloc _ (.cells #[.int .i64 qk, .int .i64 0, .int .i64 0, .int .i64 0, .int .i64 0, .int .i64 0, .string ⟨#[]⟩, .slice none 0 0, .int .i64 0, .slice none 0 0] 46))
  have C2 := blk_new ((w.alloc (.cells #[.int .i64 qk, .int .i64 xk, .int .i64 xc, .int .i64 xo, .int .i64 xt, .int .i64 xn, .string xs, u, .int .i64 qc, .slice a len cap] 38)).alloc (.cells #[.int .i64 0, .int .i64 0, .int .i64 0, .int .i64 0, .int .i64 0, .int .i64 0, .string ⟨#[]⟩, .slice none 0 0, .int .i64 0, .slice none 0 0] 46)) [.int .i64 qk, .int .i64 0, .int .i64 0, .int .i64 0, .int .i64 0, .int .i64 0, .string ⟨#[]⟩, .slice none 0 0, .int .i64 0, .slice none 0 0] 46
  rw [World.size_alloc] at C1
  rw [World.size_alloc, World.size_alloc] at C2
  have HSZ : Hid ((((w.alloc (.cells #[.int .i64 qk, .int .i64 xk, .int .i64 xc, .int .i64 xo, .int .i64 xt, .int .i64 xn, .string xs, u, .int .i64 qc, .slice a len cap] 38)).alloc (.cells #[.int .i64 0, .int .i64 0, .int .i64 0, .int .i64 0, .int .i64 0, .int .i64 0, .string ⟨#[]⟩, .slice none 0 0, .int .i64 0, .slice none 0 0] 46)).alloc (.cells #[.int .i64 qk, .int .i64 0, .int .i64 0, .int .i64 0, .int .i64 0, .int .i64 0, .string ⟨#[]⟩, .slice none 0 0, .int .i64 0, .slice none 0 0] 46)).heap.size = w.heap.size + 3) := by
    show _ = _
    rw [World.size_alloc, World.size_alloc, World.size_alloc]
  generalize hw0 : ((w.alloc (.cells #[.int .i64 qk, .int .i64 xk, .int .i64 xc, .int .i64 xo, .int .i64 xt, .int .i64 xn, .string xs, u, .int .i64 qc, .slice a len cap] 38)).alloc (.cells #[.int .i64 0, .int .i64 0, .int .i64 0, .int .i64 0, .int .i64 0, .int .i64 0, .string ⟨#[]⟩, .slice none 0 0, .int .i64 0, .slice none 0 0] 46)).alloc (.cells #[.int .i64 qk, .int .i64 0, .int .i64 0, .int .i64 0, .int .i64 0, .int .i64 0, .string ⟨#[]⟩, .slice none 0 0, .int .i64 0, .slice none 0 0] 46) = w0 at B0 C0 C1 C2 HSZ
  have HW0 := Lib.hid hw0
  clear hw0
  have p1 := (C0 1 _ rfl).1
  have p2 := (C0 2 _ rfl).1
  have p3 := (C0 3 _ rfl).1
  have p4 := (C0 4 _ rfl).1
  have p5 := (C0 5 _ rfl).1
  have p6 := (C0 6 _ rfl).1
  have p7 := (C0 7 _ rfl).1
  go_enter Tryd.func14, Tryd.ntmps14
  go_wp2_with fail
  rw [HW0.out]
  refine (HS.out _ B0).mono ?_
  rintro e w1 ⟨u1, rfl, o1, b1⟩
  obtain ⟨a1, c1, hu1⟩ := HSL.out _ _ _ _ o1
  subst hu1
  clear p1 p2 p3 p4 p5 p6 p7
  have B1 := below_then B0 b1 B0.size
  have hs1 := b1.size
  rw [HSZ.out] at hs1 o1
  replace C0 := C0.below b1
  replace C1 := C1.below b1
  replace C2 := C2.below b1
  have D2 := ((((((((C2.set 1 (.int .i64 xk)).set 2 (.int .i64 xc)).set 3 (.int .i64 xo)).set 4 (.int .i64 xt)).set 5 (.int .i64 xn)).set 6 (.string xs)).set 7 (.slice a1 n1 c1)).set 8 (.int .i64 qc))
  have D1 := ((((((((C1.other (p := ⟨w.heap.size + 1 + 1, 1, none⟩) (by simp) (.int .i64 xk)).other (p := ⟨w.heap.size + 1 + 1, 2, none⟩) (by simp) (.int .i64 xc)).other (p := ⟨w.heap.size + 1 + 1, 3, none⟩) (by simp) (.int .i64 xo)).other (p := ⟨w.heap.size + 1 + 1, 4, none⟩) (by simp) (.int .i64 xt)).other (p := ⟨w.heap.size + 1 + 1, 5, none⟩) (by simp) (.int .i64 xn)).other (p := ⟨w.heap.size + 1 + 1, 6, none⟩) (by simp) (.string xs)).other (p := ⟨w.heap.size + 1 + 1, 7, none⟩) (by simp) (.slice a1 n1 c1)).other (p := ⟨w.heap.size + 1 + 1, 8, none⟩) (by simp) (.int .i64 qc))
  have B2 := ((((((((B1.setCell (p := ⟨w.heap.size + 1 + 1, 1, none⟩) (by simp; omega) (.int .i64 xk)).setCell (p := ⟨w.heap.size + 1 + 1, 2, none⟩) (by simp; omega) (.int .i64 xc)).setCell (p := ⟨w.heap.size + 1 + 1, 3, none⟩) (by simp; omega) (.int .i64 xo)).setCell (p := ⟨w.heap.size + 1 + 1, 4, none⟩) (by simp; omega) (.int .i64 xt)).setCell (p := ⟨w.heap.size + 1 + 1, 5, none⟩) (by simp; omega) (.int .i64 xn)).setCell (p := ⟨w.heap.size + 1 + 1, 6, none⟩) (by simp; omega) (.string xs)).setCell (p := ⟨w.heap.size + 1 + 1, 7, none⟩) (by simp; omega) (.slice a1 n1 c1)).setCell (p := ⟨w.heap.size + 1 + 1, 8, none⟩) (by simp; omega) (.int .i64 qc))
  have O2 := ((((((((o1.setLow (p := ⟨w.heap.size + 1 + 1, 1, none⟩) (by simp) (.int .i64 xk)).setLow (p := ⟨w.heap.size + 1 + 1, 2, none⟩) (by simp) (.int .i64 xc)).setLow (p := ⟨w.heap.size + 1 + 1, 3, none⟩) (by simp) (.int .i64 xo)).setLow (p := ⟨w.heap.size + 1 + 1, 4, none⟩) (by simp) (.int .i64 xt)).setLow (p := ⟨w.heap.size + 1 + 1, 5, none⟩) (by simp) (.int .i64 xn)).setLow (p := ⟨w.heap.size + 1 + 1, 6, none⟩) (by simp) (.string xs)).setLow (p := ⟨w.heap.size + 1 + 1, 7, none⟩) (by simp) (.slice a1 n1 c1)).setLow (p := ⟨w.heap.size + 1 + 1, 8, none⟩) (by simp) (.int .i64 qc))
  have c8 := (C0 8 _ rfl).1
  have c9 := (C0 9 _ rfl).1
  have e1 := (C2 1 _ rfl).1
  have f1 := (C2 1 _ rfl).2
  have e2 := (C2 2 _ rfl).1
  have f2 := (C2 2 _ rfl).2
  have e3 := (C2 3 _ rfl).1
  have f3 := (C2 3 _ rfl).2
  have e4 := (C2 4 _ rfl).1
  have f4 := (C2 4 _ rfl).2
  have e5 := (C2 5 _ rfl).1
  have f5 := (C2 5 _ rfl).2
  have e6 := (C2 6 _ rfl).1
  have f6 := (C2 6 _ rfl).2
  have e7 := (C2 7 _ rfl).1
  have f7 := (C2 7 _ rfl).2
  have e8 := (C2 8 _ rfl).1
  have f8 := (C2 8 _ rfl).2
  have hs2 : ((((((((w1.setCell ⟨w.heap.size + 1 + 1, 1, none⟩ (.int .i64 xk)).setCell ⟨w.heap.size + 1 + 1, 2, none⟩ (.int .i64 xc)).setCell ⟨w.heap.size + 1 + 1, 3, none⟩ (.int .i64 xo)).setCell ⟨w.heap.size + 1 + 1, 4, none⟩ (.int .i64 xt)).setCell ⟨w.heap.size + 1 + 1, 5, none⟩ (.int .i64 xn)).setCell ⟨w.heap.size + 1 + 1, 6, none⟩ (.string xs)).setCell ⟨w.heap.size + 1 + 1, 7, none⟩ (.slice a1 n1 c1)).setCell ⟨w.heap.size + 1 + 1, 8, none⟩ (.int .i64 qc)).heap.size = w1.heap.size := by simp [World.setCell]
  rw [← hs2] at O2
  have HG : Hid (w.heap.size + 3 ≤ ((((((((w1.setCell ⟨w.heap.size + 1 + 1, 1, none⟩ (.int .i64 xk)).setCell ⟨w.heap.size + 1 + 1, 2, none⟩ (.int .i64 xc)).setCell ⟨w.heap.size + 1 + 1, 3, none⟩ (.int .i64 xo)).setCell ⟨w.heap.size + 1 + 1, 4, none⟩ (.int .i64 xt)).setCell ⟨w.heap.size + 1 + 1, 5, none⟩ (.int .i64 xn)).setCell ⟨w.heap.size + 1 + 1, 6, none⟩ (.string xs)).setCell ⟨w.heap.size + 1 + 1, 7, none⟩ (.slice a1 n1 c1)).setCell ⟨w.heap.size + 1 + 1, 8, none⟩ (.int .i64 qc)).heap.size) := by
    show _ ≤ _
    rw [hs2]
    exact hs1
  generalize hw2 : ((((((((w1.setCell ⟨w.heap.size + 1 + 1, 1, none⟩ (.int .i64 xk)).setCell ⟨w.heap.size + 1 + 1, 2, none⟩ (.int .i64 xc)).setCell ⟨w.heap.size + 1 + 1, 3, none⟩ (.int .i64 xo)).setCell ⟨w.heap.size + 1 + 1, 4, none⟩ (.int .i64 xt)).setCell ⟨w.heap.size + 1 + 1, 5, none⟩ (.int .i64 xn)).setCell ⟨w.heap.size + 1 + 1, 6, none⟩ (.string xs)).setCell ⟨w.heap.size + 1 + 1, 7, none⟩ (.slice a1 n1 c1)).setCell ⟨w.heap.size + 1 + 1, 8, none⟩ (.int .i64 qc)) = w2 at D1 D2 B2 O2 HG
  have HW2 := Lib.hid hw2
  clear hw2 b1 HS HSL C0 C1 C2 B0 B1 o1 hs2 hs1
  go_wp2_with fail
  rw [HW2.out]
  refine (HI.out _ B2).mono ?_
  rintro e w3 ⟨v, rfl, o3, b3⟩
  obtain ⟨g, cp, hv⟩ : ∃ g cp, v = .slice (some ⟨g, 0, none⟩) len cp := by
    obtain ⟨g, cp, e, _⟩ := o3
    exact ⟨g, cp, e⟩
  subst hv
  have B3 := below_then B2 b3 B2.size
  replace D1 := D1.below b3
  replace D2 := D2.below b3
  have HO2 := Lib.hid (O2.below b3 (Nat.le_refl _))
  have HO3 := Lib.hid o3
  have HS3 := Lib.hid b3.size
  simp only [List.set_cons_succ, List.set_cons_zero] at D2
  obtain ⟨d0, g0⟩ := D2 0 _ rfl
  obtain ⟨d1, g1⟩ := D2 1 _ rfl
  obtain ⟨d2, g2⟩ := D2 2 _ rfl
  obtain ⟨d3, g3⟩ := D2 3 _ rfl
  obtain ⟨d4, g4⟩ := D2 4 _ rfl
  obtain ⟨d5, g5⟩ := D2 5 _ rfl
  obtain ⟨d6, g6⟩ := D2 6 _ rfl
  obtain ⟨d7, g7⟩ := D2 7 _ rfl
  obtain ⟨d8, g8⟩ := D2 8 _ rfl
  obtain ⟨d9, g9⟩ := D2 9 _ rfl
  obtain ⟨mm0, nn0⟩ := D1 0 _ rfl
  obtain ⟨mm1, nn1⟩ := D1 1 _ rfl
  obtain ⟨mm2, nn2⟩ := D1 2 _ rfl
  obtain ⟨mm3, nn3⟩ := D1 3 _ rfl
  obtain ⟨mm4, nn4⟩ := D1 4 _ rfl
  obtain ⟨mm5, nn5⟩ := D1 5 _ rfl
  obtain ⟨mm6, nn6⟩ := D1 6 _ rfl
  obtain ⟨mm7, nn7⟩ := D1 7 _ rfl
  obtain ⟨mm8, nn8⟩ := D1 8 _ rfl
  obtain ⟨mm9, nn9⟩ := D1 9 _ rfl
  clear D1 D2 b3 B2 O2 o3 HI c8 c9 e1 e2 e3 e4 e5 e6 e7 e8 f1 f2 f3 f4 f5 f6 f7 f8 HW2 HW0 HSZ
  go_wp2
  refine bodyPost_ret (v := .agg #[.int .i64 qk, .int .i64 xk, .int .i64 xc, .int .i64 xo, .int .i64 xt, .int .i64 xn, .string xs, .slice a1 n1 c1, .int .i64 qc, .slice (some ⟨g, 0, none⟩) len cp]) (by simp [results, Tryd.results14, go_sem, *]) rfl ⟨_, _, by rw [HA2.out], ⟨w2.heap.size, by have := HG.out; omega, by simpa using HS3.out, ?_, ?_⟩, ?_⟩
  · exact OwnT.wide ((((((((((((HO2.out.setLow (by simp) _).setLow (by simp) _).setLow (by simp) _).setLow (by simp) _).setLow (by simp) _).setLow (by simp) _).setLow (by simp) _).setLow (by simp) _).setLow (by simp) _).setLow (by simp) _).setLow (by simp) _)) (by omega) (Nat.le_refl _)
  · have hG := HG.out
    rw [HL.out]
    exact Own.wide ((((((((((((HO3.out.setBelow (by simp; omega) _).setBelow (by simp; omega) _).setBelow (by simp; omega) _).setBelow (by simp; omega) _).setBelow (by simp; omega) _).setBelow (by simp; omega) _).setBelow (by simp; omega) _).setBelow (by simp; omega) _).setBelow (by simp; omega) _).setBelow (by simp; omega) _).setBelow (by simp; omega) _)) (by simp)
  · exact (((((((((((B3.setCell (by simp; omega) _).setCell (by simp) _).setCell (by simp) _).setCell (by simp) _).setCell (by simp) _).setCell (by simp) _).setCell (by simp) _).setCell (by simp) _).setCell (by simp) _).setCell (by simp) _).setCell (by simp) _)

set_option maxHeartbeats 1000000 in
theorem eqQuery {Q1 Q2 : Nat → Prop} (qk qc : Int) (t : T) (out : List Int) (u1 o1 u2 o2 : Value) (w : World) (h1 : RdT Q1 w t u1) (h2 : RdT Q2 w t u2) (k1 : At 1 w o1 out.length (ints .i64 out)) (k2 : At 1 w o2 out.length (ints .i64 out)) :
    Calls Tryd.prog 17 #[.agg #[.int .i64 qk, .int .i64 t.kind, .int .i64 t.col, .int .i64 t.op, .int .i64 t.v.ty, .int .i64 t.v.n, .string t.v.s, u1, .int .i64 qc, o1], .agg #[.int .i64 qk, .int .i64 t.kind, .int .i64 t.col, .int .i64 t.op, .int .i64 t.v.ty, .int .i64 t.v.n, .string t.v.s, u2, .int .i64 qc, o2]] w fun e w' => e = .returned (.bool true) ∧ Below w.heap.size w w' := by
  have HS := Lib.hid (fun W (hW : Below w.heap.size w W) => eqPred t _ _ u1 u2 W (h1.below hW) (h2.below hW))
  have HI := Lib.hid (fun W (hW : Below w.heap.size w W) => eqIntS o1 o2 _ out W rfl (k1.below hW) (k2.below hW))
  have B0 := below_alloc2 w (.cells #[.int .i64 qk, .int .i64 t.kind, .int .i64 t.col, .int .i64 t.op, .int .i64 t.v.ty, .int .i64 t.v.n, .string t.v.s, u1, .int .i64 qc, o1] 46) (.cells #[.int .i64 qk, .int .i64 t.kind, .int .i64 t.col, .int .i64 t.op, .int .i64 t.v.ty, .int .i64 t.v.n, .string t.v.s, u2, .int .i64 qc, o2] 46)
  have C0 := (blk_new w [.int .i64 qk, .int .i64 t.kind, .int .i64 t.col, .int .i64 t.op, .int .i64 t.v.ty, .int .i64 t.v.n, .string t.v.s, u1, .int .i64 qc, o1] 46).below (below_alloc _ (.cells #[.int .i64 qk, .int .i64 t.kind, .int .i64 t.col, .int .i64 t.op, .int .i64 t.v.ty, .int .i64 t.v.n, .string t.v.s, u2, .int .i64 qc, o2] 46))
  have C1 := blk_new (w.alloc (.cells #[.int .i64 qk, .int .i64 t.kind, .int .i64 t.col, .int .i64 t.op, .int .i64 t.v.ty, .int .i64 t.v.n, .string t.v.s, u1, .int .i64 qc, o1] 46)) [.int .i64 qk, .int .i64 t.kind, .int .i64 t.col, .int .i64 t.op, .int .i64 t.v.ty, .int .i64 t.v.n, .string t.v.s, u2, .int .i64 qc, o2] 46
  rw [World.size_alloc] at C1
  obtain ⟨a1, x1, hu1, _⟩ := RdT_def.1 h1
  obtain ⟨a2, x2, hu2, _⟩ := RdT_def.1 h2
  generalize t.l.length = n1 at hu1 hu2
  obtain ⟨y1, z1, e1, hk1, _⟩ := k1
  obtain ⟨y2, z2, e2, hk2, _⟩ := k2
  subst hu1 hu2 hk1 hk2
  generalize out.length = n2 at *
  have hqk : (qk != qk) = false := by simp
  have hqc : (qc != qc) = false := by simp
  clear h1 h2
  go_enter Tryd.func17, Tryd.ntmps17
  go_wp2_with fail
  refine (HS.out _ B0).mono ?_
  rintro e w1 ⟨rfl, b1⟩
  have B1 := below_then B0 b1 B0.size
  have c8 := (C0.below b1 8 _ rfl).1
  have d8 := (C1.below b1 8 _ rfl).1
  have c9 := (C0.below b1 9 _ rfl).1
  have d9 := (C1.below b1 9 _ rfl).1
  clear b1 HS C0 C1 B0
  go_wp2_with fail
  refine (HI.out _ B1).mono ?_
  rintro e w2 ⟨rfl, b2⟩
  have B2 := below_then B1 b2 B1.size
  clear b2 HI c8 d8 c9 d9
  go_wp2
  go_ret
  exact ⟨rfl, B2⟩

theorem markPred (t : T) (lo hi s : Nat) (w : World) (u : Value) (h : OwnT lo hi w t u) (hs : hi ≤ w.heap.size) (h0 : 0 < s) (hm : s + T.mls t.l ≤ 1073741824) :
    Calls Tryd.prog 48 #[t.agg u, .int .i64 s] w fun e w' => e = .returned (.int .i64 (s + T.mls t.l : Nat)) ∧ OwnT lo hi w' (.mk 0 0 0 V.zero (T.mks t.l s)) u ∧ Within lo hi w w' := by
  have B0 := below_alloc w (.cells #[.int .i64 t.kind, .int .i64 t.col, .int .i64 t.op, .int .i64 t.v.ty, .int .i64 t.v.n, .string t.v.s, u] 32)
  have C0 := blk_new w [.int .i64 t.kind, .int .i64 t.col, .int .i64 t.op, .int .i64 t.v.ty, .int .i64 t.v.n, .string t.v.s, u] 32
  have c6 := (C0 6 _ rfl).1
  have hz := World.size_alloc w (.cells #[.int .i64 t.kind, .int .i64 t.col, .int .i64 t.op, .int .i64 t.v.ty, .int .i64 t.v.n, .string t.v.s, u] 32)
  have HM := Lib.hid (markPredS t lo hi s (w.alloc (.cells #[.int .i64 t.kind, .int .i64 t.col, .int .i64 t.op, .int .i64 t.v.ty, .int .i64 t.v.n, .string t.v.s, u] 32)) u (h.below B0 hs) (by omega) h0 hm)
  have HW : Hid (Within lo hi w (w.alloc (.cells #[.int .i64 t.kind, .int .i64 t.col, .int .i64 t.op, .int .i64 t.v.ty, .int .i64 t.v.n, .string t.v.s, u] 32))) := (Within.refl lo hi w).on B0
  generalize hw0 : w.alloc (.cells #[.int .i64 t.kind, .int .i64 t.col, .int .i64 t.op, .int .i64 t.v.ty, .int .i64 t.v.n, .string t.v.s, u] 32) = w0 at c6 HM HW
  have HW0 := Lib.hid hw0
  obtain ⟨a, cp, hu⟩ := h.sl
  generalize t.l.length = n at hu
  subst hu
  generalize hsm : s + T.mls t.l = sm at HM ⊢
  have HSM := Lib.hid hsm
  clear hsm hw0 h C0 B0 hz
  go_enter Tryd.func48, Tryd.ntmps48
  go_wp2_with fail
  rw [HW0.out]
  refine HM.out.mono ?_
  rintro e w1 ⟨rfl, h1, h2⟩
  have HH := Lib.hid h1
  have HK := Lib.hid (HW.out.trans h2)
  clear h1 h2
  go_wp2
  go_ret
  exact ⟨rfl, HH.out, HK.out⟩

set_option maxHeartbeats 1000000 in
theorem markQuery (qk qc : Int) (t : T) (out : List Int) (lo hi s : Nat) (w : World) (u o : Value) (h : OwnQ lo hi w t out u o) (hs : hi ≤ w.heap.size) (h0 : 0 < s) (hm : s + T.mls t.l ≤ 536870912) (hl : out.length ≤ 536870912) :
    Calls Tryd.prog 21 #[.agg #[.int .i64 qk, .int .i64 t.kind, .int .i64 t.col, .int .i64 t.op, .int .i64 t.v.ty, .int .i64 t.v.n, .string t.v.s, u, .int .i64 qc, o], .int .i64 s] w fun e w' => e = .returned (.int .i64 (s + T.mls t.l + out.length : Nat)) ∧ Within lo hi w w' := by
  have B0 := below_alloc w (.cells #[.int .i64 qk, .int .i64 t.kind, .int .i64 t.col, .int .i64 t.op, .int .i64 t.v.ty, .int .i64 t.v.n, .string t.v.s, u, .int .i64 qc, o] 46)
  have C0 := blk_new w [.int .i64 qk, .int .i64 t.kind, .int .i64 t.col, .int .i64 t.op, .int .i64 t.v.ty, .int .i64 t.v.n, .string t.v.s, u, .int .i64 qc, o] 46
  have hz := World.size_alloc w (.cells #[.int .i64 qk, .int .i64 t.kind, .int .i64 t.col, .int .i64 t.op, .int .i64 t.v.ty, .int .i64 t.v.n, .string t.v.s, u, .int .i64 qc, o] 46)
  obtain ⟨a1, x1, g2, x2, hu, ho⟩ := h.sl
  obtain ⟨m, hm1, hm2, hT, hO⟩ := h
  have HM := Lib.hid (markPred t lo m s (w.alloc (.cells #[.int .i64 qk, .int .i64 t.kind, .int .i64 t.col, .int .i64 t.op, .int .i64 t.v.ty, .int .i64 t.v.n, .string t.v.s, u, .int .i64 qc, o] 46)) u (hT.below B0 (by omega)) (by omega) h0 (by omega))
  have HO := Lib.hid (hO.below B0 hs)
  have HW : Hid (Within lo hi w (w.alloc (.cells #[.int .i64 qk, .int .i64 t.kind, .int .i64 t.col, .int .i64 t.op, .int .i64 t.v.ty, .int .i64 t.v.n, .string t.v.s, u, .int .i64 qc, o] 46))) := (Within.refl lo hi w).on B0
  have hlt : w.heap.size < (w.alloc (.cells #[.int .i64 qk, .int .i64 t.kind, .int .i64 t.col, .int .i64 t.op, .int .i64 t.v.ty, .int .i64 t.v.n, .string t.v.s, u, .int .i64 qc, o] 46)).heap.size := by omega
  have p1 := (C0 1 _ rfl).1
  have p2 := (C0 2 _ rfl).1
  have p3 := (C0 3 _ rfl).1
  have p4 := (C0 4 _ rfl).1
  have p5 := (C0 5 _ rfl).1
  have p6 := (C0 6 _ rfl).1
  have p7 := (C0 7 _ rfl).1
  have p9 := C0 9 _ rfl
  generalize hw0 : w.alloc (.cells #[.int .i64 qk, .int .i64 t.kind, .int .i64 t.col, .int .i64 t.op, .int .i64 t.v.ty, .int .i64 t.v.n, .string t.v.s, u, .int .i64 qc, o] 46) = w0 at p1 p2 p3 p4 p5 p6 p7 p9 HM HW HO hlt
  have HW0 := Lib.hid hw0
  generalize hn1 : t.l.length = n1 at hu
  subst hu ho
  generalize hsm : s + T.mls t.l = sm at HM hm ⊢
  have hsm0 : 0 < sm := by omega
  clear hsm hw0 C0 B0 hz hT hO hn1
  go_enter Tryd.func21, Tryd.ntmps21
  go_wp2_with fail
  rw [HW0.out]
  refine HM.out.mono ?_
  rintro e w1 ⟨rfl, h1, h2⟩
  have q9 : w1.cell? ⟨w.heap.size, 9, none⟩ = some (.slice (some ⟨g2, 0, none⟩) out.length x2) :=
    (World.cell?_of_block (h2.2.2.2.2 w.heap.size hlt (by omega))).trans p9.1
  have HO1 := Lib.hid (markIntS (.slice (some ⟨g2, 0, none⟩) out.length x2) out.length m hi _ (sm : Int) w1 (by omega) (by omega) (by omega) (HO.out.within h2 (by omega)))
  have HK := Lib.hid (HW.out.trans (h2.wide (Nat.le_refl _) hm2))
  generalize hn2 : out.length = n2 at q9 HO1 hl
  have HN2 := Lib.hid hn2
  clear hn2
  clear h1 h2 p1 p2 p3 p4 p5 p6 p7 p9 HM HO HW hlt
  go_wp2_with fail
  refine HO1.out.mono ?_
  rintro e w2 ⟨rfl, o2, g⟩
  have HF := Lib.hid (HK.out.trans (Within.of_grown (lo := lo) (hi := hi) g (fun x hx => by
    obtain ⟨g3, c3, e3, l1, l2, _⟩ := o2
    rw [e3] at hx
    simp [Value.ownBlock] at hx
    omega)))
  clear o2 g
  go_wp2
  go_ret
  exact ⟨ret_int (by rw [HN2.out]; omega), HF.out⟩

end Go.Proofs.YtkofafefnlommaaDoor
