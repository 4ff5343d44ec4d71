/- Texts of this claim, one behind the other: S7d, S7e, S7g, M7b, Law7, I7. -/
import Derived.Test.YthniakklkepomaaP17
import Derived.Test.YthniakklkepomaaP8
import Derived.Test.YthniakklkepomaaP4

/- The contract of the model's Dict. -/
namespace Go.Proofs.Ythniakklkepomaa
open Go.RowKit

/-- append(s, x...) as one operation: s owned, x read at ⟨b, off⟩. -/
theorem append_op {P : Program} {t e : TypeId} {z : Value} {size bytes : Nat} (T : ElemT P t e z size bytes) {w : World} {o : Oper} {a : Act} {K : Act → World → Prop} {Q : Exit → Act → World → Prop} (s x : Operand)
    (ho : o.op = .call { callee := .builtin .append, args := #[s, x], argTypes := #[t, t] })
    (lo hi : Nat) (v : Value) (n : Nat) (xs : List Value) (hs : a.eval s = v) (hown : Own e size lo hi w v n xs)
    (b off m c : Nat) (news : List Value) (hx : a.eval x = .slice (some ⟨b, off, none⟩) m c) (hl : news.length = m * size) (hnews : ∀ j u, news[j]? = some u → w.cell? ⟨b, off + j, none⟩ = some u) (h1 : ∀ u ∈ news, u.oneCell' = true)
    (h63 : n + m ≤ maxLen) (hbytes : (n + m) * bytes ≤ 140737488355328)
    (h : ∀ v' w', Own e size lo w'.heap.size w' v' (n + m) (xs ++ news) → Ext w w' v v' → K (a.put o.dst v') w') : Oper.wp P o a w K Q := by
  obtain ⟨v', w', hr, h2, h3⟩ := append_block w t o.type e z size bytes T lo hi v n xs hown ⟨b, off, none⟩ m c news hl (fun j u hu => by rw [addr_add]; exact hnews j u hu) h1 h63 hbytes
  unfold Oper.wp execOp
  simp only [ho, resolve, invoke, builtin, Sem.run_bind, Sem.run_pure, Result.andThen_ok, List.map_toArray, List.map_cons, List.map_nil, hs, hx, hr]
  exact h v' w' h2 h3
theorem lit_new (w : World) (x : V) (e : TypeId) : ∀ j u, (V.cs x)[j]? = some u → (w.alloc (.cells #[.int .i64 x.ty, .int .i64 x.n, .string x.s] e)).cell? ⟨w.heap.size, 0 + j, none⟩ = some u := by
  intro j u hu
  match j, hu with
  | 0, hu => simp [V.cs] at hu; subst hu; simp
  | 1, hu => simp [V.cs] at hu; subst hu; simp
  | 2, hu => simp [V.cs] at hu; subst hu; simp
theorem lit_ext {W W' : World} {v v' : Value} {h : Nat} {cs : List Value} (hX : ∀ j u, cs[j]? = some u → W.cell? ⟨h, 0 + j, none⟩ = some u) (hlt : h < W.heap.size) (hne : v.ownBlock ≠ some h) (e : Ext W W' v v') :
    (∀ j u, cs[j]? = some u → W'.cell? ⟨h, 0 + j, none⟩ = some u) ∧ h < W'.heap.size ∧ v'.ownBlock ≠ some h := by
  refine ⟨fun j u hu => ?_, Nat.lt_of_lt_of_le hlt e.grown.size, fun hv => ?_⟩
  · rw [World.cell?_of_block (w := W) (e.grown.block h hlt (fun k => hne k.symm))]
    exact hX j u hu
  · rcases e.blk with k | ⟨g, k, hg⟩
    · exact hne (k.symm.trans hv)
    · rw [k] at hv
      simp at hv
      omega
/-- A Val just laid as a literal of one. -/
def Lit1 (N : Nat) (W : World) (h : Nat) (x : V) : Prop := N ≤ h ∧ h < W.heap.size ∧ ∀ j u, (V.cs x)[j]? = some u → W.cell? ⟨h, 0 + j, none⟩ = some u
theorem Lit1.alloc {N : Nat} {W : World} {h : Nat} {x : V} (k : Lit1 N W h x) (o : Obj) : Lit1 N (W.alloc o) h x :=
  ⟨k.1, by have := k.2.1; simp; omega, fun j u hu => ((below_alloc W o).cell (p := ⟨h, 0 + j, none⟩) k.2.1).trans (k.2.2 j u hu)⟩
theorem Lit1.new {N : Nat} (W : World) (x : V) (e : TypeId) (hN : N ≤ W.heap.size) : Lit1 N (W.alloc (.cells #[.int .i64 x.ty, .int .i64 x.n, .string x.s] e)) W.heap.size x := ⟨hN, by simp, lit_new W x e⟩
theorem Lit1.ext {N : Nat} {W W' : World} {v v' : Value} {h : Nat} {x : V} (k : Lit1 N W h x) (hne : v.ownBlock ≠ some h) (e : Ext W W' v v') : Lit1 N W' h x ∧ v'.ownBlock ≠ some h :=
  ⟨⟨k.1, (lit_ext k.2.2 k.2.1 hne e).2.1, (lit_ext k.2.2 k.2.1 hne e).1⟩, (lit_ext k.2.2 k.2.1 hne e).2.2⟩
theorem Own.notNew {e size lo w v n xs} (h : Own e size lo w.heap.size w v n xs) : v.ownBlock ≠ some w.heap.size := by
  obtain ⟨g, cap, rfl, h1, h2, h3⟩ := h
  simp only [Value.ownBlock, ne_eq, Option.some.injEq]
  omega
theorem own_none {e : TypeId} {N : Nat} (W : World) (hN : N ≤ W.heap.size) : Own e 3 N (W.alloc (.cells #[] e)).heap.size (W.alloc (.cells #[] e)) (.slice (some ⟨W.heap.size, 0, none⟩) 0 0) 0 [] :=
  (own_lit (e := e) (size := 3) W #[] 0 (Nat.zero_le _) rfl).lower hN
theorem Own.stay {e size lo w v n xs} (h : Own e size lo w.heap.size w v n xs) (o : Obj) : Own e size lo (w.alloc o).heap.size (w.alloc o) v n xs := (h.alloc o).wide (by simp)
theorem vals_one (l : List V) : ∀ u ∈ vals l, u.oneCell' = true := by
  intro u hu
  obtain ⟨v, _, hv⟩ := List.mem_flatMap.1 hu
  simp only [V.cs, List.mem_cons, List.not_mem_nil, or_false] at hv
  rcases hv with rfl | rfl | rfl <;> rfl
theorem vals_take (l : List V) (c : Nat) : vals (l.take c) = (vals l).take (c * 3) := by
  induction l generalizing c with
  | nil => simp [vals]
  | cons v l ih =>
    cases c with
    | zero => simp [vals]
    | succ c =>
      have := ih c
      simp only [vals] at this ⊢
      rw [List.take_succ_cons, List.flatMap_cons, List.flatMap_cons, this, show (c + 1) * 3 = 3 + c * 3 by omega, List.take_append, List.take_of_length_le (show (V.cs v).length ≤ 3 + c * 3 by simp only [V.cs, List.length_cons, List.length_nil]; omega)]
      simp [V.cs]
theorem vals_drop (l : List V) (c : Nat) : vals (l.drop c) = (vals l).drop (c * 3) := by
  induction l generalizing c with
  | nil => simp [vals]
  | cons v l ih =>
    cases c with
    | zero => simp [vals]
    | succ c =>
      have := ih c
      simp only [vals] at this ⊢
      rw [List.drop_succ_cons, List.flatMap_cons, this, show (c + 1) * 3 = 3 + c * 3 by omega, List.drop_append]
      simp [V.cs]
/-- The two parts of a dictionary that is read, in a later world. -/
theorem tails {wo W9 : World} {d : List V} {m j g cp tl : Nat} (hm : d.length = m) (hc : ∀ i u, (vals d)[i]? = some u → wo.cell? ⟨g, 0 + i, none⟩ = some u) (hj : j ≤ m) (hcp : m ≤ cp) (ht : j < cp → tl = j * 3) (B : Below wo.heap.size wo W9) :
    ∀ W, Below W9.heap.size W9 W → (∀ i u, (vals (d.take j))[i]? = some u → W.cell? ⟨g, 0 + i, none⟩ = some u) ∧ (∀ i u, (vals (d.drop j))[i]? = some u → W.cell? ⟨g, tl + i, none⟩ = some u) := by
  intro W hW
  have hc2 : ∀ i u, (vals d)[i]? = some u → W.cell? ⟨g, 0 + i, none⟩ = some u := fun i u hu => by
    have h1 := hc i u hu
    have h2 := (B.cell (p := ⟨g, 0 + i, none⟩) (lt_of_cell h1)).trans h1
    exact (hW.cell (p := ⟨g, 0 + i, none⟩) (lt_of_cell h2)).trans h2
  refine ⟨fun i u hu => hc2 i u ?_, fun i u hu => ?_⟩
  · rw [vals_take] at hu
    rw [← hu, List.getElem?_take_of_lt]
    have := (List.getElem?_eq_some_iff.1 hu).1
    simp at this
    omega
  · have hlt := (List.getElem?_eq_some_iff.1 hu).1
    rw [vals_len, List.length_drop] at hlt
    have hjm : j < cp := by omega
    rw [vals_drop, List.getElem?_drop] at hu
    have := hc2 (j * 3 + i) u hu
    rw [ht hjm]
    rw [Nat.zero_add] at this
    exact this

set_option maxRecDepth 100000 in
set_option maxHeartbeats 4000000 in
theorem sDict (u : Value) (l : List V) (w : World) (hn : l.length ≤ 1048576) (h : Rd 3 w u l.length (vals l)) :
    Calls Try.prog 42 #[u] w fun e w' => ∃ v', e = .returned v' ∧ Own 41 3 w.heap.size w'.heap.size w' v' (dictL l).length (vals (dictL l)) ∧ Below w.heap.size w w' := by
  have hown0 := own_lit (e := 41) (size := 3) w #[] 0 (Nat.zero_le _) rfl
  have hb0 := below_alloc w (.cells #[] 41)
  generalize hl : l.length = n at h hn
  obtain ⟨a, cap, rfl, _, HC⟩ := h.vals hl
  have HL := Lib.hid hl
  have HS : Hid (∀ k, k < n → dictL (l.take (k + 1)) = insV (dictL (l.take k)) (l.getD k V.zero)) := fun k hk => by
    have hk' : k < l.length := by omega
    rw [getDe l V.zero hk', List.take_succ_eq_append_getElem hk', dict_snoc]
  have HLEN : Hid (∀ k, k ≤ n → (dictL (l.take k)).length ≤ k) := fun k hk => by
    have h1 := dict_len (l.take k)
    have e : (l.take k).length = k := by simp; omega
    omega
  clear hl h
  go_enter Try.func42, Try.ntmps42
  go_wp2
  go_loopw [3, 4] (fun o i wr => ∃ k : Nat, k ≤ n ∧ i = .int .i64 k ∧ Own 41 3 w.heap.size wr.heap.size wr o (dictL (l.take k)).length (vals (dictL (l.take k))) ∧ Below w.heap.size w wr) (fun _ i _ => n - (intOf i).toNat)
  case atStart => exact ⟨0, Nat.zero_le _, rfl, hown0, hb0⟩
  case round =>
    obtain ⟨k, hk, rfl, hown, hbr⟩ := hrel
    by_cases hlt : k < n
    · obtain ⟨b, off, rfl, p0, p1, p2⟩ := HC.out k hlt
      have HSK := Lib.hid (HS.out k hlt)
      have hrl := HLEN.out k hk
      replace p0 := (hbr.cell (p := ⟨b, off + k * 3, none⟩) (lt_of_cell p0)).trans p0
      replace p1 := (hbr.cell (p := ⟨b, off + k * 3 + 1, none⟩) (lt_of_cell p1)).trans p1
      replace p2 := (hbr.cell (p := ⟨b, off + k * 3 + 2, none⟩) (lt_of_cell p2)).trans p2
      generalize l.getD k V.zero = x at p0 p1 p2 HSK
      generalize dictL (l.take k) = d at hown hrl HSK
      obtain ⟨g, cp, rfl, hg1, hg2, hrow⟩ := hown
      have hown : Own 41 3 w.heap.size wr.heap.size wr (.slice (some ⟨g, 0, none⟩) d.length cp) d.length (vals d) := ⟨g, cp, rfl, hg1, hg2, hrow⟩
      obtain ⟨b', off', cp', e', hcp, hcm, _, hcs⟩ := hown.at
      simp only [Value.slice.injEq, Option.some.injEq, Addr.mk.injEq, and_true, true_and] at e'
      obtain ⟨⟨rfl, rfl⟩, rfl⟩ := e'
      unfold maxLen at hcm
      have HCS := Lib.hid hcs
      have HD3 : Hid (∀ j, j < d.length → wr.cell? ⟨g, j * 3, none⟩ = some (.int .i64 (d.getD j V.zero).ty) ∧ wr.cell? ⟨g, j * 3 + 1, none⟩ = some (.int .i64 (d.getD j V.zero).n) ∧ wr.cell? ⟨g, j * 3 + 2, none⟩ = some (.string (d.getD j V.zero).s)) := fun j hj => by
        have := cells3 (b := g) (off := 0) hcs hj
        rw [getDe d V.zero hj]
        simpa using this
      have HDL := Lib.hid hcs
      clear hcs hrow
      have HCL := Lib.hid (cutV_le d x)
      have HST : Hid (∀ j, j ≤ cutV d x → j < d.length → lessV (d.getD j V.zero) x = true → j + 1 ≤ cutV d x) := fun j h1 h2 h3 => cutV_step h1 h2 h3
      have HSP : Hid (∀ j, j ≤ cutV d x → (j = d.length ∨ lessV (d.getD j V.zero) x = false) → j = cutV d x) := fun j h1 h2 => cutV_stop h1 h2
      have HNEW : Hid ((cutV d x = d.length ∨ (d.getD (cutV d x) V.zero).eqB x = false) → insV d x = (d.take (cutV d x) ++ [x]) ++ d.drop (cutV d x)) := insV_new
      have HOLD : Hid (cutV d x < d.length → (d.getD (cutV d x) V.zero).eqB x = true → insV d x = d) := insV_old
      generalize hm : d.length = m at hown hrl HD3 HCL HST HSP HNEW HOLD hcp
      have HM := Lib.hid hm
      clear hm
      obtain ⟨wo, rfl⟩ : ∃ wo, wo = wr := ⟨_, rfl⟩
      go_wp2
      go_loopw [5] (fun i wr2 => ∃ j : Nat, i = .int .i64 j ∧ j ≤ cutV d x ∧ Below wo.heap.size wo wr2) (fun i _ => cutV d x + 1 - (intOf i).toNat)
      case atStart => exact ⟨0, rfl, Nat.zero_le _, Below.refl _ _⟩
      case round =>
        obtain ⟨j, rfl, hjc, hb2⟩ := hrel
        have hjm : j ≤ m := Nat.le_trans hjc HCL.out
        replace p0 := (hb2.cell (p := ⟨b, off + k * 3, none⟩) (lt_of_cell p0)).trans p0
        replace p1 := (hb2.cell (p := ⟨b, off + k * 3 + 1, none⟩) (lt_of_cell p1)).trans p1
        replace p2 := (hb2.cell (p := ⟨b, off + k * 3 + 2, none⟩) (lt_of_cell p2)).trans p2
        by_cases hjl : j < m
        · obtain ⟨q0, q1, q2⟩ := HD3.out j hjl
          replace q0 := (hb2.cell (p := ⟨g, j * 3, none⟩) (lt_of_cell q0)).trans q0
          replace q1 := (hb2.cell (p := ⟨g, j * 3 + 1, none⟩) (lt_of_cell q1)).trans q1
          replace q2 := (hb2.cell (p := ⟨g, j * 3 + 2, none⟩) (lt_of_cell q2)).trans q2
          have HL1 := Lib.hid (HST.out j hjc hjl)
          have HL2 := Lib.hid (fun h => HSP.out j hjc (.inr h))
          have HEQ : Hid (j = cutV d x → d.getD (cutV d x) V.zero = d.getD j V.zero) := fun h => by rw [h]
          generalize d.getD j V.zero = y at q0 q1 q2 HL1 HL2 HEQ
          have HX := Lib.hid (fun W => sLessVal y x W)
          have HK : Hid (∀ W, Below wr.heap.size wr W → W.cell? ⟨g, j * 3, none⟩ = some (.int .i64 y.ty) ∧ W.cell? ⟨g, j * 3 + 1, none⟩ = some (.int .i64 y.n) ∧ W.cell? ⟨g, j * 3 + 2, none⟩ = some (.string y.s) ∧ W.cell? ⟨b, off + k * 3, none⟩ = some (.int .i64 x.ty) ∧ W.cell? ⟨b, off + k * 3 + 1, none⟩ = some (.int .i64 x.n) ∧ W.cell? ⟨b, off + k * 3 + 2, none⟩ = some (.string x.s)) := fun W h =>
            ⟨(h.cell (p := ⟨g, j * 3, none⟩) (lt_of_cell q0)).trans q0, (h.cell (p := ⟨g, j * 3 + 1, none⟩) (lt_of_cell q1)).trans q1, (h.cell (p := ⟨g, j * 3 + 2, none⟩) (lt_of_cell q2)).trans q2, (h.cell (p := ⟨b, off + k * 3, none⟩) (lt_of_cell p0)).trans p0, (h.cell (p := ⟨b, off + k * 3 + 1, none⟩) (lt_of_cell p1)).trans p1, (h.cell (p := ⟨b, off + k * 3 + 2, none⟩) (lt_of_cell p2)).trans p2⟩
          have hB' := (Below.refl wr.heap.size wr).drew
          generalize hc : cutV d x = c at HL1 HL2 HEQ HCL HNEW HOLD hjc
          have HCC := Lib.hid hc
          clear hc
          generalize lessV y x = lb at HL1 HL2 HX
          obtain ⟨xt, xn, xs⟩ := x
          obtain ⟨yt, yn, ys⟩ := y
          simp only at p0 p1 p2 q0 q1 q2 HK
          have HOWN := Lib.hid hown
          have HBR := Lib.hid hbr
          have HB2 := Lib.hid hb2
          clear hown hbr hb2
          go_wp2
          go_region_held3 (fun W => W.cell? ⟨g, j * 3, none⟩ = some (.int .i64 yt) ∧ W.cell? ⟨g, j * 3 + 1, none⟩ = some (.int .i64 yn) ∧ W.cell? ⟨g, j * 3 + 2, none⟩ = some (.string ys) ∧ W.cell? ⟨b, off + k * 3, none⟩ = some (.int .i64 xt) ∧ W.cell? ⟨b, off + k * 3 + 1, none⟩ = some (.int .i64 xn) ∧ W.cell? ⟨b, off + k * 3 + 2, none⟩ = some (.string xs)) (exact HK.out _ hB') ((go_at_call 57; (with_reducible refine (HX.out _).mono ?_); rintro e w2 ⟨rfl, hb3⟩; replace hB' := below_then hB' hb3 hB'.size))
          cases lb with
          | true =>
            have hj1 := HL1.out rfl
            go_wp2
            go_roundw
            case rel => exact ⟨j + 1, by go_num, hj1, below_then HB2.out hB' HB2.out.size⟩
            case measure => simp [intOf]; omega
          | false =>
            obtain rfl := HL2.out rfl
            have HY := Lib.hid (HEQ.out rfl)
            rw [HY.out] at HNEW HOLD
            have hq := fun W => run_neq_val ⟨yt, yn, ys⟩ ⟨xt, xn, xs⟩ W
            obtain ⟨c0, c1, c2, c3, c4, c5⟩ := HK.out _ hB'
            have B3 := Lib.hid (below_then HB2.out hB' HB2.out.size)
            have hjeq : ((j : Int) == (m : Int)) = false := by simp; omega
            clear hB' HK HX HL1 HL2 HEQ p0 p1 p2 q0 q1 q2
            cases he : V.eqB ⟨yt, yn, ys⟩ ⟨xt, xn, xs⟩ with
            | true =>
              have HO := Lib.hid (HOLD.out hjl he)
              rw [he] at hq
              clear he HOLD HNEW
              go_wp2
              go_quiet (fail)
              go_wp2
              go_roundw
              case rel => exact ⟨k + 1, by omega, by go_num, by rw [HSK.out, HO.out, HM.out]; exact (HOWN.out.below (B3.out.trans (below_drewN _ _ _)) (Nat.le_refl _)).wide B3.out.size, below_then HBR.out (B3.out.trans (below_drewN _ _ _)) HBR.out.size⟩
              case measure => simp [intOf]; omega
            | false =>
              have HO := Lib.hid (HNEW.out (.inr he))
              rw [he] at hq
              clear he HOLD HNEW
              go_wp2
              go_quiet (fail)
              go_wp2
              generalize hW9 : w2.drewN nq = W9
              have B9 : Below wo.heap.size wo W9 := by rw [← hW9]; exact B3.out.trans (below_drewN _ _ _)
              have c3' : W9.cell? ⟨b, off + k * 3, none⟩ = some (.int .i64 xt) := by rw [← hW9]; exact c3
              have c4' : W9.cell? ⟨b, off + k * 3 + 1, none⟩ = some (.int .i64 xn) := by rw [← hW9]; exact c4
              have c5' : W9.cell? ⟨b, off + k * 3 + 2, none⟩ = some (.string xs) := by rw [← hW9]; exact c5
              clear c0 c1 c2 c3 c4 c5 hq hW9
              have hjcp : (cp < j) = False := by simp; omega
              obtain ⟨tl, htl, HTL⟩ : ∃ tl, (if cp = j then some (⟨g, 0, none⟩ : Addr) else some ⟨g, j * 3, none⟩) = some ⟨g, tl, none⟩ ∧ Hid (j < cp → tl = j * 3) := by
                by_cases e : cp = j
                · exact ⟨0, by rw [if_pos e], fun h => by omega⟩
                · exact ⟨j * 3, by rw [if_neg e], fun _ => rfl⟩
              refine wp_region_held_drew (S := fun W => W.cell? ⟨b, off + k * 3, none⟩ = some (.int .i64 xt) ∧ W.cell? ⟨b, off + k * 3 + 1, none⟩ = some (.int .i64 xn) ∧ W.cell? ⟨b, off + k * 3 + 2, none⟩ = some (.string xs)) (by kernel_rfl) ⟨c3', c4', c5'⟩ (fun hH => ?_)
              refine takeH (i := 1) (d := some 46) (v := .slice (some ⟨g, 0, none⟩) m cp) rfl rfl (by kernel_rfl) (by kernel_rfl) (by kernel_rfl) (fun _ _ _ h => h) (Or.inl ⟨by rfl, fun W hSw => by go_simp⟩) hH ?_
              simp only [put_some, List.set_cons_zero, List.set_cons_succ]
              refine takeH (i := 2) (d := some 47) (v := .int .i64 (j : Int)) rfl rfl (by kernel_rfl) (by kernel_rfl) (by kernel_rfl) (fun _ _ _ h => h) (Or.inl ⟨by rfl, fun W hSw => by go_simp⟩) hH ?_
              simp only [put_some, List.set_cons_zero, List.set_cons_succ]
              refine takeH (i := 3) (d := some 48) (v := .slice (some ⟨g, 0, none⟩) j cp) rfl rfl (by kernel_rfl) (by kernel_rfl) (by kernel_rfl) (fun _ _ _ h => h) (Or.inl ⟨by rfl, fun W hSw => by go_simp⟩) hH ?_
              simp only [put_some, List.set_cons_zero, List.set_cons_succ]
              refine takeH (i := 5) (d := some 50) (v := .slice (some ⟨b, off, none⟩) n cap) rfl rfl (by kernel_rfl) (by kernel_rfl) (by kernel_rfl) (fun _ _ _ h => h) (Or.inl ⟨by rfl, fun W hSw => by go_simp⟩) hH ?_
              simp only [put_some, List.set_cons_zero, List.set_cons_succ]
              refine takeH (i := 6) (d := some 51) (v := .int .i64 (k : Int)) rfl rfl (by kernel_rfl) (by kernel_rfl) (by kernel_rfl) (fun _ _ _ h => h) (Or.inl ⟨by rfl, fun W hSw => by go_simp⟩) hH ?_
              simp only [put_some, List.set_cons_zero, List.set_cons_succ]
              refine takeH (i := 7) (d := some 52) (v := .pointer (some ⟨b, off + k * 3, none⟩)) rfl rfl (by kernel_rfl) (by kernel_rfl) (by kernel_rfl) (fun _ _ _ h => h) (Or.inl ⟨by rfl, fun W hSw => by go_simp⟩) hH ?_
              simp only [put_some, List.set_cons_zero, List.set_cons_succ]
              refine takeH (i := 8) (d := some 53) (v := .agg #[.int .i64 xt, .int .i64 xn, .string xs]) rfl rfl (by kernel_rfl) (by kernel_rfl) (by kernel_rfl) (fun _ _ _ h => h) (Or.inl ⟨by rfl, fun W hSw => by go_simp⟩) hH ?_
              simp only [put_some, List.set_cons_zero, List.set_cons_succ]
              refine takeH (i := 11) (d := some 56) (v := .slice (some ⟨g, 0, none⟩) m cp) rfl rfl (by kernel_rfl) (by kernel_rfl) (by kernel_rfl) (fun _ _ _ h => h) (Or.inl ⟨by rfl, fun W hSw => by go_simp⟩) hH ?_
              simp only [put_some, List.set_cons_zero, List.set_cons_succ]
              refine takeH (i := 12) (d := some 57) (v := .int .i64 (j : Int)) rfl rfl (by kernel_rfl) (by kernel_rfl) (by kernel_rfl) (fun _ _ _ h => h) (Or.inl ⟨by rfl, fun W hSw => by go_simp⟩) hH ?_
              simp only [put_some, List.set_cons_zero, List.set_cons_succ]
              refine takeH (i := 13) (d := some 58) (v := .slice (some ⟨g, tl, none⟩) (m - j) (cp - j)) rfl rfl (by kernel_rfl) (by kernel_rfl) (by kernel_rfl) (fun _ _ _ h => h) (Or.inl ⟨by rfl, fun W hSw => by go_simp⟩) hH ?_
              simp only [put_some, List.set_cons_zero, List.set_cons_succ]
              clear htl hjcp
              have D9 : Hid (∀ W, Below W9.heap.size W9 W → (∀ i u, (vals (d.take j))[i]? = some u → W.cell? ⟨g, 0 + i, none⟩ = some u) ∧ (∀ i u, (vals (d.drop j))[i]? = some u → W.cell? ⟨g, tl + i, none⟩ = some u)) := tails HM.out HDL.out hjm hcp HTL.out B9
              have S9 : Hid (∀ W, Below W9.heap.size W9 W → W.cell? ⟨b, off + k * 3, none⟩ = some (.int .i64 xt) ∧ W.cell? ⟨b, off + k * 3 + 1, none⟩ = some (.int .i64 xn) ∧ W.cell? ⟨b, off + k * 3 + 2, none⟩ = some (.string xs)) := fun W h => ⟨(h.cell (p := ⟨b, off + k * 3, none⟩) (lt_of_cell c3')).trans c3', (h.cell (p := ⟨b, off + k * 3 + 1, none⟩) (lt_of_cell c4')).trans c4', (h.cell (p := ⟨b, off + k * 3 + 2, none⟩) (lt_of_cell c5')).trans c5'⟩
              have HVL : Hid ((vals (d.take j)).length = j * 3 ∧ (vals (d.drop j)).length = (m - j) * 3) := by
                have e := HM.out
                refine ⟨?_, ?_⟩
                · rw [vals_len, List.length_take]; congr 1; omega
                · rw [vals_len, List.length_drop, e]
              have HFIN : Hid ((vals (d.take j) ++ V.cs ⟨xt, xn, xs⟩) ++ vals (d.drop j) = vals (insV d ⟨xt, xn, xs⟩) ∧ j + 1 + (m - j) = (insV d ⟨xt, xn, xs⟩).length) := by
                have e := HM.out
                rw [HO.out]
                refine ⟨by simp [vals], ?_⟩
                simp only [List.length_append, List.length_take, List.length_drop, List.length_cons, List.length_nil]
                omega
              have B0 : Below W9.heap.size W9 W9.drew := (Below.refl _ _).drew
              generalize hW0 : W9.drew = W0 at hH B0 ⊢
              clear hW0 c3' c4' c5'
              refine wpAnyH_ready (rs := [0, 9]) (by kernel_rfl) (by simp) ?_
              refine AllReadyH.cons rfl (fun K hK => ?_) (AllReadyH.cons rfl (fun K hK => ?_) AllReadyH.nil)
              · skip
                go_simp
                have B1 := B0.alloc B0.size (.cells #[] 41)
                have O1 := own_none (e := 41) (N := W9.heap.size) W0 B0.size
                refine hK.out _ _ (S9.out _ B1) (fun hH => ?_)
                clear hK K
                generalize W0.heap.size = g45 at O1 ⊢
                generalize W0.alloc (.cells #[] 41) = W1 at B1 O1 hH ⊢
                refine wpAnyH_ready (rs := [4, 9]) (by kernel_rfl) (by simp) ?_
                refine AllReadyH.cons rfl (fun K hK => ?_) (AllReadyH.cons rfl (fun K hK => ?_) AllReadyH.nil)
                · skip
                  refine append_op Try.elemVals (.tmp 45) (.tmp 48) rfl W9.heap.size W1.heap.size (.slice (some ⟨g45, 0, none⟩) 0 0) 0 [] rfl O1 g 0 j cp (vals (d.take j)) rfl HVL.out.1 (D9.out _ B1).1 (vals_one _) (by unfold maxLen; omega) (by omega) ?_
                  intro v49 W2 O2 E2
                  have B2 := B1.trans (E2.below O1)
                  rw [Nat.zero_add, List.nil_append] at O2
                  obtain ⟨g49, c49, rfl⟩ : ∃ g c, v49 = .slice (some ⟨g, 0, none⟩) (j) c := by obtain ⟨g, c, e, _⟩ := O2; exact ⟨g, c, e⟩
                  refine hK.out _ _ (S9.out _ B2) (fun hH => ?_)
                  clear hK K E2
                  refine wpAnyH_ready (rs := [9]) (by kernel_rfl) (by simp) ?_
                  refine AllReadyH.cons rfl (fun K hK => ?_) AllReadyH.nil
                  go_simp
                  have B3 := B2.alloc B2.size (.cells #[.int .i64 xt, .int .i64 xn, .string xs] 41)
                  have L3 : Lit1 W9.heap.size _ _ _ := Lit1.new W2 ⟨xt, xn, xs⟩ 41 B2.size
                  have N3 := O2.notNew
                  have O3 := O2.stay (.cells #[.int .i64 xt, .int .i64 xn, .string xs] 41)
                  refine hK.out _ _ (S9.out _ B3) (fun hH => ?_)
                  clear hK K
                  generalize W2.heap.size = g54 at L3 O3 N3 ⊢
                  generalize W2.alloc (.cells #[.int .i64 xt, .int .i64 xn, .string xs] 41) = W3 at B3 L3 O3 hH ⊢
                  refine wpAnyH_ready (rs := [10]) (by kernel_rfl) (by simp) ?_
                  refine AllReadyH.cons rfl (fun K hK => ?_) AllReadyH.nil
                  refine append_op Try.elemVals (.tmp 49) (.tmp 54) rfl W9.heap.size W3.heap.size (.slice (some ⟨g49, 0, none⟩) j c49) j (vals (d.take j)) rfl O3 g54 0 1 1 (V.cs ⟨xt, xn, xs⟩) rfl rfl L3.2.2 (fun u hu => vals_one [⟨xt, xn, xs⟩] u (by simpa [vals] using hu)) (by unfold maxLen; omega) (by omega) ?_
                  intro v55 W4 O4 E4
                  have B4 := B3.trans (E4.below O3)
                  obtain ⟨g55, c55, rfl⟩ : ∃ g c, v55 = .slice (some ⟨g, 0, none⟩) (j + 1) c := by obtain ⟨g, c, e, _⟩ := O4; exact ⟨g, c, e⟩
                  refine hK.out _ _ (S9.out _ B4) (fun hH => ?_)
                  clear hK K E4
                  refine wpAnyH_ready (rs := [14]) (by kernel_rfl) (by simp) ?_
                  refine AllReadyH.cons rfl (fun K hK => ?_) AllReadyH.nil
                  refine append_op Try.elemVals (.tmp 55) (.tmp 58) rfl W9.heap.size W4.heap.size (.slice (some ⟨g55, 0, none⟩) (j + 1) c55) (j + 1) (vals (d.take j) ++ V.cs ⟨xt, xn, xs⟩) rfl O4 g tl (m - j) (cp - j) (vals (d.drop j)) rfl HVL.out.2 (D9.out _ B4).2 (vals_one _) (by unfold maxLen; omega) (by omega) ?_
                  intro v59 W5 O5 E5
                  have B5 := B4.trans (E5.below O4)
                  rw [HFIN.out.1, HFIN.out.2] at O5
                  obtain ⟨g59, c59, rfl⟩ : ∃ g c, v59 = .slice (some ⟨g, 0, none⟩) (insV d ⟨xt, xn, xs⟩).length c := by obtain ⟨g, c, e, _⟩ := O5; exact ⟨g, c, e⟩
                  refine hK.out _ _ (S9.out _ B5) (fun hH => ?_)
                  clear hK K E5
                  refine takeH (i := 15) (d := some 3) (v := .slice (some ⟨g59, 0, none⟩) (insV d ⟨xt, xn, xs⟩).length c59) rfl rfl (by kernel_rfl) (by kernel_rfl) (by kernel_rfl) (fun _ _ _ h => h) (Or.inl ⟨by rfl, fun W hSw => by go_simp⟩) hH ?_
                  try simp only [put_some, List.set_cons_zero, List.set_cons_succ]
                  have OF := Lib.hid O5
                  have BF := Lib.hid B5
                  clear O5 B5
                  refine wpAnyH_done (by kernel_rfl) ?_ _
                  go_wp2
                  go_roundw
                  case rel => exact ⟨k + 1, by omega, by go_num, by rw [HSK.out]; exact OF.out.lower (Nat.le_trans HBR.out.size B9.size), below_then HBR.out (below_then B9 BF.out B9.size) HBR.out.size⟩
                  case measure => simp [intOf]; omega
                · skip
                  go_simp
                  have B2 := B1.alloc B1.size (.cells #[.int .i64 xt, .int .i64 xn, .string xs] 41)
                  have L2 : Lit1 W9.heap.size _ _ _ := Lit1.new W1 ⟨xt, xn, xs⟩ 41 B1.size
                  have N2 := O1.notNew
                  have O2 := O1.stay (.cells #[.int .i64 xt, .int .i64 xn, .string xs] 41)
                  refine hK.out _ _ (S9.out _ B2) (fun hH => ?_)
                  clear hK K
                  generalize W1.heap.size = g54 at L2 O2 N2 ⊢
                  generalize W1.alloc (.cells #[.int .i64 xt, .int .i64 xn, .string xs] 41) = W2 at B2 L2 O2 hH ⊢
                  refine wpAnyH_ready (rs := [4]) (by kernel_rfl) (by simp) ?_
                  refine AllReadyH.cons rfl (fun K hK => ?_) AllReadyH.nil
                  refine append_op Try.elemVals (.tmp 45) (.tmp 48) rfl W9.heap.size W2.heap.size (.slice (some ⟨g45, 0, none⟩) 0 0) 0 [] rfl O2 g 0 j cp (vals (d.take j)) rfl HVL.out.1 (D9.out _ B2).1 (vals_one _) (by unfold maxLen; omega) (by omega) ?_
                  intro v49 W3 O3 E3
                  have B3 := B2.trans (E3.below O2)
                  obtain ⟨L3, N3⟩ := L2.ext N2 E3
                  rw [Nat.zero_add, List.nil_append] at O3
                  obtain ⟨g49, c49, rfl⟩ : ∃ g c, v49 = .slice (some ⟨g, 0, none⟩) (j) c := by obtain ⟨g, c, e, _⟩ := O3; exact ⟨g, c, e⟩
                  refine hK.out _ _ (S9.out _ B3) (fun hH => ?_)
                  clear hK K E3
                  refine wpAnyH_ready (rs := [10]) (by kernel_rfl) (by simp) ?_
                  refine AllReadyH.cons rfl (fun K hK => ?_) AllReadyH.nil
                  refine append_op Try.elemVals (.tmp 49) (.tmp 54) rfl W9.heap.size W3.heap.size (.slice (some ⟨g49, 0, none⟩) j c49) j (vals (d.take j)) rfl O3 g54 0 1 1 (V.cs ⟨xt, xn, xs⟩) rfl rfl L3.2.2 (fun u hu => vals_one [⟨xt, xn, xs⟩] u (by simpa [vals] using hu)) (by unfold maxLen; omega) (by omega) ?_
                  intro v55 W4 O4 E4
                  have B4 := B3.trans (E4.below O3)
                  obtain ⟨g55, c55, rfl⟩ : ∃ g c, v55 = .slice (some ⟨g, 0, none⟩) (j + 1) c := by obtain ⟨g, c, e, _⟩ := O4; exact ⟨g, c, e⟩
                  refine hK.out _ _ (S9.out _ B4) (fun hH => ?_)
                  clear hK K E4
                  refine wpAnyH_ready (rs := [14]) (by kernel_rfl) (by simp) ?_
                  refine AllReadyH.cons rfl (fun K hK => ?_) AllReadyH.nil
                  refine append_op Try.elemVals (.tmp 55) (.tmp 58) rfl W9.heap.size W4.heap.size (.slice (some ⟨g55, 0, none⟩) (j + 1) c55) (j + 1) (vals (d.take j) ++ V.cs ⟨xt, xn, xs⟩) rfl O4 g tl (m - j) (cp - j) (vals (d.drop j)) rfl HVL.out.2 (D9.out _ B4).2 (vals_one _) (by unfold maxLen; omega) (by omega) ?_
                  intro v59 W5 O5 E5
                  have B5 := B4.trans (E5.below O4)
                  rw [HFIN.out.1, HFIN.out.2] at O5
                  obtain ⟨g59, c59, rfl⟩ : ∃ g c, v59 = .slice (some ⟨g, 0, none⟩) (insV d ⟨xt, xn, xs⟩).length c := by obtain ⟨g, c, e, _⟩ := O5; exact ⟨g, c, e⟩
                  refine hK.out _ _ (S9.out _ B5) (fun hH => ?_)
                  clear hK K E5
                  refine takeH (i := 15) (d := some 3) (v := .slice (some ⟨g59, 0, none⟩) (insV d ⟨xt, xn, xs⟩).length c59) rfl rfl (by kernel_rfl) (by kernel_rfl) (by kernel_rfl) (fun _ _ _ h => h) (Or.inl ⟨by rfl, fun W hSw => by go_simp⟩) hH ?_
                  try simp only [put_some, List.set_cons_zero, List.set_cons_succ]
                  have OF := Lib.hid O5
                  have BF := Lib.hid B5
                  clear O5 B5
                  refine wpAnyH_done (by kernel_rfl) ?_ _
                  go_wp2
                  go_roundw
                  case rel => exact ⟨k + 1, by omega, by go_num, by rw [HSK.out]; exact OF.out.lower (Nat.le_trans HBR.out.size B9.size), below_then HBR.out (below_then B9 BF.out B9.size) HBR.out.size⟩
                  case measure => simp [intOf]; omega
              · skip
                go_simp
                have B1 := B0.alloc B0.size (.cells #[.int .i64 xt, .int .i64 xn, .string xs] 41)
                have L1 : Lit1 W9.heap.size _ _ _ := Lit1.new W0 ⟨xt, xn, xs⟩ 41 B0.size
                refine hK.out _ _ (S9.out _ B1) (fun hH => ?_)
                clear hK K
                generalize W0.heap.size = g54 at L1 ⊢
                generalize W0.alloc (.cells #[.int .i64 xt, .int .i64 xn, .string xs] 41) = W1 at B1 L1 hH ⊢
                refine wpAnyH_ready (rs := [0]) (by kernel_rfl) (by simp) ?_
                refine AllReadyH.cons rfl (fun K hK => ?_) AllReadyH.nil
                go_simp
                have B2 := B1.alloc B1.size (.cells #[] 41)
                have O2 := own_none (e := 41) (N := W9.heap.size) W1 B1.size
                have L2 := L1.alloc (.cells #[] 41)
                have N2 : Value.ownBlock (.slice (some ⟨W1.heap.size, 0, none⟩) 0 0) ≠ some g54 := by have := L1.2.1; simp only [Value.ownBlock, ne_eq, Option.some.injEq]; omega
                refine hK.out _ _ (S9.out _ B2) (fun hH => ?_)
                clear hK K
                generalize W1.heap.size = g45 at O2 L2 N2 ⊢
                generalize W1.alloc (.cells #[] 41) = W2 at B2 O2 L2 hH ⊢
                refine wpAnyH_ready (rs := [4]) (by kernel_rfl) (by simp) ?_
                refine AllReadyH.cons rfl (fun K hK => ?_) AllReadyH.nil
                refine append_op Try.elemVals (.tmp 45) (.tmp 48) rfl W9.heap.size W2.heap.size (.slice (some ⟨g45, 0, none⟩) 0 0) 0 [] rfl O2 g 0 j cp (vals (d.take j)) rfl HVL.out.1 (D9.out _ B2).1 (vals_one _) (by unfold maxLen; omega) (by omega) ?_
                intro v49 W3 O3 E3
                have B3 := B2.trans (E3.below O2)
                obtain ⟨L3, N3⟩ := L2.ext N2 E3
                rw [Nat.zero_add, List.nil_append] at O3
                obtain ⟨g49, c49, rfl⟩ : ∃ g c, v49 = .slice (some ⟨g, 0, none⟩) (j) c := by obtain ⟨g, c, e, _⟩ := O3; exact ⟨g, c, e⟩
                refine hK.out _ _ (S9.out _ B3) (fun hH => ?_)
                clear hK K E3
                refine wpAnyH_ready (rs := [10]) (by kernel_rfl) (by simp) ?_
                refine AllReadyH.cons rfl (fun K hK => ?_) AllReadyH.nil
                refine append_op Try.elemVals (.tmp 49) (.tmp 54) rfl W9.heap.size W3.heap.size (.slice (some ⟨g49, 0, none⟩) j c49) j (vals (d.take j)) rfl O3 g54 0 1 1 (V.cs ⟨xt, xn, xs⟩) rfl rfl L3.2.2 (fun u hu => vals_one [⟨xt, xn, xs⟩] u (by simpa [vals] using hu)) (by unfold maxLen; omega) (by omega) ?_
                intro v55 W4 O4 E4
                have B4 := B3.trans (E4.below O3)
                obtain ⟨g55, c55, rfl⟩ : ∃ g c, v55 = .slice (some ⟨g, 0, none⟩) (j + 1) c := by obtain ⟨g, c, e, _⟩ := O4; exact ⟨g, c, e⟩
                refine hK.out _ _ (S9.out _ B4) (fun hH => ?_)
                clear hK K E4
                refine wpAnyH_ready (rs := [14]) (by kernel_rfl) (by simp) ?_
                refine AllReadyH.cons rfl (fun K hK => ?_) AllReadyH.nil
                refine append_op Try.elemVals (.tmp 55) (.tmp 58) rfl W9.heap.size W4.heap.size (.slice (some ⟨g55, 0, none⟩) (j + 1) c55) (j + 1) (vals (d.take j) ++ V.cs ⟨xt, xn, xs⟩) rfl O4 g tl (m - j) (cp - j) (vals (d.drop j)) rfl HVL.out.2 (D9.out _ B4).2 (vals_one _) (by unfold maxLen; omega) (by omega) ?_
                intro v59 W5 O5 E5
                have B5 := B4.trans (E5.below O4)
                rw [HFIN.out.1, HFIN.out.2] at O5
                obtain ⟨g59, c59, rfl⟩ : ∃ g c, v59 = .slice (some ⟨g, 0, none⟩) (insV d ⟨xt, xn, xs⟩).length c := by obtain ⟨g, c, e, _⟩ := O5; exact ⟨g, c, e⟩
                refine hK.out _ _ (S9.out _ B5) (fun hH => ?_)
                clear hK K E5
                refine takeH (i := 15) (d := some 3) (v := .slice (some ⟨g59, 0, none⟩) (insV d ⟨xt, xn, xs⟩).length c59) rfl rfl (by kernel_rfl) (by kernel_rfl) (by kernel_rfl) (fun _ _ _ h => h) (Or.inl ⟨by rfl, fun W hSw => by go_simp⟩) hH ?_
                try simp only [put_some, List.set_cons_zero, List.set_cons_succ]
                have OF := Lib.hid O5
                have BF := Lib.hid B5
                clear O5 B5
                refine wpAnyH_done (by kernel_rfl) ?_ _
                go_wp2
                go_roundw
                case rel => exact ⟨k + 1, by omega, by go_num, by rw [HSK.out]; exact OF.out.lower (Nat.le_trans HBR.out.size B9.size), below_then HBR.out (below_then B9 BF.out B9.size) HBR.out.size⟩
                case measure => simp [intOf]; omega
        · have HJM : Hid (j = m) := by show _ = _; omega
          have HCE := Lib.hid (HSP.out j hjc (.inl (by omega)))
          have HO := Lib.hid (HNEW.out (.inl (by rw [← HCE.out]; exact HJM.out)))
          rw [← HCE.out] at HO
          have HOWN := Lib.hid hown
          have HBR := Lib.hid hbr
          have B3 := Lib.hid hb2
          have hjeq : ((j : Int) == (m : Int)) = true := by simp; omega
          have hjn : (j < m) = False := by simp; omega
          obtain ⟨xt, xn, xs⟩ := x
          simp only at p0 p1 p2
          clear hown hbr hb2 HNEW HOLD HSP HST hjl HCL hjc
          go_wp2
          go_quiet (fail)
          go_wp2
          go_quiet (fail)
          go_wp2
          generalize hW9 : World.drewN (World.drewN wr _) _ = W9
          have B9 : Below wo.heap.size wo W9 := by rw [← hW9]; exact (B3.out.trans (below_drewN _ _ _)).trans (below_drewN _ _ _)
          have c3' : W9.cell? ⟨b, off + k * 3, none⟩ = some (.int .i64 xt) := by rw [← hW9]; exact p0
          have c4' : W9.cell? ⟨b, off + k * 3 + 1, none⟩ = some (.int .i64 xn) := by rw [← hW9]; exact p1
          have c5' : W9.cell? ⟨b, off + k * 3 + 2, none⟩ = some (.string xs) := by rw [← hW9]; exact p2
          clear p0 p1 p2 hW9
          have hjcp : (cp < j) = False := by simp; omega
          obtain ⟨tl, htl, HTL⟩ : ∃ tl, (if cp = j then some (⟨g, 0, none⟩ : Addr) else some ⟨g, j * 3, none⟩) = some ⟨g, tl, none⟩ ∧ Hid (j < cp → tl = j * 3) := by
            by_cases e : cp = j
            · exact ⟨0, by rw [if_pos e], fun h => by omega⟩
            · exact ⟨j * 3, by rw [if_neg e], fun _ => rfl⟩
          refine wp_region_held_drew (S := fun W => W.cell? ⟨b, off + k * 3, none⟩ = some (.int .i64 xt) ∧ W.cell? ⟨b, off + k * 3 + 1, none⟩ = some (.int .i64 xn) ∧ W.cell? ⟨b, off + k * 3 + 2, none⟩ = some (.string xs)) (by kernel_rfl) ⟨c3', c4', c5'⟩ (fun hH => ?_)
          refine takeH (i := 1) (d := some 46) (v := .slice (some ⟨g, 0, none⟩) m cp) rfl rfl (by kernel_rfl) (by kernel_rfl) (by kernel_rfl) (fun _ _ _ h => h) (Or.inl ⟨by rfl, fun W hSw => by go_simp⟩) hH ?_
          simp only [put_some, List.set_cons_zero, List.set_cons_succ]
          refine takeH (i := 2) (d := some 47) (v := .int .i64 (j : Int)) rfl rfl (by kernel_rfl) (by kernel_rfl) (by kernel_rfl) (fun _ _ _ h => h) (Or.inl ⟨by rfl, fun W hSw => by go_simp⟩) hH ?_
          simp only [put_some, List.set_cons_zero, List.set_cons_succ]
          refine takeH (i := 3) (d := some 48) (v := .slice (some ⟨g, 0, none⟩) j cp) rfl rfl (by kernel_rfl) (by kernel_rfl) (by kernel_rfl) (fun _ _ _ h => h) (Or.inl ⟨by rfl, fun W hSw => by go_simp⟩) hH ?_
          simp only [put_some, List.set_cons_zero, List.set_cons_succ]
          refine takeH (i := 5) (d := some 50) (v := .slice (some ⟨b, off, none⟩) n cap) rfl rfl (by kernel_rfl) (by kernel_rfl) (by kernel_rfl) (fun _ _ _ h => h) (Or.inl ⟨by rfl, fun W hSw => by go_simp⟩) hH ?_
          simp only [put_some, List.set_cons_zero, List.set_cons_succ]
          refine takeH (i := 6) (d := some 51) (v := .int .i64 (k : Int)) rfl rfl (by kernel_rfl) (by kernel_rfl) (by kernel_rfl) (fun _ _ _ h => h) (Or.inl ⟨by rfl, fun W hSw => by go_simp⟩) hH ?_
          simp only [put_some, List.set_cons_zero, List.set_cons_succ]
          refine takeH (i := 7) (d := some 52) (v := .pointer (some ⟨b, off + k * 3, none⟩)) rfl rfl (by kernel_rfl) (by kernel_rfl) (by kernel_rfl) (fun _ _ _ h => h) (Or.inl ⟨by rfl, fun W hSw => by go_simp⟩) hH ?_
          simp only [put_some, List.set_cons_zero, List.set_cons_succ]
          refine takeH (i := 8) (d := some 53) (v := .agg #[.int .i64 xt, .int .i64 xn, .string xs]) rfl rfl (by kernel_rfl) (by kernel_rfl) (by kernel_rfl) (fun _ _ _ h => h) (Or.inl ⟨by rfl, fun W hSw => by go_simp⟩) hH ?_
          simp only [put_some, List.set_cons_zero, List.set_cons_succ]
          refine takeH (i := 11) (d := some 56) (v := .slice (some ⟨g, 0, none⟩) m cp) rfl rfl (by kernel_rfl) (by kernel_rfl) (by kernel_rfl) (fun _ _ _ h => h) (Or.inl ⟨by rfl, fun W hSw => by go_simp⟩) hH ?_
          simp only [put_some, List.set_cons_zero, List.set_cons_succ]
          refine takeH (i := 12) (d := some 57) (v := .int .i64 (j : Int)) rfl rfl (by kernel_rfl) (by kernel_rfl) (by kernel_rfl) (fun _ _ _ h => h) (Or.inl ⟨by rfl, fun W hSw => by go_simp⟩) hH ?_
          simp only [put_some, List.set_cons_zero, List.set_cons_succ]
          refine takeH (i := 13) (d := some 58) (v := .slice (some ⟨g, tl, none⟩) (m - j) (cp - j)) rfl rfl (by kernel_rfl) (by kernel_rfl) (by kernel_rfl) (fun _ _ _ h => h) (Or.inl ⟨by rfl, fun W hSw => by go_simp⟩) hH ?_
          simp only [put_some, List.set_cons_zero, List.set_cons_succ]
          clear htl hjcp
          have D9 : Hid (∀ W, Below W9.heap.size W9 W → (∀ i u, (vals (d.take j))[i]? = some u → W.cell? ⟨g, 0 + i, none⟩ = some u) ∧ (∀ i u, (vals (d.drop j))[i]? = some u → W.cell? ⟨g, tl + i, none⟩ = some u)) := tails HM.out HDL.out hjm hcp HTL.out B9
          have S9 : Hid (∀ W, Below W9.heap.size W9 W → W.cell? ⟨b, off + k * 3, none⟩ = some (.int .i64 xt) ∧ W.cell? ⟨b, off + k * 3 + 1, none⟩ = some (.int .i64 xn) ∧ W.cell? ⟨b, off + k * 3 + 2, none⟩ = some (.string xs)) := fun W h => ⟨(h.cell (p := ⟨b, off + k * 3, none⟩) (lt_of_cell c3')).trans c3', (h.cell (p := ⟨b, off + k * 3 + 1, none⟩) (lt_of_cell c4')).trans c4', (h.cell (p := ⟨b, off + k * 3 + 2, none⟩) (lt_of_cell c5')).trans c5'⟩
          have HVL : Hid ((vals (d.take j)).length = j * 3 ∧ (vals (d.drop j)).length = (m - j) * 3) := by
            have e := HM.out
            refine ⟨?_, ?_⟩
            · rw [vals_len, List.length_take]; congr 1; omega
            · rw [vals_len, List.length_drop, e]
          have HFIN : Hid ((vals (d.take j) ++ V.cs ⟨xt, xn, xs⟩) ++ vals (d.drop j) = vals (insV d ⟨xt, xn, xs⟩) ∧ j + 1 + (m - j) = (insV d ⟨xt, xn, xs⟩).length) := by
            have e := HM.out
            rw [HO.out]
            refine ⟨by simp [vals], ?_⟩
            simp only [List.length_append, List.length_take, List.length_drop, List.length_cons, List.length_nil]
            omega
          have B0 : Below W9.heap.size W9 W9.drew := (Below.refl _ _).drew
          generalize hW0 : W9.drew = W0 at hH B0 ⊢
          clear hW0 c3' c4' c5'
          refine wpAnyH_ready (rs := [0, 9]) (by kernel_rfl) (by simp) ?_
          refine AllReadyH.cons rfl (fun K hK => ?_) (AllReadyH.cons rfl (fun K hK => ?_) AllReadyH.nil)
          · skip
            go_simp
            have B1 := B0.alloc B0.size (.cells #[] 41)
            have O1 := own_none (e := 41) (N := W9.heap.size) W0 B0.size
            refine hK.out _ _ (S9.out _ B1) (fun hH => ?_)
            clear hK K
            generalize W0.heap.size = g45 at O1 ⊢
            generalize W0.alloc (.cells #[] 41) = W1 at B1 O1 hH ⊢
            refine wpAnyH_ready (rs := [4, 9]) (by kernel_rfl) (by simp) ?_
            refine AllReadyH.cons rfl (fun K hK => ?_) (AllReadyH.cons rfl (fun K hK => ?_) AllReadyH.nil)
            · skip
              refine append_op Try.elemVals (.tmp 45) (.tmp 48) rfl W9.heap.size W1.heap.size (.slice (some ⟨g45, 0, none⟩) 0 0) 0 [] rfl O1 g 0 j cp (vals (d.take j)) rfl HVL.out.1 (D9.out _ B1).1 (vals_one _) (by unfold maxLen; omega) (by omega) ?_
              intro v49 W2 O2 E2
              have B2 := B1.trans (E2.below O1)
              rw [Nat.zero_add, List.nil_append] at O2
              obtain ⟨g49, c49, rfl⟩ : ∃ g c, v49 = .slice (some ⟨g, 0, none⟩) (j) c := by obtain ⟨g, c, e, _⟩ := O2; exact ⟨g, c, e⟩
              refine hK.out _ _ (S9.out _ B2) (fun hH => ?_)
              clear hK K E2
              refine wpAnyH_ready (rs := [9]) (by kernel_rfl) (by simp) ?_
              refine AllReadyH.cons rfl (fun K hK => ?_) AllReadyH.nil
              go_simp
              have B3 := B2.alloc B2.size (.cells #[.int .i64 xt, .int .i64 xn, .string xs] 41)
              have L3 : Lit1 W9.heap.size _ _ _ := Lit1.new W2 ⟨xt, xn, xs⟩ 41 B2.size
              have N3 := O2.notNew
              have O3 := O2.stay (.cells #[.int .i64 xt, .int .i64 xn, .string xs] 41)
              refine hK.out _ _ (S9.out _ B3) (fun hH => ?_)
              clear hK K
              generalize W2.heap.size = g54 at L3 O3 N3 ⊢
              generalize W2.alloc (.cells #[.int .i64 xt, .int .i64 xn, .string xs] 41) = W3 at B3 L3 O3 hH ⊢
              refine wpAnyH_ready (rs := [10]) (by kernel_rfl) (by simp) ?_
              refine AllReadyH.cons rfl (fun K hK => ?_) AllReadyH.nil
              refine append_op Try.elemVals (.tmp 49) (.tmp 54) rfl W9.heap.size W3.heap.size (.slice (some ⟨g49, 0, none⟩) j c49) j (vals (d.take j)) rfl O3 g54 0 1 1 (V.cs ⟨xt, xn, xs⟩) rfl rfl L3.2.2 (fun u hu => vals_one [⟨xt, xn, xs⟩] u (by simpa [vals] using hu)) (by unfold maxLen; omega) (by omega) ?_
              intro v55 W4 O4 E4
              have B4 := B3.trans (E4.below O3)
              obtain ⟨g55, c55, rfl⟩ : ∃ g c, v55 = .slice (some ⟨g, 0, none⟩) (j + 1) c := by obtain ⟨g, c, e, _⟩ := O4; exact ⟨g, c, e⟩
              refine hK.out _ _ (S9.out _ B4) (fun hH => ?_)
              clear hK K E4
              refine wpAnyH_ready (rs := [14]) (by kernel_rfl) (by simp) ?_
              refine AllReadyH.cons rfl (fun K hK => ?_) AllReadyH.nil
              refine append_op Try.elemVals (.tmp 55) (.tmp 58) rfl W9.heap.size W4.heap.size (.slice (some ⟨g55, 0, none⟩) (j + 1) c55) (j + 1) (vals (d.take j) ++ V.cs ⟨xt, xn, xs⟩) rfl O4 g tl (m - j) (cp - j) (vals (d.drop j)) rfl HVL.out.2 (D9.out _ B4).2 (vals_one _) (by unfold maxLen; omega) (by omega) ?_
              intro v59 W5 O5 E5
              have B5 := B4.trans (E5.below O4)
              rw [HFIN.out.1, HFIN.out.2] at O5
              obtain ⟨g59, c59, rfl⟩ : ∃ g c, v59 = .slice (some ⟨g, 0, none⟩) (insV d ⟨xt, xn, xs⟩).length c := by obtain ⟨g, c, e, _⟩ := O5; exact ⟨g, c, e⟩
              refine hK.out _ _ (S9.out _ B5) (fun hH => ?_)
              clear hK K E5
              refine takeH (i := 15) (d := some 3) (v := .slice (some ⟨g59, 0, none⟩) (insV d ⟨xt, xn, xs⟩).length c59) rfl rfl (by kernel_rfl) (by kernel_rfl) (by kernel_rfl) (fun _ _ _ h => h) (Or.inl ⟨by rfl, fun W hSw => by go_simp⟩) hH ?_
              try simp only [put_some, List.set_cons_zero, List.set_cons_succ]
              have OF := Lib.hid O5
              have BF := Lib.hid B5
              clear O5 B5
              refine wpAnyH_done (by kernel_rfl) ?_ _
              go_wp2
              go_roundw
              case rel => exact ⟨k + 1, by omega, by go_num, by rw [HSK.out]; exact OF.out.lower (Nat.le_trans HBR.out.size B9.size), below_then HBR.out (below_then B9 BF.out B9.size) HBR.out.size⟩
              case measure => simp [intOf]; omega
            · skip
              go_simp
              have B2 := B1.alloc B1.size (.cells #[.int .i64 xt, .int .i64 xn, .string xs] 41)
              have L2 : Lit1 W9.heap.size _ _ _ := Lit1.new W1 ⟨xt, xn, xs⟩ 41 B1.size
              have N2 := O1.notNew
              have O2 := O1.stay (.cells #[.int .i64 xt, .int .i64 xn, .string xs] 41)
              refine hK.out _ _ (S9.out _ B2) (fun hH => ?_)
              clear hK K
              generalize W1.heap.size = g54 at L2 O2 N2 ⊢
              generalize W1.alloc (.cells #[.int .i64 xt, .int .i64 xn, .string xs] 41) = W2 at B2 L2 O2 hH ⊢
              refine wpAnyH_ready (rs := [4]) (by kernel_rfl) (by simp) ?_
              refine AllReadyH.cons rfl (fun K hK => ?_) AllReadyH.nil
              refine append_op Try.elemVals (.tmp 45) (.tmp 48) rfl W9.heap.size W2.heap.size (.slice (some ⟨g45, 0, none⟩) 0 0) 0 [] rfl O2 g 0 j cp (vals (d.take j)) rfl HVL.out.1 (D9.out _ B2).1 (vals_one _) (by unfold maxLen; omega) (by omega) ?_
              intro v49 W3 O3 E3
              have B3 := B2.trans (E3.below O2)
              obtain ⟨L3, N3⟩ := L2.ext N2 E3
              rw [Nat.zero_add, List.nil_append] at O3
              obtain ⟨g49, c49, rfl⟩ : ∃ g c, v49 = .slice (some ⟨g, 0, none⟩) (j) c := by obtain ⟨g, c, e, _⟩ := O3; exact ⟨g, c, e⟩
              refine hK.out _ _ (S9.out _ B3) (fun hH => ?_)
              clear hK K E3
              refine wpAnyH_ready (rs := [10]) (by kernel_rfl) (by simp) ?_
              refine AllReadyH.cons rfl (fun K hK => ?_) AllReadyH.nil
              refine append_op Try.elemVals (.tmp 49) (.tmp 54) rfl W9.heap.size W3.heap.size (.slice (some ⟨g49, 0, none⟩) j c49) j (vals (d.take j)) rfl O3 g54 0 1 1 (V.cs ⟨xt, xn, xs⟩) rfl rfl L3.2.2 (fun u hu => vals_one [⟨xt, xn, xs⟩] u (by simpa [vals] using hu)) (by unfold maxLen; omega) (by omega) ?_
              intro v55 W4 O4 E4
              have B4 := B3.trans (E4.below O3)
              obtain ⟨g55, c55, rfl⟩ : ∃ g c, v55 = .slice (some ⟨g, 0, none⟩) (j + 1) c := by obtain ⟨g, c, e, _⟩ := O4; exact ⟨g, c, e⟩
              refine hK.out _ _ (S9.out _ B4) (fun hH => ?_)
              clear hK K E4
              refine wpAnyH_ready (rs := [14]) (by kernel_rfl) (by simp) ?_
              refine AllReadyH.cons rfl (fun K hK => ?_) AllReadyH.nil
              refine append_op Try.elemVals (.tmp 55) (.tmp 58) rfl W9.heap.size W4.heap.size (.slice (some ⟨g55, 0, none⟩) (j + 1) c55) (j + 1) (vals (d.take j) ++ V.cs ⟨xt, xn, xs⟩) rfl O4 g tl (m - j) (cp - j) (vals (d.drop j)) rfl HVL.out.2 (D9.out _ B4).2 (vals_one _) (by unfold maxLen; omega) (by omega) ?_
              intro v59 W5 O5 E5
              have B5 := B4.trans (E5.below O4)
              rw [HFIN.out.1, HFIN.out.2] at O5
              obtain ⟨g59, c59, rfl⟩ : ∃ g c, v59 = .slice (some ⟨g, 0, none⟩) (insV d ⟨xt, xn, xs⟩).length c := by obtain ⟨g, c, e, _⟩ := O5; exact ⟨g, c, e⟩
              refine hK.out _ _ (S9.out _ B5) (fun hH => ?_)
              clear hK K E5
              refine takeH (i := 15) (d := some 3) (v := .slice (some ⟨g59, 0, none⟩) (insV d ⟨xt, xn, xs⟩).length c59) rfl rfl (by kernel_rfl) (by kernel_rfl) (by kernel_rfl) (fun _ _ _ h => h) (Or.inl ⟨by rfl, fun W hSw => by go_simp⟩) hH ?_
              try simp only [put_some, List.set_cons_zero, List.set_cons_succ]
              have OF := Lib.hid O5
              have BF := Lib.hid B5
              clear O5 B5
              refine wpAnyH_done (by kernel_rfl) ?_ _
              go_wp2
              go_roundw
              case rel => exact ⟨k + 1, by omega, by go_num, by rw [HSK.out]; exact OF.out.lower (Nat.le_trans HBR.out.size B9.size), below_then HBR.out (below_then B9 BF.out B9.size) HBR.out.size⟩
              case measure => simp [intOf]; omega
          · skip
            go_simp
            have B1 := B0.alloc B0.size (.cells #[.int .i64 xt, .int .i64 xn, .string xs] 41)
            have L1 : Lit1 W9.heap.size _ _ _ := Lit1.new W0 ⟨xt, xn, xs⟩ 41 B0.size
            refine hK.out _ _ (S9.out _ B1) (fun hH => ?_)
            clear hK K
            generalize W0.heap.size = g54 at L1 ⊢
            generalize W0.alloc (.cells #[.int .i64 xt, .int .i64 xn, .string xs] 41) = W1 at B1 L1 hH ⊢
            refine wpAnyH_ready (rs := [0]) (by kernel_rfl) (by simp) ?_
            refine AllReadyH.cons rfl (fun K hK => ?_) AllReadyH.nil
            go_simp
            have B2 := B1.alloc B1.size (.cells #[] 41)
            have O2 := own_none (e := 41) (N := W9.heap.size) W1 B1.size
            have L2 := L1.alloc (.cells #[] 41)
            have N2 : Value.ownBlock (.slice (some ⟨W1.heap.size, 0, none⟩) 0 0) ≠ some g54 := by have := L1.2.1; simp only [Value.ownBlock, ne_eq, Option.some.injEq]; omega
            refine hK.out _ _ (S9.out _ B2) (fun hH => ?_)
            clear hK K
            generalize W1.heap.size = g45 at O2 L2 N2 ⊢
            generalize W1.alloc (.cells #[] 41) = W2 at B2 O2 L2 hH ⊢
            refine wpAnyH_ready (rs := [4]) (by kernel_rfl) (by simp) ?_
            refine AllReadyH.cons rfl (fun K hK => ?_) AllReadyH.nil
            refine append_op Try.elemVals (.tmp 45) (.tmp 48) rfl W9.heap.size W2.heap.size (.slice (some ⟨g45, 0, none⟩) 0 0) 0 [] rfl O2 g 0 j cp (vals (d.take j)) rfl HVL.out.1 (D9.out _ B2).1 (vals_one _) (by unfold maxLen; omega) (by omega) ?_
            intro v49 W3 O3 E3
            have B3 := B2.trans (E3.below O2)
            obtain ⟨L3, N3⟩ := L2.ext N2 E3
            rw [Nat.zero_add, List.nil_append] at O3
            obtain ⟨g49, c49, rfl⟩ : ∃ g c, v49 = .slice (some ⟨g, 0, none⟩) (j) c := by obtain ⟨g, c, e, _⟩ := O3; exact ⟨g, c, e⟩
            refine hK.out _ _ (S9.out _ B3) (fun hH => ?_)
            clear hK K E3
            refine wpAnyH_ready (rs := [10]) (by kernel_rfl) (by simp) ?_
            refine AllReadyH.cons rfl (fun K hK => ?_) AllReadyH.nil
            refine append_op Try.elemVals (.tmp 49) (.tmp 54) rfl W9.heap.size W3.heap.size (.slice (some ⟨g49, 0, none⟩) j c49) j (vals (d.take j)) rfl O3 g54 0 1 1 (V.cs ⟨xt, xn, xs⟩) rfl rfl L3.2.2 (fun u hu => vals_one [⟨xt, xn, xs⟩] u (by simpa [vals] using hu)) (by unfold maxLen; omega) (by omega) ?_
            intro v55 W4 O4 E4
            have B4 := B3.trans (E4.below O3)
            obtain ⟨g55, c55, rfl⟩ : ∃ g c, v55 = .slice (some ⟨g, 0, none⟩) (j + 1) c := by obtain ⟨g, c, e, _⟩ := O4; exact ⟨g, c, e⟩
            refine hK.out _ _ (S9.out _ B4) (fun hH => ?_)
            clear hK K E4
            refine wpAnyH_ready (rs := [14]) (by kernel_rfl) (by simp) ?_
            refine AllReadyH.cons rfl (fun K hK => ?_) AllReadyH.nil
            refine append_op Try.elemVals (.tmp 55) (.tmp 58) rfl W9.heap.size W4.heap.size (.slice (some ⟨g55, 0, none⟩) (j + 1) c55) (j + 1) (vals (d.take j) ++ V.cs ⟨xt, xn, xs⟩) rfl O4 g tl (m - j) (cp - j) (vals (d.drop j)) rfl HVL.out.2 (D9.out _ B4).2 (vals_one _) (by unfold maxLen; omega) (by omega) ?_
            intro v59 W5 O5 E5
            have B5 := B4.trans (E5.below O4)
            rw [HFIN.out.1, HFIN.out.2] at O5
            obtain ⟨g59, c59, rfl⟩ : ∃ g c, v59 = .slice (some ⟨g, 0, none⟩) (insV d ⟨xt, xn, xs⟩).length c := by obtain ⟨g, c, e, _⟩ := O5; exact ⟨g, c, e⟩
            refine hK.out _ _ (S9.out _ B5) (fun hH => ?_)
            clear hK K E5
            refine takeH (i := 15) (d := some 3) (v := .slice (some ⟨g59, 0, none⟩) (insV d ⟨xt, xn, xs⟩).length c59) rfl rfl (by kernel_rfl) (by kernel_rfl) (by kernel_rfl) (fun _ _ _ h => h) (Or.inl ⟨by rfl, fun W hSw => by go_simp⟩) hH ?_
            try simp only [put_some, List.set_cons_zero, List.set_cons_succ]
            have OF := Lib.hid O5
            have BF := Lib.hid B5
            clear O5 B5
            refine wpAnyH_done (by kernel_rfl) ?_ _
            go_wp2
            go_roundw
            case rel => exact ⟨k + 1, by omega, by go_num, by rw [HSK.out]; exact OF.out.lower (Nat.le_trans HBR.out.size B9.size), below_then HBR.out (below_then B9 BF.out B9.size) HBR.out.size⟩
            case measure => simp [intOf]; omega
    · obtain rfl : k = n := by omega
      rw [← HL.out, List.take_length] at hown
      go_wp2
      go_ret
      exact ⟨_, rfl, hown, hbr⟩

end Go.Proofs.Ythniakklkepomaa

/- The contract of the model's EncDict. -/
namespace Go.Proofs.Ythniakklkepomaa
open Go.RowKit

/-- EncDict. -/
def putAll (b : List Int) (d : List V) : List Int := d.foldl putV b
theorem putAll_snoc (b : List Int) (d : List V) (v : V) : putAll b (d ++ [v]) = putV (putAll b d) v := by simp [putAll]
theorem putAll_len (b : List Int) (d : List V) : (putAll b d).length ≤ b.length + 7 * d.length := by
  unfold putAll
  induction d generalizing b with
  | nil => simp
  | cons v d ih =>
    have h1 := ih (putV b v)
    have h2 := (putV_len b v).2
    simp only [List.foldl_cons, List.length_cons]
    omega
theorem putAll_bytes {b : List Int} (h : Num.Bytes b) (d : List V) : Num.Bytes (putAll b d) := by
  unfold putAll
  induction d generalizing b with
  | nil => exact h
  | cons v d ih => exact ih (putV_bytes h v)
def encD (l : List V) : List Int :=
  if typeV l = 0 then [] else putAll (Num.put [] (dictL l).length) (dictL l) ++ Bit.pack (placesL (dictL l) l).1 (Bit.widthI ((dictL l).length - 1))
theorem encD_bytes (l : List V) : Num.Bytes (encD l) := by
  unfold encD
  split
  · exact nil_bytes
  · exact bytes_append (putAll_bytes (Num.put_bytes nil_bytes _) _) (Bit.pack_bytes _ _)
theorem encD_len (l : List V) : (encD l).length ≤ 1024 := by
  unfold encD
  split
  · simp
  · rename_i h
    have h1 := typeV_len h
    have h2 := dict_len l
    have h3 := putAll_len (Num.put [] (dictL l).length) (dictL l)
    have h4 := Num.put_len [] ((dictL l).length : Int)
    have h5 := Bit.pack_le (placesL (dictL l) l).1 (Bit.widthI ((dictL l).length - 1))
    have h6 := places_len (dictL l) l
    simp only [List.length_append, List.length_nil] at *
    omega
theorem dict_all {l : List V} {p : V → Prop} (h : ∀ v ∈ l, p v) : ∀ v ∈ dictL l, p v := fun v hv => h v (mem_dict.1 hv)

set_option maxHeartbeats 2000000 in
theorem sEncDict (u : Value) (l : List V) (w : World) (hn : l.length ≤ 1048576) (hss : ∀ v ∈ l, v.s.size ≤ maxLen) (h : Rd 3 w u l.length (vals l)) :
    Calls Try.prog 28 #[u] w fun e w' => ∃ v', e = .returned v' ∧ Own 5 1 w.heap.size w'.heap.size w' v' (encD l).length (ints .u8 (encD l)) ∧ Below w.heap.size w w' := by
  have HE : Hid (encD l = if typeV l = 0 then [] else putAll (Num.put [] (dictL l).length) (dictL l) ++ Bit.pack (placesL (dictL l) l).1 (Bit.widthI ((dictL l).length - 1))) := rfl
  have HTL : Hid (¬ typeV l = 0 → l.length ≤ 64) := typeV_len
  have HT := Lib.hid (sTypeOf u l w hss h)
  have HD := Lib.hid (fun W (hW : Below w.heap.size w W) => sDict u l W hn (h.below hW))
  have HP := Lib.hid (fun x d W (hW : Below w.heap.size w W) (hx : Rd 3 W x d.length (vals d)) => sPlaces x u d l W hn hx (h.below hW))
  have HDL := Lib.hid (dict_len l)
  have HSD : Hid (∀ v ∈ dictL l, v.s.size ≤ maxLen) := dict_all hss
  generalize typeV l = ty at HE HTL HT
  generalize dictL l = d at HE HD HDL HSD
  clear hss h hn
  go_enter Try.func28, Try.ntmps28
  go_wp2_with fail
  refine HT.out.mono ?_
  rintro e w1 ⟨rfl, b1⟩
  clear HT
  by_cases ht : ty = 0
  · subst ht
    rw [if_pos rfl] at HE
    have O1 := own_lit (e := 5) (size := 1) w1 #[] 0 (Nat.zero_le _) rfl
    have B1 := b1.alloc b1.size (.cells #[] 5)
    have z1 := b1.size
    go_wp2
    go_ret
    rw [HE.out]
    exact ⟨_, rfl, O1.lower z1, B1⟩
  · have htb : (ty == 0) = false := by simpa using ht
    have h64 := HTL.out ht
    have hd64 : d.length ≤ 64 := Nat.le_trans HDL.out h64
    rw [if_neg ht] at HE
    clear ht HTL
    go_wp2_with fail
    refine (HD.out w1 b1).mono ?_
    rintro e w2 ⟨v2, rfl, o2, hb2⟩
    have b2 := below_then b1 hb2 b1.size
    replace o2 := o2.lower b1.size
    have HP2 := Lib.hid (HP.out v2 d w2 b2 o2.rd)
    clear hb2 HD htb b1
    go_wp2_with fail
    refine HP2.out.mono ?_
    rintro e w3 ⟨v3, rfl, o3, hb3⟩
    have b3 := below_then b2 hb3 b2.size
    have z3 := hb3.size
    replace o2 := o2.below hb3 (Nat.le_refl _)
    replace o3 := o3.lower b2.size
    clear hb3 HP2 HP
    generalize hp : (placesL d l).1 = p at o3 HE
    have HPL : Hid (p.length ≤ 64) := by
      show _ ≤ _
      rw [← hp]
      exact Nat.le_trans (places_len d l) h64
    clear hp h64
    have HDS : Hid (∀ k, k < d.length → putAll (Num.put [] d.length) (d.take (k + 1)) = putV (putAll (Num.put [] d.length) (d.take k)) (d.getD k V.zero)) := fun k hk => by
      rw [getDe d V.zero hk, List.take_succ_eq_append_getElem hk, putAll_snoc]
    have HDN : Hid (∀ k, k ≤ d.length → (putAll (Num.put [] d.length) (d.take k)).length ≤ 5 + 7 * k) := fun k hk => by
      have h1 := putAll_len (Num.put [] d.length) (d.take k)
      have h2 := Num.put_len [] (d.length : Int)
      have e : (d.take k).length = k := by simp; omega
      simp only [List.length_nil] at h2
      omega
    have HSS : Hid (∀ k, k < d.length → (d.getD k V.zero).s.size ≤ maxLen) := fun k hk => by
      rw [getDe d V.zero hk]
      exact HSD.out _ (List.getElem_mem hk)
    generalize hm : d.length = m at o2 HDS HDN HSS HE hd64
    have HM := Lib.hid hm
    obtain ⟨g2, cp2, rfl, hg1, hg2, hrow⟩ := o2
    have o2 : Own 41 3 w.heap.size w2.heap.size w3 (.slice (some ⟨g2, 0, none⟩) m cp2) m (vals d) := ⟨g2, cp2, rfl, hg1, hg2, hrow⟩
    clear hg1 hg2 hrow HDL HSD
    have O4 := own_lit (e := 5) (size := 1) w3 #[] 0 (Nat.zero_le _) rfl
    have hb4 := below_alloc w3 (.cells #[] 5)
    have HN := Lib.hid (sPutNum _ 0 [] (m : Int) _ (by omega) rfl O4.at)
    clear O4
    go_wp2_with fail
    refine HN.out.mono ?_
    rintro e w4 ⟨v4, rfl, o4, hb5⟩
    have hb6 := below_then hb4 hb5 hb4.size
    have b4 := below_then b3 hb6 b3.size
    have z4 := hb6.size
    replace o2 := o2.below hb6 z3
    replace o3 := o3.below hb6 (Nat.le_refl _)
    replace o4 := o4.lower (lo' := w.heap.size) (Nat.le_trans b3.size hb4.size)
    clear hb4 hb5 hb6 HN b3 b2
    obtain ⟨a', cap', e', _, HC⟩ := Rd.vals o2.rd hm
    simp only [Value.slice.injEq, true_and] at e'
    obtain ⟨rfl, rfl⟩ := e'
    clear hm
    have hput0 : Hid (putAll (Num.put [] m) (d.take 0) = Num.put [] m) := by
      show _ = _
      simp [putAll]
    rw [← hput0.out] at o4
    generalize hq0 : putAll (Num.put [] (m : Int)) = q at o4 HDS HDN HE
    clear hput0 hq0
    go_wp2
    go_loopw [6, 7] (fun o i wr => ∃ k : Nat, k ≤ m ∧ i = .int .i64 k ∧ Own 5 1 w.heap.size wr.heap.size wr o (q (d.take k)).length (ints .u8 (q (d.take k))) ∧ Below w4.heap.size w4 wr) (fun _ i _ => m - (intOf i).toNat)
    case atStart => exact ⟨0, Nat.zero_le _, rfl, o4, Below.refl _ _⟩
    case round =>
      obtain ⟨k, hk, rfl, hown, hbr⟩ := hrel
      by_cases hlt : k < m
      · obtain ⟨b, off, e', p0, p1, p2⟩ := HC.out k hlt
        simp only [Option.some.injEq, Addr.mk.injEq, and_true] at e'
        obtain ⟨rfl, rfl⟩ := e'
        have HSK := Lib.hid (HDS.out k hlt)
        have hel := HDN.out k hk
        have HP := Lib.hid (sPutVal _ (q (d.take k)).length (q (d.take k)) (d.getD k V.zero) wr (by omega) (HSS.out k hlt) rfl hown.at)
        rw [← HSK.out] at HP
        replace p0 := (hbr.cell (p := ⟨g2, 0 + k * 3, none⟩) (lt_of_cell p0)).trans p0
        replace p1 := (hbr.cell (p := ⟨g2, 0 + k * 3 + 1, none⟩) (lt_of_cell p1)).trans p1
        replace p2 := (hbr.cell (p := ⟨g2, 0 + k * 3 + 2, none⟩) (lt_of_cell p2)).trans p2
        generalize d.getD k V.zero = x at p0 p1 p2 HP
        obtain ⟨t1, n1, s1⟩ := x
        simp only [Nat.zero_add] at p0 p1 p2
        have z5 := hbr.size
        go_wp2_with fail
        refine HP.out.mono ?_
        rintro e w5 ⟨v5, rfl, o5, hb5⟩
        have B5 := below_then hbr hb5 hbr.size
        have O5 := Lib.hid (o5.lower (lo' := w.heap.size) (Nat.le_trans b4.size z5))
        clear o5 hb5 hbr hown HP p0 p1 p2
        go_wp2
        go_roundw
        case rel => exact ⟨k + 1, by omega, by go_num, O5.out, B5⟩
        case measure => simp [intOf]; omega
      · obtain rfl : k = m := by omega
        have hel := HDN.out k hk
        have hqd : Hid (d.take k = d) := by show _ = _; rw [← HM.out, List.take_length]
        rw [hqd.out] at hown hel
        replace o3 := o3.below hbr z4
        have b5 := below_then b4 hbr b4.size
        have z5 := hbr.size
        have HWD := Lib.hid (fun W => sWidthOf ((k : Int) - 1) W)
        generalize Bit.widthI ((k : Int) - 1) = wd at HWD HE
        have HPK := Lib.hid (sPackBits v3 p.length p (wd : Int) wr (by have := HPL.out; omega) rfl (.inr o3.at))
        have hpk : (Bit.pack p wd).length ≤ 256 := by
          have h1 := Bit.pack_le p wd
          have h2 := HPL.out
          omega
        generalize Bit.pack p (wd : Int) = pk at HPK HE hpk
        have HES : Hid (ints .u8 (q d) ++ ints .u8 pk = ints .u8 (encD l) ∧ (q d).length + pk.length = (encD l).length) := by
          rw [HE.out]
          exact ⟨(ints_append _ _ _).symm, (List.length_append).symm⟩
        clear hqd
        generalize hqn : (q d).length = qn at hown hel HES
        clear hqn
        generalize hpn : pk.length = pn at HPK HES hpk
        clear o3 hbr
        go_wp2_with (first | (go_at_call 45; refine (HWD.out _).mono ?_; rintro e w' ⟨rfl, rfl⟩) | fail)
        refine HPK.out.mono ?_
        rintro e w6 ⟨v6, rfl, o6, hb6⟩
        have b6 := below_then b5 hb6 b5.size
        replace hown := (hown.below hb6 (Nat.le_refl _)).wide hb6.size
        obtain ⟨g6, off6, cp6, rfl, hn6, hc6, hl6, hcs6⟩ := o6.at
        have HL6 := Lib.hid hl6
        have HC6 := Lib.hid hcs6
        clear hl6 hcs6 o6 hb6
        go_wp2_with (at_builtin; refine append_law Try.elemBytes rfl _ _ rfl _ _ _ _ _ rfl hown g6 off6 pn cp6 (ints .u8 pk) rfl HL6.out HC6.out (ints_one _ _) (by unfold maxLen; omega) (by omega) ?_)
        intro v7 w7 o7 e7
        have b7 := b6.trans (e7.below hown)
        rw [HES.out.1, HES.out.2] at o7
        have O7 := Lib.hid o7
        clear o7 e7 hown
        go_wp2
        go_ret
        exact ⟨_, rfl, O7.out, b7⟩

end Go.Proofs.Ythniakklkepomaa

/- The contract of the model's DecDict. -/
namespace Go.Proofs.Ythniakklkepomaa
open Go.RowKit

theorem getV_bound {zs : List Int} (hb : Num.Bytes zs) {i ty : Int} (h : (getV zs i ty).2.2 = true) : 0 ≤ (getV zs i ty).2.1 ∧ (getV zs i ty).2.1 ≤ zs.length := by
  unfold getV at h ⊢
  split
  · rename_i ht
    rw [if_pos ht] at h
    split
    · rename_i hg
      exact get_bound hb hg
    · rename_i hg
      rw [if_neg hg] at h
      cases h
  · rename_i ht
    rw [if_neg ht] at h
    split
    · rename_i hc
      rw [if_pos hc] at h
      have hi := Num.inB_true.1 hc.2
      unfold getT at h ⊢
      split
      · rename_i hg
        have hlt : i.toNat < zs.length := by omega
        have hm := hb (zs.getD i.toNat 0) (by rw [getDe zs 0 hlt]; exact List.getElem_mem hlt)
        have := hg.1
        simp only
        omega
      · rename_i hg
        rw [if_neg hg] at h
        cases h
    · rename_i hc
      rw [if_neg hc] at h
      cases h

/-- DecDict, behind the values of the dictionary. -/
def decT (zs : List Int) (k : Int) (d : List V) (i : Int) : List V × Bool :=
  if (Bit.unpack (zs.drop i.toNat) (Bit.widthI ((d.length : Int) - 1)) k).2 = true ∧ (pickedL d (Bit.unpack (zs.drop i.toNat) (Bit.widthI ((d.length : Int) - 1)) k).1).2 = true ∧ encD (pickedL d (Bit.unpack (zs.drop i.toNat) (Bit.widthI ((d.length : Int) - 1)) k).1).1 = zs
  then ((pickedL d (Bit.unpack (zs.drop i.toNat) (Bit.widthI ((d.length : Int) - 1)) k).1).1, true) else ([], false)
/-- DecDict. -/
def decD (zs : List Int) (ty k : Int) : List V × Bool :=
  if (Num.get zs 0).2.2 = true ∧ Num.inB k 1 64 = true ∧ Num.inB (Num.get zs 0).1 1 k = true then
    (match decL zs ty (Num.get zs 0).1.toNat (Num.get zs 0).2.1 with
      | some r => decT zs k r.1 r.2
      | none => ([], false))
  else ([], false)
theorem decT_len (zs : List Int) (k : Int) (d : List V) (i : Int) : (decT zs k d i).1.length ≤ 64 := by
  unfold decT
  split
  · exact Nat.le_trans (picked_len _ _) (Bit.unpack_le _ _ _)
  · simp
theorem decD_len (zs : List Int) (ty k : Int) : (decD zs ty k).1.length ≤ 64 := by
  unfold decD
  split
  · split
    · exact decT_len _ _ _ _
    · simp
  · simp
theorem picked_all {d : List V} {p : List Int} {q : V → Prop} (h : ∀ v ∈ d, q v) : ∀ v ∈ (pickedL d p).1, q v := by
  unfold pickedL
  split
  · rename_i ha
    intro v hv
    obtain ⟨x, hx, rfl⟩ := List.mem_map.1 hv
    have h2 := of_decide_eq_true (List.all_eq_true.1 ha x hx)
    have hlt : x.toNat < d.length := by omega
    rw [getDe d V.zero hlt]
    exact h _ (List.getElem_mem hlt)
  · simp
theorem decL_size {zs : List Int} {ty : Int} : ∀ {n : Nat} {i : Int} {r : List V × Int}, decL zs ty n i = some r → ∀ u ∈ r.1, u.s.size ≤ maxLen := by
  intro n
  induction n with
  | zero =>
    intro i r h u hu
    simp only [decL, Option.some.injEq] at h
    subst h
    cases hu
  | succ n ih =>
    intro i r h u hu
    rw [decL] at h
    split at h
    · obtain ⟨q, hq, rfl⟩ := Option.map_eq_some_iff.1 h
      rcases List.mem_cons.1 hu with rfl | hu
      · exact getV_size _ _ _
      · exact ih hq u hu
    · cases h

end Go.Proofs.Ythniakklkepomaa

/- Plain mathematics of chapter 7: decoding gives back what was encoded; what decodes is what its values encode to. -/
namespace Go.Proofs.Ythniakklkepomaa
open Go.RowKit

/-- The bytes of values. -/
def bodyV (d : List V) : List Int := d.flatMap valB
theorem putAll_body : ∀ (d : List V) (b : List Int), (∀ v ∈ d, okV v = true) → putAll b d = b ++ bodyV d
  | [], b, _ => by simp [putAll, bodyV]
  | v :: d, b, h => by
    have h1 := h v List.mem_cons_self
    have ih := putAll_body d (b ++ valB v) (fun x hx => h x (List.mem_cons_of_mem _ hx))
    unfold putAll at ih ⊢
    rw [List.foldl_cons, putV_val h1, ih]
    simp [bodyV]
theorem decL_body {ty : Int} : ∀ (d : List V) (b rest : List Int), (∀ v ∈ d, okV v = true ∧ v.ty = ty) → decL (b ++ (bodyV d ++ rest)) ty d.length b.length = some (d, ((b ++ bodyV d).length : Int))
  | [], b, rest, _ => by simp [decL, bodyV]
  | v :: d, b, rest, h => by
    have h1 := h v List.mem_cons_self
    have e1 : b ++ (bodyV (v :: d) ++ rest) = b ++ (valB v ++ (bodyV d ++ rest)) := by simp [bodyV]
    have e3 : b ++ (bodyV (v :: d) ++ rest) = (b ++ valB v) ++ (bodyV d ++ rest) := by simp [bodyV]
    have g : getV (b ++ (bodyV (v :: d) ++ rest)) b.length ty = (v, ((b ++ valB v).length : Int), true) := by
      rw [e1, ← h1.2]
      exact getV_val h1.1 _ _
    have ih := decL_body d (b ++ valB v) rest (fun x hx => h x (List.mem_cons_of_mem _ hx))
    rw [← e3] at ih
    rw [List.length_cons, decL, g]
    simp only [if_true]
    rw [ih]
    simp [bodyV]
theorem places_fit {D l : List V} (h : ∀ v ∈ l, v ∈ D) (h1 : 1 ≤ D.length) (h2 : D.length ≤ 64) : Bit.fitsB (l.map (inI D)) (Bit.widthI ((D.length : Int) - 1) : Nat) = true := by
  refine Bit.digs_fits (fun x hx => ?_) (Bit.widthI_le31 _)
  obtain ⟨v, hv, rfl⟩ := List.mem_map.1 hx
  obtain ⟨i, hi⟩ := inD_mem (h v hv)
  have hlt := (inD_some hi).1
  rw [inI_some hi]
  have hw := (Bit.widthI_in (x := (D.length : Int) - 1) (by omega) (by omega) (Bit.widthI ((D.length : Int) - 1))).1 (Nat.le_refl _)
  exact ⟨by omega, Bit.lt_of_toNat (by omega)⟩
theorem dec_encD {l : List V} (h : ¬ typeV l = 0) : decD (encD l) (typeV l) l.length = (l, true) := by
  obtain ⟨h1, h64, hall⟩ := typeV_parts h
  have hk : Num.inB (l.length : Int) 1 64 = true := Num.inB_true.2 ⟨by omega, by omega⟩
  have hD : ∀ v ∈ dictL l, okV v = true ∧ v.ty = typeV l := dict_all hall
  have hm : ∀ v ∈ l, v ∈ dictL l := fun v hv => mem_dict.2 hv
  have hl := dict_len l
  have hpos : 1 ≤ (dictL l).length := by
    have : l[0] ∈ dictL l := mem_dict.2 (List.getElem_mem _)
    have := List.length_pos_of_mem this
    omega
  have hfit := places_fit hm hpos (by omega)
  have hpm := places_mem hm
  have hpp := picked_places hm
  have hul := Bit.unpack_pack hfit (by simp; omega)
  rw [List.length_map] at hul
  have he : encD l = putAll (Num.put [] (dictL l).length) (dictL l) ++ Bit.pack (l.map (inI (dictL l))) (Bit.widthI ((dictL l).length - 1)) := by
    unfold encD
    rw [if_neg h, hpm]
  have hE := he
  generalize dictL l = D at *
  have hok : Num.ok (D.length : Int) := by unfold Num.ok; omega
  generalize hpk : Bit.pack (l.map (inI D)) (Bit.widthI ((D.length : Int) - 1) : Nat) = pk at *
  generalize hb0 : Num.grp 4 (Num.zig (D.length : Int)) = b0 at *
  have he2 : encD l = b0 ++ (bodyV D ++ pk) := by
    rw [he, putAll_body _ _ (fun v hv => (hD v hv).1), Num.put_ok hok, hb0]
    simp
  have hg : Num.get (encD l) 0 = ((D.length : Int), (b0.length : Int), true) := by
    have := get_grp (b := []) (rest := bodyV D ++ pk) hok
    rw [hb0] at this
    rw [he2]
    exact this
  have hd : decL (encD l) (typeV l) D.length b0.length = some (D, ((b0 ++ bodyV D).length : Int)) := by
    rw [he2]
    exact decL_body D b0 pk hD
  have hdrop : (encD l).drop (b0 ++ bodyV D).length = pk := by
    rw [he2, ← List.append_assoc]
    simp
  unfold decD
  rw [hg]
  simp only
  rw [if_pos ⟨trivial, hk, Num.inB_true.2 ⟨by omega, by omega⟩⟩, Int.toNat_natCast, hd]
  simp only
  unfold decT
  rw [Int.toNat_natCast, hdrop, hul]
  simp only
  rw [hpp]
  simp
theorem decL_ok {zs : List Int} (hb : Num.Bytes zs) {ty : Int} : ∀ {n : Nat} {i : Int} {r : List V × Int}, decL zs ty n i = some r → ∀ v ∈ r.1, okV v = true ∧ v.ty = ty := by
  intro n
  induction n with
  | zero =>
    intro i r h v hv
    simp only [decL, Option.some.injEq] at h
    subst h
    cases hv
  | succ n ih =>
    intro i r h v hv
    rw [decL] at h
    split at h
    · rename_i hg
      obtain ⟨q, hq, rfl⟩ := Option.map_eq_some_iff.1 h
      rcases List.mem_cons.1 hv with rfl | hv
      · exact getV_ok hb hg
      · exact ih hq v hv
    · cases h
theorem picked_true {d : List V} {p : List Int} (h : (pickedL d p).2 = true) : (pickedL d p).1.length = p.length := by
  unfold pickedL at h ⊢
  split
  · simp
  · rename_i hc
    rw [if_neg hc] at h
    cases h
theorem dec_okD {zs : List Int} (hb : Num.Bytes zs) {ty k : Int} (h : (decD zs ty k).2 = true) : encD (decD zs ty k).1 = zs ∧ ((decD zs ty k).1.length : Int) = k ∧ typeV (decD zs ty k).1 = ty := by
  unfold decD at h ⊢
  split
  · rename_i hc
    rw [if_pos hc] at h
    have hkk := Num.inB_true.1 hc.2.1
    split
    · rename_i r hr
      rw [hr] at h
      simp only at h ⊢
      unfold decT at h ⊢
      split
      · rename_i hq
        have hp := picked_true hq.2.1
        have hl : (((Bit.unpack (zs.drop r.2.toNat) (Bit.widthI ((r.1.length : Int) - 1)) k).1.length : Nat) : Int) = k :=
          (Bit.pack_unpack (fun x hx => hb x (List.mem_of_mem_drop hx)) (Prod.ext rfl hq.1)).2
        simp only
        refine ⟨hq.2.2, by rw [hp]; exact hl, typeV_of (by omega) (by omega) ?_⟩
        exact picked_all (decL_ok hb hr)
      · rename_i hq
        rw [if_neg hq] at h
        cases h
    · rename_i hr
      rw [hr] at h
      cases h
  · rename_i hc
    rw [if_neg hc] at h
    cases h
theorem asc_next {d : List V} (h : Asc d) {i : Nat} (hi : i + 1 < d.length) : lessV (d.getD i V.zero) (d.getD (i + 1) V.zero) = true := by
  rw [getDe d V.zero (by omega : i < d.length), getDe d V.zero hi]
  exact (List.pairwise_iff_getElem.1 h) i (i + 1) (by omega) hi (by omega)

end Go.Proofs.Ythniakklkepomaa

/- Chapter 7's exact laws, walked; the program's own contracts come as hypotheses. -/
namespace Go.Proofs.Ythniakklkepomaa
open Go.RowKit

def CDict : Prop := ∀ (u : Value) (l : List V) (w : World), l.length ≤ 1048576 → (∀ v ∈ l, v.s.size ≤ maxLen) → Rd 3 w u l.length (vals l) → Calls Try.prog 62 #[u] w fun e w' => ∃ v', e = .returned v' ∧ Own 41 3 w.heap.size w'.heap.size w' v' (dictL l).length (vals (dictL l)) ∧ Below w.heap.size w w'
def CPlaces : Prop := ∀ (u v : Value) (d l : List V) (w : World), d.length ≤ 1048576 → l.length ≤ 1048576 → Rd 3 w u d.length (vals d) → Rd 3 w v l.length (vals l) → Calls Try.prog 63 #[u, v] w (Unpacked w (placesL d l))
def CEncDict : Prop := ∀ (u : Value) (l : List V) (w : World), l.length ≤ 1048576 → (∀ v ∈ l, v.s.size ≤ maxLen) → Rd 3 w u l.length (vals l) → Calls Try.prog 50 #[u] w fun e w' => ∃ v', e = .returned v' ∧ Own 5 1 w.heap.size w'.heap.size w' v' (encD l).length (ints .u8 (encD l)) ∧ Below w.heap.size w w'
theorem encD_len' (l : List V) : (encD l).length ≤ 1024 + l.length := by
  have := encD_len l
  omega

end Go.Proofs.Ythniakklkepomaa

/- The contracts of impl's InDict (with slices.Index) and Picked. -/
namespace Go.Proofs.Ythniakklkepomaa
open Go.RowKit

theorem eqB_comm (x y : V) : x.eqB y = y.eqB x := by
  cases h : y.eqB x with
  | true => exact eqB_true.2 (eqB_true.1 h).symm
  | false => exact eqB_false.2 (fun e => eqB_false.1 h e.symm)

end Go.Proofs.Ythniakklkepomaa
