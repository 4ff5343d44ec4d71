/- The contract of the model's Dict. -/
import Derived.Test.YthniakklkepomaaS7
import Derived.Test.YthniakklkepomaaL5S
namespace Go.Proofs.Ythniakklkepomaa
open Go.RowKit

/-- append(s, x...) as one operation: s owned, x read at ⟨b, off⟩. -/
theorem append_op {P : Program} {t e : TypeId} {z : Value} {size bytes : Nat} (T : ElemT P t e z size bytes) {w : World} {o : Oper} {a : Act} {K : Act → World → Prop} {Q : Exit → Act → World → Prop} (s x : Operand)
    (ho : o.op = .call { callee := .builtin .append, args := #[s, x], argTypes := #[t, t] })
    (lo hi : Nat) (v : Value) (n : Nat) (xs : List Value) (hs : a.eval s = v) (hown : Own e size lo hi w v n xs)
    (b off m c : Nat) (news : List Value) (hx : a.eval x = .slice (some ⟨b, off, none⟩) m c) (hl : news.length = m * size) (hnews : ∀ j u, news[j]? = some u → w.cell? ⟨b, off + j, none⟩ = some u) (h1 : ∀ u ∈ news, u.oneCell' = true)
    (h63 : n + m ≤ maxLen) (hbytes : (n + m) * bytes ≤ 140737488355328)
    (h : ∀ v' w', Own e size lo w'.heap.size w' v' (n + m) (xs ++ news) → Ext w w' v v' → K (a.put o.dst v') w') : Oper.wp P o a w K Q := by
  obtain ⟨v', w', hr, h2, h3⟩ := append_block w t o.type e z size bytes T lo hi v n xs hown ⟨b, off, none⟩ m c news hl (fun j u hu => by rw [addr_add]; exact hnews j u hu) h1 h63 hbytes
  unfold Oper.wp execOp
  simp only [ho, resolve, invoke, builtin, Sem.run_bind, Sem.run_pure, Result.andThen_ok, List.map_toArray, List.map_cons, List.map_nil, hs, hx, hr]
  exact h v' w' h2 h3
theorem lit_new (w : World) (x : V) (e : TypeId) : ∀ j u, (V.cs x)[j]? = some u → (w.alloc (.cells #[.int .i64 x.ty, .int .i64 x.n, .string x.s] e)).cell? ⟨w.heap.size, 0 + j, none⟩ = some u := by
  intro j u hu
  match j, hu with
  | 0, hu => simp [V.cs] at hu; subst hu; simp
  | 1, hu => simp [V.cs] at hu; subst hu; simp
  | 2, hu => simp [V.cs] at hu; subst hu; simp
theorem lit_ext {W W' : World} {v v' : Value} {h : Nat} {cs : List Value} (hX : ∀ j u, cs[j]? = some u → W.cell? ⟨h, 0 + j, none⟩ = some u) (hlt : h < W.heap.size) (hne : v.ownBlock ≠ some h) (e : Ext W W' v v') :
    (∀ j u, cs[j]? = some u → W'.cell? ⟨h, 0 + j, none⟩ = some u) ∧ h < W'.heap.size ∧ v'.ownBlock ≠ some h := by
  refine ⟨fun j u hu => ?_, Nat.lt_of_lt_of_le hlt e.grown.size, fun hv => ?_⟩
  · rw [World.cell?_of_block (w := W) (e.grown.block h hlt (fun k => hne k.symm))]
    exact hX j u hu
  · rcases e.blk with k | ⟨g, k, hg⟩
    · exact hne (k.symm.trans hv)
    · rw [k] at hv
      simp at hv
      omega
/-- A Val just laid as a literal of one. -/
def Lit1 (N : Nat) (W : World) (h : Nat) (x : V) : Prop := N ≤ h ∧ h < W.heap.size ∧ ∀ j u, (V.cs x)[j]? = some u → W.cell? ⟨h, 0 + j, none⟩ = some u
theorem Lit1.alloc {N : Nat} {W : World} {h : Nat} {x : V} (k : Lit1 N W h x) (o : Obj) : Lit1 N (W.alloc o) h x :=
  ⟨k.1, by have := k.2.1; simp; omega, fun j u hu => ((below_alloc W o).cell (p := ⟨h, 0 + j, none⟩) k.2.1).trans (k.2.2 j u hu)⟩
theorem Lit1.new {N : Nat} (W : World) (x : V) (e : TypeId) (hN : N ≤ W.heap.size) : Lit1 N (W.alloc (.cells #[.int .i64 x.ty, .int .i64 x.n, .string x.s] e)) W.heap.size x := ⟨hN, by simp, lit_new W x e⟩
theorem Lit1.ext {N : Nat} {W W' : World} {v v' : Value} {h : Nat} {x : V} (k : Lit1 N W h x) (hne : v.ownBlock ≠ some h) (e : Ext W W' v v') : Lit1 N W' h x ∧ v'.ownBlock ≠ some h :=
  ⟨⟨k.1, (lit_ext k.2.2 k.2.1 hne e).2.1, (lit_ext k.2.2 k.2.1 hne e).1⟩, (lit_ext k.2.2 k.2.1 hne e).2.2⟩
theorem Own.notNew {e size lo w v n xs} (h : Own e size lo w.heap.size w v n xs) : v.ownBlock ≠ some w.heap.size := by
  obtain ⟨g, cap, rfl, h1, h2, h3⟩ := h
  simp only [Value.ownBlock, ne_eq, Option.some.injEq]
  omega
theorem own_none {e : TypeId} {N : Nat} (W : World) (hN : N ≤ W.heap.size) : Own e 3 N (W.alloc (.cells #[] e)).heap.size (W.alloc (.cells #[] e)) (.slice (some ⟨W.heap.size, 0, none⟩) 0 0) 0 [] :=
  (own_lit (e := e) (size := 3) W #[] 0 (Nat.zero_le _) rfl).lower hN
theorem Own.stay {e size lo w v n xs} (h : Own e size lo w.heap.size w v n xs) (o : Obj) : Own e size lo (w.alloc o).heap.size (w.alloc o) v n xs := (h.alloc o).wide (by simp)
theorem vals_one (l : List V) : ∀ u ∈ vals l, u.oneCell' = true := by
  intro u hu
  obtain ⟨v, _, hv⟩ := List.mem_flatMap.1 hu
  simp only [V.cs, List.mem_cons, List.not_mem_nil, or_false] at hv
  rcases hv with rfl | rfl | rfl <;> rfl
theorem vals_take (l : List V) (c : Nat) : vals (l.take c) = (vals l).take (c * 3) := by
  induction l generalizing c with
  | nil => simp [vals]
  | cons v l ih =>
    cases c with
    | zero => simp [vals]
    | succ c =>
      have := ih c
      simp only [vals] at this ⊢
      rw [List.take_succ_cons, List.flatMap_cons, List.flatMap_cons, this, show (c + 1) * 3 = 3 + c * 3 by omega, List.take_append, List.take_of_length_le (show (V.cs v).length ≤ 3 + c * 3 by simp only [V.cs, List.length_cons, List.length_nil]; omega)]
      simp [V.cs]
theorem vals_drop (l : List V) (c : Nat) : vals (l.drop c) = (vals l).drop (c * 3) := by
  induction l generalizing c with
  | nil => simp [vals]
  | cons v l ih =>
    cases c with
    | zero => simp [vals]
    | succ c =>
      have := ih c
      simp only [vals] at this ⊢
      rw [List.drop_succ_cons, List.flatMap_cons, this, show (c + 1) * 3 = 3 + c * 3 by omega, List.drop_append]
      simp [V.cs]
/-- The two parts of a dictionary that is read, in a later world. -/
theorem tails {wo W9 : World} {d : List V} {m j g cp tl : Nat} (hm : d.length = m) (hc : ∀ i u, (vals d)[i]? = some u → wo.cell? ⟨g, 0 + i, none⟩ = some u) (hj : j ≤ m) (hcp : m ≤ cp) (ht : j < cp → tl = j * 3) (B : Below wo.heap.size wo W9) :
    ∀ W, Below W9.heap.size W9 W → (∀ i u, (vals (d.take j))[i]? = some u → W.cell? ⟨g, 0 + i, none⟩ = some u) ∧ (∀ i u, (vals (d.drop j))[i]? = some u → W.cell? ⟨g, tl + i, none⟩ = some u) := by
  intro W hW
  have hc2 : ∀ i u, (vals d)[i]? = some u → W.cell? ⟨g, 0 + i, none⟩ = some u := fun i u hu => by
    have h1 := hc i u hu
    have h2 := (B.cell (p := ⟨g, 0 + i, none⟩) (lt_of_cell h1)).trans h1
    exact (hW.cell (p := ⟨g, 0 + i, none⟩) (lt_of_cell h2)).trans h2
  refine ⟨fun i u hu => hc2 i u ?_, fun i u hu => ?_⟩
  · rw [vals_take] at hu
    rw [← hu, List.getElem?_take_of_lt]
    have := (List.getElem?_eq_some_iff.1 hu).1
    simp at this
    omega
  · have hlt := (List.getElem?_eq_some_iff.1 hu).1
    rw [vals_len, List.length_drop] at hlt
    have hjm : j < cp := by omega
    rw [vals_drop, List.getElem?_drop] at hu
    have := hc2 (j * 3 + i) u hu
    rw [ht hjm]
    rw [Nat.zero_add] at this
    exact this

set_option maxRecDepth 100000 in
set_option maxHeartbeats 4000000 in
theorem sDict (u : Value) (l : List V) (w : World) (hn : l.length ≤ 1048576) (h : Rd 3 w u l.length (vals l)) :
    Calls Try.prog 42 #[u] w fun e w' => ∃ v', e = .returned v' ∧ Own 41 3 w.heap.size w'.heap.size w' v' (dictL l).length (vals (dictL l)) ∧ Below w.heap.size w w' := by
  have hown0 := own_lit (e := 41) (size := 3) w #[] 0 (Nat.zero_le _) rfl
  have hb0 := below_alloc w (.cells #[] 41)
  generalize hl : l.length = n at h hn
  obtain ⟨a, cap, rfl, _, HC⟩ := h.vals hl
  have HL := Lib.hid hl
  have HS : Hid (∀ k, k < n → dictL (l.take (k + 1)) = insV (dictL (l.take k)) (l.getD k V.zero)) := fun k hk => by
    have hk' : k < l.length := by omega
    rw [getDe l V.zero hk', List.take_succ_eq_append_getElem hk', dict_snoc]
  have HLEN : Hid (∀ k, k ≤ n → (dictL (l.take k)).length ≤ k) := fun k hk => by
    have h1 := dict_len (l.take k)
    have e : (l.take k).length = k := by simp; omega
    omega
  clear hl h
  go_enter Try.func42, Try.ntmps42
  go_wp2
  go_loopw [3, 4] (fun o i wr => ∃ k : Nat, k ≤ n ∧ i = .int .i64 k ∧ Own 41 3 w.heap.size wr.heap.size wr o (dictL (l.take k)).length (vals (dictL (l.take k))) ∧ Below w.heap.size w wr) (fun _ i _ => n - (intOf i).toNat)
  case atStart => exact ⟨0, Nat.zero_le _, rfl, hown0, hb0⟩
  case round =>
    obtain ⟨k, hk, rfl, hown, hbr⟩ := hrel
    by_cases hlt : k < n
    · obtain ⟨b, off, rfl, p0, p1, p2⟩ := HC.out k hlt
      have HSK := Lib.hid (HS.out k hlt)
      have hrl := HLEN.out k hk
      replace p0 := (hbr.cell (p := ⟨b, off + k * 3, none⟩) (lt_of_cell p0)).trans p0
      replace p1 := (hbr.cell (p := ⟨b, off + k * 3 + 1, none⟩) (lt_of_cell p1)).trans p1
      replace p2 := (hbr.cell (p := ⟨b, off + k * 3 + 2, none⟩) (lt_of_cell p2)).trans p2
      generalize l.getD k V.zero = x at p0 p1 p2 HSK
      generalize dictL (l.take k) = d at hown hrl HSK
      obtain ⟨g, cp, rfl, hg1, hg2, hrow⟩ := hown
      have hown : Own 41 3 w.heap.size wr.heap.size wr (.slice (some ⟨g, 0, none⟩) d.length cp) d.length (vals d) := ⟨g, cp, rfl, hg1, hg2, hrow⟩
      obtain ⟨b', off', cp', e', hcp, hcm, _, hcs⟩ := hown.at
      simp only [Value.slice.injEq, Option.some.injEq, Addr.mk.injEq, and_true, true_and] at e'
      obtain ⟨⟨rfl, rfl⟩, rfl⟩ := e'
      unfold maxLen at hcm
      have HCS := Lib.hid hcs
      have HD3 : Hid (∀ j, j < d.length → wr.cell? ⟨g, j * 3, none⟩ = some (.int .i64 (d.getD j V.zero).ty) ∧ wr.cell? ⟨g, j * 3 + 1, none⟩ = some (.int .i64 (d.getD j V.zero).n) ∧ wr.cell? ⟨g, j * 3 + 2, none⟩ = some (.string (d.getD j V.zero).s)) := fun j hj => by
        have := cells3 (b := g) (off := 0) hcs hj
        rw [getDe d V.zero hj]
        simpa using this
      have HDL := Lib.hid hcs
      clear hcs hrow
      have HCL := Lib.hid (cutV_le d x)
      have HST : Hid (∀ j, j ≤ cutV d x → j < d.length → lessV (d.getD j V.zero) x = true → j + 1 ≤ cutV d x) := fun j h1 h2 h3 => cutV_step h1 h2 h3
      have HSP : Hid (∀ j, j ≤ cutV d x → (j = d.length ∨ lessV (d.getD j V.zero) x = false) → j = cutV d x) := fun j h1 h2 => cutV_stop h1 h2
      have HNEW : Hid ((cutV d x = d.length ∨ (d.getD (cutV d x) V.zero).eqB x = false) → insV d x = (d.take (cutV d x) ++ [x]) ++ d.drop (cutV d x)) := insV_new
      have HOLD : Hid (cutV d x < d.length → (d.getD (cutV d x) V.zero).eqB x = true → insV d x = d) := insV_old
      generalize hm : d.length = m at hown hrl HD3 HCL HST HSP HNEW HOLD hcp
      have HM := Lib.hid hm
      clear hm
      obtain ⟨wo, rfl⟩ : ∃ wo, wo = wr := ⟨_, rfl⟩
      go_wp2
      go_loopw [5] (fun i wr2 => ∃ j : Nat, i = .int .i64 j ∧ j ≤ cutV d x ∧ Below wo.heap.size wo wr2) (fun i _ => cutV d x + 1 - (intOf i).toNat)
      case atStart => exact ⟨0, rfl, Nat.zero_le _, Below.refl _ _⟩
      case round =>
        obtain ⟨j, rfl, hjc, hb2⟩ := hrel
        have hjm : j ≤ m := Nat.le_trans hjc HCL.out
        replace p0 := (hb2.cell (p := ⟨b, off + k * 3, none⟩) (lt_of_cell p0)).trans p0
        replace p1 := (hb2.cell (p := ⟨b, off + k * 3 + 1, none⟩) (lt_of_cell p1)).trans p1
        replace p2 := (hb2.cell (p := ⟨b, off + k * 3 + 2, none⟩) (lt_of_cell p2)).trans p2
        by_cases hjl : j < m
        · obtain ⟨q0, q1, q2⟩ := HD3.out j hjl
          replace q0 := (hb2.cell (p := ⟨g, j * 3, none⟩) (lt_of_cell q0)).trans q0
          replace q1 := (hb2.cell (p := ⟨g, j * 3 + 1, none⟩) (lt_of_cell q1)).trans q1
          replace q2 := (hb2.cell (p := ⟨g, j * 3 + 2, none⟩) (lt_of_cell q2)).trans q2
          have HL1 := Lib.hid (HST.out j hjc hjl)
          have HL2 := Lib.hid (fun h => HSP.out j hjc (.inr h))
          have HEQ : Hid (j = cutV d x → d.getD (cutV d x) V.zero = d.getD j V.zero) := fun h => by rw [h]
          generalize d.getD j V.zero = y at q0 q1 q2 HL1 HL2 HEQ
          have HX := Lib.hid (fun W => sLessVal y x W)
          have HK : Hid (∀ W, Below wr.heap.size wr W → W.cell? ⟨g, j * 3, none⟩ = some (.int .i64 y.ty) ∧ W.cell? ⟨g, j * 3 + 1, none⟩ = some (.int .i64 y.n) ∧ W.cell? ⟨g, j * 3 + 2, none⟩ = some (.string y.s) ∧ W.cell? ⟨b, off + k * 3, none⟩ = some (.int .i64 x.ty) ∧ W.cell? ⟨b, off + k * 3 + 1, none⟩ = some (.int .i64 x.n) ∧ W.cell? ⟨b, off + k * 3 + 2, none⟩ = some (.string x.s)) := fun W h =>
            ⟨(h.cell (p := ⟨g, j * 3, none⟩) (lt_of_cell q0)).trans q0, (h.cell (p := ⟨g, j * 3 + 1, none⟩) (lt_of_cell q1)).trans q1, (h.cell (p := ⟨g, j * 3 + 2, none⟩) (lt_of_cell q2)).trans q2, (h.cell (p := ⟨b, off + k * 3, none⟩) (lt_of_cell p0)).trans p0, (h.cell (p := ⟨b, off + k * 3 + 1, none⟩) (lt_of_cell p1)).trans p1, (h.cell (p := ⟨b, off + k * 3 + 2, none⟩) (lt_of_cell p2)).trans p2⟩
          have hB' := (Below.refl wr.heap.size wr).drew
          generalize hc : cutV d x = c at HL1 HL2 HEQ HCL HNEW HOLD hjc
          have HCC := Lib.hid hc
          clear hc
          generalize lessV y x = lb at HL1 HL2 HX
          obtain ⟨xt, xn, xs⟩ := x
          obtain ⟨yt, yn, ys⟩ := y
          simp only at p0 p1 p2 q0 q1 q2 HK
          have HOWN := Lib.hid hown
          have HBR := Lib.hid hbr
          have HB2 := Lib.hid hb2
          clear hown hbr hb2
          go_wp2
          go_region_held3 (fun W => W.cell? ⟨g, j * 3, none⟩ = some (.int .i64 yt) ∧ W.cell? ⟨g, j * 3 + 1, none⟩ = some (.int .i64 yn) ∧ W.cell? ⟨g, j * 3 + 2, none⟩ = some (.string ys) ∧ W.cell? ⟨b, off + k * 3, none⟩ = some (.int .i64 xt) ∧ W.cell? ⟨b, off + k * 3 + 1, none⟩ = some (.int .i64 xn) ∧ W.cell? ⟨b, off + k * 3 + 2, none⟩ = some (.string xs)) (exact HK.out _ hB') ((go_at_call 57; (with_reducible refine (HX.out _).mono ?_); rintro e w2 ⟨rfl, hb3⟩; replace hB' := below_then hB' hb3 hB'.size))
          cases lb with
          | true =>
            have hj1 := HL1.out rfl
            go_wp2
            go_roundw
            case rel => exact ⟨j + 1, by go_num, hj1, below_then HB2.out hB' HB2.out.size⟩
            case measure => simp [intOf]; omega
          | false =>
            obtain rfl := HL2.out rfl
            have HY := Lib.hid (HEQ.out rfl)
            rw [HY.out] at HNEW HOLD
            have hq := fun W => run_neq_val ⟨yt, yn, ys⟩ ⟨xt, xn, xs⟩ W
            obtain ⟨c0, c1, c2, c3, c4, c5⟩ := HK.out _ hB'
            have B3 := Lib.hid (below_then HB2.out hB' HB2.out.size)
            have hjeq : ((j : Int) == (m : Int)) = false := by simp; omega
            clear hB' HK HX HL1 HL2 HEQ p0 p1 p2 q0 q1 q2
            cases he : V.eqB ⟨yt, yn, ys⟩ ⟨xt, xn, xs⟩ with
            | true =>
              have HO := Lib.hid (HOLD.out hjl he)
              rw [he] at hq
              clear he HOLD HNEW
              go_wp2
              go_quiet (fail)
              go_wp2
              go_roundw
              case rel => exact ⟨k + 1, by omega, by go_num, by rw [HSK.out, HO.out, HM.out]; exact (HOWN.out.below (B3.out.trans (below_drewN _ _ _)) (Nat.le_refl _)).wide B3.out.size, below_then HBR.out (B3.out.trans (below_drewN _ _ _)) HBR.out.size⟩
              case measure => simp [intOf]; omega
            | false =>
              have HO := Lib.hid (HNEW.out (.inr he))
              rw [he] at hq
              clear he HOLD HNEW
              go_wp2
              go_quiet (fail)
              go_wp2
              generalize hW9 : w2.drewN nq = W9
              have B9 : Below wo.heap.size wo W9 := by rw [← hW9]; exact B3.out.trans (below_drewN _ _ _)
              have c3' : W9.cell? ⟨b, off + k * 3, none⟩ = some (.int .i64 xt) := by rw [← hW9]; exact c3
              have c4' : W9.cell? ⟨b, off + k * 3 + 1, none⟩ = some (.int .i64 xn) := by rw [← hW9]; exact c4
              have c5' : W9.cell? ⟨b, off + k * 3 + 2, none⟩ = some (.string xs) := by rw [← hW9]; exact c5
              clear c0 c1 c2 c3 c4 c5 hq hW9
              have hjcp : (cp < j) = False := by simp; omega
              obtain ⟨tl, htl, HTL⟩ : ∃ tl, (if cp = j then some (⟨g, 0, none⟩ : Addr) else some ⟨g, j * 3, none⟩) = some ⟨g, tl, none⟩ ∧ Hid (j < cp → tl = j * 3) := by
                by_cases e : cp = j
                · exact ⟨0, by rw [if_pos e], fun h => by omega⟩
                · exact ⟨j * 3, by rw [if_neg e], fun _ => rfl⟩
              refine wp_region_held_drew (S := fun W => W.cell? ⟨b, off + k * 3, none⟩ = some (.int .i64 xt) ∧ W.cell? ⟨b, off + k * 3 + 1, none⟩ = some (.int .i64 xn) ∧ W.cell? ⟨b, off + k * 3 + 2, none⟩ = some (.string xs)) (by kernel_rfl) ⟨c3', c4', c5'⟩ (fun hH => ?_)
              refine takeH (i := 1) (d := some 46) (v := .slice (some ⟨g, 0, none⟩) m cp) rfl rfl (by kernel_rfl) (by kernel_rfl) (by kernel_rfl) (fun _ _ _ h => h) (Or.inl ⟨by rfl, fun W hSw => by go_simp⟩) hH ?_
              simp only [put_some, List.set_cons_zero, List.set_cons_succ]
              refine takeH (i := 2) (d := some 47) (v := .int .i64 (j : Int)) rfl rfl (by kernel_rfl) (by kernel_rfl) (by kernel_rfl) (fun _ _ _ h => h) (Or.inl ⟨by rfl, fun W hSw => by go_simp⟩) hH ?_
              simp only [put_some, List.set_cons_zero, List.set_cons_succ]
              refine takeH (i := 3) (d := some 48) (v := .slice (some ⟨g, 0, none⟩) j cp) rfl rfl (by kernel_rfl) (by kernel_rfl) (by kernel_rfl) (fun _ _ _ h => h) (Or.inl ⟨by rfl, fun W hSw => by go_simp⟩) hH ?_
              simp only [put_some, List.set_cons_zero, List.set_cons_succ]
              refine takeH (i := 5) (d := some 50) (v := .slice (some ⟨b, off, none⟩) n cap) rfl rfl (by kernel_rfl) (by kernel_rfl) (by kernel_rfl) (fun _ _ _ h => h) (Or.inl ⟨by rfl, fun W hSw => by go_simp⟩) hH ?_
              simp only [put_some, List.set_cons_zero, List.set_cons_succ]
              refine takeH (i := 6) (d := some 51) (v := .int .i64 (k : Int)) rfl rfl (by kernel_rfl) (by kernel_rfl) (by kernel_rfl) (fun _ _ _ h => h) (Or.inl ⟨by rfl, fun W hSw => by go_simp⟩) hH ?_
              simp only [put_some, List.set_cons_zero, List.set_cons_succ]
              refine takeH (i := 7) (d := some 52) (v := .pointer (some ⟨b, off + k * 3, none⟩)) rfl rfl (by kernel_rfl) (by kernel_rfl) (by kernel_rfl) (fun _ _ _ h => h) (Or.inl ⟨by rfl, fun W hSw => by go_simp⟩) hH ?_
              simp only [put_some, List.set_cons_zero, List.set_cons_succ]
              refine takeH (i := 8) (d := some 53) (v := .agg #[.int .i64 xt, .int .i64 xn, .string xs]) rfl rfl (by kernel_rfl) (by kernel_rfl) (by kernel_rfl) (fun _ _ _ h => h) (Or.inl ⟨by rfl, fun W hSw => by go_simp⟩) hH ?_
              simp only [put_some, List.set_cons_zero, List.set_cons_succ]
              refine takeH (i := 11) (d := some 56) (v := .slice (some ⟨g, 0, none⟩) m cp) rfl rfl (by kernel_rfl) (by kernel_rfl) (by kernel_rfl) (fun _ _ _ h => h) (Or.inl ⟨by rfl, fun W hSw => by go_simp⟩) hH ?_
              simp only [put_some, List.set_cons_zero, List.set_cons_succ]
              refine takeH (i := 12) (d := some 57) (v := .int .i64 (j : Int)) rfl rfl (by kernel_rfl) (by kernel_rfl) (by kernel_rfl) (fun _ _ _ h => h) (Or.inl ⟨by rfl, fun W hSw => by go_simp⟩) hH ?_
              simp only [put_some, List.set_cons_zero, List.set_cons_succ]
              refine takeH (i := 13) (d := some 58) (v := .slice (some ⟨g, tl, none⟩) (m - j) (cp - j)) rfl rfl (by kernel_rfl) (by kernel_rfl) (by kernel_rfl) (fun _ _ _ h => h) (Or.inl ⟨by rfl, fun W hSw => by go_simp⟩) hH ?_
              simp only [put_some, List.set_cons_zero, List.set_cons_succ]
              clear htl hjcp
              have D9 : Hid (∀ W, Below W9.heap.size W9 W → (∀ i u, (vals (d.take j))[i]? = some u → W.cell? ⟨g, 0 + i, none⟩ = some u) ∧ (∀ i u, (vals (d.drop j))[i]? = some u → W.cell? ⟨g, tl + i, none⟩ = some u)) := tails HM.out HDL.out hjm hcp HTL.out B9
              have S9 : Hid (∀ W, Below W9.heap.size W9 W → W.cell? ⟨b, off + k * 3, none⟩ = some (.int .i64 xt) ∧ W.cell? ⟨b, off + k * 3 + 1, none⟩ = some (.int .i64 xn) ∧ W.cell? ⟨b, off + k * 3 + 2, none⟩ = some (.string xs)) := fun W h => ⟨(h.cell (p := ⟨b, off + k * 3, none⟩) (lt_of_cell c3')).trans c3', (h.cell (p := ⟨b, off + k * 3 + 1, none⟩) (lt_of_cell c4')).trans c4', (h.cell (p := ⟨b, off + k * 3 + 2, none⟩) (lt_of_cell c5')).trans c5'⟩
              have HVL : Hid ((vals (d.take j)).length = j * 3 ∧ (vals (d.drop j)).length = (m - j) * 3) := by
                have e := HM.out
                refine ⟨?_, ?_⟩
                · rw [vals_len, List.length_take]; congr 1; omega
                · rw [vals_len, List.length_drop, e]
              have HFIN : Hid ((vals (d.take j) ++ V.cs ⟨xt, xn, xs⟩) ++ vals (d.drop j) = vals (insV d ⟨xt, xn, xs⟩) ∧ j + 1 + (m - j) = (insV d ⟨xt, xn, xs⟩).length) := by
                have e := HM.out
                rw [HO.out]
                refine ⟨by simp [vals], ?_⟩
                simp only [List.length_append, List.length_take, List.length_drop, List.length_cons, List.length_nil]
                omega
              have B0 : Below W9.heap.size W9 W9.drew := (Below.refl _ _).drew
              generalize hW0 : W9.drew = W0 at hH B0 ⊢
              clear hW0 c3' c4' c5'
              refine wpAnyH_ready (rs := [0, 9]) (by kernel_rfl) (by simp) ?_
              refine AllReadyH.cons rfl (fun K hK => ?_) (AllReadyH.cons rfl (fun K hK => ?_) AllReadyH.nil)
              · skip
                go_simp
                have B1 := B0.alloc B0.size (.cells #[] 41)
                have O1 := own_none (e := 41) (N := W9.heap.size) W0 B0.size
                refine hK.out _ _ (S9.out _ B1) (fun hH => ?_)
                clear hK K
                generalize W0.heap.size = g45 at O1 ⊢
                generalize W0.alloc (.cells #[] 41) = W1 at B1 O1 hH ⊢
                refine wpAnyH_ready (rs := [4, 9]) (by kernel_rfl) (by simp) ?_
                refine AllReadyH.cons rfl (fun K hK => ?_) (AllReadyH.cons rfl (fun K hK => ?_) AllReadyH.nil)
                · skip
                  refine append_op Try.elemVals (.tmp 45) (.tmp 48) rfl W9.heap.size W1.heap.size (.slice (some ⟨g45, 0, none⟩) 0 0) 0 [] rfl O1 g 0 j cp (vals (d.take j)) rfl HVL.out.1 (D9.out _ B1).1 (vals_one _) (by unfold maxLen; omega) (by omega) ?_
                  intro v49 W2 O2 E2
                  have B2 := B1.trans (E2.below O1)
                  rw [Nat.zero_add, List.nil_append] at O2
                  obtain ⟨g49, c49, rfl⟩ : ∃ g c, v49 = .slice (some ⟨g, 0, none⟩) (j) c := by obtain ⟨g, c, e, _⟩ := O2; exact ⟨g, c, e⟩
                  refine hK.out _ _ (S9.out _ B2) (fun hH => ?_)
                  clear hK K E2
                  refine wpAnyH_ready (rs := [9]) (by kernel_rfl) (by simp) ?_
                  refine AllReadyH.cons rfl (fun K hK => ?_) AllReadyH.nil
                  go_simp
                  have B3 := B2.alloc B2.size (.cells #[.int .i64 xt, .int .i64 xn, .string xs] 41)
                  have L3 : Lit1 W9.heap.size _ _ _ := Lit1.new W2 ⟨xt, xn, xs⟩ 41 B2.size
                  have N3 := O2.notNew
                  have O3 := O2.stay (.cells #[.int .i64 xt, .int .i64 xn, .string xs] 41)
                  refine hK.out _ _ (S9.out _ B3) (fun hH => ?_)
                  clear hK K
                  generalize W2.heap.size = g54 at L3 O3 N3 ⊢
                  generalize W2.alloc (.cells #[.int .i64 xt, .int .i64 xn, .string xs] 41) = W3 at B3 L3 O3 hH ⊢
                  refine wpAnyH_ready (rs := [10]) (by kernel_rfl) (by simp) ?_
                  refine AllReadyH.cons rfl (fun K hK => ?_) AllReadyH.nil
                  refine append_op Try.elemVals (.tmp 49) (.tmp 54) rfl W9.heap.size W3.heap.size (.slice (some ⟨g49, 0, none⟩) j c49) j (vals (d.take j)) rfl O3 g54 0 1 1 (V.cs ⟨xt, xn, xs⟩) rfl rfl L3.2.2 (fun u hu => vals_one [⟨xt, xn, xs⟩] u (by simpa [vals] using hu)) (by unfold maxLen; omega) (by omega) ?_
                  intro v55 W4 O4 E4
                  have B4 := B3.trans (E4.below O3)
                  obtain ⟨g55, c55, rfl⟩ : ∃ g c, v55 = .slice (some ⟨g, 0, none⟩) (j + 1) c := by obtain ⟨g, c, e, _⟩ := O4; exact ⟨g, c, e⟩
                  refine hK.out _ _ (S9.out _ B4) (fun hH => ?_)
                  clear hK K E4
                  refine wpAnyH_ready (rs := [14]) (by kernel_rfl) (by simp) ?_
                  refine AllReadyH.cons rfl (fun K hK => ?_) AllReadyH.nil
                  refine append_op Try.elemVals (.tmp 55) (.tmp 58) rfl W9.heap.size W4.heap.size (.slice (some ⟨g55, 0, none⟩) (j + 1) c55) (j + 1) (vals (d.take j) ++ V.cs ⟨xt, xn, xs⟩) rfl O4 g tl (m - j) (cp - j) (vals (d.drop j)) rfl HVL.out.2 (D9.out _ B4).2 (vals_one _) (by unfold maxLen; omega) (by omega) ?_
                  intro v59 W5 O5 E5
                  have B5 := B4.trans (E5.below O4)
                  rw [HFIN.out.1, HFIN.out.2] at O5
                  obtain ⟨g59, c59, rfl⟩ : ∃ g c, v59 = .slice (some ⟨g, 0, none⟩) (insV d ⟨xt, xn, xs⟩).length c := by obtain ⟨g, c, e, _⟩ := O5; exact ⟨g, c, e⟩
                  refine hK.out _ _ (S9.out _ B5) (fun hH => ?_)
                  clear hK K E5
                  refine takeH (i := 15) (d := some 3) (v := .slice (some ⟨g59, 0, none⟩) (insV d ⟨xt, xn, xs⟩).length c59) rfl rfl (by kernel_rfl) (by kernel_rfl) (by kernel_rfl) (fun _ _ _ h => h) (Or.inl ⟨by rfl, fun W hSw => by go_simp⟩) hH ?_
                  try simp only [put_some, List.set_cons_zero, List.set_cons_succ]
                  have OF := Lib.hid O5
                  have BF := Lib.hid B5
                  clear O5 B5
                  refine wpAnyH_done (by kernel_rfl) ?_ _
                  go_wp2
                  go_roundw
                  case rel => exact ⟨k + 1, by omega, by go_num, by rw [HSK.out]; exact OF.out.lower (Nat.le_trans HBR.out.size B9.size), below_then HBR.out (below_then B9 BF.out B9.size) HBR.out.size⟩
                  case measure => simp [intOf]; omega
                · skip
                  go_simp
                  have B2 := B1.alloc B1.size (.cells #[.int .i64 xt, .int .i64 xn, .string xs] 41)
                  have L2 : Lit1 W9.heap.size _ _ _ := Lit1.new W1 ⟨xt, xn, xs⟩ 41 B1.size
                  have N2 := O1.notNew
                  have O2 := O1.stay (.cells #[.int .i64 xt, .int .i64 xn, .string xs] 41)
                  refine hK.out _ _ (S9.out _ B2) (fun hH => ?_)
                  clear hK K
                  generalize W1.heap.size = g54 at L2 O2 N2 ⊢
                  generalize W1.alloc (.cells #[.int .i64 xt, .int .i64 xn, .string xs] 41) = W2 at B2 L2 O2 hH ⊢
                  refine wpAnyH_ready (rs := [4]) (by kernel_rfl) (by simp) ?_
                  refine AllReadyH.cons rfl (fun K hK => ?_) AllReadyH.nil
                  refine append_op Try.elemVals (.tmp 45) (.tmp 48) rfl W9.heap.size W2.heap.size (.slice (some ⟨g45, 0, none⟩) 0 0) 0 [] rfl O2 g 0 j cp (vals (d.take j)) rfl HVL.out.1 (D9.out _ B2).1 (vals_one _) (by unfold maxLen; omega) (by omega) ?_
                  intro v49 W3 O3 E3
                  have B3 := B2.trans (E3.below O2)
                  obtain ⟨L3, N3⟩ := L2.ext N2 E3
                  rw [Nat.zero_add, List.nil_append] at O3
                  obtain ⟨g49, c49, rfl⟩ : ∃ g c, v49 = .slice (some ⟨g, 0, none⟩) (j) c := by obtain ⟨g, c, e, _⟩ := O3; exact ⟨g, c, e⟩
                  refine hK.out _ _ (S9.out _ B3) (fun hH => ?_)
                  clear hK K E3
                  refine wpAnyH_ready (rs := [10]) (by kernel_rfl) (by simp) ?_
                  refine AllReadyH.cons rfl (fun K hK => ?_) AllReadyH.nil
                  refine append_op Try.elemVals (.tmp 49) (.tmp 54) rfl W9.heap.size W3.heap.size (.slice (some ⟨g49, 0, none⟩) j c49) j (vals (d.take j)) rfl O3 g54 0 1 1 (V.cs ⟨xt, xn, xs⟩) rfl rfl L3.2.2 (fun u hu => vals_one [⟨xt, xn, xs⟩] u (by simpa [vals] using hu)) (by unfold maxLen; omega) (by omega) ?_
                  intro v55 W4 O4 E4
                  have B4 := B3.trans (E4.below O3)
                  obtain ⟨g55, c55, rfl⟩ : ∃ g c, v55 = .slice (some ⟨g, 0, none⟩) (j + 1) c := by obtain ⟨g, c, e, _⟩ := O4; exact ⟨g, c, e⟩
                  refine hK.out _ _ (S9.out _ B4) (fun hH => ?_)
                  clear hK K E4
                  refine wpAnyH_ready (rs := [14]) (by kernel_rfl) (by simp) ?_
                  refine AllReadyH.cons rfl (fun K hK => ?_) AllReadyH.nil
                  refine append_op Try.elemVals (.tmp 55) (.tmp 58) rfl W9.heap.size W4.heap.size (.slice (some ⟨g55, 0, none⟩) (j + 1) c55) (j + 1) (vals (d.take j) ++ V.cs ⟨xt, xn, xs⟩) rfl O4 g tl (m - j) (cp - j) (vals (d.drop j)) rfl HVL.out.2 (D9.out _ B4).2 (vals_one _) (by unfold maxLen; omega) (by omega) ?_
                  intro v59 W5 O5 E5
                  have B5 := B4.trans (E5.below O4)
                  rw [HFIN.out.1, HFIN.out.2] at O5
                  obtain ⟨g59, c59, rfl⟩ : ∃ g c, v59 = .slice (some ⟨g, 0, none⟩) (insV d ⟨xt, xn, xs⟩).length c := by obtain ⟨g, c, e, _⟩ := O5; exact ⟨g, c, e⟩
                  refine hK.out _ _ (S9.out _ B5) (fun hH => ?_)
                  clear hK K E5
                  refine takeH (i := 15) (d := some 3) (v := .slice (some ⟨g59, 0, none⟩) (insV d ⟨xt, xn, xs⟩).length c59) rfl rfl (by kernel_rfl) (by kernel_rfl) (by kernel_rfl) (fun _ _ _ h => h) (Or.inl ⟨by rfl, fun W hSw => by go_simp⟩) hH ?_
                  try simp only [put_some, List.set_cons_zero, List.set_cons_succ]
                  have OF := Lib.hid O5
                  have BF := Lib.hid B5
                  clear O5 B5
                  refine wpAnyH_done (by kernel_rfl) ?_ _
                  go_wp2
                  go_roundw
                  case rel => exact ⟨k + 1, by omega, by go_num, by rw [HSK.out]; exact OF.out.lower (Nat.le_trans HBR.out.size B9.size), below_then HBR.out (below_then B9 BF.out B9.size) HBR.out.size⟩
                  case measure => simp [intOf]; omega
              · skip
                go_simp
                have B1 := B0.alloc B0.size (.cells #[.int .i64 xt, .int .i64 xn, .string xs] 41)
                have L1 : Lit1 W9.heap.size _ _ _ := Lit1.new W0 ⟨xt, xn, xs⟩ 41 B0.size
                refine hK.out _ _ (S9.out _ B1) (fun hH => ?_)
                clear hK K
                generalize W0.heap.size = g54 at L1 ⊢
                generalize W0.alloc (.cells #[.int .i64 xt, .int .i64 xn, .string xs] 41) = W1 at B1 L1 hH ⊢
                refine wpAnyH_ready (rs := [0]) (by kernel_rfl) (by simp) ?_
                refine AllReadyH.cons rfl (fun K hK => ?_) AllReadyH.nil
                go_simp
                have B2 := B1.alloc B1.size (.cells #[] 41)
                have O2 := own_none (e := 41) (N := W9.heap.size) W1 B1.size
                have L2 := L1.alloc (.cells #[] 41)
                have N2 : Value.ownBlock (.slice (some ⟨W1.heap.size, 0, none⟩) 0 0) ≠ some g54 := by have := L1.2.1; simp only [Value.ownBlock, ne_eq, Option.some.injEq]; omega
                refine hK.out _ _ (S9.out _ B2) (fun hH => ?_)
                clear hK K
                generalize W1.heap.size = g45 at O2 L2 N2 ⊢
                generalize W1.alloc (.cells #[] 41) = W2 at B2 O2 L2 hH ⊢
                refine wpAnyH_ready (rs := [4]) (by kernel_rfl) (by simp) ?_
                refine AllReadyH.cons rfl (fun K hK => ?_) AllReadyH.nil
                refine append_op Try.elemVals (.tmp 45) (.tmp 48) rfl W9.heap.size W2.heap.size (.slice (some ⟨g45, 0, none⟩) 0 0) 0 [] rfl O2 g 0 j cp (vals (d.take j)) rfl HVL.out.1 (D9.out _ B2).1 (vals_one _) (by unfold maxLen; omega) (by omega) ?_
                intro v49 W3 O3 E3
                have B3 := B2.trans (E3.below O2)
                obtain ⟨L3, N3⟩ := L2.ext N2 E3
                rw [Nat.zero_add, List.nil_append] at O3
                obtain ⟨g49, c49, rfl⟩ : ∃ g c, v49 = .slice (some ⟨g, 0, none⟩) (j) c := by obtain ⟨g, c, e, _⟩ := O3; exact ⟨g, c, e⟩
                refine hK.out _ _ (S9.out _ B3) (fun hH => ?_)
                clear hK K E3
                refine wpAnyH_ready (rs := [10]) (by kernel_rfl) (by simp) ?_
                refine AllReadyH.cons rfl (fun K hK => ?_) AllReadyH.nil
                refine append_op Try.elemVals (.tmp 49) (.tmp 54) rfl W9.heap.size W3.heap.size (.slice (some ⟨g49, 0, none⟩) j c49) j (vals (d.take j)) rfl O3 g54 0 1 1 (V.cs ⟨xt, xn, xs⟩) rfl rfl L3.2.2 (fun u hu => vals_one [⟨xt, xn, xs⟩] u (by simpa [vals] using hu)) (by unfold maxLen; omega) (by omega) ?_
                intro v55 W4 O4 E4
                have B4 := B3.trans (E4.below O3)
                obtain ⟨g55, c55, rfl⟩ : ∃ g c, v55 = .slice (some ⟨g, 0, none⟩) (j + 1) c := by obtain ⟨g, c, e, _⟩ := O4; exact ⟨g, c, e⟩
                refine hK.out _ _ (S9.out _ B4) (fun hH => ?_)
                clear hK K E4
                refine wpAnyH_ready (rs := [14]) (by kernel_rfl) (by simp) ?_
                refine AllReadyH.cons rfl (fun K hK => ?_) AllReadyH.nil
                refine append_op Try.elemVals (.tmp 55) (.tmp 58) rfl W9.heap.size W4.heap.size (.slice (some ⟨g55, 0, none⟩) (j + 1) c55) (j + 1) (vals (d.take j) ++ V.cs ⟨xt, xn, xs⟩) rfl O4 g tl (m - j) (cp - j) (vals (d.drop j)) rfl HVL.out.2 (D9.out _ B4).2 (vals_one _) (by unfold maxLen; omega) (by omega) ?_
                intro v59 W5 O5 E5
                have B5 := B4.trans (E5.below O4)
                rw [HFIN.out.1, HFIN.out.2] at O5
                obtain ⟨g59, c59, rfl⟩ : ∃ g c, v59 = .slice (some ⟨g, 0, none⟩) (insV d ⟨xt, xn, xs⟩).length c := by obtain ⟨g, c, e, _⟩ := O5; exact ⟨g, c, e⟩
                refine hK.out _ _ (S9.out _ B5) (fun hH => ?_)
                clear hK K E5
                refine takeH (i := 15) (d := some 3) (v := .slice (some ⟨g59, 0, none⟩) (insV d ⟨xt, xn, xs⟩).length c59) rfl rfl (by kernel_rfl) (by kernel_rfl) (by kernel_rfl) (fun _ _ _ h => h) (Or.inl ⟨by rfl, fun W hSw => by go_simp⟩) hH ?_
                try simp only [put_some, List.set_cons_zero, List.set_cons_succ]
                have OF := Lib.hid O5
                have BF := Lib.hid B5
                clear O5 B5
                refine wpAnyH_done (by kernel_rfl) ?_ _
                go_wp2
                go_roundw
                case rel => exact ⟨k + 1, by omega, by go_num, by rw [HSK.out]; exact OF.out.lower (Nat.le_trans HBR.out.size B9.size), below_then HBR.out (below_then B9 BF.out B9.size) HBR.out.size⟩
                case measure => simp [intOf]; omega
        · have HJM : Hid (j = m) := by show _ = _; omega
          have HCE := Lib.hid (HSP.out j hjc (.inl (by omega)))
          have HO := Lib.hid (HNEW.out (.inl (by rw [← HCE.out]; exact HJM.out)))
          rw [← HCE.out] at HO
          have HOWN := Lib.hid hown
          have HBR := Lib.hid hbr
          have B3 := Lib.hid hb2
          have hjeq : ((j : Int) == (m : Int)) = true := by simp; omega
          have hjn : (j < m) = False := by simp; omega
          obtain ⟨xt, xn, xs⟩ := x
          simp only at p0 p1 p2
          clear hown hbr hb2 HNEW HOLD HSP HST hjl HCL hjc
          go_wp2
          go_quiet (fail)
          go_wp2
          go_quiet (fail)
          go_wp2
          generalize hW9 : World.drewN (World.drewN wr _) _ = W9
          have B9 : Below wo.heap.size wo W9 := by rw [← hW9]; exact (B3.out.trans (below_drewN _ _ _)).trans (below_drewN _ _ _)
          have c3' : W9.cell? ⟨b, off + k * 3, none⟩ = some (.int .i64 xt) := by rw [← hW9]; exact p0
          have c4' : W9.cell? ⟨b, off + k * 3 + 1, none⟩ = some (.int .i64 xn) := by rw [← hW9]; exact p1
          have c5' : W9.cell? ⟨b, off + k * 3 + 2, none⟩ = some (.string xs) := by rw [← hW9]; exact p2
          clear p0 p1 p2 hW9
          have hjcp : (cp < j) = False := by simp; omega
          obtain ⟨tl, htl, HTL⟩ : ∃ tl, (if cp = j then some (⟨g, 0, none⟩ : Addr) else some ⟨g, j * 3, none⟩) = some ⟨g, tl, none⟩ ∧ Hid (j < cp → tl = j * 3) := by
            by_cases e : cp = j
            · exact ⟨0, by rw [if_pos e], fun h => by omega⟩
            · exact ⟨j * 3, by rw [if_neg e], fun _ => rfl⟩
          refine wp_region_held_drew (S := fun W => W.cell? ⟨b, off + k * 3, none⟩ = some (.int .i64 xt) ∧ W.cell? ⟨b, off + k * 3 + 1, none⟩ = some (.int .i64 xn) ∧ W.cell? ⟨b, off + k * 3 + 2, none⟩ = some (.string xs)) (by kernel_rfl) ⟨c3', c4', c5'⟩ (fun hH => ?_)
          refine takeH (i := 1) (d := some 46) (v := .slice (some ⟨g, 0, none⟩) m cp) rfl rfl (by kernel_rfl) (by kernel_rfl) (by kernel_rfl) (fun _ _ _ h => h) (Or.inl ⟨by rfl, fun W hSw => by go_simp⟩) hH ?_
          simp only [put_some, List.set_cons_zero, List.set_cons_succ]
          refine takeH (i := 2) (d := some 47) (v := .int .i64 (j : Int)) rfl rfl (by kernel_rfl) (by kernel_rfl) (by kernel_rfl) (fun _ _ _ h => h) (Or.inl ⟨by rfl, fun W hSw => by go_simp⟩) hH ?_
          simp only [put_some, List.set_cons_zero, List.set_cons_succ]
          refine takeH (i := 3) (d := some 48) (v := .slice (some ⟨g, 0, none⟩) j cp) rfl rfl (by kernel_rfl) (by kernel_rfl) (by kernel_rfl) (fun _ _ _ h => h) (Or.inl ⟨by rfl, fun W hSw => by go_simp⟩) hH ?_
          simp only [put_some, List.set_cons_zero, List.set_cons_succ]
          refine takeH (i := 5) (d := some 50) (v := .slice (some ⟨b, off, none⟩) n cap) rfl rfl (by kernel_rfl) (by kernel_rfl) (by kernel_rfl) (fun _ _ _ h => h) (Or.inl ⟨by rfl, fun W hSw => by go_simp⟩) hH ?_
          simp only [put_some, List.set_cons_zero, List.set_cons_succ]
          refine takeH (i := 6) (d := some 51) (v := .int .i64 (k : Int)) rfl rfl (by kernel_rfl) (by kernel_rfl) (by kernel_rfl) (fun _ _ _ h => h) (Or.inl ⟨by rfl, fun W hSw => by go_simp⟩) hH ?_
          simp only [put_some, List.set_cons_zero, List.set_cons_succ]
          refine takeH (i := 7) (d := some 52) (v := .pointer (some ⟨b, off + k * 3, none⟩)) rfl rfl (by kernel_rfl) (by kernel_rfl) (by kernel_rfl) (fun _ _ _ h => h) (Or.inl ⟨by rfl, fun W hSw => by go_simp⟩) hH ?_
          simp only [put_some, List.set_cons_zero, List.set_cons_succ]
          refine takeH (i := 8) (d := some 53) (v := .agg #[.int .i64 xt, .int .i64 xn, .string xs]) rfl rfl (by kernel_rfl) (by kernel_rfl) (by kernel_rfl) (fun _ _ _ h => h) (Or.inl ⟨by rfl, fun W hSw => by go_simp⟩) hH ?_
          simp only [put_some, List.set_cons_zero, List.set_cons_succ]
          refine takeH (i := 11) (d := some 56) (v := .slice (some ⟨g, 0, none⟩) m cp) rfl rfl (by kernel_rfl) (by kernel_rfl) (by kernel_rfl) (fun _ _ _ h => h) (Or.inl ⟨by rfl, fun W hSw => by go_simp⟩) hH ?_
          simp only [put_some, List.set_cons_zero, List.set_cons_succ]
          refine takeH (i := 12) (d := some 57) (v := .int .i64 (j : Int)) rfl rfl (by kernel_rfl) (by kernel_rfl) (by kernel_rfl) (fun _ _ _ h => h) (Or.inl ⟨by rfl, fun W hSw => by go_simp⟩) hH ?_
          simp only [put_some, List.set_cons_zero, List.set_cons_succ]
          refine takeH (i := 13) (d := some 58) (v := .slice (some ⟨g, tl, none⟩) (m - j) (cp - j)) rfl rfl (by kernel_rfl) (by kernel_rfl) (by kernel_rfl) (fun _ _ _ h => h) (Or.inl ⟨by rfl, fun W hSw => by go_simp⟩) hH ?_
          simp only [put_some, List.set_cons_zero, List.set_cons_succ]
          clear htl hjcp
          have D9 : Hid (∀ W, Below W9.heap.size W9 W → (∀ i u, (vals (d.take j))[i]? = some u → W.cell? ⟨g, 0 + i, none⟩ = some u) ∧ (∀ i u, (vals (d.drop j))[i]? = some u → W.cell? ⟨g, tl + i, none⟩ = some u)) := tails HM.out HDL.out hjm hcp HTL.out B9
          have S9 : Hid (∀ W, Below W9.heap.size W9 W → W.cell? ⟨b, off + k * 3, none⟩ = some (.int .i64 xt) ∧ W.cell? ⟨b, off + k * 3 + 1, none⟩ = some (.int .i64 xn) ∧ W.cell? ⟨b, off + k * 3 + 2, none⟩ = some (.string xs)) := fun W h => ⟨(h.cell (p := ⟨b, off + k * 3, none⟩) (lt_of_cell c3')).trans c3', (h.cell (p := ⟨b, off + k * 3 + 1, none⟩) (lt_of_cell c4')).trans c4', (h.cell (p := ⟨b, off + k * 3 + 2, none⟩) (lt_of_cell c5')).trans c5'⟩
          have HVL : Hid ((vals (d.take j)).length = j * 3 ∧ (vals (d.drop j)).length = (m - j) * 3) := by
            have e := HM.out
            refine ⟨?_, ?_⟩
            · rw [vals_len, List.length_take]; congr 1; omega
            · rw [vals_len, List.length_drop, e]
          have HFIN : Hid ((vals (d.take j) ++ V.cs ⟨xt, xn, xs⟩) ++ vals (d.drop j) = vals (insV d ⟨xt, xn, xs⟩) ∧ j + 1 + (m - j) = (insV d ⟨xt, xn, xs⟩).length) := by
            have e := HM.out
            rw [HO.out]
            refine ⟨by simp [vals], ?_⟩
            simp only [List.length_append, List.length_take, List.length_drop, List.length_cons, List.length_nil]
            omega
          have B0 : Below W9.heap.size W9 W9.drew := (Below.refl _ _).drew
          generalize hW0 : W9.drew = W0 at hH B0 ⊢
          clear hW0 c3' c4' c5'
          refine wpAnyH_ready (rs := [0, 9]) (by kernel_rfl) (by simp) ?_
          refine AllReadyH.cons rfl (fun K hK => ?_) (AllReadyH.cons rfl (fun K hK => ?_) AllReadyH.nil)
          · skip
            go_simp
            have B1 := B0.alloc B0.size (.cells #[] 41)
            have O1 := own_none (e := 41) (N := W9.heap.size) W0 B0.size
            refine hK.out _ _ (S9.out _ B1) (fun hH => ?_)
            clear hK K
            generalize W0.heap.size = g45 at O1 ⊢
            generalize W0.alloc (.cells #[] 41) = W1 at B1 O1 hH ⊢
            refine wpAnyH_ready (rs := [4, 9]) (by kernel_rfl) (by simp) ?_
            refine AllReadyH.cons rfl (fun K hK => ?_) (AllReadyH.cons rfl (fun K hK => ?_) AllReadyH.nil)
            · skip
              refine append_op Try.elemVals (.tmp 45) (.tmp 48) rfl W9.heap.size W1.heap.size (.slice (some ⟨g45, 0, none⟩) 0 0) 0 [] rfl O1 g 0 j cp (vals (d.take j)) rfl HVL.out.1 (D9.out _ B1).1 (vals_one _) (by unfold maxLen; omega) (by omega) ?_
              intro v49 W2 O2 E2
              have B2 := B1.trans (E2.below O1)
              rw [Nat.zero_add, List.nil_append] at O2
              obtain ⟨g49, c49, rfl⟩ : ∃ g c, v49 = .slice (some ⟨g, 0, none⟩) (j) c := by obtain ⟨g, c, e, _⟩ := O2; exact ⟨g, c, e⟩
              refine hK.out _ _ (S9.out _ B2) (fun hH => ?_)
              clear hK K E2
              refine wpAnyH_ready (rs := [9]) (by kernel_rfl) (by simp) ?_
              refine AllReadyH.cons rfl (fun K hK => ?_) AllReadyH.nil
              go_simp
              have B3 := B2.alloc B2.size (.cells #[.int .i64 xt, .int .i64 xn, .string xs] 41)
              have L3 : Lit1 W9.heap.size _ _ _ := Lit1.new W2 ⟨xt, xn, xs⟩ 41 B2.size
              have N3 := O2.notNew
              have O3 := O2.stay (.cells #[.int .i64 xt, .int .i64 xn, .string xs] 41)
              refine hK.out _ _ (S9.out _ B3) (fun hH => ?_)
              clear hK K
              generalize W2.heap.size = g54 at L3 O3 N3 ⊢
              generalize W2.alloc (.cells #[.int .i64 xt, .int .i64 xn, .string xs] 41) = W3 at B3 L3 O3 hH ⊢
              refine wpAnyH_ready (rs := [10]) (by kernel_rfl) (by simp) ?_
              refine AllReadyH.cons rfl (fun K hK => ?_) AllReadyH.nil
              refine append_op Try.elemVals (.tmp 49) (.tmp 54) rfl W9.heap.size W3.heap.size (.slice (some ⟨g49, 0, none⟩) j c49) j (vals (d.take j)) rfl O3 g54 0 1 1 (V.cs ⟨xt, xn, xs⟩) rfl rfl L3.2.2 (fun u hu => vals_one [⟨xt, xn, xs⟩] u (by simpa [vals] using hu)) (by unfold maxLen; omega) (by omega) ?_
              intro v55 W4 O4 E4
              have B4 := B3.trans (E4.below O3)
              obtain ⟨g55, c55, rfl⟩ : ∃ g c, v55 = .slice (some ⟨g, 0, none⟩) (j + 1) c := by obtain ⟨g, c, e, _⟩ := O4; exact ⟨g, c, e⟩
              refine hK.out _ _ (S9.out _ B4) (fun hH => ?_)
              clear hK K E4
              refine wpAnyH_ready (rs := [14]) (by kernel_rfl) (by simp) ?_
              refine AllReadyH.cons rfl (fun K hK => ?_) AllReadyH.nil
              refine append_op Try.elemVals (.tmp 55) (.tmp 58) rfl W9.heap.size W4.heap.size (.slice (some ⟨g55, 0, none⟩) (j + 1) c55) (j + 1) (vals (d.take j) ++ V.cs ⟨xt, xn, xs⟩) rfl O4 g tl (m - j) (cp - j) (vals (d.drop j)) rfl HVL.out.2 (D9.out _ B4).2 (vals_one _) (by unfold maxLen; omega) (by omega) ?_
              intro v59 W5 O5 E5
              have B5 := B4.trans (E5.below O4)
              rw [HFIN.out.1, HFIN.out.2] at O5
              obtain ⟨g59, c59, rfl⟩ : ∃ g c, v59 = .slice (some ⟨g, 0, none⟩) (insV d ⟨xt, xn, xs⟩).length c := by obtain ⟨g, c, e, _⟩ := O5; exact ⟨g, c, e⟩
              refine hK.out _ _ (S9.out _ B5) (fun hH => ?_)
              clear hK K E5
              refine takeH (i := 15) (d := some 3) (v := .slice (some ⟨g59, 0, none⟩) (insV d ⟨xt, xn, xs⟩).length c59) rfl rfl (by kernel_rfl) (by kernel_rfl) (by kernel_rfl) (fun _ _ _ h => h) (Or.inl ⟨by rfl, fun W hSw => by go_simp⟩) hH ?_
              try simp only [put_some, List.set_cons_zero, List.set_cons_succ]
              have OF := Lib.hid O5
              have BF := Lib.hid B5
              clear O5 B5
              refine wpAnyH_done (by kernel_rfl) ?_ _
              go_wp2
              go_roundw
              case rel => exact ⟨k + 1, by omega, by go_num, by rw [HSK.out]; exact OF.out.lower (Nat.le_trans HBR.out.size B9.size), below_then HBR.out (below_then B9 BF.out B9.size) HBR.out.size⟩
              case measure => simp [intOf]; omega
            · skip
              go_simp
              have B2 := B1.alloc B1.size (.cells #[.int .i64 xt, .int .i64 xn, .string xs] 41)
              have L2 : Lit1 W9.heap.size _ _ _ := Lit1.new W1 ⟨xt, xn, xs⟩ 41 B1.size
              have N2 := O1.notNew
              have O2 := O1.stay (.cells #[.int .i64 xt, .int .i64 xn, .string xs] 41)
              refine hK.out _ _ (S9.out _ B2) (fun hH => ?_)
              clear hK K
              generalize W1.heap.size = g54 at L2 O2 N2 ⊢
              generalize W1.alloc (.cells #[.int .i64 xt, .int .i64 xn, .string xs] 41) = W2 at B2 L2 O2 hH ⊢
              refine wpAnyH_ready (rs := [4]) (by kernel_rfl) (by simp) ?_
              refine AllReadyH.cons rfl (fun K hK => ?_) AllReadyH.nil
              refine append_op Try.elemVals (.tmp 45) (.tmp 48) rfl W9.heap.size W2.heap.size (.slice (some ⟨g45, 0, none⟩) 0 0) 0 [] rfl O2 g 0 j cp (vals (d.take j)) rfl HVL.out.1 (D9.out _ B2).1 (vals_one _) (by unfold maxLen; omega) (by omega) ?_
              intro v49 W3 O3 E3
              have B3 := B2.trans (E3.below O2)
              obtain ⟨L3, N3⟩ := L2.ext N2 E3
              rw [Nat.zero_add, List.nil_append] at O3
              obtain ⟨g49, c49, rfl⟩ : ∃ g c, v49 = .slice (some ⟨g, 0, none⟩) (j) c := by obtain ⟨g, c, e, _⟩ := O3; exact ⟨g, c, e⟩
              refine hK.out _ _ (S9.out _ B3) (fun hH => ?_)
              clear hK K E3
              refine wpAnyH_ready (rs := [10]) (by kernel_rfl) (by simp) ?_
              refine AllReadyH.cons rfl (fun K hK => ?_) AllReadyH.nil
              refine append_op Try.elemVals (.tmp 49) (.tmp 54) rfl W9.heap.size W3.heap.size (.slice (some ⟨g49, 0, none⟩) j c49) j (vals (d.take j)) rfl O3 g54 0 1 1 (V.cs ⟨xt, xn, xs⟩) rfl rfl L3.2.2 (fun u hu => vals_one [⟨xt, xn, xs⟩] u (by simpa [vals] using hu)) (by unfold maxLen; omega) (by omega) ?_
              intro v55 W4 O4 E4
              have B4 := B3.trans (E4.below O3)
              obtain ⟨g55, c55, rfl⟩ : ∃ g c, v55 = .slice (some ⟨g, 0, none⟩) (j + 1) c := by obtain ⟨g, c, e, _⟩ := O4; exact ⟨g, c, e⟩
              refine hK.out _ _ (S9.out _ B4) (fun hH => ?_)
              clear hK K E4
              refine wpAnyH_ready (rs := [14]) (by kernel_rfl) (by simp) ?_
              refine AllReadyH.cons rfl (fun K hK => ?_) AllReadyH.nil
              refine append_op Try.elemVals (.tmp 55) (.tmp 58) rfl W9.heap.size W4.heap.size (.slice (some ⟨g55, 0, none⟩) (j + 1) c55) (j + 1) (vals (d.take j) ++ V.cs ⟨xt, xn, xs⟩) rfl O4 g tl (m - j) (cp - j) (vals (d.drop j)) rfl HVL.out.2 (D9.out _ B4).2 (vals_one _) (by unfold maxLen; omega) (by omega) ?_
              intro v59 W5 O5 E5
              have B5 := B4.trans (E5.below O4)
              rw [HFIN.out.1, HFIN.out.2] at O5
              obtain ⟨g59, c59, rfl⟩ : ∃ g c, v59 = .slice (some ⟨g, 0, none⟩) (insV d ⟨xt, xn, xs⟩).length c := by obtain ⟨g, c, e, _⟩ := O5; exact ⟨g, c, e⟩
              refine hK.out _ _ (S9.out _ B5) (fun hH => ?_)
              clear hK K E5
              refine takeH (i := 15) (d := some 3) (v := .slice (some ⟨g59, 0, none⟩) (insV d ⟨xt, xn, xs⟩).length c59) rfl rfl (by kernel_rfl) (by kernel_rfl) (by kernel_rfl) (fun _ _ _ h => h) (Or.inl ⟨by rfl, fun W hSw => by go_simp⟩) hH ?_
              try simp only [put_some, List.set_cons_zero, List.set_cons_succ]
              have OF := Lib.hid O5
              have BF := Lib.hid B5
              clear O5 B5
              refine wpAnyH_done (by kernel_rfl) ?_ _
              go_wp2
              go_roundw
              case rel => exact ⟨k + 1, by omega, by go_num, by rw [HSK.out]; exact OF.out.lower (Nat.le_trans HBR.out.size B9.size), below_then HBR.out (below_then B9 BF.out B9.size) HBR.out.size⟩
              case measure => simp [intOf]; omega
          · skip
            go_simp
            have B1 := B0.alloc B0.size (.cells #[.int .i64 xt, .int .i64 xn, .string xs] 41)
            have L1 : Lit1 W9.heap.size _ _ _ := Lit1.new W0 ⟨xt, xn, xs⟩ 41 B0.size
            refine hK.out _ _ (S9.out _ B1) (fun hH => ?_)
            clear hK K
            generalize W0.heap.size = g54 at L1 ⊢
            generalize W0.alloc (.cells #[.int .i64 xt, .int .i64 xn, .string xs] 41) = W1 at B1 L1 hH ⊢
            refine wpAnyH_ready (rs := [0]) (by kernel_rfl) (by simp) ?_
            refine AllReadyH.cons rfl (fun K hK => ?_) AllReadyH.nil
            go_simp
            have B2 := B1.alloc B1.size (.cells #[] 41)
            have O2 := own_none (e := 41) (N := W9.heap.size) W1 B1.size
            have L2 := L1.alloc (.cells #[] 41)
            have N2 : Value.ownBlock (.slice (some ⟨W1.heap.size, 0, none⟩) 0 0) ≠ some g54 := by have := L1.2.1; simp only [Value.ownBlock, ne_eq, Option.some.injEq]; omega
            refine hK.out _ _ (S9.out _ B2) (fun hH => ?_)
            clear hK K
            generalize W1.heap.size = g45 at O2 L2 N2 ⊢
            generalize W1.alloc (.cells #[] 41) = W2 at B2 O2 L2 hH ⊢
            refine wpAnyH_ready (rs := [4]) (by kernel_rfl) (by simp) ?_
            refine AllReadyH.cons rfl (fun K hK => ?_) AllReadyH.nil
            refine append_op Try.elemVals (.tmp 45) (.tmp 48) rfl W9.heap.size W2.heap.size (.slice (some ⟨g45, 0, none⟩) 0 0) 0 [] rfl O2 g 0 j cp (vals (d.take j)) rfl HVL.out.1 (D9.out _ B2).1 (vals_one _) (by unfold maxLen; omega) (by omega) ?_
            intro v49 W3 O3 E3
            have B3 := B2.trans (E3.below O2)
            obtain ⟨L3, N3⟩ := L2.ext N2 E3
            rw [Nat.zero_add, List.nil_append] at O3
            obtain ⟨g49, c49, rfl⟩ : ∃ g c, v49 = .slice (some ⟨g, 0, none⟩) (j) c := by obtain ⟨g, c, e, _⟩ := O3; exact ⟨g, c, e⟩
            refine hK.out _ _ (S9.out _ B3) (fun hH => ?_)
            clear hK K E3
            refine wpAnyH_ready (rs := [10]) (by kernel_rfl) (by simp) ?_
            refine AllReadyH.cons rfl (fun K hK => ?_) AllReadyH.nil
            refine append_op Try.elemVals (.tmp 49) (.tmp 54) rfl W9.heap.size W3.heap.size (.slice (some ⟨g49, 0, none⟩) j c49) j (vals (d.take j)) rfl O3 g54 0 1 1 (V.cs ⟨xt, xn, xs⟩) rfl rfl L3.2.2 (fun u hu => vals_one [⟨xt, xn, xs⟩] u (by simpa [vals] using hu)) (by unfold maxLen; omega) (by omega) ?_
            intro v55 W4 O4 E4
            have B4 := B3.trans (E4.below O3)
            obtain ⟨g55, c55, rfl⟩ : ∃ g c, v55 = .slice (some ⟨g, 0, none⟩) (j + 1) c := by obtain ⟨g, c, e, _⟩ := O4; exact ⟨g, c, e⟩
            refine hK.out _ _ (S9.out _ B4) (fun hH => ?_)
            clear hK K E4
            refine wpAnyH_ready (rs := [14]) (by kernel_rfl) (by simp) ?_
            refine AllReadyH.cons rfl (fun K hK => ?_) AllReadyH.nil
            refine append_op Try.elemVals (.tmp 55) (.tmp 58) rfl W9.heap.size W4.heap.size (.slice (some ⟨g55, 0, none⟩) (j + 1) c55) (j + 1) (vals (d.take j) ++ V.cs ⟨xt, xn, xs⟩) rfl O4 g tl (m - j) (cp - j) (vals (d.drop j)) rfl HVL.out.2 (D9.out _ B4).2 (vals_one _) (by unfold maxLen; omega) (by omega) ?_
            intro v59 W5 O5 E5
            have B5 := B4.trans (E5.below O4)
            rw [HFIN.out.1, HFIN.out.2] at O5
            obtain ⟨g59, c59, rfl⟩ : ∃ g c, v59 = .slice (some ⟨g, 0, none⟩) (insV d ⟨xt, xn, xs⟩).length c := by obtain ⟨g, c, e, _⟩ := O5; exact ⟨g, c, e⟩
            refine hK.out _ _ (S9.out _ B5) (fun hH => ?_)
            clear hK K E5
            refine takeH (i := 15) (d := some 3) (v := .slice (some ⟨g59, 0, none⟩) (insV d ⟨xt, xn, xs⟩).length c59) rfl rfl (by kernel_rfl) (by kernel_rfl) (by kernel_rfl) (fun _ _ _ h => h) (Or.inl ⟨by rfl, fun W hSw => by go_simp⟩) hH ?_
            try simp only [put_some, List.set_cons_zero, List.set_cons_succ]
            have OF := Lib.hid O5
            have BF := Lib.hid B5
            clear O5 B5
            refine wpAnyH_done (by kernel_rfl) ?_ _
            go_wp2
            go_roundw
            case rel => exact ⟨k + 1, by omega, by go_num, by rw [HSK.out]; exact OF.out.lower (Nat.le_trans HBR.out.size B9.size), below_then HBR.out (below_then B9 BF.out B9.size) HBR.out.size⟩
            case measure => simp [intOf]; omega
    · obtain rfl : k = n := by omega
      rw [← HL.out, List.take_length] at hown
      go_wp2
      go_ret
      exact ⟨_, rfl, hown, hbr⟩

end Go.Proofs.Ythniakklkepomaa
