/- Texts of this claim, one behind the other: Draw11u, Draw11v, Draw11w. -/
import Derived.Test.YtafoldpmodipaaaP18
import Derived.Test.YtafoldpmodipaaaP22
import Derived.Test.YtafoldpmodipaaaP28
import Derived.Test.YtafoldpmodipaaaP20

/- The contract of the model's draw of a predicate: l11Draw (written by mk_Draw11u.py). -/
namespace Go.Proofs.Ytafoldpmodipaaa
open Go.RowKit

/-- The cells of Preds, each with its slice of operands. -/
def pcs (ps : List (T × Value)) : List Value := ps.flatMap fun p => p.1.cs p.2
theorem pcs_len (ps : List (T × Value)) : (pcs ps).length = ps.length * 7 := flat_len (fun p : T × Value => p.1.cs p.2) 7 (fun _ => rfl) ps
theorem pcs_get {ps : List (T × Value)} {k j : Nat} (hk : k < ps.length) (hj : j < 7) : (pcs ps)[k * 7 + j]? = (ps[k].1.cs ps[k].2)[j]? := flat_get (fun p : T × Value => p.1.cs p.2) 7 (fun _ => rfl) ps k j hk hj

/-- append(s, x): x, a Pred, has just been laid in a block of its own. -/
theorem appendT_law {P : Program} {t e : TypeId} {z : Value} {bytes : Nat} (T : ElemT P t e z 7 bytes) {w : World} {ops : Array Oper} {rest : List Oper} {o : Oper} {a : Act} {Q : Exit → Act → World → Prop} (hgd : o.guard = none) (s x : Operand)
    (ho : o.op = .call { callee := .builtin .append, args := #[s, x], argTypes := #[t, t] })
    (lo hi : Nat) (v : Value) (n : Nat) (xs : List Value) (k c p m q : Int) (st : ByteArray) (ua : Option Addr) (un uc : Nat) (hs : a.eval s = v) (hown : Own e 7 lo hi w v n xs)
    (N : Nat) (hN : w.heap.size = N) (hx : a.eval x = .slice (some ⟨N, 0, none⟩) 1 1)
    (h63 : n + 1 ≤ maxLen) (hbytes : (n + 1) * bytes ≤ 140737488355328)
    (h : ∀ v' w', Own e 7 lo w'.heap.size w' v' (n + 1) (xs ++ [.int .i64 k, .int .i64 c, .int .i64 p, .int .i64 m, .int .i64 q, .string st, .slice ua un uc]) → Ext w w' v v' → wpList P ops Q rest (a.put o.dst v') w') : wpList P ops Q (o :: rest) a (w.alloc (.cells #[.int .i64 k, .int .i64 c, .int .i64 p, .int .i64 m, .int .i64 q, .string st, .slice ua un uc] e)) := by
  subst hN
  refine append_law T hgd s x ho lo hi v n xs hs (hown.alloc _) w.heap.size 0 1 1 [.int .i64 k, .int .i64 c, .int .i64 p, .int .i64 m, .int .i64 q, .string st, .slice ua un uc] hx rfl ?_ ?_ h63 hbytes (fun v' w' h1 h2 => h v' w' h1 ((Ext.alloc v _).trans h2))
  · intro j y hj
    match j, hj with
    | 0, hj => simp at hj; subst hj; simp
    | 1, hj => simp at hj; subst hj; simp
    | 2, hj => simp at hj; subst hj; simp
    | 3, hj => simp at hj; subst hj; simp
    | 4, hj => simp at hj; subst hj; simp
    | 5, hj => simp at hj; subst hj; simp
    | 6, hj => simp at hj; subst hj; simp
    | j + 7, hj => simp at hj
  · intro y hy
    simp at hy
    rcases hy with rfl | rfl | rfl | rfl | rfl | rfl | rfl <;> rfl

theorem pcs_take (ps : List (T × Value)) (m : Nat) : (pcs ps).take (m * 7) = pcs (ps.take m) := by
  induction m generalizing ps with
  | zero => simp [pcs]
  | succ m ih =>
    cases ps with
    | nil => simp [pcs]
    | cons p ps =>
      have e : pcs (p :: ps) = p.1.cs p.2 ++ pcs ps := rfl
      have e2 : (m + 1) * 7 - 7 = m * 7 := by omega
      rw [e, List.take_append, List.take_of_length_le (by rw [T.cs_len]; omega), T.cs_len, e2, ih]
      rfl

/-- The operands drawn so far: in blocks from lo on, none frozen, apart from the slice out. -/
def DrewTs (lo : Nat) (w : World) (out : Value) (ps : List (T × Value)) : Prop := ∀ p ∈ ps, RdT (fun b => lo ≤ b ∧ b < w.heap.size ∧ some b ≠ out.ownBlock ∧ Plain w b) w p.1 p.2
theorem DrewTs.keep {lo lo' : Nat} {w w' : World} {out out' : Value} {ps : List (T × Value)} (h : DrewTs lo w out ps) (hs : w.heap.size ≤ w'.heap.size) (hlo : lo' ≤ lo) (ho : ∀ b, b < w.heap.size → some b ≠ out.ownBlock → some b ≠ out'.ownBlock) (hw : ∀ b, lo ≤ b → b < w.heap.size → some b ≠ out.ownBlock → w'.heap[b]? = w.heap[b]?) : DrewTs lo' w' out' ps := fun p hp =>
  RdT.keep (fun b hb => ⟨Nat.le_trans hlo hb.1, Nat.lt_of_lt_of_le hb.2.1 hs, ho b hb.2.1 hb.2.2.1, hb.2.2.2.of (hw b hb.1 hb.2.1 hb.2.2.1)⟩) (fun b hb _ _ hx => (World.cell?_of_block (hw b hb.1 hb.2.1 hb.2.2.1)).trans hx) p.1 p.2 (h p hp)
theorem DrewTs.draw {lo g : Nat} {w w' : World} {out : Value} {ps : List (T × Value)} (h : DrewTs lo w out ps) (hg : w.grownBy w' (some g)) (hl : g < lo) : DrewTs lo w' out ps :=
  h.keep hg.size (Nat.le_refl _) (fun _ _ h => h) (fun b hb hlt _ => hg.block b hlt (fun e => by
    have : b = g := by simpa using e
    omega))
theorem DrewTs.below {lo : Nat} {w w' : World} {out : Value} {ps : List (T × Value)} (h : DrewTs lo w out ps) (hb : Below w.heap.size w w') : DrewTs lo w' out ps :=
  h.keep hb.size (Nat.le_refl _) (fun _ _ h => h) (fun b _ hlt _ => hb.block b hlt)
theorem DrewTs.ext {lo : Nat} {w w' : World} {out out' : Value} {ps : List (T × Value)} (h : DrewTs lo w out ps) (he : Ext w w' out out') : DrewTs lo w' out' ps :=
  h.keep he.grown.size (Nat.le_refl _) (fun b hlt hne e => by
    rcases he.blk with hk | ⟨g', hk, hge⟩
    · rw [hk] at e
      exact hne e
    · rw [hk] at e
      have : b = g' := by simpa using e
      omega) (fun b _ hlt hne => he.grown.block b hlt hne)
theorem DrewTs.add {lo : Nat} {w w' : World} {out out' : Value} {ps : List (T × Value)} (h : DrewTs lo w out ps) (he : Ext w w' out out') {p : T × Value} (hp : RdT (fun b => lo ≤ b ∧ b < w.heap.size ∧ some b ≠ out.ownBlock ∧ Plain w b) w p.1 p.2) : DrewTs lo w' out' (ps ++ [p]) := by
  refine DrewTs.ext (w := w) (out := out) (fun q hq => ?_) he
  rcases List.mem_append.1 hq with hq | hq
  · exact h q hq
  · rw [List.mem_singleton.1 hq]
    exact hp

/-- A tree whose memory is the call's own, none of it frozen: its slice of operands is nil or the call's own, and what lies below lies in other blocks. -/
def Mine (lo : Nat) (w : World) (t : T) (u : Value) : Prop :=
  (t.l = [] ∧ u = .slice none 0 0) ∨ ∃ ps : List (T × Value), t.l = ps.map (·.1) ∧ ps.length ≤ maxLen ∧ Own 46 7 lo w.heap.size w u ps.length (pcs ps) ∧ DrewTs lo w u ps
theorem Mine.rd {lo : Nat} {w : World} {t : T} {u : Value} (h : Mine lo w t u) : RdT (PQ lo w) w t u := by
  rcases h with ⟨hl, rfl⟩ | ⟨ps, hl, hm, hown, hd⟩
  · rw [RdT_def, hl]
    exact ⟨none, 0, rfl, Nat.zero_le _, .inl rfl⟩
  · obtain ⟨og, cap, rfl, hlo, hlt, _⟩ := id hown
    have hpl : Plain w og := plain_own hown rfl
    obtain ⟨b', off', cp', e', _, _, _, hcs⟩ := hown.at
    simp only [Value.slice.injEq, Option.some.injEq, Addr.mk.injEq, and_true, true_and] at e'
    obtain ⟨⟨rfl, rfl⟩, rfl⟩ := e'
    have hlen : t.l.length = ps.length := by rw [hl, List.length_map]
    rw [RdT_def, hlen]
    refine ⟨some ⟨og, 0, none⟩, cap, rfl, hm, .inr ⟨og, 0, rfl, ⟨hlo, hlt, hpl⟩, ?_⟩⟩
    rw [RdTs_iff, hlen]
    intro q hq
    have e : t.l.getD q T.zero = ps[q].1 := by
      rw [hl, List.getD_eq_getElem?_getD, List.getElem?_map, List.getElem?_eq_getElem hq]
      rfl
    rw [e]
    refine ⟨ps[q].2, fun i x hx => ?_, (hd _ (List.getElem_mem hq)).mono (fun b hb => ⟨hb.1, hb.2.1, hb.2.2.2⟩)⟩
    have hi : i < 7 := (List.getElem?_eq_some_iff.1 hx).1
    have := hcs (q * 7 + i) x ((pcs_get hq hi).trans hx)
    rw [← Nat.add_assoc] at this
    exact this
theorem Mine.keep {lo lo' : Nat} {w w' : World} {t : T} {u : Value} (h : Mine lo w t u) (hs : w.heap.size ≤ w'.heap.size) (hlo : lo' ≤ lo) (hw : ∀ b, lo ≤ b → b < w.heap.size → w'.heap[b]? = w.heap[b]?) : Mine lo' w' t u := by
  rcases h with h | ⟨ps, hl, hm, hown, hd⟩
  · exact .inl h
  · obtain ⟨og, cap, rfl, h1, h2, _⟩ := id hown
    exact .inr ⟨ps, hl, hm, (hown.keep (hw og h1 h2) hs).lower hlo, hd.keep hs hlo (fun _ _ h => h) (fun b hb hlt _ => hw b hb hlt)⟩
theorem Mine.low {lo lo' : Nat} {w : World} {t : T} {u : Value} (h : Mine lo w t u) (hlo : lo' ≤ lo) : Mine lo' w t u := h.keep (Nat.le_refl _) hlo (fun _ _ _ => rfl)
theorem Mine.draw {lo g : Nat} {w w' : World} {t : T} {u : Value} (h : Mine lo w t u) (hg : w.grownBy w' (some g)) (hl : g < lo) : Mine lo w' t u :=
  h.keep hg.size (Nat.le_refl _) (fun b hb hlt => hg.block b hlt (fun e => by
    have : b = g := by simpa using e
    omega))
theorem Mine.below {lo : Nat} {w w' : World} {t : T} {u : Value} (h : Mine lo w t u) (hb : Below w.heap.size w w') : Mine lo w' t u := h.keep hb.size (Nat.le_refl _) (fun b _ hlt => hb.block b hlt)
theorem Mine.setCell {lo : Nat} {w : World} {t : T} {u : Value} (h : Mine lo w t u) {p : Addr} (hp : p.block < lo) (x : Value) : Mine lo (w.setCell p x) t u :=
  h.keep (by simp [World.setCell]) (Nat.le_refl _) (fun b hb _ => Below.heap_setCell _ _ _ _ (fun e => by omega))
/-- A node over the first m of its operands. -/
theorem mine_take {lo : Nat} {w : World} {og n m cap : Nat} {ps : List (T × Value)} {k c o : Int} {v : V} (hn : ps.length = n) (hm : m ≤ n) (hx : n ≤ maxLen) (hown : Own 46 7 lo w.heap.size w (.slice (some ⟨og, 0, none⟩) n cap) n (pcs ps)) (hd : DrewTs lo w (.slice (some ⟨og, 0, none⟩) n cap) ps) :
    Mine lo w (.mk k c o v ((ps.take m).map (·.1))) (.slice (some ⟨og, 0, none⟩) m cap) := by
  have hl : (ps.take m).length = m := by simp; omega
  refine .inr ⟨ps.take m, rfl, by omega, ?_, fun p hp => ?_⟩
  · rw [hl, ← pcs_take]
    exact hown.shorter hm
  · exact hd p (List.mem_of_mem_take hp)
theorem rd_nil {Q : Nat → Prop} {w : World} {t : T} (h : t.l = []) : RdT Q w t (.slice none 0 0) := by
  rw [RdT_def, h]
  exact ⟨none, 0, rfl, Nat.zero_le _, .inl rfl⟩
theorem small_iff {t : T} : t.Small ↔ t.v.s.size ≤ maxLen ∧ ∀ x ∈ t.l, x.Small := T.all_iff
theorem cmp_small {cols : List Int} {t : T} (h : CmpOk cols t) : t.bulk ≤ 8 ∧ t.Small := by
  obtain ⟨_, h2, X, _, _, _, h3⟩ := h
  have := h3.fair.s
  refine ⟨?_, ?_⟩
  · rw [T.bulk_def, h2, T.bulks]
    omega
  · rw [small_iff, h2]
    exact ⟨by unfold maxLen; omega, fun x hx => by cases hx⟩

theorem bulks_le {l : List T} {B : Nat} (h : ∀ x ∈ l, x.bulk ≤ B) : T.bulks l ≤ l.length * B := by
  induction l with
  | nil =>
    rw [T.bulks]
    exact Nat.zero_le _
  | cons t l ih =>
    rw [T.bulks, List.length_cons, Nat.succ_mul]
    have h1 := h t List.mem_cons_self
    have h2 := ih (fun x hx => h x (List.mem_cons_of_mem _ hx))
    omega
theorem node_small {ps : List (T × Value)} {d m : Nat} {k : Int} (h : ∀ p ∈ ps, p.1.bulk ≤ 8 * 3 ^ d ∧ p.1.Small) (hm : m ≤ 2) : (T.mk k 0 0 V.zero ((ps.take m).map (·.1))).bulk ≤ 8 * 3 ^ (d + 1) ∧ (T.mk k 0 0 V.zero ((ps.take m).map (·.1))).Small := by
  have hmem : ∀ x ∈ (ps.take m).map (·.1), x.bulk ≤ 8 * 3 ^ d ∧ x.Small := fun x hx => by
    obtain ⟨p, hp, rfl⟩ := List.mem_map.1 hx
    exact h p (List.mem_of_mem_take hp)
  refine ⟨?_, ?_⟩
  · have h1 := bulks_le (fun x hx => (hmem x hx).1)
    have h2 : ((ps.take m).map (·.1)).length ≤ 2 := by simp; omega
    have h3 : 1 ≤ 3 ^ d := Nat.one_le_pow _ _ (by omega)
    have h4 := Nat.mul_le_mul_right (8 * 3 ^ d) h2
    rw [T.bulk, Nat.pow_succ]
    show (0 : Nat) + 1 + _ ≤ _
    omega
  · rw [small_iff]
    exact ⟨Nat.zero_le _, fun x hx => (hmem x hx).2⟩
theorem leaf_small {t : T} {d : Nat} (h : t.bulk ≤ 8 ∧ t.Small) : t.bulk ≤ 8 * 3 ^ d ∧ t.Small := by
  have h3 : 1 ≤ 3 ^ d := Nat.one_le_pow _ _ (by omega)
  exact ⟨by omega, h.2⟩
theorem all_small : (T.mk 1 0 0 V.zero []).bulk ≤ 8 ∧ (T.mk 1 0 0 V.zero []).Small := by
  refine ⟨?_, ?_⟩
  · rw [T.bulk, T.bulks]
    show (0 : Nat) + 1 + 0 ≤ 8
    omega
  · rw [small_iff]
    exact ⟨Nat.zero_le _, fun x hx => by cases hx⟩

/-- What l11Draw draws. -/
def DrewT (c : Code) (g : Nat) (w : World) (d : Nat) (e : Ending) (w' : World) : Prop :=
  ∃ (t : T) (u : Value), e = .returned (t.agg u) ∧ (t.bulk ≤ 8 * 3 ^ d ∧ t.Small) ∧ Mine w.heap.size w' t u ∧ Going c g w w'
theorem Going.size {c : Code} {g : Nat} {w w' : World} (h : Going c g w w') : w.heap.size ≤ w'.heap.size := h.grown.size

set_option maxRecDepth 100000 in
set_option maxHeartbeats 8000000 in
theorem l11Draw (c : Code) (g lo : Nat) (v : Value) (cols : List Int) (hn : cols.length ≤ 1000) (hn0 : 0 < cols.length) (hlo : g < lo) : ∀ (d : Nat), d ≤ 100 → ∀ (w : World), ColS lo w v cols → (∀ b, v.ownBlock = some b → b < w.heap.size) → Cur c g w →
    Calls Try.prog 89 #[.pointer (some ⟨g, 0, none⟩), v, .int .i64 d] w (DrewT c g w d) := by
  intro d
  induction d with
  | zero =>
    intro hd w hv hvw h
    have hgl := h.lt
    have R0 := blk_new w [.int .i64 0, .int .i64 0, .int .i64 0, .int .i64 0, .int .i64 0, .string ⟨#[]⟩, .slice none 0 0] 46
    have G0 := (Going.start h).alloc (.cells #[.int .i64 0, .int .i64 0, .int .i64 0, .int .i64 0, .int .i64 0, .string ⟨#[]⟩, .slice none 0 0] 46)
    have V0 := hv.below (below_alloc w (.cells #[.int .i64 0, .int .i64 0, .int .i64 0, .int .i64 0, .int .i64 0, .string ⟨#[]⟩, .slice none 0 0] 46))
    generalize hw0 : w.alloc (.cells #[.int .i64 0, .int .i64 0, .int .i64 0, .int .i64 0, .int .i64 0, .string ⟨#[]⟩, .slice none 0 0] 46) = w0 at R0 G0 V0
    have HW0 := Lib.hid hw0
    clear hw0 hv
    go_enter Try.func89, Try.ntmps89
    go_wp2_with fail
    rw [HW0.out]
    refine (l1Once c g _ _ G0.cur).mono ?_
    rintro e wL ⟨b, rfl, hcL, hgL⟩
    have GL := G0.next hcL hgL
    have RL := R0.draw hgL (by omega)
    have VL := V0.draw hgL hlo
    clear G0 R0 V0 hcL hgL
    cases b with
    | true =>
      obtain ⟨m0, n0⟩ := RL 0 _ rfl
      obtain ⟨m1, n1⟩ := RL 1 _ rfl
      obtain ⟨m2, n2⟩ := RL 2 _ rfl
      obtain ⟨m3, n3⟩ := RL 3 _ rfl
      obtain ⟨m4, n4⟩ := RL 4 _ rfl
      obtain ⟨m5, n5⟩ := RL 5 _ rfl
      obtain ⟨m6, n6⟩ := RL 6 _ rfl
      have HG := Lib.hid GL
      clear GL RL VL
      go_wp2
      exact bodyPost_ret (v := .agg #[.int .i64 1, .int .i64 0, .int .i64 0, .int .i64 0, .int .i64 0, .string ⟨#[]⟩, .slice none 0 0]) (by simp [results, Try.results89, go_sem, *]) rfl ⟨.mk 1 0 0 V.zero [], .slice none 0 0, rfl, leaf_small all_small, .inl ⟨rfl, rfl⟩, (((((((HG.out.set (by simp) _ _).set (by simp) _ _).set (by simp) _ _).set (by simp) _ _).set (by simp) _ _).set (by simp) _ _).set (by simp) _ _)⟩
    | false =>
      go_wp2_with fail
      refine (l11Cmp1 c g lo v cols wL hn hn0 hlo VL GL.cur).mono ?_
      rintro e wM ⟨t, rfl, ht, GM⟩
      have HG := Lib.hid (GL.next GM.cur GM.grown)
      have RM := RL.draw GM.grown (by omega)
      have HS := Lib.hid (leaf_small (d := 0) (cmp_small ht))
      have HN := Lib.hid ht.2.1
      obtain ⟨m0, n0⟩ := RM 0 _ rfl
      obtain ⟨m1, n1⟩ := RM 1 _ rfl
      obtain ⟨m2, n2⟩ := RM 2 _ rfl
      obtain ⟨m3, n3⟩ := RM 3 _ rfl
      obtain ⟨m4, n4⟩ := RM 4 _ rfl
      obtain ⟨m5, n5⟩ := RM 5 _ rfl
      obtain ⟨m6, n6⟩ := RM 6 _ rfl
      obtain ⟨xk, xc, xo, ⟨xt, xn, xs⟩, xl⟩ := t
      simp only [T.agg, T.kind, T.col, T.op, T.v]
      clear GL RL VL GM RM ht
      go_wp2
      exact bodyPost_ret (v := .agg #[.int .i64 xk, .int .i64 xc, .int .i64 xo, .int .i64 xt, .int .i64 xn, .string xs, .slice none 0 0]) (by simp [results, Try.results89, go_sem, *]) rfl ⟨.mk xk xc xo ⟨xt, xn, xs⟩ xl, .slice none 0 0, rfl, HS.out, .inl ⟨HN.out, rfl⟩, (((((((HG.out.set (by simp) _ _).set (by simp) _ _).set (by simp) _ _).set (by simp) _ _).set (by simp) _ _).set (by simp) _ _).set (by simp) _ _)⟩
  | succ d ih =>
    intro hd w hv hvw h
    have hgl := h.lt
    have R0 := blk_new w [.int .i64 0, .int .i64 0, .int .i64 0, .int .i64 0, .int .i64 0, .string ⟨#[]⟩, .slice none 0 0] 46
    have G0 := (Going.start h).alloc (.cells #[.int .i64 0, .int .i64 0, .int .i64 0, .int .i64 0, .int .i64 0, .string ⟨#[]⟩, .slice none 0 0] 46)
    have V0 := hv.below (below_alloc w (.cells #[.int .i64 0, .int .i64 0, .int .i64 0, .int .i64 0, .int .i64 0, .string ⟨#[]⟩, .slice none 0 0] 46))
    generalize hw0 : w.alloc (.cells #[.int .i64 0, .int .i64 0, .int .i64 0, .int .i64 0, .int .i64 0, .string ⟨#[]⟩, .slice none 0 0] 46) = w0 at R0 G0 V0
    have HW0 := Lib.hid hw0
    clear hw0 hv
    have hb0 : ((d + 1 : Int) == 0) = false := by simp; omega
    go_enter Try.func89, Try.ntmps89
    go_wp2_with fail
    rw [HW0.out]
    refine (l1Once c g _ _ G0.cur).mono ?_
    rintro e w1 ⟨b, rfl, hc1, hg1⟩
    have G1 := G0.next hc1 hg1
    have R1 := R0.draw hg1 (by omega)
    have V1 := V0.draw hg1 hlo
    clear G0 R0 V0 hc1 hg1 HW0
    cases b with
    | true =>
      go_wp2_with fail
      refine (l1Once c g _ _ G1.cur).mono ?_
      rintro e wL ⟨b, rfl, hcL, hgL⟩
      have GL := G1.next hcL hgL
      have RL := R1.draw hgL (by omega)
      have VL := V1.draw hgL hlo
      clear G1 R1 V1 hcL hgL
      cases b with
      | true =>
        obtain ⟨m0, n0⟩ := RL 0 _ rfl
        obtain ⟨m1, n1⟩ := RL 1 _ rfl
        obtain ⟨m2, n2⟩ := RL 2 _ rfl
        obtain ⟨m3, n3⟩ := RL 3 _ rfl
        obtain ⟨m4, n4⟩ := RL 4 _ rfl
        obtain ⟨m5, n5⟩ := RL 5 _ rfl
        obtain ⟨m6, n6⟩ := RL 6 _ rfl
        have HG := Lib.hid GL
        clear GL RL VL
        go_wp2
        exact bodyPost_ret (v := .agg #[.int .i64 1, .int .i64 0, .int .i64 0, .int .i64 0, .int .i64 0, .string ⟨#[]⟩, .slice none 0 0]) (by simp [results, Try.results89, go_sem, *]) rfl ⟨.mk 1 0 0 V.zero [], .slice none 0 0, rfl, leaf_small all_small, .inl ⟨rfl, rfl⟩, (((((((HG.out.set (by simp) _ _).set (by simp) _ _).set (by simp) _ _).set (by simp) _ _).set (by simp) _ _).set (by simp) _ _).set (by simp) _ _)⟩
      | false =>
        go_wp2_with fail
        refine (l11Cmp1 c g lo v cols wL hn hn0 hlo VL GL.cur).mono ?_
        rintro e wM ⟨t, rfl, ht, GM⟩
        have HG := Lib.hid (GL.next GM.cur GM.grown)
        have RM := RL.draw GM.grown (by omega)
        have HS := Lib.hid (leaf_small (d := (d + 1)) (cmp_small ht))
        have HN := Lib.hid ht.2.1
        obtain ⟨m0, n0⟩ := RM 0 _ rfl
        obtain ⟨m1, n1⟩ := RM 1 _ rfl
        obtain ⟨m2, n2⟩ := RM 2 _ rfl
        obtain ⟨m3, n3⟩ := RM 3 _ rfl
        obtain ⟨m4, n4⟩ := RM 4 _ rfl
        obtain ⟨m5, n5⟩ := RM 5 _ rfl
        obtain ⟨m6, n6⟩ := RM 6 _ rfl
        obtain ⟨xk, xc, xo, ⟨xt, xn, xs⟩, xl⟩ := t
        simp only [T.agg, T.kind, T.col, T.op, T.v]
        clear GL RL VL GM RM ht
        go_wp2
        exact bodyPost_ret (v := .agg #[.int .i64 xk, .int .i64 xc, .int .i64 xo, .int .i64 xt, .int .i64 xn, .string xs, .slice none 0 0]) (by simp [results, Try.results89, go_sem, *]) rfl ⟨.mk xk xc xo ⟨xt, xn, xs⟩ xl, .slice none 0 0, rfl, HS.out, .inl ⟨HN.out, rfl⟩, (((((((HG.out.set (by simp) _ _).set (by simp) _ _).set (by simp) _ _).set (by simp) _ _).set (by simp) _ _).set (by simp) _ _).set (by simp) _ _)⟩
    | false =>
      go_wp2_with fail
      refine (l1Below c g _ _ G1.cur).mono ?_
      rintro e w2 ⟨kk, rfl, hkk, hc2, hg2⟩
      have G2 := (G1.next hc2 hg2).alloc (.cells #[] 46)
      have A2 := below_alloc w2 (.cells #[] 46)
      have R2 := (R1.draw hg2 (by omega)).below A2
      have V2 := (V1.draw hg2 hlo).below A2
      have hsz2 : w.heap.size + 1 ≤ w2.heap.size := by
        have := R1.lt
        have := hg2.size
        omega
      have O2 := (own_lit (e := 46) (size := 7) w2 #[] 0 (Nat.zero_le _) rfl).lower hsz2
      generalize hw3 : w2.alloc (.cells #[] 46) = w3 at G2 R2 V2 O2
      have HW3 := Lib.hid hw3
      generalize hq3 : w2.heap.size = q3 at O2
      have HQ3 := Lib.hid hq3
      have hk0 : 0 ≤ kk := hkk.1
      have hk1 : kk ≤ 2 := by omega
      clear G1 R1 V1 hc2 hg2 A2 hkk hw3 hq3
      go_wp2_with fail
      rw [HW3.out, HQ3.out]
      refine (l1Below c g _ _ G2.cur).mono ?_
      rintro e w4 ⟨N, rfl, hN, hc4, hg4⟩
      have G4 := G2.next hc4 hg4
      have R4 := R2.draw hg4 (by omega)
      have V4 := V2.draw hg4 hlo
      have O4 := (O2.draw hg4 (by omega)).wide hg4.size
      obtain ⟨N, rfl⟩ := Int.eq_ofNat_of_zero_le hN.1
      have hN1 : N ≤ 1 := by omega
      have D4 : DrewTs (w.heap.size + 1) w4 (.slice (some ⟨q3, 0, none⟩) 0 0) [] := fun p hp => (by cases hp)
      clear G2 R2 V2 O2 hc4 hg4 hN HW3 HQ3
      go_wp2
      go_loopw [8, 9] (fun o i wr => ∃ (j : Nat) (ps : List (T × Value)), j ≤ N + 1 ∧ i = .int .i64 ((N : Int) + 1 - j) ∧ ps.length = j ∧ (∀ p ∈ ps, p.1.bulk ≤ 8 * 3 ^ d ∧ p.1.Small) ∧ Own 46 7 (w.heap.size + 1) wr.heap.size wr o j (pcs ps) ∧ DrewTs (w.heap.size + 1) wr o ps ∧ Blk wr w.heap.size [.int .i64 0, .int .i64 0, .int .i64 0, .int .i64 0, .int .i64 0, .string ⟨#[]⟩, .slice none 0 0] ∧ ColS lo wr v cols ∧ Going c g w wr) (fun _ i _ => (intOf i).toNat)
      case atStart => exact ⟨0, [], Nat.zero_le _, by go_num, rfl, fun p hp => (by cases hp), O4, D4, R4, V4, G4⟩
      case round =>
        obtain ⟨j, ps, hj, rfl, hps, hbs, hown, D, R, VC, G⟩ := hrel
        have HPS := Lib.hid hps
        have HBS := Lib.hid hbs
        clear hps hbs O4 D4 R4 V4 G4
        by_cases hlt : j < N + 1
        · have hij : (0 : Int) < (N : Int) + 1 - j := by omega
          have hdd : (d + 1 : Int) - 1 = (d : Int) := by omega
          have hown' := hown
          obtain ⟨og, oc, ho, hog, hoh, _⟩ := hown'
          subst ho
          have HIH := Lib.hid (ih (by omega) wr VC (fun b hb => Nat.lt_of_lt_of_le (hvw b hb) G.size) G.cur)
          go_wp2_with fail
          refine HIH.out.mono ?_
          rintro e w5 ⟨t, u, rfl, ⟨hbt, hst⟩, hmine, G5⟩
          have hr := hmine.rd
          clear hmine
          obtain ⟨xa, xcp, hu, _⟩ := RdT_def.1 hr
          obtain ⟨xk, xc, xo, ⟨xt, xn, xs⟩, xl⟩ := t
          generalize (T.mk xk xc xo ⟨xt, xn, xs⟩ xl).l.length = xln at hu
          subst hu
          have hg5 := G5.grown
          have A6 := below_alloc w5 (.cells #[.int .i64 xk, .int .i64 xc, .int .i64 xo, .int .i64 xt, .int .i64 xn, .string xs, .slice xa xln xcp] 46)
          have G6 := (G.next G5.cur hg5).alloc (.cells #[.int .i64 xk, .int .i64 xc, .int .i64 xo, .int .i64 xt, .int .i64 xn, .string xs, .slice xa xln xcp] 46)
          have O6 := (((hown.draw hg5 (by omega)).wide hg5.size).below A6 (Nat.le_refl _)).wide A6.size
          have D6 := (D.draw hg5 (by omega)).below A6
          have R6 := (R.draw hg5 (by omega)).below A6
          have V6 := (VC.draw hg5 hlo).below A6
          have hr6 : RdT (fun b => w.heap.size + 1 ≤ b ∧ b < (w5.alloc (.cells #[.int .i64 xk, .int .i64 xc, .int .i64 xo, .int .i64 xt, .int .i64 xn, .string xs, .slice xa xln xcp] 46)).heap.size ∧ some b ≠ (Value.slice (some ⟨og, 0, none⟩) j oc).ownBlock ∧ Plain (w5.alloc (.cells #[.int .i64 xk, .int .i64 xc, .int .i64 xo, .int .i64 xt, .int .i64 xn, .string xs, .slice xa xln xcp] 46)) b) (w5.alloc (.cells #[.int .i64 xk, .int .i64 xc, .int .i64 xo, .int .i64 xt, .int .i64 xn, .string xs, .slice xa xln xcp] 46)) (T.mk xk xc xo ⟨xt, xn, xs⟩ xl) (.slice xa xln xcp) := (hr.below A6).mono (fun b hb => by
            have hb1 : wr.heap.size ≤ b := hb.1
            exact ⟨by omega, Nat.lt_of_lt_of_le hb.2.1 A6.size, fun e => by
              have : b = og := by simpa [Value.ownBlock] using e
              omega, hb.2.2.below A6⟩)
          have HADD := Lib.hid (fun w' out' (he : Ext (w5.alloc (.cells #[.int .i64 xk, .int .i64 xc, .int .i64 xo, .int .i64 xt, .int .i64 xn, .string xs, .slice xa xln xcp] 46)) w' (.slice (some ⟨og, 0, none⟩) j oc) out') => D6.add he (p := (T.mk xk xc xo ⟨xt, xn, xs⟩ xl, .slice xa xln xcp)) hr6)
          have HPA : Hid (pcs ps ++ [.int .i64 xk, .int .i64 xc, .int .i64 xo, .int .i64 xt, .int .i64 xn, .string xs, .slice xa xln xcp] = pcs (ps ++ [(T.mk xk xc xo ⟨xt, xn, xs⟩ xl, Value.slice xa xln xcp)])) := by
            show _ = _
            simp [pcs, T.cs, T.kind, T.col, T.op, T.v]
          have HBN : Hid (∀ p ∈ ps ++ [(T.mk xk xc xo ⟨xt, xn, xs⟩ xl, Value.slice xa xln xcp)], p.1.bulk ≤ 8 * 3 ^ d ∧ p.1.Small) := fun p hp => by
            rcases List.mem_append.1 hp with hp | hp
            · exact HBS.out p hp
            · rw [List.mem_singleton.1 hp]
              exact ⟨hbt, hst⟩
          simp only [T.agg, T.kind, T.col, T.op, T.v]
          clear hr hr6 D6 D R VC G hown hbt hst G5 HIH
          go_wp2_with (at_builtin; refine appendT_law Try.elemPreds rfl _ _ rfl _ _ _ _ _ xk xc xo xt xn xs xa xln xcp rfl O6 _ (World.size_alloc _ _) rfl (by unfold maxLen; omega) (by omega) ?_)
          intro v7 w7 o7 e7
          have G7 := G6.ext O6 (by omega) e7
          have D7 := HADD.out _ _ e7
          have R7 := R6.grown e7.grown (fun e => by
            have : w.heap.size = og := by simpa [Value.ownBlock] using e
            omega)
          have V7 : ColS lo w7 v cols := by
            obtain ⟨vb, hvb, hvl, hvB⟩ := V6
            refine ⟨vb, hvb, hvl, hvB.grown e7.grown (fun e => ?_)⟩
            have hxx : vb = og := by simpa [Value.ownBlock] using e
            have := hvw vb (by rw [hvb]; rfl)
            omega
          rw [HPA.out] at o7
          have O7 := Lib.hid o7
          have o7x := o7
          obtain ⟨b7, c7, hv7, _⟩ := o7x
          subst hv7
          clear o7 e7 O6 R6 V6 G6 HADD HPA A6 hg5 hoh
          go_wp2
          go_roundw
          case rel => exact ⟨j + 1, _, by omega, by go_num, by rw [List.length_append, HPS.out]; rfl, HBN.out, O7.out, D7, R7, V7, G7⟩
          case measure => simp [intOf]; omega
        · obtain rfl : j = N + 1 := by omega
          obtain ⟨og, oc, ho, hog, hoh, _⟩ := id hown
          subst ho
          have HCE := Lib.hid (fun (m : Nat) (hm : m ≤ N + 1) (k0 : Int) => mine_take (k := k0) (c := 0) (o := 0) (v := V.zero) HPS.out hm (by unfold maxLen; omega) hown D)
          have HBK : Hid (∀ m k0, m ≤ 2 → (T.mk k0 0 0 V.zero ((ps.take m).map (·.1))).bulk ≤ 8 * 3 ^ (d + 1) ∧ (T.mk k0 0 0 V.zero ((ps.take m).map (·.1))).Small) := fun m k0 hm => node_small HBS.out hm
          have HOC : Hid (og + 0 = og) := rfl
          obtain ⟨m0, n0⟩ := R 0 _ rfl
          obtain ⟨m1, n1⟩ := R 1 _ rfl
          obtain ⟨m2, n2⟩ := R 2 _ rfl
          obtain ⟨m3, n3⟩ := R 3 _ rfl
          obtain ⟨m4, n4⟩ := R 4 _ rfl
          obtain ⟨m5, n5⟩ := R 5 _ rfl
          obtain ⟨m6, n6⟩ := R 6 _ rfl
          have HG := Lib.hid G
          have hoc : N + 1 ≤ oc := by
            obtain ⟨_, _, cp', e', h1, _, _, _⟩ := hown.at
            simp only [Value.slice.injEq, Option.some.injEq, Addr.mk.injEq, and_true, true_and] at e'
            omega
          clear hown D R VC G HBS
          by_cases hk5 : kk = 2
          · subst hk5
            have hN0 : ¬ ((N : Int) + 1 < 1) := by omega
            go_wp2
            exact bodyPost_ret (v := .agg #[.int .i64 5, .int .i64 0, .int .i64 0, .int .i64 0, .int .i64 0, .string ⟨#[]⟩, .slice (some ⟨og, 0, none⟩) 1 oc]) (by simp [results, Try.results89, go_sem, *]) rfl ⟨.mk 5 0 0 V.zero ((ps.take 1).map (·.1)), .slice (some ⟨og, 0, none⟩) 1 oc, rfl, HBK.out 1 5 (by omega), ((((((((HCE.out 1 (by omega) 5).setCell (by simp) _).setCell (by simp) _).setCell (by simp) _).setCell (by simp) _).setCell (by simp) _).setCell (by simp) _).setCell (by simp) _).low (by omega), (((((((HG.out.set (by simp) _ _).set (by simp) _ _).set (by simp) _ _).set (by simp) _ _).set (by simp) _ _).set (by simp) _ _).set (by simp) _ _)⟩
          · have hkb : ((3 : Int) + kk == 5) = false := by simp; omega
            go_wp2
            exact bodyPost_ret (v := .agg #[.int .i64 (3 + kk), .int .i64 0, .int .i64 0, .int .i64 0, .int .i64 0, .string ⟨#[]⟩, .slice (some ⟨og, 0, none⟩) (N + 1) oc]) (by simp [results, Try.results89, go_sem, *]) rfl ⟨.mk (3 + kk) 0 0 V.zero ((ps.take (N + 1)).map (·.1)), .slice (some ⟨og, 0, none⟩) (N + 1) oc, rfl, HBK.out (N + 1) (3 + kk) (by omega), ((((((((HCE.out (N + 1) (by omega) (3 + kk)).setCell (by simp) _).setCell (by simp) _).setCell (by simp) _).setCell (by simp) _).setCell (by simp) _).setCell (by simp) _).setCell (by simp) _).low (by omega), (((((((HG.out.set (by simp) _ _).set (by simp) _ _).set (by simp) _ _).set (by simp) _ _).set (by simp) _ _).set (by simp) _ _).set (by simp) _ _)⟩

end Go.Proofs.Ytafoldpmodipaaa

/- The contract of the model's draw of a predicate that is right: l11Right (written by mk_Draw11v.py). -/
namespace Go.Proofs.Ytafoldpmodipaaa
open Go.RowKit

theorem colsD_ok {cols : List Int} (h : cols ∈ colsD) : colsB cols = true ∧ 0 < cols.length ∧ cols.length ≤ 3 ∧ ∀ x ∈ cols, x = 1 ∨ x = 2 := by
  simp only [colsD, List.mem_cons, List.not_mem_nil, or_false] at h
  rcases h with rfl | rfl | rfl | rfl | rfl | rfl <;> exact ⟨by decide, by decide, by decide, by decide⟩
theorem cmp_ok {cols : List Int} {t : T} (hc : cols ∈ colsD) (h : CmpOk cols t) : t.predOk cols = true := by
  obtain ⟨h1, _, _, h4⟩ := colsD_ok hc
  obtain ⟨hk, hl, X, hX, hcol, hop, hv⟩ := h
  have hy : cols.getD X 0 = 1 ∨ cols.getD X 0 = 2 := by
    have e : cols.getD X 0 = cols[X] := by simp [hX]
    rw [e]
    exact h4 _ (List.getElem_mem hX)
  have hown : t.own cols = true := by
    rw [T.own_2 hk, hcol, hl, Int.toNat_natCast, hv.1, hv.2]
    rw [Num.inB_true.2 ⟨by omega, by omega⟩, Num.inB_true.2 hop]
    rcases hy with e | e <;> rw [e] <;> rfl
  unfold T.predOk T.ok
  rw [h1, T.deep_def, hown, hl, T.count_def, hl, T.counts]
  rfl
set_option maxRecDepth 100000 in
set_option maxHeartbeats 8000000 in
theorem l11Right (c : Code) (g lo : Nat) (v : Value) (cols : List Int) (w : World) (hc : cols ∈ colsD) (hlo : g < lo) (hv : ColS lo w v cols) (hvw : ∀ b, v.ownBlock = some b → b < w.heap.size) (h : Cur c g w) :
    Calls Try.prog 55 #[.pointer (some ⟨g, 0, none⟩), v] w fun e w' => ∃ (t : T) (u : Value), e = .returned (t.agg u) ∧ (t.predOk cols = true ∧ t.bulk ≤ 72 ∧ t.Small) ∧ Mine w.heap.size w' t u ∧ Going c g w w' := by
  obtain ⟨_, hn0, hn3, _⟩ := colsD_ok hc
  have HCO := Lib.hid (fun t ht => cmp_ok (t := t) hc ht)
  have hgl := h.lt
  have R0 := blk_new w [.int .i64 0, .int .i64 0, .int .i64 0, .int .i64 0, .int .i64 0, .string ⟨#[]⟩, .slice none 0 0] 46
  have G0 := (Going.start h).alloc (.cells #[.int .i64 0, .int .i64 0, .int .i64 0, .int .i64 0, .int .i64 0, .string ⟨#[]⟩, .slice none 0 0] 46)
  have V0 := hv.below (below_alloc w (.cells #[.int .i64 0, .int .i64 0, .int .i64 0, .int .i64 0, .int .i64 0, .string ⟨#[]⟩, .slice none 0 0] 46))
  have hs0 : (w.alloc (.cells #[.int .i64 0, .int .i64 0, .int .i64 0, .int .i64 0, .int .i64 0, .string ⟨#[]⟩, .slice none 0 0] 46)).heap.size = w.heap.size + 1 := World.size_alloc _ _
  generalize hw0 : w.alloc (.cells #[.int .i64 0, .int .i64 0, .int .i64 0, .int .i64 0, .int .i64 0, .string ⟨#[]⟩, .slice none 0 0] 46) = w0 at R0 G0 V0 hs0
  have HW0 := Lib.hid hw0
  clear hw0 hv
  go_enter Try.func55, Try.ntmps55
  go_wp2_with fail
  rw [HW0.out]
  refine (l1Below c g _ _ G0.cur).mono ?_
  rintro e w1 ⟨y, rfl, hy, hc1, hg1⟩
  have G1 := G0.next hc1 hg1
  have R1 := R0.draw hg1 (by omega)
  have V1 := V0.draw hg1 hlo
  have hs1 : w.heap.size + 1 ≤ w1.heap.size := by have := hg1.size; omega
  obtain ⟨d, rfl⟩ := Int.eq_ofNat_of_zero_le hy.1
  have hd : d ≤ 2 := by omega
  have HD := Lib.hid (l11Draw c g lo v cols (by omega) hn0 hlo d (by omega) w1 V1 (fun b hb => by have := hvw b hb; omega) G1.cur)
  clear G0 R0 V0 hc1 hg1 hy HW0 hs0
  go_wp2_with fail
  refine HD.out.mono ?_
  rintro e w2 ⟨t, u, rfl, ⟨hbt, hst⟩, hmine, G2⟩
  have hr := hmine.rd
  obtain ⟨xa, xcp, hu, _⟩ := RdT_def.1 hr
  generalize t.l.length = xln at hu
  subst hu
  have hg2 := G2.grown
  have hbk : t.bulk ≤ 72 := by
    have : 3 ^ d ≤ 9 := by
      have h3 : d = 0 ∨ d = 1 ∨ d = 2 := by omega
      rcases h3 with rfl | rfl | rfl <;> decide
    omega
  have HBT : Hid (t.bulk ≤ 72 ∧ t.Small) := ⟨hbk, hst⟩
  have G2' := G1.next G2.cur hg2
  have R2 := R1.draw hg2 (by omega)
  have V2 := V1.draw hg2 hlo
  generalize htt : t = t0 at hr hmine HBT ⊢
  have HTT := Lib.hid htt
  clear htt hbt hst hbk
  obtain ⟨xk, xc, xo, ⟨xt, xn, xs⟩, xl⟩ := t
  have HAG : Hid (∀ u', t0.agg u' = .agg #[.int .i64 xk, .int .i64 xc, .int .i64 xo, .int .i64 xt, .int .i64 xn, .string xs, u']) := fun u' => by
    rw [← HTT.out]
    rfl
  have A3 := below_alloc w2 (.cells #[.int .i64 xk, .int .i64 xc, .int .i64 xo, .int .i64 xt, .int .i64 xn, .string xs, .slice xa xln xcp] 46)
  have C3 := blk_new w2 [.int .i64 xk, .int .i64 xc, .int .i64 xo, .int .i64 xt, .int .i64 xn, .string xs, .slice xa xln xcp] 46
  have G3 := G2'.alloc (.cells #[.int .i64 xk, .int .i64 xc, .int .i64 xo, .int .i64 xt, .int .i64 xn, .string xs, .slice xa xln xcp] 46)
  have R3 := R2.below A3
  have V3 := V2.below A3
  have hr3 : RdT (PQ w1.heap.size w2) (w2.alloc (.cells #[.int .i64 xk, .int .i64 xc, .int .i64 xo, .int .i64 xt, .int .i64 xn, .string xs, .slice xa xln xcp] 46)) t0 (.slice xa xln xcp) := hr.below A3
  have hm3 : Mine w1.heap.size (w2.alloc (.cells #[.int .i64 xk, .int .i64 xc, .int .i64 xo, .int .i64 xt, .int .i64 xn, .string xs, .slice xa xln xcp] 46)) t0 (.slice xa xln xcp) := hmine.below A3
  have HSP : Hid (Calls Try.prog 90 #[v, .agg #[.int .i64 xk, .int .i64 xc, .int .i64 xo, .int .i64 xt, .int .i64 xn, .string xs, .slice xa xln xcp]] (w2.alloc (.cells #[.int .i64 xk, .int .i64 xc, .int .i64 xo, .int .i64 xt, .int .i64 xn, .string xs, .slice xa xln xcp] 46)) fun e w' => e = .returned (.bool (t0.predOk cols)) ∧ Below (w2.alloc (.cells #[.int .i64 xk, .int .i64 xc, .int .i64 xo, .int .i64 xt, .int .i64 xn, .string xs, .slice xa xln xcp] 46)).heap.size (w2.alloc (.cells #[.int .i64 xk, .int .i64 xc, .int .i64 xo, .int .i64 xt, .int .i64 xn, .string xs, .slice xa xln xcp] 46)) w') := by
    have := sPredOk cols t0 _ (.slice xa xln xcp) v (w2.alloc (.cells #[.int .i64 xk, .int .i64 xc, .int .i64 xo, .int .i64 xt, .int .i64 xn, .string xs, .slice xa xln xcp] 46)) HBT.out.2 (by have := HBT.out.1; omega) hr3 (V3.rd (by unfold maxLen; omega))
    rw [HAG.out] at this
    exact this
  clear hr3
  have hq2 : g < w2.heap.size := by have := hg2.size; have := G1.cur.lt; omega
  rw [HAG.out]
  generalize hw3 : w2.alloc (.cells #[.int .i64 xk, .int .i64 xc, .int .i64 xo, .int .i64 xt, .int .i64 xn, .string xs, .slice xa xln xcp] 46) = w3 at C3 G3 R3 V3 hm3 HSP A3
  have HW3 := Lib.hid hw3
  have hs3 := A3.size
  generalize hqq : w2.heap.size = q at C3 hq2 hs3
  have HQ := Lib.hid hqq
  have hq1 : w.heap.size + 1 ≤ q := by have := hg2.size; omega
  clear hw3 hqq HD hr hmine G2 hg2 G2' R2 V2 R1 V1 G1 HTT A3
  go_wp2_with fail
  rw [HW3.out, HQ.out]
  refine HSP.out.mono ?_
  rintro e w4 ⟨rfl, b4⟩
  have C4 := C3.below b4
  have G4 := G3.below b4
  have R4 := R3.below b4
  have V4 := V3.below b4
  have hm4 := hm3.below b4
  have hs4 := b4.size
  clear C3 G3 R3 V3 hm3 HSP b4 HW3 HQ
  cases hpk : t0.predOk cols with
  | true =>
    have HPK := Lib.hid hpk
    clear hpk
    have d0 := (C4 0 _ rfl).1
    have d1 := (C4 1 _ rfl).1
    have d2 := (C4 2 _ rfl).1
    have d3 := (C4 3 _ rfl).1
    have d4 := (C4 4 _ rfl).1
    have d5 := (C4 5 _ rfl).1
    have d6 := (C4 6 _ rfl).1
    obtain ⟨m0, n0⟩ := R4 0 _ rfl
    obtain ⟨m1, n1⟩ := R4 1 _ rfl
    obtain ⟨m2, n2⟩ := R4 2 _ rfl
    obtain ⟨m3, n3⟩ := R4 3 _ rfl
    obtain ⟨m4, n4⟩ := R4 4 _ rfl
    obtain ⟨m5, n5⟩ := R4 5 _ rfl
    obtain ⟨m6, n6⟩ := R4 6 _ rfl
    have HG := Lib.hid G4
    have HR := Lib.hid hm4
    clear C4 G4 R4 V4 hm4
    go_wp2
    exact bodyPost_ret (v := .agg #[.int .i64 xk, .int .i64 xc, .int .i64 xo, .int .i64 xt, .int .i64 xn, .string xs, .slice xa xln xcp]) (by simp [results, Try.results55, go_sem, *]) rfl ⟨t0, .slice xa xln xcp, by rw [HAG.out], ⟨HPK.out, HBT.out⟩, (Mine.setCell (Mine.setCell (Mine.setCell (Mine.setCell (Mine.setCell (Mine.setCell (Mine.setCell HR.out (by simp; omega) _) (by simp; omega) _) (by simp; omega) _) (by simp; omega) _) (by simp; omega) _) (by simp; omega) _) (by simp; omega) _).low (by omega), (((((((HG.out.set (by simp) _ _).set (by simp) _ _).set (by simp) _ _).set (by simp) _ _).set (by simp) _ _).set (by simp) _ _).set (by simp) _ _)⟩
  | false =>
    clear hpk hm4 C4
    go_wp2_with fail
    refine (l11Cmp1 c g lo v cols w4 (by omega) hn0 hlo V4 G4.cur).mono ?_
    rintro e w5 ⟨t, rfl, ht, G5⟩
    have HS := Lib.hid (cmp_small ht)
    have HN := Lib.hid ht.2.1
    have HP := Lib.hid (HCO.out t ht)
    have HG := Lib.hid (G4.next G5.cur G5.grown)
    have R5 := R4.draw G5.grown (by omega)
    obtain ⟨m0, n0⟩ := R5 0 _ rfl
    obtain ⟨m1, n1⟩ := R5 1 _ rfl
    obtain ⟨m2, n2⟩ := R5 2 _ rfl
    obtain ⟨m3, n3⟩ := R5 3 _ rfl
    obtain ⟨m4, n4⟩ := R5 4 _ rfl
    obtain ⟨m5, n5⟩ := R5 5 _ rfl
    obtain ⟨m6, n6⟩ := R5 6 _ rfl
    obtain ⟨xk, xc, xo, ⟨xt, xn, xs⟩, xl⟩ := t
    simp only [T.agg, T.kind, T.col, T.op, T.v]
    clear R4 R5 G4 G5 V4 ht
    go_wp2
    exact bodyPost_ret (v := .agg #[.int .i64 xk, .int .i64 xc, .int .i64 xo, .int .i64 xt, .int .i64 xn, .string xs, .slice none 0 0]) (by simp [results, Try.results55, go_sem, *]) rfl ⟨.mk xk xc xo ⟨xt, xn, xs⟩ xl, .slice none 0 0, rfl, ⟨HP.out, by have := HS.out.1; omega, HS.out.2⟩, (.inl ⟨HN.out, rfl⟩), (((((((HG.out.set (by simp) _ _).set (by simp) _ _).set (by simp) _ _).set (by simp) _ _).set (by simp) _ _).set (by simp) _ _).set (by simp) _ _)⟩

end Go.Proofs.Ytafoldpmodipaaa

/- The contract of DrawSearch (written by mk_Draw11w.py). -/
namespace Go.Proofs.Ytafoldpmodipaaa
open Go.RowKit

theorem At.set' {size n : Nat} {w : World} {v : Value} {xs : List Value} (h : At size w v n xs) {b : Nat} (hb : v.ownBlock ≠ some b) (j : Nat) (u : Value) : At size (w.setCell ⟨b, j, none⟩ u) v n xs := h.grown (grownBy_setCell w b j u) hb
theorem DrewRows.rd {lo : Nat} {w : World} {out : Value} {cols : List Int} {ps : List P} (h : DrewRows lo w out cols ps) (ho : Rd 2 w out ps.length (prs ps)) : RdRs w out ps := ⟨ho, fun p hp => (h.vals p hp).rd⟩
theorem DrewRows.set {lo : Nat} {w : World} {out : Value} {cols : List Int} {ps : List P} (h : DrewRows lo w out cols ps) {b : Nat} (hb : b < lo) (j : Nat) (u : Value) : DrewRows lo (w.setCell ⟨b, j, none⟩ u) out cols ps :=
  ⟨fun p hp => (h.vals p hp).set' (fun e => by
      obtain ⟨b', h1, h2, _⟩ := h.own p hp
      rw [h1] at e
      have : b' = b := by simpa using e
      omega) j u, fun p hp => by
      obtain ⟨b', h1, h2, h3⟩ := h.own p hp
      exact ⟨b', h1, h2, by simpa using h3⟩, h.ne, h.len, h.ty⟩

/-- What DrawSearch draws. -/
structure Search (lo : Nat) (w : World) (vc u vr : Value) (cols : List Int) (t : T) (ps : List P) : Prop where
  mem : cols ∈ colsD
  ok : t.predOk cols = true
  bulk : t.bulk ≤ 72
  small : t.Small
  vc : ColS lo w vc cols
  rt : Mine lo w t u
  rows : RdRs w vr ps
  len : ps.length ≤ 6
  wide : ∀ p ∈ ps, p.1.l.length = cols.length
  ty : ∀ p ∈ ps, ∀ k, k < p.1.l.length → OfTy (colTy cols k) (p.1.l.getD k V.zero)

set_option maxRecDepth 100000 in
set_option maxHeartbeats 8000000 in
theorem drawSearch (c : Code) (w : World) (h : c.In w) :
    Calls Try.prog 23 #[.slice c.a c.len c.cap] w fun e w' => ∃ (vc u vr : Value) (cols : List Int) (t : T) (ps : List P), e = .returned (.tuple #[vc, t.agg u, vr]) ∧ Search w.heap.size w' vc u vr cols t ps ∧ Below w.heap.size w w' := by
  have R0 := blk_new w [.int .i64 0, .int .i64 0, .int .i64 0, .int .i64 0, .int .i64 0, .string ⟨#[]⟩, .slice none 0 0] 46
  have B0 := below_alloc w (.cells #[.int .i64 0, .int .i64 0, .int .i64 0, .int .i64 0, .int .i64 0, .string ⟨#[]⟩, .slice none 0 0] 46)
  have hs0 : (w.alloc (.cells #[.int .i64 0, .int .i64 0, .int .i64 0, .int .i64 0, .int .i64 0, .string ⟨#[]⟩, .slice none 0 0] 46)).heap.size = w.heap.size + 1 := World.size_alloc _ _
  generalize hw0 : w.alloc (.cells #[.int .i64 0, .int .i64 0, .int .i64 0, .int .i64 0, .int .i64 0, .string ⟨#[]⟩, .slice none 0 0] 46) = w0 at R0 B0 hs0
  have HW0 := Lib.hid hw0
  have HS0 := Lib.hid hs0
  clear hw0
  go_enter Try.func23, Try.ntmps23
  go_wp2_with fail
  rw [HW0.out]
  refine (l1New c _ ⟨h.arg.below B0, h.byt, h.small⟩).mono ?_
  rintro e w1 ⟨rfl, hc1, hb1⟩
  have R1 := R0.below hb1
  have B1 := below_then B0 hb1 B0.size
  generalize hgg : w0.heap.size = g at hc1 hb1 HS0 ⊢
  have hg : g = w.heap.size + 1 := HS0.out
  have hgl := hc1.lt
  have HG := Lib.hid hg
  clear hg hgg R0 B0 hs0 hb1 HW0 h
  go_wp2_with fail
  refine (l4Cols c g w1 hc1).mono ?_
  rintro e w2 ⟨vc, cols, rfl, hcm, hvc, G2⟩
  have hvw2 : ∀ b, vc.ownBlock = some b → b < w2.heap.size := fun b hb => by
    obtain ⟨b', e', _, hB⟩ := hvc
    have hbb : b' = b := by rw [e'] at hb; simpa [Value.ownBlock] using hb
    subst hbb
    exact lt_of_cell (hB 0 _ (ints_get (colsD_ok hcm).2.1)).1
  have R2 := R1.draw G2.grown (by have := HG.out; omega)
  have HCM := Lib.hid hcm
  have hgw : w1.heap.size ≤ w2.heap.size := G2.grown.size
  go_wp2_with fail
  refine (l11Right c g w1.heap.size vc cols w2 hcm hgl hvc hvw2 G2.cur).mono ?_
  rintro e w3 ⟨t, u, rfl, ⟨hpk, hbk, hsm⟩, hr, G3⟩
  have hrd := hr.rd
  have G3' := G2.next G3.cur G3.grown
  have R3 := R2.draw G3.grown (by have := HG.out; omega)
  have V3 := hvc.draw G3.grown hgl
  have hg3 : w2.heap.size ≤ w3.heap.size := G3.grown.size
  obtain ⟨xa, xcp, hu, _⟩ := RdT_def.1 hrd
  clear hrd
  generalize t.l.length = xln at hu
  subst hu
  generalize htt : t = t0 at hr hpk hbk hsm ⊢
  have HTT := Lib.hid htt
  have HP := Lib.hid (And.intro hpk (And.intro hbk hsm))
  clear htt hpk hbk hsm
  obtain ⟨xk, xc, xo, ⟨xt, xn, xs⟩, xl⟩ := t
  have HAG : Hid (∀ u', t0.agg u' = .agg #[.int .i64 xk, .int .i64 xc, .int .i64 xo, .int .i64 xt, .int .i64 xn, .string xs, u']) := fun u' => by
    rw [← HTT.out]
    rfl
  rw [HAG.out]
  have A4 := below_alloc w3 (.cells #[.int .i64 xk, .int .i64 xc, .int .i64 xo, .int .i64 xt, .int .i64 xn, .string xs, .slice xa xln xcp] 46)
  have C4 := blk_new w3 [.int .i64 xk, .int .i64 xc, .int .i64 xo, .int .i64 xt, .int .i64 xn, .string xs, .slice xa xln xcp] 46
  have G4 := G3'.alloc (.cells #[.int .i64 xk, .int .i64 xc, .int .i64 xo, .int .i64 xt, .int .i64 xn, .string xs, .slice xa xln xcp] 46)
  have R4 := R3.below A4
  have V4 := V3.below A4
  have hr4 := hr.below A4
  have hs4 := A4.size
  generalize hw4 : w3.alloc (.cells #[.int .i64 xk, .int .i64 xc, .int .i64 xo, .int .i64 xt, .int .i64 xn, .string xs, .slice xa xln xcp] 46) = w4 at C4 G4 R4 V4 hr4 A4 hs4
  have HW4 := Lib.hid hw4
  generalize hqq : w3.heap.size = q at C4 hg3 hs4
  have HQ := Lib.hid hqq
  clear hw4 hqq G2 G3 G3' R1 R2 R3 hvc V3 hr A4 HTT hc1 hcm
  go_wp2
  rw [HW4.out, HQ.out]
  have hB' := (Below.refl w4.heap.size w4).drew
  have C5 := C4.below hB'
  have G5 := G4.below hB'
  have R5 := R4.below hB'
  have V5 := V4.below hB'
  have hr5 := hr4.below hB'
  have hs5 := hB'.size
  refine wp_region_held_drew (S := fun W => W.cell? ⟨q, 0, none⟩ = some (.int .i64 xk) ∧ W.cell? ⟨q, 1, none⟩ = some (.int .i64 xc) ∧ W.cell? ⟨q, 2, none⟩ = some (.int .i64 xo) ∧ W.cell? ⟨q, 3, none⟩ = some (.int .i64 xt) ∧ W.cell? ⟨q, 4, none⟩ = some (.int .i64 xn) ∧ W.cell? ⟨q, 5, none⟩ = some (.string xs) ∧ W.cell? ⟨q, 6, none⟩ = some (.slice xa xln xcp)) (by kernel_rfl) ⟨(C4 0 _ rfl).1, (C4 1 _ rfl).1, (C4 2 _ rfl).1, (C4 3 _ rfl).1, (C4 4 _ rfl).1, (C4 5 _ rfl).1, (C4 6 _ rfl).1⟩ (fun hH => ?_)
  clear C4 G4 R4 V4 hr4
  refine takeH (i := 0) (d := some 15) (v := vc) rfl rfl (by kernel_rfl) (by kernel_rfl) (by kernel_rfl) (fun _ _ _ h => h) (Or.inl ⟨by rfl, fun W hSw => by obtain ⟨d0, d1, d2, d3, d4, d5, d6⟩ := hSw; go_simp⟩) hH ?_
  try simp only [put_some, List.set_cons_zero, List.set_cons_succ]
  refine takeH (i := 1) (d := some 16) (v := .agg #[.int .i64 xk, .int .i64 xc, .int .i64 xo, .int .i64 xt, .int .i64 xn, .string xs, .slice xa xln xcp]) rfl rfl (by kernel_rfl) (by kernel_rfl) (by kernel_rfl) (fun _ _ _ h => h) (Or.inl ⟨by rfl, fun W hSw => by obtain ⟨d0, d1, d2, d3, d4, d5, d6⟩ := hSw; go_simp⟩) hH ?_
  try simp only [put_some, List.set_cons_zero, List.set_cons_succ]
  refine takeH (i := 2) (d := some 17) (v := .pointer (some ⟨g, 0, none⟩)) rfl rfl (by kernel_rfl) (by kernel_rfl) (by kernel_rfl) (fun _ _ _ h => h) (Or.inl ⟨by rfl, fun W hSw => by obtain ⟨d0, d1, d2, d3, d4, d5, d6⟩ := hSw; go_simp⟩) hH ?_
  try simp only [put_some, List.set_cons_zero, List.set_cons_succ]
  refine takeH (i := 3) (d := some 18) (v := vc) rfl rfl (by kernel_rfl) (by kernel_rfl) (by kernel_rfl) (fun _ _ _ h => h) (Or.inl ⟨by rfl, fun W hSw => by obtain ⟨d0, d1, d2, d3, d4, d5, d6⟩ := hSw; go_simp⟩) hH ?_
  try simp only [put_some, List.set_cons_zero, List.set_cons_succ]
  refine wpAnyH_ready (rs := [4]) (by kernel_rfl) (by simp) ?_
  refine AllReadyH.cons rfl (fun K hK => ?_) AllReadyH.nil
  go_simp
  go_at_call 56
  refine (l4Rows c g w1.heap.size vc cols 6 _ (by have := (colsD_ok HCM.out).2.2.1; omega) (by omega) hgl V5 (fun b hb => by have := hvw2 b hb; omega) G5.cur).mono ?_
  rintro e w6 ⟨vr, ps, rfl, hps, hO, hD, G6⟩
  have G6' := G5.next G6.cur G6.grown
  have C6 := C5.draw G6.grown (by omega)
  have R6 := R5.draw G6.grown (by have := HG.out; omega)
  have V6 := V5.draw G6.grown hgl
  have hr6 := Mine.draw hr5 G6.grown (by omega)
  have hs6 := G6.grown.size
  clear C5 G5 R5 V5 hr5 G6 hB'
  go_wp2_with fail
  refine hK.out _ _ ⟨(C6 0 _ rfl).1, (C6 1 _ rfl).1, (C6 2 _ rfl).1, (C6 3 _ rfl).1, (C6 4 _ rfl).1, (C6 5 _ rfl).1, (C6 6 _ rfl).1⟩ (fun hH => ?_)
  clear hK K
  refine takeH (i := 5) (d := some 2) (v := vc) rfl rfl (by kernel_rfl) (by kernel_rfl) (by kernel_rfl) (fun _ _ _ h => h) (Or.inl ⟨by rfl, fun W hSw => by obtain ⟨d0, d1, d2, d3, d4, d5, d6⟩ := hSw; go_simp⟩) hH ?_
  try simp only [put_some, List.set_cons_zero, List.set_cons_succ]
  refine wpAnyH_ready (rs := [6]) (by kernel_rfl) (by simp) ?_
  refine AllReadyH.cons rfl (fun K hK => ?_) AllReadyH.nil
  have hwg := HG.out
  have C7 := (Blk.other (Blk.other (Blk.other (Blk.other (Blk.other (Blk.other (Blk.other C6 (p := ⟨w.heap.size, 0, none⟩) (by simp; omega) (.int .i64 xk)) (p := ⟨w.heap.size, 1, none⟩) (by simp; omega) (.int .i64 xc)) (p := ⟨w.heap.size, 2, none⟩) (by simp; omega) (.int .i64 xo)) (p := ⟨w.heap.size, 3, none⟩) (by simp; omega) (.int .i64 xt)) (p := ⟨w.heap.size, 4, none⟩) (by simp; omega) (.int .i64 xn)) (p := ⟨w.heap.size, 5, none⟩) (by simp; omega) (.string xs)) (p := ⟨w.heap.size, 6, none⟩) (by simp; omega) (.slice xa xln xcp))
  obtain ⟨m0, n0⟩ := R6 0 _ rfl
  obtain ⟨m1, n1⟩ := R6 1 _ rfl
  obtain ⟨m2, n2⟩ := R6 2 _ rfl
  obtain ⟨m3, n3⟩ := R6 3 _ rfl
  obtain ⟨m4, n4⟩ := R6 4 _ rfl
  obtain ⟨m5, n5⟩ := R6 5 _ rfl
  obtain ⟨m6, n6⟩ := R6 6 _ rfl
  have HGO := Lib.hid G6'
  have HR := Lib.hid hr6
  have HV := Lib.hid V6
  have HO := Lib.hid hO.at
  have HD := Lib.hid hD
  have HBW := Lib.hid (B1.grown G6'.grown B1.size (fun k hk => by simp at hk; omega))
  obtain ⟨ob, oc, ho, hol, hoh, _⟩ := hO
  subst ho
  clear R6 C6 G6' hr6 V6 hD hwg
  go_simp
  refine hK.out _ _ ⟨(C7 0 _ rfl).1, (C7 1 _ rfl).1, (C7 2 _ rfl).1, (C7 3 _ rfl).1, (C7 4 _ rfl).1, (C7 5 _ rfl).1, (C7 6 _ rfl).1⟩ (fun hH => ?_)
  clear hK K
  refine takeH (i := 7) (d := some 4) (v := .slice (some ⟨ob, 0, none⟩) ps.length oc) rfl rfl (by kernel_rfl) (by kernel_rfl) (by kernel_rfl) (fun _ _ _ h => h) (Or.inl ⟨by rfl, fun W hSw => by obtain ⟨d0, d1, d2, d3, d4, d5, d6⟩ := hSw; go_simp⟩) hH ?_
  try simp only [put_some, List.set_cons_zero, List.set_cons_succ]
  refine wpAnyH_done (by kernel_rfl) ?_ _
  clear C7
  have hwg := HG.out
  go_wp2
  refine bodyPost_ret (v := .tuple #[vc, .agg #[.int .i64 xk, .int .i64 xc, .int .i64 xo, .int .i64 xt, .int .i64 xn, .string xs, .slice xa xln xcp], .slice (some ⟨ob, 0, none⟩) ps.length oc]) (by simp [results, Try.results23, go_sem, *]) rfl ⟨vc, .slice xa xln xcp, .slice (some ⟨ob, 0, none⟩) ps.length oc, cols, t0, ps, by rw [HAG.out], ?_, (((((((HBW.out.setCell (by simp) _).setCell (by simp) _).setCell (by simp) _).setCell (by simp) _).setCell (by simp) _).setCell (by simp) _).setCell (by simp) _)⟩
  have hne : (Value.slice (some ⟨ob, 0, none⟩) ps.length oc).ownBlock ≠ some w.heap.size := fun e => by
    have : ob = w.heap.size := by simpa [Value.ownBlock] using e
    omega
  refine ⟨HCM.out, HP.out.1, HP.out.2.1, HP.out.2.2, ?_, (Mine.setCell (Mine.setCell (Mine.setCell (Mine.setCell (Mine.setCell (Mine.setCell (Mine.setCell HR.out (by simp; omega) _) (by simp; omega) _) (by simp; omega) _) (by simp; omega) _) (by simp; omega) _) (by simp; omega) _) (by simp; omega) _).low (by omega), ?_, hps, HD.out.len, HD.out.ty⟩
  · obtain ⟨vb, hvb, hvl, hvB⟩ := HV.out
    refine ⟨vb, hvb, by omega, ?_⟩
    exact (Blk.other (Blk.other (Blk.other (Blk.other (Blk.other (Blk.other (Blk.other hvB (p := ⟨w.heap.size, 0, none⟩) (by simp; omega) (.int .i64 xk)) (p := ⟨w.heap.size, 1, none⟩) (by simp; omega) (.int .i64 xc)) (p := ⟨w.heap.size, 2, none⟩) (by simp; omega) (.int .i64 xo)) (p := ⟨w.heap.size, 3, none⟩) (by simp; omega) (.int .i64 xt)) (p := ⟨w.heap.size, 4, none⟩) (by simp; omega) (.int .i64 xn)) (p := ⟨w.heap.size, 5, none⟩) (by simp; omega) (.string xs)) (p := ⟨w.heap.size, 6, none⟩) (by simp; omega) (.slice xa xln xcp))
  · have hlt : w.heap.size < w4.drew.heap.size := by omega
    exact DrewRows.rd (((((((HD.out.set hlt _ _).set hlt _ _).set hlt _ _).set hlt _ _).set hlt _ _).set hlt _ _).set hlt _ _) (((((((HO.out.set' hne _ _).set' hne _ _).set' hne _ _).set' hne _ _).set' hne _ _).set' hne _ _).set' hne _ _).rd

end Go.Proofs.Ytafoldpmodipaaa
