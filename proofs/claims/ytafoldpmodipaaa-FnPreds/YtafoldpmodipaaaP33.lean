/- Texts of this claim, one behind the other: Draw11x, Draw11y. -/
import Derived.Test.YtafoldpmodipaaaP32
import Derived.Test.YtafoldpmodipaaaP18
import Derived.Test.YtafoldpmodipaaaP23
import Derived.Test.YtafoldpmodipaaaP5
import Derived.Test.YtafoldpmodipaaaP16
import Derived.Test.YtafoldpmodipaaaP21

/- The contract of the model's l11Any (written by mk_Draw11x.py). -/
namespace Go.Proofs.Ytafoldpmodipaaa
open Go.RowKit

theorem Mine.same {lo : Nat} {w : World} {t t' : T} {u : Value} (h : Mine lo w t u) (e : t'.l = t.l) : Mine lo w t' u := by
  unfold Mine at h ⊢
  rw [e]
  exact h
theorem Mine.setLow {lo : Nat} {w : World} {t : T} {u : Value} (h : Mine lo w t u) {p : Addr} (hp : p.block < lo) (x : Value) : Mine lo (w.setCell p x) t u := h.setCell hp x
theorem small_same {t t' : T} {B : Nat} (h : t.bulk ≤ B ∧ t.Small) (hs : t'.v.s.size ≤ 7) (e : t'.l = t.l) : t'.bulk ≤ B + 7 ∧ t'.Small := by
  have h1 := T.bulk_def t
  have h2 := T.bulk_def t'
  rw [e] at h2
  refine ⟨by omega, ?_⟩
  rw [small_iff, e]
  exact ⟨by unfold maxLen; omega, (small_iff.1 h.2).2⟩
theorem small_keep {t t' : T} {B : Nat} (h : t.bulk ≤ B ∧ t.Small) (hs : t'.v = t.v) (e : t'.l = t.l) : t'.bulk ≤ B + 7 ∧ t'.Small := by
  have h1 := T.bulk_def t
  have h2 := T.bulk_def t'
  rw [e, hs] at h2
  refine ⟨by omega, ?_⟩
  rw [small_iff, e, hs]
  exact small_iff.1 h.2
theorem small_more {t t' x : T} {B : Nat} (h : t.bulk ≤ B ∧ t.Small) (hx : x.bulk ≤ 8 ∧ x.Small) (hs : t'.v = t.v) (e : t'.l = t.l ++ [x]) : t'.bulk ≤ B + 8 ∧ t'.Small := by
  have h1 := T.bulk_def t
  have h2 := T.bulk_def t'
  rw [e, hs, T.bulks_append] at h2
  have h3 : T.bulks [x] = x.bulk := by simp [T.bulks]
  refine ⟨by omega, ?_⟩
  rw [small_iff, e, hs]
  refine ⟨(small_iff.1 h.2).1, fun y hy => ?_⟩
  rcases List.mem_append.1 hy with hy | hy
  · exact (small_iff.1 h.2).2 y hy
  · rw [List.mem_singleton.1 hy]
    exact hx.2
/-- append(p.L, x), as one operation: x, a Pred, has just been laid in a block of its own. -/
theorem appendT_op {P : Program} {t e : TypeId} {z : Value} {bytes : Nat} (T : ElemT P t e z 7 bytes) {w : World} {o : Oper} {a : Act} {K : Act → World → Prop} {Q : Exit → Act → World → Prop} (s x : Operand)
    (ho : o.op = .call { callee := .builtin .append, args := #[s, x], argTypes := #[t, t] })
    (lo hi : Nat) (v : Value) (n : Nat) (xs : List Value) (cs : List Value) (N : Nat) (hN : w.heap.size = N) (hs : a.eval s = v) (hown : OwnN e 7 lo hi w v n xs) (hlo : lo ≤ w.heap.size) (hc : cs.length = 7) (h1 : ∀ u ∈ cs, u.oneCell' = true)
    (hx : a.eval x = .slice (some ⟨N, 0, none⟩) 1 1)
    (h63 : n + 1 ≤ maxLen) (hbytes : (n + 1) * bytes ≤ 140737488355328)
    (h : ∀ v' w', Own e 7 lo w'.heap.size w' v' (n + 1) (xs ++ cs) → Ext (w.alloc (.cells cs.toArray e)) w' v v' → K (a.put o.dst v') w') : Oper.wp P o a (w.alloc (.cells cs.toArray e)) K Q := by
  subst hN
  obtain ⟨v', w', hr, h2, h3⟩ := append_blockN (w.alloc (.cells cs.toArray e)) t o.type e z 7 bytes T lo hi v n xs (hown.imp id (fun h => h.alloc _)) (by rw [World.size_alloc]; omega) ⟨w.heap.size, 0, none⟩ 1 1 cs (by rw [hc]) (fun j y hj => by
    rw [addr_add]
    exact (blk_new w cs e (0 + j) y (by rw [Nat.zero_add]; exact hj)).1) h1 (by omega) h63 hbytes
  unfold Oper.wp execOp
  simp only [ho, resolve, invoke, builtin, Sem.run_bind, Sem.run_pure, Result.andThen_ok, List.map_toArray, List.map_cons, List.map_nil, hs, hx, hr]
  exact h v' w' h2 h3
theorem Mine.ownN {lo : Nat} {w : World} {t : T} {u : Value} (h : Mine lo w t u) : ∃ ps : List (T × Value), t.l = ps.map (·.1) ∧ ps.length ≤ maxLen ∧ OwnN 46 7 lo w.heap.size w u ps.length (pcs ps) ∧ DrewTs lo w u ps := by
  rcases h with ⟨hl, rfl⟩ | ⟨ps, hl, hm, hown, hd⟩
  · exact ⟨[], hl, Nat.zero_le _, .inl ⟨rfl, rfl, rfl⟩, fun p hp => (by cases hp)⟩
  · exact ⟨ps, hl, hm, .inr hown, hd⟩
theorem Mine.sl {lo : Nat} {w : World} {t : T} {u : Value} (h : Mine lo w t u) : ∃ a cp, u = .slice a t.l.length cp := by
  obtain ⟨a, cp, e, _⟩ := RdT_def.1 h.rd
  exact ⟨a, cp, e⟩

/-- The blocks from lo on and below q are as they were. -/
structure SameR (lo q : Nat) (w W : World) : Prop where
  size : w.heap.size ≤ W.heap.size
  blk : ∀ b, lo ≤ b → b < q → W.heap[b]? = w.heap[b]?
theorem SameR.refl (lo q : Nat) (w : World) : SameR lo q w w := ⟨Nat.le_refl _, fun _ _ _ => rfl⟩
theorem SameR.below {lo q : Nat} {w W W' : World} (h : SameR lo q w W) (hb : Below W.heap.size W W') (hq : q ≤ W.heap.size) : SameR lo q w W' := ⟨Nat.le_trans h.size hb.size, fun b h1 h2 => (hb.block b (by omega)).trans (h.blk b h1 h2)⟩
theorem SameR.grown {lo q : Nat} {w W W' : World} {row : Option Nat} (h : SameR lo q w W) (hg : W.grownBy W' row) (hr : ∀ b, row = some b → b < lo ∨ q ≤ b) (hq : q ≤ W.heap.size) : SameR lo q w W' :=
  ⟨Nat.le_trans h.size hg.size, fun b h1 h2 => (hg.block b (by omega) (fun e => by have := hr b e.symm; omega)).trans (h.blk b h1 h2)⟩
theorem SameR.set {lo q : Nat} {w W : World} (h : SameR lo q w W) {p : Addr} (hp : p.block < lo ∨ q ≤ p.block) (x : Value) : SameR lo q w (W.setCell p x) :=
  ⟨by simpa [World.setCell] using h.size, fun b h1 h2 => (Below.heap_setCell _ _ _ _ (fun e => by omega)).trans (h.blk b h1 h2)⟩
theorem SameR.draw {lo q g : Nat} {w W W' : World} (h : SameR lo q w W) (hg : W.grownBy W' (some g)) (hr : g < lo ∧ q ≤ W.heap.size) : SameR lo q w W' := h.grown hg (fun b hb => by
    have : g = b := by simpa using hb
    omega) hr.2
theorem Mine.sameR {lo q : Nat} {w W : World} {t : T} {u : Value} (h : Mine lo w t u) (hq : w.heap.size = q) (k : SameR lo q w W) : Mine lo W t u := h.keep k.size (Nat.le_refl _) (fun b h1 h2 => k.blk b h1 (by omega))
/-- The blocks from lo on, but for q, are as they were. -/
structure SameX (lo q : Nat) (w W : World) : Prop where
  size : w.heap.size ≤ W.heap.size
  blk : ∀ b, lo ≤ b → b ≠ q → b < w.heap.size → W.heap[b]? = w.heap[b]?
theorem SameX.refl (lo q : Nat) (w : World) : SameX lo q w w := ⟨Nat.le_refl _, fun _ _ _ _ => rfl⟩
theorem SameX.set {lo q : Nat} {w W : World} (h : SameX lo q w W) {p : Addr} (hp : p.block < lo ∨ p.block = q) (x : Value) : SameX lo q w (W.setCell p x) :=
  ⟨by simpa [World.setCell] using h.size, fun b h1 h2 h3 => (Below.heap_setCell _ _ _ _ (fun e => by omega)).trans (h.blk b h1 h2 h3)⟩
theorem mine_out {lo q : Nat} {w W : World} {out : Value} {ps : List (T × Value)} {t : T} (hl : t.l = ps.map (·.1)) (hm : ps.length ≤ maxLen) (ho : Own 46 7 lo w.heap.size w out ps.length (pcs ps)) (hq : out.ownBlock ≠ some q)
    (hd : ∀ p ∈ ps, RdT (fun b => (lo ≤ b ∧ b < w.heap.size ∧ some b ≠ out.ownBlock ∧ Plain w b) ∧ b ≠ q) w p.1 p.2) (k : SameX lo q w W) : Mine lo W t out := by
  obtain ⟨og, cap, rfl, h1, h2, _⟩ := id ho
  refine .inr ⟨ps, hl, hm, ho.keep (k.blk og h1 (fun e => hq (by rw [e]; rfl)) h2) k.size, fun p hp => ?_⟩
  refine RdT.keep (fun b hb => ⟨hb.1.1, Nat.lt_of_lt_of_le hb.1.2.1 k.size, hb.1.2.2.1, hb.1.2.2.2.of (k.blk b hb.1.1 hb.2 hb.1.2.1)⟩) (fun b hb _ _ hx => (World.cell?_of_block (k.blk b hb.1.1 hb.2 hb.1.2.1)).trans hx) p.1 p.2 (hd p hp)
theorem Going.extN {c : Code} {g lo hi n size : Nat} {e : TypeId} {w w1 w2 : World} {v v' : Value} {xs : List Value} (h : Going c g w w1) (ho : OwnN e size lo hi w1 v n xs) (hlo : w.heap.size ≤ lo) (hx : Ext w1 w2 v v') : Going c g w w2 := by
  rcases ho with ⟨rfl, _⟩ | ho
  · exact h.below (below_of_grown hx.grown)
  · exact h.ext ho hlo hx
/-- The operands drawn, in blocks below q, and one more from q on. -/
theorem drew_more {lo q : Nat} {w2 w6 w8 : World} {t6 : T} {out out' u6 : Value} {ps : List (T × Value)} (hd : DrewTs lo w2 out ps) (hq2 : w2.heap.size = q) (hS : SameR lo q w2 w6) (hq : q < w6.heap.size) (he : Ext w6 w8 out out') (hb : ∀ b, out.ownBlock = some b → b < q) {s6 : Nat} (hs6 : q < s6) (hlo : lo ≤ s6) (h6 : RdT (PQ s6 w6) w6 t6 u6) :
    ∀ p ∈ ps ++ [(t6, u6)], RdT (fun b => (lo ≤ b ∧ b < w8.heap.size ∧ some b ≠ out'.ownBlock ∧ Plain w8 b) ∧ b ≠ q) w8 p.1 p.2 := by
  have hz := he.grown.size
  have hout : ∀ b, b < w6.heap.size → some b ≠ out.ownBlock → some b ≠ out'.ownBlock := fun b hb hne e => by
    rcases he.blk with h | ⟨g, h, hg⟩
    · rw [h] at e
      exact hne e
    · rw [h] at e
      have : b = g := by simpa using e
      omega
  intro p hp
  rcases List.mem_append.1 hp with hp | hp
  · refine RdT.keep (fun b hx => ?_) (fun b hx _ _ hc => ?_) p.1 p.2 (hd p hp)
    · have h2 : b < q := by omega
      have e : w8.heap[b]? = w2.heap[b]? := (he.grown.block b (by omega) hx.2.2.1).trans (hS.blk b hx.1 h2)
      exact ⟨⟨hx.1, by omega, hout b (by omega) hx.2.2.1, hx.2.2.2.of e⟩, by omega⟩
    · have h2 : b < q := by omega
      exact (World.cell?_of_block ((he.grown.block b (by omega) hx.2.2.1).trans (hS.blk b hx.1 h2))).trans hc
  · rw [List.mem_singleton.1 hp]
    have hne : ∀ b, s6 ≤ b → some b ≠ out.ownBlock := fun b h1 e => by have := hb b e.symm; omega
    refine RdT.keep (fun b hx => ?_) (fun b hx _ _ hc => ?_) t6 u6 h6
    · exact ⟨⟨by have := hx.1; omega, by have := hx.2.1; omega, hout b hx.2.1 (hne b hx.1), hx.2.2.of (he.grown.block b hx.2.1 (hne b hx.1))⟩, by have := hx.1; omega⟩
    · exact (World.cell?_of_block (he.grown.block b hx.2.1 (hne b hx.1))).trans hc

theorem OwnN.sameR {e : TypeId} {size lo q n : Nat} {w W : World} {v : Value} {xs : List Value} (h : OwnN e size lo w.heap.size w v n xs) (hq : w.heap.size = q) (k : SameR lo q w W) : OwnN e size lo W.heap.size W v n xs := by
  rcases h with h | h
  · exact .inl h
  · obtain ⟨g, cap, rfl, h1, h2, _⟩ := id h
    exact .inr (h.keep (k.blk g h1 (by omega)) k.size)

/-- What l11Any draws. -/
def DrewA (c : Code) (g : Nat) (w : World) (e : Ending) (w' : World) : Prop :=
  ∃ (t : T) (u : Value), e = .returned (t.agg u) ∧ (t.bulk ≤ 240 ∧ t.Small) ∧ Mine w.heap.size w' t u ∧ Going c g w w'

set_option maxRecDepth 100000 in
set_option maxHeartbeats 8000000 in
theorem l11Any (c : Code) (g lo : Nat) (v : Value) (cols : List Int) (w : World) (hn : cols.length ≤ 1000) (hn0 : 0 < cols.length) (hlo : g < lo) (hv : ColS lo w v cols) (hvw : ∀ b, v.ownBlock = some b → b < w.heap.size) (h : Cur c g w) :
    Calls Try.prog 57 #[.pointer (some ⟨g, 0, none⟩), v] w (DrewA c g w) := by
  have hgl := h.lt
  have R0 := blk_new w [.int .i64 0, .int .i64 0, .int .i64 0, .int .i64 0, .int .i64 0, .string ⟨#[]⟩, .slice none 0 0] 46
  have G0 := (Going.start h).alloc (.cells #[.int .i64 0, .int .i64 0, .int .i64 0, .int .i64 0, .int .i64 0, .string ⟨#[]⟩, .slice none 0 0] 46)
  have V0 := hv.below (below_alloc w (.cells #[.int .i64 0, .int .i64 0, .int .i64 0, .int .i64 0, .int .i64 0, .string ⟨#[]⟩, .slice none 0 0] 46))
  have hs0 : (w.alloc (.cells #[.int .i64 0, .int .i64 0, .int .i64 0, .int .i64 0, .int .i64 0, .string ⟨#[]⟩, .slice none 0 0] 46)).heap.size = w.heap.size + 1 := World.size_alloc _ _
  generalize hw0 : w.alloc (.cells #[.int .i64 0, .int .i64 0, .int .i64 0, .int .i64 0, .int .i64 0, .string ⟨#[]⟩, .slice none 0 0] 46) = w0 at R0 G0 V0 hs0
  have HW0 := Lib.hid hw0
  clear hw0 hv
  go_enter Try.func57, Try.ntmps57
  go_wp2_with fail
  rw [HW0.out]
  refine (l1Below c g _ _ G0.cur).mono ?_
  rintro e w1 ⟨y, rfl, hy, hc1, hg1⟩
  have G1 := G0.next hc1 hg1
  have R1 := R0.draw hg1 (by omega)
  have V1 := V0.draw hg1 hlo
  have hs1 : w.heap.size + 1 ≤ w1.heap.size := by have := hg1.size; omega
  obtain ⟨d, rfl⟩ := Int.eq_ofNat_of_zero_le hy.1
  have hd : d ≤ 3 := by omega
  have HD := Lib.hid (l11Draw c g lo v cols hn hn0 hlo d (by omega) w1 V1 (fun b hb => by have := hvw b hb; omega) G1.cur)
  clear G0 R0 V0 hc1 hg1 hy HW0 hs0
  go_wp2_with fail
  refine HD.out.mono ?_
  rintro e w2 ⟨t, u, rfl, ⟨hbt, hst⟩, hmine, G2⟩
  have HBT : Hid (t.bulk ≤ 216 ∧ t.Small) := by
    refine ⟨?_, hst⟩
    have : 3 ^ d ≤ 27 := by
      have h3 : d = 0 ∨ d = 1 ∨ d = 2 ∨ d = 3 := by omega
      rcases h3 with rfl | rfl | rfl | rfl <;> decide
    omega
  obtain ⟨xa, xcp, hu⟩ := hmine.sl
  have HLL : Hid (t.l.length ≤ 216) := by
    show _ ≤ _
    have h1 := T.bulk_def t
    have h2 := T.bulks_length t.l
    have := HBT.out.1
    omega
  generalize hln : t.l.length = xln at hu HLL
  have HLN := Lib.hid hln
  subst hu
  clear hln hbt hst HD
  have hg2 := G2.grown
  have G2' := G1.next G2.cur hg2
  have R2 := R1.draw hg2 (by omega)
  have V2 := V1.draw hg2 hlo
  have hq2 : w1.heap.size ≤ w2.heap.size := hg2.size
  obtain ⟨xk, xc, xo, ⟨xt, xn, xs⟩, xl⟩ := t
  simp only [T.agg, T.kind, T.col, T.op, T.v]
  have A3 := below_alloc w2 (.cells #[.int .i64 xk, .int .i64 xc, .int .i64 xo, .int .i64 xt, .int .i64 xn, .string xs, .slice xa xln xcp] 46)
  have C3 := blk_new w2 [.int .i64 xk, .int .i64 xc, .int .i64 xo, .int .i64 xt, .int .i64 xn, .string xs, .slice xa xln xcp] 46
  have G3 := G2'.alloc (.cells #[.int .i64 xk, .int .i64 xc, .int .i64 xo, .int .i64 xt, .int .i64 xn, .string xs, .slice xa xln xcp] 46)
  have R3 := R2.below A3
  have V3 := V2.below A3
  have M3 : Mine w1.heap.size (w2.alloc (.cells #[.int .i64 xk, .int .i64 xc, .int .i64 xo, .int .i64 xt, .int .i64 xn, .string xs, .slice xa xln xcp] 46)) (.mk xk xc xo ⟨xt, xn, xs⟩ xl) (.slice xa xln xcp) := hmine.below A3
  generalize hw3 : w2.alloc (.cells #[.int .i64 xk, .int .i64 xc, .int .i64 xo, .int .i64 xt, .int .i64 xn, .string xs, .slice xa xln xcp] 46) = w3 at C3 G3 R3 V3 M3 A3
  have HW3 := Lib.hid hw3
  have hs3 := A3.size
  generalize hqq : w2.heap.size = q at C3 hq2 hs3
  have HQ := Lib.hid hqq
  have S3 : SameR w1.heap.size q w2 w3 := (SameR.refl _ _ _).below A3 (by omega)
  have HMK := Lib.hid hmine
  clear hw3 hqq hmine G2 hg2 G2' R2 V2 R1 V1 G1 A3 M3
  go_wp2_with fail
  rw [HW3.out, HQ.out]
  refine (l1Below c g _ _ G3.cur).mono ?_
  rintro e w4 ⟨y, rfl, hy, hc4, hg4⟩
  have hqz := HQ.out
  have G4 := G3.next hc4 hg4
  have R4 := R3.draw hg4 (by omega)
  have C4 := C3.draw hg4 (by omega)
  have V4 := V3.draw hg4 hlo
  have S4 := S3.draw hg4 (by omega)
  have hs4 : q < w4.heap.size := by have := hg4.size; have := C3.lt; omega
  have hy0 : 0 ≤ y := hy.1
  have hy1 : y < 12 := by omega
  clear G3 R3 C3 V3 S3 hc4 hg4 hy HW3 hqz
  by_cases h0 : y = 0
  · subst h0
    go_wp2_with fail
    refine (l1Below c g _ _ G4.cur).mono ?_
    rintro e w5 ⟨x, rfl, hx, hc5, hg5⟩
    have G5 := G4.next hc5 hg5
    have R5 := R4.draw hg5 (by omega)
    have C5 := C4.draw hg5 (by omega)
    have S5 := S4.draw hg5 (by omega)
    have hx0 : 0 ≤ x := hx.1
    have hx1 : x < 8 := by omega
    clear G4 R4 C4 V4 S4 hc5 hg5 hx
    have HG := Lib.hid G5
    have HS := Lib.hid S5
    obtain ⟨d0, f0⟩ := C5 0 _ rfl
    obtain ⟨d1, f1⟩ := C5 1 _ rfl
    obtain ⟨d2, f2⟩ := C5 2 _ rfl
    obtain ⟨d3, f3⟩ := C5 3 _ rfl
    obtain ⟨d4, f4⟩ := C5 4 _ rfl
    obtain ⟨d5, f5⟩ := C5 5 _ rfl
    obtain ⟨d6, f6⟩ := C5 6 _ rfl
    obtain ⟨m0, n0⟩ := R5 0 _ rfl
    obtain ⟨m1, n1⟩ := R5 1 _ rfl
    obtain ⟨m2, n2⟩ := R5 2 _ rfl
    obtain ⟨m3, n3⟩ := R5 3 _ rfl
    obtain ⟨m4, n4⟩ := R5 4 _ rfl
    obtain ⟨m5, n5⟩ := R5 5 _ rfl
    obtain ⟨m6, n6⟩ := R5 6 _ rfl
    clear C5 R5 G5 S5
    go_wp2
    exact bodyPost_ret (v := .agg #[.int .i64 (x - 1), .int .i64 xc, .int .i64 xo, .int .i64 xt, .int .i64 xn, .string xs, .slice xa xln xcp]) (by simp [results, Try.results57, go_sem, *]) rfl ⟨(.mk (x - 1) xc xo ⟨xt, xn, xs⟩ xl), .slice xa xln xcp, rfl, (by have := small_keep (t' := (.mk (x - 1) xc xo ⟨xt, xn, xs⟩ xl)) HBT.out rfl rfl; exact ⟨by omega, this.2⟩), ((HMK.out.sameR HQ.out (((((((((HS.out.set (by first | (simp; done) | (simp; omega) | omega) _).set (by first | (simp; done) | (simp; omega) | omega) _).set (by first | (simp; done) | (simp; omega) | omega) _).set (by first | (simp; done) | (simp; omega) | omega) _).set (by first | (simp; done) | (simp; omega) | omega) _).set (by first | (simp; done) | (simp; omega) | omega) _).set (by first | (simp; done) | (simp; omega) | omega) _).set (by first | (simp; done) | (simp; omega) | omega) _))).same rfl).low (by omega), ((((((((HG.out.set (by first | (simp; done) | (simp; omega) | omega) _ _).set (by first | (simp; done) | (simp; omega) | omega) _ _).set (by first | (simp; done) | (simp; omega) | omega) _ _).set (by first | (simp; done) | (simp; omega) | omega) _ _).set (by first | (simp; done) | (simp; omega) | omega) _ _).set (by first | (simp; done) | (simp; omega) | omega) _ _).set (by first | (simp; done) | (simp; omega) | omega) _ _).set (by first | (simp; done) | (simp; omega) | omega) _ _)⟩
  by_cases h1 : y = 1
  · subst h1
    go_wp2_with fail
    refine (l1IntLit c g [-1, 1, 3] 3 w4 rfl (by omega) (by omega) G4.cur _ rfl).mono ?_
    rintro e w5 ⟨x, rfl, hx, hc5, hg5⟩
    have G5 := G4.next hc5 hg5
    have R5 := R4.draw hg5 (by omega)
    have C5 := C4.draw hg5 (by omega)
    have S5 := S4.draw hg5 (by omega)
    clear G4 R4 C4 V4 S4 hc5 hg5 hx
    have HG := Lib.hid G5
    have HS := Lib.hid S5
    obtain ⟨d0, f0⟩ := C5 0 _ rfl
    obtain ⟨d1, f1⟩ := C5 1 _ rfl
    obtain ⟨d2, f2⟩ := C5 2 _ rfl
    obtain ⟨d3, f3⟩ := C5 3 _ rfl
    obtain ⟨d4, f4⟩ := C5 4 _ rfl
    obtain ⟨d5, f5⟩ := C5 5 _ rfl
    obtain ⟨d6, f6⟩ := C5 6 _ rfl
    obtain ⟨m0, n0⟩ := R5 0 _ rfl
    obtain ⟨m1, n1⟩ := R5 1 _ rfl
    obtain ⟨m2, n2⟩ := R5 2 _ rfl
    obtain ⟨m3, n3⟩ := R5 3 _ rfl
    obtain ⟨m4, n4⟩ := R5 4 _ rfl
    obtain ⟨m5, n5⟩ := R5 5 _ rfl
    obtain ⟨m6, n6⟩ := R5 6 _ rfl
    clear C5 R5 G5 S5
    go_wp2
    exact bodyPost_ret (v := .agg #[.int .i64 xk, .int .i64 x, .int .i64 xo, .int .i64 xt, .int .i64 xn, .string xs, .slice xa xln xcp]) (by simp [results, Try.results57, go_sem, *]) rfl ⟨(.mk xk x xo ⟨xt, xn, xs⟩ xl), .slice xa xln xcp, rfl, (by have := small_keep (t' := (.mk xk x xo ⟨xt, xn, xs⟩ xl)) HBT.out rfl rfl; exact ⟨by omega, this.2⟩), ((HMK.out.sameR HQ.out (((((((((HS.out.set (by first | (simp; done) | (simp; omega) | omega) _).set (by first | (simp; done) | (simp; omega) | omega) _).set (by first | (simp; done) | (simp; omega) | omega) _).set (by first | (simp; done) | (simp; omega) | omega) _).set (by first | (simp; done) | (simp; omega) | omega) _).set (by first | (simp; done) | (simp; omega) | omega) _).set (by first | (simp; done) | (simp; omega) | omega) _).set (by first | (simp; done) | (simp; omega) | omega) _))).same rfl).low (by omega), ((((((((HG.out.set (by first | (simp; done) | (simp; omega) | omega) _ _).set (by first | (simp; done) | (simp; omega) | omega) _ _).set (by first | (simp; done) | (simp; omega) | omega) _ _).set (by first | (simp; done) | (simp; omega) | omega) _ _).set (by first | (simp; done) | (simp; omega) | omega) _ _).set (by first | (simp; done) | (simp; omega) | omega) _ _).set (by first | (simp; done) | (simp; omega) | omega) _ _).set (by first | (simp; done) | (simp; omega) | omega) _ _)⟩
  by_cases h2 : y = 2
  · subst h2
    go_wp2_with fail
    refine (l3Any c g _ G4.cur).mono ?_
    rintro e w5 ⟨v5, rfl, hx, hc5, hg5⟩
    have G5 := G4.next hc5 hg5
    have R5 := R4.draw hg5 (by omega)
    have C5 := C4.draw hg5 (by omega)
    have S5 := S4.draw hg5 (by omega)
    have HX := Lib.hid hx.s
    obtain ⟨zt, zn, zs⟩ := v5
    simp only at HX
    clear G4 R4 C4 V4 S4 hc5 hg5 hx
    have HG := Lib.hid G5
    have HS := Lib.hid S5
    obtain ⟨d0, f0⟩ := C5 0 _ rfl
    obtain ⟨d1, f1⟩ := C5 1 _ rfl
    obtain ⟨d2, f2⟩ := C5 2 _ rfl
    obtain ⟨d3, f3⟩ := C5 3 _ rfl
    obtain ⟨d4, f4⟩ := C5 4 _ rfl
    obtain ⟨d5, f5⟩ := C5 5 _ rfl
    obtain ⟨d6, f6⟩ := C5 6 _ rfl
    obtain ⟨m0, n0⟩ := R5 0 _ rfl
    obtain ⟨m1, n1⟩ := R5 1 _ rfl
    obtain ⟨m2, n2⟩ := R5 2 _ rfl
    obtain ⟨m3, n3⟩ := R5 3 _ rfl
    obtain ⟨m4, n4⟩ := R5 4 _ rfl
    obtain ⟨m5, n5⟩ := R5 5 _ rfl
    obtain ⟨m6, n6⟩ := R5 6 _ rfl
    clear C5 R5 G5 S5
    go_wp2
    exact bodyPost_ret (v := .agg #[.int .i64 xk, .int .i64 xc, .int .i64 xo, .int .i64 zt, .int .i64 zn, .string zs, .slice xa xln xcp]) (by simp [results, Try.results57, go_sem, *]) rfl ⟨(.mk xk xc xo ⟨zt, zn, zs⟩ xl), .slice xa xln xcp, rfl, (by have := small_same (t' := (.mk xk xc xo ⟨zt, zn, zs⟩ xl)) HBT.out HX.out rfl; exact ⟨by omega, this.2⟩), ((HMK.out.sameR HQ.out (((((((((((HS.out.set (by first | (simp; done) | (simp; omega) | omega) _).set (by first | (simp; done) | (simp; omega) | omega) _).set (by first | (simp; done) | (simp; omega) | omega) _).set (by first | (simp; done) | (simp; omega) | omega) _).set (by first | (simp; done) | (simp; omega) | omega) _).set (by first | (simp; done) | (simp; omega) | omega) _).set (by first | (simp; done) | (simp; omega) | omega) _).set (by first | (simp; done) | (simp; omega) | omega) _).set (by first | (simp; done) | (simp; omega) | omega) _).set (by first | (simp; done) | (simp; omega) | omega) _))).same rfl).low (by omega), ((((((((((HG.out.set (by first | (simp; done) | (simp; omega) | omega) _ _).set (by first | (simp; done) | (simp; omega) | omega) _ _).set (by first | (simp; done) | (simp; omega) | omega) _ _).set (by first | (simp; done) | (simp; omega) | omega) _ _).set (by first | (simp; done) | (simp; omega) | omega) _ _).set (by first | (simp; done) | (simp; omega) | omega) _ _).set (by first | (simp; done) | (simp; omega) | omega) _ _).set (by first | (simp; done) | (simp; omega) | omega) _ _).set (by first | (simp; done) | (simp; omega) | omega) _ _).set (by first | (simp; done) | (simp; omega) | omega) _ _)⟩
  by_cases h3 : y = 3
  · subst h3
    have hB' := (Below.refl w4.heap.size w4).drew
    have G5 := G4.below hB'
    have R5 := R4.below hB'
    have C5 := C4.below hB'
    have V5 := V4.below hB'
    have S5 := S4.below hB' (by omega)
    have hs5 : w4.drew.heap.size = w4.heap.size := by simp
    go_wp2
    refine wp_region_held_drew (S := fun _ => True) (by kernel_rfl) trivial (fun hH => ?_)
    clear G4 R4 C4 V4 S4 hB'
    generalize w4.drew = wd at G5 R5 C5 V5 S5 hs5 ⊢
    refine takeH (i := 0) (d := some 32) (v := .pointer (some ⟨q, 6, none⟩)) rfl rfl (by kernel_rfl) (by kernel_rfl) (by kernel_rfl) (fun _ _ _ h => h) (Or.inl ⟨by rfl, fun W hSw => by go_simp⟩) trivial ?_
    try simp only [put_some, List.set_cons_zero, List.set_cons_succ]
    refine takeH (i := 2) (d := some 34) (v := .pointer (some ⟨g, 0, none⟩)) rfl rfl (by kernel_rfl) (by kernel_rfl) (by kernel_rfl) (fun _ _ _ h => h) (Or.inl ⟨by rfl, fun W hSw => by go_simp⟩) trivial ?_
    try simp only [put_some, List.set_cons_zero, List.set_cons_succ]
    refine takeH (i := 3) (d := some 35) (v := v) rfl rfl (by kernel_rfl) (by kernel_rfl) (by kernel_rfl) (fun _ _ _ h => h) (Or.inl ⟨by rfl, fun W hSw => by go_simp⟩) trivial ?_
    try simp only [put_some, List.set_cons_zero, List.set_cons_succ]
    have H6 : Hid (∀ (K' : Exit → Act → World → Prop), True) := fun _ => trivial
    refine wpAnyH_ready (rs := [1, 4]) (by kernel_rfl) (by simp) ?_
    refine AllReadyH.cons rfl (fun K hK => ?_) (AllReadyH.cons rfl (fun K hK => ?_) AllReadyH.nil)
    · have c6 := (C5 6 _ rfl).1
      go_simp
      refine hK.out _ _ trivial (fun _ => ?_)
      clear hK K c6
      refine wpAnyH_ready (rs := [4]) (by kernel_rfl) (by simp) ?_
      refine AllReadyH.cons rfl (fun K hK => ?_) AllReadyH.nil
      go_simp
      go_at_call 89
      refine (l11Draw c g lo v cols hn hn0 hlo 0 (by omega) wd V5 (fun b hb => by have := hvw b hb; omega) G5.cur).mono ?_
      rintro e w6 ⟨t6, u6, rfl, hb6, M6, G6⟩
      have hg6 := G6.grown
      have G6' := G5.next G6.cur hg6
      have R6 := R5.draw hg6 (by omega)
      have C6 := C5.draw hg6 (by omega)
      have S6 := S5.draw hg6 (by omega)
      have hs6 := hg6.size
      obtain ⟨ya, ycp, hu6⟩ := M6.sl
      generalize t6.l.length = yln at hu6
      subst hu6
      have HB6 := Lib.hid hb6
      obtain ⟨yk, yc, yo, ⟨yt, yn, ys⟩, yl⟩ := t6
      simp only [T.agg, T.kind, T.col, T.op, T.v]
      clear hb6 G5 R5 C5 V5 S5 G6
      go_wp2_with fail
      refine hK.out _ _ trivial (fun _ => ?_)
      clear hK K
      refine wpAnyH_ready (rs := [5]) (by kernel_rfl) (by simp) ?_
      refine AllReadyH.cons rfl (fun K hK => ?_) AllReadyH.nil
      go_simp
      have A7 := below_alloc w6 (.cells #[.int .i64 yk, .int .i64 yc, .int .i64 yo, .int .i64 yt, .int .i64 yn, .string ys, .slice ya yln ycp] 46)
      have C7 := C6.below A7
      refine hK.out _ _ trivial (fun _ => ?_)
      clear hK K
      obtain ⟨ps, hps, hpm, hown2, hdr⟩ := HMK.out.ownN
      have hown := hown2.sameR HQ.out S6
      have hpl : ps.length = xln := by
        have e := congrArg List.length hps
        rw [List.length_map] at e
        rw [← e]
        exact HLN.out
      rw [hpl] at hown
      have hll := HLL.out
      refine wpAnyH_ready (rs := [6]) (by kernel_rfl) (by simp) ?_
      refine AllReadyH.cons rfl (fun K hK => ?_) AllReadyH.nil
      refine appendT_op (cs := [.int .i64 yk, .int .i64 yc, .int .i64 yo, .int .i64 yt, .int .i64 yn, .string ys, .slice ya yln ycp]) Try.elemPreds (.tmp 33) (.tmp 37) rfl w1.heap.size w6.heap.size (.slice xa xln xcp) xln (pcs ps) w6.heap.size rfl rfl hown (by omega) rfl (by intro z hz; simp at hz; rcases hz with rfl | rfl | rfl | rfl | rfl | rfl | rfl <;> rfl) rfl (by unfold maxLen; omega) (by omega) ?_
      intro v8 w8 o8 e8
      have E8 : Ext w6 w8 (.slice xa xln xcp) v8 := (Ext.alloc _ _).trans e8
      have hbl : ∀ b, (Value.slice xa xln xcp).ownBlock = some b → w1.heap.size ≤ b ∧ b < q := by
        intro b hb
        have hz := HQ.out
        rcases hown2 with ⟨e, _⟩ | ⟨g', c', e, h1, h2, _⟩
        · rw [e] at hb
          simp [Value.ownBlock] at hb
        · rw [e] at hb
          have : g' = b := by simpa [Value.ownBlock] using hb
          omega
      have HDM := Lib.hid (drew_more hdr HQ.out S6 (by omega) E8 (fun b hb => (hbl b hb).2) (s6 := wd.heap.size) (by omega) (by omega) M6.rd)
      have hv8q : v8.ownBlock ≠ some q := fun e => by
        rcases E8.blk with h | ⟨g', h, hg⟩
        · rw [h] at e
          have := (hbl q e).2
          omega
        · rw [h] at e
          have : g' = q := by simpa using e
          omega
      have C8 := C6.grown E8.grown (fun e => by have := (hbl q e.symm).2; omega)
      have R8 := R6.grown E8.grown (fun e => by have := (hbl _ e.symm).1; omega)
      have G8 := G6'.extN hown (by omega) E8
      obtain ⟨vg, vc, hv8⟩ : ∃ g cp, v8 = .slice (some ⟨g, 0, none⟩) (xln + 1) cp := by obtain ⟨g, cp, e, _⟩ := o8; exact ⟨g, cp, e⟩
      subst hv8
      have HPC : Hid (pcs ps ++ [.int .i64 yk, .int .i64 yc, .int .i64 yo, .int .i64 yt, .int .i64 yn, .string ys, .slice ya yln ycp] = pcs (ps ++ [(T.mk yk yc yo ⟨yt, yn, ys⟩ yl, Value.slice ya yln ycp)]) ∧ xln + 1 = (ps ++ [(T.mk yk yc yo ⟨yt, yn, ys⟩ yl, Value.slice ya yln ycp)]).length) := ⟨by simp [pcs, T.cs, T.kind, T.col, T.op, T.v], by rw [List.length_append, hpl]; rfl⟩
      rw [HPC.out.1] at o8
      have HO8 := Lib.hid o8
      have HV8 := Lib.hid hv8q
      have HPS := Lib.hid hps
      have hpq : xln + 1 ≤ maxLen := by unfold maxLen; omega
      have hw8 : w6.heap.size ≤ w8.heap.size := E8.grown.size
      refine hK.out _ _ trivial (fun _ => ?_)
      clear hK K e8 E8 hbl hown2 hown hdr hps hpl hpm hv8q o8 M6 G6' R6 C6 C7 S6 A7 
      refine takeH (i := 7) (d := some 39) (v := .pointer (some ⟨q, 6, none⟩)) rfl rfl (by kernel_rfl) (by kernel_rfl) (by kernel_rfl) (fun _ _ _ h => h) (Or.inl ⟨by rfl, fun W hSw => by go_simp⟩) trivial ?_
      try simp only [put_some, List.set_cons_zero, List.set_cons_succ]
      refine wpAnyH_ready (rs := [8]) (by kernel_rfl) (by simp) ?_
      refine AllReadyH.cons rfl (fun K hK => ?_) AllReadyH.nil
      obtain ⟨d0, f0⟩ := C8 0 _ rfl
      obtain ⟨d1, f1⟩ := C8 1 _ rfl
      obtain ⟨d2, f2⟩ := C8 2 _ rfl
      obtain ⟨d3, f3⟩ := C8 3 _ rfl
      obtain ⟨d4, f4⟩ := C8 4 _ rfl
      obtain ⟨d5, f5⟩ := C8 5 _ rfl
      obtain ⟨d6, f6⟩ := C8 6 _ rfl
      obtain ⟨m0, n0⟩ := R8 0 _ rfl
      obtain ⟨m1, n1⟩ := R8 1 _ rfl
      obtain ⟨m2, n2⟩ := R8 2 _ rfl
      obtain ⟨m3, n3⟩ := R8 3 _ rfl
      obtain ⟨m4, n4⟩ := R8 4 _ rfl
      obtain ⟨m5, n5⟩ := R8 5 _ rfl
      obtain ⟨m6, n6⟩ := R8 6 _ rfl
      have HG := Lib.hid G8
      clear C8 R8 G8
      go_simp
      refine hK.out _ _ trivial (fun _ => ?_)
      clear hK K
      refine wpAnyH_done (by kernel_rfl) ?_ _
      go_wp2
      exact bodyPost_ret (v := .agg #[.int .i64 xk, .int .i64 xc, .int .i64 xo, .int .i64 xt, .int .i64 xn, .string xs, .slice (some ⟨vg, 0, none⟩) (xln + 1) vc]) (by simp [results, Try.results57, go_sem, *]) rfl ⟨.mk xk xc xo ⟨xt, xn, xs⟩ (xl ++ [T.mk yk yc yo ⟨yt, yn, ys⟩ yl]), .slice (some ⟨vg, 0, none⟩) (xln + 1) vc, rfl, (by have := small_more (t' := .mk xk xc xo ⟨xt, xn, xs⟩ (xl ++ [T.mk yk yc yo ⟨yt, yn, ys⟩ yl])) HBT.out (by simpa using HB6.out) rfl rfl; exact ⟨by omega, this.2⟩), (mine_out (w := w8) (by rw [List.map_append, ← HPS.out]; rfl) (by rw [← HPC.out.2]; exact hpq) (by rw [← HPC.out.2]; exact HO8.out) HV8.out HDM.out ((((((((((SameX.refl _ _ _).set (by first | (simp; done) | (simp; omega) | omega) _).set (by first | (simp; done) | (simp; omega) | omega) _).set (by first | (simp; done) | (simp; omega) | omega) _).set (by first | (simp; done) | (simp; omega) | omega) _).set (by first | (simp; done) | (simp; omega) | omega) _).set (by first | (simp; done) | (simp; omega) | omega) _).set (by first | (simp; done) | (simp; omega) | omega) _).set (by first | (simp; done) | (simp; omega) | omega) _))).low (by omega), ((((((((HG.out.set (by first | (simp; done) | (simp; omega) | omega) _ _).set (by first | (simp; done) | (simp; omega) | omega) _ _).set (by first | (simp; done) | (simp; omega) | omega) _ _).set (by first | (simp; done) | (simp; omega) | omega) _ _).set (by first | (simp; done) | (simp; omega) | omega) _ _).set (by first | (simp; done) | (simp; omega) | omega) _ _).set (by first | (simp; done) | (simp; omega) | omega) _ _).set (by first | (simp; done) | (simp; omega) | omega) _ _)⟩
    · go_simp
      go_at_call 89
      refine (l11Draw c g lo v cols hn hn0 hlo 0 (by omega) wd V5 (fun b hb => by have := hvw b hb; omega) G5.cur).mono ?_
      rintro e w6 ⟨t6, u6, rfl, hb6, M6, G6⟩
      have hg6 := G6.grown
      have G6' := G5.next G6.cur hg6
      have R6 := R5.draw hg6 (by omega)
      have C6 := C5.draw hg6 (by omega)
      have S6 := S5.draw hg6 (by omega)
      have hs6 := hg6.size
      obtain ⟨ya, ycp, hu6⟩ := M6.sl
      generalize t6.l.length = yln at hu6
      subst hu6
      have HB6 := Lib.hid hb6
      obtain ⟨yk, yc, yo, ⟨yt, yn, ys⟩, yl⟩ := t6
      simp only [T.agg, T.kind, T.col, T.op, T.v]
      clear hb6 G5 R5 C5 V5 S5 G6
      go_wp2_with fail
      refine hK.out _ _ trivial (fun _ => ?_)
      clear hK K
      refine wpAnyH_ready (rs := [1, 5]) (by kernel_rfl) (by simp) ?_
      refine AllReadyH.cons rfl (fun K hK => ?_) (AllReadyH.cons rfl (fun K hK => ?_) AllReadyH.nil)
      · have c6 := (C6 6 _ rfl).1
        go_simp
        refine hK.out _ _ trivial (fun _ => ?_)
        clear hK K c6
        refine wpAnyH_ready (rs := [5]) (by kernel_rfl) (by simp) ?_
        refine AllReadyH.cons rfl (fun K hK => ?_) AllReadyH.nil
        go_simp
        have A7 := below_alloc w6 (.cells #[.int .i64 yk, .int .i64 yc, .int .i64 yo, .int .i64 yt, .int .i64 yn, .string ys, .slice ya yln ycp] 46)
        have C7 := C6.below A7
        refine hK.out _ _ trivial (fun _ => ?_)
        clear hK K
        obtain ⟨ps, hps, hpm, hown2, hdr⟩ := HMK.out.ownN
        have hown := hown2.sameR HQ.out S6
        have hpl : ps.length = xln := by
          have e := congrArg List.length hps
          rw [List.length_map] at e
          rw [← e]
          exact HLN.out
        rw [hpl] at hown
        have hll := HLL.out
        refine wpAnyH_ready (rs := [6]) (by kernel_rfl) (by simp) ?_
        refine AllReadyH.cons rfl (fun K hK => ?_) AllReadyH.nil
        refine appendT_op (cs := [.int .i64 yk, .int .i64 yc, .int .i64 yo, .int .i64 yt, .int .i64 yn, .string ys, .slice ya yln ycp]) Try.elemPreds (.tmp 33) (.tmp 37) rfl w1.heap.size w6.heap.size (.slice xa xln xcp) xln (pcs ps) w6.heap.size rfl rfl hown (by omega) rfl (by intro z hz; simp at hz; rcases hz with rfl | rfl | rfl | rfl | rfl | rfl | rfl <;> rfl) rfl (by unfold maxLen; omega) (by omega) ?_
        intro v8 w8 o8 e8
        have E8 : Ext w6 w8 (.slice xa xln xcp) v8 := (Ext.alloc _ _).trans e8
        have hbl : ∀ b, (Value.slice xa xln xcp).ownBlock = some b → w1.heap.size ≤ b ∧ b < q := by
          intro b hb
          have hz := HQ.out
          rcases hown2 with ⟨e, _⟩ | ⟨g', c', e, h1, h2, _⟩
          · rw [e] at hb
            simp [Value.ownBlock] at hb
          · rw [e] at hb
            have : g' = b := by simpa [Value.ownBlock] using hb
            omega
        have HDM := Lib.hid (drew_more hdr HQ.out S6 (by omega) E8 (fun b hb => (hbl b hb).2) (s6 := wd.heap.size) (by omega) (by omega) M6.rd)
        have hv8q : v8.ownBlock ≠ some q := fun e => by
          rcases E8.blk with h | ⟨g', h, hg⟩
          · rw [h] at e
            have := (hbl q e).2
            omega
          · rw [h] at e
            have : g' = q := by simpa using e
            omega
        have C8 := C6.grown E8.grown (fun e => by have := (hbl q e.symm).2; omega)
        have R8 := R6.grown E8.grown (fun e => by have := (hbl _ e.symm).1; omega)
        have G8 := G6'.extN hown (by omega) E8
        obtain ⟨vg, vc, hv8⟩ : ∃ g cp, v8 = .slice (some ⟨g, 0, none⟩) (xln + 1) cp := by obtain ⟨g, cp, e, _⟩ := o8; exact ⟨g, cp, e⟩
        subst hv8
        have HPC : Hid (pcs ps ++ [.int .i64 yk, .int .i64 yc, .int .i64 yo, .int .i64 yt, .int .i64 yn, .string ys, .slice ya yln ycp] = pcs (ps ++ [(T.mk yk yc yo ⟨yt, yn, ys⟩ yl, Value.slice ya yln ycp)]) ∧ xln + 1 = (ps ++ [(T.mk yk yc yo ⟨yt, yn, ys⟩ yl, Value.slice ya yln ycp)]).length) := ⟨by simp [pcs, T.cs, T.kind, T.col, T.op, T.v], by rw [List.length_append, hpl]; rfl⟩
        rw [HPC.out.1] at o8
        have HO8 := Lib.hid o8
        have HV8 := Lib.hid hv8q
        have HPS := Lib.hid hps
        have hpq : xln + 1 ≤ maxLen := by unfold maxLen; omega
        have hw8 : w6.heap.size ≤ w8.heap.size := E8.grown.size
        refine hK.out _ _ trivial (fun _ => ?_)
        clear hK K e8 E8 hbl hown2 hown hdr hps hpl hpm hv8q o8 M6 G6' R6 C6 C7 S6 A7 
        refine takeH (i := 7) (d := some 39) (v := .pointer (some ⟨q, 6, none⟩)) rfl rfl (by kernel_rfl) (by kernel_rfl) (by kernel_rfl) (fun _ _ _ h => h) (Or.inl ⟨by rfl, fun W hSw => by go_simp⟩) trivial ?_
        try simp only [put_some, List.set_cons_zero, List.set_cons_succ]
        refine wpAnyH_ready (rs := [8]) (by kernel_rfl) (by simp) ?_
        refine AllReadyH.cons rfl (fun K hK => ?_) AllReadyH.nil
        obtain ⟨d0, f0⟩ := C8 0 _ rfl
        obtain ⟨d1, f1⟩ := C8 1 _ rfl
        obtain ⟨d2, f2⟩ := C8 2 _ rfl
        obtain ⟨d3, f3⟩ := C8 3 _ rfl
        obtain ⟨d4, f4⟩ := C8 4 _ rfl
        obtain ⟨d5, f5⟩ := C8 5 _ rfl
        obtain ⟨d6, f6⟩ := C8 6 _ rfl
        obtain ⟨m0, n0⟩ := R8 0 _ rfl
        obtain ⟨m1, n1⟩ := R8 1 _ rfl
        obtain ⟨m2, n2⟩ := R8 2 _ rfl
        obtain ⟨m3, n3⟩ := R8 3 _ rfl
        obtain ⟨m4, n4⟩ := R8 4 _ rfl
        obtain ⟨m5, n5⟩ := R8 5 _ rfl
        obtain ⟨m6, n6⟩ := R8 6 _ rfl
        have HG := Lib.hid G8
        clear C8 R8 G8
        go_simp
        refine hK.out _ _ trivial (fun _ => ?_)
        clear hK K
        refine wpAnyH_done (by kernel_rfl) ?_ _
        go_wp2
        exact bodyPost_ret (v := .agg #[.int .i64 xk, .int .i64 xc, .int .i64 xo, .int .i64 xt, .int .i64 xn, .string xs, .slice (some ⟨vg, 0, none⟩) (xln + 1) vc]) (by simp [results, Try.results57, go_sem, *]) rfl ⟨.mk xk xc xo ⟨xt, xn, xs⟩ (xl ++ [T.mk yk yc yo ⟨yt, yn, ys⟩ yl]), .slice (some ⟨vg, 0, none⟩) (xln + 1) vc, rfl, (by have := small_more (t' := .mk xk xc xo ⟨xt, xn, xs⟩ (xl ++ [T.mk yk yc yo ⟨yt, yn, ys⟩ yl])) HBT.out (by simpa using HB6.out) rfl rfl; exact ⟨by omega, this.2⟩), (mine_out (w := w8) (by rw [List.map_append, ← HPS.out]; rfl) (by rw [← HPC.out.2]; exact hpq) (by rw [← HPC.out.2]; exact HO8.out) HV8.out HDM.out ((((((((((SameX.refl _ _ _).set (by first | (simp; done) | (simp; omega) | omega) _).set (by first | (simp; done) | (simp; omega) | omega) _).set (by first | (simp; done) | (simp; omega) | omega) _).set (by first | (simp; done) | (simp; omega) | omega) _).set (by first | (simp; done) | (simp; omega) | omega) _).set (by first | (simp; done) | (simp; omega) | omega) _).set (by first | (simp; done) | (simp; omega) | omega) _).set (by first | (simp; done) | (simp; omega) | omega) _))).low (by omega), ((((((((HG.out.set (by first | (simp; done) | (simp; omega) | omega) _ _).set (by first | (simp; done) | (simp; omega) | omega) _ _).set (by first | (simp; done) | (simp; omega) | omega) _ _).set (by first | (simp; done) | (simp; omega) | omega) _ _).set (by first | (simp; done) | (simp; omega) | omega) _ _).set (by first | (simp; done) | (simp; omega) | omega) _ _).set (by first | (simp; done) | (simp; omega) | omega) _ _).set (by first | (simp; done) | (simp; omega) | omega) _ _)⟩
      · go_simp
        have A7 := below_alloc w6 (.cells #[.int .i64 yk, .int .i64 yc, .int .i64 yo, .int .i64 yt, .int .i64 yn, .string ys, .slice ya yln ycp] 46)
        have C7 := C6.below A7
        refine hK.out _ _ trivial (fun _ => ?_)
        clear hK K
        refine wpAnyH_ready (rs := [1]) (by kernel_rfl) (by simp) ?_
        refine AllReadyH.cons rfl (fun K hK => ?_) AllReadyH.nil
        have c6 := (C7 6 _ rfl).1
        go_simp
        refine hK.out _ _ trivial (fun _ => ?_)
        clear hK K c6
        obtain ⟨ps, hps, hpm, hown2, hdr⟩ := HMK.out.ownN
        have hown := hown2.sameR HQ.out S6
        have hpl : ps.length = xln := by
          have e := congrArg List.length hps
          rw [List.length_map] at e
          rw [← e]
          exact HLN.out
        rw [hpl] at hown
        have hll := HLL.out
        refine wpAnyH_ready (rs := [6]) (by kernel_rfl) (by simp) ?_
        refine AllReadyH.cons rfl (fun K hK => ?_) AllReadyH.nil
        refine appendT_op (cs := [.int .i64 yk, .int .i64 yc, .int .i64 yo, .int .i64 yt, .int .i64 yn, .string ys, .slice ya yln ycp]) Try.elemPreds (.tmp 33) (.tmp 37) rfl w1.heap.size w6.heap.size (.slice xa xln xcp) xln (pcs ps) w6.heap.size rfl rfl hown (by omega) rfl (by intro z hz; simp at hz; rcases hz with rfl | rfl | rfl | rfl | rfl | rfl | rfl <;> rfl) rfl (by unfold maxLen; omega) (by omega) ?_
        intro v8 w8 o8 e8
        have E8 : Ext w6 w8 (.slice xa xln xcp) v8 := (Ext.alloc _ _).trans e8
        have hbl : ∀ b, (Value.slice xa xln xcp).ownBlock = some b → w1.heap.size ≤ b ∧ b < q := by
          intro b hb
          have hz := HQ.out
          rcases hown2 with ⟨e, _⟩ | ⟨g', c', e, h1, h2, _⟩
          · rw [e] at hb
            simp [Value.ownBlock] at hb
          · rw [e] at hb
            have : g' = b := by simpa [Value.ownBlock] using hb
            omega
        have HDM := Lib.hid (drew_more hdr HQ.out S6 (by omega) E8 (fun b hb => (hbl b hb).2) (s6 := wd.heap.size) (by omega) (by omega) M6.rd)
        have hv8q : v8.ownBlock ≠ some q := fun e => by
          rcases E8.blk with h | ⟨g', h, hg⟩
          · rw [h] at e
            have := (hbl q e).2
            omega
          · rw [h] at e
            have : g' = q := by simpa using e
            omega
        have C8 := C6.grown E8.grown (fun e => by have := (hbl q e.symm).2; omega)
        have R8 := R6.grown E8.grown (fun e => by have := (hbl _ e.symm).1; omega)
        have G8 := G6'.extN hown (by omega) E8
        obtain ⟨vg, vc, hv8⟩ : ∃ g cp, v8 = .slice (some ⟨g, 0, none⟩) (xln + 1) cp := by obtain ⟨g, cp, e, _⟩ := o8; exact ⟨g, cp, e⟩
        subst hv8
        have HPC : Hid (pcs ps ++ [.int .i64 yk, .int .i64 yc, .int .i64 yo, .int .i64 yt, .int .i64 yn, .string ys, .slice ya yln ycp] = pcs (ps ++ [(T.mk yk yc yo ⟨yt, yn, ys⟩ yl, Value.slice ya yln ycp)]) ∧ xln + 1 = (ps ++ [(T.mk yk yc yo ⟨yt, yn, ys⟩ yl, Value.slice ya yln ycp)]).length) := ⟨by simp [pcs, T.cs, T.kind, T.col, T.op, T.v], by rw [List.length_append, hpl]; rfl⟩
        rw [HPC.out.1] at o8
        have HO8 := Lib.hid o8
        have HV8 := Lib.hid hv8q
        have HPS := Lib.hid hps
        have hpq : xln + 1 ≤ maxLen := by unfold maxLen; omega
        have hw8 : w6.heap.size ≤ w8.heap.size := E8.grown.size
        refine hK.out _ _ trivial (fun _ => ?_)
        clear hK K e8 E8 hbl hown2 hown hdr hps hpl hpm hv8q o8 M6 G6' R6 C6 C7 S6 A7 
        refine takeH (i := 7) (d := some 39) (v := .pointer (some ⟨q, 6, none⟩)) rfl rfl (by kernel_rfl) (by kernel_rfl) (by kernel_rfl) (fun _ _ _ h => h) (Or.inl ⟨by rfl, fun W hSw => by go_simp⟩) trivial ?_
        try simp only [put_some, List.set_cons_zero, List.set_cons_succ]
        refine wpAnyH_ready (rs := [8]) (by kernel_rfl) (by simp) ?_
        refine AllReadyH.cons rfl (fun K hK => ?_) AllReadyH.nil
        obtain ⟨d0, f0⟩ := C8 0 _ rfl
        obtain ⟨d1, f1⟩ := C8 1 _ rfl
        obtain ⟨d2, f2⟩ := C8 2 _ rfl
        obtain ⟨d3, f3⟩ := C8 3 _ rfl
        obtain ⟨d4, f4⟩ := C8 4 _ rfl
        obtain ⟨d5, f5⟩ := C8 5 _ rfl
        obtain ⟨d6, f6⟩ := C8 6 _ rfl
        obtain ⟨m0, n0⟩ := R8 0 _ rfl
        obtain ⟨m1, n1⟩ := R8 1 _ rfl
        obtain ⟨m2, n2⟩ := R8 2 _ rfl
        obtain ⟨m3, n3⟩ := R8 3 _ rfl
        obtain ⟨m4, n4⟩ := R8 4 _ rfl
        obtain ⟨m5, n5⟩ := R8 5 _ rfl
        obtain ⟨m6, n6⟩ := R8 6 _ rfl
        have HG := Lib.hid G8
        clear C8 R8 G8
        go_simp
        refine hK.out _ _ trivial (fun _ => ?_)
        clear hK K
        refine wpAnyH_done (by kernel_rfl) ?_ _
        go_wp2
        exact bodyPost_ret (v := .agg #[.int .i64 xk, .int .i64 xc, .int .i64 xo, .int .i64 xt, .int .i64 xn, .string xs, .slice (some ⟨vg, 0, none⟩) (xln + 1) vc]) (by simp [results, Try.results57, go_sem, *]) rfl ⟨.mk xk xc xo ⟨xt, xn, xs⟩ (xl ++ [T.mk yk yc yo ⟨yt, yn, ys⟩ yl]), .slice (some ⟨vg, 0, none⟩) (xln + 1) vc, rfl, (by have := small_more (t' := .mk xk xc xo ⟨xt, xn, xs⟩ (xl ++ [T.mk yk yc yo ⟨yt, yn, ys⟩ yl])) HBT.out (by simpa using HB6.out) rfl rfl; exact ⟨by omega, this.2⟩), (mine_out (w := w8) (by rw [List.map_append, ← HPS.out]; rfl) (by rw [← HPC.out.2]; exact hpq) (by rw [← HPC.out.2]; exact HO8.out) HV8.out HDM.out ((((((((((SameX.refl _ _ _).set (by first | (simp; done) | (simp; omega) | omega) _).set (by first | (simp; done) | (simp; omega) | omega) _).set (by first | (simp; done) | (simp; omega) | omega) _).set (by first | (simp; done) | (simp; omega) | omega) _).set (by first | (simp; done) | (simp; omega) | omega) _).set (by first | (simp; done) | (simp; omega) | omega) _).set (by first | (simp; done) | (simp; omega) | omega) _).set (by first | (simp; done) | (simp; omega) | omega) _))).low (by omega), ((((((((HG.out.set (by first | (simp; done) | (simp; omega) | omega) _ _).set (by first | (simp; done) | (simp; omega) | omega) _ _).set (by first | (simp; done) | (simp; omega) | omega) _ _).set (by first | (simp; done) | (simp; omega) | omega) _ _).set (by first | (simp; done) | (simp; omega) | omega) _ _).set (by first | (simp; done) | (simp; omega) | omega) _ _).set (by first | (simp; done) | (simp; omega) | omega) _ _).set (by first | (simp; done) | (simp; omega) | omega) _ _)⟩
  by_cases h4 : y = 4
  · subst h4
    go_wp2_with fail
    refine (l10Op c g _ G4.cur).mono ?_
    rintro e w5 ⟨x, rfl, hx, hc5, hg5⟩
    have G5 := G4.next hc5 hg5
    have R5 := R4.draw hg5 (by omega)
    have C5 := C4.draw hg5 (by omega)
    have S5 := S4.draw hg5 (by omega)
    clear G4 R4 C4 V4 S4 hc5 hg5 hx
    have HG := Lib.hid G5
    have HS := Lib.hid S5
    obtain ⟨d0, f0⟩ := C5 0 _ rfl
    obtain ⟨d1, f1⟩ := C5 1 _ rfl
    obtain ⟨d2, f2⟩ := C5 2 _ rfl
    obtain ⟨d3, f3⟩ := C5 3 _ rfl
    obtain ⟨d4, f4⟩ := C5 4 _ rfl
    obtain ⟨d5, f5⟩ := C5 5 _ rfl
    obtain ⟨d6, f6⟩ := C5 6 _ rfl
    obtain ⟨m0, n0⟩ := R5 0 _ rfl
    obtain ⟨m1, n1⟩ := R5 1 _ rfl
    obtain ⟨m2, n2⟩ := R5 2 _ rfl
    obtain ⟨m3, n3⟩ := R5 3 _ rfl
    obtain ⟨m4, n4⟩ := R5 4 _ rfl
    obtain ⟨m5, n5⟩ := R5 5 _ rfl
    obtain ⟨m6, n6⟩ := R5 6 _ rfl
    clear C5 R5 G5 S5
    go_wp2
    exact bodyPost_ret (v := .agg #[.int .i64 xk, .int .i64 xc, .int .i64 x, .int .i64 xt, .int .i64 xn, .string xs, .slice xa xln xcp]) (by simp [results, Try.results57, go_sem, *]) rfl ⟨(.mk xk xc x ⟨xt, xn, xs⟩ xl), .slice xa xln xcp, rfl, (by have := small_keep (t' := (.mk xk xc x ⟨xt, xn, xs⟩ xl)) HBT.out rfl rfl; exact ⟨by omega, this.2⟩), ((HMK.out.sameR HQ.out (((((((((HS.out.set (by first | (simp; done) | (simp; omega) | omega) _).set (by first | (simp; done) | (simp; omega) | omega) _).set (by first | (simp; done) | (simp; omega) | omega) _).set (by first | (simp; done) | (simp; omega) | omega) _).set (by first | (simp; done) | (simp; omega) | omega) _).set (by first | (simp; done) | (simp; omega) | omega) _).set (by first | (simp; done) | (simp; omega) | omega) _).set (by first | (simp; done) | (simp; omega) | omega) _))).same rfl).low (by omega), ((((((((HG.out.set (by first | (simp; done) | (simp; omega) | omega) _ _).set (by first | (simp; done) | (simp; omega) | omega) _ _).set (by first | (simp; done) | (simp; omega) | omega) _ _).set (by first | (simp; done) | (simp; omega) | omega) _ _).set (by first | (simp; done) | (simp; omega) | omega) _ _).set (by first | (simp; done) | (simp; omega) | omega) _ _).set (by first | (simp; done) | (simp; omega) | omega) _ _).set (by first | (simp; done) | (simp; omega) | omega) _ _)⟩
  · have b0 : (y == 0) = false := by simp [h0]
    have b1 : (y == 1) = false := by simp [h1]
    have b2 : (y == 2) = false := by simp [h2]
    have b3 : (y == 3) = false := by simp [h3]
    have b4 : (y == 4) = false := by simp [h4]
    have HG := Lib.hid G4
    have HS := Lib.hid S4
    obtain ⟨d0, f0⟩ := C4 0 _ rfl
    obtain ⟨d1, f1⟩ := C4 1 _ rfl
    obtain ⟨d2, f2⟩ := C4 2 _ rfl
    obtain ⟨d3, f3⟩ := C4 3 _ rfl
    obtain ⟨d4, f4⟩ := C4 4 _ rfl
    obtain ⟨d5, f5⟩ := C4 5 _ rfl
    obtain ⟨d6, f6⟩ := C4 6 _ rfl
    obtain ⟨m0, n0⟩ := R4 0 _ rfl
    obtain ⟨m1, n1⟩ := R4 1 _ rfl
    obtain ⟨m2, n2⟩ := R4 2 _ rfl
    obtain ⟨m3, n3⟩ := R4 3 _ rfl
    obtain ⟨m4, n4⟩ := R4 4 _ rfl
    obtain ⟨m5, n5⟩ := R4 5 _ rfl
    obtain ⟨m6, n6⟩ := R4 6 _ rfl
    clear C4 R4 G4 S4
    go_wp2
    exact bodyPost_ret (v := .agg #[.int .i64 xk, .int .i64 xc, .int .i64 xo, .int .i64 xt, .int .i64 xn, .string xs, .slice xa xln xcp]) (by simp [results, Try.results57, go_sem, *]) rfl ⟨(.mk xk xc xo ⟨xt, xn, xs⟩ xl), .slice xa xln xcp, rfl, (by have := small_keep (t' := (.mk xk xc xo ⟨xt, xn, xs⟩ xl)) HBT.out rfl rfl; exact ⟨by omega, this.2⟩), ((HMK.out.sameR HQ.out ((((((((HS.out.set (by first | (simp; done) | (simp; omega) | omega) _).set (by first | (simp; done) | (simp; omega) | omega) _).set (by first | (simp; done) | (simp; omega) | omega) _).set (by first | (simp; done) | (simp; omega) | omega) _).set (by first | (simp; done) | (simp; omega) | omega) _).set (by first | (simp; done) | (simp; omega) | omega) _).set (by first | (simp; done) | (simp; omega) | omega) _))).same rfl).low (by omega), (((((((HG.out.set (by first | (simp; done) | (simp; omega) | omega) _ _).set (by first | (simp; done) | (simp; omega) | omega) _ _).set (by first | (simp; done) | (simp; omega) | omega) _ _).set (by first | (simp; done) | (simp; omega) | omega) _ _).set (by first | (simp; done) | (simp; omega) | omega) _ _).set (by first | (simp; done) | (simp; omega) | omega) _ _).set (by first | (simp; done) | (simp; omega) | omega) _ _)⟩

end Go.Proofs.Ytafoldpmodipaaa

/- The contracts of DrawHolds and DrawMayHold (written by mk_Draw11y.py). -/
namespace Go.Proofs.Ytafoldpmodipaaa
open Go.RowKit

theorem ty_small {cols : List Int} {l : List V} (h : ∀ k, k < l.length → OfTy (colTy cols k) (l.getD k V.zero)) : ∀ v ∈ l, v.s.size ≤ maxLen := fun v hv => by
  obtain ⟨k, hk, rfl⟩ := List.getElem_of_mem hv
  have h1 := (h k hk).fair.s
  have e : l.getD k V.zero = l[k] := by simp [hk]
  rw [e] at h1
  unfold maxLen
  omega
theorem zones_small {ps : List P} (h : ∀ p ∈ ps, ∀ v ∈ p.1.l, v.s.size ≤ maxLen) : ∀ z ∈ zonesL (ps.map (·.1)), z.lo.s.size ≤ maxLen ∧ z.hi.s.size ≤ maxLen := by
  intro z hz
  have key : ∀ (m : Nat), z ∈ zonesK (ps.map (·.1)) m → z.lo.s.size ≤ maxLen ∧ z.hi.s.size ≤ maxLen := fun m hz => by
    unfold zonesK at hz
    obtain ⟨k, _, rfl⟩ := List.mem_map.1 hz
    refine zoneL_sizes (fun v hv => ?_)
    unfold colR at hv
    obtain ⟨r, hr, hv⟩ := List.mem_filterMap.1 hv
    obtain ⟨p, hp, rfl⟩ := List.mem_map.1 hr
    split at hv
    · exact h p hp v (List.mem_of_getElem? hv)
    · cases hv
  cases ps with
  | nil => cases hz
  | cons p ps => exact key _ hz

theorem zonesK_le {ps : List P} {N : Nat} (h : ∀ p ∈ ps, p.1.l.length ≤ N) : (zonesL (ps.map (·.1))).length ≤ N := by
  cases ps with
  | nil => exact Nat.zero_le _
  | cons p ps =>
    show (zonesK (p.1 :: ps.map (·.1)) p.1.l.length).length ≤ N
    rw [zonesK_len]
    exact h p List.mem_cons_self

set_option maxRecDepth 100000 in
set_option maxHeartbeats 4000000 in
theorem drawHolds (c : Code) (w : World) (h : c.In w) :
    Calls Try.prog 24 #[.slice c.a c.len c.cap] w fun e w' => ∃ (t : T) (u vl : Value) (l : List V), e = .returned (.tuple #[t.agg u, vl]) ∧ (t.bulk ≤ 240 ∧ t.Small) ∧ Mine w.heap.size w' t u ∧ (l.length ≤ 3 ∧ (∀ v ∈ l, v.s.size ≤ maxLen) ∧ Own 30 3 w.heap.size w'.heap.size w' vl l.length (vals l)) ∧ Below w.heap.size w w' := by
  have R0 := blk_new w [.int .i64 0, .int .i64 0, .int .i64 0, .int .i64 0, .int .i64 0, .string ⟨#[]⟩, .slice none 0 0] 46
  have B0 := below_alloc w (.cells #[.int .i64 0, .int .i64 0, .int .i64 0, .int .i64 0, .int .i64 0, .string ⟨#[]⟩, .slice none 0 0] 46)
  have hs0 : (w.alloc (.cells #[.int .i64 0, .int .i64 0, .int .i64 0, .int .i64 0, .int .i64 0, .string ⟨#[]⟩, .slice none 0 0] 46)).heap.size = w.heap.size + 1 := World.size_alloc _ _
  generalize hw0 : w.alloc (.cells #[.int .i64 0, .int .i64 0, .int .i64 0, .int .i64 0, .int .i64 0, .string ⟨#[]⟩, .slice none 0 0] 46) = w0 at R0 B0 hs0
  have HW0 := Lib.hid hw0
  have HS0 := Lib.hid hs0
  clear hw0
  go_enter Try.func24, Try.ntmps24
  go_wp2_with fail
  rw [HW0.out]
  refine (l1New c _ ⟨h.arg.below B0, h.byt, h.small⟩).mono ?_
  rintro e w1 ⟨rfl, hc1, hb1⟩
  have R1 := R0.below hb1
  have B1 := below_then B0 hb1 B0.size
  generalize hgg : w0.heap.size = g at hc1 hb1 HS0 ⊢
  have hg : g = w.heap.size + 1 := HS0.out
  have hgl := hc1.lt
  have HG := Lib.hid hg
  clear hg hgg R0 B0 hs0 hb1 HW0 h
  go_wp2_with fail
  refine (l4Cols c g w1 hc1).mono ?_
  rintro e w2 ⟨vc, cols, rfl, hcm, hvc, G2⟩
  have hvw2 : ∀ b, vc.ownBlock = some b → b < w2.heap.size := fun b hb => by
    obtain ⟨b', e', _, hB⟩ := hvc
    have hbb : b' = b := by rw [e'] at hb; simpa [Value.ownBlock] using hb
    subst hbb
    exact lt_of_cell (hB 0 _ (ints_get (colsD_ok hcm).2.1)).1
  have R2 := R1.draw G2.grown (by have := HG.out; omega)
  have HCM := Lib.hid hcm
  have hgw : w1.heap.size ≤ w2.heap.size := G2.grown.size
  go_wp2_with fail
  refine (l11Any c g w1.heap.size vc cols w2 (by have := (colsD_ok HCM.out).2.2.1; omega) (colsD_ok HCM.out).2.1 hgl hvc hvw2 G2.cur).mono ?_
  rintro e w3 ⟨t, u, rfl, hbs, hr, G3⟩
  have G3' := G2.next G3.cur G3.grown
  have R3 := R2.draw G3.grown (by have := HG.out; omega)
  have V3 := hvc.draw G3.grown hgl
  have hg3 : w2.heap.size ≤ w3.heap.size := G3.grown.size
  obtain ⟨xa, xcp, hu⟩ := hr.sl
  generalize t.l.length = xln at hu
  subst hu
  generalize htt : t = t0 at hr hbs ⊢
  have HTT := Lib.hid htt
  have HP := Lib.hid hbs
  clear htt hbs
  obtain ⟨xk, xc, xo, ⟨xt, xn, xs⟩, xl⟩ := t
  have HAG : Hid (∀ u', t0.agg u' = .agg #[.int .i64 xk, .int .i64 xc, .int .i64 xo, .int .i64 xt, .int .i64 xn, .string xs, u']) := fun u' => by
    rw [← HTT.out]
    rfl
  rw [HAG.out]
  clear HTT G2 G3 R1 R2 hvc hc1 hcm
  go_wp2_with fail
  refine (l4Vals c g w1.heap.size vc cols w3 (by have := (colsD_ok HCM.out).2.2.1; omega) hgl V3 G3'.cur).mono ?_
  rintro e w4 ⟨u4, l, rfl, hl, hty, hO, G4⟩
  have G4' := G3'.next G4.cur G4.grown
  have R4 := R3.draw G4.grown (by have := HG.out; omega)
  have hwg := HG.out
  have hr4 := Mine.draw hr G4.grown (by omega)
  have HR := Lib.hid hr4
  have HB := Lib.hid (B1.grown G4'.grown B1.size (fun k hk => by simp at hk; omega))
  have HL : Hid (l.length ≤ 3 ∧ ∀ v ∈ l, v.s.size ≤ maxLen) := ⟨by rw [hl]; exact (colsD_ok HCM.out).2.2.1, ty_small hty⟩
  have HO := Lib.hid hO
  obtain ⟨ob, oc, ho, hol, hoh, _⟩ := hO
  subst ho
  obtain ⟨m0, n0⟩ := R4 0 _ rfl
  obtain ⟨m1, n1⟩ := R4 1 _ rfl
  obtain ⟨m2, n2⟩ := R4 2 _ rfl
  obtain ⟨m3, n3⟩ := R4 3 _ rfl
  obtain ⟨m4, n4⟩ := R4 4 _ rfl
  obtain ⟨m5, n5⟩ := R4 5 _ rfl
  obtain ⟨m6, n6⟩ := R4 6 _ rfl
  have hsz : w.heap.size + 1 ≤ w2.heap.size := by omega
  have hsz3 : w.heap.size + 1 ≤ w3.heap.size := by omega
  clear R3 R4 G3' G4 G4' hr hr4 V3 hty hl B1
  go_wp2
  exact bodyPost_ret (v := .tuple #[.agg #[.int .i64 xk, .int .i64 xc, .int .i64 xo, .int .i64 xt, .int .i64 xn, .string xs, .slice xa xln xcp], .slice (some ⟨ob, 0, none⟩) l.length oc]) (by simp [results, Try.results24, go_sem, *]) rfl ⟨t0, .slice xa xln xcp, .slice (some ⟨ob, 0, none⟩) l.length oc, l, by rw [HAG.out], HP.out, Mine.low ((((((((HR.out.setCell (by first | (simp; done) | (simp; omega) | omega) _).setCell (by first | (simp; done) | (simp; omega) | omega) _).setCell (by first | (simp; done) | (simp; omega) | omega) _).setCell (by first | (simp; done) | (simp; omega) | omega) _).setCell (by first | (simp; done) | (simp; omega) | omega) _).setCell (by first | (simp; done) | (simp; omega) | omega) _).setCell (by first | (simp; done) | (simp; omega) | omega) _)) (by omega), ⟨HL.out.1, HL.out.2, Own.wide (Own.lower ((((((((HO.out.setBelow (by first | (simp; done) | (simp; omega) | omega) _).setBelow (by first | (simp; done) | (simp; omega) | omega) _).setBelow (by first | (simp; done) | (simp; omega) | omega) _).setBelow (by first | (simp; done) | (simp; omega) | omega) _).setBelow (by first | (simp; done) | (simp; omega) | omega) _).setBelow (by first | (simp; done) | (simp; omega) | omega) _).setBelow (by first | (simp; done) | (simp; omega) | omega) _)) (by omega)) (by simp)⟩, (((((((HB.out.setCell (by first | (simp; done) | (simp; omega) | omega) _).setCell (by first | (simp; done) | (simp; omega) | omega) _).setCell (by first | (simp; done) | (simp; omega) | omega) _).setCell (by first | (simp; done) | (simp; omega) | omega) _).setCell (by first | (simp; done) | (simp; omega) | omega) _).setCell (by first | (simp; done) | (simp; omega) | omega) _).setCell (by first | (simp; done) | (simp; omega) | omega) _)⟩

set_option maxRecDepth 100000 in
set_option maxHeartbeats 4000000 in
theorem drawMayHold (c : Code) (w : World) (h : c.In w) :
    Calls Try.prog 25 #[.slice c.a c.len c.cap] w fun e w' => ∃ (t : T) (u vz : Value) (zs : List Zn), e = .returned (.tuple #[t.agg u, vz]) ∧ (t.bulk ≤ 240 ∧ t.Small) ∧ Mine w.heap.size w' t u ∧ (zs.length ≤ 3 ∧ (∀ z ∈ zs, z.lo.s.size ≤ maxLen ∧ z.hi.s.size ≤ maxLen) ∧ Own 97 6 w.heap.size w'.heap.size w' vz zs.length (zns zs)) ∧ Below w.heap.size w w' := by
  have R0 := blk_new w [.int .i64 0, .int .i64 0, .int .i64 0, .int .i64 0, .int .i64 0, .string ⟨#[]⟩, .slice none 0 0] 46
  have B0 := below_alloc w (.cells #[.int .i64 0, .int .i64 0, .int .i64 0, .int .i64 0, .int .i64 0, .string ⟨#[]⟩, .slice none 0 0] 46)
  have hs0 : (w.alloc (.cells #[.int .i64 0, .int .i64 0, .int .i64 0, .int .i64 0, .int .i64 0, .string ⟨#[]⟩, .slice none 0 0] 46)).heap.size = w.heap.size + 1 := World.size_alloc _ _
  generalize hw0 : w.alloc (.cells #[.int .i64 0, .int .i64 0, .int .i64 0, .int .i64 0, .int .i64 0, .string ⟨#[]⟩, .slice none 0 0] 46) = w0 at R0 B0 hs0
  have HW0 := Lib.hid hw0
  have HS0 := Lib.hid hs0
  clear hw0
  go_enter Try.func25, Try.ntmps25
  go_wp2_with fail
  rw [HW0.out]
  refine (l1New c _ ⟨h.arg.below B0, h.byt, h.small⟩).mono ?_
  rintro e w1 ⟨rfl, hc1, hb1⟩
  have R1 := R0.below hb1
  have B1 := below_then B0 hb1 B0.size
  generalize hgg : w0.heap.size = g at hc1 hb1 HS0 ⊢
  have hg : g = w.heap.size + 1 := HS0.out
  have hgl := hc1.lt
  have HG := Lib.hid hg
  clear hg hgg R0 B0 hs0 hb1 HW0 h
  go_wp2_with fail
  refine (l4Cols c g w1 hc1).mono ?_
  rintro e w2 ⟨vc, cols, rfl, hcm, hvc, G2⟩
  have hvw2 : ∀ b, vc.ownBlock = some b → b < w2.heap.size := fun b hb => by
    obtain ⟨b', e', _, hB⟩ := hvc
    have hbb : b' = b := by rw [e'] at hb; simpa [Value.ownBlock] using hb
    subst hbb
    exact lt_of_cell (hB 0 _ (ints_get (colsD_ok hcm).2.1)).1
  have R2 := R1.draw G2.grown (by have := HG.out; omega)
  have HCM := Lib.hid hcm
  have hgw : w1.heap.size ≤ w2.heap.size := G2.grown.size
  go_wp2_with fail
  refine (l11Any c g w1.heap.size vc cols w2 (by have := (colsD_ok HCM.out).2.2.1; omega) (colsD_ok HCM.out).2.1 hgl hvc hvw2 G2.cur).mono ?_
  rintro e w3 ⟨t, u, rfl, hbs, hr, G3⟩
  have G3' := G2.next G3.cur G3.grown
  have R3 := R2.draw G3.grown (by have := HG.out; omega)
  have V3 := hvc.draw G3.grown hgl
  have hg3 : w2.heap.size ≤ w3.heap.size := G3.grown.size
  obtain ⟨xa, xcp, hu⟩ := hr.sl
  generalize t.l.length = xln at hu
  subst hu
  generalize htt : t = t0 at hr hbs ⊢
  have HTT := Lib.hid htt
  have HP := Lib.hid hbs
  clear htt hbs
  obtain ⟨xk, xc, xo, ⟨xt, xn, xs⟩, xl⟩ := t
  have HAG : Hid (∀ u', t0.agg u' = .agg #[.int .i64 xk, .int .i64 xc, .int .i64 xo, .int .i64 xt, .int .i64 xn, .string xs, u']) := fun u' => by
    rw [← HTT.out]
    rfl
  rw [HAG.out]
  clear HTT G2 G3 R1 R2 hvc hc1 hcm
  go_wp2_with fail
  refine (l4Rows c g w1.heap.size vc cols 4 w3 (by have := (colsD_ok HCM.out).2.2.1; omega) (by omega) hgl V3 (fun b hb => by have := hvw2 b hb; omega) G3'.cur).mono ?_
  rintro e w4 ⟨u4, ps, rfl, hps, hO, hD, G4⟩
  have G4' := G3'.next G4.cur G4.grown
  have R4 := R3.draw G4.grown (by have := HG.out; omega)
  have hwg := HG.out
  have hr4 := Mine.draw hr G4.grown (by omega)
  have B4 := B1.grown G4'.grown B1.size (fun k hk => by simp at hk; omega)
  have hlen : ∀ p ∈ ps, p.1.l.length ≤ 3 := fun p hp => by rw [hD.len p hp]; exact (colsD_ok HCM.out).2.2.1
  have hsm : ∀ p ∈ ps, ∀ v ∈ p.1.l, v.s.size ≤ maxLen := fun p hp => ty_small (hD.ty p hp)
  have HZ := Lib.hid (sZones u4 ps w4 (by omega) (fun p hp => by have := hlen p hp; omega) (DrewRows.rd hD hO.rd))
  have HL : Hid ((zonesL (ps.map (·.1))).length ≤ 3 ∧ ∀ z ∈ zonesL (ps.map (·.1)), z.lo.s.size ≤ maxLen ∧ z.hi.s.size ≤ maxLen) := ⟨zonesK_le hlen, zones_small hsm⟩
  generalize zonesL (ps.map (·.1)) = zs at HZ HL
  have hsz : w.heap.size + 1 ≤ w2.heap.size := by omega
  have hsz4 : w.heap.size + 1 ≤ w4.heap.size := by have := G4.grown.size; omega
  clear R3 G3' G4 G4' hr V3 hlen hsm hD hO B1
  go_wp2_with fail
  refine HZ.out.mono ?_
  rintro e w5 ⟨vz, rfl, oz, b5⟩
  have R5 := R4.below b5
  have HR := Lib.hid (hr4.below b5)
  have HB := Lib.hid (below_then B4 b5 B4.size)
  have HO := Lib.hid oz
  obtain ⟨ob, oc, ho, _⟩ := oz
  subst ho
  obtain ⟨m0, n0⟩ := R5 0 _ rfl
  obtain ⟨m1, n1⟩ := R5 1 _ rfl
  obtain ⟨m2, n2⟩ := R5 2 _ rfl
  obtain ⟨m3, n3⟩ := R5 3 _ rfl
  obtain ⟨m4, n4⟩ := R5 4 _ rfl
  obtain ⟨m5, n5⟩ := R5 5 _ rfl
  obtain ⟨m6, n6⟩ := R5 6 _ rfl
  clear R4 R5 hr4 b5 B4 HZ
  go_wp2
  exact bodyPost_ret (v := .tuple #[.agg #[.int .i64 xk, .int .i64 xc, .int .i64 xo, .int .i64 xt, .int .i64 xn, .string xs, .slice xa xln xcp], .slice (some ⟨ob, 0, none⟩) zs.length oc]) (by simp [results, Try.results25, go_sem, *]) rfl ⟨t0, .slice xa xln xcp, .slice (some ⟨ob, 0, none⟩) zs.length oc, zs, by rw [HAG.out], HP.out, Mine.low ((((((((HR.out.setCell (by first | (simp; done) | (simp; omega) | omega) _).setCell (by first | (simp; done) | (simp; omega) | omega) _).setCell (by first | (simp; done) | (simp; omega) | omega) _).setCell (by first | (simp; done) | (simp; omega) | omega) _).setCell (by first | (simp; done) | (simp; omega) | omega) _).setCell (by first | (simp; done) | (simp; omega) | omega) _).setCell (by first | (simp; done) | (simp; omega) | omega) _)) (by omega), ⟨HL.out.1, HL.out.2, Own.wide (Own.lower ((((((((HO.out.setBelow (by first | (simp; done) | (simp; omega) | omega) _).setBelow (by first | (simp; done) | (simp; omega) | omega) _).setBelow (by first | (simp; done) | (simp; omega) | omega) _).setBelow (by first | (simp; done) | (simp; omega) | omega) _).setBelow (by first | (simp; done) | (simp; omega) | omega) _).setBelow (by first | (simp; done) | (simp; omega) | omega) _).setBelow (by first | (simp; done) | (simp; omega) | omega) _)) (by omega)) (by simp)⟩, (((((((HB.out.setCell (by first | (simp; done) | (simp; omega) | omega) _).setCell (by first | (simp; done) | (simp; omega) | omega) _).setCell (by first | (simp; done) | (simp; omega) | omega) _).setCell (by first | (simp; done) | (simp; omega) | omega) _).setCell (by first | (simp; done) | (simp; omega) | omega) _).setCell (by first | (simp; done) | (simp; omega) | omega) _).setCell (by first | (simp; done) | (simp; omega) | omega) _)⟩

end Go.Proofs.Ytafoldpmodipaaa
