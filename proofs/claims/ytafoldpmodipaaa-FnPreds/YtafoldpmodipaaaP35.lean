/- Texts of this claim, one behind the other: IWeigh. -/
import Derived.Test.YtafoldpmodipaaaP34
import Derived.Test.YtafoldpmodipaaaP25
import Derived.Test.YtafoldpmodipaaaP22

/- The contract of impl's weigh, over that of the body of its loop. -/
namespace Go.Proofs.Ytafoldpmodipaaa
open Go.RowKit Go.Shelf

attribute [local go_sem] Oper.semAt_some

theorem visits (t : T) (a : Option Addr) (n cap : Nat) (w : World) : Calls Try.prog 99 #[t.agg (.slice a n cap)] w fun e w' => e = .returned (.func (.func 122) #[] #[.pointer (some ⟨w.heap.size, 0, none⟩)]) ∧ w' = w.alloc (.cells #[.int .i64 t.kind, .int .i64 t.col, .int .i64 t.op, .int .i64 t.v.ty, .int .i64 t.v.n, .string t.v.s, .slice a n cap] 46) := by
  have hmf : ∀ (fn : Fn) (first cap : Array Value) (w : World), (Instr.makeFunc fn first cap).run Try.prog w = .ok (.func fn first cap) w := fun _ _ _ _ => rfl
  obtain ⟨k, c, o, ⟨vt, vn, vs⟩, l⟩ := t
  simp only [T.agg, T.kind, T.col, T.op, T.v]
  go_enter Try.func99, Try.ntmps99
  go_wp2
  go_ret
  exact ⟨rfl, rfl⟩

theorem Try.elemCh : ElemT Try.prog 131 103 (.agg #[.bool false, .bool false]) 2 2 := ⟨Try.underlying131, info_parts (by kernel_rfl), rfl, by decide⟩

/-- The body of weigh's loop. -/
noncomputable def weighBody : Code :=
  match Try.f63.body with
  | some (.seq _ (.seq _ (.seq (.seq _ (.block _ (.rangeFunc _ _ _ b))) _))) => b
  | _ => .skip

/-- What lies done: nothing yet, or a slice of the call's own, apart from the blocks Z. -/
def Done (lo : Nat) (Z : Nat → Prop) (W : World) (v : Value) (D : List Ch) : Prop :=
  (v = .slice none 0 0 ∧ D = []) ∨ ∃ gb cap, v = .slice (some ⟨gb, 0, none⟩) D.length cap ∧ Own 103 2 lo W.heap.size W v D.length (chcs D) ∧ ¬ Z gb
theorem Done.moves {B lo : Nat} {Z Z' : Nat → Prop} {W W' : World} {v : Value} {D : List Ch} (h : Done lo Z W v D) (hm : Moves B Z W Z' W') : Done lo Z' W' v D := by
  rcases h with h | ⟨gb, cap, rfl, ho, hz⟩
  · exact .inl h
  · have hlt : gb < W.heap.size := by
      obtain ⟨g, c, e, _, h2, _⟩ := ho
      cases e
      exact h2
    exact .inr ⟨gb, cap, rfl, ho.keep (hm.same gb hlt hz) hm.size, fun hz' => (hm.grow gb hz').elim hz (fun h => by omega)⟩
/-- Between two rounds of weigh. -/
def WeighInv (g : Weigh) (L : List Vis) (w : World) (lo : Nat) (fv : Value) (k : Nat) (Z : Nat → Prop) (W : World) : Prop :=
  ∃ D v, g.run (L.take k) [] = some D ∧ Blk W (w.heap.size + 4) [v] ∧ Done lo Z W v D ∧ Blk W (w.heap.size + 1) [.bool g.ofN.1, .bool g.ofN.2] ∧ Blk W (w.heap.size + 2) [fv] ∧ Blk W (w.heap.size + 3) [.bool false, .bool false] ∧ Below w.heap.size w W ∧ w.heap.size + 6 ≤ W.heap.size
theorem Blk.same {W W' : World} {b : Nat} {cs : List Value} (h : Blk W b cs) (hs : W'.heap[b]? = W.heap[b]?) : Blk W' b cs := fun i x hx => ⟨(World.cell?_of_block (w := W) hs).trans (h i x hx).1, (World.frozen?_of_block (w := W) hs).trans (h i x hx).2⟩
theorem WeighInv.moves {g : Weigh} {L : List Vis} {w : World} {lo : Nat} {fv : Value} (hlo : w.heap.size + 6 ≤ lo) : ∀ (k : Nat) (Z Z' : Nat → Prop) (A A' : World), WeighInv g L w lo fv k Z A → Moves lo Z A Z' A' → WeighInv g L w lo fv k Z' A' := by
  rintro k Z Z' A A' ⟨D, v, h1, h2, h3, h4, h5, h6, h7, h8⟩ hm
  have key : ∀ b, b < w.heap.size + 6 → A'.heap[b]? = A.heap[b]? := fun b hb => hm.same b (by omega) (fun hz => by have := (hm.own b hz).1; omega)
  exact ⟨D, v, h1, h2.same (key _ (by omega)), h3.moves hm, h4.same (key _ (by omega)), h5.same (key _ (by omega)), h6.same (key _ (by omega)), h7.trans ⟨hm.os, hm.tape, hm.output, hm.size, fun b hb => key b (by omega)⟩, Nat.le_trans h8 hm.size⟩

/-- The activation in a round. -/
def weighAct (t : T) (u ofN fv : Value) (N : Nat) (c d : Value) : Act :=
  { tmps := #[t.agg u, ofN, fv, .pointer (some ⟨N, 0, none⟩), .pointer (some ⟨N + 1, 0, none⟩), .pointer (some ⟨N + 1 + 1, 0, none⟩), .pointer (some ⟨N + 1 + 1 + 1, 0, none⟩), .pointer (some ⟨N + 1 + 1 + 1 + 1, 0, none⟩), c, d, undef, undef, undef, undef, undef, undef, undef, t.agg u, .func (.func 122) #[] #[.pointer (some ⟨N + 1 + 1 + 1 + 1 + 1, 0, none⟩)], c, d, undef, undef, undef, undef, undef, undef, undef, undef, undef, undef, undef, undef, undef, undef, undef, undef, undef, undef, undef, undef, undef, undef, undef, undef, undef, undef, undef, undef, undef, undef, undef, undef, undef, undef, undef, undef, undef, undef, undef, undef, undef, undef, undef, undef, undef, undef, undef, undef, undef, undef, undef, undef], defers := [] }

def WeighBody (g : Weigh) (P : T → Prop) (fc : Nat) (ca : Value) : Prop := ∀ (t : T) (u : Value) (L : List Vis) (w : World) (lo l n k : Nat) (R Z : Nat → Prop) (W : World) (x : T) (xu : Value) (d : Nat), 1 ≤ n → lo = w.heap.size + 6 → (∀ b, R b → b < lo ∧ b ≠ w.heap.size + 4) → (∃ a n cap, u = .slice a n cap) → (∃ E, g.run L [] = some E) → L.length ≤ 2097154 →
  (∀ (x : T) W, x.kind = 2 → P x → Below w.heap.size w W → Calls Try.prog fc #[.agg #[.int .i64 x.col, .int .i64 x.op, .int .i64 x.v.ty, .int .i64 x.v.n, .string x.v.s], ca] W fun e W' => e = .returned (chV (g.cmp x)) ∧ Below W.heap.size W W') →
  k < L.length → L.getD k (T.zero, .nilFunc, 0) = (x, xu, d) → P x → (∃ a cap, xu = .slice a x.l.length cap) → x.l.length ≤ 1048577 → d ≤ x.ops.length →
  WeighInv g L w lo (.func (.func fc) #[] #[ca]) k Z W → (∀ b, Z b → lo ≤ b ∧ b < W.heap.size) →
  weighBody.wpIn (Fence.wide.inRound l) n Try.prog (zPost R (WeighInv g L w lo (.func (.func fc) #[] #[ca])) k Z W) (weighAct t u (chV g.ofN) (.func (.func fc) #[] #[ca]) w.heap.size (condV x xu) (.int .i64 d)) W

set_option maxRecDepth 100000 in
set_option maxHeartbeats 4000000 in
theorem iWeigh (g : Weigh) (P : T → Prop) (fc : Nat) (ca : Value) (hbody : WeighBody g P fc ca) (t : T) (u : Value) (Q : Nat → Prop) (w : World) (hQ : ∀ b, Q b → Plain w b) (hr : RdT Q w t u) (hb : t.bulk ≤ 1048577)
    (hP : ∀ W, ∀ x ∈ t.tr W u, P x.1) (hcmp : ∀ (x : T) W, x.kind = 2 → P x → Below w.heap.size w W → Calls Try.prog fc #[.agg #[.int .i64 x.col, .int .i64 x.op, .int .i64 x.v.ty, .int .i64 x.v.n, .string x.v.s], ca] W fun e W' => e = .returned (chV (g.cmp x)) ∧ Below W.heap.size W W') :
    Calls Try.prog 63 #[t.agg u, chV g.ofN, .func (.func fc) #[] #[ca]] w fun e w' => e = .returned (chV (g.ch t)) ∧ Below w.heap.size w w' := by
  obtain ⟨a, cap, rfl, _⟩ := RdT_def.1 hr
  have HV := Lib.hid (fun W => visits t a t.l.length cap W)
  have HR := Lib.hid (fun W (hW : Below w.heap.size w W) => hr.below hW)
  have HSEQ := Lib.hid (fun bp W (hW : Below w.heap.size w W) hl (hp : Plain W bp) => visits_seq 8 (by omega) t (.slice a t.l.length cap) Q (fun b => Q b ∨ b = bp) bp W (fun b hq => ⟨(hQ b hq).below hW, .inl hq⟩) (fun b hb => hb.elim (fun hq => Nat.lt_of_lt_of_le (hQ b hq).lt hW.size) (fun e => by rw [e]; exact hp.lt)) hl ⟨hp, .inr rfl⟩ (hr.below hW) hb)
  have HQL := Lib.hid (fun b (hq : Q b) => (hQ b hq).lt)
  have HB := Lib.hid hb
  have HP := Lib.hid hP
  have HC := Lib.hid hcmp
  have HBODY := Lib.hid hbody
  have HRUN := Lib.hid (fun W => g.run_tr W t (.slice a t.l.length cap) [])
  have HLEN := Lib.hid (fun W => tr_len W t (.slice a t.l.length cap))
  clear hQ hr hb hP hcmp hbody
  generalize hch : g.ch t = R at HRUN ⊢
  have HOFN := Lib.hid (rfl : g.ofN = g.ofN)
  generalize hofn : g.ofN = ofn at HV HOFN ⊢
  have HOF := Lib.hid hofn
  clear hofn hch HOFN
  obtain ⟨oy, on⟩ := ofn
  obtain ⟨ry, rn⟩ := R
  generalize hu : Value.slice a t.l.length cap = u at HV HR HSEQ HP HRUN HLEN ⊢
  have hu2 : ∃ a n cap, u = .slice a n cap := ⟨a, _, cap, hu.symm⟩
  have HU := Lib.hid hu2
  have HAG : Hid (t.agg u = .agg #[.int .i64 t.kind, .int .i64 t.col, .int .i64 t.op, .int .i64 t.v.ty, .int .i64 t.v.n, .string t.v.s, u]) := rfl
  generalize t.l.length = n at hu
  subst hu
  have HT : ∃ t', t' = t := ⟨t, rfl⟩
  obtain ⟨t', ht'⟩ := HT
  rw [← ht'] at HR HSEQ HP HRUN HLEN HB
  have HTT := Lib.hid ht'
  clear ht' hu2 HAG
  obtain ⟨tk, tc, to, ⟨vt, vn, vs⟩, tl⟩ := t
  simp only [T.agg, T.kind, T.col, T.op, T.v] at HV ⊢
  refine (callsIn_wide (n := 9)).1 ?_
  refine callsIn_of_wp_marks Try.func63 rfl trivial ?_ rfl
  simp only [Try.ntmps63, List.size_toArray, List.length_cons, List.length_nil, Nat.reduceAdd, Nat.reduceSub, Array.replicate_succ, Array.replicate_zero, List.push_toArray, List.append_toArray, List.nil_append, List.cons_append]
  gi_wp2_with (refine ⟨trivial, ?_⟩; gi_at_call 99; refine (callsIn_wide.2 (HV.out _)).mono ?_; rintro e w' ⟨rfl, rfl⟩)
  have A1 := below_alloc w (.cells #[.int .i64 tk, .int .i64 tc, .int .i64 to, .int .i64 vt, .int .i64 vn, .string vs, .slice a n cap] 46)
  obtain ⟨W1, hW1⟩ : ∃ W1, w.alloc (.cells #[.int .i64 tk, .int .i64 tc, .int .i64 to, .int .i64 vt, .int .i64 vn, .string vs, .slice a n cap] 46) = W1 := ⟨_, rfl⟩
  have s1 : W1.heap.size = w.heap.size + 1 := by rw [← hW1]; simp
  rw [hW1] at A1 ⊢
  have A2 := below_alloc W1 (.cells #[.bool oy, .bool on] 103)
  have C2 := blk_new W1 [.bool oy, .bool on] 103
  obtain ⟨W2, hW2⟩ : ∃ W2, W1.alloc (.cells #[.bool oy, .bool on] 103) = W2 := ⟨_, rfl⟩
  have s2 : W2.heap.size = w.heap.size + 2 := by rw [← hW2]; simp [s1]
  rw [hW2] at A2 C2 ⊢
  have A3 := below_alloc W2 (.cells #[.func (.func fc) #[] #[ca]] 109)
  have C3 := blk_new W2 [.func (.func fc) #[] #[ca]] 109
  obtain ⟨W3, hW3⟩ : ∃ W3, W2.alloc (.cells #[.func (.func fc) #[] #[ca]] 109) = W3 := ⟨_, rfl⟩
  have s3 : W3.heap.size = w.heap.size + 3 := by rw [← hW3]; simp [s2]
  rw [hW3] at A3 C3 ⊢
  have A4 := below_alloc W3 (.cells #[.bool false, .bool false] 103)
  have C4 := blk_new W3 [.bool false, .bool false] 103
  obtain ⟨W4, hW4⟩ : ∃ W4, W3.alloc (.cells #[.bool false, .bool false] 103) = W4 := ⟨_, rfl⟩
  have s4 : W4.heap.size = w.heap.size + 4 := by rw [← hW4]; simp [s3]
  rw [hW4] at A4 C4 ⊢
  have A5 := below_alloc W4 (.cells #[.slice none 0 0] 131)
  have C5 := blk_new W4 [.slice none 0 0] 131
  obtain ⟨W5, hW5⟩ : ∃ W5, W4.alloc (.cells #[.slice none 0 0] 131) = W5 := ⟨_, rfl⟩
  have s5 : W5.heap.size = w.heap.size + 5 := by rw [← hW5]; simp [s4]
  rw [hW5] at A5 C5 ⊢
  have A6 := below_alloc W5 (.cells #[.int .i64 tk, .int .i64 tc, .int .i64 to, .int .i64 vt, .int .i64 vn, .string vs, .slice a n cap] 46)
  have C6 := blk_new W5 [.int .i64 tk, .int .i64 tc, .int .i64 to, .int .i64 vt, .int .i64 vn, .string vs, .slice a n cap] 46
  have P6 := plain_new W5 #[.int .i64 tk, .int .i64 tc, .int .i64 to, .int .i64 vt, .int .i64 vn, .string vs, .slice a n cap] 46
  obtain ⟨W6, hW6⟩ : ∃ W6, W5.alloc (.cells #[.int .i64 tk, .int .i64 tc, .int .i64 to, .int .i64 vt, .int .i64 vn, .string vs, .slice a n cap] 46) = W6 := ⟨_, rfl⟩
  have s6 : W6.heap.size = w.heap.size + 6 := by rw [← hW6]; simp [s5]
  rw [hW6] at A6 C6 P6 ⊢
  have B6 := A6
  have B5 := below_then A5 B6 A5.size
  have B4 := below_then A4 B5 A4.size
  have B3 := below_then A3 B4 A3.size
  have B2 := below_then A2 B3 A2.size
  have B1 := below_then A1 B2 A1.size
  replace C2 := C2.below B3
  replace C3 := C3.below B4
  replace C4 := C4.below B5
  replace C5 := C5.below B6
  rw [s1] at C2
  rw [s2] at C3
  rw [s3] at C4
  rw [s4] at C5
  rw [s5] at C6 P6
  clear A1 A2 A3 A4 A5 A6 B2 B3 B4 B5 B6 s1 s2 s3 s4 s5 hW1 hW2 hW3 hW4 hW5 hW6
  have hl6 : LiesAt W6 (w.heap.size + 5) 0 t' (.slice a n cap) := fun i x hx => by
    rw [Nat.zero_add]
    rw [HTT.out] at hx
    exact (C6 i x hx).1
  have hseq := HSEQ.out _ _ B1 hl6 P6
  refine wpIn_rangeFunc_Z rfl (by omega) (gf := 122) (lb := #[.pointer (some ⟨w.heap.size + 1 + 1 + 1 + 1 + 1, 0, none⟩)]) rfl trivial (enters_of Try.func122 (by kernel_rfl) rfl) hseq (Agree.refl _ _) (fun b hb => hb.elim (fun hq => by have := HQL.out b hq; omega) (fun e => by omega)) (fun _ => rfl)
    (WeighInv g (t'.tr W6 (.slice a n cap)) w W6.heap.size (.func (.func fc) #[] #[ca])) (WeighInv.moves (by omega)) ?start
    (fun k => weighAct t' (.slice a n cap) (chV (oy, on)) (.func (.func fc) #[] #[ca]) w.heap.size (condV ((t'.tr W6 (.slice a n cap)).getD k (T.zero, .nilFunc, 0)).1 ((t'.tr W6 (.slice a n cap)).getD k (T.zero, .nilFunc, 0)).2.1) (.int .i64 ((t'.tr W6 (.slice a n cap)).getD k (T.zero, .nilFunc, 0)).2.2)) ?assign ?body ?done
  case start =>
    refine ⟨[], .slice none 0 0, rfl, C5, .inl ⟨rfl, rfl⟩, ?_, C3, C4, B1, by omega⟩
    rw [HOF.out]
    exact C2
  case assign =>
    intro l k W K hK
    have hT := HTT.out
    subst hT
    unfold visEnc
    unfold weighAct at hK
    simp only [T.agg, T.kind, T.col, T.op, T.v] at hK
    gi_wp2
    exact hK
  case body =>
    intro l k Z W hi hz hk
    have hxm : (t'.tr W6 (.slice a n cap)).getD k (T.zero, .nilFunc, 0) ∈ t'.tr W6 (.slice a n cap) := by
      have e : (t'.tr W6 (.slice a n cap)).getD k (T.zero, .nilFunc, 0) = (t'.tr W6 (.slice a n cap))[k] := by simp [hk]
      rw [e]
      exact List.getElem_mem hk
    have hrd := tr_rd t' _ (HR.out _ B1) _ hxm
    have hall := tr_all (P := fun x => x.bulk ≤ t'.bulk) (fun y hy x hx => Nat.le_trans (Nat.le_of_lt (T.bulk_child hx)) hy) W6 t' (.slice a n cap) (Nat.le_refl _) _ hxm
    have hPx := HP.out W6 _ hxm
    have hlen := HLEN.out W6
    have hrun := HRUN.out W6
    have hbk := HB.out
    have hofn := HOF.out
    rw [← hofn]
    clear HSEQ HV HRUN HLEN HOF HP HR HB hseq hl6 C2 C3 C4 C5 C6 P6
    generalize hx : (t'.tr W6 (.slice a n cap)).getD k (T.zero, .nilFunc, 0) = x at hrd hall hPx ⊢
    obtain ⟨x, xu, d⟩ := x
    simp only at hrd hall hPx ⊢
    refine HBODY.out t' (.slice a n cap) (t'.tr W6 (.slice a n cap)) w W6.heap.size l _ k _ Z W x xu d (by decide) (by omega) (fun b hb => hb.elim (fun hq => by have := HQL.out b hq; omega) (fun e => by omega)) HU.out ⟨_, hrun⟩ (by omega) HC.out hk hx hPx ?_ ?_ hall.2 hi hz
    · obtain ⟨a', cap', h, _⟩ := RdT_def.1 hrd
      exact ⟨a', cap', h⟩
    · have h1 := T.bulks_length x.l
      have h2 : x.bulk = x.v.s.size + 1 + T.bulks x.l := by
        rcases x with ⟨k, c, o, v, l⟩
        rw [T.bulk]
        rfl
      omega
  case done =>
    rintro D Z W ⟨E, v, h1, h2, h3, h4, h5, h6, h7, h8⟩ hz zD hD
    rw [List.take_length, HRUN.out W6] at h1
    simp only [List.nil_append, Option.some.injEq] at h1
    subst h1
    have hDl : D < W.heap.size := (hz D zD).2
    have hD6 := (hz D zD).1
    rcases h3 with ⟨_, h3⟩ | ⟨gb, gcap, rfl, ho, hzg⟩
    · cases h3
    have v0 := (h2 0 _ rfl).1
    have r0 := h6 0 _ rfl
    have r1 := h6 1 _ rfl
    obtain ⟨r0, f0⟩ := r0
    obtain ⟨r1, f1⟩ := r1
    have HRW := Lib.hid (fun x y : Bool => (h6.set 0 (.bool x)).set 1 (.bool y))
    have e0 := (ho.cells' (j := 0) (x := .bool ry) rfl).1
    have e1 := (ho.cells' (j := 1) (x := .bool rn) rfl).1
    have HFB : Hid (Below w.heap.size w (((W.setCell ⟨w.heap.size + 3, 0, none⟩ (.bool ry)).setCell ⟨w.heap.size + 3, 1, none⟩ (.bool rn)).putObj D (.deferred none))) :=
      ((h7.setCell (p := ⟨w.heap.size + 3, 0, none⟩) (by simp) _).setCell (p := ⟨w.heap.size + 3, 1, none⟩) (by simp) _).trans ⟨rfl, rfl, rfl, by simp, fun b hb => World.putObj_heap_other (by omega)⟩
    have HD : Hid (((W.setCell ⟨w.heap.size + 3, 0, none⟩ (.bool ry)).setCell ⟨w.heap.size + 3, 1, none⟩ (.bool rn)).heap[D]? = some (.deferred (some []))) :=
      ((Below.heap_setCell _ _ _ _ (by simp; omega)).trans (Below.heap_setCell _ _ _ _ (by simp; omega))).trans hD
    clear HSEQ HV HRUN HLEN HOF HP HR HB hseq hl6 C2 C3 C4 C5 C6 P6 h2 h4 h5 h6 h7 h8 ho HBODY HC hD hzg
    gi_wp2
    refine ⟨by simp, .inl ⟨_, _, rfl, run_takeDeferred HD.out, ?_⟩⟩
    have q0 := cell_kept ((HRW.out ry rn) 0 _ rfl).1 (grownBy_putObj' ((W.setCell ⟨w.heap.size + 3, 0, none⟩ (.bool ry)).setCell ⟨w.heap.size + 3, 1, none⟩ (.bool rn)) D (.deferred none)) (fun r e => by cases e; exact ⟨_, HD.out, rfl⟩)
    have q1 := cell_kept ((HRW.out ry rn) 1 _ rfl).1 (grownBy_putObj' ((W.setCell ⟨w.heap.size + 3, 0, none⟩ (.bool ry)).setCell ⟨w.heap.size + 3, 1, none⟩ (.bool rn)) D (.deferred none)) (fun r e => by cases e; exact ⟨_, HD.out, rfl⟩)
    refine ⟨.agg #[.bool ry, .bool rn], ?_, rfl, HFB.out⟩
    simp [results, Try.results63, go_sem, q0, q1]

end Go.Proofs.Ytafoldpmodipaaa
