/- Texts of this claim, one behind the other: IWEnd, IWB0, IWBno, IWB1, IWB2, IWB3. -/
import Derived.Test.YtafoldpmodipaaaP35
import Derived.Test.YtafoldpmodipaaaP12

/- The end of a round of weigh: the chances that are done, with a new one. -/
namespace Go.Proofs.Ytafoldpmodipaaa
open Go.RowKit Go.Shelf

theorem chcs_take (l : List Ch) (c : Nat) : chcs (l.take c) = (chcs l).take (c * 2) := by
  induction l generalizing c with
  | nil => simp [chcs]
  | cons v l ih =>
    cases c with
    | zero => simp [chcs]
    | succ c =>
      have := ih c
      simp only [chcs] at this ⊢
      rw [List.take_succ_cons, List.flatMap_cons, List.flatMap_cons, this, show (c + 1) * 2 = 2 + c * 2 by omega, List.take_append, List.take_of_length_le (show (ccs v).length ≤ 2 + c * 2 by simp [ccs])]
      simp [ccs]
theorem chcs_drop (l : List Ch) (c : Nat) : chcs (l.drop c) = (chcs l).drop (c * 2) := by
  induction l generalizing c with
  | nil => simp [chcs]
  | cons v l ih =>
    cases c with
    | zero => simp [chcs]
    | succ c =>
      have := ih c
      simp only [chcs] at this ⊢
      rw [List.drop_succ_cons, List.flatMap_cons, this, show (c + 1) * 2 = 2 + c * 2 by omega, List.drop_append]
      simp [ccs]

/-- done[:s], and what is appended to it. -/
def headV (v : Value) (s : Nat) : Value := match v with | .slice (some a) _ c => .slice (some a) s c | _ => .slice none 0 0

theorem weigh_end0 {g : Weigh} {L : List Vis} {w : World} {lo k s g' cap' : Nat} {fv : Value} {R Z : Nat → Prop} {W W7 W8 : World} {D : List Ch} {v : Value} {c : Ch} {row : Option Nat} (a : Act) (hlo : w.heap.size + 6 ≤ lo) (hR : ∀ b, R b → b < lo ∧ b ≠ w.heap.size + 4) (hrun : g.run (L.take (k + 1)) [] = some (D.take s ++ [c])) (hs : s ≤ D.length)
    (h2 : Blk W (w.heap.size + 4) [v]) (h4 : Blk W (w.heap.size + 1) [.bool g.ofN.1, .bool g.ofN.2]) (h5 : Blk W (w.heap.size + 2) [fv]) (h6 : Blk W (w.heap.size + 3) [.bool false, .bool false]) (h7 : Below w.heap.size w W) (h8 : w.heap.size + 6 ≤ W.heap.size) (hloW : lo ≤ W.heap.size) (hz : ∀ b, Z b → lo ≤ b ∧ b < W.heap.size) (hb7 : Below W.heap.size W W7)
    (ho : Own 103 2 lo W8.heap.size W8 (.slice (some ⟨g', 0, none⟩) (s + 1) cap') (s + 1) (chcs (D.take s ++ [c]))) (hg : W7.grownBy W8 row) (hrow : ∀ b, row = some b → lo ≤ b ∧ ¬ Z b) (hgz : ¬ Z g') :
    W8.cell? ⟨w.heap.size + 4, 0, none⟩ = some v ∧ W8.frozen? ⟨w.heap.size + 4, 0, none⟩ = false ∧ zPost R (WeighInv g L w lo fv) k Z W .normal a (W8.setCell ⟨w.heap.size + 4, 0, none⟩ (.slice (some ⟨g', 0, none⟩) (s + 1) cap')) := by
  have hgl : lo ≤ g' := by
    obtain ⟨x, y, e, h1, _⟩ := ho
    cases e
    exact h1
  have old : ∀ b, b < W.heap.size → row ≠ some b → W8.heap[b]? = W.heap[b]? := fun b hb hne => (hg.block b (by have := hb7.size; omega) (fun e => hne e.symm)).trans (hb7.block b hb)
  have low : ∀ b, b < lo → W8.heap[b]? = W.heap[b]? := fun b hb => old b (by omega) (fun e => by have := (hrow b e).1; omega)
  have B2 := h2.same (low _ (by omega))
  have hs8 : W.heap.size ≤ W8.heap.size := Nat.le_trans hb7.size hg.size
  have hs9 : (W8.setCell ⟨w.heap.size + 4, 0, none⟩ (.slice (some ⟨g', 0, none⟩) (s + 1) cap')).heap.size = W8.heap.size := by simp [World.setCell]
  have nxt : ∀ b, b ≠ w.heap.size + 4 → (W8.setCell ⟨w.heap.size + 4, 0, none⟩ (.slice (some ⟨g', 0, none⟩) (s + 1) cap')).heap[b]? = W8.heap[b]? := fun b hb => Below.heap_setCell _ _ _ _ hb
  have hlen : (D.take s ++ [c]).length = s + 1 := by simp; omega
  refine ⟨(B2 0 _ rfl).1, (B2 0 _ rfl).2, ⟨⟨by rw [hs9]; exact hs8, fun b hb => (nxt b (hR b hb).2).trans (low b (hR b hb).1)⟩, fun b hb => ?_⟩, D.take s ++ [c], _, hrun, B2.set 0 _, .inr ⟨g', cap', by rw [hlen], ?_, hgz⟩, ?_, ?_, ?_, ?_, by rw [hs9]; omega⟩
  · have := hz b hb
    exact (nxt b (by omega)).trans (old b this.2 (fun e => (hrow b e).2 hb))
  · rw [hlen]
    exact ho.keep (nxt g' (by omega)) (by rw [hs9]; exact Nat.le_refl _)
  · exact h4.same ((nxt _ (by omega)).trans (low _ (by omega)))
  · exact h5.same ((nxt _ (by omega)).trans (low _ (by omega)))
  · exact h6.same ((nxt _ (by omega)).trans (low _ (by omega)))
  · exact h7.trans ⟨hg.os.trans hb7.os, hg.tape.trans hb7.tape, hg.output.trans hb7.output, by rw [hs9]; exact hs8, fun b hb => (nxt b (by omega)).trans (low b (by omega))⟩

set_option maxHeartbeats 1000000 in
theorem weigh_end {g : Weigh} {L : List Vis} {w : World} {lo k s : Nat} {fv : Value} {R Z : Nat → Prop} {W Wc : World} {D : List Ch} {v : Value} {c : Ch} (a : Act) (hlo : w.heap.size + 6 ≤ lo) (hR : ∀ b, R b → b < lo ∧ b ≠ w.heap.size + 4) (hrun : g.run (L.take (k + 1)) [] = some (D.take s ++ [c])) (hs : s ≤ D.length) (hD : D.length ≤ 2097154)
    (h2 : Blk W (w.heap.size + 4) [v]) (h3 : Done lo Z W v D) (h4 : Blk W (w.heap.size + 1) [.bool g.ofN.1, .bool g.ofN.2]) (h5 : Blk W (w.heap.size + 2) [fv]) (h6 : Blk W (w.heap.size + 3) [.bool false, .bool false]) (h7 : Below w.heap.size w W) (h8 : w.heap.size + 6 ≤ W.heap.size) (hloW : lo ≤ W.heap.size) (hz : ∀ b, Z b → lo ≤ b ∧ b < W.heap.size) (hc : Below W.heap.size W Wc) :
    ∃ g' cap' W8, (∀ ty, (Builtin.append_ #[131, 131] ty #[headV v s, .slice (some ⟨Wc.heap.size, 0, none⟩) 1 1]).run Try.prog (Wc.alloc (.cells #[.bool c.1, .bool c.2] 103)) = .ok (.slice (some ⟨g', 0, none⟩) (s + 1) cap') W8) ∧
      W8.cell? ⟨w.heap.size + 4, 0, none⟩ = some v ∧ W8.frozen? ⟨w.heap.size + 4, 0, none⟩ = false ∧ zPost R (WeighInv g L w lo fv) k Z W .normal a (W8.setCell ⟨w.heap.size + 4, 0, none⟩ (.slice (some ⟨g', 0, none⟩) (s + 1) cap')) := by
  obtain ⟨W7, hW7⟩ : ∃ W7, Wc.alloc (.cells #[.bool c.1, .bool c.2] 103) = W7 := ⟨_, rfl⟩
  have b7 : Below Wc.heap.size Wc W7 := by rw [← hW7]; exact below_alloc _ _
  have hb7 : Below W.heap.size W W7 := hc.trans (b7.mono hc.size)
  have hs7 : W7.heap.size = Wc.heap.size + 1 := by rw [← hW7]; simp
  have x7 : ∀ j y, (ccs c)[j]? = some y → W7.cell? ((⟨Wc.heap.size, 0, none⟩ : Addr).add j) = some y := fun j y hy => by
    rw [← hW7, addr_add, Nat.zero_add]
    exact (blk_new Wc (ccs c) _ j y hy).1
  have one : ∀ x ∈ ccs c, x.oneCell' = true := fun x hx => by
    simp only [ccs, List.mem_cons, List.not_mem_nil, or_false] at hx
    rcases hx with rfl | rfl <;> rfl
  have hcc : chcs (D.take s ++ [c]) = chcs (D.take s) ++ ccs c := by simp [chcs]
  rw [hW7]
  rcases h3 with ⟨rfl, rfl⟩ | ⟨gb, cap, rfl, ho, hzg⟩
  · obtain rfl : s = 0 := by simpa using hs
    obtain ⟨i, hi', hz', hs', hb'⟩ := Try.elemCh.info
    obtain ⟨v', W8, hr, r2, r3, r4⟩ := run_append_own (P := Try.prog) W7 Wc.heap.size 131 0 103 i _ 2 2 Try.elemCh.ht hi' hz' hs' hb' Try.elemCh.hzs Try.elemCh.hsz (.slice none 0 0) 0 [] (World.ownsRow_nil _ _ _ _) ⟨Wc.heap.size, 0, none⟩ 1 1 (ccs c) rfl x7 one (by decide) (by decide) (by omega)
    have hv' : ∃ g' cap', v' = .slice (some ⟨g', 0, none⟩) 1 cap' ∧ Wc.heap.size ≤ g' ∧ g' < W8.heap.size := by
      rcases r2.2 with ⟨h, _⟩ | ⟨g', cap', cur, h, h1, _⟩
      · exact absurd (r4.1 h).2 (by decide)
      · exact ⟨g', cap', h, h1, (r2.lt g' (by rw [h]; rfl)).2⟩
    obtain ⟨g', cap', rfl, h1, hl8⟩ := hv'
    have hcs := hc.size
    have ho8 : Own 103 2 lo W8.heap.size W8 (.slice (some ⟨g', 0, none⟩) (0 + 1) cap') (0 + 1) (chcs (([] : List Ch).take 0 ++ [c])) := by
      have : Own 103 2 Wc.heap.size W8.heap.size W8 (.slice (some ⟨g', 0, none⟩) 1 cap') 1 (ccs c) := ⟨g', cap', rfl, h1, hl8, by simpa using r2⟩
      rw [hcc]
      simpa [chcs] using this.lower (show lo ≤ Wc.heap.size by omega)
    exact ⟨g', cap', W8, fun ty => hr, weigh_end0 a hlo hR hrun hs h2 h4 h5 h6 h7 h8 hloW hz hb7 ho8 r3 (fun b e => by simp [Value.ownBlock] at e) (fun h => by have := hz g' h; omega)⟩
  · have o1 := ho.shorter hs
    rw [← chcs_take] at o1
    have hgb : lo ≤ gb ∧ gb < W.heap.size := by
      obtain ⟨x, y, e, h1, h2, _⟩ := ho
      cases e
      exact ⟨h1, h2⟩
    have o7 := o1.keep (w' := W7) (hi' := W7.heap.size) (hb7.block gb hgb.2) hb7.size
    obtain ⟨v', W8, hr, o8, hx⟩ := append_block (P := Try.prog) W7 131 0 103 _ 2 2 Try.elemCh _ _ _ _ _ o7 ⟨Wc.heap.size, 0, none⟩ 1 1 (ccs c) rfl x7 one (by unfold maxLen; omega) (by omega)
    obtain ⟨g', cap', hv', h1, hl8, hrow8⟩ := o8
    subst hv'
    rw [← hcc] at hrow8
    have hgz : ¬ Z g' := by
      rcases hx.blk with e | ⟨x, e, hge⟩
      · rw [show g' = gb by simpa [Value.ownBlock] using e]
        exact hzg
      · have e2 : g' = x := by simpa [Value.ownBlock] using e
        have := hb7.size
        exact fun h => by have := hz g' h; omega
    exact ⟨g', cap', W8, fun ty => hr, weigh_end0 a hlo hR hrun hs h2 h4 h5 h6 h7 h8 hloW hz hb7 ⟨g', cap', rfl, h1, hl8, hrow8⟩ hx.grown (fun b e => by rw [show b = gb by simpa [Value.ownBlock] using e.symm]; exact ⟨hgb.1, hzg⟩) hgz⟩

end Go.Proofs.Ytafoldpmodipaaa

/- The body of weigh's loop, at a predicate whose operands are not done yet. -/
namespace Go.Proofs.Ytafoldpmodipaaa
open Go.RowKit Go.Shelf

attribute [local go_sem] Oper.semAt_some

theorem noOut_block {K : Act → World → Prop} {Q : Exit → Act → World → Prop} {id : Nat} {a : Act} {w : World} (h : K a w) : NoOut (Exit.inBlock id (Exit.then K Q)) .normal a w := h
theorem own_lt {e : TypeId} {size lo hi : Nat} {w : World} {g n cap : Nat} {xs : List Value} (h : Own e size lo hi w (.slice (some ⟨g, 0, none⟩) n cap) n xs) : g < hi := by
  obtain ⟨x, y, e, _, h2, _⟩ := h
  cases e
  exact h2
/-- done[s:] reads as what is done from there on. -/
theorem drop_rd {lo hi : Nat} {X : World} {gb cap c s d o n : Nat} {D : List Ch} (h : Own 103 2 lo hi X (.slice (some ⟨gb, 0, none⟩) n cap) n (chcs D)) (hs : D.length = s + d ∧ n = s + d ∧ n ≤ maxLen) (ho : o = s * 2 ∨ d = 0) : Rd 2 X (.slice (some ⟨gb, o, none⟩) d c) d (chcs (D.drop s)) := by
  obtain ⟨h1, h2, h3⟩ := hs
  refine ⟨_, c, rfl, by omega, by rw [chcs_len]; simp; omega, ?_⟩
  rcases ho with rfl | hd
  · obtain ⟨b, off, cp, e, _, _, _, hc⟩ := h.at
    cases e
    refine .inr ⟨gb, s * 2, rfl, fun j u hu => ?_⟩
    rw [chcs_drop, List.getElem?_drop] at hu
    have := hc _ u hu
    rwa [Nat.zero_add] at this
  · exact .inl hd

/-- What a body's walk begins with. -/
structure WB (g : Weigh) (P : T → Prop) (fc : Nat) (ca : Value) (t : T) (u : Value) (L : List Vis) (w : World) (lo k : Nat) (R Z : Nat → Prop) (W : World) (x : T) (xu : Value) (d : Nat) (D : List Ch) (v : Value) (fo : Nat) (recv : Value) (la : Option Addr) (lcap : Nat) : Prop where
  hlo : lo = w.heap.size + 6
  hR : ∀ b, R b → b < lo ∧ b ≠ w.heap.size + 4
  hu : ∃ a n cap, u = .slice a n cap
  hcmp : ∀ (x : T) W, x.kind = 2 → P x → Below w.heap.size w W → Calls Try.prog fc #[.agg #[.int .i64 x.col, .int .i64 x.op, .int .i64 x.v.ty, .int .i64 x.v.n, .string x.v.s], ca] W fun e W' => e = .returned (chV (g.cmp x)) ∧ Below W.heap.size W W'
  hPx : P x
  hz : ∀ b, Z b → lo ≤ b ∧ b < W.heap.size
  h2 : Blk W (w.heap.size + 4) [v]
  h3 : Done lo Z W v D
  h4 : Blk W (w.heap.size + 1) [.bool g.ofN.1, .bool g.ofN.2]
  h5 : Blk W (w.heap.size + 2) [.func (.func fc) #[] #[ca]]
  h6 : Blk W (w.heap.size + 3) [.bool false, .bool false]
  h7 : Below w.heap.size w W
  h8 : w.heap.size + 6 ≤ W.heap.size
  hD : D.length ≤ 2097154
  hdl : d ≤ x.ops.length
  hol : x.ops.length ≤ 1048577
  hxu : ∃ a n cap, xu = .slice a n cap
  hcm : ∀ W, (callMethod (condV x xu) "loop.example/g00496/impl.operands" #[]).run Try.prog W = .ok (.enter fo #[recv]) W
  hco : ∀ W, Calls Try.prog fo #[recv] W fun e W' => e = .returned (.slice la x.ops.length lcap) ∧ Below W.heap.size W W'

set_option maxRecDepth 100000 in
set_option maxHeartbeats 4000000 in
theorem wb_more {g : Weigh} {P : T → Prop} {fc : Nat} {ca : Value} {t : T} {u : Value} {L : List Vis} {w : World} {lo l n k : Nat} {R Z : Nat → Prop} {W : World} {x : T} {xu : Value} {d : Nat} {D : List Ch} {v : Value} {fo : Nat} {recv : Value} {la : Option Addr} {lcap : Nat}
    (b : WB g P fc ca t u L w lo k R Z W x xu d D v fo recv la lcap) (hd : d < x.ops.length) (hrun : g.run (L.take (k + 1)) [] = some D) :
    weighBody.wpIn (Fence.wide.inRound l) n Try.prog (zPost R (WeighInv g L w lo (.func (.func fc) #[] #[ca])) k Z W) (weighAct t u (chV g.ofN) (.func (.func fc) #[] #[ca]) w.heap.size (condV x xu) (.int .i64 d)) W := by
  have HB := Lib.hid b
  have hdi : (d : Int) < (x.ops.length : Int) := by omega
  have hol := b.hol
  obtain ⟨ua, un, ucap, rfl⟩ := b.hu
  have HCM := Lib.hid b.hcm
  have HCO := Lib.hid b.hco
  have HZ : Hid (∀ W', Below W.heap.size W W' → zPost R (WeighInv g L w lo (.func (.func fc) #[] #[ca])) k Z W .normal { tmps := #[], defers := [] } W') := fun W' h => by
    have hin : ∀ b, Z b → lo ≤ b ∧ b < W.heap.size := b.hz
    exact ⟨⟨.of_below h (fun b' hb => by have := (HB.out.hR b' hb).1; have := HB.out.h8; have := HB.out.hlo; omega), fun b' hb => h.block b' (hin b' hb).2⟩, WeighInv.moves (Nat.le_of_eq HB.out.hlo.symm) (k + 1) Z Z W W' ⟨D, v, hrun, b.h2, b.h3, b.h4, b.h5, b.h6, b.h7, b.h8⟩ (moves_refl h hin)⟩
  generalize hcv : condV x xu = cv at HCM
  clear b hrun hcv hd
  unfold weighBody weighAct
  simp only [Try.f63, T.agg]
  gi_wp2_with (refine wpListIn_invoke (fun _ => trivial) rfl rfl _ _ rfl cv rfl fo recv (HCM.out _) _ (CallsIn.inRound l (callsIn_wide.2 (HCO.out _))) ?_; rintro e w4 ⟨rfl, b4⟩; refine ⟨_, rfl, ?_⟩)
  exact HZ.out _ b4

/-- What the rest of a round needs of the worlds on its way. -/
structure WK (g : Weigh) (w : World) (fv v : Value) (X : World) : Prop where
  c4 : X.cell? ⟨w.heap.size + 4, 0, none⟩ = some v
  c2 : X.cell? ⟨w.heap.size + 2, 0, none⟩ = some fv
  c10 : X.cell? ⟨w.heap.size + 1, 0, none⟩ = some (.bool g.ofN.1)
  c11 : X.cell? ⟨w.heap.size + 1, 1, none⟩ = some (.bool g.ofN.2)
theorem WB.wk {g : Weigh} {P : T → Prop} {fc : Nat} {ca : Value} {t : T} {u : Value} {L : List Vis} {w : World} {lo k : Nat} {R Z : Nat → Prop} {W : World} {x : T} {xu : Value} {d : Nat} {D : List Ch} {v : Value} {fo : Nat} {recv : Value} {la : Option Addr} {lcap : Nat}
    (b : WB g P fc ca t u L w lo k R Z W x xu d D v fo recv la lcap) {X : World} (h : Below W.heap.size W X) : WK g w (.func (.func fc) #[] #[ca]) v X :=
  ⟨(b.h2.below h 0 _ rfl).1, (b.h5.below h 0 _ rfl).1, (b.h4.below h 0 _ rfl).1, (b.h4.below h 1 _ rfl).1⟩
theorem WB.fin {g : Weigh} {P : T → Prop} {fc : Nat} {ca : Value} {t : T} {u : Value} {L : List Vis} {w : World} {lo k : Nat} {R Z : Nat → Prop} {W : World} {x : T} {xu : Value} {d : Nat} {D : List Ch} {v : Value} {fo : Nat} {recv : Value} {la : Option Addr} {lcap : Nat}
    (b : WB g P fc ca t u L w lo k R Z W x xu d D v fo recv la lcap) {s : Nat} {c : Ch} (hs : s ≤ D.length) (hrun : g.run (L.take (k + 1)) [] = some (D.take s ++ [c])) {Wc : World} (hc : Below W.heap.size W Wc) :
    ∃ g' cap' W8, (∀ ty, (Builtin.append_ #[131, 131] ty #[headV v s, .slice (some ⟨Wc.heap.size, 0, none⟩) 1 1]).run Try.prog (Wc.alloc (.cells #[.bool c.1, .bool c.2] 103)) = .ok (.slice (some ⟨g', 0, none⟩) (s + 1) cap') W8) ∧
      W8.cell? ⟨w.heap.size + 4, 0, none⟩ = some v ∧ W8.frozen? ⟨w.heap.size + 4, 0, none⟩ = false ∧ Hid (zPost R (WeighInv g L w lo (.func (.func fc) #[] #[ca])) k Z W .normal { tmps := #[], defers := [] } (W8.setCell ⟨w.heap.size + 4, 0, none⟩ (.slice (some ⟨g', 0, none⟩) (s + 1) cap'))) :=
  weigh_end _ (Nat.le_of_eq b.hlo.symm) b.hR hrun hs b.hD b.h2 b.h3 b.h4 b.h5 b.h6 b.h7 b.h8 (by have := b.hlo; have := b.h8; omega) b.hz hc

end Go.Proofs.Ytafoldpmodipaaa

/- The body of weigh's loop at a predicate whose operands are done: of no kind (written by mk_IWB.py). -/
namespace Go.Proofs.Ytafoldpmodipaaa
open Go.RowKit Go.Shelf

attribute [local go_sem] Oper.semAt_some

set_option maxRecDepth 100000 in
set_option maxHeartbeats 8000000 in
theorem wb_no_nil {g : Weigh} {P : T → Prop} {fc : Nat} {ca : Value} {t : T} {u : Value} {L : List Vis} {w : World} {lo l n k : Nat} {R Z : Nat → Prop} {W : World} {x : T} {xu : Value} {fo : Nat} {recv : Value} {la : Option Addr} {lcap : Nat}
    (hn : 1 ≤ n) (_ : ∀ args w, (callFunc fc args).run Try.prog w = .ok (.enter fc args) w) (b : WB g P fc ca t u L w lo k R Z W x xu 0 [] (.slice none 0 0) fo recv la lcap) (h1 : ¬ x.kind = 1) (h2 : ¬ x.kind = 2) (h3 : ¬ x.kind = 3) (h4 : ¬ x.kind = 4) (h5 : ¬ x.kind = 5) (hd : 0 = x.ops.length) (hrun : g.run (L.take (k + 1)) [] = some ([].take 0 ++ [g.comb x ([].drop 0)])) :
    weighBody.wpIn (Fence.wide.inRound l) n Try.prog (zPost R (WeighInv g L w lo (.func (.func fc) #[] #[ca])) k Z W) (weighAct t u (chV g.ofN) (.func (.func fc) #[] #[ca]) w.heap.size (condV x xu) (.int .i64 (0 : Nat))) W := by
  rw [g.comb_no _ h1 h2 h3 h4 h5] at hrun
  have HF := Lib.hid (fun (Wc : World) (hc : Below W.heap.size W Wc) => b.fin (s := 0) (c := (false, true)) (Nat.le_refl _) (by simpa using hrun) hc)
  simp only [headV] at HF
  have HK := Lib.hid (fun (X : World) (h : Below W.heap.size W X) => b.wk h)
  have HCO := Lib.hid b.hco
  have HCM := Lib.hid b.hcm
  rw [condV_no xu h1 h2 h3 h4 h5] at HCM ⊢
  have a1 : ∀ W : World, (Instr.typeAssert (.iface 166 (.agg #[])) 136 139 true).run Try.prog W = .ok (.tuple #[.agg #[], .bool false]) W := fun W => by kernel_rfl
  have a2 : ∀ W : World, (Instr.typeAssert (.iface 166 (.agg #[])) 136 107 true).run Try.prog W = .ok (.tuple #[.agg #[.int .i64 0, .int .i64 0, .int .i64 0, .int .i64 0, .string ⟨#[]⟩], .bool false]) W := fun W => by kernel_rfl
  have a3 : ∀ W : World, (Instr.typeAssert (.iface 166 (.agg #[])) 136 140 true).run Try.prog W = .ok (.tuple #[.slice none 0 0, .bool false]) W := fun W => by kernel_rfl
  have a4 : ∀ W : World, (Instr.typeAssert (.iface 166 (.agg #[])) 136 142 true).run Try.prog W = .ok (.tuple #[.slice none 0 0, .bool false]) W := fun W => by kernel_rfl
  have a5 : ∀ W : World, (Instr.typeAssert (.iface 166 (.agg #[])) 136 143 true).run Try.prog W = .ok (.tuple #[.slice none 0 0, .bool false]) W := fun W => by kernel_rfl
  have HSF := Lib.hid (fun W => iSure false W)
  obtain ⟨ua, un, ucap, rfl⟩ := b.hu
  have hdi : ¬ (((0 : Nat) : Int) < (x.ops.length : Int)) := by omega
  generalize x.ops.length = no at HCO hdi
  generalize hofn : g.ofN = ofn at HK ⊢
  obtain ⟨oy, on⟩ := ofn
  clear b hrun hd 
  unfold weighBody weighAct
  simp only [Try.f63, T.agg]
  gi_wp2_with (first | (refine wpListIn_invoke (fun _ => trivial) rfl rfl _ _ rfl _ rfl fo recv (HCM.out _) _ (CallsIn.inRound l (callsIn_wide.2 (HCO.out _))) ?_; rintro e w4 ⟨rfl, b4⟩; refine ⟨_, rfl, ?_⟩; obtain ⟨e4, _, _, _⟩ := HK.out _ b4; have B4 := Lib.hid b4; clear b4) | (refine ⟨trivial, ?_⟩; gi_at_call 64; refine (CallsIn.inRound l (callsIn_wide.2 (HSF.out _))).mono ?_; clear HSF; rintro e w5 ⟨rfl, b5⟩; have B5 := Lib.hid (below_then B4.out b5 B4.out.size); have B6 := Lib.hid (B5.out.alloc B5.out.size (.cells #[.bool false, .bool true] 103)); obtain ⟨e4, e2, e10, e11⟩ := HK.out _ B6.out; clear b5))
  obtain ⟨X, hX⟩ : ∃ X, w5.alloc (.cells #[.bool false, .bool true] 103) = X := ⟨_, rfl⟩
  have o0 := (blk_new w5 [.bool false, .bool true] 103 0 _ rfl).1
  have o1 := (blk_new w5 [.bool false, .bool true] 103 1 _ rfl).1
  have hBX := B6.out
  rw [hX] at e4 o0 o1 hBX ⊢
  clear HK HCO HCM B4 B5 B6 e2 e10 e11 hX
  obtain ⟨g8, cap8, W8, hap, y4, yf, HZP⟩ := HF.out X.drew hBX.drew
  have e4b := ((below_alloc X (.cells #[.bool false, .bool true] 103)).cell (p := ⟨w.heap.size + 4, 0, none⟩) (lt_of_cell e4)).trans e4
  refine round_held (S := fun _ => True) (by kernel_rfl) (by kernel_rfl) trivial (fun hHeld => ?_)
  refine takeH (i := 1) (d := some 65) (v := .int .i64 0) rfl rfl (by kernel_rfl) (by kernel_rfl) (by kernel_rfl) (fun _ _ _ h => h) (Or.inl ⟨by rfl, fun W hSw => by go_simp⟩) hHeld ?_
  simp only [put_some, List.set_cons_zero, List.set_cons_succ]
  refine wpAnyH_ready (rs := [0, 3]) (by kernel_rfl) (by simp) ?_
  refine AllReadyH.cons rfl (fun K hK => ?_) (AllReadyH.cons rfl (fun K hK => ?_) AllReadyH.nil)
  · go_simp
    refine hK.out _ _ trivial (fun hHeld => ?_)
    clear hK K
    refine takeH (i := 2) (d := some 66) (v := .slice none 0 0) rfl rfl (by kernel_rfl) (by kernel_rfl) (by kernel_rfl) (fun _ _ _ h => h) (Or.inl ⟨by rfl, fun W hSw => by go_simp⟩) hHeld ?_
    simp only [put_some, List.set_cons_zero, List.set_cons_succ]
    refine wpAnyH_ready (rs := [3]) (by kernel_rfl) (by simp) ?_
    refine AllReadyH.cons rfl (fun K hK => ?_) AllReadyH.nil
    go_simp
    refine hK.out _ _ trivial (fun hHeld => ?_)
    clear hK K
    refine wpAnyH_ready (rs := [4]) (by kernel_rfl) (by simp) ?_
    refine AllReadyH.cons rfl (fun K hK => ?_) AllReadyH.nil
    go_simp
    refine hK.out _ _ trivial (fun hHeld => ?_)
    clear hK K
    refine wpAnyH_ready (rs := [5]) (by kernel_rfl) (by simp) ?_
    refine AllReadyH.cons rfl (fun K hK => ?_) AllReadyH.nil
    refine append_run_op (.tmp 66) (.tmp 68) _ rfl _ _ rfl rfl _ _ hap ?_
    refine hK.out _ _ trivial (fun hHeld => ?_)
    clear hK K
    refine wpAnyH_ready (rs := [6]) (by kernel_rfl) (by simp) ?_
    refine AllReadyH.cons rfl (fun K hK => ?_) AllReadyH.nil
    go_simp
    refine hK.out _ _ trivial (fun hHeld => ?_)
    clear hK K
    refine wpAnyH_done (by kernel_rfl) ?_ _
    exact HZP
  · go_simp
    refine hK.out _ _ trivial (fun hHeld => ?_)
    clear hK K
    refine wpAnyH_ready (rs := [0, 4]) (by kernel_rfl) (by simp) ?_
    refine AllReadyH.cons rfl (fun K hK => ?_) (AllReadyH.cons rfl (fun K hK => ?_) AllReadyH.nil)
    · go_simp
      refine hK.out _ _ trivial (fun hHeld => ?_)
      clear hK K
      refine takeH (i := 2) (d := some 66) (v := .slice none 0 0) rfl rfl (by kernel_rfl) (by kernel_rfl) (by kernel_rfl) (fun _ _ _ h => h) (Or.inl ⟨by rfl, fun W hSw => by go_simp⟩) hHeld ?_
      simp only [put_some, List.set_cons_zero, List.set_cons_succ]
      refine wpAnyH_ready (rs := [4]) (by kernel_rfl) (by simp) ?_
      refine AllReadyH.cons rfl (fun K hK => ?_) AllReadyH.nil
      go_simp
      refine hK.out _ _ trivial (fun hHeld => ?_)
      clear hK K
      refine wpAnyH_ready (rs := [5]) (by kernel_rfl) (by simp) ?_
      refine AllReadyH.cons rfl (fun K hK => ?_) AllReadyH.nil
      refine append_run_op (.tmp 66) (.tmp 68) _ rfl _ _ rfl rfl _ _ hap ?_
      refine hK.out _ _ trivial (fun hHeld => ?_)
      clear hK K
      refine wpAnyH_ready (rs := [6]) (by kernel_rfl) (by simp) ?_
      refine AllReadyH.cons rfl (fun K hK => ?_) AllReadyH.nil
      go_simp
      refine hK.out _ _ trivial (fun hHeld => ?_)
      clear hK K
      refine wpAnyH_done (by kernel_rfl) ?_ _
      exact HZP
    · go_simp
      refine hK.out _ _ trivial (fun hHeld => ?_)
      clear hK K
      refine wpAnyH_ready (rs := [0]) (by kernel_rfl) (by simp) ?_
      refine AllReadyH.cons rfl (fun K hK => ?_) AllReadyH.nil
      go_simp
      refine hK.out _ _ trivial (fun hHeld => ?_)
      clear hK K
      refine takeH (i := 2) (d := some 66) (v := .slice none 0 0) rfl rfl (by kernel_rfl) (by kernel_rfl) (by kernel_rfl) (fun _ _ _ h => h) (Or.inl ⟨by rfl, fun W hSw => by go_simp⟩) hHeld ?_
      simp only [put_some, List.set_cons_zero, List.set_cons_succ]
      refine wpAnyH_ready (rs := [5]) (by kernel_rfl) (by simp) ?_
      refine AllReadyH.cons rfl (fun K hK => ?_) AllReadyH.nil
      refine append_run_op (.tmp 66) (.tmp 68) _ rfl _ _ rfl rfl _ _ hap ?_
      refine hK.out _ _ trivial (fun hHeld => ?_)
      clear hK K
      refine wpAnyH_ready (rs := [6]) (by kernel_rfl) (by simp) ?_
      refine AllReadyH.cons rfl (fun K hK => ?_) AllReadyH.nil
      go_simp
      refine hK.out _ _ trivial (fun hHeld => ?_)
      clear hK K
      refine wpAnyH_done (by kernel_rfl) ?_ _
      exact HZP

set_option maxRecDepth 100000 in
set_option maxHeartbeats 8000000 in
theorem wb_no_own {g : Weigh} {P : T → Prop} {fc : Nat} {ca : Value} {t : T} {u : Value} {L : List Vis} {w : World} {lo l n k : Nat} {R Z : Nat → Prop} {W : World} {x : T} {xu : Value} {fo : Nat} {recv : Value} {la : Option Addr} {lcap : Nat} {d s gb cap : Nat} {D : List Ch}
    (hn : 1 ≤ n) (_ : ∀ args w, (callFunc fc args).run Try.prog w = .ok (.enter fc args) w) (b : WB g P fc ca t u L w lo k R Z W x xu d D (.slice (some ⟨gb, 0, none⟩) D.length cap) fo recv la lcap) (ho : Own 103 2 lo W.heap.size W (.slice (some ⟨gb, 0, none⟩) D.length cap) D.length (chcs D)) (h1 : ¬ x.kind = 1) (h2 : ¬ x.kind = 2) (h3 : ¬ x.kind = 3) (h4 : ¬ x.kind = 4) (h5 : ¬ x.kind = 5) (hd : d = x.ops.length) (hs : D.length = s + d) (hrun : g.run (L.take (k + 1)) [] = some (D.take s ++ [g.comb x (D.drop s)])) :
    weighBody.wpIn (Fence.wide.inRound l) n Try.prog (zPost R (WeighInv g L w lo (.func (.func fc) #[] #[ca])) k Z W) (weighAct t u (chV g.ofN) (.func (.func fc) #[] #[ca]) w.heap.size (condV x xu) (.int .i64 d)) W := by
  rw [g.comb_no _ h1 h2 h3 h4 h5] at hrun
  have HF := Lib.hid (fun (Wc : World) (hc : Below W.heap.size W Wc) => b.fin (s := s) (c := (false, true)) (by omega) (by simpa using hrun) hc)
  rw [hs] at b HF
  simp only [headV] at HF
  have HK := Lib.hid (fun (X : World) (h : Below W.heap.size W X) => b.wk h)
  have HCO := Lib.hid b.hco
  have HCM := Lib.hid b.hcm
  rw [condV_no xu h1 h2 h3 h4 h5] at HCM ⊢
  have a1 : ∀ W : World, (Instr.typeAssert (.iface 166 (.agg #[])) 136 139 true).run Try.prog W = .ok (.tuple #[.agg #[], .bool false]) W := fun W => by kernel_rfl
  have a2 : ∀ W : World, (Instr.typeAssert (.iface 166 (.agg #[])) 136 107 true).run Try.prog W = .ok (.tuple #[.agg #[.int .i64 0, .int .i64 0, .int .i64 0, .int .i64 0, .string ⟨#[]⟩], .bool false]) W := fun W => by kernel_rfl
  have a3 : ∀ W : World, (Instr.typeAssert (.iface 166 (.agg #[])) 136 140 true).run Try.prog W = .ok (.tuple #[.slice none 0 0, .bool false]) W := fun W => by kernel_rfl
  have a4 : ∀ W : World, (Instr.typeAssert (.iface 166 (.agg #[])) 136 142 true).run Try.prog W = .ok (.tuple #[.slice none 0 0, .bool false]) W := fun W => by kernel_rfl
  have a5 : ∀ W : World, (Instr.typeAssert (.iface 166 (.agg #[])) 136 143 true).run Try.prog W = .ok (.tuple #[.slice none 0 0, .bool false]) W := fun W => by kernel_rfl
  have HSF := Lib.hid (fun W => iSure false W)
  have hsd : s + d ≤ 2097154 := by
    have := b.hD
    omega
  have hsc : ¬ cap < s := by
    obtain ⟨x1, x2, x3, e, h1, _⟩ := ho.at
    cases e
    omega
  obtain ⟨ua, un, ucap, rfl⟩ := b.hu
  have hdi : ¬ ((d : Int) < (x.ops.length : Int)) := by omega
  generalize x.ops.length = no at HCO hdi
  generalize hofn : g.ofN = ofn at HK ⊢
  obtain ⟨oy, on⟩ := ofn
  clear b hrun hd hs ho
  unfold weighBody weighAct
  simp only [Try.f63, T.agg]
  gi_wp2_with (first | (refine wpListIn_invoke (fun _ => trivial) rfl rfl _ _ rfl _ rfl fo recv (HCM.out _) _ (CallsIn.inRound l (callsIn_wide.2 (HCO.out _))) ?_; rintro e w4 ⟨rfl, b4⟩; refine ⟨_, rfl, ?_⟩; obtain ⟨e4, _, _, _⟩ := HK.out _ b4; have B4 := Lib.hid b4; clear b4) | (refine ⟨trivial, ?_⟩; gi_at_call 64; refine (CallsIn.inRound l (callsIn_wide.2 (HSF.out _))).mono ?_; clear HSF; rintro e w5 ⟨rfl, b5⟩; have B5 := Lib.hid (below_then B4.out b5 B4.out.size); have B6 := Lib.hid (B5.out.alloc B5.out.size (.cells #[.bool false, .bool true] 103)); obtain ⟨e4, e2, e10, e11⟩ := HK.out _ B6.out; clear b5))
  obtain ⟨X, hX⟩ : ∃ X, w5.alloc (.cells #[.bool false, .bool true] 103) = X := ⟨_, rfl⟩
  have o0 := (blk_new w5 [.bool false, .bool true] 103 0 _ rfl).1
  have o1 := (blk_new w5 [.bool false, .bool true] 103 1 _ rfl).1
  have hBX := B6.out
  rw [hX] at e4 o0 o1 hBX ⊢
  clear HK HCO HCM B4 B5 B6 e2 e10 e11 hX
  obtain ⟨g8, cap8, W8, hap, y4, yf, HZP⟩ := HF.out X.drew hBX.drew
  have e4b := ((below_alloc X (.cells #[.bool false, .bool true] 103)).cell (p := ⟨w.heap.size + 4, 0, none⟩) (lt_of_cell e4)).trans e4
  refine round_held (S := fun _ => True) (by kernel_rfl) (by kernel_rfl) trivial (fun hHeld => ?_)
  refine takeH (i := 1) (d := some 65) (v := .int .i64 s) rfl rfl (by kernel_rfl) (by kernel_rfl) (by kernel_rfl) (fun _ _ _ h => h) (Or.inl ⟨by rfl, fun W hSw => by go_simp⟩) hHeld ?_
  simp only [put_some, List.set_cons_zero, List.set_cons_succ]
  refine wpAnyH_ready (rs := [0, 3]) (by kernel_rfl) (by simp) ?_
  refine AllReadyH.cons rfl (fun K hK => ?_) (AllReadyH.cons rfl (fun K hK => ?_) AllReadyH.nil)
  · go_simp
    refine hK.out _ _ trivial (fun hHeld => ?_)
    clear hK K
    refine takeH (i := 2) (d := some 66) (v := .slice (some ⟨gb, 0, none⟩) s cap) rfl rfl (by kernel_rfl) (by kernel_rfl) (by kernel_rfl) (fun _ _ _ h => h) (Or.inl ⟨by rfl, fun W hSw => by go_simp⟩) hHeld ?_
    simp only [put_some, List.set_cons_zero, List.set_cons_succ]
    refine wpAnyH_ready (rs := [3]) (by kernel_rfl) (by simp) ?_
    refine AllReadyH.cons rfl (fun K hK => ?_) AllReadyH.nil
    go_simp
    refine hK.out _ _ trivial (fun hHeld => ?_)
    clear hK K
    refine wpAnyH_ready (rs := [4]) (by kernel_rfl) (by simp) ?_
    refine AllReadyH.cons rfl (fun K hK => ?_) AllReadyH.nil
    go_simp
    refine hK.out _ _ trivial (fun hHeld => ?_)
    clear hK K
    refine wpAnyH_ready (rs := [5]) (by kernel_rfl) (by simp) ?_
    refine AllReadyH.cons rfl (fun K hK => ?_) AllReadyH.nil
    refine append_run_op (.tmp 66) (.tmp 68) _ rfl _ _ rfl rfl _ _ hap ?_
    refine hK.out _ _ trivial (fun hHeld => ?_)
    clear hK K
    refine wpAnyH_ready (rs := [6]) (by kernel_rfl) (by simp) ?_
    refine AllReadyH.cons rfl (fun K hK => ?_) AllReadyH.nil
    go_simp
    refine hK.out _ _ trivial (fun hHeld => ?_)
    clear hK K
    refine wpAnyH_done (by kernel_rfl) ?_ _
    exact HZP
  · go_simp
    refine hK.out _ _ trivial (fun hHeld => ?_)
    clear hK K
    refine wpAnyH_ready (rs := [0, 4]) (by kernel_rfl) (by simp) ?_
    refine AllReadyH.cons rfl (fun K hK => ?_) (AllReadyH.cons rfl (fun K hK => ?_) AllReadyH.nil)
    · go_simp
      refine hK.out _ _ trivial (fun hHeld => ?_)
      clear hK K
      refine takeH (i := 2) (d := some 66) (v := .slice (some ⟨gb, 0, none⟩) s cap) rfl rfl (by kernel_rfl) (by kernel_rfl) (by kernel_rfl) (fun _ _ _ h => h) (Or.inl ⟨by rfl, fun W hSw => by go_simp⟩) hHeld ?_
      simp only [put_some, List.set_cons_zero, List.set_cons_succ]
      refine wpAnyH_ready (rs := [4]) (by kernel_rfl) (by simp) ?_
      refine AllReadyH.cons rfl (fun K hK => ?_) AllReadyH.nil
      go_simp
      refine hK.out _ _ trivial (fun hHeld => ?_)
      clear hK K
      refine wpAnyH_ready (rs := [5]) (by kernel_rfl) (by simp) ?_
      refine AllReadyH.cons rfl (fun K hK => ?_) AllReadyH.nil
      refine append_run_op (.tmp 66) (.tmp 68) _ rfl _ _ rfl rfl _ _ hap ?_
      refine hK.out _ _ trivial (fun hHeld => ?_)
      clear hK K
      refine wpAnyH_ready (rs := [6]) (by kernel_rfl) (by simp) ?_
      refine AllReadyH.cons rfl (fun K hK => ?_) AllReadyH.nil
      go_simp
      refine hK.out _ _ trivial (fun hHeld => ?_)
      clear hK K
      refine wpAnyH_done (by kernel_rfl) ?_ _
      exact HZP
    · go_simp
      refine hK.out _ _ trivial (fun hHeld => ?_)
      clear hK K
      refine wpAnyH_ready (rs := [0]) (by kernel_rfl) (by simp) ?_
      refine AllReadyH.cons rfl (fun K hK => ?_) AllReadyH.nil
      go_simp
      refine hK.out _ _ trivial (fun hHeld => ?_)
      clear hK K
      refine takeH (i := 2) (d := some 66) (v := .slice (some ⟨gb, 0, none⟩) s cap) rfl rfl (by kernel_rfl) (by kernel_rfl) (by kernel_rfl) (fun _ _ _ h => h) (Or.inl ⟨by rfl, fun W hSw => by go_simp⟩) hHeld ?_
      simp only [put_some, List.set_cons_zero, List.set_cons_succ]
      refine wpAnyH_ready (rs := [5]) (by kernel_rfl) (by simp) ?_
      refine AllReadyH.cons rfl (fun K hK => ?_) AllReadyH.nil
      refine append_run_op (.tmp 66) (.tmp 68) _ rfl _ _ rfl rfl _ _ hap ?_
      refine hK.out _ _ trivial (fun hHeld => ?_)
      clear hK K
      refine wpAnyH_ready (rs := [6]) (by kernel_rfl) (by simp) ?_
      refine AllReadyH.cons rfl (fun K hK => ?_) AllReadyH.nil
      go_simp
      refine hK.out _ _ trivial (fun hHeld => ?_)
      clear hK K
      refine wpAnyH_done (by kernel_rfl) ?_ _
      exact HZP

theorem wb_no {g : Weigh} {P : T → Prop} {fc : Nat} {ca : Value} {t : T} {u : Value} {L : List Vis} {w : World} {lo l n k : Nat} {R Z : Nat → Prop} {W : World} {x : T} {xu : Value} {d : Nat} {D : List Ch} {v : Value} {fo : Nat} {recv : Value} {la : Option Addr} {lcap : Nat}
    (hn : 1 ≤ n) (heg : ∀ args w, (callFunc fc args).run Try.prog w = .ok (.enter fc args) w) (b : WB g P fc ca t u L w lo k R Z W x xu d D v fo recv la lcap) (h1 : ¬ x.kind = 1) (h2 : ¬ x.kind = 2) (h3 : ¬ x.kind = 3) (h4 : ¬ x.kind = 4) (h5 : ¬ x.kind = 5) (hd : d = x.ops.length) (hdD : d ≤ D.length) (hrun : g.run (L.take (k + 1)) [] = some (D.take (D.length - d) ++ [g.comb x (D.drop (D.length - d))])) :
    weighBody.wpIn (Fence.wide.inRound l) n Try.prog (zPost R (WeighInv g L w lo (.func (.func fc) #[] #[ca])) k Z W) (weighAct t u (chV g.ofN) (.func (.func fc) #[] #[ca]) w.heap.size (condV x xu) (.int .i64 d)) W := by
  obtain ⟨s, hs⟩ : ∃ s, D.length = s + d := ⟨D.length - d, by omega⟩
  rw [show D.length - d = s by omega] at hrun
  rcases b.h3 with ⟨rfl, rfl⟩ | ⟨gb, cap, rfl, ho, _⟩
  · obtain ⟨rfl, rfl⟩ : s = 0 ∧ d = 0 := by
      simp at hs
      omega
    exact wb_no_nil hn heg b h1 h2 h3 h4 h5 hd hrun
  · exact wb_no_own hn heg b ho h1 h2 h3 h4 h5 hd hs hrun

end Go.Proofs.Ytafoldpmodipaaa

/- The body of weigh's loop at a predicate whose operands are done: of kind 1 (written by mk_IWB.py). -/
namespace Go.Proofs.Ytafoldpmodipaaa
open Go.RowKit Go.Shelf

attribute [local go_sem] Oper.semAt_some

set_option maxRecDepth 100000 in
set_option maxHeartbeats 8000000 in
theorem wb_1_nil {g : Weigh} {P : T → Prop} {fc : Nat} {ca : Value} {t : T} {u : Value} {L : List Vis} {w : World} {lo l n k : Nat} {R Z : Nat → Prop} {W : World} {x : T} {xu : Value} {fo : Nat} {recv : Value} {la : Option Addr} {lcap : Nat}
    (hn : 1 ≤ n) (_ : ∀ args w, (callFunc fc args).run Try.prog w = .ok (.enter fc args) w) (b : WB g P fc ca t u L w lo k R Z W x xu 0 [] (.slice none 0 0) fo recv la lcap) (hk : x.kind = 1) (hd : 0 = x.ops.length) (hrun : g.run (L.take (k + 1)) [] = some ([].take 0 ++ [g.comb x ([].drop 0)])) :
    weighBody.wpIn (Fence.wide.inRound l) n Try.prog (zPost R (WeighInv g L w lo (.func (.func fc) #[] #[ca])) k Z W) (weighAct t u (chV g.ofN) (.func (.func fc) #[] #[ca]) w.heap.size (condV x xu) (.int .i64 (0 : Nat))) W := by
  rw [g.comb_1 _ hk] at hrun
  have HF := Lib.hid (fun (Wc : World) (hc : Below W.heap.size W Wc) => b.fin (s := 0) (c := (true, false)) (Nat.le_refl _) (by simpa using hrun) hc)
  simp only [headV] at HF
  have HK := Lib.hid (fun (X : World) (h : Below W.heap.size W X) => b.wk h)
  have HCO := Lib.hid b.hco
  have HCM := Lib.hid b.hcm
  rw [condV_1 xu hk] at HCM ⊢
  have a1 : ∀ W : World, (Instr.typeAssert (.iface 139 (.agg #[])) 136 139 true).run Try.prog W = .ok (.tuple #[.agg #[], .bool true]) W := fun W => by kernel_rfl
  have HSF := Lib.hid (fun W => iSure false W)
  obtain ⟨ua, un, ucap, rfl⟩ := b.hu
  have HST := Lib.hid (fun W => iSure true W)
  have hdi : ¬ (((0 : Nat) : Int) < (x.ops.length : Int)) := by omega
  generalize x.ops.length = no at HCO hdi
  generalize hofn : g.ofN = ofn at HK ⊢
  obtain ⟨oy, on⟩ := ofn
  clear b hrun hd 
  unfold weighBody weighAct
  simp only [Try.f63, T.agg]
  gi_wp2_with (first | (refine wpListIn_invoke (fun _ => trivial) rfl rfl _ _ rfl _ rfl fo recv (HCM.out _) _ (CallsIn.inRound l (callsIn_wide.2 (HCO.out _))) ?_; rintro e w4 ⟨rfl, b4⟩; refine ⟨_, rfl, ?_⟩; obtain ⟨e4, _, _, _⟩ := HK.out _ b4; have B4 := Lib.hid b4; clear b4) | (refine ⟨trivial, ?_⟩; gi_at_call 64; refine (CallsIn.inRound l (callsIn_wide.2 (HSF.out _))).mono ?_; clear HSF; rintro e w5 ⟨rfl, b5⟩; have B5 := Lib.hid (below_then B4.out b5 B4.out.size); have B6 := Lib.hid (B5.out.alloc B5.out.size (.cells #[.bool false, .bool true] 103)); have R5 := Lib.hid (blk_new w5 [.bool false, .bool true] 103); have B6b := Lib.hid (B6.out.alloc B6.out.size (.cells #[] 139)); clear b5) | (refine ⟨trivial, ?_⟩; gi_at_call 64; refine (CallsIn.inRound l (callsIn_wide.2 (HST.out _))).mono ?_; clear HST; rintro e w7 ⟨rfl, b7⟩; have B7 := Lib.hid (below_then B6b.out b7 B6b.out.size); obtain ⟨⟨q0, g0⟩, q1, g1⟩ : (w7.cell? ⟨w5.heap.size, 0, none⟩ = some (.bool false) ∧ w7.frozen? ⟨w5.heap.size, 0, none⟩ = false) ∧ w7.cell? ⟨w5.heap.size, 1, none⟩ = some (.bool true) ∧ w7.frozen? ⟨w5.heap.size, 1, none⟩ = false := ⟨R5.out.below ((below_alloc (w5.alloc (.cells #[.bool false, .bool true] 103)) (.cells #[] 139)).trans (b7.mono (below_alloc (w5.alloc (.cells #[.bool false, .bool true] 103)) (.cells #[] 139)).size)) 0 _ rfl, R5.out.below ((below_alloc (w5.alloc (.cells #[.bool false, .bool true] 103)) (.cells #[] 139)).trans (b7.mono (below_alloc (w5.alloc (.cells #[.bool false, .bool true] 103)) (.cells #[] 139)).size)) 1 _ rfl⟩; clear b7))
  obtain ⟨X, hX⟩ : ∃ X, (w7.setCell ⟨w5.heap.size, 0, none⟩ (.bool true)).setCell ⟨w5.heap.size, 1, none⟩ (.bool false) = X := ⟨_, rfl⟩
  have RX : Blk ((w7.setCell ⟨w5.heap.size, 0, none⟩ (.bool true)).setCell ⟨w5.heap.size, 1, none⟩ (.bool false)) w5.heap.size [.bool true, .bool false] := by
    have h : Blk w7 w5.heap.size [.bool false, .bool true] := fun i x hx => by
      match i, hx with
      | 0, hx => simp at hx; subst hx; exact ⟨q0, g0⟩
      | 1, hx => simp at hx; subst hx; exact ⟨q1, g1⟩
    exact (h.set 0 _).set 1 _
  have o0 := (RX 0 _ rfl).1
  have o1 := (RX 1 _ rfl).1
  have hBX := (B7.out.setCell (p := ⟨w5.heap.size, 0, none⟩) B5.out.size (.bool true)).setCell (p := ⟨w5.heap.size, 1, none⟩) B5.out.size (.bool false)
  have e4 := (HK.out _ hBX).c4
  rw [hX] at e4 o0 o1 hBX ⊢
  clear HK HCO HCM RX q0 q1 g0 g1 hX
  obtain ⟨g8, cap8, W8, hap, y4, yf, HZP⟩ := HF.out X.drew hBX.drew
  have e4b := ((below_alloc X (.cells #[.bool true, .bool false] 103)).cell (p := ⟨w.heap.size + 4, 0, none⟩) (lt_of_cell e4)).trans e4
  refine round_held (S := fun _ => True) (by kernel_rfl) (by kernel_rfl) trivial (fun hHeld => ?_)
  refine takeH (i := 1) (d := some 65) (v := .int .i64 0) rfl rfl (by kernel_rfl) (by kernel_rfl) (by kernel_rfl) (fun _ _ _ h => h) (Or.inl ⟨by rfl, fun W hSw => by go_simp⟩) hHeld ?_
  simp only [put_some, List.set_cons_zero, List.set_cons_succ]
  refine wpAnyH_ready (rs := [0, 3]) (by kernel_rfl) (by simp) ?_
  refine AllReadyH.cons rfl (fun K hK => ?_) (AllReadyH.cons rfl (fun K hK => ?_) AllReadyH.nil)
  · go_simp
    refine hK.out _ _ trivial (fun hHeld => ?_)
    clear hK K
    refine takeH (i := 2) (d := some 66) (v := .slice none 0 0) rfl rfl (by kernel_rfl) (by kernel_rfl) (by kernel_rfl) (fun _ _ _ h => h) (Or.inl ⟨by rfl, fun W hSw => by go_simp⟩) hHeld ?_
    simp only [put_some, List.set_cons_zero, List.set_cons_succ]
    refine wpAnyH_ready (rs := [3]) (by kernel_rfl) (by simp) ?_
    refine AllReadyH.cons rfl (fun K hK => ?_) AllReadyH.nil
    go_simp
    refine hK.out _ _ trivial (fun hHeld => ?_)
    clear hK K
    refine wpAnyH_ready (rs := [4]) (by kernel_rfl) (by simp) ?_
    refine AllReadyH.cons rfl (fun K hK => ?_) AllReadyH.nil
    go_simp
    refine hK.out _ _ trivial (fun hHeld => ?_)
    clear hK K
    refine wpAnyH_ready (rs := [5]) (by kernel_rfl) (by simp) ?_
    refine AllReadyH.cons rfl (fun K hK => ?_) AllReadyH.nil
    refine append_run_op (.tmp 66) (.tmp 68) _ rfl _ _ rfl rfl _ _ hap ?_
    refine hK.out _ _ trivial (fun hHeld => ?_)
    clear hK K
    refine wpAnyH_ready (rs := [6]) (by kernel_rfl) (by simp) ?_
    refine AllReadyH.cons rfl (fun K hK => ?_) AllReadyH.nil
    go_simp
    refine hK.out _ _ trivial (fun hHeld => ?_)
    clear hK K
    refine wpAnyH_done (by kernel_rfl) ?_ _
    exact HZP
  · go_simp
    refine hK.out _ _ trivial (fun hHeld => ?_)
    clear hK K
    refine wpAnyH_ready (rs := [0, 4]) (by kernel_rfl) (by simp) ?_
    refine AllReadyH.cons rfl (fun K hK => ?_) (AllReadyH.cons rfl (fun K hK => ?_) AllReadyH.nil)
    · go_simp
      refine hK.out _ _ trivial (fun hHeld => ?_)
      clear hK K
      refine takeH (i := 2) (d := some 66) (v := .slice none 0 0) rfl rfl (by kernel_rfl) (by kernel_rfl) (by kernel_rfl) (fun _ _ _ h => h) (Or.inl ⟨by rfl, fun W hSw => by go_simp⟩) hHeld ?_
      simp only [put_some, List.set_cons_zero, List.set_cons_succ]
      refine wpAnyH_ready (rs := [4]) (by kernel_rfl) (by simp) ?_
      refine AllReadyH.cons rfl (fun K hK => ?_) AllReadyH.nil
      go_simp
      refine hK.out _ _ trivial (fun hHeld => ?_)
      clear hK K
      refine wpAnyH_ready (rs := [5]) (by kernel_rfl) (by simp) ?_
      refine AllReadyH.cons rfl (fun K hK => ?_) AllReadyH.nil
      refine append_run_op (.tmp 66) (.tmp 68) _ rfl _ _ rfl rfl _ _ hap ?_
      refine hK.out _ _ trivial (fun hHeld => ?_)
      clear hK K
      refine wpAnyH_ready (rs := [6]) (by kernel_rfl) (by simp) ?_
      refine AllReadyH.cons rfl (fun K hK => ?_) AllReadyH.nil
      go_simp
      refine hK.out _ _ trivial (fun hHeld => ?_)
      clear hK K
      refine wpAnyH_done (by kernel_rfl) ?_ _
      exact HZP
    · go_simp
      refine hK.out _ _ trivial (fun hHeld => ?_)
      clear hK K
      refine wpAnyH_ready (rs := [0]) (by kernel_rfl) (by simp) ?_
      refine AllReadyH.cons rfl (fun K hK => ?_) AllReadyH.nil
      go_simp
      refine hK.out _ _ trivial (fun hHeld => ?_)
      clear hK K
      refine takeH (i := 2) (d := some 66) (v := .slice none 0 0) rfl rfl (by kernel_rfl) (by kernel_rfl) (by kernel_rfl) (fun _ _ _ h => h) (Or.inl ⟨by rfl, fun W hSw => by go_simp⟩) hHeld ?_
      simp only [put_some, List.set_cons_zero, List.set_cons_succ]
      refine wpAnyH_ready (rs := [5]) (by kernel_rfl) (by simp) ?_
      refine AllReadyH.cons rfl (fun K hK => ?_) AllReadyH.nil
      refine append_run_op (.tmp 66) (.tmp 68) _ rfl _ _ rfl rfl _ _ hap ?_
      refine hK.out _ _ trivial (fun hHeld => ?_)
      clear hK K
      refine wpAnyH_ready (rs := [6]) (by kernel_rfl) (by simp) ?_
      refine AllReadyH.cons rfl (fun K hK => ?_) AllReadyH.nil
      go_simp
      refine hK.out _ _ trivial (fun hHeld => ?_)
      clear hK K
      refine wpAnyH_done (by kernel_rfl) ?_ _
      exact HZP

set_option maxRecDepth 100000 in
set_option maxHeartbeats 8000000 in
theorem wb_1_own {g : Weigh} {P : T → Prop} {fc : Nat} {ca : Value} {t : T} {u : Value} {L : List Vis} {w : World} {lo l n k : Nat} {R Z : Nat → Prop} {W : World} {x : T} {xu : Value} {fo : Nat} {recv : Value} {la : Option Addr} {lcap : Nat} {d s gb cap : Nat} {D : List Ch}
    (hn : 1 ≤ n) (_ : ∀ args w, (callFunc fc args).run Try.prog w = .ok (.enter fc args) w) (b : WB g P fc ca t u L w lo k R Z W x xu d D (.slice (some ⟨gb, 0, none⟩) D.length cap) fo recv la lcap) (ho : Own 103 2 lo W.heap.size W (.slice (some ⟨gb, 0, none⟩) D.length cap) D.length (chcs D)) (hk : x.kind = 1) (hd : d = x.ops.length) (hs : D.length = s + d) (hrun : g.run (L.take (k + 1)) [] = some (D.take s ++ [g.comb x (D.drop s)])) :
    weighBody.wpIn (Fence.wide.inRound l) n Try.prog (zPost R (WeighInv g L w lo (.func (.func fc) #[] #[ca])) k Z W) (weighAct t u (chV g.ofN) (.func (.func fc) #[] #[ca]) w.heap.size (condV x xu) (.int .i64 d)) W := by
  rw [g.comb_1 _ hk] at hrun
  have HF := Lib.hid (fun (Wc : World) (hc : Below W.heap.size W Wc) => b.fin (s := s) (c := (true, false)) (by omega) (by simpa using hrun) hc)
  rw [hs] at b HF
  simp only [headV] at HF
  have HK := Lib.hid (fun (X : World) (h : Below W.heap.size W X) => b.wk h)
  have HCO := Lib.hid b.hco
  have HCM := Lib.hid b.hcm
  rw [condV_1 xu hk] at HCM ⊢
  have a1 : ∀ W : World, (Instr.typeAssert (.iface 139 (.agg #[])) 136 139 true).run Try.prog W = .ok (.tuple #[.agg #[], .bool true]) W := fun W => by kernel_rfl
  have HSF := Lib.hid (fun W => iSure false W)
  have hsd : s + d ≤ 2097154 := by
    have := b.hD
    omega
  have hsc : ¬ cap < s := by
    obtain ⟨x1, x2, x3, e, h1, _⟩ := ho.at
    cases e
    omega
  obtain ⟨ua, un, ucap, rfl⟩ := b.hu
  have HST := Lib.hid (fun W => iSure true W)
  have hdi : ¬ ((d : Int) < (x.ops.length : Int)) := by omega
  generalize x.ops.length = no at HCO hdi
  generalize hofn : g.ofN = ofn at HK ⊢
  obtain ⟨oy, on⟩ := ofn
  clear b hrun hd hs ho
  unfold weighBody weighAct
  simp only [Try.f63, T.agg]
  gi_wp2_with (first | (refine wpListIn_invoke (fun _ => trivial) rfl rfl _ _ rfl _ rfl fo recv (HCM.out _) _ (CallsIn.inRound l (callsIn_wide.2 (HCO.out _))) ?_; rintro e w4 ⟨rfl, b4⟩; refine ⟨_, rfl, ?_⟩; obtain ⟨e4, _, _, _⟩ := HK.out _ b4; have B4 := Lib.hid b4; clear b4) | (refine ⟨trivial, ?_⟩; gi_at_call 64; refine (CallsIn.inRound l (callsIn_wide.2 (HSF.out _))).mono ?_; clear HSF; rintro e w5 ⟨rfl, b5⟩; have B5 := Lib.hid (below_then B4.out b5 B4.out.size); have B6 := Lib.hid (B5.out.alloc B5.out.size (.cells #[.bool false, .bool true] 103)); have R5 := Lib.hid (blk_new w5 [.bool false, .bool true] 103); have B6b := Lib.hid (B6.out.alloc B6.out.size (.cells #[] 139)); clear b5) | (refine ⟨trivial, ?_⟩; gi_at_call 64; refine (CallsIn.inRound l (callsIn_wide.2 (HST.out _))).mono ?_; clear HST; rintro e w7 ⟨rfl, b7⟩; have B7 := Lib.hid (below_then B6b.out b7 B6b.out.size); obtain ⟨⟨q0, g0⟩, q1, g1⟩ : (w7.cell? ⟨w5.heap.size, 0, none⟩ = some (.bool false) ∧ w7.frozen? ⟨w5.heap.size, 0, none⟩ = false) ∧ w7.cell? ⟨w5.heap.size, 1, none⟩ = some (.bool true) ∧ w7.frozen? ⟨w5.heap.size, 1, none⟩ = false := ⟨R5.out.below ((below_alloc (w5.alloc (.cells #[.bool false, .bool true] 103)) (.cells #[] 139)).trans (b7.mono (below_alloc (w5.alloc (.cells #[.bool false, .bool true] 103)) (.cells #[] 139)).size)) 0 _ rfl, R5.out.below ((below_alloc (w5.alloc (.cells #[.bool false, .bool true] 103)) (.cells #[] 139)).trans (b7.mono (below_alloc (w5.alloc (.cells #[.bool false, .bool true] 103)) (.cells #[] 139)).size)) 1 _ rfl⟩; clear b7))
  obtain ⟨X, hX⟩ : ∃ X, (w7.setCell ⟨w5.heap.size, 0, none⟩ (.bool true)).setCell ⟨w5.heap.size, 1, none⟩ (.bool false) = X := ⟨_, rfl⟩
  have RX : Blk ((w7.setCell ⟨w5.heap.size, 0, none⟩ (.bool true)).setCell ⟨w5.heap.size, 1, none⟩ (.bool false)) w5.heap.size [.bool true, .bool false] := by
    have h : Blk w7 w5.heap.size [.bool false, .bool true] := fun i x hx => by
      match i, hx with
      | 0, hx => simp at hx; subst hx; exact ⟨q0, g0⟩
      | 1, hx => simp at hx; subst hx; exact ⟨q1, g1⟩
    exact (h.set 0 _).set 1 _
  have o0 := (RX 0 _ rfl).1
  have o1 := (RX 1 _ rfl).1
  have hBX := (B7.out.setCell (p := ⟨w5.heap.size, 0, none⟩) B5.out.size (.bool true)).setCell (p := ⟨w5.heap.size, 1, none⟩) B5.out.size (.bool false)
  have e4 := (HK.out _ hBX).c4
  rw [hX] at e4 o0 o1 hBX ⊢
  clear HK HCO HCM RX q0 q1 g0 g1 hX
  obtain ⟨g8, cap8, W8, hap, y4, yf, HZP⟩ := HF.out X.drew hBX.drew
  have e4b := ((below_alloc X (.cells #[.bool true, .bool false] 103)).cell (p := ⟨w.heap.size + 4, 0, none⟩) (lt_of_cell e4)).trans e4
  refine round_held (S := fun _ => True) (by kernel_rfl) (by kernel_rfl) trivial (fun hHeld => ?_)
  refine takeH (i := 1) (d := some 65) (v := .int .i64 s) rfl rfl (by kernel_rfl) (by kernel_rfl) (by kernel_rfl) (fun _ _ _ h => h) (Or.inl ⟨by rfl, fun W hSw => by go_simp⟩) hHeld ?_
  simp only [put_some, List.set_cons_zero, List.set_cons_succ]
  refine wpAnyH_ready (rs := [0, 3]) (by kernel_rfl) (by simp) ?_
  refine AllReadyH.cons rfl (fun K hK => ?_) (AllReadyH.cons rfl (fun K hK => ?_) AllReadyH.nil)
  · go_simp
    refine hK.out _ _ trivial (fun hHeld => ?_)
    clear hK K
    refine takeH (i := 2) (d := some 66) (v := .slice (some ⟨gb, 0, none⟩) s cap) rfl rfl (by kernel_rfl) (by kernel_rfl) (by kernel_rfl) (fun _ _ _ h => h) (Or.inl ⟨by rfl, fun W hSw => by go_simp⟩) hHeld ?_
    simp only [put_some, List.set_cons_zero, List.set_cons_succ]
    refine wpAnyH_ready (rs := [3]) (by kernel_rfl) (by simp) ?_
    refine AllReadyH.cons rfl (fun K hK => ?_) AllReadyH.nil
    go_simp
    refine hK.out _ _ trivial (fun hHeld => ?_)
    clear hK K
    refine wpAnyH_ready (rs := [4]) (by kernel_rfl) (by simp) ?_
    refine AllReadyH.cons rfl (fun K hK => ?_) AllReadyH.nil
    go_simp
    refine hK.out _ _ trivial (fun hHeld => ?_)
    clear hK K
    refine wpAnyH_ready (rs := [5]) (by kernel_rfl) (by simp) ?_
    refine AllReadyH.cons rfl (fun K hK => ?_) AllReadyH.nil
    refine append_run_op (.tmp 66) (.tmp 68) _ rfl _ _ rfl rfl _ _ hap ?_
    refine hK.out _ _ trivial (fun hHeld => ?_)
    clear hK K
    refine wpAnyH_ready (rs := [6]) (by kernel_rfl) (by simp) ?_
    refine AllReadyH.cons rfl (fun K hK => ?_) AllReadyH.nil
    go_simp
    refine hK.out _ _ trivial (fun hHeld => ?_)
    clear hK K
    refine wpAnyH_done (by kernel_rfl) ?_ _
    exact HZP
  · go_simp
    refine hK.out _ _ trivial (fun hHeld => ?_)
    clear hK K
    refine wpAnyH_ready (rs := [0, 4]) (by kernel_rfl) (by simp) ?_
    refine AllReadyH.cons rfl (fun K hK => ?_) (AllReadyH.cons rfl (fun K hK => ?_) AllReadyH.nil)
    · go_simp
      refine hK.out _ _ trivial (fun hHeld => ?_)
      clear hK K
      refine takeH (i := 2) (d := some 66) (v := .slice (some ⟨gb, 0, none⟩) s cap) rfl rfl (by kernel_rfl) (by kernel_rfl) (by kernel_rfl) (fun _ _ _ h => h) (Or.inl ⟨by rfl, fun W hSw => by go_simp⟩) hHeld ?_
      simp only [put_some, List.set_cons_zero, List.set_cons_succ]
      refine wpAnyH_ready (rs := [4]) (by kernel_rfl) (by simp) ?_
      refine AllReadyH.cons rfl (fun K hK => ?_) AllReadyH.nil
      go_simp
      refine hK.out _ _ trivial (fun hHeld => ?_)
      clear hK K
      refine wpAnyH_ready (rs := [5]) (by kernel_rfl) (by simp) ?_
      refine AllReadyH.cons rfl (fun K hK => ?_) AllReadyH.nil
      refine append_run_op (.tmp 66) (.tmp 68) _ rfl _ _ rfl rfl _ _ hap ?_
      refine hK.out _ _ trivial (fun hHeld => ?_)
      clear hK K
      refine wpAnyH_ready (rs := [6]) (by kernel_rfl) (by simp) ?_
      refine AllReadyH.cons rfl (fun K hK => ?_) AllReadyH.nil
      go_simp
      refine hK.out _ _ trivial (fun hHeld => ?_)
      clear hK K
      refine wpAnyH_done (by kernel_rfl) ?_ _
      exact HZP
    · go_simp
      refine hK.out _ _ trivial (fun hHeld => ?_)
      clear hK K
      refine wpAnyH_ready (rs := [0]) (by kernel_rfl) (by simp) ?_
      refine AllReadyH.cons rfl (fun K hK => ?_) AllReadyH.nil
      go_simp
      refine hK.out _ _ trivial (fun hHeld => ?_)
      clear hK K
      refine takeH (i := 2) (d := some 66) (v := .slice (some ⟨gb, 0, none⟩) s cap) rfl rfl (by kernel_rfl) (by kernel_rfl) (by kernel_rfl) (fun _ _ _ h => h) (Or.inl ⟨by rfl, fun W hSw => by go_simp⟩) hHeld ?_
      simp only [put_some, List.set_cons_zero, List.set_cons_succ]
      refine wpAnyH_ready (rs := [5]) (by kernel_rfl) (by simp) ?_
      refine AllReadyH.cons rfl (fun K hK => ?_) AllReadyH.nil
      refine append_run_op (.tmp 66) (.tmp 68) _ rfl _ _ rfl rfl _ _ hap ?_
      refine hK.out _ _ trivial (fun hHeld => ?_)
      clear hK K
      refine wpAnyH_ready (rs := [6]) (by kernel_rfl) (by simp) ?_
      refine AllReadyH.cons rfl (fun K hK => ?_) AllReadyH.nil
      go_simp
      refine hK.out _ _ trivial (fun hHeld => ?_)
      clear hK K
      refine wpAnyH_done (by kernel_rfl) ?_ _
      exact HZP

theorem wb_1 {g : Weigh} {P : T → Prop} {fc : Nat} {ca : Value} {t : T} {u : Value} {L : List Vis} {w : World} {lo l n k : Nat} {R Z : Nat → Prop} {W : World} {x : T} {xu : Value} {d : Nat} {D : List Ch} {v : Value} {fo : Nat} {recv : Value} {la : Option Addr} {lcap : Nat}
    (hn : 1 ≤ n) (heg : ∀ args w, (callFunc fc args).run Try.prog w = .ok (.enter fc args) w) (b : WB g P fc ca t u L w lo k R Z W x xu d D v fo recv la lcap) (hk : x.kind = 1) (hd : d = x.ops.length) (hdD : d ≤ D.length) (hrun : g.run (L.take (k + 1)) [] = some (D.take (D.length - d) ++ [g.comb x (D.drop (D.length - d))])) :
    weighBody.wpIn (Fence.wide.inRound l) n Try.prog (zPost R (WeighInv g L w lo (.func (.func fc) #[] #[ca])) k Z W) (weighAct t u (chV g.ofN) (.func (.func fc) #[] #[ca]) w.heap.size (condV x xu) (.int .i64 d)) W := by
  obtain ⟨s, hs⟩ : ∃ s, D.length = s + d := ⟨D.length - d, by omega⟩
  rw [show D.length - d = s by omega] at hrun
  rcases b.h3 with ⟨rfl, rfl⟩ | ⟨gb, cap, rfl, ho, _⟩
  · obtain ⟨rfl, rfl⟩ : s = 0 ∧ d = 0 := by
      simp at hs
      omega
    exact wb_1_nil hn heg b hk hd hrun
  · exact wb_1_own hn heg b ho hk hd hs hrun

end Go.Proofs.Ytafoldpmodipaaa

/- The body of weigh's loop at a predicate whose operands are done: of kind 2 (written by mk_IWB.py). -/
namespace Go.Proofs.Ytafoldpmodipaaa
open Go.RowKit Go.Shelf

attribute [local go_sem] Oper.semAt_some

set_option maxRecDepth 100000 in
set_option maxHeartbeats 8000000 in
theorem wb_2_nil {g : Weigh} {P : T → Prop} {fc : Nat} {ca : Value} {t : T} {u : Value} {L : List Vis} {w : World} {lo l n k : Nat} {R Z : Nat → Prop} {W : World} {x : T} {xu : Value} {fo : Nat} {recv : Value} {la : Option Addr} {lcap : Nat}
    (hn : 1 ≤ n) (heg : ∀ args w, (callFunc fc args).run Try.prog w = .ok (.enter fc args) w) (b : WB g P fc ca t u L w lo k R Z W x xu 0 [] (.slice none 0 0) fo recv la lcap) (hk : x.kind = 2) (hd : 0 = x.ops.length) (hrun : g.run (L.take (k + 1)) [] = some ([].take 0 ++ [g.comb x ([].drop 0)])) :
    weighBody.wpIn (Fence.wide.inRound l) n Try.prog (zPost R (WeighInv g L w lo (.func (.func fc) #[] #[ca])) k Z W) (weighAct t u (chV g.ofN) (.func (.func fc) #[] #[ca]) w.heap.size (condV x xu) (.int .i64 (0 : Nat))) W := by
  rw [g.comb_2 _ hk] at hrun
  have HF := Lib.hid (fun (Wc : World) (hc : Below W.heap.size W Wc) => b.fin (s := 0) (c := (g.cmp x)) (Nat.le_refl _) (by simpa using hrun) hc)
  simp only [headV] at HF
  have HK := Lib.hid (fun (X : World) (h : Below W.heap.size W X) => b.wk h)
  have HCO := Lib.hid b.hco
  have HCM := Lib.hid b.hcm
  rw [condV_2 xu hk] at HCM ⊢
  have a1 : ∀ W : World, (Instr.typeAssert (.iface 107 (.agg #[.int .i64 x.col, .int .i64 x.op, .int .i64 x.v.ty, .int .i64 x.v.n, .string x.v.s])) 136 139 true).run Try.prog W = .ok (.tuple #[.agg #[], .bool false]) W := fun W => by kernel_rfl
  have a2 : ∀ W : World, (Instr.typeAssert (.iface 107 (.agg #[.int .i64 x.col, .int .i64 x.op, .int .i64 x.v.ty, .int .i64 x.v.n, .string x.v.s])) 136 107 true).run Try.prog W = .ok (.tuple #[.agg #[.int .i64 x.col, .int .i64 x.op, .int .i64 x.v.ty, .int .i64 x.v.n, .string x.v.s], .bool true]) W := fun W => by kernel_rfl
  have HSF := Lib.hid (fun W => iSure false W)
  obtain ⟨ua, un, ucap, rfl⟩ := b.hu
  have HCMP := Lib.hid (fun X (h : Below W.heap.size W X) => b.hcmp x X hk b.hPx (b.h7.trans (h.mono b.h7.size)))
  generalize g.cmp x = cc at HF HCMP
  obtain ⟨c1, c2⟩ := cc
  have hdi : ¬ (((0 : Nat) : Int) < (x.ops.length : Int)) := by omega
  generalize x.ops.length = no at HCO hdi
  generalize hofn : g.ofN = ofn at HK ⊢
  obtain ⟨oy, on⟩ := ofn
  clear hofn b hrun hd 
  unfold weighBody weighAct
  simp only [Try.f63, T.agg]
  gi_wp2_with (first | (refine wpListIn_invoke (fun _ => trivial) rfl rfl _ _ rfl _ rfl fo recv (HCM.out _) _ (CallsIn.inRound l (callsIn_wide.2 (HCO.out _))) ?_; rintro e w4 ⟨rfl, b4⟩; refine ⟨_, rfl, ?_⟩; obtain ⟨e4, _, _, _⟩ := HK.out _ b4; have B4 := Lib.hid b4; clear b4) | (refine ⟨trivial, ?_⟩; gi_at_call 64; refine (CallsIn.inRound l (callsIn_wide.2 (HSF.out _))).mono ?_; clear HSF; rintro e w5 ⟨rfl, b5⟩; have B5 := Lib.hid (below_then B4.out b5 B4.out.size); have B6 := Lib.hid (B5.out.alloc B5.out.size (.cells #[.bool false, .bool true] 103)); have R5 := Lib.hid (blk_new w5 [.bool false, .bool true] 103); have B6b := Lib.hid (B6.out.alloc B6.out.size (.cells #[.int .i64 x.col, .int .i64 x.op, .int .i64 x.v.ty, .int .i64 x.v.n, .string x.v.s] 107)); obtain ⟨e4, e2, e10, e11⟩ := HK.out _ B6b.out; clear b5) | (refine ⟨trivial, ?_⟩; refine (CallsIn.inRound l (callsIn_wide.2 (HCMP.out _ B6b.out))).mono ?_; clear HCMP e4 e2 e10 e11; rintro e w7 ⟨rfl, b7⟩; have B7 := Lib.hid (below_then B6b.out b7 B6b.out.size); obtain ⟨⟨q0, g0⟩, q1, g1⟩ : (w7.cell? ⟨w5.heap.size, 0, none⟩ = some (.bool false) ∧ w7.frozen? ⟨w5.heap.size, 0, none⟩ = false) ∧ w7.cell? ⟨w5.heap.size, 1, none⟩ = some (.bool true) ∧ w7.frozen? ⟨w5.heap.size, 1, none⟩ = false := ⟨R5.out.below ((below_alloc (w5.alloc (.cells #[.bool false, .bool true] 103)) (.cells #[.int .i64 x.col, .int .i64 x.op, .int .i64 x.v.ty, .int .i64 x.v.n, .string x.v.s] 107)).trans (b7.mono (below_alloc (w5.alloc (.cells #[.bool false, .bool true] 103)) (.cells #[.int .i64 x.col, .int .i64 x.op, .int .i64 x.v.ty, .int .i64 x.v.n, .string x.v.s] 107)).size)) 0 _ rfl, R5.out.below ((below_alloc (w5.alloc (.cells #[.bool false, .bool true] 103)) (.cells #[.int .i64 x.col, .int .i64 x.op, .int .i64 x.v.ty, .int .i64 x.v.n, .string x.v.s] 107)).trans (b7.mono (below_alloc (w5.alloc (.cells #[.bool false, .bool true] 103)) (.cells #[.int .i64 x.col, .int .i64 x.op, .int .i64 x.v.ty, .int .i64 x.v.n, .string x.v.s] 107)).size)) 1 _ rfl⟩; clear b7))
  obtain ⟨X, hX⟩ : ∃ X, (w7.setCell ⟨w5.heap.size, 0, none⟩ (.bool c1)).setCell ⟨w5.heap.size, 1, none⟩ (.bool c2) = X := ⟨_, rfl⟩
  have RX : Blk ((w7.setCell ⟨w5.heap.size, 0, none⟩ (.bool c1)).setCell ⟨w5.heap.size, 1, none⟩ (.bool c2)) w5.heap.size [.bool c1, .bool c2] := by
    have h : Blk w7 w5.heap.size [.bool false, .bool true] := fun i x hx => by
      match i, hx with
      | 0, hx => simp at hx; subst hx; exact ⟨q0, g0⟩
      | 1, hx => simp at hx; subst hx; exact ⟨q1, g1⟩
    exact (h.set 0 _).set 1 _
  have o0 := (RX 0 _ rfl).1
  have o1 := (RX 1 _ rfl).1
  have hBX := (B7.out.setCell (p := ⟨w5.heap.size, 0, none⟩) B5.out.size (.bool c1)).setCell (p := ⟨w5.heap.size, 1, none⟩) B5.out.size (.bool c2)
  have e4 := (HK.out _ hBX).c4
  rw [hX] at e4 o0 o1 hBX ⊢
  clear HK HCO HCM RX q0 q1 g0 g1 hX
  obtain ⟨g8, cap8, W8, hap, y4, yf, HZP⟩ := HF.out X.drew hBX.drew
  have e4b := ((below_alloc X (.cells #[.bool c1, .bool c2] 103)).cell (p := ⟨w.heap.size + 4, 0, none⟩) (lt_of_cell e4)).trans e4
  refine round_held (S := fun _ => True) (by kernel_rfl) (by kernel_rfl) trivial (fun hHeld => ?_)
  refine takeH (i := 1) (d := some 65) (v := .int .i64 0) rfl rfl (by kernel_rfl) (by kernel_rfl) (by kernel_rfl) (fun _ _ _ h => h) (Or.inl ⟨by rfl, fun W hSw => by go_simp⟩) hHeld ?_
  simp only [put_some, List.set_cons_zero, List.set_cons_succ]
  refine wpAnyH_ready (rs := [0, 3]) (by kernel_rfl) (by simp) ?_
  refine AllReadyH.cons rfl (fun K hK => ?_) (AllReadyH.cons rfl (fun K hK => ?_) AllReadyH.nil)
  · go_simp
    refine hK.out _ _ trivial (fun hHeld => ?_)
    clear hK K
    refine takeH (i := 2) (d := some 66) (v := .slice none 0 0) rfl rfl (by kernel_rfl) (by kernel_rfl) (by kernel_rfl) (fun _ _ _ h => h) (Or.inl ⟨by rfl, fun W hSw => by go_simp⟩) hHeld ?_
    simp only [put_some, List.set_cons_zero, List.set_cons_succ]
    refine wpAnyH_ready (rs := [3]) (by kernel_rfl) (by simp) ?_
    refine AllReadyH.cons rfl (fun K hK => ?_) AllReadyH.nil
    go_simp
    refine hK.out _ _ trivial (fun hHeld => ?_)
    clear hK K
    refine wpAnyH_ready (rs := [4]) (by kernel_rfl) (by simp) ?_
    refine AllReadyH.cons rfl (fun K hK => ?_) AllReadyH.nil
    go_simp
    refine hK.out _ _ trivial (fun hHeld => ?_)
    clear hK K
    refine wpAnyH_ready (rs := [5]) (by kernel_rfl) (by simp) ?_
    refine AllReadyH.cons rfl (fun K hK => ?_) AllReadyH.nil
    refine append_run_op (.tmp 66) (.tmp 68) _ rfl _ _ rfl rfl _ _ hap ?_
    refine hK.out _ _ trivial (fun hHeld => ?_)
    clear hK K
    refine wpAnyH_ready (rs := [6]) (by kernel_rfl) (by simp) ?_
    refine AllReadyH.cons rfl (fun K hK => ?_) AllReadyH.nil
    go_simp
    refine hK.out _ _ trivial (fun hHeld => ?_)
    clear hK K
    refine wpAnyH_done (by kernel_rfl) ?_ _
    exact HZP
  · go_simp
    refine hK.out _ _ trivial (fun hHeld => ?_)
    clear hK K
    refine wpAnyH_ready (rs := [0, 4]) (by kernel_rfl) (by simp) ?_
    refine AllReadyH.cons rfl (fun K hK => ?_) (AllReadyH.cons rfl (fun K hK => ?_) AllReadyH.nil)
    · go_simp
      refine hK.out _ _ trivial (fun hHeld => ?_)
      clear hK K
      refine takeH (i := 2) (d := some 66) (v := .slice none 0 0) rfl rfl (by kernel_rfl) (by kernel_rfl) (by kernel_rfl) (fun _ _ _ h => h) (Or.inl ⟨by rfl, fun W hSw => by go_simp⟩) hHeld ?_
      simp only [put_some, List.set_cons_zero, List.set_cons_succ]
      refine wpAnyH_ready (rs := [4]) (by kernel_rfl) (by simp) ?_
      refine AllReadyH.cons rfl (fun K hK => ?_) AllReadyH.nil
      go_simp
      refine hK.out _ _ trivial (fun hHeld => ?_)
      clear hK K
      refine wpAnyH_ready (rs := [5]) (by kernel_rfl) (by simp) ?_
      refine AllReadyH.cons rfl (fun K hK => ?_) AllReadyH.nil
      refine append_run_op (.tmp 66) (.tmp 68) _ rfl _ _ rfl rfl _ _ hap ?_
      refine hK.out _ _ trivial (fun hHeld => ?_)
      clear hK K
      refine wpAnyH_ready (rs := [6]) (by kernel_rfl) (by simp) ?_
      refine AllReadyH.cons rfl (fun K hK => ?_) AllReadyH.nil
      go_simp
      refine hK.out _ _ trivial (fun hHeld => ?_)
      clear hK K
      refine wpAnyH_done (by kernel_rfl) ?_ _
      exact HZP
    · go_simp
      refine hK.out _ _ trivial (fun hHeld => ?_)
      clear hK K
      refine wpAnyH_ready (rs := [0]) (by kernel_rfl) (by simp) ?_
      refine AllReadyH.cons rfl (fun K hK => ?_) AllReadyH.nil
      go_simp
      refine hK.out _ _ trivial (fun hHeld => ?_)
      clear hK K
      refine takeH (i := 2) (d := some 66) (v := .slice none 0 0) rfl rfl (by kernel_rfl) (by kernel_rfl) (by kernel_rfl) (fun _ _ _ h => h) (Or.inl ⟨by rfl, fun W hSw => by go_simp⟩) hHeld ?_
      simp only [put_some, List.set_cons_zero, List.set_cons_succ]
      refine wpAnyH_ready (rs := [5]) (by kernel_rfl) (by simp) ?_
      refine AllReadyH.cons rfl (fun K hK => ?_) AllReadyH.nil
      refine append_run_op (.tmp 66) (.tmp 68) _ rfl _ _ rfl rfl _ _ hap ?_
      refine hK.out _ _ trivial (fun hHeld => ?_)
      clear hK K
      refine wpAnyH_ready (rs := [6]) (by kernel_rfl) (by simp) ?_
      refine AllReadyH.cons rfl (fun K hK => ?_) AllReadyH.nil
      go_simp
      refine hK.out _ _ trivial (fun hHeld => ?_)
      clear hK K
      refine wpAnyH_done (by kernel_rfl) ?_ _
      exact HZP

set_option maxRecDepth 100000 in
set_option maxHeartbeats 8000000 in
theorem wb_2_own {g : Weigh} {P : T → Prop} {fc : Nat} {ca : Value} {t : T} {u : Value} {L : List Vis} {w : World} {lo l n k : Nat} {R Z : Nat → Prop} {W : World} {x : T} {xu : Value} {fo : Nat} {recv : Value} {la : Option Addr} {lcap : Nat} {d s gb cap : Nat} {D : List Ch}
    (hn : 1 ≤ n) (heg : ∀ args w, (callFunc fc args).run Try.prog w = .ok (.enter fc args) w) (b : WB g P fc ca t u L w lo k R Z W x xu d D (.slice (some ⟨gb, 0, none⟩) D.length cap) fo recv la lcap) (ho : Own 103 2 lo W.heap.size W (.slice (some ⟨gb, 0, none⟩) D.length cap) D.length (chcs D)) (hk : x.kind = 2) (hd : d = x.ops.length) (hs : D.length = s + d) (hrun : g.run (L.take (k + 1)) [] = some (D.take s ++ [g.comb x (D.drop s)])) :
    weighBody.wpIn (Fence.wide.inRound l) n Try.prog (zPost R (WeighInv g L w lo (.func (.func fc) #[] #[ca])) k Z W) (weighAct t u (chV g.ofN) (.func (.func fc) #[] #[ca]) w.heap.size (condV x xu) (.int .i64 d)) W := by
  rw [g.comb_2 _ hk] at hrun
  have HF := Lib.hid (fun (Wc : World) (hc : Below W.heap.size W Wc) => b.fin (s := s) (c := (g.cmp x)) (by omega) (by simpa using hrun) hc)
  rw [hs] at b HF
  simp only [headV] at HF
  have HK := Lib.hid (fun (X : World) (h : Below W.heap.size W X) => b.wk h)
  have HCO := Lib.hid b.hco
  have HCM := Lib.hid b.hcm
  rw [condV_2 xu hk] at HCM ⊢
  have a1 : ∀ W : World, (Instr.typeAssert (.iface 107 (.agg #[.int .i64 x.col, .int .i64 x.op, .int .i64 x.v.ty, .int .i64 x.v.n, .string x.v.s])) 136 139 true).run Try.prog W = .ok (.tuple #[.agg #[], .bool false]) W := fun W => by kernel_rfl
  have a2 : ∀ W : World, (Instr.typeAssert (.iface 107 (.agg #[.int .i64 x.col, .int .i64 x.op, .int .i64 x.v.ty, .int .i64 x.v.n, .string x.v.s])) 136 107 true).run Try.prog W = .ok (.tuple #[.agg #[.int .i64 x.col, .int .i64 x.op, .int .i64 x.v.ty, .int .i64 x.v.n, .string x.v.s], .bool true]) W := fun W => by kernel_rfl
  have HSF := Lib.hid (fun W => iSure false W)
  have hsd : s + d ≤ 2097154 := by
    have := b.hD
    omega
  have hsc : ¬ cap < s := by
    obtain ⟨x1, x2, x3, e, h1, _⟩ := ho.at
    cases e
    omega
  obtain ⟨ua, un, ucap, rfl⟩ := b.hu
  have HCMP := Lib.hid (fun X (h : Below W.heap.size W X) => b.hcmp x X hk b.hPx (b.h7.trans (h.mono b.h7.size)))
  generalize g.cmp x = cc at HF HCMP
  obtain ⟨c1, c2⟩ := cc
  have hdi : ¬ ((d : Int) < (x.ops.length : Int)) := by omega
  generalize x.ops.length = no at HCO hdi
  generalize hofn : g.ofN = ofn at HK ⊢
  obtain ⟨oy, on⟩ := ofn
  clear hofn b hrun hd hs ho
  unfold weighBody weighAct
  simp only [Try.f63, T.agg]
  gi_wp2_with (first | (refine wpListIn_invoke (fun _ => trivial) rfl rfl _ _ rfl _ rfl fo recv (HCM.out _) _ (CallsIn.inRound l (callsIn_wide.2 (HCO.out _))) ?_; rintro e w4 ⟨rfl, b4⟩; refine ⟨_, rfl, ?_⟩; obtain ⟨e4, _, _, _⟩ := HK.out _ b4; have B4 := Lib.hid b4; clear b4) | (refine ⟨trivial, ?_⟩; gi_at_call 64; refine (CallsIn.inRound l (callsIn_wide.2 (HSF.out _))).mono ?_; clear HSF; rintro e w5 ⟨rfl, b5⟩; have B5 := Lib.hid (below_then B4.out b5 B4.out.size); have B6 := Lib.hid (B5.out.alloc B5.out.size (.cells #[.bool false, .bool true] 103)); have R5 := Lib.hid (blk_new w5 [.bool false, .bool true] 103); have B6b := Lib.hid (B6.out.alloc B6.out.size (.cells #[.int .i64 x.col, .int .i64 x.op, .int .i64 x.v.ty, .int .i64 x.v.n, .string x.v.s] 107)); obtain ⟨e4, e2, e10, e11⟩ := HK.out _ B6b.out; clear b5) | (refine ⟨trivial, ?_⟩; refine (CallsIn.inRound l (callsIn_wide.2 (HCMP.out _ B6b.out))).mono ?_; clear HCMP e4 e2 e10 e11; rintro e w7 ⟨rfl, b7⟩; have B7 := Lib.hid (below_then B6b.out b7 B6b.out.size); obtain ⟨⟨q0, g0⟩, q1, g1⟩ : (w7.cell? ⟨w5.heap.size, 0, none⟩ = some (.bool false) ∧ w7.frozen? ⟨w5.heap.size, 0, none⟩ = false) ∧ w7.cell? ⟨w5.heap.size, 1, none⟩ = some (.bool true) ∧ w7.frozen? ⟨w5.heap.size, 1, none⟩ = false := ⟨R5.out.below ((below_alloc (w5.alloc (.cells #[.bool false, .bool true] 103)) (.cells #[.int .i64 x.col, .int .i64 x.op, .int .i64 x.v.ty, .int .i64 x.v.n, .string x.v.s] 107)).trans (b7.mono (below_alloc (w5.alloc (.cells #[.bool false, .bool true] 103)) (.cells #[.int .i64 x.col, .int .i64 x.op, .int .i64 x.v.ty, .int .i64 x.v.n, .string x.v.s] 107)).size)) 0 _ rfl, R5.out.below ((below_alloc (w5.alloc (.cells #[.bool false, .bool true] 103)) (.cells #[.int .i64 x.col, .int .i64 x.op, .int .i64 x.v.ty, .int .i64 x.v.n, .string x.v.s] 107)).trans (b7.mono (below_alloc (w5.alloc (.cells #[.bool false, .bool true] 103)) (.cells #[.int .i64 x.col, .int .i64 x.op, .int .i64 x.v.ty, .int .i64 x.v.n, .string x.v.s] 107)).size)) 1 _ rfl⟩; clear b7))
  obtain ⟨X, hX⟩ : ∃ X, (w7.setCell ⟨w5.heap.size, 0, none⟩ (.bool c1)).setCell ⟨w5.heap.size, 1, none⟩ (.bool c2) = X := ⟨_, rfl⟩
  have RX : Blk ((w7.setCell ⟨w5.heap.size, 0, none⟩ (.bool c1)).setCell ⟨w5.heap.size, 1, none⟩ (.bool c2)) w5.heap.size [.bool c1, .bool c2] := by
    have h : Blk w7 w5.heap.size [.bool false, .bool true] := fun i x hx => by
      match i, hx with
      | 0, hx => simp at hx; subst hx; exact ⟨q0, g0⟩
      | 1, hx => simp at hx; subst hx; exact ⟨q1, g1⟩
    exact (h.set 0 _).set 1 _
  have o0 := (RX 0 _ rfl).1
  have o1 := (RX 1 _ rfl).1
  have hBX := (B7.out.setCell (p := ⟨w5.heap.size, 0, none⟩) B5.out.size (.bool c1)).setCell (p := ⟨w5.heap.size, 1, none⟩) B5.out.size (.bool c2)
  have e4 := (HK.out _ hBX).c4
  rw [hX] at e4 o0 o1 hBX ⊢
  clear HK HCO HCM RX q0 q1 g0 g1 hX
  obtain ⟨g8, cap8, W8, hap, y4, yf, HZP⟩ := HF.out X.drew hBX.drew
  have e4b := ((below_alloc X (.cells #[.bool c1, .bool c2] 103)).cell (p := ⟨w.heap.size + 4, 0, none⟩) (lt_of_cell e4)).trans e4
  refine round_held (S := fun _ => True) (by kernel_rfl) (by kernel_rfl) trivial (fun hHeld => ?_)
  refine takeH (i := 1) (d := some 65) (v := .int .i64 s) rfl rfl (by kernel_rfl) (by kernel_rfl) (by kernel_rfl) (fun _ _ _ h => h) (Or.inl ⟨by rfl, fun W hSw => by go_simp⟩) hHeld ?_
  simp only [put_some, List.set_cons_zero, List.set_cons_succ]
  refine wpAnyH_ready (rs := [0, 3]) (by kernel_rfl) (by simp) ?_
  refine AllReadyH.cons rfl (fun K hK => ?_) (AllReadyH.cons rfl (fun K hK => ?_) AllReadyH.nil)
  · go_simp
    refine hK.out _ _ trivial (fun hHeld => ?_)
    clear hK K
    refine takeH (i := 2) (d := some 66) (v := .slice (some ⟨gb, 0, none⟩) s cap) rfl rfl (by kernel_rfl) (by kernel_rfl) (by kernel_rfl) (fun _ _ _ h => h) (Or.inl ⟨by rfl, fun W hSw => by go_simp⟩) hHeld ?_
    simp only [put_some, List.set_cons_zero, List.set_cons_succ]
    refine wpAnyH_ready (rs := [3]) (by kernel_rfl) (by simp) ?_
    refine AllReadyH.cons rfl (fun K hK => ?_) AllReadyH.nil
    go_simp
    refine hK.out _ _ trivial (fun hHeld => ?_)
    clear hK K
    refine wpAnyH_ready (rs := [4]) (by kernel_rfl) (by simp) ?_
    refine AllReadyH.cons rfl (fun K hK => ?_) AllReadyH.nil
    go_simp
    refine hK.out _ _ trivial (fun hHeld => ?_)
    clear hK K
    refine wpAnyH_ready (rs := [5]) (by kernel_rfl) (by simp) ?_
    refine AllReadyH.cons rfl (fun K hK => ?_) AllReadyH.nil
    refine append_run_op (.tmp 66) (.tmp 68) _ rfl _ _ rfl rfl _ _ hap ?_
    refine hK.out _ _ trivial (fun hHeld => ?_)
    clear hK K
    refine wpAnyH_ready (rs := [6]) (by kernel_rfl) (by simp) ?_
    refine AllReadyH.cons rfl (fun K hK => ?_) AllReadyH.nil
    go_simp
    refine hK.out _ _ trivial (fun hHeld => ?_)
    clear hK K
    refine wpAnyH_done (by kernel_rfl) ?_ _
    exact HZP
  · go_simp
    refine hK.out _ _ trivial (fun hHeld => ?_)
    clear hK K
    refine wpAnyH_ready (rs := [0, 4]) (by kernel_rfl) (by simp) ?_
    refine AllReadyH.cons rfl (fun K hK => ?_) (AllReadyH.cons rfl (fun K hK => ?_) AllReadyH.nil)
    · go_simp
      refine hK.out _ _ trivial (fun hHeld => ?_)
      clear hK K
      refine takeH (i := 2) (d := some 66) (v := .slice (some ⟨gb, 0, none⟩) s cap) rfl rfl (by kernel_rfl) (by kernel_rfl) (by kernel_rfl) (fun _ _ _ h => h) (Or.inl ⟨by rfl, fun W hSw => by go_simp⟩) hHeld ?_
      simp only [put_some, List.set_cons_zero, List.set_cons_succ]
      refine wpAnyH_ready (rs := [4]) (by kernel_rfl) (by simp) ?_
      refine AllReadyH.cons rfl (fun K hK => ?_) AllReadyH.nil
      go_simp
      refine hK.out _ _ trivial (fun hHeld => ?_)
      clear hK K
      refine wpAnyH_ready (rs := [5]) (by kernel_rfl) (by simp) ?_
      refine AllReadyH.cons rfl (fun K hK => ?_) AllReadyH.nil
      refine append_run_op (.tmp 66) (.tmp 68) _ rfl _ _ rfl rfl _ _ hap ?_
      refine hK.out _ _ trivial (fun hHeld => ?_)
      clear hK K
      refine wpAnyH_ready (rs := [6]) (by kernel_rfl) (by simp) ?_
      refine AllReadyH.cons rfl (fun K hK => ?_) AllReadyH.nil
      go_simp
      refine hK.out _ _ trivial (fun hHeld => ?_)
      clear hK K
      refine wpAnyH_done (by kernel_rfl) ?_ _
      exact HZP
    · go_simp
      refine hK.out _ _ trivial (fun hHeld => ?_)
      clear hK K
      refine wpAnyH_ready (rs := [0]) (by kernel_rfl) (by simp) ?_
      refine AllReadyH.cons rfl (fun K hK => ?_) AllReadyH.nil
      go_simp
      refine hK.out _ _ trivial (fun hHeld => ?_)
      clear hK K
      refine takeH (i := 2) (d := some 66) (v := .slice (some ⟨gb, 0, none⟩) s cap) rfl rfl (by kernel_rfl) (by kernel_rfl) (by kernel_rfl) (fun _ _ _ h => h) (Or.inl ⟨by rfl, fun W hSw => by go_simp⟩) hHeld ?_
      simp only [put_some, List.set_cons_zero, List.set_cons_succ]
      refine wpAnyH_ready (rs := [5]) (by kernel_rfl) (by simp) ?_
      refine AllReadyH.cons rfl (fun K hK => ?_) AllReadyH.nil
      refine append_run_op (.tmp 66) (.tmp 68) _ rfl _ _ rfl rfl _ _ hap ?_
      refine hK.out _ _ trivial (fun hHeld => ?_)
      clear hK K
      refine wpAnyH_ready (rs := [6]) (by kernel_rfl) (by simp) ?_
      refine AllReadyH.cons rfl (fun K hK => ?_) AllReadyH.nil
      go_simp
      refine hK.out _ _ trivial (fun hHeld => ?_)
      clear hK K
      refine wpAnyH_done (by kernel_rfl) ?_ _
      exact HZP

theorem wb_2 {g : Weigh} {P : T → Prop} {fc : Nat} {ca : Value} {t : T} {u : Value} {L : List Vis} {w : World} {lo l n k : Nat} {R Z : Nat → Prop} {W : World} {x : T} {xu : Value} {d : Nat} {D : List Ch} {v : Value} {fo : Nat} {recv : Value} {la : Option Addr} {lcap : Nat}
    (hn : 1 ≤ n) (heg : ∀ args w, (callFunc fc args).run Try.prog w = .ok (.enter fc args) w) (b : WB g P fc ca t u L w lo k R Z W x xu d D v fo recv la lcap) (hk : x.kind = 2) (hd : d = x.ops.length) (hdD : d ≤ D.length) (hrun : g.run (L.take (k + 1)) [] = some (D.take (D.length - d) ++ [g.comb x (D.drop (D.length - d))])) :
    weighBody.wpIn (Fence.wide.inRound l) n Try.prog (zPost R (WeighInv g L w lo (.func (.func fc) #[] #[ca])) k Z W) (weighAct t u (chV g.ofN) (.func (.func fc) #[] #[ca]) w.heap.size (condV x xu) (.int .i64 d)) W := by
  obtain ⟨s, hs⟩ : ∃ s, D.length = s + d := ⟨D.length - d, by omega⟩
  rw [show D.length - d = s by omega] at hrun
  rcases b.h3 with ⟨rfl, rfl⟩ | ⟨gb, cap, rfl, ho, _⟩
  · obtain ⟨rfl, rfl⟩ : s = 0 ∧ d = 0 := by
      simp at hs
      omega
    exact wb_2_nil hn heg b hk hd hrun
  · exact wb_2_own hn heg b ho hk hd hs hrun

end Go.Proofs.Ytafoldpmodipaaa

/- The body of weigh's loop at a predicate whose operands are done: of kind 3 (written by mk_IWB.py). -/
namespace Go.Proofs.Ytafoldpmodipaaa
open Go.RowKit Go.Shelf

attribute [local go_sem] Oper.semAt_some

set_option maxRecDepth 100000 in
set_option maxHeartbeats 8000000 in
theorem wb_3_nil {g : Weigh} {P : T → Prop} {fc : Nat} {ca : Value} {t : T} {u : Value} {L : List Vis} {w : World} {lo l n k : Nat} {R Z : Nat → Prop} {W : World} {x : T} {xu : Value} {fo : Nat} {recv : Value} {la : Option Addr} {lcap : Nat}
    (hn : 1 ≤ n) (_ : ∀ args w, (callFunc fc args).run Try.prog w = .ok (.enter fc args) w) (b : WB g P fc ca t u L w lo k R Z W x xu 0 [] (.slice none 0 0) fo recv la lcap) (hk : x.kind = 3) (hd : 0 = x.ops.length) (hrun : g.run (L.take (k + 1)) [] = some ([].take 0 ++ [g.comb x ([].drop 0)])) :
    weighBody.wpIn (Fence.wide.inRound l) n Try.prog (zPost R (WeighInv g L w lo (.func (.func fc) #[] #[ca])) k Z W) (weighAct t u (chV g.ofN) (.func (.func fc) #[] #[ca]) w.heap.size (condV x xu) (.int .i64 (0 : Nat))) W := by
  rw [g.comb_3 _ hk] at hrun
  have HF := Lib.hid (fun (Wc : World) (hc : Below W.heap.size W Wc) => b.fin (s := 0) (c := ((([] : List Ch).drop 0).all (·.1), (([] : List Ch).drop 0).any (·.2))) (Nat.le_refl _) (by simpa using hrun) hc)
  simp only [headV] at HF
  have HK := Lib.hid (fun (X : World) (h : Below W.heap.size W X) => b.wk h)
  have HCO := Lib.hid b.hco
  have HCM := Lib.hid b.hcm
  rw [condV_3 xu hk] at HCM ⊢
  obtain ⟨xa, xn, xc, rfl⟩ := b.hxu
  have a1 : ∀ W : World, (Instr.typeAssert (.iface 140 (.slice xa xn xc)) 136 139 true).run Try.prog W = .ok (.tuple #[.agg #[], .bool false]) W := fun W => by kernel_rfl
  have a2 : ∀ W : World, (Instr.typeAssert (.iface 140 (.slice xa xn xc)) 136 107 true).run Try.prog W = .ok (.tuple #[.agg #[.int .i64 0, .int .i64 0, .int .i64 0, .int .i64 0, .string ⟨#[]⟩], .bool false]) W := fun W => by kernel_rfl
  have a3 : ∀ W : World, (Instr.typeAssert (.iface 140 (.slice xa xn xc)) 136 140 true).run Try.prog W = .ok (.tuple #[.slice xa xn xc, .bool true]) W := fun W => by kernel_rfl
  have HSF := Lib.hid (fun W => iSure false W)
  obtain ⟨ua, un, ucap, rfl⟩ := b.hu
  have HALL := Lib.hid (fun X (_ : Below W.heap.size W X) => iAllOf (([] : List Ch).drop 0) 0 (.slice none 0 0) X rfl ⟨none, 0, rfl, Nat.zero_le _, rfl, .inl rfl⟩)
  generalize (([] : List Ch).drop 0).all (·.1) = c1 at HF HALL
  generalize (([] : List Ch).drop 0).any (·.2) = c2 at HF HALL
  have hdi : ¬ (((0 : Nat) : Int) < (x.ops.length : Int)) := by omega
  generalize x.ops.length = no at HCO hdi
  generalize hofn : g.ofN = ofn at HK ⊢
  obtain ⟨oy, on⟩ := ofn
  clear b hrun hd 
  unfold weighBody weighAct
  simp only [Try.f63, T.agg]
  gi_wp2_with (first | (refine wpListIn_invoke (fun _ => trivial) rfl rfl _ _ rfl _ rfl fo recv (HCM.out _) _ (CallsIn.inRound l (callsIn_wide.2 (HCO.out _))) ?_; rintro e w4 ⟨rfl, b4⟩; refine ⟨_, rfl, ?_⟩; obtain ⟨e4, _, _, _⟩ := HK.out _ b4; have B4 := Lib.hid b4; clear b4) | (refine ⟨trivial, ?_⟩; gi_at_call 64; refine (CallsIn.inRound l (callsIn_wide.2 (HSF.out _))).mono ?_; clear HSF; rintro e w5 ⟨rfl, b5⟩; have B5 := Lib.hid (below_then B4.out b5 B4.out.size); have B6 := Lib.hid (B5.out.alloc B5.out.size (.cells #[.bool false, .bool true] 103)); have R5 := Lib.hid (blk_new w5 [.bool false, .bool true] 103); obtain ⟨e4, e2, e10, e11⟩ := HK.out _ B6.out; clear b5) | (refine ⟨trivial, ?_⟩; gi_at_call 100; refine (CallsIn.inRound l (callsIn_wide.2 (HALL.out _ B6.out))).mono ?_; clear HALL e4 e2 e10 e11; rintro e w7 ⟨rfl, b7⟩; have B7 := Lib.hid (below_then B6.out b7 B6.out.size); obtain ⟨⟨q0, g0⟩, q1, g1⟩ : (w7.cell? ⟨w5.heap.size, 0, none⟩ = some (.bool false) ∧ w7.frozen? ⟨w5.heap.size, 0, none⟩ = false) ∧ w7.cell? ⟨w5.heap.size, 1, none⟩ = some (.bool true) ∧ w7.frozen? ⟨w5.heap.size, 1, none⟩ = false := ⟨R5.out.below b7 0 _ rfl, R5.out.below b7 1 _ rfl⟩; clear b7))
  obtain ⟨X, hX⟩ : ∃ X, (w7.setCell ⟨w5.heap.size, 0, none⟩ (.bool c1)).setCell ⟨w5.heap.size, 1, none⟩ (.bool c2) = X := ⟨_, rfl⟩
  have RX : Blk ((w7.setCell ⟨w5.heap.size, 0, none⟩ (.bool c1)).setCell ⟨w5.heap.size, 1, none⟩ (.bool c2)) w5.heap.size [.bool c1, .bool c2] := by
    have h : Blk w7 w5.heap.size [.bool false, .bool true] := fun i x hx => by
      match i, hx with
      | 0, hx => simp at hx; subst hx; exact ⟨q0, g0⟩
      | 1, hx => simp at hx; subst hx; exact ⟨q1, g1⟩
    exact (h.set 0 _).set 1 _
  have o0 := (RX 0 _ rfl).1
  have o1 := (RX 1 _ rfl).1
  have hBX := (B7.out.setCell (p := ⟨w5.heap.size, 0, none⟩) B5.out.size (.bool c1)).setCell (p := ⟨w5.heap.size, 1, none⟩) B5.out.size (.bool c2)
  have e4 := (HK.out _ hBX).c4
  rw [hX] at e4 o0 o1 hBX ⊢
  clear HK HCO HCM RX q0 q1 g0 g1 hX
  obtain ⟨g8, cap8, W8, hap, y4, yf, HZP⟩ := HF.out X.drew hBX.drew
  have e4b := ((below_alloc X (.cells #[.bool c1, .bool c2] 103)).cell (p := ⟨w.heap.size + 4, 0, none⟩) (lt_of_cell e4)).trans e4
  refine round_held (S := fun _ => True) (by kernel_rfl) (by kernel_rfl) trivial (fun hHeld => ?_)
  refine takeH (i := 1) (d := some 65) (v := .int .i64 0) rfl rfl (by kernel_rfl) (by kernel_rfl) (by kernel_rfl) (fun _ _ _ h => h) (Or.inl ⟨by rfl, fun W hSw => by go_simp⟩) hHeld ?_
  simp only [put_some, List.set_cons_zero, List.set_cons_succ]
  refine wpAnyH_ready (rs := [0, 3]) (by kernel_rfl) (by simp) ?_
  refine AllReadyH.cons rfl (fun K hK => ?_) (AllReadyH.cons rfl (fun K hK => ?_) AllReadyH.nil)
  · go_simp
    refine hK.out _ _ trivial (fun hHeld => ?_)
    clear hK K
    refine takeH (i := 2) (d := some 66) (v := .slice none 0 0) rfl rfl (by kernel_rfl) (by kernel_rfl) (by kernel_rfl) (fun _ _ _ h => h) (Or.inl ⟨by rfl, fun W hSw => by go_simp⟩) hHeld ?_
    simp only [put_some, List.set_cons_zero, List.set_cons_succ]
    refine wpAnyH_ready (rs := [3]) (by kernel_rfl) (by simp) ?_
    refine AllReadyH.cons rfl (fun K hK => ?_) AllReadyH.nil
    go_simp
    refine hK.out _ _ trivial (fun hHeld => ?_)
    clear hK K
    refine wpAnyH_ready (rs := [4]) (by kernel_rfl) (by simp) ?_
    refine AllReadyH.cons rfl (fun K hK => ?_) AllReadyH.nil
    go_simp
    refine hK.out _ _ trivial (fun hHeld => ?_)
    clear hK K
    refine wpAnyH_ready (rs := [5]) (by kernel_rfl) (by simp) ?_
    refine AllReadyH.cons rfl (fun K hK => ?_) AllReadyH.nil
    refine append_run_op (.tmp 66) (.tmp 68) _ rfl _ _ rfl rfl _ _ hap ?_
    refine hK.out _ _ trivial (fun hHeld => ?_)
    clear hK K
    refine wpAnyH_ready (rs := [6]) (by kernel_rfl) (by simp) ?_
    refine AllReadyH.cons rfl (fun K hK => ?_) AllReadyH.nil
    go_simp
    refine hK.out _ _ trivial (fun hHeld => ?_)
    clear hK K
    refine wpAnyH_done (by kernel_rfl) ?_ _
    exact HZP
  · go_simp
    refine hK.out _ _ trivial (fun hHeld => ?_)
    clear hK K
    refine wpAnyH_ready (rs := [0, 4]) (by kernel_rfl) (by simp) ?_
    refine AllReadyH.cons rfl (fun K hK => ?_) (AllReadyH.cons rfl (fun K hK => ?_) AllReadyH.nil)
    · go_simp
      refine hK.out _ _ trivial (fun hHeld => ?_)
      clear hK K
      refine takeH (i := 2) (d := some 66) (v := .slice none 0 0) rfl rfl (by kernel_rfl) (by kernel_rfl) (by kernel_rfl) (fun _ _ _ h => h) (Or.inl ⟨by rfl, fun W hSw => by go_simp⟩) hHeld ?_
      simp only [put_some, List.set_cons_zero, List.set_cons_succ]
      refine wpAnyH_ready (rs := [4]) (by kernel_rfl) (by simp) ?_
      refine AllReadyH.cons rfl (fun K hK => ?_) AllReadyH.nil
      go_simp
      refine hK.out _ _ trivial (fun hHeld => ?_)
      clear hK K
      refine wpAnyH_ready (rs := [5]) (by kernel_rfl) (by simp) ?_
      refine AllReadyH.cons rfl (fun K hK => ?_) AllReadyH.nil
      refine append_run_op (.tmp 66) (.tmp 68) _ rfl _ _ rfl rfl _ _ hap ?_
      refine hK.out _ _ trivial (fun hHeld => ?_)
      clear hK K
      refine wpAnyH_ready (rs := [6]) (by kernel_rfl) (by simp) ?_
      refine AllReadyH.cons rfl (fun K hK => ?_) AllReadyH.nil
      go_simp
      refine hK.out _ _ trivial (fun hHeld => ?_)
      clear hK K
      refine wpAnyH_done (by kernel_rfl) ?_ _
      exact HZP
    · go_simp
      refine hK.out _ _ trivial (fun hHeld => ?_)
      clear hK K
      refine wpAnyH_ready (rs := [0]) (by kernel_rfl) (by simp) ?_
      refine AllReadyH.cons rfl (fun K hK => ?_) AllReadyH.nil
      go_simp
      refine hK.out _ _ trivial (fun hHeld => ?_)
      clear hK K
      refine takeH (i := 2) (d := some 66) (v := .slice none 0 0) rfl rfl (by kernel_rfl) (by kernel_rfl) (by kernel_rfl) (fun _ _ _ h => h) (Or.inl ⟨by rfl, fun W hSw => by go_simp⟩) hHeld ?_
      simp only [put_some, List.set_cons_zero, List.set_cons_succ]
      refine wpAnyH_ready (rs := [5]) (by kernel_rfl) (by simp) ?_
      refine AllReadyH.cons rfl (fun K hK => ?_) AllReadyH.nil
      refine append_run_op (.tmp 66) (.tmp 68) _ rfl _ _ rfl rfl _ _ hap ?_
      refine hK.out _ _ trivial (fun hHeld => ?_)
      clear hK K
      refine wpAnyH_ready (rs := [6]) (by kernel_rfl) (by simp) ?_
      refine AllReadyH.cons rfl (fun K hK => ?_) AllReadyH.nil
      go_simp
      refine hK.out _ _ trivial (fun hHeld => ?_)
      clear hK K
      refine wpAnyH_done (by kernel_rfl) ?_ _
      exact HZP

set_option maxRecDepth 100000 in
set_option maxHeartbeats 8000000 in
theorem wb_3_edge {g : Weigh} {P : T → Prop} {fc : Nat} {ca : Value} {t : T} {u : Value} {L : List Vis} {w : World} {lo l n k : Nat} {R Z : Nat → Prop} {W : World} {x : T} {xu : Value} {fo : Nat} {recv : Value} {la : Option Addr} {lcap : Nat} {s gb : Nat} {D : List Ch}
    (hn : 1 ≤ n) (_ : ∀ args w, (callFunc fc args).run Try.prog w = .ok (.enter fc args) w) (b : WB g P fc ca t u L w lo k R Z W x xu 0 D (.slice (some ⟨gb, 0, none⟩) D.length s) fo recv la lcap) (ho : Own 103 2 lo W.heap.size W (.slice (some ⟨gb, 0, none⟩) D.length s) D.length (chcs D)) (hk : x.kind = 3) (hd : 0 = x.ops.length) (hs : D.length = s) (hrun : g.run (L.take (k + 1)) [] = some (D.take s ++ [g.comb x (D.drop s)])) :
    weighBody.wpIn (Fence.wide.inRound l) n Try.prog (zPost R (WeighInv g L w lo (.func (.func fc) #[] #[ca])) k Z W) (weighAct t u (chV g.ofN) (.func (.func fc) #[] #[ca]) w.heap.size (condV x xu) (.int .i64 (0 : Nat))) W := by
  rw [g.comb_3 _ hk] at hrun
  have HF := Lib.hid (fun (Wc : World) (hc : Below W.heap.size W Wc) => b.fin (s := s) (c := ((D.drop s).all (·.1), (D.drop s).any (·.2))) (by omega) (by simpa using hrun) hc)
  rw [hs] at b HF
  simp only [headV] at HF
  have HK := Lib.hid (fun (X : World) (h : Below W.heap.size W X) => b.wk h)
  have HCO := Lib.hid b.hco
  have HCM := Lib.hid b.hcm
  rw [condV_3 xu hk] at HCM ⊢
  obtain ⟨xa, xn, xc, rfl⟩ := b.hxu
  have a1 : ∀ W : World, (Instr.typeAssert (.iface 140 (.slice xa xn xc)) 136 139 true).run Try.prog W = .ok (.tuple #[.agg #[], .bool false]) W := fun W => by kernel_rfl
  have a2 : ∀ W : World, (Instr.typeAssert (.iface 140 (.slice xa xn xc)) 136 107 true).run Try.prog W = .ok (.tuple #[.agg #[.int .i64 0, .int .i64 0, .int .i64 0, .int .i64 0, .string ⟨#[]⟩], .bool false]) W := fun W => by kernel_rfl
  have a3 : ∀ W : World, (Instr.typeAssert (.iface 140 (.slice xa xn xc)) 136 140 true).run Try.prog W = .ok (.tuple #[.slice xa xn xc, .bool true]) W := fun W => by kernel_rfl
  have HSF := Lib.hid (fun W => iSure false W)
  have hsd : s ≤ 2097154 := by
    have := b.hD
    omega
  obtain ⟨ua, un, ucap, rfl⟩ := b.hu
  have HALL := Lib.hid (fun X (h : Below W.heap.size W X) => iAllOf (D.drop s) 0 (.slice (some ⟨gb, 0, none⟩) 0 0) X (by simp; omega) (drop_rd (s := s) (ho.keep (w' := X) (hi' := X.heap.size) (h.block gb (own_lt ho)) h.size) ⟨by omega, by omega, by have := b.hD; unfold maxLen; omega⟩ (.inr rfl)))
  generalize (D.drop s).all (·.1) = c1 at HF HALL
  generalize (D.drop s).any (·.2) = c2 at HF HALL
  have hdi : ¬ (((0 : Nat) : Int) < (x.ops.length : Int)) := by omega
  generalize x.ops.length = no at HCO hdi
  generalize hofn : g.ofN = ofn at HK ⊢
  obtain ⟨oy, on⟩ := ofn
  clear b hrun hd hs ho
  unfold weighBody weighAct
  simp only [Try.f63, T.agg]
  gi_wp2_with (first | (refine wpListIn_invoke (fun _ => trivial) rfl rfl _ _ rfl _ rfl fo recv (HCM.out _) _ (CallsIn.inRound l (callsIn_wide.2 (HCO.out _))) ?_; rintro e w4 ⟨rfl, b4⟩; refine ⟨_, rfl, ?_⟩; obtain ⟨e4, _, _, _⟩ := HK.out _ b4; have B4 := Lib.hid b4; clear b4) | (refine ⟨trivial, ?_⟩; gi_at_call 64; refine (CallsIn.inRound l (callsIn_wide.2 (HSF.out _))).mono ?_; clear HSF; rintro e w5 ⟨rfl, b5⟩; have B5 := Lib.hid (below_then B4.out b5 B4.out.size); have B6 := Lib.hid (B5.out.alloc B5.out.size (.cells #[.bool false, .bool true] 103)); have R5 := Lib.hid (blk_new w5 [.bool false, .bool true] 103); obtain ⟨e4, e2, e10, e11⟩ := HK.out _ B6.out; clear b5) | (refine ⟨trivial, ?_⟩; gi_at_call 100; refine (CallsIn.inRound l (callsIn_wide.2 (HALL.out _ B6.out))).mono ?_; clear HALL e4 e2 e10 e11; rintro e w7 ⟨rfl, b7⟩; have B7 := Lib.hid (below_then B6.out b7 B6.out.size); obtain ⟨⟨q0, g0⟩, q1, g1⟩ : (w7.cell? ⟨w5.heap.size, 0, none⟩ = some (.bool false) ∧ w7.frozen? ⟨w5.heap.size, 0, none⟩ = false) ∧ w7.cell? ⟨w5.heap.size, 1, none⟩ = some (.bool true) ∧ w7.frozen? ⟨w5.heap.size, 1, none⟩ = false := ⟨R5.out.below b7 0 _ rfl, R5.out.below b7 1 _ rfl⟩; clear b7))
  obtain ⟨X, hX⟩ : ∃ X, (w7.setCell ⟨w5.heap.size, 0, none⟩ (.bool c1)).setCell ⟨w5.heap.size, 1, none⟩ (.bool c2) = X := ⟨_, rfl⟩
  have RX : Blk ((w7.setCell ⟨w5.heap.size, 0, none⟩ (.bool c1)).setCell ⟨w5.heap.size, 1, none⟩ (.bool c2)) w5.heap.size [.bool c1, .bool c2] := by
    have h : Blk w7 w5.heap.size [.bool false, .bool true] := fun i x hx => by
      match i, hx with
      | 0, hx => simp at hx; subst hx; exact ⟨q0, g0⟩
      | 1, hx => simp at hx; subst hx; exact ⟨q1, g1⟩
    exact (h.set 0 _).set 1 _
  have o0 := (RX 0 _ rfl).1
  have o1 := (RX 1 _ rfl).1
  have hBX := (B7.out.setCell (p := ⟨w5.heap.size, 0, none⟩) B5.out.size (.bool c1)).setCell (p := ⟨w5.heap.size, 1, none⟩) B5.out.size (.bool c2)
  have e4 := (HK.out _ hBX).c4
  rw [hX] at e4 o0 o1 hBX ⊢
  clear HK HCO HCM RX q0 q1 g0 g1 hX
  obtain ⟨g8, cap8, W8, hap, y4, yf, HZP⟩ := HF.out X.drew hBX.drew
  have e4b := ((below_alloc X (.cells #[.bool c1, .bool c2] 103)).cell (p := ⟨w.heap.size + 4, 0, none⟩) (lt_of_cell e4)).trans e4
  refine round_held (S := fun _ => True) (by kernel_rfl) (by kernel_rfl) trivial (fun hHeld => ?_)
  refine takeH (i := 1) (d := some 65) (v := .int .i64 s) rfl rfl (by kernel_rfl) (by kernel_rfl) (by kernel_rfl) (fun _ _ _ h => h) (Or.inl ⟨by rfl, fun W hSw => by go_simp⟩) hHeld ?_
  simp only [put_some, List.set_cons_zero, List.set_cons_succ]
  refine wpAnyH_ready (rs := [0, 3]) (by kernel_rfl) (by simp) ?_
  refine AllReadyH.cons rfl (fun K hK => ?_) (AllReadyH.cons rfl (fun K hK => ?_) AllReadyH.nil)
  · go_simp
    refine hK.out _ _ trivial (fun hHeld => ?_)
    clear hK K
    refine takeH (i := 2) (d := some 66) (v := .slice (some ⟨gb, 0, none⟩) s s) rfl rfl (by kernel_rfl) (by kernel_rfl) (by kernel_rfl) (fun _ _ _ h => h) (Or.inl ⟨by rfl, fun W hSw => by go_simp⟩) hHeld ?_
    simp only [put_some, List.set_cons_zero, List.set_cons_succ]
    refine wpAnyH_ready (rs := [3]) (by kernel_rfl) (by simp) ?_
    refine AllReadyH.cons rfl (fun K hK => ?_) AllReadyH.nil
    go_simp
    refine hK.out _ _ trivial (fun hHeld => ?_)
    clear hK K
    refine wpAnyH_ready (rs := [4]) (by kernel_rfl) (by simp) ?_
    refine AllReadyH.cons rfl (fun K hK => ?_) AllReadyH.nil
    go_simp
    refine hK.out _ _ trivial (fun hHeld => ?_)
    clear hK K
    refine wpAnyH_ready (rs := [5]) (by kernel_rfl) (by simp) ?_
    refine AllReadyH.cons rfl (fun K hK => ?_) AllReadyH.nil
    refine append_run_op (.tmp 66) (.tmp 68) _ rfl _ _ rfl rfl _ _ hap ?_
    refine hK.out _ _ trivial (fun hHeld => ?_)
    clear hK K
    refine wpAnyH_ready (rs := [6]) (by kernel_rfl) (by simp) ?_
    refine AllReadyH.cons rfl (fun K hK => ?_) AllReadyH.nil
    go_simp
    refine hK.out _ _ trivial (fun hHeld => ?_)
    clear hK K
    refine wpAnyH_done (by kernel_rfl) ?_ _
    exact HZP
  · go_simp
    refine hK.out _ _ trivial (fun hHeld => ?_)
    clear hK K
    refine wpAnyH_ready (rs := [0, 4]) (by kernel_rfl) (by simp) ?_
    refine AllReadyH.cons rfl (fun K hK => ?_) (AllReadyH.cons rfl (fun K hK => ?_) AllReadyH.nil)
    · go_simp
      refine hK.out _ _ trivial (fun hHeld => ?_)
      clear hK K
      refine takeH (i := 2) (d := some 66) (v := .slice (some ⟨gb, 0, none⟩) s s) rfl rfl (by kernel_rfl) (by kernel_rfl) (by kernel_rfl) (fun _ _ _ h => h) (Or.inl ⟨by rfl, fun W hSw => by go_simp⟩) hHeld ?_
      simp only [put_some, List.set_cons_zero, List.set_cons_succ]
      refine wpAnyH_ready (rs := [4]) (by kernel_rfl) (by simp) ?_
      refine AllReadyH.cons rfl (fun K hK => ?_) AllReadyH.nil
      go_simp
      refine hK.out _ _ trivial (fun hHeld => ?_)
      clear hK K
      refine wpAnyH_ready (rs := [5]) (by kernel_rfl) (by simp) ?_
      refine AllReadyH.cons rfl (fun K hK => ?_) AllReadyH.nil
      refine append_run_op (.tmp 66) (.tmp 68) _ rfl _ _ rfl rfl _ _ hap ?_
      refine hK.out _ _ trivial (fun hHeld => ?_)
      clear hK K
      refine wpAnyH_ready (rs := [6]) (by kernel_rfl) (by simp) ?_
      refine AllReadyH.cons rfl (fun K hK => ?_) AllReadyH.nil
      go_simp
      refine hK.out _ _ trivial (fun hHeld => ?_)
      clear hK K
      refine wpAnyH_done (by kernel_rfl) ?_ _
      exact HZP
    · go_simp
      refine hK.out _ _ trivial (fun hHeld => ?_)
      clear hK K
      refine wpAnyH_ready (rs := [0]) (by kernel_rfl) (by simp) ?_
      refine AllReadyH.cons rfl (fun K hK => ?_) AllReadyH.nil
      go_simp
      refine hK.out _ _ trivial (fun hHeld => ?_)
      clear hK K
      refine takeH (i := 2) (d := some 66) (v := .slice (some ⟨gb, 0, none⟩) s s) rfl rfl (by kernel_rfl) (by kernel_rfl) (by kernel_rfl) (fun _ _ _ h => h) (Or.inl ⟨by rfl, fun W hSw => by go_simp⟩) hHeld ?_
      simp only [put_some, List.set_cons_zero, List.set_cons_succ]
      refine wpAnyH_ready (rs := [5]) (by kernel_rfl) (by simp) ?_
      refine AllReadyH.cons rfl (fun K hK => ?_) AllReadyH.nil
      refine append_run_op (.tmp 66) (.tmp 68) _ rfl _ _ rfl rfl _ _ hap ?_
      refine hK.out _ _ trivial (fun hHeld => ?_)
      clear hK K
      refine wpAnyH_ready (rs := [6]) (by kernel_rfl) (by simp) ?_
      refine AllReadyH.cons rfl (fun K hK => ?_) AllReadyH.nil
      go_simp
      refine hK.out _ _ trivial (fun hHeld => ?_)
      clear hK K
      refine wpAnyH_done (by kernel_rfl) ?_ _
      exact HZP

set_option maxRecDepth 100000 in
set_option maxHeartbeats 8000000 in
theorem wb_3_own {g : Weigh} {P : T → Prop} {fc : Nat} {ca : Value} {t : T} {u : Value} {L : List Vis} {w : World} {lo l n k : Nat} {R Z : Nat → Prop} {W : World} {x : T} {xu : Value} {fo : Nat} {recv : Value} {la : Option Addr} {lcap : Nat} {d s gb cap : Nat} {D : List Ch}
    (hn : 1 ≤ n) (_ : ∀ args w, (callFunc fc args).run Try.prog w = .ok (.enter fc args) w) (b : WB g P fc ca t u L w lo k R Z W x xu d D (.slice (some ⟨gb, 0, none⟩) D.length cap) fo recv la lcap) (ho : Own 103 2 lo W.heap.size W (.slice (some ⟨gb, 0, none⟩) D.length cap) D.length (chcs D)) (hcs : ¬ cap = s) (hk : x.kind = 3) (hd : d = x.ops.length) (hs : D.length = s + d) (hrun : g.run (L.take (k + 1)) [] = some (D.take s ++ [g.comb x (D.drop s)])) :
    weighBody.wpIn (Fence.wide.inRound l) n Try.prog (zPost R (WeighInv g L w lo (.func (.func fc) #[] #[ca])) k Z W) (weighAct t u (chV g.ofN) (.func (.func fc) #[] #[ca]) w.heap.size (condV x xu) (.int .i64 d)) W := by
  rw [g.comb_3 _ hk] at hrun
  have HF := Lib.hid (fun (Wc : World) (hc : Below W.heap.size W Wc) => b.fin (s := s) (c := ((D.drop s).all (·.1), (D.drop s).any (·.2))) (by omega) (by simpa using hrun) hc)
  rw [hs] at b HF
  simp only [headV] at HF
  have HK := Lib.hid (fun (X : World) (h : Below W.heap.size W X) => b.wk h)
  have HCO := Lib.hid b.hco
  have HCM := Lib.hid b.hcm
  rw [condV_3 xu hk] at HCM ⊢
  obtain ⟨xa, xn, xc, rfl⟩ := b.hxu
  have a1 : ∀ W : World, (Instr.typeAssert (.iface 140 (.slice xa xn xc)) 136 139 true).run Try.prog W = .ok (.tuple #[.agg #[], .bool false]) W := fun W => by kernel_rfl
  have a2 : ∀ W : World, (Instr.typeAssert (.iface 140 (.slice xa xn xc)) 136 107 true).run Try.prog W = .ok (.tuple #[.agg #[.int .i64 0, .int .i64 0, .int .i64 0, .int .i64 0, .string ⟨#[]⟩], .bool false]) W := fun W => by kernel_rfl
  have a3 : ∀ W : World, (Instr.typeAssert (.iface 140 (.slice xa xn xc)) 136 140 true).run Try.prog W = .ok (.tuple #[.slice xa xn xc, .bool true]) W := fun W => by kernel_rfl
  have HSF := Lib.hid (fun W => iSure false W)
  have hsd : s + d ≤ 2097154 := by
    have := b.hD
    omega
  have hsc : ¬ cap < s := by
    obtain ⟨x1, x2, x3, e, h1, _⟩ := ho.at
    cases e
    omega
  obtain ⟨ua, un, ucap, rfl⟩ := b.hu
  have HALL := Lib.hid (fun X (h : Below W.heap.size W X) => iAllOf (D.drop s) d (.slice (some ⟨gb, s * 2, none⟩) d (cap - s)) X (by simp; omega) (drop_rd (s := s) (ho.keep (w' := X) (hi' := X.heap.size) (h.block gb (own_lt ho)) h.size) ⟨by omega, by omega, by have := b.hD; unfold maxLen; omega⟩ (.inl rfl)))
  generalize (D.drop s).all (·.1) = c1 at HF HALL
  generalize (D.drop s).any (·.2) = c2 at HF HALL
  have hdi : ¬ ((d : Int) < (x.ops.length : Int)) := by omega
  generalize x.ops.length = no at HCO hdi
  generalize hofn : g.ofN = ofn at HK ⊢
  obtain ⟨oy, on⟩ := ofn
  clear b hrun hd hs ho
  unfold weighBody weighAct
  simp only [Try.f63, T.agg]
  gi_wp2_with (first | (refine wpListIn_invoke (fun _ => trivial) rfl rfl _ _ rfl _ rfl fo recv (HCM.out _) _ (CallsIn.inRound l (callsIn_wide.2 (HCO.out _))) ?_; rintro e w4 ⟨rfl, b4⟩; refine ⟨_, rfl, ?_⟩; obtain ⟨e4, _, _, _⟩ := HK.out _ b4; have B4 := Lib.hid b4; clear b4) | (refine ⟨trivial, ?_⟩; gi_at_call 64; refine (CallsIn.inRound l (callsIn_wide.2 (HSF.out _))).mono ?_; clear HSF; rintro e w5 ⟨rfl, b5⟩; have B5 := Lib.hid (below_then B4.out b5 B4.out.size); have B6 := Lib.hid (B5.out.alloc B5.out.size (.cells #[.bool false, .bool true] 103)); have R5 := Lib.hid (blk_new w5 [.bool false, .bool true] 103); obtain ⟨e4, e2, e10, e11⟩ := HK.out _ B6.out; clear b5) | (refine ⟨trivial, ?_⟩; gi_at_call 100; refine (CallsIn.inRound l (callsIn_wide.2 (HALL.out _ B6.out))).mono ?_; clear HALL e4 e2 e10 e11; rintro e w7 ⟨rfl, b7⟩; have B7 := Lib.hid (below_then B6.out b7 B6.out.size); obtain ⟨⟨q0, g0⟩, q1, g1⟩ : (w7.cell? ⟨w5.heap.size, 0, none⟩ = some (.bool false) ∧ w7.frozen? ⟨w5.heap.size, 0, none⟩ = false) ∧ w7.cell? ⟨w5.heap.size, 1, none⟩ = some (.bool true) ∧ w7.frozen? ⟨w5.heap.size, 1, none⟩ = false := ⟨R5.out.below b7 0 _ rfl, R5.out.below b7 1 _ rfl⟩; clear b7))
  obtain ⟨X, hX⟩ : ∃ X, (w7.setCell ⟨w5.heap.size, 0, none⟩ (.bool c1)).setCell ⟨w5.heap.size, 1, none⟩ (.bool c2) = X := ⟨_, rfl⟩
  have RX : Blk ((w7.setCell ⟨w5.heap.size, 0, none⟩ (.bool c1)).setCell ⟨w5.heap.size, 1, none⟩ (.bool c2)) w5.heap.size [.bool c1, .bool c2] := by
    have h : Blk w7 w5.heap.size [.bool false, .bool true] := fun i x hx => by
      match i, hx with
      | 0, hx => simp at hx; subst hx; exact ⟨q0, g0⟩
      | 1, hx => simp at hx; subst hx; exact ⟨q1, g1⟩
    exact (h.set 0 _).set 1 _
  have o0 := (RX 0 _ rfl).1
  have o1 := (RX 1 _ rfl).1
  have hBX := (B7.out.setCell (p := ⟨w5.heap.size, 0, none⟩) B5.out.size (.bool c1)).setCell (p := ⟨w5.heap.size, 1, none⟩) B5.out.size (.bool c2)
  have e4 := (HK.out _ hBX).c4
  rw [hX] at e4 o0 o1 hBX ⊢
  clear HK HCO HCM RX q0 q1 g0 g1 hX
  obtain ⟨g8, cap8, W8, hap, y4, yf, HZP⟩ := HF.out X.drew hBX.drew
  have e4b := ((below_alloc X (.cells #[.bool c1, .bool c2] 103)).cell (p := ⟨w.heap.size + 4, 0, none⟩) (lt_of_cell e4)).trans e4
  refine round_held (S := fun _ => True) (by kernel_rfl) (by kernel_rfl) trivial (fun hHeld => ?_)
  refine takeH (i := 1) (d := some 65) (v := .int .i64 s) rfl rfl (by kernel_rfl) (by kernel_rfl) (by kernel_rfl) (fun _ _ _ h => h) (Or.inl ⟨by rfl, fun W hSw => by go_simp⟩) hHeld ?_
  simp only [put_some, List.set_cons_zero, List.set_cons_succ]
  refine wpAnyH_ready (rs := [0, 3]) (by kernel_rfl) (by simp) ?_
  refine AllReadyH.cons rfl (fun K hK => ?_) (AllReadyH.cons rfl (fun K hK => ?_) AllReadyH.nil)
  · go_simp
    refine hK.out _ _ trivial (fun hHeld => ?_)
    clear hK K
    refine takeH (i := 2) (d := some 66) (v := .slice (some ⟨gb, 0, none⟩) s cap) rfl rfl (by kernel_rfl) (by kernel_rfl) (by kernel_rfl) (fun _ _ _ h => h) (Or.inl ⟨by rfl, fun W hSw => by go_simp⟩) hHeld ?_
    simp only [put_some, List.set_cons_zero, List.set_cons_succ]
    refine wpAnyH_ready (rs := [3]) (by kernel_rfl) (by simp) ?_
    refine AllReadyH.cons rfl (fun K hK => ?_) AllReadyH.nil
    go_simp
    refine hK.out _ _ trivial (fun hHeld => ?_)
    clear hK K
    refine wpAnyH_ready (rs := [4]) (by kernel_rfl) (by simp) ?_
    refine AllReadyH.cons rfl (fun K hK => ?_) AllReadyH.nil
    go_simp
    refine hK.out _ _ trivial (fun hHeld => ?_)
    clear hK K
    refine wpAnyH_ready (rs := [5]) (by kernel_rfl) (by simp) ?_
    refine AllReadyH.cons rfl (fun K hK => ?_) AllReadyH.nil
    refine append_run_op (.tmp 66) (.tmp 68) _ rfl _ _ rfl rfl _ _ hap ?_
    refine hK.out _ _ trivial (fun hHeld => ?_)
    clear hK K
    refine wpAnyH_ready (rs := [6]) (by kernel_rfl) (by simp) ?_
    refine AllReadyH.cons rfl (fun K hK => ?_) AllReadyH.nil
    go_simp
    refine hK.out _ _ trivial (fun hHeld => ?_)
    clear hK K
    refine wpAnyH_done (by kernel_rfl) ?_ _
    exact HZP
  · go_simp
    refine hK.out _ _ trivial (fun hHeld => ?_)
    clear hK K
    refine wpAnyH_ready (rs := [0, 4]) (by kernel_rfl) (by simp) ?_
    refine AllReadyH.cons rfl (fun K hK => ?_) (AllReadyH.cons rfl (fun K hK => ?_) AllReadyH.nil)
    · go_simp
      refine hK.out _ _ trivial (fun hHeld => ?_)
      clear hK K
      refine takeH (i := 2) (d := some 66) (v := .slice (some ⟨gb, 0, none⟩) s cap) rfl rfl (by kernel_rfl) (by kernel_rfl) (by kernel_rfl) (fun _ _ _ h => h) (Or.inl ⟨by rfl, fun W hSw => by go_simp⟩) hHeld ?_
      simp only [put_some, List.set_cons_zero, List.set_cons_succ]
      refine wpAnyH_ready (rs := [4]) (by kernel_rfl) (by simp) ?_
      refine AllReadyH.cons rfl (fun K hK => ?_) AllReadyH.nil
      go_simp
      refine hK.out _ _ trivial (fun hHeld => ?_)
      clear hK K
      refine wpAnyH_ready (rs := [5]) (by kernel_rfl) (by simp) ?_
      refine AllReadyH.cons rfl (fun K hK => ?_) AllReadyH.nil
      refine append_run_op (.tmp 66) (.tmp 68) _ rfl _ _ rfl rfl _ _ hap ?_
      refine hK.out _ _ trivial (fun hHeld => ?_)
      clear hK K
      refine wpAnyH_ready (rs := [6]) (by kernel_rfl) (by simp) ?_
      refine AllReadyH.cons rfl (fun K hK => ?_) AllReadyH.nil
      go_simp
      refine hK.out _ _ trivial (fun hHeld => ?_)
      clear hK K
      refine wpAnyH_done (by kernel_rfl) ?_ _
      exact HZP
    · go_simp
      refine hK.out _ _ trivial (fun hHeld => ?_)
      clear hK K
      refine wpAnyH_ready (rs := [0]) (by kernel_rfl) (by simp) ?_
      refine AllReadyH.cons rfl (fun K hK => ?_) AllReadyH.nil
      go_simp
      refine hK.out _ _ trivial (fun hHeld => ?_)
      clear hK K
      refine takeH (i := 2) (d := some 66) (v := .slice (some ⟨gb, 0, none⟩) s cap) rfl rfl (by kernel_rfl) (by kernel_rfl) (by kernel_rfl) (fun _ _ _ h => h) (Or.inl ⟨by rfl, fun W hSw => by go_simp⟩) hHeld ?_
      simp only [put_some, List.set_cons_zero, List.set_cons_succ]
      refine wpAnyH_ready (rs := [5]) (by kernel_rfl) (by simp) ?_
      refine AllReadyH.cons rfl (fun K hK => ?_) AllReadyH.nil
      refine append_run_op (.tmp 66) (.tmp 68) _ rfl _ _ rfl rfl _ _ hap ?_
      refine hK.out _ _ trivial (fun hHeld => ?_)
      clear hK K
      refine wpAnyH_ready (rs := [6]) (by kernel_rfl) (by simp) ?_
      refine AllReadyH.cons rfl (fun K hK => ?_) AllReadyH.nil
      go_simp
      refine hK.out _ _ trivial (fun hHeld => ?_)
      clear hK K
      refine wpAnyH_done (by kernel_rfl) ?_ _
      exact HZP

theorem wb_3 {g : Weigh} {P : T → Prop} {fc : Nat} {ca : Value} {t : T} {u : Value} {L : List Vis} {w : World} {lo l n k : Nat} {R Z : Nat → Prop} {W : World} {x : T} {xu : Value} {d : Nat} {D : List Ch} {v : Value} {fo : Nat} {recv : Value} {la : Option Addr} {lcap : Nat}
    (hn : 1 ≤ n) (heg : ∀ args w, (callFunc fc args).run Try.prog w = .ok (.enter fc args) w) (b : WB g P fc ca t u L w lo k R Z W x xu d D v fo recv la lcap) (hk : x.kind = 3) (hd : d = x.ops.length) (hdD : d ≤ D.length) (hrun : g.run (L.take (k + 1)) [] = some (D.take (D.length - d) ++ [g.comb x (D.drop (D.length - d))])) :
    weighBody.wpIn (Fence.wide.inRound l) n Try.prog (zPost R (WeighInv g L w lo (.func (.func fc) #[] #[ca])) k Z W) (weighAct t u (chV g.ofN) (.func (.func fc) #[] #[ca]) w.heap.size (condV x xu) (.int .i64 d)) W := by
  obtain ⟨s, hs⟩ : ∃ s, D.length = s + d := ⟨D.length - d, by omega⟩
  rw [show D.length - d = s by omega] at hrun
  rcases b.h3 with ⟨rfl, rfl⟩ | ⟨gb, cap, rfl, ho, _⟩
  · obtain ⟨rfl, rfl⟩ : s = 0 ∧ d = 0 := by
      simp at hs
      omega
    exact wb_3_nil hn heg b hk hd hrun
  · by_cases hcs : cap = s
    · have hcap : D.length ≤ cap := by
        obtain ⟨x1, x2, x3, e, h1, _⟩ := ho.at
        cases e
        exact h1
      obtain rfl : d = 0 := by omega
      subst hcs
      exact wb_3_edge hn heg b ho hk hd (by omega) hrun
    · exact wb_3_own hn heg b ho hcs hk hd hs hrun

end Go.Proofs.Ytafoldpmodipaaa
