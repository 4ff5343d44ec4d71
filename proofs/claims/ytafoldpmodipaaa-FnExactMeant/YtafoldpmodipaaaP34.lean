/- Texts of this claim, one behind the other: MSeq, ISeq. -/
import Derived.Test.YtafoldpmodipaaaP28
import Derived.Shelf.Abstract
import Derived.Shelf.RegionOpen
import Derived.OwnWalkIn
import Derived.TacticsInMore
import Derived.LoopNIn
import Derived.LoopIn
import Derived.Test.YtafoldpmodipaaaP30

/- Between two rounds of impl's visits: what its memory holds. -/
namespace Go.Proofs.Ytafoldpmodipaaa
open Go.RowKit Go.Shelf

attribute [local go_sem] Oper.semAt_some

/-- What the k-th round is handed. -/
def visEnc (L : List Vis) (k : Nat) : Array Value := #[condV (L.getD k (T.zero, .nilFunc, 0)).1 (L.getD k (T.zero, .nilFunc, 0)).2.1, .int .i64 (L.getD k (T.zero, .nilFunc, 0)).2.2]

theorem Try.elemVisit : ElemT Try.prog 162 160 (.agg #[.pointer none, .nilIface, .int .i64 0]) 3 32 := ⟨Try.underlying162, info_parts (by kernel_rfl), rfl, by decide⟩

/-- Between two rounds: m visits are to come. -/
def VisRel (Q R : Nat → Prop) (w0 W : World) (L : List Vis) (N mb : Nat) (J : Nat → (Nat → Prop) → World → Prop) (p : Value) (wr : World) (m : Nat) : Prop :=
  ∃ (k : Nat) (fs : List Fr) (Z : Nat → Prop) (g cap : Nat) (es : Array MapEntry) (c : Nat), p = .slice (some ⟨g, 0, none⟩) fs.length cap ∧ k + m = L.length ∧ L.drop k = rem w0 fs ∧ Path Q R w0 fs ∧ (∀ f ∈ fs, f.t.bulk ≤ N) ∧
    Own 160 3 W.heap.size wr.heap.size wr p fs.length (fcs fs) ∧ Z g ∧ Z mb ∧ wr.heap[mb]? = some (.map es c) ∧ Keys es (addrs fs) ∧ (∀ b, Z b → W.heap.size ≤ b ∧ b < wr.heap.size) ∧ J k Z wr ∧ Agree R w0 wr

theorem moves_below {B : Nat} {W W' : World} {Z' : Nat → Prop} (hb : Below W.heap.size W W') (hz : ∀ b, Z' b → W.heap.size ≤ b ∧ b < W'.heap.size) (hB : B ≤ W.heap.size) : Moves B (fun _ => False) W Z' W' :=
  ⟨hb.os, hb.tape, hb.output, hb.size, fun b h _ => hb.block b h, fun b h => .inr (hz b h).1, fun _ h => h.elim, fun b h => ⟨Nat.le_trans hB (hz b h).1, (hz b h).2⟩⟩
theorem moves_refl {B : Nat} {Z : Nat → Prop} {W W' : World} (hb : Below W.heap.size W W') (hz : ∀ b, Z b → B ≤ b ∧ b < W.heap.size) : Moves B Z W Z W' :=
  ⟨hb.os, hb.tape, hb.output, hb.size, fun b h _ => hb.block b h, fun _ h => .inl h, hz, fun b h => ⟨(hz b h).1, Nat.lt_of_lt_of_le (hz b h).2 hb.size⟩⟩

theorem Moves.trans {B : Nat} {Z Z' Z'' : Nat → Prop} {U V W : World} (h : Moves B Z U Z' V) (k : Moves B Z' V Z'' W) : Moves B Z U Z'' W :=
  ⟨k.os.trans h.os, k.tape.trans h.tape, k.output.trans h.output, Nat.le_trans h.size k.size, fun b hb hn => (k.same b (Nat.lt_of_lt_of_le hb h.size) (fun hz => (h.grow b hz).elim hn (fun hle => by omega))).trans (h.same b hb hn),
    fun b hz => (k.grow b hz).elim (h.grow b) (fun hle => .inr (Nat.le_trans h.size hle)), h.own, k.own'⟩
theorem moves_grown {B g : Nat} {Z : Nat → Prop} {W W' : World} (hg : W.grownBy W' (some g)) (hz : Z g) (hin : ∀ b, Z b → B ≤ b ∧ b < W.heap.size) : Moves B Z W Z W' :=
  ⟨hg.os, hg.tape, hg.output, hg.size, fun b hb hn => hg.block b hb (fun e => hn (by cases e; exact hz)), fun _ h => .inl h, hin, fun b h => ⟨(hin b h).1, Nat.lt_of_lt_of_le (hin b h).2 hg.size⟩⟩
theorem moves_set {B g j : Nat} {Z : Nat → Prop} {W : World} (x : Value) (hz : Z g) (hin : ∀ b, Z b → B ≤ b ∧ b < W.heap.size) : Moves B Z W Z (W.setCell ⟨g, j, none⟩ x) :=
  moves_grown (g := g) ⟨rfl, rfl, rfl, by simp [World.setCell], fun k _ hk => Below.heap_setCell _ _ _ _ (fun e => hk (by rw [e]))⟩ hz hin
theorem Moves.below {B : Nat} {Z Z' : Nat → Prop} {W W' : World} (h : Moves B Z W Z' W') (hB : B ≤ W.heap.size) : Below B W W' :=
  ⟨h.os, h.tape, h.output, h.size, fun b hb => h.same b (by omega) (fun hz => by have := (h.own b hz).1; omega)⟩

theorem Moves.agree {B : Nat} {Z Z' R : Nat → Prop} {W W' : World} (h : Moves B Z W Z' W') (hR : ∀ b, R b → b < B) (hB : B ≤ W.heap.size) : Agree R W W' := ⟨h.size, fun b hb => (h.below hB).block b (hR b hb)⟩
/-- The last place of a path is none of the others. -/
theorem Path.last {Q R : Nat → Prop} {w : World} {fs : List Fr} {f : Fr} (h : Path Q R w (fs ++ [f])) : ∀ g ∈ fs, (⟨g.b, g.o, none⟩ : Addr) ≠ ⟨f.b, f.o, none⟩ := fun g hg e => by
  obtain ⟨a1, a2, _, _⟩ := h.lies g (List.mem_append_left _ hg)
  obtain ⟨b1, b2, _, _⟩ := h.lies f (List.mem_append_right _ List.mem_cons_self)
  simp only [Addr.mk.injEq, and_true] at e
  rw [e.1, e.2] at a1
  have e2 := reads_one _ _ _ _ _ _ _ _ a1 b1 a2 b2
  have := (List.pairwise_append.1 h.falls).2.2 g hg f List.mem_cons_self
  rw [e2] at this
  omega

theorem vis_pop {Q R : Nat → Prop} {w0 W W3 W4 : World} {L : List Vis} {N mb k m g cap c : Nat} {J : Nat → (Nat → Prop) → World → Prop} {fs : List Fr} {f : Fr} {Z : Nat → Prop} {es : Array MapEntry} (hJ : ∀ k Z Z' A A', J k Z A → Moves W.heap.size Z A Z' A' → J k Z' A') (hkm : k + 1 + m = L.length)
    (hdr : L.drop k = f.t.from w0 f.u f.d ++ rem w0 fs) (hd : f.d = f.t.ops.length) (hpath : Path Q R w0 (fs ++ [f])) (hbk : ∀ x ∈ fs ++ [f], x.t.bulk ≤ N) (hown : Own 160 3 W.heap.size W3.heap.size W3 (.slice (some ⟨g, 0, none⟩) (fs.length + 1) cap) (fs.length + 1) (fcs (fs ++ [f])))
    (zg : Z g) (zm : Z mb) (hgm : g ≠ mb) (hkeys : Keys es (addrs (fs ++ [f]))) (hin : ∀ b, Z b → W.heap.size ≤ b ∧ b < W3.heap.size) (hJ3 : J (k + 1) Z W3) (hbw : Agree R w0 W3) (hb4 : Below W3.heap.size W3 W4) (hsW : ∀ b, R b → b < W.heap.size) :
    VisRel Q R w0 W L N mb J (.slice (some ⟨g, 0, none⟩) fs.length cap) (W4.putObj mb (.map (es.eraseIdxIfInBounds (addrs fs).length) c)) m := by
  have hin4 : ∀ b, Z b → W.heap.size ≤ b ∧ b < W4.heap.size := fun b h => ⟨(hin b h).1, Nat.lt_of_lt_of_le (hin b h).2 hb4.size⟩
  have hm4 := moves_refl hb4 hin
  have hm5 := hm4.trans (Moves.put (.map (es.eraseIdxIfInBounds (addrs fs).length) c) zm hin4)
  rw [addrs_snoc] at hkeys
  have hsz : (W4.putObj mb (.map (es.eraseIdxIfInBounds (addrs fs).length) c)).heap.size = W4.heap.size := by simp
  refine ⟨k + 1, fs, Z, g, cap, _, c, rfl, hkm, ?_, hpath.head, fun x hx => hbk x (List.mem_append_left _ hx), ?_, zg, zm, World.putObj_heap_same (hin4 _ zm).2, hkeys.pop, fun b h => by rw [hsz]; exact hin4 b h, hJ _ _ _ _ _ hJ3 hm5, ?_⟩
  · have := congrArg List.tail hdr
    rw [T.from_end hd] at this
    simpa using this
  · have h1 := hown.shorter (m := fs.length) (by omega)
    rw [fcs_take] at h1
    exact h1.keep ((World.putObj_heap_other hgm).trans (hb4.block _ (hin g zg).2)) (by rw [hsz]; exact hb4.size)
  · exact hbw.trans (hm5.agree hsW (by have := (hin g zg); omega))

theorem vis_start {Q R : Nat → Prop} {Bp : Nat} {w0 W w1 : World} {t : T} {u : Value} {es1 : Array MapEntry} {c1 : Nat} {J : Nat → (Nat → Prop) → World → Prop} (hW : Agree R w0 W) (hRl : ∀ b, R b → b < w0.heap.size) (hJ : ∀ k Z Z' A A', J k Z A → Moves W.heap.size Z A Z' A' → J k Z' A') (h0 : J 0 (fun _ => False) W)
    (hl : LiesAt w0 Bp 0 t u) (hp : Plain w0 Bp ∧ R Bp) (hr : RdT Q w0 t u) (hg1 : (W.alloc (.map #[] 0)).grownBy w1 (some W.heap.size)) (hm1 : w1.heap[W.heap.size]? = some (.map es1 c1)) (hk1 : Keys es1 ([] ++ [⟨Bp, 0, none⟩])) :
    VisRel Q R w0 W (t.tr w0 u) t.bulk W.heap.size J (.slice (some ⟨w1.heap.size, 0, none⟩) 1 1) (w1.alloc (.cells #[.pointer (some ⟨Bp, 0, none⟩), condV t u, .int .i64 0] 160)) (t.tr w0 u).length := by
  have hs1 : W.heap.size + 1 ≤ w1.heap.size := by simpa using hg1.size
  have hb1 : Below W.heap.size W w1 := ⟨hg1.os, hg1.tape, hg1.output, by omega, fun b hb => (hg1.block b (by simp; omega) (fun e => by cases e; omega)).trans (Below.heap_alloc _ _ _ hb)⟩
  have hb2 : Below W.heap.size W (w1.alloc (.cells #[.pointer (some ⟨Bp, 0, none⟩), condV t u, .int .i64 0] 160)) := hb1.alloc hb1.size _
  have hz : ∀ b, (b = W.heap.size ∨ b = w1.heap.size) → W.heap.size ≤ b ∧ b < (w1.alloc (.cells #[.pointer (some ⟨Bp, 0, none⟩), condV t u, .int .i64 0] 160)).heap.size := fun b h => by
    rw [World.size_alloc]
    rcases h with rfl | rfl <;> omega
  refine ⟨0, [⟨Bp, 0, t, u, 0⟩], fun b => b = W.heap.size ∨ b = w1.heap.size, w1.heap.size, 1, es1, c1, rfl, by omega, ?_, ?_, ?_, ?_, .inr rfl, .inl rfl, ?_, hk1, hz, hJ _ _ _ _ _ h0 (moves_below hb2 hz (Nat.le_refl _)), hW.trans (.of_below hb2 (fun b hb => Nat.lt_of_lt_of_le (hRl b hb) hW.size))⟩
  · rw [List.drop_zero, T.tr_from]
    simp [rem]
  · refine ⟨fun f hf => ?_, List.pairwise_singleton _ _⟩
    rw [List.mem_singleton.1 hf]
    exact ⟨hl, hr, hp, Nat.zero_le _⟩
  · intro f hf
    rw [List.mem_singleton.1 hf]
    exact Nat.le_refl _
  · have := own_lit (e := 160) (size := 3) w1 #[.pointer (some ⟨Bp, 0, none⟩), condV t u, .int .i64 0] 1 (by decide) rfl
    exact (this.lower (by omega)).wide (by simp)
  · rw [Below.heap_alloc _ _ _ (by omega)]
    exact hm1

theorem vis_push {Q R : Nat → Prop} {w0 W W8 : World} {L : List Vis} {N mb k m g cap c b o : Nat} {J : Nat → (Nat → Prop) → World → Prop} {fs : List Fr} {f : Fr} {Z : Nat → Prop} {es : Array MapEntry} (hkm : k + 1 + m = L.length)
    (hdr : L.drop k = f.t.from w0 f.u f.d ++ rem w0 fs) (hd : f.d < f.t.ops.length) (hpath : Path Q R w0 (fs ++ [f])) (hbk : ∀ x ∈ fs ++ [f], x.t.bulk ≤ N)
    (hl : LiesAt w0 b (o + f.d * 7) (f.t.ops.getD f.d T.zero) (kidU w0 f.u f.d)) (hr : RdT Q w0 (f.t.ops.getD f.d T.zero) (kidU w0 f.u f.d)) (hp : Plain w0 b ∧ R b) (hbl : ∀ x ∈ fs ++ [f], (f.t.ops.getD f.d T.zero).bulk < x.t.bulk)
    (hown : Own 160 3 W.heap.size W8.heap.size W8 (.slice (some ⟨g, 0, none⟩) (fs.length + 1 + 1) cap) (fs.length + 1 + 1) (fcs (fs ++ [{ f with d := f.d + 1 }]) ++ Fr.cs ⟨b, o + f.d * 7, f.t.ops.getD f.d T.zero, kidU w0 f.u f.d, 0⟩))
    (zg : Z g) (zm : Z mb) (hmap : W8.heap[mb]? = some (.map es c)) (hkeys : Keys es (addrs (fs ++ [f]) ++ [⟨b, o + f.d * 7, none⟩])) (hin : ∀ b, Z b → W.heap.size ≤ b ∧ b < W8.heap.size) (hJ8 : J (k + 1) Z W8) (hbw : Agree R w0 W8) :
    VisRel Q R w0 W L N mb J (.slice (some ⟨g, 0, none⟩) (fs.length + 1 + 1) cap) W8 m := by
  have hlen : ((fs ++ [{ f with d := f.d + 1 }]) ++ [⟨b, o + f.d * 7, f.t.ops.getD f.d T.zero, kidU w0 f.u f.d, 0⟩] : List Fr).length = fs.length + 1 + 1 := by simp
  refine ⟨k + 1, (fs ++ [{ f with d := f.d + 1 }]) ++ [⟨b, o + f.d * 7, f.t.ops.getD f.d T.zero, kidU w0 f.u f.d, 0⟩], Z, g, cap, es, c, by rw [hlen], hkm, ?_, hpath.push ⟨hl, hr, hp, Nat.zero_le _⟩ hbl hd, ?_, ?_, zg, zm, hmap, ?_, hin, hJ8, hbw⟩
  · have := congrArg List.tail hdr
    rw [T.from_step hd] at this
    rw [rem_snoc, rem_snoc]
    simpa using this
  · intro x hx
    rcases List.mem_append.1 hx with hx | hx
    · rcases List.mem_append.1 hx with hx | hx
      · exact hbk x (List.mem_append_left _ hx)
      · rw [List.mem_singleton.1 hx]
        exact hbk f (List.mem_append_right _ List.mem_cons_self)
    · rw [List.mem_singleton.1 hx]
      exact Nat.le_trans (Nat.le_of_lt (hbl f (List.mem_append_right _ List.mem_cons_self))) (hbk f (List.mem_append_right _ List.mem_cons_self))
  · rw [hlen, fcs_snoc]
    exact hown
  · rw [addrs_snoc, addrs_snoc]
    rw [addrs_snoc] at hkeys
    exact hkeys

theorem vis_step {Q R : Nat → Prop} {w0 W W3 W4 W6 : World} {L : List Vis} {N mb k m g cap c' b o : Nat} {J : Nat → (Nat → Prop) → World → Prop} {fs : List Fr} {f : Fr} {Z : Nat → Prop} {es' : Array MapEntry} (hJ : ∀ k Z Z' A A', J k Z A → Moves W.heap.size Z A Z' A' → J k Z' A') (hkm : k + 1 + m = L.length)
    (hdr : L.drop k = f.t.from w0 f.u f.d ++ rem w0 fs) (hd : f.d < f.t.ops.length) (hpath : Path Q R w0 (fs ++ [f])) (hbk : ∀ x ∈ fs ++ [f], x.t.bulk ≤ N) (hN : N ≤ 1048577)
    (hl : LiesAt w0 b (o + f.d * 7) (f.t.ops.getD f.d T.zero) (kidU w0 f.u f.d)) (hr : RdT Q w0 (f.t.ops.getD f.d T.zero) (kidU w0 f.u f.d)) (hp : Plain w0 b ∧ R b) (hbl : ∀ x ∈ fs ++ [f], (f.t.ops.getD f.d T.zero).bulk < x.t.bulk)
    (hown : Own 160 3 W.heap.size W3.heap.size W3 (.slice (some ⟨g, 0, none⟩) (fs.length + 1) cap) (fs.length + 1) (fcs (fs ++ [f])))
    (zg : Z g) (zm : Z mb) (hgm : g ≠ mb) (hin : ∀ b, Z b → W.heap.size ≤ b ∧ b < W3.heap.size) (hJ3 : J (k + 1) Z W3) (hbw : Agree R w0 W3) (hb4 : Below W3.heap.size W3 W4) (hsW : ∀ b, R b → b < W.heap.size)
    (hg6 : (W4.setCell ⟨g, fs.length * 3 + 2, none⟩ (.int .i64 ((f.d + 1 : Nat) : Int))).grownBy W6 (some mb)) (hm6 : W6.heap[mb]? = some (.map es' c')) (hk6 : Keys es' (addrs (fs ++ [f]) ++ [⟨b, o + f.d * 7, none⟩])) :
    ∃ g' cap' W8, (∀ ty, (Builtin.append_ #[162, 162] ty #[.slice (some ⟨g, 0, none⟩) (fs.length + 1) cap, .slice (some ⟨W6.heap.size, 0, none⟩) 1 1]).run Try.prog (W6.alloc (.cells #[.pointer (some ⟨b, o + f.d * 7, none⟩), condV (f.t.ops.getD f.d T.zero) (kidU w0 f.u f.d), .int .i64 0] 160)) =
        .ok (.slice (some ⟨g', 0, none⟩) (fs.length + 1 + 1) cap') W8) ∧ VisRel Q R w0 W L N mb J (.slice (some ⟨g', 0, none⟩) (fs.length + 1 + 1) cap') W8 m := by
  have hin4 : ∀ b, Z b → W.heap.size ≤ b ∧ b < W4.heap.size := fun b h => ⟨(hin b h).1, Nat.lt_of_lt_of_le (hin b h).2 hb4.size⟩
  have hin5 : ∀ b, Z b → W.heap.size ≤ b ∧ b < (W4.setCell ⟨g, fs.length * 3 + 2, none⟩ (.int .i64 ((f.d + 1 : Nat) : Int))).heap.size := fun b h => by simpa [World.setCell] using hin4 b h
  have hin6 : ∀ b, Z b → W.heap.size ≤ b ∧ b < W6.heap.size := fun b h => ⟨(hin b h).1, Nat.lt_of_lt_of_le (hin5 b h).2 hg6.size⟩
  have m4 := moves_refl hb4 hin
  have m5 := m4.trans (moves_set (j := fs.length * 3 + 2) (.int .i64 ((f.d + 1 : Nat) : Int)) zg hin4)
  have m6 := m5.trans (moves_grown hg6 zm hin5)
  have o4 := hown.keep (hi' := W4.heap.size) (hb4.block g (hin g zg).2) hb4.size
  have o5 := o4.set' (fs.length * 3 + 2) (.int .i64 ((f.d + 1 : Nat) : Int))
  rw [fcs_set] at o5
  have o6 := o5.keep (w' := W6) (hi' := W6.heap.size) (hg6.block g (hin5 g zg).2 (fun e => hgm (by simpa using e))) (by have := hg6.size; simpa [World.setCell] using this)
  obtain ⟨W7, hW7⟩ : ∃ W7, W6.alloc (.cells #[.pointer (some ⟨b, o + f.d * 7, none⟩), condV (f.t.ops.getD f.d T.zero) (kidU w0 f.u f.d), .int .i64 0] 160) = W7 := ⟨_, rfl⟩
  have b7 : Below W6.heap.size W6 W7 := by rw [← hW7]; exact below_alloc _ _
  have hs7 : W7.heap.size = W6.heap.size + 1 := by rw [← hW7]; simp
  have x7 : ∀ j y, (Fr.cs ⟨b, o + f.d * 7, f.t.ops.getD f.d T.zero, kidU w0 f.u f.d, 0⟩)[j]? = some y → W7.cell? ((⟨W6.heap.size, 0, none⟩ : Addr).add j) = some y := fun j y hy => by
    rw [← hW7, addr_add, Nat.zero_add]
    exact (blk_new W6 _ _ j y hy).1
  have o7 := o6.keep (w' := W7) (hi' := W7.heap.size) (b7.block g (hin6 g zg).2) b7.size
  have hq := hpath.len hbk
  rw [List.length_append, List.length_singleton] at hq
  obtain ⟨v', W8, hrun, o8, hx⟩ := append_block (P := Try.prog) W7 162 0 160 _ 3 32 Try.elemVisit _ _ _ _ _ o7 ⟨W6.heap.size, 0, none⟩ 1 1 (Fr.cs ⟨b, o + f.d * 7, f.t.ops.getD f.d T.zero, kidU w0 f.u f.d, 0⟩) rfl x7 (Fr.one _) (by unfold maxLen; omega) (by omega)
  obtain ⟨g', cap', hv', hlo, hhi, hrow⟩ := o8
  subst hv'
  have m7 : Moves W.heap.size Z W3 Z W7 := m6.trans (moves_refl b7 hin6)
  have hin7 : ∀ b, Z b → W.heap.size ≤ b ∧ b < W7.heap.size := fun b h => ⟨(hin b h).1, Nat.lt_of_lt_of_le (hin6 b h).2 b7.size⟩
  have m8 : Moves W.heap.size Z W7 (fun b => Z b ∨ b = g') W8 := by
    have hg := hx.grown
    refine ⟨hg.os, hg.tape, hg.output, hg.size, fun b hb hn => hg.block b hb (fun e => hn (by rw [show b = g by simpa [Value.ownBlock] using e]; exact zg)), fun b hb => ?_, hin7, fun b hb => ?_⟩
    · rcases hb with hb | rfl
      · exact .inl hb
      · rcases hx.blk with e | ⟨x, e, hge⟩
        · left
          obtain rfl : b = g := by simpa [Value.ownBlock] using e
          exact zg
        · right
          obtain rfl : b = x := by simpa [Value.ownBlock] using e
          exact hge
    · rcases hb with hb | rfl
      · have := hin7 b hb
        have := hg.size
        omega
      · exact ⟨hlo, hhi⟩
  have m38 := m7.trans m8
  refine ⟨g', cap', W8, fun ty => ?_, ?_⟩
  · rw [hW7]
    exact hrun
  · refine vis_push hkm hdr hd hpath hbk hl hr hp hbl ⟨g', cap', rfl, hlo, hhi, hrow⟩ (.inr rfl) (.inl zm) (es := es') (c := c') ?_ hk6 (fun b h => m8.own' b h) (hJ _ _ _ _ _ hJ3 m38) ?_
    · have e7 : W7.heap[mb]? = some (.map es' c') := (b7.block mb (hin6 mb zm).2).trans hm6
      exact (hx.grown.block mb (hin7 mb zm).2 (fun e => hgm (by simpa [Value.ownBlock] using e.symm))).trans e7
    · exact hbw.trans (m38.agree hsW (by have := hin g zg; omega))

end Go.Proofs.Ytafoldpmodipaaa

/- The contract of impl's visits: a loop over the visits of a predicate. -/
namespace Go.Proofs.Ytafoldpmodipaaa
open Go.RowKit Go.Shelf

attribute [local go_sem] Oper.semAt_some

set_option maxRecDepth 100000 in
set_option maxHeartbeats 4000000 in
theorem visits_seq (n : Nat) (hn : 1 ≤ n) (t : T) (u : Value) (Q R : Nat → Prop) (Bp : Nat) (w0 : World) (hQ : ∀ b, Q b → Plain w0 b ∧ R b) (hRl : ∀ b, R b → b < w0.heap.size) (hl : LiesAt w0 Bp 0 t u) (hp : Plain w0 Bp ∧ R Bp) (hr : RdT Q w0 t u) (hb : t.bulk ≤ 1048577) :
    SeqZ Fence.wide n Try.prog 122 #[.pointer (some ⟨Bp, 0, none⟩)] (visEnc (t.tr w0 u)) (t.tr w0 u).length R w0 := by
  intro l J W hW hJ hY h0
  have hu : ∃ a n cap, u = .slice a n cap := by
    obtain ⟨a, cap, h, _⟩ := RdT_def.1 hr
    exact ⟨a, _, cap, h⟩
  have hm1 : (W.alloc (.map #[] 0)).heap[W.heap.size]? = some (.map #[] 0) := World.alloc_heap_new W _
  have hRW : ∀ b, R b → b < W.heap.size := fun b hb => Nat.lt_of_lt_of_le (hRl b hb) hW.size
  have hb1 : Agree R w0 (W.alloc (.map #[] 0)) := hW.trans (.of_below (below_alloc _ _) hRW)
  have HE := Lib.hid (enter t u Bp 0 W.heap.size #[] 0 [] (W.alloc (.map #[] 0)) (hl.agree (hb1.same _ hp.2)) hu hm1 rfl ⟨hp.1.of (hb1.same _ hp.2), by simp⟩)
  have hmm := @run_makeMap Try.prog
  refine callsIn_of_wp Try.func122 rfl trivial ?_ rfl
  simp only [Try.ntmps122, List.size_toArray, List.length_cons, List.length_nil, Nat.reduceAdd, Nat.reduceSub, Array.replicate_succ, Array.replicate_zero, List.push_toArray, List.append_toArray, List.nil_append, List.cons_append]
  gi_wp2_with fail
  refine ⟨trivial, ?_⟩
  gi_at_call 123
  refine (callsIn_wide.2 HE.out).mono ?_
  rintro e w1 ⟨rfl, hg1, es1, c1, hm1, hk1⟩
  gi_wp2
  gi_loopw [4, 5, 6] (fun p _ _ wr => ∃ m, VisRel Q R w0 W (t.tr w0 u) t.bulk W.heap.size J p wr m) (fun p _ _ wr => least (VisRel Q R w0 W (t.tr w0 u) t.bulk W.heap.size J p wr))
  case atStart => exact ⟨_, vis_start hW hRl hJ h0 hl hp hr hg1 hm1 hk1⟩
  case round =>
    have hr0 := least_spec hrel
    generalize hM : least (VisRel Q R w0 W (t.tr w0 u) t.bulk W.heap.size J u4 wr) = M at hr0
    have HM := Lib.hid hM
    clear hM hrel HE hmm hg1 hm1 hk1
    obtain ⟨k, fs, Z, g, cap, es, c, rfl, hkm, hdr, hpath, hbk, hown, zg, zm, hmap, hkeys, hin, hJk, hbw⟩ := hr0
    rcases (by
      rcases List.eq_nil_or_concat fs with h | ⟨a, b, h⟩
      · exact .inl h
      · exact .inr ⟨a, b, h.trans (List.concat_eq_append ..)⟩ : fs = [] ∨ ∃ fs' f, fs = fs' ++ [f]) with rfl | ⟨fs, f, rfl⟩
    · have hk : k = (t.tr w0 u).length := by
        have := congrArg List.length hdr
        simp [rem] at this
        omega
      subst hk
      gi_wp2
      go_end0
      exact ⟨⟨_, rfl⟩, Z, hin, hJk⟩
    · obtain ⟨hfl, hfr, hfp, hfd⟩ := hpath.lies f (List.mem_append_right _ List.mem_cons_self)
      have hfu : ∃ a cap, f.u = .slice a f.t.l.length cap := by
        obtain ⟨a, cap, h, _⟩ := RdT_def.1 hfr
        exact ⟨a, cap, h⟩
      obtain ⟨fo, recv, hcm, hco⟩ := cond_op f.t f.u (by obtain ⟨a, cap, h⟩ := hfu; exact ⟨a, _, cap, h⟩)
      have hq1 := hpath.len hbk
      have hlen : (fs ++ [f]).length = fs.length + 1 := by simp
      rw [hlen] at hown hq1
      have hrem := rem_snoc w0 fs f
      have hkL : k < (t.tr w0 u).length := by
        have := congrArg List.length hdr
        rw [hrem, T.from] at this
        simp at this
        omega
      have hgetk : (t.tr w0 u).getD k (T.zero, .nilFunc, 0) = (f.t, f.u, f.d) := by
        have h1 := congrArg (fun l => l[0]?) hdr
        rw [hrem, T.from] at h1
        simp only [List.getElem?_drop, Nat.add_zero, List.cons_append, List.getElem?_cons_zero] at h1
        rw [List.getD_eq_getElem?_getD, h1]
        rfl
      have HKL := Lib.hid hkL
      have HWS := Lib.hid hRW
      have hve : visEnc (t.tr w0 u) k = #[condV f.t f.u, .int .i64 f.d] := by
        unfold visEnc
        rw [hgetk]
      have hdrew : Below wr.heap.size wr wr.drew := (Below.refl _ _).drew
      obtain ⟨fn, tmps, assign, body, hy, hR⟩ := hY k Z wr.drew (hJ k Z Z wr wr.drew hJk (moves_refl hdrew hin)) hin hkL
      rw [hve] at hy
      have c0 := (hown.cells' (show (fcs (fs ++ [f]))[fs.length * 3]? = some _ from (fcs_top fs f 0).trans rfl)).1
      have c1 := (hown.cells' (show (fcs (fs ++ [f]))[fs.length * 3 + 1]? = some _ from (fcs_top fs f 1).trans rfl)).1
      have c2 := (hown.cells' (show (fcs (fs ++ [f]))[fs.length * 3 + 2]? = some _ from (fcs_top fs f 2).trans rfl)).1
      have hdl : f.d ≤ 1048577 := by
        have h1 := f.t.ops_len
        have h2 := T.bulks_length f.t.l
        have h3 : f.t.bulk = f.t.v.s.size + 1 + T.bulks f.t.l := by
          rcases f.t with ⟨k, c, o, v, l⟩
          rw [T.bulk]
          rfl
        have h4 := hbk f (List.mem_append_right _ List.mem_cons_self)
        omega
      have hmx : Try.prog.follows .mixedOrders = true := by kernel_rfl
      have HCM := Lib.hid hcm
      have HCO := Lib.hid hco
      have HOWN := Lib.hid hown
      have HPATH := Lib.hid hpath
      have HBK := Lib.hid hbk
      have HFD := Lib.hid hfd
      have HDR := Lib.hid (hdr.trans hrem)
      have HKM := Lib.hid hkm
      have HZG := Lib.hid zg
      have HZM := Lib.hid zm
      have HMAP := Lib.hid hmap
      have HKEYS := Lib.hid hkeys
      have HIN := Lib.hid hin
      have HBW := Lib.hid hbw
      have HFU := Lib.hid hfu
      have HJ := Lib.hid hJ
      have HY := Lib.hid hY
      generalize hcv : condV f.t f.u = cv at hy c1 hcm HCM
      have HCV := Lib.hid hcv
      generalize hfdd : f.d = d at hy c2 hdl
      have HFDD := Lib.hid hfdd
      generalize hqq : fs.length = q at c0 c1 c2 hq1 hlen HOWN
      have HQQ := Lib.hid hqq
      rw [hlen]
      have hM2 := HM.out
      rw [hlen] at hM2
      have HM2 := Lib.hid hM2
      clear HM hM2 hcv hfdd hqq hlen hdr hrem hve hgetk hkL hdrew hcm hco hown hpath hbk hfd hfl hfr hfp hfu hkm zg zm hmap hkeys hin hbw hJk hJ hY h0 hm1 hb1 hW hRW hRl
      gi_wp2
      gi_region_with_o (refine hR.mono ?_; rintro e W3 ⟨rfl, hJ3, hlv3⟩)
      all_goals
        have HLV := Lib.hid hlv3
        have HJ3 := Lib.hid hJ3
        have hsame : ∀ b, Z b → W3.heap[b]? = wr.heap[b]? := fun b h => hlv3.same b h
        have hs3 : wr.heap.size ≤ W3.heap.size := hlv3.read.size
        have HOWN3 := Lib.hid (HOWN.out.keep (hsame g HZG.out) hs3)
        have HMAP3 := Lib.hid ((hsame _ HZM.out).trans HMAP.out)
        have HIN3 := Lib.hid (fun b (hz : Z b) => (⟨(HIN.out b hz).1, Nat.lt_of_lt_of_le (HIN.out b hz).2 hs3⟩ : W.heap.size ≤ b ∧ b < W3.heap.size))
        have HBW3 := Lib.hid (HBW.out.trans ⟨hlv3.read.size, hlv3.read.same⟩)
        rw [← HQQ.out] at HOWN3
        have HWL : Hid (W.heap.size ≤ W3.heap.size) := by
          have := HIN3.out g HZG.out
          show _ ≤ _
          omega
        have HKW : Hid (∀ W4, Below W3.heap.size W3 W4 → W4.cell? ⟨g, q * 3, none⟩ = some (.pointer (some ⟨f.b, f.o, none⟩)) ∧ W4.cell? ⟨g, q * 3 + 1, none⟩ = some cv ∧ W4.cell? ⟨g, q * 3 + 2, none⟩ = some (.int .i64 (d : Int)) ∧ W4.frozen? ⟨g, q * 3 + 2, none⟩ = false) := fun W4 h4 => by
          have h := HOWN3.out.keep (hi' := W4.heap.size) (h4.block g (HIN3.out g HZG.out).2) h4.size
          have e0 := (h.cells' (show (fcs (fs ++ [f]))[fs.length * 3]? = some _ from (fcs_top fs f 0).trans rfl)).1
          have e1 := (h.cells' (show (fcs (fs ++ [f]))[fs.length * 3 + 1]? = some _ from (fcs_top fs f 1).trans rfl)).1
          have e2 := h.cells' (show (fcs (fs ++ [f]))[fs.length * 3 + 2]? = some _ from (fcs_top fs f 2).trans rfl)
          rw [HQQ.out] at e0 e1 e2
          rw [HCV.out] at e1
          rw [HFDD.out] at e2
          exact ⟨e0, e1, e2⟩
        obtain ⟨d0, d1, d2, g2⟩ := HKW.out W3 (Below.refl _ _)
        have HGM : Hid (g ≠ W.heap.size) := fun e => by
          obtain ⟨cu, ty, hcu⟩ := plain_own HOWN3.out rfl
          have := HMAP3.out
          rw [← e, hcu] at this
          cases this
        have hcap : q + 1 ≤ cap := by
          obtain ⟨b', o', c', e', h1, _⟩ := HOWN3.out.at
          cases e'
          rw [HQQ.out] at h1
          exact h1
        have hqc : q ≤ cap := by omega
        obtain ⟨ua, ucap, hfu⟩ := HFU.out
        obtain ⟨la, lcap, hlv, hla⟩ := opsV_len hfu
        rw [hlv] at HCO
        clear c0 c1 c2 hy hR hlv3 hJ3 hsame hs3 HOWN HMAP HIN HBW HY HLV
        by_cases hd : d = f.t.ops.length
        · have HD : Hid (f.d = f.t.ops.length) := HFDD.out.trans hd
          rw [← hd] at HCO
          have HDEL : Hid (∀ W4, Below W3.heap.size W3 W4 → ∀ ty, (Builtin.delete_ #[157, 158] ty #[.map (some W.heap.size), .pointer (some ⟨f.b, f.o, none⟩)]).run Try.prog W4 = .ok (.tuple #[]) (W4.putObj W.heap.size (.map (es.eraseIdxIfInBounds (addrs fs).length) c))) := fun W4 h4 ty => by
            have hk := HKEYS.out
            rw [addrs_snoc] at hk
            have hb4 := HBW3.out.trans (.of_below h4 (fun b hb => Nat.lt_of_lt_of_le (HWS.out b hb) HWL.out))
            refine run_del_last ty ((h4.block _ (HIN3.out _ HZM.out).2).trans HMAP3.out) hk ⟨((HPATH.out.lies f (List.mem_append_right _ List.mem_cons_self)).2.2.1.1).of (hb4.same _ (HPATH.out.lies f (List.mem_append_right _ List.mem_cons_self)).2.2.1.2), fun a ha => ?_⟩
            obtain ⟨x, hx, rfl⟩ := List.mem_map.1 ha
            exact ⟨HPATH.out.last x hx, ((HPATH.out.lies x (List.mem_append_left _ hx)).2.2.1.1).of (hb4.same _ (HPATH.out.lies x (List.mem_append_left _ hx)).2.2.1.2)⟩
          clear hla hlv hfu
          gi_wp2_with (refine wpListIn_invoke (fun _ => trivial) rfl rfl _ _ rfl cv rfl fo recv (HCM.out _) _ (callsIn_wide.2 (HCO.out _)) ?_; rintro e w4 ⟨rfl, b4⟩; refine ⟨_, rfl, ?_⟩; have hdel := HDEL.out _ b4; have HB4 := Lib.hid b4; obtain ⟨e0, e1, e2, e3⟩ := HKW.out _ b4; clear d0 d1 d2 g2 b4)
          go_roundw
          case rel => exact ⟨M - 1, by rw [← HQQ.out]; exact vis_pop HJ.out (by have := HKM.out; have := HKL.out; omega) HDR.out HD.out HPATH.out HBK.out HOWN3.out HZG.out HZM.out HGM.out HKEYS.out HIN3.out HJ3.out HBW3.out HB4.out HWS.out⟩
          case measure =>
            rw [HM2.out]
            refine Nat.lt_of_le_of_lt (least_le (by rw [← HQQ.out]; exact vis_pop HJ.out (by have := HKM.out; have := HKL.out; omega) HDR.out HD.out HPATH.out HBK.out HOWN3.out HZG.out HZM.out HGM.out HKEYS.out HIN3.out HJ3.out HBW3.out HB4.out HWS.out)) (show M - 1 < M from by have := HKM.out; have := HKL.out; omega)
        · have hd2 : d < f.t.ops.length := by
            have := HFD.out
            rw [HFDD.out] at this
            omega
          have hdi : ¬ (d : Int) = (f.t.ops.length : Int) := by omega
          have hd3 : f.d < f.t.ops.length := by rw [HFDD.out]; exact hd2
          obtain ⟨kb, ko, kn, kcap, hku, hkn, hkl, hkr, hkp, hkb, hkf⟩ := HPATH.out.kid hQ hd3
          obtain rfl : la = some ⟨kb, ko, none⟩ := by
            rw [hla (by omega)]
            rw [hfu] at hku
            injection hku
          have hxu : ∃ a n cap, kidU w0 f.u f.d = .slice a n cap := by
            obtain ⟨a, cap, h, _⟩ := RdT_def.1 hkr
            exact ⟨a, _, cap, h⟩
          have HEN : Hid (∀ W4, Below W3.heap.size W3 W4 → Calls Try.prog 123 #[.pointer (some ⟨kb, ko + d * 7, none⟩), .map (some W.heap.size)] (W4.setCell ⟨g, q * 3 + 2, none⟩ (.int .i64 ((d : Int) + 1))) fun e w' =>
              e = .returned (.agg #[.pointer (some ⟨kb, ko + d * 7, none⟩), condV (f.t.ops.getD f.d T.zero) (kidU w0 f.u f.d), .int .i64 0]) ∧ (W4.setCell ⟨g, q * 3 + 2, none⟩ (.int .i64 ((d : Int) + 1))).grownBy w' (some W.heap.size) ∧
              ∃ es' c', w'.heap[W.heap.size]? = some (.map es' c') ∧ Keys es' (addrs (fs ++ [f]) ++ [⟨kb, ko + d * 7, none⟩])) := fun W4 h4 => by
            have hb5 : Agree R w0 (W4.setCell ⟨g, q * 3 + 2, none⟩ (.int .i64 ((d : Int) + 1))) := (HBW3.out.trans (.of_below h4 (fun b hb => Nat.lt_of_lt_of_le (HWS.out b hb) HWL.out))).trans ⟨by simp [World.setCell], fun b hb => Below.heap_setCell _ _ _ _ (by have := (HIN3.out g HZG.out).1; have := HWS.out b hb; simp; omega)⟩
            have hkl5 := hkl.agree (hb5.same _ hkp.2)
            rw [HFDD.out] at hkl5 hkf ⊢
            refine enter _ _ kb (ko + d * 7) W.heap.size es c _ _ hkl5 (by rw [HFDD.out] at hxu; exact hxu) ((Below.heap_setCell _ _ _ _ (fun e => HGM.out e.symm)).trans ((h4.block _ (HIN3.out _ HZM.out).2).trans HMAP3.out)) HKEYS.out ⟨hkp.1.of (hb5.same _ hkp.2), fun a ha => ?_⟩
            obtain ⟨x, hx, rfl⟩ := List.mem_map.1 ha
            exact ⟨hkf x hx, ((HPATH.out.lies x hx).2.2.1.1).of (hb5.same _ (HPATH.out.lies x hx).2.2.1.2)⟩
          obtain ⟨xa, xn, xc, hxs⟩ := hxu
          have HST : Hid (∀ (W4 W6 : World) (es' : Array MapEntry) (c' : Nat), Below W3.heap.size W3 W4 → (W4.setCell ⟨g, q * 3 + 2, none⟩ (.int .i64 ((d : Int) + 1))).grownBy W6 (some W.heap.size) → W6.heap[W.heap.size]? = some (.map es' c') → Keys es' (addrs (fs ++ [f]) ++ [⟨kb, ko + d * 7, none⟩]) →
              ∃ g' cap' W8, (∀ ty, (Builtin.append_ #[162, 162] ty #[.slice (some ⟨g, 0, none⟩) (q + 1) cap, .slice (some ⟨W6.heap.size, 0, none⟩) 1 1]).run Try.prog (W6.alloc (.cells #[.pointer (some ⟨kb, ko + d * 7, none⟩), condV (f.t.ops.getD f.d T.zero) (kidU w0 f.u f.d), .int .i64 0] 160)) =
                .ok (.slice (some ⟨g', 0, none⟩) (q + 1 + 1) cap') W8) ∧ VisRel Q R w0 W (t.tr w0 u) t.bulk W.heap.size J (.slice (some ⟨g', 0, none⟩) (q + 1 + 1) cap') W8 (M - 1)) := fun W4 W6 es' c' h4 hg6 hm6 hk6 => by
            have hdd := HFDD.out
            subst hdd
            have hqq := HQQ.out
            subst hqq
            exact vis_step HJ.out (by have := HKM.out; have := HKL.out; omega) HDR.out hd3 HPATH.out HBK.out hb hkl hkr hkp hkb HOWN3.out HZG.out HZM.out HGM.out HIN3.out HJ3.out HBW3.out h4 HWS.out (by simpa using hg6) hm6 hk6
          obtain ⟨xty, xcv, hxv⟩ : ∃ ty v, condV (f.t.ops.getD f.d T.zero) (kidU w0 f.u f.d) = .iface ty v := ⟨_, _, rfl⟩
          rw [hxv] at HEN HST
          clear hla hlv hfu hkl hkr hkp hkb hkf hku hxs hxv hd hd3 hQ hcap hqc hkn
          gi_wp2_with (first | (refine wpListIn_invoke (fun _ => trivial) rfl rfl _ _ rfl cv rfl fo recv (HCM.out _) _ (callsIn_wide.2 (HCO.out _)) ?_; rintro e w4 ⟨rfl, b4⟩; refine ⟨_, rfl, ?_⟩; have HB4 := Lib.hid b4; obtain ⟨e0, e1, e2, e3⟩ := HKW.out _ b4; clear d0 d1 d2 g2 b4) | (refine ⟨trivial, ?_⟩; gi_at_call 123; refine (callsIn_wide.2 (HEN.out _ HB4.out)).mono ?_; rintro e w6 ⟨rfl, hg6, es6, c6, hm6, hk6⟩; obtain ⟨g8, cap8, w8, hap, hrel8⟩ := HST.out _ w6 es6 c6 HB4.out hg6 hm6 hk6; have HR8 := Lib.hid hrel8; clear hrel8 hg6 hm6 hk6) | (gi_at_builtin; refine wpListIn_append_run rfl _ _ _ rfl _ _ rfl rfl _ _ hap ?_; clear hap))
          go_roundw
          case rel => exact ⟨M - 1, HR8.out⟩
          case measure =>
            rw [HM2.out]
            exact Nat.lt_of_le_of_lt (least_le HR8.out) (show M - 1 < M from by have := HKM.out; have := HKL.out; omega)

end Go.Proofs.Ytafoldpmodipaaa
