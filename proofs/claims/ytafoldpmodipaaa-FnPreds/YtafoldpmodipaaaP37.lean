/- Texts of this claim, one behind the other: IWB4, IWB5, IWBody, I11h. -/
import Derived.Test.YtafoldpmodipaaaP36
import Derived.Test.YtafoldpmodipaaaP25
import Derived.Test.YtafoldpmodipaaaP22

/- The body of weigh's loop at a predicate whose operands are done: of kind 4 (written by mk_IWB.py). -/
namespace Go.Proofs.Ytafoldpmodipaaa
open Go.RowKit Go.Shelf

attribute [local go_sem] Oper.semAt_some

set_option maxRecDepth 100000 in
set_option maxHeartbeats 8000000 in
theorem wb_4_nil {g : Weigh} {P : T → Prop} {fc : Nat} {ca : Value} {t : T} {u : Value} {L : List Vis} {w : World} {lo l n k : Nat} {R Z : Nat → Prop} {W : World} {x : T} {xu : Value} {fo : Nat} {recv : Value} {la : Option Addr} {lcap : Nat}
    (hn : 1 ≤ n) (_ : ∀ args w, (callFunc fc args).run Try.prog w = .ok (.enter fc args) w) (b : WB g P fc ca t u L w lo k R Z W x xu 0 [] (.slice none 0 0) fo recv la lcap) (hk : x.kind = 4) (hd : 0 = x.ops.length) (hrun : g.run (L.take (k + 1)) [] = some ([].take 0 ++ [g.comb x ([].drop 0)])) :
    weighBody.wpIn (Fence.wide.inRound l) n Try.prog (zPost R (WeighInv g L w lo (.func (.func fc) #[] #[ca])) k Z W) (weighAct t u (chV g.ofN) (.func (.func fc) #[] #[ca]) w.heap.size (condV x xu) (.int .i64 (0 : Nat))) W := by
  rw [g.comb_4 _ hk] at hrun
  have HF := Lib.hid (fun (Wc : World) (hc : Below W.heap.size W Wc) => b.fin (s := 0) (c := ((([] : List Ch).drop 0).any (·.1), (([] : List Ch).drop 0).all (·.2))) (Nat.le_refl _) (by simpa using hrun) hc)
  simp only [headV] at HF
  have HK := Lib.hid (fun (X : World) (h : Below W.heap.size W X) => b.wk h)
  have HCO := Lib.hid b.hco
  have HCM := Lib.hid b.hcm
  rw [condV_4 xu hk] at HCM ⊢
  obtain ⟨xa, xn, xc, rfl⟩ := b.hxu
  have a1 : ∀ W : World, (Instr.typeAssert (.iface 142 (.slice xa xn xc)) 136 139 true).run Try.prog W = .ok (.tuple #[.agg #[], .bool false]) W := fun W => by kernel_rfl
  have a2 : ∀ W : World, (Instr.typeAssert (.iface 142 (.slice xa xn xc)) 136 107 true).run Try.prog W = .ok (.tuple #[.agg #[.int .i64 0, .int .i64 0, .int .i64 0, .int .i64 0, .string ⟨#[]⟩], .bool false]) W := fun W => by kernel_rfl
  have a3 : ∀ W : World, (Instr.typeAssert (.iface 142 (.slice xa xn xc)) 136 140 true).run Try.prog W = .ok (.tuple #[.slice none 0 0, .bool false]) W := fun W => by kernel_rfl
  have a4 : ∀ W : World, (Instr.typeAssert (.iface 142 (.slice xa xn xc)) 136 142 true).run Try.prog W = .ok (.tuple #[.slice xa xn xc, .bool true]) W := fun W => by kernel_rfl
  have HSF := Lib.hid (fun W => iSure false W)
  obtain ⟨ua, un, ucap, rfl⟩ := b.hu
  have HALL := Lib.hid (fun X (_ : Below W.heap.size W X) => iSomeOf (([] : List Ch).drop 0) 0 (.slice none 0 0) X rfl ⟨none, 0, rfl, Nat.zero_le _, rfl, .inl rfl⟩)
  generalize (([] : List Ch).drop 0).any (·.1) = c1 at HF HALL
  generalize (([] : List Ch).drop 0).all (·.2) = c2 at HF HALL
  have hdi : ¬ (((0 : Nat) : Int) < (x.ops.length : Int)) := by omega
  generalize x.ops.length = no at HCO hdi
  generalize hofn : g.ofN = ofn at HK ⊢
  obtain ⟨oy, on⟩ := ofn
  clear b hrun hd 
  unfold weighBody weighAct
  simp only [Try.f63, T.agg]
  gi_wp2_with (first | (refine wpListIn_invoke (fun _ => trivial) rfl rfl _ _ rfl _ rfl fo recv (HCM.out _) _ (CallsIn.inRound l (callsIn_wide.2 (HCO.out _))) ?_; rintro e w4 ⟨rfl, b4⟩; refine ⟨_, rfl, ?_⟩; obtain ⟨e4, _, _, _⟩ := HK.out _ b4; have B4 := Lib.hid b4; clear b4) | (refine ⟨trivial, ?_⟩; gi_at_call 64; refine (CallsIn.inRound l (callsIn_wide.2 (HSF.out _))).mono ?_; clear HSF; rintro e w5 ⟨rfl, b5⟩; have B5 := Lib.hid (below_then B4.out b5 B4.out.size); have B6 := Lib.hid (B5.out.alloc B5.out.size (.cells #[.bool false, .bool true] 103)); have R5 := Lib.hid (blk_new w5 [.bool false, .bool true] 103); obtain ⟨e4, e2, e10, e11⟩ := HK.out _ B6.out; clear b5) | (refine ⟨trivial, ?_⟩; gi_at_call 101; refine (CallsIn.inRound l (callsIn_wide.2 (HALL.out _ B6.out))).mono ?_; clear HALL e4 e2 e10 e11; rintro e w7 ⟨rfl, b7⟩; have B7 := Lib.hid (below_then B6.out b7 B6.out.size); obtain ⟨⟨q0, g0⟩, q1, g1⟩ : (w7.cell? ⟨w5.heap.size, 0, none⟩ = some (.bool false) ∧ w7.frozen? ⟨w5.heap.size, 0, none⟩ = false) ∧ w7.cell? ⟨w5.heap.size, 1, none⟩ = some (.bool true) ∧ w7.frozen? ⟨w5.heap.size, 1, none⟩ = false := ⟨R5.out.below b7 0 _ rfl, R5.out.below b7 1 _ rfl⟩; clear b7))
  obtain ⟨X, hX⟩ : ∃ X, (w7.setCell ⟨w5.heap.size, 0, none⟩ (.bool c1)).setCell ⟨w5.heap.size, 1, none⟩ (.bool c2) = X := ⟨_, rfl⟩
  have RX : Blk ((w7.setCell ⟨w5.heap.size, 0, none⟩ (.bool c1)).setCell ⟨w5.heap.size, 1, none⟩ (.bool c2)) w5.heap.size [.bool c1, .bool c2] := by
    have h : Blk w7 w5.heap.size [.bool false, .bool true] := fun i x hx => by
      match i, hx with
      | 0, hx => simp at hx; subst hx; exact ⟨q0, g0⟩
      | 1, hx => simp at hx; subst hx; exact ⟨q1, g1⟩
    exact (h.set 0 _).set 1 _
  have o0 := (RX 0 _ rfl).1
  have o1 := (RX 1 _ rfl).1
  have hBX := (B7.out.setCell (p := ⟨w5.heap.size, 0, none⟩) B5.out.size (.bool c1)).setCell (p := ⟨w5.heap.size, 1, none⟩) B5.out.size (.bool c2)
  have e4 := (HK.out _ hBX).c4
  rw [hX] at e4 o0 o1 hBX ⊢
  clear HK HCO HCM RX q0 q1 g0 g1 hX
  obtain ⟨g8, cap8, W8, hap, y4, yf, HZP⟩ := HF.out X.drew hBX.drew
  have e4b := ((below_alloc X (.cells #[.bool c1, .bool c2] 103)).cell (p := ⟨w.heap.size + 4, 0, none⟩) (lt_of_cell e4)).trans e4
  refine round_held (S := fun _ => True) (by kernel_rfl) (by kernel_rfl) trivial (fun hHeld => ?_)
  refine takeH (i := 1) (d := some 65) (v := .int .i64 0) rfl rfl (by kernel_rfl) (by kernel_rfl) (by kernel_rfl) (fun _ _ _ h => h) (Or.inl ⟨by rfl, fun W hSw => by go_simp⟩) hHeld ?_
  simp only [put_some, List.set_cons_zero, List.set_cons_succ]
  refine wpAnyH_ready (rs := [0, 3]) (by kernel_rfl) (by simp) ?_
  refine AllReadyH.cons rfl (fun K hK => ?_) (AllReadyH.cons rfl (fun K hK => ?_) AllReadyH.nil)
  · go_simp
    refine hK.out _ _ trivial (fun hHeld => ?_)
    clear hK K
    refine takeH (i := 2) (d := some 66) (v := .slice none 0 0) rfl rfl (by kernel_rfl) (by kernel_rfl) (by kernel_rfl) (fun _ _ _ h => h) (Or.inl ⟨by rfl, fun W hSw => by go_simp⟩) hHeld ?_
    simp only [put_some, List.set_cons_zero, List.set_cons_succ]
    refine wpAnyH_ready (rs := [3]) (by kernel_rfl) (by simp) ?_
    refine AllReadyH.cons rfl (fun K hK => ?_) AllReadyH.nil
    go_simp
    refine hK.out _ _ trivial (fun hHeld => ?_)
    clear hK K
    refine wpAnyH_ready (rs := [4]) (by kernel_rfl) (by simp) ?_
    refine AllReadyH.cons rfl (fun K hK => ?_) AllReadyH.nil
    go_simp
    refine hK.out _ _ trivial (fun hHeld => ?_)
    clear hK K
    refine wpAnyH_ready (rs := [5]) (by kernel_rfl) (by simp) ?_
    refine AllReadyH.cons rfl (fun K hK => ?_) AllReadyH.nil
    refine append_run_op (.tmp 66) (.tmp 68) _ rfl _ _ rfl rfl _ _ hap ?_
    refine hK.out _ _ trivial (fun hHeld => ?_)
    clear hK K
    refine wpAnyH_ready (rs := [6]) (by kernel_rfl) (by simp) ?_
    refine AllReadyH.cons rfl (fun K hK => ?_) AllReadyH.nil
    go_simp
    refine hK.out _ _ trivial (fun hHeld => ?_)
    clear hK K
    refine wpAnyH_done (by kernel_rfl) ?_ _
    exact HZP
  · go_simp
    refine hK.out _ _ trivial (fun hHeld => ?_)
    clear hK K
    refine wpAnyH_ready (rs := [0, 4]) (by kernel_rfl) (by simp) ?_
    refine AllReadyH.cons rfl (fun K hK => ?_) (AllReadyH.cons rfl (fun K hK => ?_) AllReadyH.nil)
    · go_simp
      refine hK.out _ _ trivial (fun hHeld => ?_)
      clear hK K
      refine takeH (i := 2) (d := some 66) (v := .slice none 0 0) rfl rfl (by kernel_rfl) (by kernel_rfl) (by kernel_rfl) (fun _ _ _ h => h) (Or.inl ⟨by rfl, fun W hSw => by go_simp⟩) hHeld ?_
      simp only [put_some, List.set_cons_zero, List.set_cons_succ]
      refine wpAnyH_ready (rs := [4]) (by kernel_rfl) (by simp) ?_
      refine AllReadyH.cons rfl (fun K hK => ?_) AllReadyH.nil
      go_simp
      refine hK.out _ _ trivial (fun hHeld => ?_)
      clear hK K
      refine wpAnyH_ready (rs := [5]) (by kernel_rfl) (by simp) ?_
      refine AllReadyH.cons rfl (fun K hK => ?_) AllReadyH.nil
      refine append_run_op (.tmp 66) (.tmp 68) _ rfl _ _ rfl rfl _ _ hap ?_
      refine hK.out _ _ trivial (fun hHeld => ?_)
      clear hK K
      refine wpAnyH_ready (rs := [6]) (by kernel_rfl) (by simp) ?_
      refine AllReadyH.cons rfl (fun K hK => ?_) AllReadyH.nil
      go_simp
      refine hK.out _ _ trivial (fun hHeld => ?_)
      clear hK K
      refine wpAnyH_done (by kernel_rfl) ?_ _
      exact HZP
    · go_simp
      refine hK.out _ _ trivial (fun hHeld => ?_)
      clear hK K
      refine wpAnyH_ready (rs := [0]) (by kernel_rfl) (by simp) ?_
      refine AllReadyH.cons rfl (fun K hK => ?_) AllReadyH.nil
      go_simp
      refine hK.out _ _ trivial (fun hHeld => ?_)
      clear hK K
      refine takeH (i := 2) (d := some 66) (v := .slice none 0 0) rfl rfl (by kernel_rfl) (by kernel_rfl) (by kernel_rfl) (fun _ _ _ h => h) (Or.inl ⟨by rfl, fun W hSw => by go_simp⟩) hHeld ?_
      simp only [put_some, List.set_cons_zero, List.set_cons_succ]
      refine wpAnyH_ready (rs := [5]) (by kernel_rfl) (by simp) ?_
      refine AllReadyH.cons rfl (fun K hK => ?_) AllReadyH.nil
      refine append_run_op (.tmp 66) (.tmp 68) _ rfl _ _ rfl rfl _ _ hap ?_
      refine hK.out _ _ trivial (fun hHeld => ?_)
      clear hK K
      refine wpAnyH_ready (rs := [6]) (by kernel_rfl) (by simp) ?_
      refine AllReadyH.cons rfl (fun K hK => ?_) AllReadyH.nil
      go_simp
      refine hK.out _ _ trivial (fun hHeld => ?_)
      clear hK K
      refine wpAnyH_done (by kernel_rfl) ?_ _
      exact HZP

set_option maxRecDepth 100000 in
set_option maxHeartbeats 8000000 in
theorem wb_4_edge {g : Weigh} {P : T → Prop} {fc : Nat} {ca : Value} {t : T} {u : Value} {L : List Vis} {w : World} {lo l n k : Nat} {R Z : Nat → Prop} {W : World} {x : T} {xu : Value} {fo : Nat} {recv : Value} {la : Option Addr} {lcap : Nat} {s gb : Nat} {D : List Ch}
    (hn : 1 ≤ n) (_ : ∀ args w, (callFunc fc args).run Try.prog w = .ok (.enter fc args) w) (b : WB g P fc ca t u L w lo k R Z W x xu 0 D (.slice (some ⟨gb, 0, none⟩) D.length s) fo recv la lcap) (ho : Own 103 2 lo W.heap.size W (.slice (some ⟨gb, 0, none⟩) D.length s) D.length (chcs D)) (hk : x.kind = 4) (hd : 0 = x.ops.length) (hs : D.length = s) (hrun : g.run (L.take (k + 1)) [] = some (D.take s ++ [g.comb x (D.drop s)])) :
    weighBody.wpIn (Fence.wide.inRound l) n Try.prog (zPost R (WeighInv g L w lo (.func (.func fc) #[] #[ca])) k Z W) (weighAct t u (chV g.ofN) (.func (.func fc) #[] #[ca]) w.heap.size (condV x xu) (.int .i64 (0 : Nat))) W := by
  rw [g.comb_4 _ hk] at hrun
  have HF := Lib.hid (fun (Wc : World) (hc : Below W.heap.size W Wc) => b.fin (s := s) (c := ((D.drop s).any (·.1), (D.drop s).all (·.2))) (by omega) (by simpa using hrun) hc)
  rw [hs] at b HF
  simp only [headV] at HF
  have HK := Lib.hid (fun (X : World) (h : Below W.heap.size W X) => b.wk h)
  have HCO := Lib.hid b.hco
  have HCM := Lib.hid b.hcm
  rw [condV_4 xu hk] at HCM ⊢
  obtain ⟨xa, xn, xc, rfl⟩ := b.hxu
  have a1 : ∀ W : World, (Instr.typeAssert (.iface 142 (.slice xa xn xc)) 136 139 true).run Try.prog W = .ok (.tuple #[.agg #[], .bool false]) W := fun W => by kernel_rfl
  have a2 : ∀ W : World, (Instr.typeAssert (.iface 142 (.slice xa xn xc)) 136 107 true).run Try.prog W = .ok (.tuple #[.agg #[.int .i64 0, .int .i64 0, .int .i64 0, .int .i64 0, .string ⟨#[]⟩], .bool false]) W := fun W => by kernel_rfl
  have a3 : ∀ W : World, (Instr.typeAssert (.iface 142 (.slice xa xn xc)) 136 140 true).run Try.prog W = .ok (.tuple #[.slice none 0 0, .bool false]) W := fun W => by kernel_rfl
  have a4 : ∀ W : World, (Instr.typeAssert (.iface 142 (.slice xa xn xc)) 136 142 true).run Try.prog W = .ok (.tuple #[.slice xa xn xc, .bool true]) W := fun W => by kernel_rfl
  have HSF := Lib.hid (fun W => iSure false W)
  have hsd : s ≤ 2097154 := by
    have := b.hD
    omega
  obtain ⟨ua, un, ucap, rfl⟩ := b.hu
  have HALL := Lib.hid (fun X (h : Below W.heap.size W X) => iSomeOf (D.drop s) 0 (.slice (some ⟨gb, 0, none⟩) 0 0) X (by simp; omega) (drop_rd (s := s) (ho.keep (w' := X) (hi' := X.heap.size) (h.block gb (own_lt ho)) h.size) ⟨by omega, by omega, by have := b.hD; unfold maxLen; omega⟩ (.inr rfl)))
  generalize (D.drop s).any (·.1) = c1 at HF HALL
  generalize (D.drop s).all (·.2) = c2 at HF HALL
  have hdi : ¬ (((0 : Nat) : Int) < (x.ops.length : Int)) := by omega
  generalize x.ops.length = no at HCO hdi
  generalize hofn : g.ofN = ofn at HK ⊢
  obtain ⟨oy, on⟩ := ofn
  clear b hrun hd hs ho
  unfold weighBody weighAct
  simp only [Try.f63, T.agg]
  gi_wp2_with (first | (refine wpListIn_invoke (fun _ => trivial) rfl rfl _ _ rfl _ rfl fo recv (HCM.out _) _ (CallsIn.inRound l (callsIn_wide.2 (HCO.out _))) ?_; rintro e w4 ⟨rfl, b4⟩; refine ⟨_, rfl, ?_⟩; obtain ⟨e4, _, _, _⟩ := HK.out _ b4; have B4 := Lib.hid b4; clear b4) | (refine ⟨trivial, ?_⟩; gi_at_call 64; refine (CallsIn.inRound l (callsIn_wide.2 (HSF.out _))).mono ?_; clear HSF; rintro e w5 ⟨rfl, b5⟩; have B5 := Lib.hid (below_then B4.out b5 B4.out.size); have B6 := Lib.hid (B5.out.alloc B5.out.size (.cells #[.bool false, .bool true] 103)); have R5 := Lib.hid (blk_new w5 [.bool false, .bool true] 103); obtain ⟨e4, e2, e10, e11⟩ := HK.out _ B6.out; clear b5) | (refine ⟨trivial, ?_⟩; gi_at_call 101; refine (CallsIn.inRound l (callsIn_wide.2 (HALL.out _ B6.out))).mono ?_; clear HALL e4 e2 e10 e11; rintro e w7 ⟨rfl, b7⟩; have B7 := Lib.hid (below_then B6.out b7 B6.out.size); obtain ⟨⟨q0, g0⟩, q1, g1⟩ : (w7.cell? ⟨w5.heap.size, 0, none⟩ = some (.bool false) ∧ w7.frozen? ⟨w5.heap.size, 0, none⟩ = false) ∧ w7.cell? ⟨w5.heap.size, 1, none⟩ = some (.bool true) ∧ w7.frozen? ⟨w5.heap.size, 1, none⟩ = false := ⟨R5.out.below b7 0 _ rfl, R5.out.below b7 1 _ rfl⟩; clear b7))
  obtain ⟨X, hX⟩ : ∃ X, (w7.setCell ⟨w5.heap.size, 0, none⟩ (.bool c1)).setCell ⟨w5.heap.size, 1, none⟩ (.bool c2) = X := ⟨_, rfl⟩
  have RX : Blk ((w7.setCell ⟨w5.heap.size, 0, none⟩ (.bool c1)).setCell ⟨w5.heap.size, 1, none⟩ (.bool c2)) w5.heap.size [.bool c1, .bool c2] := by
    have h : Blk w7 w5.heap.size [.bool false, .bool true] := fun i x hx => by
      match i, hx with
      | 0, hx => simp at hx; subst hx; exact ⟨q0, g0⟩
      | 1, hx => simp at hx; subst hx; exact ⟨q1, g1⟩
    exact (h.set 0 _).set 1 _
  have o0 := (RX 0 _ rfl).1
  have o1 := (RX 1 _ rfl).1
  have hBX := (B7.out.setCell (p := ⟨w5.heap.size, 0, none⟩) B5.out.size (.bool c1)).setCell (p := ⟨w5.heap.size, 1, none⟩) B5.out.size (.bool c2)
  have e4 := (HK.out _ hBX).c4
  rw [hX] at e4 o0 o1 hBX ⊢
  clear HK HCO HCM RX q0 q1 g0 g1 hX
  obtain ⟨g8, cap8, W8, hap, y4, yf, HZP⟩ := HF.out X.drew hBX.drew
  have e4b := ((below_alloc X (.cells #[.bool c1, .bool c2] 103)).cell (p := ⟨w.heap.size + 4, 0, none⟩) (lt_of_cell e4)).trans e4
  refine round_held (S := fun _ => True) (by kernel_rfl) (by kernel_rfl) trivial (fun hHeld => ?_)
  refine takeH (i := 1) (d := some 65) (v := .int .i64 s) rfl rfl (by kernel_rfl) (by kernel_rfl) (by kernel_rfl) (fun _ _ _ h => h) (Or.inl ⟨by rfl, fun W hSw => by go_simp⟩) hHeld ?_
  simp only [put_some, List.set_cons_zero, List.set_cons_succ]
  refine wpAnyH_ready (rs := [0, 3]) (by kernel_rfl) (by simp) ?_
  refine AllReadyH.cons rfl (fun K hK => ?_) (AllReadyH.cons rfl (fun K hK => ?_) AllReadyH.nil)
  · go_simp
    refine hK.out _ _ trivial (fun hHeld => ?_)
    clear hK K
    refine takeH (i := 2) (d := some 66) (v := .slice (some ⟨gb, 0, none⟩) s s) rfl rfl (by kernel_rfl) (by kernel_rfl) (by kernel_rfl) (fun _ _ _ h => h) (Or.inl ⟨by rfl, fun W hSw => by go_simp⟩) hHeld ?_
    simp only [put_some, List.set_cons_zero, List.set_cons_succ]
    refine wpAnyH_ready (rs := [3]) (by kernel_rfl) (by simp) ?_
    refine AllReadyH.cons rfl (fun K hK => ?_) AllReadyH.nil
    go_simp
    refine hK.out _ _ trivial (fun hHeld => ?_)
    clear hK K
    refine wpAnyH_ready (rs := [4]) (by kernel_rfl) (by simp) ?_
    refine AllReadyH.cons rfl (fun K hK => ?_) AllReadyH.nil
    go_simp
    refine hK.out _ _ trivial (fun hHeld => ?_)
    clear hK K
    refine wpAnyH_ready (rs := [5]) (by kernel_rfl) (by simp) ?_
    refine AllReadyH.cons rfl (fun K hK => ?_) AllReadyH.nil
    refine append_run_op (.tmp 66) (.tmp 68) _ rfl _ _ rfl rfl _ _ hap ?_
    refine hK.out _ _ trivial (fun hHeld => ?_)
    clear hK K
    refine wpAnyH_ready (rs := [6]) (by kernel_rfl) (by simp) ?_
    refine AllReadyH.cons rfl (fun K hK => ?_) AllReadyH.nil
    go_simp
    refine hK.out _ _ trivial (fun hHeld => ?_)
    clear hK K
    refine wpAnyH_done (by kernel_rfl) ?_ _
    exact HZP
  · go_simp
    refine hK.out _ _ trivial (fun hHeld => ?_)
    clear hK K
    refine wpAnyH_ready (rs := [0, 4]) (by kernel_rfl) (by simp) ?_
    refine AllReadyH.cons rfl (fun K hK => ?_) (AllReadyH.cons rfl (fun K hK => ?_) AllReadyH.nil)
    · go_simp
      refine hK.out _ _ trivial (fun hHeld => ?_)
      clear hK K
      refine takeH (i := 2) (d := some 66) (v := .slice (some ⟨gb, 0, none⟩) s s) rfl rfl (by kernel_rfl) (by kernel_rfl) (by kernel_rfl) (fun _ _ _ h => h) (Or.inl ⟨by rfl, fun W hSw => by go_simp⟩) hHeld ?_
      simp only [put_some, List.set_cons_zero, List.set_cons_succ]
      refine wpAnyH_ready (rs := [4]) (by kernel_rfl) (by simp) ?_
      refine AllReadyH.cons rfl (fun K hK => ?_) AllReadyH.nil
      go_simp
      refine hK.out _ _ trivial (fun hHeld => ?_)
      clear hK K
      refine wpAnyH_ready (rs := [5]) (by kernel_rfl) (by simp) ?_
      refine AllReadyH.cons rfl (fun K hK => ?_) AllReadyH.nil
      refine append_run_op (.tmp 66) (.tmp 68) _ rfl _ _ rfl rfl _ _ hap ?_
      refine hK.out _ _ trivial (fun hHeld => ?_)
      clear hK K
      refine wpAnyH_ready (rs := [6]) (by kernel_rfl) (by simp) ?_
      refine AllReadyH.cons rfl (fun K hK => ?_) AllReadyH.nil
      go_simp
      refine hK.out _ _ trivial (fun hHeld => ?_)
      clear hK K
      refine wpAnyH_done (by kernel_rfl) ?_ _
      exact HZP
    · go_simp
      refine hK.out _ _ trivial (fun hHeld => ?_)
      clear hK K
      refine wpAnyH_ready (rs := [0]) (by kernel_rfl) (by simp) ?_
      refine AllReadyH.cons rfl (fun K hK => ?_) AllReadyH.nil
      go_simp
      refine hK.out _ _ trivial (fun hHeld => ?_)
      clear hK K
      refine takeH (i := 2) (d := some 66) (v := .slice (some ⟨gb, 0, none⟩) s s) rfl rfl (by kernel_rfl) (by kernel_rfl) (by kernel_rfl) (fun _ _ _ h => h) (Or.inl ⟨by rfl, fun W hSw => by go_simp⟩) hHeld ?_
      simp only [put_some, List.set_cons_zero, List.set_cons_succ]
      refine wpAnyH_ready (rs := [5]) (by kernel_rfl) (by simp) ?_
      refine AllReadyH.cons rfl (fun K hK => ?_) AllReadyH.nil
      refine append_run_op (.tmp 66) (.tmp 68) _ rfl _ _ rfl rfl _ _ hap ?_
      refine hK.out _ _ trivial (fun hHeld => ?_)
      clear hK K
      refine wpAnyH_ready (rs := [6]) (by kernel_rfl) (by simp) ?_
      refine AllReadyH.cons rfl (fun K hK => ?_) AllReadyH.nil
      go_simp
      refine hK.out _ _ trivial (fun hHeld => ?_)
      clear hK K
      refine wpAnyH_done (by kernel_rfl) ?_ _
      exact HZP

set_option maxRecDepth 100000 in
set_option maxHeartbeats 8000000 in
theorem wb_4_own {g : Weigh} {P : T → Prop} {fc : Nat} {ca : Value} {t : T} {u : Value} {L : List Vis} {w : World} {lo l n k : Nat} {R Z : Nat → Prop} {W : World} {x : T} {xu : Value} {fo : Nat} {recv : Value} {la : Option Addr} {lcap : Nat} {d s gb cap : Nat} {D : List Ch}
    (hn : 1 ≤ n) (_ : ∀ args w, (callFunc fc args).run Try.prog w = .ok (.enter fc args) w) (b : WB g P fc ca t u L w lo k R Z W x xu d D (.slice (some ⟨gb, 0, none⟩) D.length cap) fo recv la lcap) (ho : Own 103 2 lo W.heap.size W (.slice (some ⟨gb, 0, none⟩) D.length cap) D.length (chcs D)) (hcs : ¬ cap = s) (hk : x.kind = 4) (hd : d = x.ops.length) (hs : D.length = s + d) (hrun : g.run (L.take (k + 1)) [] = some (D.take s ++ [g.comb x (D.drop s)])) :
    weighBody.wpIn (Fence.wide.inRound l) n Try.prog (zPost R (WeighInv g L w lo (.func (.func fc) #[] #[ca])) k Z W) (weighAct t u (chV g.ofN) (.func (.func fc) #[] #[ca]) w.heap.size (condV x xu) (.int .i64 d)) W := by
  rw [g.comb_4 _ hk] at hrun
  have HF := Lib.hid (fun (Wc : World) (hc : Below W.heap.size W Wc) => b.fin (s := s) (c := ((D.drop s).any (·.1), (D.drop s).all (·.2))) (by omega) (by simpa using hrun) hc)
  rw [hs] at b HF
  simp only [headV] at HF
  have HK := Lib.hid (fun (X : World) (h : Below W.heap.size W X) => b.wk h)
  have HCO := Lib.hid b.hco
  have HCM := Lib.hid b.hcm
  rw [condV_4 xu hk] at HCM ⊢
  obtain ⟨xa, xn, xc, rfl⟩ := b.hxu
  have a1 : ∀ W : World, (Instr.typeAssert (.iface 142 (.slice xa xn xc)) 136 139 true).run Try.prog W = .ok (.tuple #[.agg #[], .bool false]) W := fun W => by kernel_rfl
  have a2 : ∀ W : World, (Instr.typeAssert (.iface 142 (.slice xa xn xc)) 136 107 true).run Try.prog W = .ok (.tuple #[.agg #[.int .i64 0, .int .i64 0, .int .i64 0, .int .i64 0, .string ⟨#[]⟩], .bool false]) W := fun W => by kernel_rfl
  have a3 : ∀ W : World, (Instr.typeAssert (.iface 142 (.slice xa xn xc)) 136 140 true).run Try.prog W = .ok (.tuple #[.slice none 0 0, .bool false]) W := fun W => by kernel_rfl
  have a4 : ∀ W : World, (Instr.typeAssert (.iface 142 (.slice xa xn xc)) 136 142 true).run Try.prog W = .ok (.tuple #[.slice xa xn xc, .bool true]) W := fun W => by kernel_rfl
  have HSF := Lib.hid (fun W => iSure false W)
  have hsd : s + d ≤ 2097154 := by
    have := b.hD
    omega
  have hsc : ¬ cap < s := by
    obtain ⟨x1, x2, x3, e, h1, _⟩ := ho.at
    cases e
    omega
  obtain ⟨ua, un, ucap, rfl⟩ := b.hu
  have HALL := Lib.hid (fun X (h : Below W.heap.size W X) => iSomeOf (D.drop s) d (.slice (some ⟨gb, s * 2, none⟩) d (cap - s)) X (by simp; omega) (drop_rd (s := s) (ho.keep (w' := X) (hi' := X.heap.size) (h.block gb (own_lt ho)) h.size) ⟨by omega, by omega, by have := b.hD; unfold maxLen; omega⟩ (.inl rfl)))
  generalize (D.drop s).any (·.1) = c1 at HF HALL
  generalize (D.drop s).all (·.2) = c2 at HF HALL
  have hdi : ¬ ((d : Int) < (x.ops.length : Int)) := by omega
  generalize x.ops.length = no at HCO hdi
  generalize hofn : g.ofN = ofn at HK ⊢
  obtain ⟨oy, on⟩ := ofn
  clear b hrun hd hs ho
  unfold weighBody weighAct
  simp only [Try.f63, T.agg]
  gi_wp2_with (first | (refine wpListIn_invoke (fun _ => trivial) rfl rfl _ _ rfl _ rfl fo recv (HCM.out _) _ (CallsIn.inRound l (callsIn_wide.2 (HCO.out _))) ?_; rintro e w4 ⟨rfl, b4⟩; refine ⟨_, rfl, ?_⟩; obtain ⟨e4, _, _, _⟩ := HK.out _ b4; have B4 := Lib.hid b4; clear b4) | (refine ⟨trivial, ?_⟩; gi_at_call 64; refine (CallsIn.inRound l (callsIn_wide.2 (HSF.out _))).mono ?_; clear HSF; rintro e w5 ⟨rfl, b5⟩; have B5 := Lib.hid (below_then B4.out b5 B4.out.size); have B6 := Lib.hid (B5.out.alloc B5.out.size (.cells #[.bool false, .bool true] 103)); have R5 := Lib.hid (blk_new w5 [.bool false, .bool true] 103); obtain ⟨e4, e2, e10, e11⟩ := HK.out _ B6.out; clear b5) | (refine ⟨trivial, ?_⟩; gi_at_call 101; refine (CallsIn.inRound l (callsIn_wide.2 (HALL.out _ B6.out))).mono ?_; clear HALL e4 e2 e10 e11; rintro e w7 ⟨rfl, b7⟩; have B7 := Lib.hid (below_then B6.out b7 B6.out.size); obtain ⟨⟨q0, g0⟩, q1, g1⟩ : (w7.cell? ⟨w5.heap.size, 0, none⟩ = some (.bool false) ∧ w7.frozen? ⟨w5.heap.size, 0, none⟩ = false) ∧ w7.cell? ⟨w5.heap.size, 1, none⟩ = some (.bool true) ∧ w7.frozen? ⟨w5.heap.size, 1, none⟩ = false := ⟨R5.out.below b7 0 _ rfl, R5.out.below b7 1 _ rfl⟩; clear b7))
  obtain ⟨X, hX⟩ : ∃ X, (w7.setCell ⟨w5.heap.size, 0, none⟩ (.bool c1)).setCell ⟨w5.heap.size, 1, none⟩ (.bool c2) = X := ⟨_, rfl⟩
  have RX : Blk ((w7.setCell ⟨w5.heap.size, 0, none⟩ (.bool c1)).setCell ⟨w5.heap.size, 1, none⟩ (.bool c2)) w5.heap.size [.bool c1, .bool c2] := by
    have h : Blk w7 w5.heap.size [.bool false, .bool true] := fun i x hx => by
      match i, hx with
      | 0, hx => simp at hx; subst hx; exact ⟨q0, g0⟩
      | 1, hx => simp at hx; subst hx; exact ⟨q1, g1⟩
    exact (h.set 0 _).set 1 _
  have o0 := (RX 0 _ rfl).1
  have o1 := (RX 1 _ rfl).1
  have hBX := (B7.out.setCell (p := ⟨w5.heap.size, 0, none⟩) B5.out.size (.bool c1)).setCell (p := ⟨w5.heap.size, 1, none⟩) B5.out.size (.bool c2)
  have e4 := (HK.out _ hBX).c4
  rw [hX] at e4 o0 o1 hBX ⊢
  clear HK HCO HCM RX q0 q1 g0 g1 hX
  obtain ⟨g8, cap8, W8, hap, y4, yf, HZP⟩ := HF.out X.drew hBX.drew
  have e4b := ((below_alloc X (.cells #[.bool c1, .bool c2] 103)).cell (p := ⟨w.heap.size + 4, 0, none⟩) (lt_of_cell e4)).trans e4
  refine round_held (S := fun _ => True) (by kernel_rfl) (by kernel_rfl) trivial (fun hHeld => ?_)
  refine takeH (i := 1) (d := some 65) (v := .int .i64 s) rfl rfl (by kernel_rfl) (by kernel_rfl) (by kernel_rfl) (fun _ _ _ h => h) (Or.inl ⟨by rfl, fun W hSw => by go_simp⟩) hHeld ?_
  simp only [put_some, List.set_cons_zero, List.set_cons_succ]
  refine wpAnyH_ready (rs := [0, 3]) (by kernel_rfl) (by simp) ?_
  refine AllReadyH.cons rfl (fun K hK => ?_) (AllReadyH.cons rfl (fun K hK => ?_) AllReadyH.nil)
  · go_simp
    refine hK.out _ _ trivial (fun hHeld => ?_)
    clear hK K
    refine takeH (i := 2) (d := some 66) (v := .slice (some ⟨gb, 0, none⟩) s cap) rfl rfl (by kernel_rfl) (by kernel_rfl) (by kernel_rfl) (fun _ _ _ h => h) (Or.inl ⟨by rfl, fun W hSw => by go_simp⟩) hHeld ?_
    simp only [put_some, List.set_cons_zero, List.set_cons_succ]
    refine wpAnyH_ready (rs := [3]) (by kernel_rfl) (by simp) ?_
    refine AllReadyH.cons rfl (fun K hK => ?_) AllReadyH.nil
    go_simp
    refine hK.out _ _ trivial (fun hHeld => ?_)
    clear hK K
    refine wpAnyH_ready (rs := [4]) (by kernel_rfl) (by simp) ?_
    refine AllReadyH.cons rfl (fun K hK => ?_) AllReadyH.nil
    go_simp
    refine hK.out _ _ trivial (fun hHeld => ?_)
    clear hK K
    refine wpAnyH_ready (rs := [5]) (by kernel_rfl) (by simp) ?_
    refine AllReadyH.cons rfl (fun K hK => ?_) AllReadyH.nil
    refine append_run_op (.tmp 66) (.tmp 68) _ rfl _ _ rfl rfl _ _ hap ?_
    refine hK.out _ _ trivial (fun hHeld => ?_)
    clear hK K
    refine wpAnyH_ready (rs := [6]) (by kernel_rfl) (by simp) ?_
    refine AllReadyH.cons rfl (fun K hK => ?_) AllReadyH.nil
    go_simp
    refine hK.out _ _ trivial (fun hHeld => ?_)
    clear hK K
    refine wpAnyH_done (by kernel_rfl) ?_ _
    exact HZP
  · go_simp
    refine hK.out _ _ trivial (fun hHeld => ?_)
    clear hK K
    refine wpAnyH_ready (rs := [0, 4]) (by kernel_rfl) (by simp) ?_
    refine AllReadyH.cons rfl (fun K hK => ?_) (AllReadyH.cons rfl (fun K hK => ?_) AllReadyH.nil)
    · go_simp
      refine hK.out _ _ trivial (fun hHeld => ?_)
      clear hK K
      refine takeH (i := 2) (d := some 66) (v := .slice (some ⟨gb, 0, none⟩) s cap) rfl rfl (by kernel_rfl) (by kernel_rfl) (by kernel_rfl) (fun _ _ _ h => h) (Or.inl ⟨by rfl, fun W hSw => by go_simp⟩) hHeld ?_
      simp only [put_some, List.set_cons_zero, List.set_cons_succ]
      refine wpAnyH_ready (rs := [4]) (by kernel_rfl) (by simp) ?_
      refine AllReadyH.cons rfl (fun K hK => ?_) AllReadyH.nil
      go_simp
      refine hK.out _ _ trivial (fun hHeld => ?_)
      clear hK K
      refine wpAnyH_ready (rs := [5]) (by kernel_rfl) (by simp) ?_
      refine AllReadyH.cons rfl (fun K hK => ?_) AllReadyH.nil
      refine append_run_op (.tmp 66) (.tmp 68) _ rfl _ _ rfl rfl _ _ hap ?_
      refine hK.out _ _ trivial (fun hHeld => ?_)
      clear hK K
      refine wpAnyH_ready (rs := [6]) (by kernel_rfl) (by simp) ?_
      refine AllReadyH.cons rfl (fun K hK => ?_) AllReadyH.nil
      go_simp
      refine hK.out _ _ trivial (fun hHeld => ?_)
      clear hK K
      refine wpAnyH_done (by kernel_rfl) ?_ _
      exact HZP
    · go_simp
      refine hK.out _ _ trivial (fun hHeld => ?_)
      clear hK K
      refine wpAnyH_ready (rs := [0]) (by kernel_rfl) (by simp) ?_
      refine AllReadyH.cons rfl (fun K hK => ?_) AllReadyH.nil
      go_simp
      refine hK.out _ _ trivial (fun hHeld => ?_)
      clear hK K
      refine takeH (i := 2) (d := some 66) (v := .slice (some ⟨gb, 0, none⟩) s cap) rfl rfl (by kernel_rfl) (by kernel_rfl) (by kernel_rfl) (fun _ _ _ h => h) (Or.inl ⟨by rfl, fun W hSw => by go_simp⟩) hHeld ?_
      simp only [put_some, List.set_cons_zero, List.set_cons_succ]
      refine wpAnyH_ready (rs := [5]) (by kernel_rfl) (by simp) ?_
      refine AllReadyH.cons rfl (fun K hK => ?_) AllReadyH.nil
      refine append_run_op (.tmp 66) (.tmp 68) _ rfl _ _ rfl rfl _ _ hap ?_
      refine hK.out _ _ trivial (fun hHeld => ?_)
      clear hK K
      refine wpAnyH_ready (rs := [6]) (by kernel_rfl) (by simp) ?_
      refine AllReadyH.cons rfl (fun K hK => ?_) AllReadyH.nil
      go_simp
      refine hK.out _ _ trivial (fun hHeld => ?_)
      clear hK K
      refine wpAnyH_done (by kernel_rfl) ?_ _
      exact HZP

theorem wb_4 {g : Weigh} {P : T → Prop} {fc : Nat} {ca : Value} {t : T} {u : Value} {L : List Vis} {w : World} {lo l n k : Nat} {R Z : Nat → Prop} {W : World} {x : T} {xu : Value} {d : Nat} {D : List Ch} {v : Value} {fo : Nat} {recv : Value} {la : Option Addr} {lcap : Nat}
    (hn : 1 ≤ n) (heg : ∀ args w, (callFunc fc args).run Try.prog w = .ok (.enter fc args) w) (b : WB g P fc ca t u L w lo k R Z W x xu d D v fo recv la lcap) (hk : x.kind = 4) (hd : d = x.ops.length) (hdD : d ≤ D.length) (hrun : g.run (L.take (k + 1)) [] = some (D.take (D.length - d) ++ [g.comb x (D.drop (D.length - d))])) :
    weighBody.wpIn (Fence.wide.inRound l) n Try.prog (zPost R (WeighInv g L w lo (.func (.func fc) #[] #[ca])) k Z W) (weighAct t u (chV g.ofN) (.func (.func fc) #[] #[ca]) w.heap.size (condV x xu) (.int .i64 d)) W := by
  obtain ⟨s, hs⟩ : ∃ s, D.length = s + d := ⟨D.length - d, by omega⟩
  rw [show D.length - d = s by omega] at hrun
  rcases b.h3 with ⟨rfl, rfl⟩ | ⟨gb, cap, rfl, ho, _⟩
  · obtain ⟨rfl, rfl⟩ : s = 0 ∧ d = 0 := by
      simp at hs
      omega
    exact wb_4_nil hn heg b hk hd hrun
  · by_cases hcs : cap = s
    · have hcap : D.length ≤ cap := by
        obtain ⟨x1, x2, x3, e, h1, _⟩ := ho.at
        cases e
        exact h1
      obtain rfl : d = 0 := by omega
      subst hcs
      exact wb_4_edge hn heg b ho hk hd (by omega) hrun
    · exact wb_4_own hn heg b ho hcs hk hd hs hrun

end Go.Proofs.Ytafoldpmodipaaa

/- The body of weigh's loop at a predicate whose operands are done: of kind 5 (written by mk_IWB.py). -/
namespace Go.Proofs.Ytafoldpmodipaaa
open Go.RowKit Go.Shelf

attribute [local go_sem] Oper.semAt_some

set_option maxRecDepth 100000 in
set_option maxHeartbeats 8000000 in
theorem wb_5_nil {g : Weigh} {P : T → Prop} {fc : Nat} {ca : Value} {t : T} {u : Value} {L : List Vis} {w : World} {lo l n k : Nat} {R Z : Nat → Prop} {W : World} {x : T} {xu : Value} {fo : Nat} {recv : Value} {la : Option Addr} {lcap : Nat}
    (hn : 1 ≤ n) (_ : ∀ args w, (callFunc fc args).run Try.prog w = .ok (.enter fc args) w) (b : WB g P fc ca t u L w lo k R Z W x xu 0 [] (.slice none 0 0) fo recv la lcap) (hk : x.kind = 5) (hd : 0 = x.ops.length) (hrun : g.run (L.take (k + 1)) [] = some ([].take 0 ++ [g.comb x ([].drop 0)])) :
    weighBody.wpIn (Fence.wide.inRound l) n Try.prog (zPost R (WeighInv g L w lo (.func (.func fc) #[] #[ca])) k Z W) (weighAct t u (chV g.ofN) (.func (.func fc) #[] #[ca]) w.heap.size (condV x xu) (.int .i64 (0 : Nat))) W := by
  rw [g.comb_5 _ hk] at hrun
  have HF := Lib.hid (fun (Wc : World) (hc : Below W.heap.size W Wc) => b.fin (s := 0) (c := (turned (([] : List Ch).drop 0) g.ofN)) (Nat.le_refl _) hrun hc)
  simp only [headV] at HF
  have HK := Lib.hid (fun (X : World) (h : Below W.heap.size W X) => b.wk h)
  have HCO := Lib.hid b.hco
  have HCM := Lib.hid b.hcm
  rw [condV_5 xu hk] at HCM ⊢
  obtain ⟨xa, xn, xc, rfl⟩ := b.hxu
  have a1 : ∀ W : World, (Instr.typeAssert (.iface 143 (.slice xa xn xc)) 136 139 true).run Try.prog W = .ok (.tuple #[.agg #[], .bool false]) W := fun W => by kernel_rfl
  have a2 : ∀ W : World, (Instr.typeAssert (.iface 143 (.slice xa xn xc)) 136 107 true).run Try.prog W = .ok (.tuple #[.agg #[.int .i64 0, .int .i64 0, .int .i64 0, .int .i64 0, .string ⟨#[]⟩], .bool false]) W := fun W => by kernel_rfl
  have a3 : ∀ W : World, (Instr.typeAssert (.iface 143 (.slice xa xn xc)) 136 140 true).run Try.prog W = .ok (.tuple #[.slice none 0 0, .bool false]) W := fun W => by kernel_rfl
  have a4 : ∀ W : World, (Instr.typeAssert (.iface 143 (.slice xa xn xc)) 136 142 true).run Try.prog W = .ok (.tuple #[.slice none 0 0, .bool false]) W := fun W => by kernel_rfl
  have a5 : ∀ W : World, (Instr.typeAssert (.iface 143 (.slice xa xn xc)) 136 143 true).run Try.prog W = .ok (.tuple #[.slice xa xn xc, .bool true]) W := fun W => by kernel_rfl
  have HSF := Lib.hid (fun W => iSure false W)
  obtain ⟨ua, un, ucap, rfl⟩ := b.hu
  have HALL := Lib.hid (fun X (_ : Below W.heap.size W X) => iTurned (([] : List Ch).drop 0) 0 (.slice none 0 0) g.ofN X rfl ⟨none, 0, rfl, Nat.zero_le _, rfl, .inl rfl⟩)
  generalize turned (([] : List Ch).drop 0) g.ofN = cc at HF HALL
  obtain ⟨c1, c2⟩ := cc
  have hdi : ¬ (((0 : Nat) : Int) < (x.ops.length : Int)) := by omega
  generalize x.ops.length = no at HCO hdi
  generalize hofn : g.ofN = ofn at HK HALL ⊢
  obtain ⟨oy, on⟩ := ofn
  have HOF := Lib.hid hofn
  clear hofn b hrun hd 
  unfold weighBody weighAct
  simp only [Try.f63, T.agg]
  gi_wp2_with (first | (refine wpListIn_invoke (fun _ => trivial) rfl rfl _ _ rfl _ rfl fo recv (HCM.out _) _ (CallsIn.inRound l (callsIn_wide.2 (HCO.out _))) ?_; rintro e w4 ⟨rfl, b4⟩; refine ⟨_, rfl, ?_⟩; obtain ⟨e4, _, _, _⟩ := HK.out _ b4; have B4 := Lib.hid b4; clear b4) | (refine ⟨trivial, ?_⟩; gi_at_call 64; refine (CallsIn.inRound l (callsIn_wide.2 (HSF.out _))).mono ?_; clear HSF; rintro e w5 ⟨rfl, b5⟩; have B5 := Lib.hid (below_then B4.out b5 B4.out.size); have B6 := Lib.hid (B5.out.alloc B5.out.size (.cells #[.bool false, .bool true] 103)); have R5 := Lib.hid (blk_new w5 [.bool false, .bool true] 103); obtain ⟨e4, e2, e10, e11⟩ := HK.out _ B6.out; clear b5))
  have HSX : Hid (∀ X, Below W.heap.size W X → X.cell? ⟨w.heap.size + 4, 0, none⟩ = some (.slice none 0 0) ∧ X.cell? ⟨w.heap.size + 1, 0, none⟩ = some (.bool oy) ∧ X.cell? ⟨w.heap.size + 1, 1, none⟩ = some (.bool on)) := fun X h => by
    obtain ⟨e4, _, e10, e11⟩ := HK.out X h
    rw [HOF.out] at e10 e11
    exact ⟨e4, e10, e11⟩
  refine round_held (S := fun X => X.cell? ⟨w.heap.size + 4, 0, none⟩ = some (.slice none 0 0) ∧ X.cell? ⟨w.heap.size + 1, 0, none⟩ = some (.bool oy) ∧ X.cell? ⟨w.heap.size + 1, 1, none⟩ = some (.bool on)) (by kernel_rfl) (by kernel_rfl) (HSX.out _ B6.out.drew) (fun hHeld => ?_)
  refine takeH (i := 0) (d := some 59) (v := .slice none 0 0) rfl rfl (by kernel_rfl) (by kernel_rfl) (by kernel_rfl) (fun _ _ _ h => h) (Or.inl ⟨by rfl, fun W hSw => by obtain ⟨d0, d1, d2⟩ := hSw; go_simp⟩) hHeld ?_
  simp only [put_some, List.set_cons_zero, List.set_cons_succ]
  refine takeH (i := 1) (d := some 60) (v := .int .i64 0) rfl rfl (by kernel_rfl) (by kernel_rfl) (by kernel_rfl) (fun _ _ _ h => h) (Or.inl ⟨by rfl, fun W hSw => by obtain ⟨d0, d1, d2⟩ := hSw; go_simp⟩) hHeld ?_
  simp only [put_some, List.set_cons_zero, List.set_cons_succ]
  refine takeH (i := 2) (d := some 61) (v := .slice none 0 0) rfl rfl (by kernel_rfl) (by kernel_rfl) (by kernel_rfl) (fun _ _ _ h => h) (Or.inl ⟨by rfl, fun W hSw => by obtain ⟨d0, d1, d2⟩ := hSw; go_simp⟩) hHeld ?_
  simp only [put_some, List.set_cons_zero, List.set_cons_succ]
  refine takeH (i := 3) (d := some 62) (v := chV (oy, on)) rfl rfl (by kernel_rfl) (by kernel_rfl) (by kernel_rfl) (fun _ _ _ h => h) (Or.inl ⟨by rfl, fun W hSw => by obtain ⟨d0, d1, d2⟩ := hSw; go_simp⟩) hHeld ?_
  simp only [put_some, List.set_cons_zero, List.set_cons_succ]
  refine wpAnyH_ready (rs := [4]) (by kernel_rfl) (by simp) ?_
  refine AllReadyH.cons rfl (fun K hK => ?_) AllReadyH.nil
  go_simp
  go_at_call 102
  refine (HALL.out _ B6.out.drew).mono ?_
  rintro e w7 ⟨rfl, b7⟩
  have B7 := Lib.hid (below_then B6.out.drew b7 B6.out.size)
  obtain ⟨⟨q0, g0⟩, q1, g1⟩ : (w7.cell? ⟨w5.heap.size, 0, none⟩ = some (.bool false) ∧ w7.frozen? ⟨w5.heap.size, 0, none⟩ = false) ∧ w7.cell? ⟨w5.heap.size, 1, none⟩ = some (.bool true) ∧ w7.frozen? ⟨w5.heap.size, 1, none⟩ = false := ⟨R5.out.below ⟨b7.os, b7.tape, b7.output, b7.size, b7.block⟩ 0 _ rfl, R5.out.below ⟨b7.os, b7.tape, b7.output, b7.size, b7.block⟩ 1 _ rfl⟩
  have B8 := Lib.hid ((B7.out.setCell (p := ⟨w5.heap.size, 0, none⟩) B5.out.size (.bool c1)).setCell (p := ⟨w5.heap.size, 1, none⟩) B5.out.size (.bool c2))
  clear b7 e4 e2 e10 e11
  go_wp2_with fail
  refine hK.out _ _ (HSX.out _ B7.out) (fun hHeld => ?_)
  clear hK K
  refine wpAnyH_ready (rs := [5]) (by kernel_rfl) (by simp) ?_
  refine AllReadyH.cons rfl (fun K hK => ?_) AllReadyH.nil
  go_simp
  refine hK.out _ _ (HSX.out _ B8.out) (fun hHeld => ?_)
  clear hK K
  refine wpAnyH_done (by kernel_rfl) ?_ _
  refine noOut_block ?_
  gi_wp2
  obtain ⟨X, hX⟩ : ∃ X, (w7.setCell ⟨w5.heap.size, 0, none⟩ (.bool c1)).setCell ⟨w5.heap.size, 1, none⟩ (.bool c2) = X := ⟨_, rfl⟩
  have RX : Blk ((w7.setCell ⟨w5.heap.size, 0, none⟩ (.bool c1)).setCell ⟨w5.heap.size, 1, none⟩ (.bool c2)) w5.heap.size [.bool c1, .bool c2] := by
    have h : Blk w7 w5.heap.size [.bool false, .bool true] := fun i x hx => by
      match i, hx with
      | 0, hx => simp at hx; subst hx; exact ⟨q0, g0⟩
      | 1, hx => simp at hx; subst hx; exact ⟨q1, g1⟩
    exact (h.set 0 _).set 1 _
  have o0 := (RX 0 _ rfl).1
  have o1 := (RX 1 _ rfl).1
  have hBX := (B7.out.setCell (p := ⟨w5.heap.size, 0, none⟩) B5.out.size (.bool c1)).setCell (p := ⟨w5.heap.size, 1, none⟩) B5.out.size (.bool c2)
  have e4 := (HK.out _ hBX).c4
  rw [hX] at e4 o0 o1 hBX ⊢
  clear HK HCO HCM RX q0 q1 g0 g1 hX
  obtain ⟨g8, cap8, W8, hap, y4, yf, HZP⟩ := HF.out X.drew hBX.drew
  have e4b := ((below_alloc X (.cells #[.bool c1, .bool c2] 103)).cell (p := ⟨w.heap.size + 4, 0, none⟩) (lt_of_cell e4)).trans e4
  refine round_held (S := fun _ => True) (by kernel_rfl) (by kernel_rfl) trivial (fun hHeld => ?_)
  refine takeH (i := 1) (d := some 65) (v := .int .i64 0) rfl rfl (by kernel_rfl) (by kernel_rfl) (by kernel_rfl) (fun _ _ _ h => h) (Or.inl ⟨by rfl, fun W hSw => by go_simp⟩) hHeld ?_
  simp only [put_some, List.set_cons_zero, List.set_cons_succ]
  refine wpAnyH_ready (rs := [0, 3]) (by kernel_rfl) (by simp) ?_
  refine AllReadyH.cons rfl (fun K hK => ?_) (AllReadyH.cons rfl (fun K hK => ?_) AllReadyH.nil)
  · go_simp
    refine hK.out _ _ trivial (fun hHeld => ?_)
    clear hK K
    refine takeH (i := 2) (d := some 66) (v := .slice none 0 0) rfl rfl (by kernel_rfl) (by kernel_rfl) (by kernel_rfl) (fun _ _ _ h => h) (Or.inl ⟨by rfl, fun W hSw => by go_simp⟩) hHeld ?_
    simp only [put_some, List.set_cons_zero, List.set_cons_succ]
    refine wpAnyH_ready (rs := [3]) (by kernel_rfl) (by simp) ?_
    refine AllReadyH.cons rfl (fun K hK => ?_) AllReadyH.nil
    go_simp
    refine hK.out _ _ trivial (fun hHeld => ?_)
    clear hK K
    refine wpAnyH_ready (rs := [4]) (by kernel_rfl) (by simp) ?_
    refine AllReadyH.cons rfl (fun K hK => ?_) AllReadyH.nil
    go_simp
    refine hK.out _ _ trivial (fun hHeld => ?_)
    clear hK K
    refine wpAnyH_ready (rs := [5]) (by kernel_rfl) (by simp) ?_
    refine AllReadyH.cons rfl (fun K hK => ?_) AllReadyH.nil
    refine append_run_op (.tmp 66) (.tmp 68) _ rfl _ _ rfl rfl _ _ hap ?_
    refine hK.out _ _ trivial (fun hHeld => ?_)
    clear hK K
    refine wpAnyH_ready (rs := [6]) (by kernel_rfl) (by simp) ?_
    refine AllReadyH.cons rfl (fun K hK => ?_) AllReadyH.nil
    go_simp
    refine hK.out _ _ trivial (fun hHeld => ?_)
    clear hK K
    refine wpAnyH_done (by kernel_rfl) ?_ _
    exact HZP
  · go_simp
    refine hK.out _ _ trivial (fun hHeld => ?_)
    clear hK K
    refine wpAnyH_ready (rs := [0, 4]) (by kernel_rfl) (by simp) ?_
    refine AllReadyH.cons rfl (fun K hK => ?_) (AllReadyH.cons rfl (fun K hK => ?_) AllReadyH.nil)
    · go_simp
      refine hK.out _ _ trivial (fun hHeld => ?_)
      clear hK K
      refine takeH (i := 2) (d := some 66) (v := .slice none 0 0) rfl rfl (by kernel_rfl) (by kernel_rfl) (by kernel_rfl) (fun _ _ _ h => h) (Or.inl ⟨by rfl, fun W hSw => by go_simp⟩) hHeld ?_
      simp only [put_some, List.set_cons_zero, List.set_cons_succ]
      refine wpAnyH_ready (rs := [4]) (by kernel_rfl) (by simp) ?_
      refine AllReadyH.cons rfl (fun K hK => ?_) AllReadyH.nil
      go_simp
      refine hK.out _ _ trivial (fun hHeld => ?_)
      clear hK K
      refine wpAnyH_ready (rs := [5]) (by kernel_rfl) (by simp) ?_
      refine AllReadyH.cons rfl (fun K hK => ?_) AllReadyH.nil
      refine append_run_op (.tmp 66) (.tmp 68) _ rfl _ _ rfl rfl _ _ hap ?_
      refine hK.out _ _ trivial (fun hHeld => ?_)
      clear hK K
      refine wpAnyH_ready (rs := [6]) (by kernel_rfl) (by simp) ?_
      refine AllReadyH.cons rfl (fun K hK => ?_) AllReadyH.nil
      go_simp
      refine hK.out _ _ trivial (fun hHeld => ?_)
      clear hK K
      refine wpAnyH_done (by kernel_rfl) ?_ _
      exact HZP
    · go_simp
      refine hK.out _ _ trivial (fun hHeld => ?_)
      clear hK K
      refine wpAnyH_ready (rs := [0]) (by kernel_rfl) (by simp) ?_
      refine AllReadyH.cons rfl (fun K hK => ?_) AllReadyH.nil
      go_simp
      refine hK.out _ _ trivial (fun hHeld => ?_)
      clear hK K
      refine takeH (i := 2) (d := some 66) (v := .slice none 0 0) rfl rfl (by kernel_rfl) (by kernel_rfl) (by kernel_rfl) (fun _ _ _ h => h) (Or.inl ⟨by rfl, fun W hSw => by go_simp⟩) hHeld ?_
      simp only [put_some, List.set_cons_zero, List.set_cons_succ]
      refine wpAnyH_ready (rs := [5]) (by kernel_rfl) (by simp) ?_
      refine AllReadyH.cons rfl (fun K hK => ?_) AllReadyH.nil
      refine append_run_op (.tmp 66) (.tmp 68) _ rfl _ _ rfl rfl _ _ hap ?_
      refine hK.out _ _ trivial (fun hHeld => ?_)
      clear hK K
      refine wpAnyH_ready (rs := [6]) (by kernel_rfl) (by simp) ?_
      refine AllReadyH.cons rfl (fun K hK => ?_) AllReadyH.nil
      go_simp
      refine hK.out _ _ trivial (fun hHeld => ?_)
      clear hK K
      refine wpAnyH_done (by kernel_rfl) ?_ _
      exact HZP

set_option maxRecDepth 100000 in
set_option maxHeartbeats 8000000 in
theorem wb_5_edge {g : Weigh} {P : T → Prop} {fc : Nat} {ca : Value} {t : T} {u : Value} {L : List Vis} {w : World} {lo l n k : Nat} {R Z : Nat → Prop} {W : World} {x : T} {xu : Value} {fo : Nat} {recv : Value} {la : Option Addr} {lcap : Nat} {s gb : Nat} {D : List Ch}
    (hn : 1 ≤ n) (_ : ∀ args w, (callFunc fc args).run Try.prog w = .ok (.enter fc args) w) (b : WB g P fc ca t u L w lo k R Z W x xu 0 D (.slice (some ⟨gb, 0, none⟩) D.length s) fo recv la lcap) (ho : Own 103 2 lo W.heap.size W (.slice (some ⟨gb, 0, none⟩) D.length s) D.length (chcs D)) (hk : x.kind = 5) (hd : 0 = x.ops.length) (hs : D.length = s) (hrun : g.run (L.take (k + 1)) [] = some (D.take s ++ [g.comb x (D.drop s)])) :
    weighBody.wpIn (Fence.wide.inRound l) n Try.prog (zPost R (WeighInv g L w lo (.func (.func fc) #[] #[ca])) k Z W) (weighAct t u (chV g.ofN) (.func (.func fc) #[] #[ca]) w.heap.size (condV x xu) (.int .i64 (0 : Nat))) W := by
  rw [g.comb_5 _ hk] at hrun
  have HF := Lib.hid (fun (Wc : World) (hc : Below W.heap.size W Wc) => b.fin (s := s) (c := (turned (D.drop s) g.ofN)) (by omega) hrun hc)
  rw [hs] at b HF
  simp only [headV] at HF
  have HK := Lib.hid (fun (X : World) (h : Below W.heap.size W X) => b.wk h)
  have HCO := Lib.hid b.hco
  have HCM := Lib.hid b.hcm
  rw [condV_5 xu hk] at HCM ⊢
  obtain ⟨xa, xn, xc, rfl⟩ := b.hxu
  have a1 : ∀ W : World, (Instr.typeAssert (.iface 143 (.slice xa xn xc)) 136 139 true).run Try.prog W = .ok (.tuple #[.agg #[], .bool false]) W := fun W => by kernel_rfl
  have a2 : ∀ W : World, (Instr.typeAssert (.iface 143 (.slice xa xn xc)) 136 107 true).run Try.prog W = .ok (.tuple #[.agg #[.int .i64 0, .int .i64 0, .int .i64 0, .int .i64 0, .string ⟨#[]⟩], .bool false]) W := fun W => by kernel_rfl
  have a3 : ∀ W : World, (Instr.typeAssert (.iface 143 (.slice xa xn xc)) 136 140 true).run Try.prog W = .ok (.tuple #[.slice none 0 0, .bool false]) W := fun W => by kernel_rfl
  have a4 : ∀ W : World, (Instr.typeAssert (.iface 143 (.slice xa xn xc)) 136 142 true).run Try.prog W = .ok (.tuple #[.slice none 0 0, .bool false]) W := fun W => by kernel_rfl
  have a5 : ∀ W : World, (Instr.typeAssert (.iface 143 (.slice xa xn xc)) 136 143 true).run Try.prog W = .ok (.tuple #[.slice xa xn xc, .bool true]) W := fun W => by kernel_rfl
  have HSF := Lib.hid (fun W => iSure false W)
  have hsd : s ≤ 2097154 := by
    have := b.hD
    omega
  obtain ⟨ua, un, ucap, rfl⟩ := b.hu
  have HALL := Lib.hid (fun X (h : Below W.heap.size W X) => iTurned (D.drop s) 0 (.slice (some ⟨gb, 0, none⟩) 0 0) g.ofN X (by simp; omega) (drop_rd (s := s) (ho.keep (w' := X) (hi' := X.heap.size) (h.block gb (own_lt ho)) h.size) ⟨by omega, by omega, by have := b.hD; unfold maxLen; omega⟩ (.inr rfl)))
  generalize turned (D.drop s) g.ofN = cc at HF HALL
  obtain ⟨c1, c2⟩ := cc
  have hdi : ¬ (((0 : Nat) : Int) < (x.ops.length : Int)) := by omega
  generalize x.ops.length = no at HCO hdi
  generalize hofn : g.ofN = ofn at HK HALL ⊢
  obtain ⟨oy, on⟩ := ofn
  have HOF := Lib.hid hofn
  clear hofn b hrun hd hs ho
  unfold weighBody weighAct
  simp only [Try.f63, T.agg]
  gi_wp2_with (first | (refine wpListIn_invoke (fun _ => trivial) rfl rfl _ _ rfl _ rfl fo recv (HCM.out _) _ (CallsIn.inRound l (callsIn_wide.2 (HCO.out _))) ?_; rintro e w4 ⟨rfl, b4⟩; refine ⟨_, rfl, ?_⟩; obtain ⟨e4, _, _, _⟩ := HK.out _ b4; have B4 := Lib.hid b4; clear b4) | (refine ⟨trivial, ?_⟩; gi_at_call 64; refine (CallsIn.inRound l (callsIn_wide.2 (HSF.out _))).mono ?_; clear HSF; rintro e w5 ⟨rfl, b5⟩; have B5 := Lib.hid (below_then B4.out b5 B4.out.size); have B6 := Lib.hid (B5.out.alloc B5.out.size (.cells #[.bool false, .bool true] 103)); have R5 := Lib.hid (blk_new w5 [.bool false, .bool true] 103); obtain ⟨e4, e2, e10, e11⟩ := HK.out _ B6.out; clear b5))
  have HSX : Hid (∀ X, Below W.heap.size W X → X.cell? ⟨w.heap.size + 4, 0, none⟩ = some (.slice (some ⟨gb, 0, none⟩) s s) ∧ X.cell? ⟨w.heap.size + 1, 0, none⟩ = some (.bool oy) ∧ X.cell? ⟨w.heap.size + 1, 1, none⟩ = some (.bool on)) := fun X h => by
    obtain ⟨e4, _, e10, e11⟩ := HK.out X h
    rw [HOF.out] at e10 e11
    exact ⟨e4, e10, e11⟩
  refine round_held (S := fun X => X.cell? ⟨w.heap.size + 4, 0, none⟩ = some (.slice (some ⟨gb, 0, none⟩) s s) ∧ X.cell? ⟨w.heap.size + 1, 0, none⟩ = some (.bool oy) ∧ X.cell? ⟨w.heap.size + 1, 1, none⟩ = some (.bool on)) (by kernel_rfl) (by kernel_rfl) (HSX.out _ B6.out.drew) (fun hHeld => ?_)
  refine takeH (i := 0) (d := some 59) (v := .slice (some ⟨gb, 0, none⟩) s s) rfl rfl (by kernel_rfl) (by kernel_rfl) (by kernel_rfl) (fun _ _ _ h => h) (Or.inl ⟨by rfl, fun W hSw => by obtain ⟨d0, d1, d2⟩ := hSw; go_simp⟩) hHeld ?_
  simp only [put_some, List.set_cons_zero, List.set_cons_succ]
  refine takeH (i := 1) (d := some 60) (v := .int .i64 s) rfl rfl (by kernel_rfl) (by kernel_rfl) (by kernel_rfl) (fun _ _ _ h => h) (Or.inl ⟨by rfl, fun W hSw => by obtain ⟨d0, d1, d2⟩ := hSw; go_simp⟩) hHeld ?_
  simp only [put_some, List.set_cons_zero, List.set_cons_succ]
  refine takeH (i := 2) (d := some 61) (v := .slice (some ⟨gb, 0, none⟩) 0 0) rfl rfl (by kernel_rfl) (by kernel_rfl) (by kernel_rfl) (fun _ _ _ h => h) (Or.inl ⟨by rfl, fun W hSw => by obtain ⟨d0, d1, d2⟩ := hSw; go_simp⟩) hHeld ?_
  simp only [put_some, List.set_cons_zero, List.set_cons_succ]
  refine takeH (i := 3) (d := some 62) (v := chV (oy, on)) rfl rfl (by kernel_rfl) (by kernel_rfl) (by kernel_rfl) (fun _ _ _ h => h) (Or.inl ⟨by rfl, fun W hSw => by obtain ⟨d0, d1, d2⟩ := hSw; go_simp⟩) hHeld ?_
  simp only [put_some, List.set_cons_zero, List.set_cons_succ]
  refine wpAnyH_ready (rs := [4]) (by kernel_rfl) (by simp) ?_
  refine AllReadyH.cons rfl (fun K hK => ?_) AllReadyH.nil
  go_simp
  go_at_call 102
  refine (HALL.out _ B6.out.drew).mono ?_
  rintro e w7 ⟨rfl, b7⟩
  have B7 := Lib.hid (below_then B6.out.drew b7 B6.out.size)
  obtain ⟨⟨q0, g0⟩, q1, g1⟩ : (w7.cell? ⟨w5.heap.size, 0, none⟩ = some (.bool false) ∧ w7.frozen? ⟨w5.heap.size, 0, none⟩ = false) ∧ w7.cell? ⟨w5.heap.size, 1, none⟩ = some (.bool true) ∧ w7.frozen? ⟨w5.heap.size, 1, none⟩ = false := ⟨R5.out.below ⟨b7.os, b7.tape, b7.output, b7.size, b7.block⟩ 0 _ rfl, R5.out.below ⟨b7.os, b7.tape, b7.output, b7.size, b7.block⟩ 1 _ rfl⟩
  have B8 := Lib.hid ((B7.out.setCell (p := ⟨w5.heap.size, 0, none⟩) B5.out.size (.bool c1)).setCell (p := ⟨w5.heap.size, 1, none⟩) B5.out.size (.bool c2))
  clear b7 e4 e2 e10 e11
  go_wp2_with fail
  refine hK.out _ _ (HSX.out _ B7.out) (fun hHeld => ?_)
  clear hK K
  refine wpAnyH_ready (rs := [5]) (by kernel_rfl) (by simp) ?_
  refine AllReadyH.cons rfl (fun K hK => ?_) AllReadyH.nil
  go_simp
  refine hK.out _ _ (HSX.out _ B8.out) (fun hHeld => ?_)
  clear hK K
  refine wpAnyH_done (by kernel_rfl) ?_ _
  refine noOut_block ?_
  gi_wp2
  obtain ⟨X, hX⟩ : ∃ X, (w7.setCell ⟨w5.heap.size, 0, none⟩ (.bool c1)).setCell ⟨w5.heap.size, 1, none⟩ (.bool c2) = X := ⟨_, rfl⟩
  have RX : Blk ((w7.setCell ⟨w5.heap.size, 0, none⟩ (.bool c1)).setCell ⟨w5.heap.size, 1, none⟩ (.bool c2)) w5.heap.size [.bool c1, .bool c2] := by
    have h : Blk w7 w5.heap.size [.bool false, .bool true] := fun i x hx => by
      match i, hx with
      | 0, hx => simp at hx; subst hx; exact ⟨q0, g0⟩
      | 1, hx => simp at hx; subst hx; exact ⟨q1, g1⟩
    exact (h.set 0 _).set 1 _
  have o0 := (RX 0 _ rfl).1
  have o1 := (RX 1 _ rfl).1
  have hBX := (B7.out.setCell (p := ⟨w5.heap.size, 0, none⟩) B5.out.size (.bool c1)).setCell (p := ⟨w5.heap.size, 1, none⟩) B5.out.size (.bool c2)
  have e4 := (HK.out _ hBX).c4
  rw [hX] at e4 o0 o1 hBX ⊢
  clear HK HCO HCM RX q0 q1 g0 g1 hX
  obtain ⟨g8, cap8, W8, hap, y4, yf, HZP⟩ := HF.out X.drew hBX.drew
  have e4b := ((below_alloc X (.cells #[.bool c1, .bool c2] 103)).cell (p := ⟨w.heap.size + 4, 0, none⟩) (lt_of_cell e4)).trans e4
  refine round_held (S := fun _ => True) (by kernel_rfl) (by kernel_rfl) trivial (fun hHeld => ?_)
  refine takeH (i := 1) (d := some 65) (v := .int .i64 s) rfl rfl (by kernel_rfl) (by kernel_rfl) (by kernel_rfl) (fun _ _ _ h => h) (Or.inl ⟨by rfl, fun W hSw => by go_simp⟩) hHeld ?_
  simp only [put_some, List.set_cons_zero, List.set_cons_succ]
  refine wpAnyH_ready (rs := [0, 3]) (by kernel_rfl) (by simp) ?_
  refine AllReadyH.cons rfl (fun K hK => ?_) (AllReadyH.cons rfl (fun K hK => ?_) AllReadyH.nil)
  · go_simp
    refine hK.out _ _ trivial (fun hHeld => ?_)
    clear hK K
    refine takeH (i := 2) (d := some 66) (v := .slice (some ⟨gb, 0, none⟩) s s) rfl rfl (by kernel_rfl) (by kernel_rfl) (by kernel_rfl) (fun _ _ _ h => h) (Or.inl ⟨by rfl, fun W hSw => by go_simp⟩) hHeld ?_
    simp only [put_some, List.set_cons_zero, List.set_cons_succ]
    refine wpAnyH_ready (rs := [3]) (by kernel_rfl) (by simp) ?_
    refine AllReadyH.cons rfl (fun K hK => ?_) AllReadyH.nil
    go_simp
    refine hK.out _ _ trivial (fun hHeld => ?_)
    clear hK K
    refine wpAnyH_ready (rs := [4]) (by kernel_rfl) (by simp) ?_
    refine AllReadyH.cons rfl (fun K hK => ?_) AllReadyH.nil
    go_simp
    refine hK.out _ _ trivial (fun hHeld => ?_)
    clear hK K
    refine wpAnyH_ready (rs := [5]) (by kernel_rfl) (by simp) ?_
    refine AllReadyH.cons rfl (fun K hK => ?_) AllReadyH.nil
    refine append_run_op (.tmp 66) (.tmp 68) _ rfl _ _ rfl rfl _ _ hap ?_
    refine hK.out _ _ trivial (fun hHeld => ?_)
    clear hK K
    refine wpAnyH_ready (rs := [6]) (by kernel_rfl) (by simp) ?_
    refine AllReadyH.cons rfl (fun K hK => ?_) AllReadyH.nil
    go_simp
    refine hK.out _ _ trivial (fun hHeld => ?_)
    clear hK K
    refine wpAnyH_done (by kernel_rfl) ?_ _
    exact HZP
  · go_simp
    refine hK.out _ _ trivial (fun hHeld => ?_)
    clear hK K
    refine wpAnyH_ready (rs := [0, 4]) (by kernel_rfl) (by simp) ?_
    refine AllReadyH.cons rfl (fun K hK => ?_) (AllReadyH.cons rfl (fun K hK => ?_) AllReadyH.nil)
    · go_simp
      refine hK.out _ _ trivial (fun hHeld => ?_)
      clear hK K
      refine takeH (i := 2) (d := some 66) (v := .slice (some ⟨gb, 0, none⟩) s s) rfl rfl (by kernel_rfl) (by kernel_rfl) (by kernel_rfl) (fun _ _ _ h => h) (Or.inl ⟨by rfl, fun W hSw => by go_simp⟩) hHeld ?_
      simp only [put_some, List.set_cons_zero, List.set_cons_succ]
      refine wpAnyH_ready (rs := [4]) (by kernel_rfl) (by simp) ?_
      refine AllReadyH.cons rfl (fun K hK => ?_) AllReadyH.nil
      go_simp
      refine hK.out _ _ trivial (fun hHeld => ?_)
      clear hK K
      refine wpAnyH_ready (rs := [5]) (by kernel_rfl) (by simp) ?_
      refine AllReadyH.cons rfl (fun K hK => ?_) AllReadyH.nil
      refine append_run_op (.tmp 66) (.tmp 68) _ rfl _ _ rfl rfl _ _ hap ?_
      refine hK.out _ _ trivial (fun hHeld => ?_)
      clear hK K
      refine wpAnyH_ready (rs := [6]) (by kernel_rfl) (by simp) ?_
      refine AllReadyH.cons rfl (fun K hK => ?_) AllReadyH.nil
      go_simp
      refine hK.out _ _ trivial (fun hHeld => ?_)
      clear hK K
      refine wpAnyH_done (by kernel_rfl) ?_ _
      exact HZP
    · go_simp
      refine hK.out _ _ trivial (fun hHeld => ?_)
      clear hK K
      refine wpAnyH_ready (rs := [0]) (by kernel_rfl) (by simp) ?_
      refine AllReadyH.cons rfl (fun K hK => ?_) AllReadyH.nil
      go_simp
      refine hK.out _ _ trivial (fun hHeld => ?_)
      clear hK K
      refine takeH (i := 2) (d := some 66) (v := .slice (some ⟨gb, 0, none⟩) s s) rfl rfl (by kernel_rfl) (by kernel_rfl) (by kernel_rfl) (fun _ _ _ h => h) (Or.inl ⟨by rfl, fun W hSw => by go_simp⟩) hHeld ?_
      simp only [put_some, List.set_cons_zero, List.set_cons_succ]
      refine wpAnyH_ready (rs := [5]) (by kernel_rfl) (by simp) ?_
      refine AllReadyH.cons rfl (fun K hK => ?_) AllReadyH.nil
      refine append_run_op (.tmp 66) (.tmp 68) _ rfl _ _ rfl rfl _ _ hap ?_
      refine hK.out _ _ trivial (fun hHeld => ?_)
      clear hK K
      refine wpAnyH_ready (rs := [6]) (by kernel_rfl) (by simp) ?_
      refine AllReadyH.cons rfl (fun K hK => ?_) AllReadyH.nil
      go_simp
      refine hK.out _ _ trivial (fun hHeld => ?_)
      clear hK K
      refine wpAnyH_done (by kernel_rfl) ?_ _
      exact HZP

set_option maxRecDepth 100000 in
set_option maxHeartbeats 8000000 in
theorem wb_5_own {g : Weigh} {P : T → Prop} {fc : Nat} {ca : Value} {t : T} {u : Value} {L : List Vis} {w : World} {lo l n k : Nat} {R Z : Nat → Prop} {W : World} {x : T} {xu : Value} {fo : Nat} {recv : Value} {la : Option Addr} {lcap : Nat} {d s gb cap : Nat} {D : List Ch}
    (hn : 1 ≤ n) (_ : ∀ args w, (callFunc fc args).run Try.prog w = .ok (.enter fc args) w) (b : WB g P fc ca t u L w lo k R Z W x xu d D (.slice (some ⟨gb, 0, none⟩) D.length cap) fo recv la lcap) (ho : Own 103 2 lo W.heap.size W (.slice (some ⟨gb, 0, none⟩) D.length cap) D.length (chcs D)) (hcs : ¬ cap = s) (hk : x.kind = 5) (hd : d = x.ops.length) (hs : D.length = s + d) (hrun : g.run (L.take (k + 1)) [] = some (D.take s ++ [g.comb x (D.drop s)])) :
    weighBody.wpIn (Fence.wide.inRound l) n Try.prog (zPost R (WeighInv g L w lo (.func (.func fc) #[] #[ca])) k Z W) (weighAct t u (chV g.ofN) (.func (.func fc) #[] #[ca]) w.heap.size (condV x xu) (.int .i64 d)) W := by
  rw [g.comb_5 _ hk] at hrun
  have HF := Lib.hid (fun (Wc : World) (hc : Below W.heap.size W Wc) => b.fin (s := s) (c := (turned (D.drop s) g.ofN)) (by omega) hrun hc)
  rw [hs] at b HF
  simp only [headV] at HF
  have HK := Lib.hid (fun (X : World) (h : Below W.heap.size W X) => b.wk h)
  have HCO := Lib.hid b.hco
  have HCM := Lib.hid b.hcm
  rw [condV_5 xu hk] at HCM ⊢
  obtain ⟨xa, xn, xc, rfl⟩ := b.hxu
  have a1 : ∀ W : World, (Instr.typeAssert (.iface 143 (.slice xa xn xc)) 136 139 true).run Try.prog W = .ok (.tuple #[.agg #[], .bool false]) W := fun W => by kernel_rfl
  have a2 : ∀ W : World, (Instr.typeAssert (.iface 143 (.slice xa xn xc)) 136 107 true).run Try.prog W = .ok (.tuple #[.agg #[.int .i64 0, .int .i64 0, .int .i64 0, .int .i64 0, .string ⟨#[]⟩], .bool false]) W := fun W => by kernel_rfl
  have a3 : ∀ W : World, (Instr.typeAssert (.iface 143 (.slice xa xn xc)) 136 140 true).run Try.prog W = .ok (.tuple #[.slice none 0 0, .bool false]) W := fun W => by kernel_rfl
  have a4 : ∀ W : World, (Instr.typeAssert (.iface 143 (.slice xa xn xc)) 136 142 true).run Try.prog W = .ok (.tuple #[.slice none 0 0, .bool false]) W := fun W => by kernel_rfl
  have a5 : ∀ W : World, (Instr.typeAssert (.iface 143 (.slice xa xn xc)) 136 143 true).run Try.prog W = .ok (.tuple #[.slice xa xn xc, .bool true]) W := fun W => by kernel_rfl
  have HSF := Lib.hid (fun W => iSure false W)
  have hsd : s + d ≤ 2097154 := by
    have := b.hD
    omega
  have hsc : ¬ cap < s := by
    obtain ⟨x1, x2, x3, e, h1, _⟩ := ho.at
    cases e
    omega
  obtain ⟨ua, un, ucap, rfl⟩ := b.hu
  have hsl : ¬ (s : Int) + (d : Int) < (s : Int) := by omega
  have HALL := Lib.hid (fun X (h : Below W.heap.size W X) => iTurned (D.drop s) d (.slice (some ⟨gb, s * 2, none⟩) d (cap - s)) g.ofN X (by simp; omega) (drop_rd (s := s) (ho.keep (w' := X) (hi' := X.heap.size) (h.block gb (own_lt ho)) h.size) ⟨by omega, by omega, by have := b.hD; unfold maxLen; omega⟩ (.inl rfl)))
  generalize turned (D.drop s) g.ofN = cc at HF HALL
  obtain ⟨c1, c2⟩ := cc
  have hdi : ¬ ((d : Int) < (x.ops.length : Int)) := by omega
  generalize x.ops.length = no at HCO hdi
  generalize hofn : g.ofN = ofn at HK HALL ⊢
  obtain ⟨oy, on⟩ := ofn
  have HOF := Lib.hid hofn
  clear hofn b hrun hd hs ho
  unfold weighBody weighAct
  simp only [Try.f63, T.agg]
  gi_wp2_with (first | (refine wpListIn_invoke (fun _ => trivial) rfl rfl _ _ rfl _ rfl fo recv (HCM.out _) _ (CallsIn.inRound l (callsIn_wide.2 (HCO.out _))) ?_; rintro e w4 ⟨rfl, b4⟩; refine ⟨_, rfl, ?_⟩; obtain ⟨e4, _, _, _⟩ := HK.out _ b4; have B4 := Lib.hid b4; clear b4) | (refine ⟨trivial, ?_⟩; gi_at_call 64; refine (CallsIn.inRound l (callsIn_wide.2 (HSF.out _))).mono ?_; clear HSF; rintro e w5 ⟨rfl, b5⟩; have B5 := Lib.hid (below_then B4.out b5 B4.out.size); have B6 := Lib.hid (B5.out.alloc B5.out.size (.cells #[.bool false, .bool true] 103)); have R5 := Lib.hid (blk_new w5 [.bool false, .bool true] 103); obtain ⟨e4, e2, e10, e11⟩ := HK.out _ B6.out; clear b5))
  have HSX : Hid (∀ X, Below W.heap.size W X → X.cell? ⟨w.heap.size + 4, 0, none⟩ = some (.slice (some ⟨gb, 0, none⟩) (s + d) cap) ∧ X.cell? ⟨w.heap.size + 1, 0, none⟩ = some (.bool oy) ∧ X.cell? ⟨w.heap.size + 1, 1, none⟩ = some (.bool on)) := fun X h => by
    obtain ⟨e4, _, e10, e11⟩ := HK.out X h
    rw [HOF.out] at e10 e11
    exact ⟨e4, e10, e11⟩
  refine round_held (S := fun X => X.cell? ⟨w.heap.size + 4, 0, none⟩ = some (.slice (some ⟨gb, 0, none⟩) (s + d) cap) ∧ X.cell? ⟨w.heap.size + 1, 0, none⟩ = some (.bool oy) ∧ X.cell? ⟨w.heap.size + 1, 1, none⟩ = some (.bool on)) (by kernel_rfl) (by kernel_rfl) (HSX.out _ B6.out.drew) (fun hHeld => ?_)
  refine takeH (i := 0) (d := some 59) (v := .slice (some ⟨gb, 0, none⟩) (s + d) cap) rfl rfl (by kernel_rfl) (by kernel_rfl) (by kernel_rfl) (fun _ _ _ h => h) (Or.inl ⟨by rfl, fun W hSw => by obtain ⟨d0, d1, d2⟩ := hSw; go_simp⟩) hHeld ?_
  simp only [put_some, List.set_cons_zero, List.set_cons_succ]
  refine takeH (i := 1) (d := some 60) (v := .int .i64 s) rfl rfl (by kernel_rfl) (by kernel_rfl) (by kernel_rfl) (fun _ _ _ h => h) (Or.inl ⟨by rfl, fun W hSw => by obtain ⟨d0, d1, d2⟩ := hSw; go_simp⟩) hHeld ?_
  simp only [put_some, List.set_cons_zero, List.set_cons_succ]
  refine takeH (i := 2) (d := some 61) (v := .slice (some ⟨gb, s * 2, none⟩) d (cap - s)) rfl rfl (by kernel_rfl) (by kernel_rfl) (by kernel_rfl) (fun _ _ _ h => h) (Or.inl ⟨by rfl, fun W hSw => by obtain ⟨d0, d1, d2⟩ := hSw; go_simp⟩) hHeld ?_
  simp only [put_some, List.set_cons_zero, List.set_cons_succ]
  refine takeH (i := 3) (d := some 62) (v := chV (oy, on)) rfl rfl (by kernel_rfl) (by kernel_rfl) (by kernel_rfl) (fun _ _ _ h => h) (Or.inl ⟨by rfl, fun W hSw => by obtain ⟨d0, d1, d2⟩ := hSw; go_simp⟩) hHeld ?_
  simp only [put_some, List.set_cons_zero, List.set_cons_succ]
  refine wpAnyH_ready (rs := [4]) (by kernel_rfl) (by simp) ?_
  refine AllReadyH.cons rfl (fun K hK => ?_) AllReadyH.nil
  go_simp
  go_at_call 102
  refine (HALL.out _ B6.out.drew).mono ?_
  rintro e w7 ⟨rfl, b7⟩
  have B7 := Lib.hid (below_then B6.out.drew b7 B6.out.size)
  obtain ⟨⟨q0, g0⟩, q1, g1⟩ : (w7.cell? ⟨w5.heap.size, 0, none⟩ = some (.bool false) ∧ w7.frozen? ⟨w5.heap.size, 0, none⟩ = false) ∧ w7.cell? ⟨w5.heap.size, 1, none⟩ = some (.bool true) ∧ w7.frozen? ⟨w5.heap.size, 1, none⟩ = false := ⟨R5.out.below ⟨b7.os, b7.tape, b7.output, b7.size, b7.block⟩ 0 _ rfl, R5.out.below ⟨b7.os, b7.tape, b7.output, b7.size, b7.block⟩ 1 _ rfl⟩
  have B8 := Lib.hid ((B7.out.setCell (p := ⟨w5.heap.size, 0, none⟩) B5.out.size (.bool c1)).setCell (p := ⟨w5.heap.size, 1, none⟩) B5.out.size (.bool c2))
  clear b7 e4 e2 e10 e11
  go_wp2_with fail
  refine hK.out _ _ (HSX.out _ B7.out) (fun hHeld => ?_)
  clear hK K
  refine wpAnyH_ready (rs := [5]) (by kernel_rfl) (by simp) ?_
  refine AllReadyH.cons rfl (fun K hK => ?_) AllReadyH.nil
  go_simp
  refine hK.out _ _ (HSX.out _ B8.out) (fun hHeld => ?_)
  clear hK K
  refine wpAnyH_done (by kernel_rfl) ?_ _
  refine noOut_block ?_
  gi_wp2
  obtain ⟨X, hX⟩ : ∃ X, (w7.setCell ⟨w5.heap.size, 0, none⟩ (.bool c1)).setCell ⟨w5.heap.size, 1, none⟩ (.bool c2) = X := ⟨_, rfl⟩
  have RX : Blk ((w7.setCell ⟨w5.heap.size, 0, none⟩ (.bool c1)).setCell ⟨w5.heap.size, 1, none⟩ (.bool c2)) w5.heap.size [.bool c1, .bool c2] := by
    have h : Blk w7 w5.heap.size [.bool false, .bool true] := fun i x hx => by
      match i, hx with
      | 0, hx => simp at hx; subst hx; exact ⟨q0, g0⟩
      | 1, hx => simp at hx; subst hx; exact ⟨q1, g1⟩
    exact (h.set 0 _).set 1 _
  have o0 := (RX 0 _ rfl).1
  have o1 := (RX 1 _ rfl).1
  have hBX := (B7.out.setCell (p := ⟨w5.heap.size, 0, none⟩) B5.out.size (.bool c1)).setCell (p := ⟨w5.heap.size, 1, none⟩) B5.out.size (.bool c2)
  have e4 := (HK.out _ hBX).c4
  rw [hX] at e4 o0 o1 hBX ⊢
  clear HK HCO HCM RX q0 q1 g0 g1 hX
  obtain ⟨g8, cap8, W8, hap, y4, yf, HZP⟩ := HF.out X.drew hBX.drew
  have e4b := ((below_alloc X (.cells #[.bool c1, .bool c2] 103)).cell (p := ⟨w.heap.size + 4, 0, none⟩) (lt_of_cell e4)).trans e4
  refine round_held (S := fun _ => True) (by kernel_rfl) (by kernel_rfl) trivial (fun hHeld => ?_)
  refine takeH (i := 1) (d := some 65) (v := .int .i64 s) rfl rfl (by kernel_rfl) (by kernel_rfl) (by kernel_rfl) (fun _ _ _ h => h) (Or.inl ⟨by rfl, fun W hSw => by go_simp⟩) hHeld ?_
  simp only [put_some, List.set_cons_zero, List.set_cons_succ]
  refine wpAnyH_ready (rs := [0, 3]) (by kernel_rfl) (by simp) ?_
  refine AllReadyH.cons rfl (fun K hK => ?_) (AllReadyH.cons rfl (fun K hK => ?_) AllReadyH.nil)
  · go_simp
    refine hK.out _ _ trivial (fun hHeld => ?_)
    clear hK K
    refine takeH (i := 2) (d := some 66) (v := .slice (some ⟨gb, 0, none⟩) s cap) rfl rfl (by kernel_rfl) (by kernel_rfl) (by kernel_rfl) (fun _ _ _ h => h) (Or.inl ⟨by rfl, fun W hSw => by go_simp⟩) hHeld ?_
    simp only [put_some, List.set_cons_zero, List.set_cons_succ]
    refine wpAnyH_ready (rs := [3]) (by kernel_rfl) (by simp) ?_
    refine AllReadyH.cons rfl (fun K hK => ?_) AllReadyH.nil
    go_simp
    refine hK.out _ _ trivial (fun hHeld => ?_)
    clear hK K
    refine wpAnyH_ready (rs := [4]) (by kernel_rfl) (by simp) ?_
    refine AllReadyH.cons rfl (fun K hK => ?_) AllReadyH.nil
    go_simp
    refine hK.out _ _ trivial (fun hHeld => ?_)
    clear hK K
    refine wpAnyH_ready (rs := [5]) (by kernel_rfl) (by simp) ?_
    refine AllReadyH.cons rfl (fun K hK => ?_) AllReadyH.nil
    refine append_run_op (.tmp 66) (.tmp 68) _ rfl _ _ rfl rfl _ _ hap ?_
    refine hK.out _ _ trivial (fun hHeld => ?_)
    clear hK K
    refine wpAnyH_ready (rs := [6]) (by kernel_rfl) (by simp) ?_
    refine AllReadyH.cons rfl (fun K hK => ?_) AllReadyH.nil
    go_simp
    refine hK.out _ _ trivial (fun hHeld => ?_)
    clear hK K
    refine wpAnyH_done (by kernel_rfl) ?_ _
    exact HZP
  · go_simp
    refine hK.out _ _ trivial (fun hHeld => ?_)
    clear hK K
    refine wpAnyH_ready (rs := [0, 4]) (by kernel_rfl) (by simp) ?_
    refine AllReadyH.cons rfl (fun K hK => ?_) (AllReadyH.cons rfl (fun K hK => ?_) AllReadyH.nil)
    · go_simp
      refine hK.out _ _ trivial (fun hHeld => ?_)
      clear hK K
      refine takeH (i := 2) (d := some 66) (v := .slice (some ⟨gb, 0, none⟩) s cap) rfl rfl (by kernel_rfl) (by kernel_rfl) (by kernel_rfl) (fun _ _ _ h => h) (Or.inl ⟨by rfl, fun W hSw => by go_simp⟩) hHeld ?_
      simp only [put_some, List.set_cons_zero, List.set_cons_succ]
      refine wpAnyH_ready (rs := [4]) (by kernel_rfl) (by simp) ?_
      refine AllReadyH.cons rfl (fun K hK => ?_) AllReadyH.nil
      go_simp
      refine hK.out _ _ trivial (fun hHeld => ?_)
      clear hK K
      refine wpAnyH_ready (rs := [5]) (by kernel_rfl) (by simp) ?_
      refine AllReadyH.cons rfl (fun K hK => ?_) AllReadyH.nil
      refine append_run_op (.tmp 66) (.tmp 68) _ rfl _ _ rfl rfl _ _ hap ?_
      refine hK.out _ _ trivial (fun hHeld => ?_)
      clear hK K
      refine wpAnyH_ready (rs := [6]) (by kernel_rfl) (by simp) ?_
      refine AllReadyH.cons rfl (fun K hK => ?_) AllReadyH.nil
      go_simp
      refine hK.out _ _ trivial (fun hHeld => ?_)
      clear hK K
      refine wpAnyH_done (by kernel_rfl) ?_ _
      exact HZP
    · go_simp
      refine hK.out _ _ trivial (fun hHeld => ?_)
      clear hK K
      refine wpAnyH_ready (rs := [0]) (by kernel_rfl) (by simp) ?_
      refine AllReadyH.cons rfl (fun K hK => ?_) AllReadyH.nil
      go_simp
      refine hK.out _ _ trivial (fun hHeld => ?_)
      clear hK K
      refine takeH (i := 2) (d := some 66) (v := .slice (some ⟨gb, 0, none⟩) s cap) rfl rfl (by kernel_rfl) (by kernel_rfl) (by kernel_rfl) (fun _ _ _ h => h) (Or.inl ⟨by rfl, fun W hSw => by go_simp⟩) hHeld ?_
      simp only [put_some, List.set_cons_zero, List.set_cons_succ]
      refine wpAnyH_ready (rs := [5]) (by kernel_rfl) (by simp) ?_
      refine AllReadyH.cons rfl (fun K hK => ?_) AllReadyH.nil
      refine append_run_op (.tmp 66) (.tmp 68) _ rfl _ _ rfl rfl _ _ hap ?_
      refine hK.out _ _ trivial (fun hHeld => ?_)
      clear hK K
      refine wpAnyH_ready (rs := [6]) (by kernel_rfl) (by simp) ?_
      refine AllReadyH.cons rfl (fun K hK => ?_) AllReadyH.nil
      go_simp
      refine hK.out _ _ trivial (fun hHeld => ?_)
      clear hK K
      refine wpAnyH_done (by kernel_rfl) ?_ _
      exact HZP

theorem wb_5 {g : Weigh} {P : T → Prop} {fc : Nat} {ca : Value} {t : T} {u : Value} {L : List Vis} {w : World} {lo l n k : Nat} {R Z : Nat → Prop} {W : World} {x : T} {xu : Value} {d : Nat} {D : List Ch} {v : Value} {fo : Nat} {recv : Value} {la : Option Addr} {lcap : Nat}
    (hn : 1 ≤ n) (heg : ∀ args w, (callFunc fc args).run Try.prog w = .ok (.enter fc args) w) (b : WB g P fc ca t u L w lo k R Z W x xu d D v fo recv la lcap) (hk : x.kind = 5) (hd : d = x.ops.length) (hdD : d ≤ D.length) (hrun : g.run (L.take (k + 1)) [] = some (D.take (D.length - d) ++ [g.comb x (D.drop (D.length - d))])) :
    weighBody.wpIn (Fence.wide.inRound l) n Try.prog (zPost R (WeighInv g L w lo (.func (.func fc) #[] #[ca])) k Z W) (weighAct t u (chV g.ofN) (.func (.func fc) #[] #[ca]) w.heap.size (condV x xu) (.int .i64 d)) W := by
  obtain ⟨s, hs⟩ : ∃ s, D.length = s + d := ⟨D.length - d, by omega⟩
  rw [show D.length - d = s by omega] at hrun
  rcases b.h3 with ⟨rfl, rfl⟩ | ⟨gb, cap, rfl, ho, _⟩
  · obtain ⟨rfl, rfl⟩ : s = 0 ∧ d = 0 := by
      simp at hs
      omega
    exact wb_5_nil hn heg b hk hd hrun
  · by_cases hcs : cap = s
    · have hcap : D.length ≤ cap := by
        obtain ⟨x1, x2, x3, e, h1, _⟩ := ho.at
        cases e
        exact h1
      obtain rfl : d = 0 := by omega
      subst hcs
      exact wb_5_edge hn heg b ho hk hd (by omega) hrun
    · exact wb_5_own hn heg b ho hcs hk hd hs hrun

end Go.Proofs.Ytafoldpmodipaaa

/- The body of weigh's loop; so weigh's contract, without conditions on it. -/
namespace Go.Proofs.Ytafoldpmodipaaa
open Go.RowKit

theorem iWBody (g : Weigh) (P : T → Prop) (fc : Nat) (ca : Value) (heg : ∀ args w, (callFunc fc args).run Try.prog w = .ok (.enter fc args) w) : WeighBody g P fc ca := by
  intro t u L w lo l n k R Z W x xu d hn hlo hR hu hE hL hcmp hk hget hPx hxu hxl hdl hinv hz
  obtain ⟨E, hE⟩ := hE
  obtain ⟨D, v, hrun, h2, h3, h4, h5, h6, h7, h8⟩ := hinv
  have hget' : L.getD k (x, xu, d) = (x, xu, d) := by
    rw [List.getD_eq_getElem?_getD, List.getElem?_eq_getElem hk] at hget ⊢
    exact hget
  obtain ⟨D', hstep, hrun'⟩ := g.run_next hE hk hrun _ hget'
  obtain ⟨a, cap, rfl⟩ := hxu
  obtain ⟨fo, recv, hcm, hco⟩ := cond_op x (.slice a x.l.length cap) ⟨a, _, cap, rfl⟩
  obtain ⟨la, lcap, hlv, _⟩ := opsV_len (t := x) (u := .slice a x.l.length cap) rfl
  rw [hlv] at hco
  have hDl : D.length ≤ 2097154 := by
    have h := g.run_len _ _ _ hrun
    have h2 : (L.take k).length ≤ L.length := by simp; omega
    simp only [List.length_nil] at h
    omega
  have hol := x.ops_len
  have b : WB g P fc ca t u L w lo k R Z W x (.slice a x.l.length cap) d D v fo recv la lcap := ⟨hlo, hR, hu, hcmp, hPx, hz, h2, h3, h4, h5, h6, h7, h8, hDl, hdl, by omega, ⟨a, _, cap, rfl⟩, hcm, hco⟩
  unfold Weigh.step at hstep
  simp only at hstep
  split at hstep
  · rename_i hd
    cases hstep
    exact wb_more b hd hrun'
  · rename_i hd
    split at hstep
    · rename_i hdD
      cases hstep
      have hd' : d = x.ops.length := by omega
      by_cases k1 : x.kind = 1
      · exact wb_1 hn heg b k1 hd' hdD hrun'
      by_cases k2 : x.kind = 2
      · exact wb_2 hn heg b k2 hd' hdD hrun'
      by_cases k3 : x.kind = 3
      · exact wb_3 hn heg b k3 hd' hdD hrun'
      by_cases k4 : x.kind = 4
      · exact wb_4 hn heg b k4 hd' hdD hrun'
      by_cases k5 : x.kind = 5
      · exact wb_5 hn heg b k5 hd' hdD hrun'
      exact wb_no hn heg b k1 k2 k3 k4 k5 hd' hdD hrun'
    · cases hstep

end Go.Proofs.Ytafoldpmodipaaa

/- The contracts of impl's Holds and MayHold. -/
namespace Go.Proofs.Ytafoldpmodipaaa
open Go.RowKit Go.Shelf

/-- Holds by chances. -/
theorem ch_holds (l : List V) : ∀ t : T, (Weigh.mk (fun x => (Num.inB x.col 0 ((l.length : Int) - 1) && holdsB x.op (l.getD x.col.toNat V.zero) x.v, !(Num.inB x.col 0 ((l.length : Int) - 1) && holdsB x.op (l.getD x.col.toNat V.zero) x.v))) (true, false)).ch t = (t.holds l, !(t.holds l)) := by
  refine T.induct (fun t ih => ?_)
  rw [Weigh.ch_def]
  have hm : ∀ (f : Ch → Bool) (g : T → Bool), (∀ x ∈ t.l, f (x.holds l, !(x.holds l)) = g x) → ((t.l.map (Weigh.mk (fun x => (Num.inB x.col 0 ((l.length : Int) - 1) && holdsB x.op (l.getD x.col.toNat V.zero) x.v, !(Num.inB x.col 0 ((l.length : Int) - 1) && holdsB x.op (l.getD x.col.toNat V.zero) x.v))) (true, false)).ch).all f = t.l.all g) ∧ ((t.l.map (Weigh.mk (fun x => (Num.inB x.col 0 ((l.length : Int) - 1) && holdsB x.op (l.getD x.col.toNat V.zero) x.v, !(Num.inB x.col 0 ((l.length : Int) - 1) && holdsB x.op (l.getD x.col.toNat V.zero) x.v))) (true, false)).ch).any f = t.l.any g) := fun f g h => by
    constructor
    · rw [List.all_map, Bool.eq_iff_iff, List.all_eq_true, List.all_eq_true]
      exact forall_congr' fun x => forall_congr' fun hx => by rw [Function.comp, ih x hx, h x hx]
    · rw [List.any_map, Bool.eq_iff_iff, List.any_eq_true, List.any_eq_true]
      exact exists_congr fun x => ⟨fun ⟨hx, e⟩ => ⟨hx, by rw [Function.comp, ih x hx, h x hx] at e; exact e⟩, fun ⟨hx, e⟩ => ⟨hx, by rw [Function.comp, ih x hx, h x hx]; exact e⟩⟩
  have nall : ∀ (L : List T), (!(L.all (T.holds l))) = L.any (fun x => !(x.holds l)) := fun L => by
    induction L with
    | nil => rfl
    | cons x r ih => rw [List.all_cons, List.any_cons, Bool.not_and, ih]
  have nany : ∀ (L : List T), (!(L.any (T.holds l))) = L.all (fun x => !(x.holds l)) := fun L => by
    induction L with
    | nil => rfl
    | cons x r ih => rw [List.all_cons, List.any_cons, Bool.not_or, ih]
  by_cases k1 : t.kind = 1
  · rw [Weigh.comb_1 _ _ k1, T.holds_1 k1]
    rfl
  by_cases k2 : t.kind = 2
  · rw [Weigh.comb_2 _ _ k2, T.holds_2 k2]
  by_cases k3 : t.kind = 3
  · rw [Weigh.comb_3 _ _ k3, T.holds_3 k3, nall, (hm (·.1) (T.holds l) (fun _ _ => rfl)).1, (hm (·.2) (fun x => !(x.holds l)) (fun _ _ => rfl)).2]
  by_cases k4 : t.kind = 4
  · rw [Weigh.comb_4 _ _ k4, T.holds_4 k4, nany, (hm (·.1) (T.holds l) (fun _ _ => rfl)).2, (hm (·.2) (fun x => !(x.holds l)) (fun _ _ => rfl)).1]
  by_cases k5 : t.kind = 5
  · rw [Weigh.comb_5 _ _ k5, T.holds_5 k5]
    cases hl : t.l with
    | nil => rfl
    | cons x r =>
      have := ih x (by rw [hl]; exact List.mem_cons_self)
      simp only [List.map_cons, this]
      simp
  rw [Weigh.comb_no _ _ k1 k2 k3 k4 k5, T.holds_no k1 k2 k3 k4 k5]
  rfl

/-- MayHold by chances. -/
theorem ch_may (l : List Zn) : ∀ t : T, (Weigh.mk (fun x => (Num.inB x.col 0 ((l.length : Int) - 1) && mayB x.op (l.getD x.col.toNat Zn.zero) x.v, !(Num.inB x.col 0 ((l.length : Int) - 1)) || mayB (oppI x.op) (l.getD x.col.toNat Zn.zero) x.v)) (true, true)).ch t = (t.may l, t.nmay l) := by
  refine T.induct (fun t ih => ?_)
  rw [Weigh.ch_def]
  have hm : ∀ (f : Ch → Bool) (g : T → Bool), (∀ x ∈ t.l, f (x.may l, x.nmay l) = g x) → ((t.l.map (Weigh.mk (fun x => (Num.inB x.col 0 ((l.length : Int) - 1) && mayB x.op (l.getD x.col.toNat Zn.zero) x.v, !(Num.inB x.col 0 ((l.length : Int) - 1)) || mayB (oppI x.op) (l.getD x.col.toNat Zn.zero) x.v)) (true, true)).ch).all f = t.l.all g) ∧ ((t.l.map (Weigh.mk (fun x => (Num.inB x.col 0 ((l.length : Int) - 1) && mayB x.op (l.getD x.col.toNat Zn.zero) x.v, !(Num.inB x.col 0 ((l.length : Int) - 1)) || mayB (oppI x.op) (l.getD x.col.toNat Zn.zero) x.v)) (true, true)).ch).any f = t.l.any g) := fun f g h => by
    constructor
    · rw [List.all_map, Bool.eq_iff_iff, List.all_eq_true, List.all_eq_true]
      exact forall_congr' fun x => forall_congr' fun hx => by rw [Function.comp, ih x hx, h x hx]
    · rw [List.any_map, Bool.eq_iff_iff, List.any_eq_true, List.any_eq_true]
      exact exists_congr fun x => ⟨fun ⟨hx, e⟩ => ⟨hx, by rw [Function.comp, ih x hx, h x hx] at e; exact e⟩, fun ⟨hx, e⟩ => ⟨hx, by rw [Function.comp, ih x hx, h x hx]; exact e⟩⟩
  by_cases k1 : t.kind = 1
  · rw [Weigh.comb_1 _ _ k1, T.may_1 k1, T.nmay_1 k1]
  by_cases k2 : t.kind = 2
  · rw [Weigh.comb_2 _ _ k2, T.may_2 k2, T.nmay_2 k2]
  by_cases k3 : t.kind = 3
  · rw [Weigh.comb_3 _ _ k3, T.may_3 k3, T.nmay_3 k3, (hm (·.1) (T.may l) (fun _ _ => rfl)).1, (hm (·.2) (T.nmay l) (fun _ _ => rfl)).2]
  by_cases k4 : t.kind = 4
  · rw [Weigh.comb_4 _ _ k4, T.may_4 k4, T.nmay_4 k4, (hm (·.1) (T.may l) (fun _ _ => rfl)).2, (hm (·.2) (T.nmay l) (fun _ _ => rfl)).1]
  by_cases k5 : t.kind = 5
  · rw [Weigh.comb_5 _ _ k5, T.may_5 k5, T.nmay_5 k5]
    cases hl : t.l with
    | nil => rfl
    | cons x r =>
      have := ih x (by rw [hl]; exact List.mem_cons_self)
      simp only [List.map_cons, this]
      simp
  rw [Weigh.comb_no _ _ k1 k2 k3 k4 k5, T.may_no k1 k2 k3 k4 k5, T.nmay_no k1 k2 k3 k4 k5]

set_option maxRecDepth 100000 in
set_option maxHeartbeats 8000000 in
theorem iHolds : CHolds := by
  intro l t Q u vu w hsm hb hln hss hr hQ hv
  obtain ⟨a, cap, rfl, hvn⟩ := hv
  have hv' : Rd 3 w (.slice a l.length cap) l.length (vals l) := ⟨a, cap, rfl, hvn⟩
  obtain ⟨ua, ucap, rfl, _⟩ := RdT_def.1 hr
  have HCH := Lib.hid (ch_holds l t)
  have hmf : ∀ (fn : Fn) (first cap : Array Value) (w : World), (Instr.makeFunc fn first cap).run Try.prog w = .ok (.func fn first cap) w := fun _ _ _ _ => rfl
  have hfd : ∀ (x y : Bool) (W : World), (Instr.field 103 (chV (x, y)) 0).run Try.prog W = .ok (.bool x) W := fun x y W => by kernel_rfl
  have B0 := below_alloc2 w (.cells #[.int .i64 t.kind, .int .i64 t.col, .int .i64 t.op, .int .i64 t.v.ty, .int .i64 t.v.n, .string t.v.s, .slice ua t.l.length ucap] 46) (.cells #[.slice a l.length cap] 60)
  have C0 := (blk_new w [.int .i64 t.kind, .int .i64 t.col, .int .i64 t.op, .int .i64 t.v.ty, .int .i64 t.v.n, .string t.v.s, .slice ua t.l.length ucap] 46).below (below_alloc _ (.cells #[.slice a l.length cap] 60))
  have C1 := blk_new (w.alloc (.cells #[.int .i64 t.kind, .int .i64 t.col, .int .i64 t.op, .int .i64 t.v.ty, .int .i64 t.v.n, .string t.v.s, .slice ua t.l.length ucap] 46)) [.slice a l.length cap] 60
  rw [World.size_alloc] at C1
  generalize hw0 : (w.alloc (.cells #[.int .i64 t.kind, .int .i64 t.col, .int .i64 t.op, .int .i64 t.v.ty, .int .i64 t.v.n, .string t.v.s, .slice ua t.l.length ucap] 46)).alloc (.cells #[.slice a l.length cap] 60) = w0 at B0 C0 C1
  have HW0 := Lib.hid hw0
  have HW : Hid (∀ X, Below w0.heap.size w0 X → Calls Try.prog 63 #[t.agg (.slice ua t.l.length ucap), chV (true, false), .func (.func 65) #[] #[.pointer (some ⟨w.heap.size + 1, 0, none⟩)]] X fun e X' => e = .returned (chV (t.holds l, !(t.holds l))) ∧ Below X.heap.size X X') := fun X hX => by
    have hwX := B0.trans (hX.mono B0.size)
    have := iWeigh ⟨fun x => (Num.inB x.col 0 ((l.length : Int) - 1) && holdsB x.op (l.getD x.col.toNat V.zero) x.v, !(Num.inB x.col 0 ((l.length : Int) - 1) && holdsB x.op (l.getD x.col.toNat V.zero) x.v)), (true, false)⟩ (fun _ => True) 65 (.pointer (some ⟨w.heap.size + 1, 0, none⟩)) (iWBody _ _ _ _ (enters_of Try.func65 (by kernel_rfl) rfl)) t (.slice ua t.l.length ucap) Q X (fun b hq => (hQ b hq).below hwX) (hr.below hwX) hb (fun _ _ _ => trivial) (fun x Y _ _ hY => holdsOne l l.length cap (w.heap.size + 1) a x Y rfl (hv'.below (hwX.trans (hY.mono hwX.size))) ((C1.below hX).below hY 0 _ rfl).1)
    rw [HCH.out] at this
    exact this
  have HC0 := Lib.hid (fun X (h : Below w0.heap.size w0 X) => C0.below h)
  have p0 := (C0 0 _ rfl).1
  have p1 := (C0 1 _ rfl).1
  have p2 := (C0 2 _ rfl).1
  have p3 := (C0 3 _ rfl).1
  have p4 := (C0 4 _ rfl).1
  have p5 := (C0 5 _ rfl).1
  have p6 := (C0 6 _ rfl).1
  generalize t.holds l = res at HW ⊢
  clear hw0 hsm hb hln hss hr hQ hv' hvn HCH C0 C1
  simp only [T.agg] at HW ⊢
  go_enter Try.func28, Try.ntmps28
  go_wp2_with fail
  rw [HW0.out]
  have HS : Hid (∀ X, Below w0.heap.size w0 X → X.cell? ⟨w.heap.size, 0, none⟩ = some (.int .i64 t.kind) ∧ X.cell? ⟨w.heap.size, 1, none⟩ = some (.int .i64 t.col) ∧ X.cell? ⟨w.heap.size, 2, none⟩ = some (.int .i64 t.op) ∧ X.cell? ⟨w.heap.size, 3, none⟩ = some (.int .i64 t.v.ty) ∧ X.cell? ⟨w.heap.size, 4, none⟩ = some (.int .i64 t.v.n) ∧ X.cell? ⟨w.heap.size, 5, none⟩ = some (.string t.v.s) ∧ X.cell? ⟨w.heap.size, 6, none⟩ = some (.slice ua t.l.length ucap)) := fun X h => ⟨(HC0.out X h 0 _ rfl).1, (HC0.out X h 1 _ rfl).1, (HC0.out X h 2 _ rfl).1, (HC0.out X h 3 _ rfl).1, (HC0.out X h 4 _ rfl).1, (HC0.out X h 5 _ rfl).1, (HC0.out X h 6 _ rfl).1⟩
  have hB' := (Below.refl w0.heap.size w0).drew
  clear p0 p1 p2 p3 p4 p5 p6 HC0
  refine wp_region_held_drew (S := fun X => X.cell? ⟨w.heap.size, 0, none⟩ = some (.int .i64 t.kind) ∧ X.cell? ⟨w.heap.size, 1, none⟩ = some (.int .i64 t.col) ∧ X.cell? ⟨w.heap.size, 2, none⟩ = some (.int .i64 t.op) ∧ X.cell? ⟨w.heap.size, 3, none⟩ = some (.int .i64 t.v.ty) ∧ X.cell? ⟨w.heap.size, 4, none⟩ = some (.int .i64 t.v.n) ∧ X.cell? ⟨w.heap.size, 5, none⟩ = some (.string t.v.s) ∧ X.cell? ⟨w.heap.size, 6, none⟩ = some (.slice ua t.l.length ucap)) (by kernel_rfl) (HS.out _ hB') (fun hHeld => ?_)
  refine takeH (i := 0) (d := some 5) (v := .agg #[.int .i64 t.kind, .int .i64 t.col, .int .i64 t.op, .int .i64 t.v.ty, .int .i64 t.v.n, .string t.v.s, .slice ua t.l.length ucap]) rfl rfl (by kernel_rfl) (by kernel_rfl) (by kernel_rfl) (fun _ _ _ h => h) (Or.inl ⟨by rfl, fun W hSw => by obtain ⟨d0, d1, d2, d3, d4, d5, d6⟩ := hSw; go_simp⟩) hHeld ?_
  simp only [put_some, List.set_cons_zero, List.set_cons_succ]
  refine takeH (i := 2) (d := some 7) (v := .func (.func 65) #[] #[.pointer (some ⟨w.heap.size + 1, 0, none⟩)]) rfl rfl (by kernel_rfl) (by kernel_rfl) (by kernel_rfl) (fun _ _ _ h => h) (Or.inl ⟨by rfl, fun W hSw => by obtain ⟨d0, d1, d2, d3, d4, d5, d6⟩ := hSw; go_simp⟩) hHeld ?_
  simp only [put_some, List.set_cons_zero, List.set_cons_succ]
  refine wpAnyH_ready (rs := [1]) (by kernel_rfl) (by simp) ?_
  refine AllReadyH.cons rfl (fun K hK => ?_) AllReadyH.nil
  go_simp
  go_at_call 64
  refine (iSure true _).mono ?_
  rintro e w1 ⟨rfl, hb1⟩
  replace hB' := below_then hB' hb1 hB'.size
  clear hb1
  go_wp2_with fail
  refine hK.out _ _ (HS.out _ hB') (fun hHeld => ?_)
  clear hK K
  refine wpAnyH_ready (rs := [3]) (by kernel_rfl) (by simp) ?_
  refine AllReadyH.cons rfl (fun K hK => ?_) AllReadyH.nil
  go_simp
  go_at_call 63
  refine (HW.out _ hB').mono ?_
  rintro e w2 ⟨rfl, hb2⟩
  replace hB' := below_then hB' hb2 hB'.size
  clear hb2
  go_wp2_with fail
  refine hK.out _ _ (HS.out _ hB') (fun hHeld => ?_)
  clear hK K
  refine takeH (i := 4) (d := some 9) (v := .bool res) rfl rfl (by kernel_rfl) (by kernel_rfl) (by kernel_rfl) (fun _ _ _ h => h) (Or.inl ⟨by rfl, fun W hSw => by obtain ⟨d0, d1, d2, d3, d4, d5, d6⟩ := hSw; go_simp⟩) hHeld ?_
  simp only [put_some, List.set_cons_zero, List.set_cons_succ]
  refine takeH (i := 5) (d := some 4) (v := .bool res) rfl rfl (by kernel_rfl) (by kernel_rfl) (by kernel_rfl) (fun _ _ _ h => h) (Or.inl ⟨by rfl, fun W hSw => by obtain ⟨d0, d1, d2, d3, d4, d5, d6⟩ := hSw; go_simp⟩) hHeld ?_
  simp only [put_some, List.set_cons_zero, List.set_cons_succ]
  refine wpAnyH_done (by kernel_rfl) ?_ _
  go_wp2
  go_ret
  exact ⟨rfl, B0.trans (hB'.mono B0.size)⟩

set_option maxRecDepth 100000 in
set_option maxHeartbeats 8000000 in
theorem iMayHold : CMayHold := by
  intro l t Q u vu w hsm hb hln hss hr hQ hv
  obtain ⟨a, cap, rfl, hvn⟩ := hv
  have hv' : Rd 6 w (.slice a l.length cap) l.length (zns l) := ⟨a, cap, rfl, hvn⟩
  obtain ⟨ua, ucap, rfl, _⟩ := RdT_def.1 hr
  have HCH := Lib.hid (ch_may l t)
  have hmf : ∀ (fn : Fn) (first cap : Array Value) (w : World), (Instr.makeFunc fn first cap).run Try.prog w = .ok (.func fn first cap) w := fun _ _ _ _ => rfl
  have hfd : ∀ (x y : Bool) (W : World), (Instr.field 103 (chV (x, y)) 0).run Try.prog W = .ok (.bool x) W := fun x y W => by kernel_rfl
  have B0 := below_alloc2 w (.cells #[.int .i64 t.kind, .int .i64 t.col, .int .i64 t.op, .int .i64 t.v.ty, .int .i64 t.v.n, .string t.v.s, .slice ua t.l.length ucap] 46) (.cells #[.slice a l.length cap] 63)
  have C0 := (blk_new w [.int .i64 t.kind, .int .i64 t.col, .int .i64 t.op, .int .i64 t.v.ty, .int .i64 t.v.n, .string t.v.s, .slice ua t.l.length ucap] 46).below (below_alloc _ (.cells #[.slice a l.length cap] 63))
  have C1 := blk_new (w.alloc (.cells #[.int .i64 t.kind, .int .i64 t.col, .int .i64 t.op, .int .i64 t.v.ty, .int .i64 t.v.n, .string t.v.s, .slice ua t.l.length ucap] 46)) [.slice a l.length cap] 63
  rw [World.size_alloc] at C1
  generalize hw0 : (w.alloc (.cells #[.int .i64 t.kind, .int .i64 t.col, .int .i64 t.op, .int .i64 t.v.ty, .int .i64 t.v.n, .string t.v.s, .slice ua t.l.length ucap] 46)).alloc (.cells #[.slice a l.length cap] 63) = w0 at B0 C0 C1
  have HW0 := Lib.hid hw0
  have HW : Hid (∀ X, Below w0.heap.size w0 X → Calls Try.prog 63 #[t.agg (.slice ua t.l.length ucap), chV (true, true), .func (.func 69) #[] #[.pointer (some ⟨w.heap.size + 1, 0, none⟩)]] X fun e X' => e = .returned (chV (t.may l, t.nmay l)) ∧ Below X.heap.size X X') := fun X hX => by
    have hwX := B0.trans (hX.mono B0.size)
    have := iWeigh ⟨fun x => (Num.inB x.col 0 ((l.length : Int) - 1) && mayB x.op (l.getD x.col.toNat Zn.zero) x.v, !(Num.inB x.col 0 ((l.length : Int) - 1)) || mayB (oppI x.op) (l.getD x.col.toNat Zn.zero) x.v), (true, true)⟩ (fun _ => True) 69 (.pointer (some ⟨w.heap.size + 1, 0, none⟩)) (iWBody _ _ _ _ (enters_of Try.func69 (by kernel_rfl) rfl)) t (.slice ua t.l.length ucap) Q X (fun b hq => (hQ b hq).below hwX) (hr.below hwX) hb (fun _ _ _ => trivial) (fun x Y _ _ hY => mayOne l l.length cap (w.heap.size + 1) a x.col x.op x.v.ty x.v.n x.v.s Y rfl (hv'.below (hwX.trans (hY.mono hwX.size))) ((C1.below hX).below hY 0 _ rfl).1)
    rw [HCH.out] at this
    exact this
  have HC0 := Lib.hid (fun X (h : Below w0.heap.size w0 X) => C0.below h)
  have p0 := (C0 0 _ rfl).1
  have p1 := (C0 1 _ rfl).1
  have p2 := (C0 2 _ rfl).1
  have p3 := (C0 3 _ rfl).1
  have p4 := (C0 4 _ rfl).1
  have p5 := (C0 5 _ rfl).1
  have p6 := (C0 6 _ rfl).1
  generalize t.may l = res at HW ⊢
  generalize t.nmay l = res2 at HW
  clear hw0 hsm hb hln hss hr hQ hv' hvn HCH C0 C1
  simp only [T.agg] at HW ⊢
  go_enter Try.func30, Try.ntmps30
  go_wp2_with fail
  rw [HW0.out]
  have hB0 := Below.refl w0.heap.size w0
  refine (HW.out _ hB0).mono ?_
  rintro e w2 ⟨rfl, hb2⟩
  clear p0 p1 p2 p3 p4 p5 p6 HC0 HW
  go_wp2
  go_ret
  exact ⟨rfl, B0.trans (hb2.mono B0.size)⟩

end Go.Proofs.Ytafoldpmodipaaa
