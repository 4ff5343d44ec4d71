/- Texts of this claim, one behind the other: I13j. -/
import Derived.Test.YtkofafefnlommaaGreatP30
import Derived.Test.YtkofafefnlommaaGreatP9
import Derived.Test.YtkofafefnlommaaGreatP23

/- The program's idsOf, joinBytes (written by mk_S13g.py). -/
namespace Go.Proofs.YtkofafefnlommaaGreat
open Go.RowKit

set_option maxRecDepth 100000 in
set_option maxHeartbeats 800000 in
theorem iIds (v : Value) (ps : List P) (w : World) (hn : ps.length ≤ 1048576) (h : RdRs w v ps) :
    Calls Tryz.prog 38 #[v] w fun e w' => ∃ v', e = .returned v' ∧ Own 3 1 w.heap.size w'.heap.size w' v' ps.length (ints .i64 (idsL (ps.map (·.1)))) ∧ Below w.heap.size w w' := by
  generalize hl : ps.length = n at hn ⊢
  obtain ⟨a, cap, rfl, _, HC⟩ := h.walk hl
  have HST : Hid (∀ j, j < n → idsL ((ps.map (·.1)).take (j + 1)) = idsL ((ps.map (·.1)).take j) ++ [(ps.getD j P.zero).1.id]) := fun j hj => by
    rw [idsL_take (by rw [List.length_map]; omega), getD_fstR]
  have HALL : Hid ((ps.map (·.1)).take n = ps.map (·.1)) := by
    show _ = _
    rw [← hl, List.take_of_length_le (by rw [List.length_map]; exact Nat.le_refl _)]
  have O1 := own_lit (e := 3) (size := 1) w #[] 0 (Nat.zero_le _) rfl
  have B1 := below_alloc w (.cells #[] 3)
  generalize hw1 : w.alloc (.cells #[] 3) = w1 at O1 B1
  have HW1 := Lib.hid hw1
  clear hw1 h hl
  go_enter Tryz.func38, Tryz.ntmps38
  go_wp2
  rw [HW1.out]
  go_loopw [3, 9] (fun o i wr => ∃ k : Nat, k ≤ n ∧ i = .int .i64 k ∧ (∃ g cp, o = .slice (some ⟨g, 0, none⟩) k cp) ∧ Own 3 1 w.heap.size wr.heap.size wr o k (ints .i64 (idsL ((ps.map (·.1)).take k))) ∧ Below w.heap.size w wr) (fun _ i _ => n - (intOf i).toNat)
  case atStart => exact ⟨0, Nat.zero_le _, rfl, ⟨_, _, rfl⟩, by simpa [idsL, ints] using O1, B1⟩
  case round =>
    obtain ⟨k, hk, rfl, ⟨og, oc, rfl⟩, hown, hbr⟩ := hrel
    clear O1 B1
    by_cases hlt : k < n
    · obtain ⟨b, off, rfl, c0, c1, hrd⟩ := HC.out k hlt wr hbr
      have HSK := Lib.hid (HST.out k hlt)
      obtain ⟨xa, xc, hx, _⟩ := hrd
      generalize ps.getD k P.zero = pk at c0 c1 hx HSK
      obtain ⟨⟨ri, rl⟩, x⟩ := pk
      simp only at c0 c1 hx HSK
      generalize rl.length = xn at hx
      subst hx
      have BX := below_alloc wr (.cells #[.int .i64 ri, .slice xa xn xc] 66)
      have T2 := two_new wr (.int .i64 ri) (.slice xa xn xc) 66
      have O2 := (hown.below BX (Nat.le_refl _)).wide BX.size
      have B2 := below_then hbr BX hbr.size
      have hsa : (wr.alloc (.cells #[.int .i64 ri, .slice xa xn xc] 66)).heap.size = wr.heap.size + 1 := World.size_alloc _ _
      generalize hwa : wr.alloc (.cells #[.int .i64 ri, .slice xa xn xc] 66) = wa at O2 B2 T2 hsa
      have HWA := Lib.hid hwa
      obtain ⟨⟨t0, t1⟩, t2, t3⟩ := T2
      clear BX hwa
      go_wp2_with (at_builtin; rw [HWA.out]; refine append1_law Tryz.elemInts rfl _ _ rfl _ _ _ _ _ (.int .i64 ri) rfl rfl O2 (by rw [hsa]; rfl) (by unfold maxLen; omega) (by omega) ?_)
      intro v5 w5 o5 e5
      have HF : Hid (Own 3 1 w.heap.size w5.heap.size w5 v5 (k + 1) (ints .i64 (idsL ((ps.map (·.1)).take (k + 1)))) ∧ Below w.heap.size w w5) := by
        refine ⟨?_, below_ext B2 O2 (Nat.le_refl _) B2.size e5⟩
        rw [HSK.out, ints_append]
        exact o5
      obtain ⟨vb, vc, hv5⟩ : ∃ g cp, v5 = .slice (some ⟨g, 0, none⟩) (k + 1) cp := by obtain ⟨g, cp, e, _⟩ := o5; exact ⟨g, cp, e⟩
      subst hv5
      clear o5 e5 O2 B2
      go_wp2
      go_roundw
      case rel => exact ⟨k + 1, by omega, by go_num, ⟨_, _, rfl⟩, HF.out.1, HF.out.2⟩
      case measure => simp [intOf]; omega
    · obtain rfl : k = n := by omega
      have HO := Lib.hid hown
      clear hown
      go_wp2
      go_ret
      exact ⟨_, rfl, by rw [HALL.out] at HO; exact HO.out, hbr⟩

theorem Tryz.elemPieces : ElemT Tryz.prog 53 22 (.slice none 0 0) 1 24 := ⟨Tryz.underlying53, info_parts (by kernel_rfl), rfl, by decide⟩
theorem tail1_at (cap A b : Nat) : ∃ tl, (if cap = A then some (⟨b, 0, none⟩ : Addr) else some ⟨b, A, none⟩) = some ⟨b, tl, none⟩ ∧ Hid (A < cap → tl = A) := by
  by_cases e : cap = A
  · exact ⟨0, by rw [if_pos e], fun h => by omega⟩
  · exact ⟨A, by rw [if_neg e], fun _ => rfl⟩
/-- Pieces: slices of bytes, in blocks of their own. -/
abbrev B := Value × List Int
def Pcs (lo : Nat) (w : World) (qs : List B) : Prop := ∀ q ∈ qs, Own 5 1 lo w.heap.size w q.1 q.2.length (ints .u8 q.2)
theorem Pcs.below {lo : Nat} {w w' : World} {qs : List B} (h : Pcs lo w qs) (hb : Below w.heap.size w w') : Pcs lo w' qs := fun q hq => ((h q hq).below hb (Nat.le_refl _)).wide hb.size
theorem Pcs.ext {lo lo' hi n : Nat} {w w' : World} {qs : List B} {v v' : Value} {xs : List Value} (h : Pcs lo w qs) (ho : Own 22 1 lo' hi w v n xs) (he : Ext w w' v v') : Pcs lo w' qs := fun q hq => ((h q hq).other he.grown (Own.blocks_ne ho (h q hq) (by decide))).wide he.grown.size
def flatB (qs : List B) : List Int := qs.flatMap (·.2)
theorem flatB_take {qs : List B} {j : Nat} (hj : j < qs.length) : flatB (qs.take (j + 1)) = flatB (qs.take j) ++ (qs.getD j (.slice none 0 0, [])).2 := by
  unfold flatB
  rw [List.take_succ_eq_append_getElem hj, List.flatMap_append]
  simp [hj]
theorem flatB_le (qs : List B) (j : Nat) : (flatB (qs.take j)).length ≤ (flatB qs).length := by
  have e : flatB qs = flatB (qs.take j) ++ flatB (qs.drop j) := by
    unfold flatB
    rw [← List.flatMap_append, List.take_append_drop]
  rw [e, List.length_append]
  omega

set_option maxRecDepth 100000 in
set_option maxHeartbeats 800000 in
theorem iJoin (lo hi n : Nat) (v : Value) (qs : List B) (w : World) (hl : qs.length = n) (hn : n ≤ 1048576) (hf : (flatB qs).length ≤ 1048576) (hv : Own 22 1 lo hi w v n (qs.map (·.1))) (hp : Pcs lo w qs) :
    Calls Tryz.prog 42 #[v] w fun e w' => ∃ v', e = .returned v' ∧ Own 5 1 w.heap.size w'.heap.size w' v' (flatB qs).length (ints .u8 (flatB qs)) ∧ Below w.heap.size w w' := by
  obtain ⟨pb, off, cap, rfl, _, _, _, hc⟩ := hv.at
  have hpb : pb < w.heap.size := by
    obtain ⟨g, cp, e, _, _, h⟩ := hv
    simp only [Value.slice.injEq, Option.some.injEq, Addr.mk.injEq] at e
    have := (h.lt _ rfl).2
    omega
  have HPC : Hid (∀ k, k < n → ∀ W, Below w.heap.size w W → ∃ pg pc, (qs.getD k (.slice none 0 0, [])).1 = .slice (some ⟨pg, 0, none⟩) (qs.getD k (.slice none 0 0, [])).2.length pc ∧ W.cell? ⟨pb, off + k, none⟩ = some ((qs.getD k (.slice none 0 0, [])).1) ∧ ∀ j x, (ints .u8 (qs.getD k (.slice none 0 0, [])).2)[j]? = some x → W.cell? ⟨pg, 0 + j, none⟩ = some x) := fun k hk W hW => by
    have hk' : k < qs.length := by omega
    have e : qs.getD k (.slice none 0 0, []) = qs[k] := by simp [hk']
    rw [e]
    have hmem := hp _ (List.getElem_mem hk')
    have hcell := hc k _ (by rw [List.getElem?_map, List.getElem?_eq_getElem hk']; rfl)
    obtain ⟨pg, poff, pc, e1, _, _, _, h4⟩ := (hmem.below hW (Nat.le_refl _)).at
    obtain ⟨g2, c2, e2, _⟩ := id hmem
    rw [e1] at e2
    simp only [Value.slice.injEq, Option.some.injEq, Addr.mk.injEq, and_true, true_and] at e2
    obtain ⟨⟨rfl, rfl⟩, rfl⟩ := e2
    exact ⟨pg, pc, e1, (hW.cell (p := ⟨pb, off + k, none⟩) (lt_of_cell hcell)).trans hcell, h4⟩
  have HFT : Hid (∀ j, j < n → flatB (qs.take (j + 1)) = flatB (qs.take j) ++ (qs.getD j (.slice none 0 0, [])).2) := fun j hj => flatB_take (by omega)
  have HFL : Hid (∀ j, (flatB (qs.take j)).length ≤ (flatB qs).length) := fun j => flatB_le qs j
  have HFA : Hid (flatB (qs.take n) = flatB qs) := by
    show _ = _
    rw [← hl, List.take_length]
  generalize flatB qs = FB at HFA HFL hf ⊢
  generalize hfn : FB.length = fn at HFL hf ⊢
  have HFN := Lib.hid hfn
  clear hv hp hc hl hfn
  go_enter Tryz.func42, Tryz.ntmps42
  go_wp2
  go_loop [3, 12] (fun s i => ∃ k : Nat, k ≤ n ∧ i = .int .i64 k ∧ s = .int .i64 ((flatB (qs.take k)).length : Nat)) (fun _ i => n - (intOf i).toNat)
  case atStart => exact ⟨0, Nat.zero_le _, rfl, by simp [flatB]⟩
  case round =>
    obtain ⟨k, hk, rfl, rfl⟩ := hrel
    by_cases hlt : k < n
    · obtain ⟨pg, pc, h1, h2, _⟩ := HPC.out k hlt w (Below.refl _ _)
      have hle := HFL.out (k + 1)
      have HT := Lib.hid (congrArg List.length (HFT.out k hlt))
      generalize hpl : (qs.getD k (.slice none 0 0, [])).2.length = pl at h1
      rw [h1] at h2
      have HT2 : Hid ((flatB (qs.take (k + 1))).length = (flatB (qs.take k)).length + pl) := by
        show _ = _
        rw [HT.out, List.length_append, hpl]
      rw [HT2.out] at hle
      generalize (flatB (qs.take k)).length = s at hle HT2 ⊢
      clear HT h1 hpl
      go_wp2
      go_round
      case rel => exact ⟨k + 1, by omega, by go_num, by rw [HT2.out]; go_num⟩
      case measure => simp [intOf]; omega
    · obtain rfl : k = n := by omega
      rw [HFA.out, HFN.out]
      go_wp2_with (at_make; refine make_law Tryz.elemBytes rfl _ _ rfl .i64 .i64 _ _ fn rfl rfl rfl rfl (by omega) (by unfold maxLen; omega) ?_)
      intro w1 ho1 hb1
      have hg1 : w1.heap[w.heap.size]? = some (.cells ((ints .u8 (flatB (qs.take 0)) ++ List.replicate (fn - (flatB (qs.take 0)).length) (Value.int .u8 0)).toArray) 5 (0, 0)) := by
        obtain ⟨g, cp, cur, e, _, _, hg, hc1, hc2, hc3, hc4, _⟩ := ho1.opened
        simp only [Value.slice.injEq, Option.some.injEq, Addr.mk.injEq, and_true, true_and] at e
        obtain ⟨rfl, rfl⟩ := e
        rw [hg]
        have e4 := made_ints .u8 fn
        rw [Nat.mul_one] at e4
        have e6 : cur.toList.take (fn * 1) = cur.toList := List.take_of_length_le (by rw [Array.length_toList, hc3]; exact Nat.le_refl _)
        have e2 : cur.toList = List.replicate fn (Value.int .u8 0) := e6.symm.trans (hc4.trans e4)
        have e3 : cur = (List.replicate fn (Value.int .u8 0)).toArray := by rw [← e2]
        rw [e3]
        simp [flatB, ints]
      have hs1 : w1.heap.size = w.heap.size + 1 ∨ w.heap.size < w1.heap.size := .inr (ho1.row.lt _ rfl).2
      have hlt1 : w.heap.size < w1.heap.size := (ho1.row.lt _ rfl).2
      clear ho1 hs1
      go_wp2
      go_loopw [7, 25] (fun s i wr => ∃ j : Nat, j ≤ k ∧ i = .int .i64 j ∧ s = .int .i64 ((flatB (qs.take j)).length : Nat) ∧ wr.heap[w.heap.size]? = some (.cells ((ints .u8 (flatB (qs.take j)) ++ List.replicate (fn - (flatB (qs.take j)).length) (Value.int .u8 0)).toArray) 5 (0, 0)) ∧ Below w.heap.size w wr) (fun _ i _ => k - (intOf i).toNat)
      case atStart => exact ⟨0, Nat.zero_le _, rfl, by simp [flatB], hg1, hb1⟩
      case round =>
        obtain ⟨j, hj, rfl, rfl, hg, hbr⟩ := hrel
        clear hg1 hb1
        by_cases hjl : j < k
        · obtain ⟨pg, pc, h1, h2, h3⟩ := HPC.out j hjl wr hbr
          have hle := HFL.out (j + 1)
          have HT := Lib.hid (HFT.out j hjl)
          generalize hpq : (qs.getD j (.slice none 0 0, [])).2 = PQ at h1 h3 HT
          generalize hpl : PQ.length = pl at h1
          rw [h1] at h2
          have HPL := Lib.hid hpl
          have HT2 : Hid ((flatB (qs.take (j + 1))).length = (flatB (qs.take j)).length + pl) := by
            show _ = _
            rw [HT.out, List.length_append, hpl]
          rw [HT2.out] at hle
          generalize hs : (flatB (qs.take j)).length = s at hle HT2 hg ⊢
          have HS := Lib.hid hs
          have hcur : (ints .u8 (flatB (qs.take j)) ++ List.replicate (fn - s) (Value.int .u8 0)).length = fn := by
            rw [List.length_append, ints_len, List.length_replicate, hs]
            omega
          obtain ⟨CUR, hCUR⟩ : ∃ c, ints .u8 (flatB (qs.take j)) ++ List.replicate (fn - s) (Value.int .u8 0) = c := ⟨_, rfl⟩
          rw [hCUR] at hg hcur
          have HCUR := Lib.hid hCUR
          have HNEW : Hid (splice CUR s (ints .u8 PQ) = ints .u8 (flatB (qs.take (j + 1))) ++ List.replicate (fn - (s + pl)) (Value.int .u8 0)) := by
            show _ = _
            unfold splice
            rw [← hCUR, HT.out, ints_append, ints_len, hpl, List.take_append_of_le_length (by rw [ints_len, hs]; exact Nat.le_refl _), List.take_of_length_le (by rw [ints_len, hs]; exact Nat.le_refl _), List.drop_append, ints_len, hs, List.drop_of_length_le (by rw [ints_len, hs]; omega), List.nil_append, List.drop_replicate, List.append_assoc, show fn - s - (s + pl - s) = fn - (s + pl) by omega]
          have HH3 := Lib.hid h3
          have hcl : (ints .u8 PQ).length = pl := by rw [ints_len, hpl]
          have HCS := Lib.hid hcl
          generalize hcs : ints .u8 PQ = CS at HNEW HH3 hcl HCS
          have HONE : Hid (∀ v ∈ CS, v.oneCell' = true) := by rw [← hcs]; exact ints_one _ _
          obtain ⟨tl, htl, HTL⟩ := tail1_at fn s w.heap.size
          clear h1 hpq hpl hs h3 hCUR hcs hcl HT
          have HPOS : 0 < CS.length → (some (⟨w.heap.size, tl, none⟩ : Addr)) = some ⟨w.heap.size, s, none⟩ ∧ ∃ ad, (some (⟨pg, 0, none⟩ : Addr)) = some ad ∧ ∀ j v, CS[j]? = some v → wr.cell? (ad.add j) = some v := fun hp => by
            have h := HTL.out (by rw [HCS.out] at hp; omega)
            exact ⟨by rw [h], _, rfl, fun j v hj => by rw [Addr.add_lit]; exact HH3.out j v hj⟩
          have HMIN : CS.length = Nat.min pl (fn - s) := by rw [HCS.out]; simp only [Nat.min_def]; split <;> omega
          have HFIT : s + CS.length ≤ CUR.length := by rw [HCS.out, hcur]; omega
          have HSZ : (Tryz.prog.info? 5).map (·.size) = some 1 := by kernel_rfl
          have HP2 := Lib.hid HPOS
          have HM2 := Lib.hid HMIN
          have HF2 := Lib.hid HFIT
          have HS2 := Lib.hid HSZ
          have HG2 := Lib.hid hg
          clear HPOS HMIN HFIT HSZ hg hcur
          go_wp2_with (refine wpList_copy_splice rfl _ _ 22 22 rfl 5 Tryz.underlying22 HS2.out (some ⟨w.heap.size, tl, none⟩) (some ⟨pg, 0, none⟩) (fn - s) (fn - s) pl pc rfl rfl w.heap.size s CUR 5 HG2.out CS HM2.out HP2.out HF2.out HONE.out w.heap.size w hbr (Nat.le_refl _) ?_)
          intro w4 hg4 hb4
          have HG4 := Lib.hid hg4
          rw [HNEW.out] at HG4
          clear hg4
          go_wp2
          go_roundw
          case rel => exact ⟨j + 1, by omega, by go_num, by have hwr := IntWalk.wrap64_in ((s : Int) + (pl : Int)) (by omega); rw [HT2.out, HCS.out]; go_num, by rw [HT2.out]; exact HG4.out, hb4⟩
          case measure => simp [intOf]; omega
        · obtain rfl : j = k := by omega
          rw [HFA.out, HFN.out, Nat.sub_self, List.replicate_zero, List.append_nil] at hg
          have HG := Lib.hid hg
          have hlw : w.heap.size < wr.heap.size := (Array.getElem?_eq_some_iff.1 hg).1
          have HO : Hid (Own 5 1 w.heap.size wr.heap.size wr (.slice (some ⟨w.heap.size, 0, none⟩) fn fn) fn (ints .u8 FB)) :=
            Own.closed (Nat.le_refl _) hlw HG.out (Nat.le_refl _) (by unfold maxLen; omega) (by simp [ints, HFN.out]) (by rw [Nat.mul_one, List.take_of_length_le (by simp [ints, HFN.out])]) (by rw [ints_len, HFN.out, Nat.mul_one])
          clear hg
          go_wp2
          go_ret
          exact ⟨_, rfl, HO.out, hbr⟩

end Go.Proofs.YtkofafefnlommaaGreat
