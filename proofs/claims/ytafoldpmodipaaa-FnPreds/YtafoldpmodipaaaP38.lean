/- Texts of this claim, one behind the other: Law11d. -/
import Derived.Test.YtafoldpmodipaaaP33
import Derived.Test.YtafoldpmodipaaaP21
import Derived.Test.YtafoldpmodipaaaP37
import Derived.Test.YtafoldpmodipaaaP31
import Derived.Test.YtafoldpmodipaaaP17
import Derived.Test.YtafoldpmodipaaaP7
import Derived.Test.YtafoldpmodipaaaP5

/- The law FnPreds, walked (written by mk_Law11d.py). -/
namespace Go.Proofs.Ytafoldpmodipaaa
open Go.RowKit

/-- A predicate that stands alone in a block of its own, negated. -/
theorem neg_rd {lo q : Nat} {w : World} {t : T} {u : Value} (h : RdT (PQ lo w) w t u) (hq : lo ≤ q) (hlt : q < w.heap.size) (hp : Plain w q) (hc : ∀ i x, (t.cs u)[i]? = some x → w.cell? ⟨q, i, none⟩ = some x) :
    RdT (PQ lo w) w t.neg (.slice (some ⟨q, 0, none⟩) 1 1) := by
  rw [RdT_def]
  refine ⟨_, 1, rfl, by show (1 : Nat) ≤ _; unfold maxLen; omega, .inr ⟨q, 0, rfl, ⟨hq, hlt, hp⟩, ?_⟩⟩
  show RdTs _ w [t] q 0
  rw [RdTs, RdTs]
  exact ⟨⟨u, fun i x hx => by rw [Nat.zero_add]; exact hc i x hx, h⟩, trivial⟩
theorem neg_small {t : T} {B : Nat} (h : t.bulk ≤ B) (hs : t.Small) : t.neg.bulk ≤ B + 1 ∧ t.neg.Small := by
  refine ⟨?_, ?_⟩
  · rw [T.bulk_def]
    show (0 : Nat) + 1 + T.bulks [t] ≤ _
    simp [T.bulks]
    omega
  · rw [small_iff]
    exact ⟨Nat.zero_le _, fun x hx => by rw [List.mem_singleton.1 hx]; exact hs⟩
theorem predOk_ok {cols : List Int} {t : T} (h : t.predOk cols = true) : t.ok cols = true := by
  unfold T.predOk at h
  simp only [Bool.and_eq_true] at h
  exact h.2

set_option maxRecDepth 100000 in
set_option maxHeartbeats 8000000 in
theorem lawFnPreds (c : Code) (w : World) (h : c.len ≤ 1048576 → c.In w) :
    Calls Try.prog 5 #[.slice c.a c.len c.cap] w fun e w' => e = .returned (.bool true) ∧ Below w.heap.size w w' := by
  by_cases hbig : 1048576 < c.len
  · go_enter Try.func5, Try.ntmps5
    go_wp2_with (go_at_call 22; refine (big_yes _ _ _ _ hbig).mono ?_; rintro e w' ⟨rfl, rfl⟩)
    go_ret
    exact ⟨rfl, Below.refl _ _⟩
  · have hin := h (by omega)
    clear h
    go_enter Try.func5, Try.ntmps5
    go_wp2_with fail
    refine (big_no _ _ _ _ (by omega)).mono ?_
    rintro e w' ⟨rfl, rfl⟩
    go_wp2_with fail
    refine (drawSearch c _ hin).mono ?_
    rintro e w1 ⟨vc, u, vr, cols, t, ps, rfl, hS, b1⟩
    obtain ⟨hmem, hok, hbk, hsm, hvc, hrt, hrows, hpl, hwide, hty⟩ := hS
    have hrd := hrt.rd
    obtain ⟨pa, pc, hu⟩ := hrt.sl
    generalize t.l.length = pn at hu
    subst hu
    have A1 := below_alloc3 w1 (.cells #[.int .i64 t.kind, .int .i64 t.col, .int .i64 t.op, .int .i64 t.v.ty, .int .i64 t.v.n, .string t.v.s, .slice pa pn pc] 46) (.cells #[.int .i64 t.kind, .int .i64 t.col, .int .i64 t.op, .int .i64 t.v.ty, .int .i64 t.v.n, .string t.v.s, .slice pa pn pc] 46) (.cells #[.int .i64 5, .int .i64 0, .int .i64 0, .int .i64 0, .int .i64 0, .string ⟨#[]⟩, .slice (some ⟨w1.heap.size + 1, 0, none⟩) 1 1] 46)
    have C0 := ((blk_new w1 [.int .i64 t.kind, .int .i64 t.col, .int .i64 t.op, .int .i64 t.v.ty, .int .i64 t.v.n, .string t.v.s, .slice pa pn pc] 46).below (below_alloc _ (.cells #[.int .i64 t.kind, .int .i64 t.col, .int .i64 t.op, .int .i64 t.v.ty, .int .i64 t.v.n, .string t.v.s, .slice pa pn pc] 46))).below (below_alloc _ (.cells #[.int .i64 5, .int .i64 0, .int .i64 0, .int .i64 0, .int .i64 0, .string ⟨#[]⟩, .slice (some ⟨w1.heap.size + 1, 0, none⟩) 1 1] 46))
    have C1 := (blk_new (w1.alloc (.cells #[.int .i64 t.kind, .int .i64 t.col, .int .i64 t.op, .int .i64 t.v.ty, .int .i64 t.v.n, .string t.v.s, .slice pa pn pc] 46)) [.int .i64 t.kind, .int .i64 t.col, .int .i64 t.op, .int .i64 t.v.ty, .int .i64 t.v.n, .string t.v.s, .slice pa pn pc] 46).below (below_alloc _ (.cells #[.int .i64 5, .int .i64 0, .int .i64 0, .int .i64 0, .int .i64 0, .string ⟨#[]⟩, .slice (some ⟨w1.heap.size + 1, 0, none⟩) 1 1] 46))
    have P1 := (plain_new (w1.alloc (.cells #[.int .i64 t.kind, .int .i64 t.col, .int .i64 t.op, .int .i64 t.v.ty, .int .i64 t.v.n, .string t.v.s, .slice pa pn pc] 46)) #[.int .i64 t.kind, .int .i64 t.col, .int .i64 t.op, .int .i64 t.v.ty, .int .i64 t.v.n, .string t.v.s, .slice pa pn pc] 46).below (below_alloc _ (.cells #[.int .i64 5, .int .i64 0, .int .i64 0, .int .i64 0, .int .i64 0, .string ⟨#[]⟩, .slice (some ⟨w1.heap.size + 1, 0, none⟩) 1 1] 46))
    have C2 := blk_new ((w1.alloc (.cells #[.int .i64 t.kind, .int .i64 t.col, .int .i64 t.op, .int .i64 t.v.ty, .int .i64 t.v.n, .string t.v.s, .slice pa pn pc] 46)).alloc (.cells #[.int .i64 t.kind, .int .i64 t.col, .int .i64 t.op, .int .i64 t.v.ty, .int .i64 t.v.n, .string t.v.s, .slice pa pn pc] 46)) [.int .i64 5, .int .i64 0, .int .i64 0, .int .i64 0, .int .i64 0, .string ⟨#[]⟩, .slice (some ⟨w1.heap.size + 1, 0, none⟩) 1 1] 46
    rw [World.size_alloc] at C1 P1
    rw [World.size_alloc, World.size_alloc] at C2
    have hs2 : (((w1.alloc (.cells #[.int .i64 t.kind, .int .i64 t.col, .int .i64 t.op, .int .i64 t.v.ty, .int .i64 t.v.n, .string t.v.s, .slice pa pn pc] 46)).alloc (.cells #[.int .i64 t.kind, .int .i64 t.col, .int .i64 t.op, .int .i64 t.v.ty, .int .i64 t.v.n, .string t.v.s, .slice pa pn pc] 46)).alloc (.cells #[.int .i64 5, .int .i64 0, .int .i64 0, .int .i64 0, .int .i64 0, .string ⟨#[]⟩, .slice (some ⟨w1.heap.size + 1, 0, none⟩) 1 1] 46)).heap.size = w1.heap.size + 3 := by
      rw [World.size_alloc, World.size_alloc, World.size_alloc]
    generalize hw2 : ((w1.alloc (.cells #[.int .i64 t.kind, .int .i64 t.col, .int .i64 t.op, .int .i64 t.v.ty, .int .i64 t.v.n, .string t.v.s, .slice pa pn pc] 46)).alloc (.cells #[.int .i64 t.kind, .int .i64 t.col, .int .i64 t.op, .int .i64 t.v.ty, .int .i64 t.v.n, .string t.v.s, .slice pa pn pc] 46)).alloc (.cells #[.int .i64 5, .int .i64 0, .int .i64 0, .int .i64 0, .int .i64 0, .string ⟨#[]⟩, .slice (some ⟨w1.heap.size + 1, 0, none⟩) 1 1] 46) = w2 at A1 C0 C1 P1 C2 hs2
    have HW2 := Lib.hid hw2
    have B2 := below_then b1 A1 b1.size
    have hrd2 := hrd.pbelow A1 (Nat.le_refl _)
    have hneg := neg_rd hrd2 (q := w1.heap.size + 1) (by have := b1.size; omega) (by omega) P1 (fun i x hx => (C1 i x hx).1)
    have hvc2 := (hvc.below A1).rd (by have := (colsD_ok hmem).2.2.1; unfold maxLen; omega)
    have hrows2 := hrows.below A1
    have HQ0 : Hid (w.heap.size ≤ w1.heap.size) := b1.size
    generalize hq : w1.heap.size = q at C0 C1 P1 C2 hs2 hneg
    have HQ := Lib.hid hq
    have HIN := Lib.hid (fun W (hW : Below w.heap.size w W) => (⟨hin.arg.below hW, hin.byt, hin.small⟩ : c.In W))
    have HSM := Lib.hid hsm
    have HBK := Lib.hid hbk
    have HOK := Lib.hid hok
    have HTY := Lib.hid (fun p hp => ty_small (hty p hp))
    have HWD := Lib.hid hwide
    have HPL := Lib.hid hpl
    have HMEM := Lib.hid hmem
    clear hw2 hq hin hsm hbk hok hty hwide hpl hmem hrd hrt hrows hvc A1 b1 P1 C1
    go_wp2_with fail
    rw [HW2.out]
    refine (drawHolds c _ (HIN.out _ B2)).mono ?_
    rintro e w3 ⟨ta, ua, va, la, rfl, ha, hma, ⟨hla, hsa, hoa⟩, b3⟩
    have hqq := HQ.out
    obtain ⟨aa, ac, hu⟩ := hma.sl
    generalize ta.l.length = an at hu
    subst hu
    have A3 := below_alloc w3 (.cells #[.int .i64 ta.kind, .int .i64 ta.col, .int .i64 ta.op, .int .i64 ta.v.ty, .int .i64 ta.v.n, .string ta.v.s, .slice aa an ac] 46)
    have CA := blk_new w3 [.int .i64 ta.kind, .int .i64 ta.col, .int .i64 ta.op, .int .i64 ta.v.ty, .int .i64 ta.v.n, .string ta.v.s, .slice aa an ac] 46
    have hs3 : (w3.alloc (.cells #[.int .i64 ta.kind, .int .i64 ta.col, .int .i64 ta.op, .int .i64 ta.v.ty, .int .i64 ta.v.n, .string ta.v.s, .slice aa an ac] 46)).heap.size = w3.heap.size + 1 := World.size_alloc _ _
    have b3' := below_then b3 A3 b3.size
    have hra := hma.rd.pbelow A3 (Nat.le_refl _)
    have hva := (hoa.below A3 (Nat.le_refl _)).rd
    have hrd3 := hrd2.pbelow b3' (Nat.le_refl _)
    have hneg3 := hneg.pbelow b3' (Nat.le_refl _)
    have hvc3 := hvc2.below b3'
    have hrows3 := hrows2.below b3'
    have C03 := C0.below b3'
    have C23 := C2.below b3'
    have B3 := below_then B2 b3' B2.size
    have hz3 := b3.size
    generalize hw4 : w3.alloc (.cells #[.int .i64 ta.kind, .int .i64 ta.col, .int .i64 ta.op, .int .i64 ta.v.ty, .int .i64 ta.v.n, .string ta.v.s, .slice aa an ac] 46) = w4 at A3 CA hs3 b3' hra hva hrd3 hneg3 hvc3 hrows3 C03 C23 B3
    have HW4 := Lib.hid hw4
    generalize hqa : w3.heap.size = qa at CA hs3 hz3
    have HQA := Lib.hid hqa
    have HA := Lib.hid ha
    have HLA : Hid (la.length ≤ 3 ∧ ∀ v ∈ la, v.s.size ≤ maxLen) := ⟨hla, hsa⟩
    obtain ⟨xa, xac, xae, _⟩ := id hva
    subst xae
    clear hw4 hqa ha hla hsa hoa hma A3 b3 b3' hrd2 hneg hvc2 hrows2 C0 C2 B2 HW2
    go_wp2_with fail
    rw [HW4.out, HQA.out]
    refine (drawMayHold c _ (HIN.out _ B3)).mono ?_
    rintro e w5 ⟨tb, ub, vb, zb, rfl, hb0, hmb, ⟨hlb, hsb, hob⟩, b5⟩
    have hqaa := HQA.out
    obtain ⟨ba, bc, hu⟩ := hmb.sl
    generalize tb.l.length = bn at hu
    subst hu
    have A5 := below_alloc w5 (.cells #[.int .i64 tb.kind, .int .i64 tb.col, .int .i64 tb.op, .int .i64 tb.v.ty, .int .i64 tb.v.n, .string tb.v.s, .slice ba bn bc] 46)
    have CB := blk_new w5 [.int .i64 tb.kind, .int .i64 tb.col, .int .i64 tb.op, .int .i64 tb.v.ty, .int .i64 tb.v.n, .string tb.v.s, .slice ba bn bc] 46
    have hs5 : (w5.alloc (.cells #[.int .i64 tb.kind, .int .i64 tb.col, .int .i64 tb.op, .int .i64 tb.v.ty, .int .i64 tb.v.n, .string tb.v.s, .slice ba bn bc] 46)).heap.size = w5.heap.size + 1 := World.size_alloc _ _
    have b5' := below_then b5 A5 b5.size
    have hrb := hmb.rd.pbelow A5 (Nat.le_refl _)
    have hvb := (hob.below A5 (Nat.le_refl _)).rd
    have hra5 := hra.pbelow b5' (Nat.le_refl _)
    have hva5 := hva.below b5'
    have hrd5 := hrd3.pbelow b5' (Nat.le_refl _)
    have hneg5 := hneg3.pbelow b5' (Nat.le_refl _)
    have hvc5 := hvc3.below b5'
    have hrows5 := hrows3.below b5'
    have C05 := C03.below b5'
    have C25 := C23.below b5'
    have CA5 := CA.below b5'
    have B5 := below_then B3 b5' B3.size
    have hz5 := b5.size
    generalize hw6 : w5.alloc (.cells #[.int .i64 tb.kind, .int .i64 tb.col, .int .i64 tb.op, .int .i64 tb.v.ty, .int .i64 tb.v.n, .string tb.v.s, .slice ba bn bc] 46) = w6 at A5 CB hs5 b5' hrb hvb hra5 hva5 hrd5 hneg5 hvc5 hrows5 C05 C25 CA5 B5
    have HW6 := Lib.hid hw6
    generalize hqb : w5.heap.size = qb at CB hs5 hz5
    have HQB := Lib.hid hqb
    have HB := Lib.hid hb0
    have HLB : Hid (zb.length ≤ 3 ∧ ∀ z ∈ zb, z.lo.s.size ≤ maxLen ∧ z.hi.s.size ≤ maxLen) := ⟨hlb, hsb⟩
    obtain ⟨xb, xbc, xbe, _⟩ := id hvb
    subst xbe
    clear hw6 hqb hb0 hlb hsb hob hmb A5 b5 b5' hrd3 hneg3 hvc3 hrows3 C03 C23 B3 HW4 hra hva CA
    have HZI := Lib.hid (iZones vr ps (ps.map (·.1)) w6 (by have := HPL.out; omega) (fun p hp => by rw [HWD.out p hp]; have := (colsD_ok HMEM.out).2.2.1; omega) hrows5 rfl)
    have HZS := Lib.hid (fun W (hW : Below w6.heap.size w6 W) => sZones vr ps W (by have := HPL.out; omega) (fun p hp => by rw [HWD.out p hp]; have := (colsD_ok HMEM.out).2.2.1; omega) (hrows5.below hW))
    have HZL : Hid ((zonesL (ps.map (·.1))).length ≤ 3 ∧ ∀ z ∈ zonesL (ps.map (·.1)), z.lo.s.size ≤ maxLen ∧ z.hi.s.size ≤ maxLen) := ⟨zonesK_le (fun p hp => by rw [HWD.out p hp]; exact (colsD_ok HMEM.out).2.2.1), zones_small (fun p hp => HTY.out p hp)⟩
    have HSND : Hid (∀ k, k < ps.length → ((T.holds (ps.getD k P.zero).1.l t = true → t.may (zonesL (ps.map (·.1))) = true) ∧ (T.holds (ps.getD k P.zero).1.l t = false → t.neg.may (zonesL (ps.map (·.1))) = true)) ∧ ((ps.getD k P.zero).1.l.length ≤ 1048576 ∧ ∀ v ∈ (ps.getD k P.zero).1.l, v.s.size ≤ maxLen)) := fun k hk => by
      have e : ps.getD k P.zero = ps[k] := by simp [hk]
      rw [e, neg_may]
      have hm : ps[k] ∈ ps := List.getElem_mem hk
      refine ⟨sound (m := cols.length) (fun r hr => ?_) (List.mem_map.2 ⟨_, hm, rfl⟩) t (ok_ops (predOk_ok HOK.out)), by rw [HWD.out _ hm]; have := (colsD_ok HMEM.out).2.2.1; omega, HTY.out _ hm⟩
      obtain ⟨p, hp, rfl⟩ := List.mem_map.1 hr
      exact HWD.out p hp
    generalize hps : ps.length = n at *
    obtain ⟨rsa, rsc, hvr, _, HC⟩ := hrows5.walk hps
    subst hvr
    generalize zonesL (ps.map (·.1)) = zl at HZI HZS HZL HSND
    go_wp2_with fail
    rw [HW6.out, HQB.out]
    refine HZI.out.mono ?_
    rintro e w7 ⟨vy, rfl, oy, b7⟩
    have hqbb := HQB.out
    have C07 := C05.below b7
    have C27 := C25.below b7
    have CA7 := CA5.below b7
    have CB7 := CB.below b7
    have B7 := below_then B5 b7 B5.size
    have HPO := Lib.hid (fun W (hW : Below w7.heap.size w7 W) => iPredOk cols t _ (.slice pa pn pc) vc W HSM.out (by have := HBK.out; omega) (by have := (colsD_ok HMEM.out).2.2.1; omega) (hrd5.below (below_then b7 hW b7.size)) (hvc5.below (below_then b7 hW b7.size)))
    rw [HOK.out] at HPO
    have HIH := Lib.hid (fun W (hW : Below w7.heap.size w7 W) => iHolds la ta _ (.slice aa an ac) (.slice xa la.length xac) W HA.out.2 (by have := HA.out.1; omega) (by have := HLA.out.1; omega) HLA.out.2 (hra5.below (below_then b7 hW b7.size)) (fun b hb => hb.2.2.below (below_then b7 hW b7.size)) (hva5.below (below_then b7 hW b7.size)))
    have HSH := Lib.hid (fun W (hW : Below w7.heap.size w7 W) => sHolds la ta _ (.slice aa an ac) (.slice xa la.length xac) W (hra5.below (below_then b7 hW b7.size)) (hva5.below (below_then b7 hW b7.size)))
    have HIM := Lib.hid (fun W (hW : Below w7.heap.size w7 W) => iMayHold zb tb _ (.slice ba bn bc) (.slice xb zb.length xbc) W HB.out.2 (by have := HB.out.1; omega) (by have := HLB.out.1; omega) HLB.out.2 (hrb.below (below_then b7 hW b7.size)) (fun b hb => hb.2.2.below (below_then b7 hW b7.size)) (hvb.below (below_then b7 hW b7.size)))
    have HSM2 := Lib.hid (fun W (hW : Below w7.heap.size w7 W) => sMayHold zb tb _ (.slice ba bn bc) (.slice xb zb.length xbc) W (hrb.below (below_then b7 hW b7.size)) (hvb.below (below_then b7 hW b7.size)))
    have HZ7 := Lib.hid (fun W (hW : Below w7.heap.size w7 W) => HZS.out W (below_then b7 hW b7.size))
    have HRD := Lib.hid (fun W (hW : Below w7.heap.size w7 W) => hrd5.pbelow (below_then b7 hW b7.size) (Nat.le_refl _))
    have HNG := Lib.hid (fun W (hW : Below w7.heap.size w7 W) => hneg5.pbelow (below_then b7 hW b7.size) (Nat.le_refl _))
    have HCW := Lib.hid (fun k (hk : k < n) W (hW : Below w7.heap.size w7 W) => HC.out k hk W (below_then b7 hW b7.size))
    have HY := Lib.hid (fun W (hW : Below w7.heap.size w7 W) => (oy.below hW (Nat.le_refl _)).rd)
    obtain ⟨yg, yc, hvy⟩ : ∃ g cp, vy = .slice (some ⟨g, 0, none⟩) zl.length cp := by obtain ⟨g, cp, e, _⟩ := oy; exact ⟨g, cp, e⟩
    subst hvy
    have HK8 : Hid (∀ W, Below w7.heap.size w7 W → W.cell? ⟨q, 0, none⟩ = some (.int .i64 t.kind) ∧ W.cell? ⟨q, 1, none⟩ = some (.int .i64 t.col) ∧ W.cell? ⟨q, 2, none⟩ = some (.int .i64 t.op) ∧ W.cell? ⟨q, 3, none⟩ = some (.int .i64 t.v.ty) ∧ W.cell? ⟨q, 4, none⟩ = some (.int .i64 t.v.n) ∧ W.cell? ⟨q, 5, none⟩ = some (.string t.v.s) ∧ W.cell? ⟨q, 6, none⟩ = some (.slice pa pn pc) ∧ W.cell? ⟨qa, 0, none⟩ = some (.int .i64 ta.kind) ∧ W.cell? ⟨qa, 1, none⟩ = some (.int .i64 ta.col) ∧ W.cell? ⟨qa, 2, none⟩ = some (.int .i64 ta.op) ∧ W.cell? ⟨qa, 3, none⟩ = some (.int .i64 ta.v.ty) ∧ W.cell? ⟨qa, 4, none⟩ = some (.int .i64 ta.v.n) ∧ W.cell? ⟨qa, 5, none⟩ = some (.string ta.v.s) ∧ W.cell? ⟨qa, 6, none⟩ = some (.slice aa an ac) ∧ W.cell? ⟨qb, 0, none⟩ = some (.int .i64 tb.kind) ∧ W.cell? ⟨qb, 1, none⟩ = some (.int .i64 tb.col) ∧ W.cell? ⟨qb, 2, none⟩ = some (.int .i64 tb.op) ∧ W.cell? ⟨qb, 3, none⟩ = some (.int .i64 tb.v.ty) ∧ W.cell? ⟨qb, 4, none⟩ = some (.int .i64 tb.v.n) ∧ W.cell? ⟨qb, 5, none⟩ = some (.string tb.v.s) ∧ W.cell? ⟨qb, 6, none⟩ = some (.slice ba bn bc)) := fun W h => ⟨(C07.below h 0 _ rfl).1, (C07.below h 1 _ rfl).1, (C07.below h 2 _ rfl).1, (C07.below h 3 _ rfl).1, (C07.below h 4 _ rfl).1, (C07.below h 5 _ rfl).1, (C07.below h 6 _ rfl).1, (CA7.below h 0 _ rfl).1, (CA7.below h 1 _ rfl).1, (CA7.below h 2 _ rfl).1, (CA7.below h 3 _ rfl).1, (CA7.below h 4 _ rfl).1, (CA7.below h 5 _ rfl).1, (CA7.below h 6 _ rfl).1, (CB7.below h 0 _ rfl).1, (CB7.below h 1 _ rfl).1, (CB7.below h 2 _ rfl).1, (CB7.below h 3 _ rfl).1, (CB7.below h 4 _ rfl).1, (CB7.below h 5 _ rfl).1, (CB7.below h 6 _ rfl).1⟩
    have HKP : Hid (∀ W, Below w7.heap.size w7 W → W.cell? ⟨q, 0, none⟩ = some (.int .i64 t.kind) ∧ W.cell? ⟨q, 1, none⟩ = some (.int .i64 t.col) ∧ W.cell? ⟨q, 2, none⟩ = some (.int .i64 t.op) ∧ W.cell? ⟨q, 3, none⟩ = some (.int .i64 t.v.ty) ∧ W.cell? ⟨q, 4, none⟩ = some (.int .i64 t.v.n) ∧ W.cell? ⟨q, 5, none⟩ = some (.string t.v.s) ∧ W.cell? ⟨q, 6, none⟩ = some (.slice pa pn pc) ∧ W.cell? ⟨q + 2, 0, none⟩ = some (.int .i64 5) ∧ W.cell? ⟨q + 2, 1, none⟩ = some (.int .i64 0) ∧ W.cell? ⟨q + 2, 2, none⟩ = some (.int .i64 0) ∧ W.cell? ⟨q + 2, 3, none⟩ = some (.int .i64 0) ∧ W.cell? ⟨q + 2, 4, none⟩ = some (.int .i64 0) ∧ W.cell? ⟨q + 2, 5, none⟩ = some (.string ⟨#[]⟩) ∧ W.cell? ⟨q + 2, 6, none⟩ = some (.slice (some ⟨q + 1, 0, none⟩) 1 1)) := fun W h => ⟨(C07.below h 0 _ rfl).1, (C07.below h 1 _ rfl).1, (C07.below h 2 _ rfl).1, (C07.below h 3 _ rfl).1, (C07.below h 4 _ rfl).1, (C07.below h 5 _ rfl).1, (C07.below h 6 _ rfl).1, (C27.below h 0 _ rfl).1, (C27.below h 1 _ rfl).1, (C27.below h 2 _ rfl).1, (C27.below h 3 _ rfl).1, (C27.below h 4 _ rfl).1, (C27.below h 5 _ rfl).1, (C27.below h 6 _ rfl).1⟩
    generalize T.holds la ta = ra at HIH HSH
    generalize T.may zb tb = rb at HIM HSM2
    have hq1 : (ra != ra) = false := by simp
    have hq2 : (rb != rb) = false := by simp
    generalize hzn : zl.length = zn at HZ7 HY ⊢
    have HZN := Lib.hid hzn
    clear hzn
    have hq3 : ((zn : Int) != (zn : Int)) = false := by simp
    clear b7 oy hrd5 hneg5 hvc5 hrows5 hra5 hva5 hrb hvb C05 C25 CA5 CB C07 C27 CA7 CB7 B5 HZI HZS HC HW6
    have hB' := (Below.refl w7.heap.size w7).drew
    go_wp2
    go_region_held3 (fun W => W.cell? ⟨q, 0, none⟩ = some (.int .i64 t.kind) ∧ W.cell? ⟨q, 1, none⟩ = some (.int .i64 t.col) ∧ W.cell? ⟨q, 2, none⟩ = some (.int .i64 t.op) ∧ W.cell? ⟨q, 3, none⟩ = some (.int .i64 t.v.ty) ∧ W.cell? ⟨q, 4, none⟩ = some (.int .i64 t.v.n) ∧ W.cell? ⟨q, 5, none⟩ = some (.string t.v.s) ∧ W.cell? ⟨q, 6, none⟩ = some (.slice pa pn pc) ∧ W.cell? ⟨qa, 0, none⟩ = some (.int .i64 ta.kind) ∧ W.cell? ⟨qa, 1, none⟩ = some (.int .i64 ta.col) ∧ W.cell? ⟨qa, 2, none⟩ = some (.int .i64 ta.op) ∧ W.cell? ⟨qa, 3, none⟩ = some (.int .i64 ta.v.ty) ∧ W.cell? ⟨qa, 4, none⟩ = some (.int .i64 ta.v.n) ∧ W.cell? ⟨qa, 5, none⟩ = some (.string ta.v.s) ∧ W.cell? ⟨qa, 6, none⟩ = some (.slice aa an ac) ∧ W.cell? ⟨qb, 0, none⟩ = some (.int .i64 tb.kind) ∧ W.cell? ⟨qb, 1, none⟩ = some (.int .i64 tb.col) ∧ W.cell? ⟨qb, 2, none⟩ = some (.int .i64 tb.op) ∧ W.cell? ⟨qb, 3, none⟩ = some (.int .i64 tb.v.ty) ∧ W.cell? ⟨qb, 4, none⟩ = some (.int .i64 tb.v.n) ∧ W.cell? ⟨qb, 5, none⟩ = some (.string tb.v.s) ∧ W.cell? ⟨qb, 6, none⟩ = some (.slice ba bn bc)) (exact HK8.out _ hB') (first | (go_at_call 27; (with_reducible refine (HPO.out _ hB').mono ?_); rintro e wX ⟨rfl, hb⟩; replace hB' := below_then hB' hb hB'.size) | (go_at_call 28; (with_reducible refine (HIH.out _ hB').mono ?_); rintro e wX ⟨rfl, hb⟩; replace hB' := below_then hB' hb hB'.size) | (go_at_call 29; (with_reducible refine (HSH.out _ hB').mono ?_); rintro e wX ⟨rfl, hb⟩; replace hB' := below_then hB' hb hB'.size) | (go_at_call 30; (with_reducible refine (HIM.out _ hB').mono ?_); rintro e wX ⟨rfl, hb⟩; replace hB' := below_then hB' hb hB'.size) | (go_at_call 31; (with_reducible refine (HSM2.out _ hB').mono ?_); rintro e wX ⟨rfl, hb⟩; replace hB' := below_then hB' hb hB'.size) | (go_at_call 32; (with_reducible refine (HZ7.out _ hB').mono ?_); rintro e wX ⟨vz, rfl, oz, hb⟩; obtain ⟨zg, zc, hvz⟩ : ∃ g cp, vz = .slice (some ⟨g, 0, none⟩) zn cp := (by obtain ⟨g, cp, e, _⟩ := oz; exact ⟨g, cp, e⟩); subst hvz; clear oz; replace hB' := below_then hB' hb hB'.size))
    all_goals
      have hB0 := hB'
      clear hB' HIH HSH HIM HSM2 HPO HZ7 HK8 hq1 hq2 hq3
      go_wp2
      go_loopw [12] (fun i wr => ∃ j : Nat, j ≤ n ∧ i = .int .i64 j ∧ Below w7.heap.size w7 wr) (fun i _ => n - (intOf i).toNat)
      case atStart => exact ⟨0, Nat.zero_le _, rfl, hB0⟩
      case round =>
        obtain ⟨j, hj, rfl, hbr⟩ := hrel
        clear hB0
        have hn6 : n ≤ 6 := HPL.out
        by_cases hlt : j < n
        · obtain ⟨rb, ro, hra, c0, c1, hrr⟩ := HCW.out j hlt wr hbr
          subst hra
          obtain ⟨⟨hs1, hs2'⟩, hl1, hl2⟩ := HSND.out j hlt
          generalize ps.getD j P.zero = pj at c1 hrr hs1 hs2' hl1 hl2
          obtain ⟨r, x⟩ := pj
          simp only at c1 hrr hs1 hs2' hl1 hl2
          obtain ⟨ra, rc, hx, _, _⟩ := id hrr
          subst hx
          have HC1 := Lib.hid c1
          have HIH := Lib.hid (fun W (hW : Below wr.heap.size wr W) => iHolds r.l t _ (.slice pa pn pc) (.slice ra r.l.length rc) W HSM.out (by have := HBK.out; omega) hl1 hl2 (HRD.out W (below_then hbr hW hbr.size)) (fun b hb => hb.2.2) (Rd.below hrr hW))
          have HS1 := Lib.hid hs1
          have HS2 := Lib.hid hs2'
          have HNH0 := Lib.hid (fun W (hW : Below wr.heap.size wr W) => iHolds r.l t.neg _ (.slice (some ⟨q + 1, 0, none⟩) 1 1) (.slice ra r.l.length rc) W (neg_small HBK.out HSM.out).2 (by have := (neg_small HBK.out HSM.out).1; omega) hl1 hl2 (HNG.out W (below_then hbr hW hbr.size)) (fun b hb => hb.2.2) (Rd.below hrr hW))
          generalize hbh : T.holds r.l t = bh at HIH
          have HBH := Lib.hid hbh
          generalize r.l.length = rn at c1 HC1 HIH HNH0
          clear hs1 hs2' hl1 hl2 hrr hbh c0
          have HK13 : Hid (∀ W, Below wr.heap.size wr W → W.cell? ⟨q, 0, none⟩ = some (.int .i64 t.kind) ∧ W.cell? ⟨q, 1, none⟩ = some (.int .i64 t.col) ∧ W.cell? ⟨q, 2, none⟩ = some (.int .i64 t.op) ∧ W.cell? ⟨q, 3, none⟩ = some (.int .i64 t.v.ty) ∧ W.cell? ⟨q, 4, none⟩ = some (.int .i64 t.v.n) ∧ W.cell? ⟨q, 5, none⟩ = some (.string t.v.s) ∧ W.cell? ⟨q, 6, none⟩ = some (.slice pa pn pc) ∧ W.cell? ⟨rb, ro + j * 2 + 1, none⟩ = some (.slice ra rn rc)) := fun W hW => by
            obtain ⟨a0, a1, a2, a3, a4, a5, a6, _⟩ := HKP.out W (below_then hbr hW hbr.size)
            exact ⟨a0, a1, a2, a3, a4, a5, a6, (hW.cell (p := ⟨rb, ro + j * 2 + 1, none⟩) (lt_of_cell HC1.out)).trans HC1.out⟩
          have hB' := (Below.refl wr.heap.size wr).drew
          clear c1
          cases bh with
          | true =>
            go_wp2
            go_region_held3 (fun W => W.cell? ⟨q, 0, none⟩ = some (.int .i64 t.kind) ∧ W.cell? ⟨q, 1, none⟩ = some (.int .i64 t.col) ∧ W.cell? ⟨q, 2, none⟩ = some (.int .i64 t.op) ∧ W.cell? ⟨q, 3, none⟩ = some (.int .i64 t.v.ty) ∧ W.cell? ⟨q, 4, none⟩ = some (.int .i64 t.v.n) ∧ W.cell? ⟨q, 5, none⟩ = some (.string t.v.s) ∧ W.cell? ⟨q, 6, none⟩ = some (.slice pa pn pc) ∧ W.cell? ⟨rb, ro + j * 2 + 1, none⟩ = some (.slice ra rn rc)) (exact HK13.out _ hB') ((go_at_call 28; (with_reducible refine (HIH.out _ hB').mono ?_); rintro e wX ⟨rfl, hb⟩; replace hB' := below_then hB' hb hB'.size))
            all_goals
              have hbx := below_then hbr hB' hbr.size
              have hbx0 := hB'
              clear hB'
              have HNH : Hid (∀ W, Below wX.heap.size wX W → Calls Try.prog 28 #[.agg #[.int .i64 5, .int .i64 0, .int .i64 0, .int .i64 0, .int .i64 0, .string ⟨#[]⟩, .slice (some ⟨q + 1, 0, none⟩) 1 1], .slice ra rn rc] W fun e w' => e = .returned (.bool false) ∧ Below W.heap.size W w') := fun W hW => by
                have := HNH0.out W (below_then hbx0 hW hbx0.size)
                rw [neg_holds, HBH.out] at this
                exact this
              have HMM : Hid (∀ W, Below wX.heap.size wX W → Calls Try.prog 30 #[.agg #[.int .i64 t.kind, .int .i64 t.col, .int .i64 t.op, .int .i64 t.v.ty, .int .i64 t.v.n, .string t.v.s, .slice pa pn pc], .slice (some ⟨yg, 0, none⟩) zn yc] W fun e w' => e = .returned (.bool true) ∧ Below W.heap.size W w') := fun W hW => by
                have := iMayHold zl t _ (.slice pa pn pc) (.slice (some ⟨yg, 0, none⟩) zn yc) W HSM.out (by have := HBK.out; omega) (by have := HZL.out.1; omega) HZL.out.2 (HRD.out W (below_then hbx hW hbx.size)) (fun b hb => hb.2.2) (by rw [HZN.out]; exact HY.out W (below_then hbx hW hbx.size))
                rw [HS1.out HBH.out] at this
                exact this
              have HK14 : Hid (∀ W, Below wX.heap.size wX W → W.cell? ⟨q, 0, none⟩ = some (.int .i64 t.kind) ∧ W.cell? ⟨q, 1, none⟩ = some (.int .i64 t.col) ∧ W.cell? ⟨q, 2, none⟩ = some (.int .i64 t.op) ∧ W.cell? ⟨q, 3, none⟩ = some (.int .i64 t.v.ty) ∧ W.cell? ⟨q, 4, none⟩ = some (.int .i64 t.v.n) ∧ W.cell? ⟨q, 5, none⟩ = some (.string t.v.s) ∧ W.cell? ⟨q, 6, none⟩ = some (.slice pa pn pc) ∧ W.cell? ⟨q + 2, 0, none⟩ = some (.int .i64 5) ∧ W.cell? ⟨q + 2, 1, none⟩ = some (.int .i64 0) ∧ W.cell? ⟨q + 2, 2, none⟩ = some (.int .i64 0) ∧ W.cell? ⟨q + 2, 3, none⟩ = some (.int .i64 0) ∧ W.cell? ⟨q + 2, 4, none⟩ = some (.int .i64 0) ∧ W.cell? ⟨q + 2, 5, none⟩ = some (.string ⟨#[]⟩) ∧ W.cell? ⟨q + 2, 6, none⟩ = some (.slice (some ⟨q + 1, 0, none⟩) 1 1) ∧ W.cell? ⟨rb, ro + j * 2 + 1, none⟩ = some (.slice ra rn rc)) := fun W hW => by
                obtain ⟨a0, a1, a2, a3, a4, a5, a6, d0, d1, d2, d3, d4, d5, d6⟩ := HKP.out W (below_then hbx hW hbx.size)
                have hz := below_then hbx0 hW hbx0.size
                exact ⟨a0, a1, a2, a3, a4, a5, a6, d0, d1, d2, d3, d4, d5, d6, (hz.cell (p := ⟨rb, ro + j * 2 + 1, none⟩) (lt_of_cell HC1.out)).trans HC1.out⟩
              have hB1 := (Below.refl wX.heap.size wX).drew
              have HS14 := HK14.out _ hB1
              have hji : (j : Int) < (n : Int) := by omega
              have hj0 : (0 : Int) ≤ (j : Int) := by omega
              have HK0 := HK14.out _ (Below.refl wX.heap.size wX)
              clear hbx0 HK0
              go_wp2
              refine wp_region_held_drew (S := fun W => W.cell? ⟨q, 0, none⟩ = some (.int .i64 t.kind) ∧ W.cell? ⟨q, 1, none⟩ = some (.int .i64 t.col) ∧ W.cell? ⟨q, 2, none⟩ = some (.int .i64 t.op) ∧ W.cell? ⟨q, 3, none⟩ = some (.int .i64 t.v.ty) ∧ W.cell? ⟨q, 4, none⟩ = some (.int .i64 t.v.n) ∧ W.cell? ⟨q, 5, none⟩ = some (.string t.v.s) ∧ W.cell? ⟨q, 6, none⟩ = some (.slice pa pn pc) ∧ W.cell? ⟨q + 2, 0, none⟩ = some (.int .i64 5) ∧ W.cell? ⟨q + 2, 1, none⟩ = some (.int .i64 0) ∧ W.cell? ⟨q + 2, 2, none⟩ = some (.int .i64 0) ∧ W.cell? ⟨q + 2, 3, none⟩ = some (.int .i64 0) ∧ W.cell? ⟨q + 2, 4, none⟩ = some (.int .i64 0) ∧ W.cell? ⟨q + 2, 5, none⟩ = some (.string ⟨#[]⟩) ∧ W.cell? ⟨q + 2, 6, none⟩ = some (.slice (some ⟨q + 1, 0, none⟩) 1 1) ∧ W.cell? ⟨rb, ro + j * 2 + 1, none⟩ = some (.slice ra rn rc)) (by kernel_rfl) HS14 (fun hH => ?_)
              clear HS14
              generalize wX.drew = wd at hB1 hH ⊢
              refine takeH (i := 0) (d := some 80) (v := .bool true) rfl rfl (by kernel_rfl) (by kernel_rfl) (by kernel_rfl) (fun _ _ _ h => h) (Or.inl ⟨by rfl, fun W hSw => by obtain ⟨s0, s1, s2, s3, s4, s5, s6, s7, s8, s9, s10, s11, s12, s13, s14⟩ := hSw; go_simp⟩) hH ?_
              try simp only [put_some, List.set_cons_zero, List.set_cons_succ]
              refine takeH (i := 1) (d := some 81) (v := .agg #[.int .i64 5, .int .i64 0, .int .i64 0, .int .i64 0, .int .i64 0, .string ⟨#[]⟩, .slice (some ⟨q + 1, 0, none⟩) 1 1]) rfl rfl (by kernel_rfl) (by kernel_rfl) (by kernel_rfl) (fun _ _ _ h => h) (Or.inl ⟨by rfl, fun W hSw => by obtain ⟨s0, s1, s2, s3, s4, s5, s6, s7, s8, s9, s10, s11, s12, s13, s14⟩ := hSw; go_simp⟩) hH ?_
              try simp only [put_some, List.set_cons_zero, List.set_cons_succ]
              refine takeH (i := 2) (d := some 82) (v := .slice (some ⟨rb, ro, none⟩) n rsc) rfl rfl (by kernel_rfl) (by kernel_rfl) (by kernel_rfl) (fun _ _ _ h => h) (Or.inl ⟨by rfl, fun W hSw => by obtain ⟨s0, s1, s2, s3, s4, s5, s6, s7, s8, s9, s10, s11, s12, s13, s14⟩ := hSw; go_simp⟩) hH ?_
              try simp only [put_some, List.set_cons_zero, List.set_cons_succ]
              refine takeH (i := 3) (d := some 83) (v := .int .i64 (j : Int)) rfl rfl (by kernel_rfl) (by kernel_rfl) (by kernel_rfl) (fun _ _ _ h => h) (Or.inl ⟨by rfl, fun W hSw => by obtain ⟨s0, s1, s2, s3, s4, s5, s6, s7, s8, s9, s10, s11, s12, s13, s14⟩ := hSw; go_simp⟩) hH ?_
              try simp only [put_some, List.set_cons_zero, List.set_cons_succ]
              refine takeH (i := 4) (d := some 84) (v := .pointer (some ⟨rb, ro + j * 2, none⟩)) rfl rfl (by kernel_rfl) (by kernel_rfl) (by kernel_rfl) (fun _ _ _ h => h) (Or.inl ⟨by rfl, fun W hSw => by obtain ⟨s0, s1, s2, s3, s4, s5, s6, s7, s8, s9, s10, s11, s12, s13, s14⟩ := hSw; go_simp⟩) hH ?_
              try simp only [put_some, List.set_cons_zero, List.set_cons_succ]
              refine takeH (i := 5) (d := some 85) (v := .pointer (some ⟨rb, ro + j * 2 + 1, none⟩)) rfl rfl (by kernel_rfl) (by kernel_rfl) (by kernel_rfl) (fun _ _ _ h => h) (Or.inl ⟨by rfl, fun W hSw => by obtain ⟨s0, s1, s2, s3, s4, s5, s6, s7, s8, s9, s10, s11, s12, s13, s14⟩ := hSw; go_simp⟩) hH ?_
              try simp only [put_some, List.set_cons_zero, List.set_cons_succ]
              refine takeH (i := 6) (d := some 86) (v := .slice ra rn rc) rfl rfl (by kernel_rfl) (by kernel_rfl) (by kernel_rfl) (fun _ _ _ h => h) (Or.inl ⟨by rfl, fun W hSw => by obtain ⟨s0, s1, s2, s3, s4, s5, s6, s7, s8, s9, s10, s11, s12, s13, s14⟩ := hSw; go_simp⟩) hH ?_
              try simp only [put_some, List.set_cons_zero, List.set_cons_succ]
              refine wpAnyH_ready (rs := [7]) (by kernel_rfl) (by simp) ?_
              refine AllReadyH.cons rfl (fun K hK => ?_) AllReadyH.nil
              go_simp
              go_at_call 28
              refine (HNH.out _ hB1).mono ?_
              rintro e wY ⟨rfl, hb⟩
              have hB1' := below_then hB1 hb hB1.size
              clear hb
              go_wp2_with fail
              refine hK.out _ _ (HK14.out _ hB1') (fun hH => ?_)
              clear hK K
              refine takeH (i := 8) (d := some 88) (v := .bool false) rfl rfl (by kernel_rfl) (by kernel_rfl) (by kernel_rfl) (fun _ _ _ h => h) (Or.inl ⟨by rfl, fun W hSw => by obtain ⟨s0, s1, s2, s3, s4, s5, s6, s7, s8, s9, s10, s11, s12, s13, s14⟩ := hSw; go_simp⟩) hH ?_
              try simp only [put_some, List.set_cons_zero, List.set_cons_succ]
              refine takeH (i := 9) (d := some 89) (v := .bool false) rfl rfl (by kernel_rfl) (by kernel_rfl) (by kernel_rfl) (fun _ _ _ h => h) (Or.inl ⟨by rfl, fun W hSw => by obtain ⟨s0, s1, s2, s3, s4, s5, s6, s7, s8, s9, s10, s11, s12, s13, s14⟩ := hSw; go_simp⟩) hH ?_
              try simp only [put_some, List.set_cons_zero, List.set_cons_succ]
              refine takeH (i := 10) (d := some 90) (v := .bool true) rfl rfl (by kernel_rfl) (by kernel_rfl) (by kernel_rfl) (fun _ _ _ h => h) (Or.inl ⟨by rfl, fun W hSw => by obtain ⟨s0, s1, s2, s3, s4, s5, s6, s7, s8, s9, s10, s11, s12, s13, s14⟩ := hSw; go_simp⟩) hH ?_
              try simp only [put_some, List.set_cons_zero, List.set_cons_succ]
              refine takeH (i := 11) (d := some 91) (v := .bool true) rfl rfl (by kernel_rfl) (by kernel_rfl) (by kernel_rfl) (fun _ _ _ h => h) (Or.inl ⟨by rfl, fun W hSw => by obtain ⟨s0, s1, s2, s3, s4, s5, s6, s7, s8, s9, s10, s11, s12, s13, s14⟩ := hSw; go_simp⟩) hH ?_
              try simp only [put_some, List.set_cons_zero, List.set_cons_succ]
              refine takeH (i := 12) (d := some 92) (v := .agg #[.int .i64 t.kind, .int .i64 t.col, .int .i64 t.op, .int .i64 t.v.ty, .int .i64 t.v.n, .string t.v.s, .slice pa pn pc]) rfl rfl (by kernel_rfl) (by kernel_rfl) (by kernel_rfl) (fun _ _ _ h => h) (Or.inl ⟨by rfl, fun W hSw => by obtain ⟨s0, s1, s2, s3, s4, s5, s6, s7, s8, s9, s10, s11, s12, s13, s14⟩ := hSw; go_simp⟩) hH ?_
              try simp only [put_some, List.set_cons_zero, List.set_cons_succ]
              refine takeH (i := 13) (d := some 93) (v := .slice (some ⟨yg, 0, none⟩) zn yc) rfl rfl (by kernel_rfl) (by kernel_rfl) (by kernel_rfl) (fun _ _ _ h => h) (Or.inl ⟨by rfl, fun W hSw => by obtain ⟨s0, s1, s2, s3, s4, s5, s6, s7, s8, s9, s10, s11, s12, s13, s14⟩ := hSw; go_simp⟩) hH ?_
              try simp only [put_some, List.set_cons_zero, List.set_cons_succ]
              refine wpAnyH_ready (rs := [14]) (by kernel_rfl) (by simp) ?_
              refine AllReadyH.cons rfl (fun K hK => ?_) AllReadyH.nil
              go_simp
              go_at_call 30
              refine (HMM.out _ hB1').mono ?_
              rintro e wZ ⟨rfl, hb⟩
              have hB1'' := below_then hB1' hb hB1'.size
              clear hb
              go_wp2_with fail
              refine hK.out _ _ (HK14.out _ hB1'') (fun hH => ?_)
              clear hK K
              refine takeH (i := 15) (d := some 95) (v := .bool false) rfl rfl (by kernel_rfl) (by kernel_rfl) (by kernel_rfl) (fun _ _ _ h => h) (Or.inl ⟨by rfl, fun W hSw => by obtain ⟨s0, s1, s2, s3, s4, s5, s6, s7, s8, s9, s10, s11, s12, s13, s14⟩ := hSw; go_simp⟩) hH ?_
              try simp only [put_some, List.set_cons_zero, List.set_cons_succ]
              refine takeH (i := 16) (d := some 96) (v := .bool false) rfl rfl (by kernel_rfl) (by kernel_rfl) (by kernel_rfl) (fun _ _ _ h => h) (Or.inl ⟨by rfl, fun W hSw => by obtain ⟨s0, s1, s2, s3, s4, s5, s6, s7, s8, s9, s10, s11, s12, s13, s14⟩ := hSw; go_simp⟩) hH ?_
              try simp only [put_some, List.set_cons_zero, List.set_cons_succ]
              refine takeH (i := 17) (d := some 97) (v := .bool false) rfl rfl (by kernel_rfl) (by kernel_rfl) (by kernel_rfl) (fun _ _ _ h => h) (Or.inl ⟨by rfl, fun W hSw => by obtain ⟨s0, s1, s2, s3, s4, s5, s6, s7, s8, s9, s10, s11, s12, s13, s14⟩ := hSw; go_simp⟩) hH ?_
              try simp only [put_some, List.set_cons_zero, List.set_cons_succ]
              refine takeH (i := 18) (d := some 98) (v := .bool false) rfl rfl (by kernel_rfl) (by kernel_rfl) (by kernel_rfl) (fun _ _ _ h => h) (Or.inl ⟨by rfl, fun W hSw => by obtain ⟨s0, s1, s2, s3, s4, s5, s6, s7, s8, s9, s10, s11, s12, s13, s14⟩ := hSw; go_simp⟩) hH ?_
              try simp only [put_some, List.set_cons_zero, List.set_cons_succ]
              refine takeH (i := 19) (d := some 99) (v := .bool true) rfl rfl (by kernel_rfl) (by kernel_rfl) (by kernel_rfl) (fun _ _ _ h => h) (Or.inl ⟨by rfl, fun W hSw => by obtain ⟨s0, s1, s2, s3, s4, s5, s6, s7, s8, s9, s10, s11, s12, s13, s14⟩ := hSw; go_simp⟩) hH ?_
              try simp only [put_some, List.set_cons_zero, List.set_cons_succ]
              refine takeH (i := 20) (d := some 100) (v := .bool false) rfl rfl (by kernel_rfl) (by kernel_rfl) (by kernel_rfl) (fun _ _ _ h => h) (Or.inl ⟨by rfl, fun W hSw => by obtain ⟨s0, s1, s2, s3, s4, s5, s6, s7, s8, s9, s10, s11, s12, s13, s14⟩ := hSw; go_simp⟩) hH ?_
              try simp only [put_some, List.set_cons_zero, List.set_cons_succ]
              refine takeH (i := 21) (d := some 101) (v := .bool false) rfl rfl (by kernel_rfl) (by kernel_rfl) (by kernel_rfl) (fun _ _ _ h => h) (Or.inl ⟨by rfl, fun W hSw => by obtain ⟨s0, s1, s2, s3, s4, s5, s6, s7, s8, s9, s10, s11, s12, s13, s14⟩ := hSw; go_simp⟩) hH ?_
              try simp only [put_some, List.set_cons_zero, List.set_cons_succ]
              refine takeH (i := 22) (d := some 102) (v := undef) rfl rfl (by kernel_rfl) (by kernel_rfl) (by kernel_rfl) (fun _ _ _ h => h) (Or.inr ⟨by rfl, rfl⟩) hH ?_
              try simp only [put_some, List.set_cons_zero, List.set_cons_succ]
              refine takeH (i := 23) (d := some 103) (v := undef) rfl rfl (by kernel_rfl) (by kernel_rfl) (by kernel_rfl) (fun _ _ _ h => h) (Or.inr ⟨by rfl, rfl⟩) hH ?_
              try simp only [put_some, List.set_cons_zero, List.set_cons_succ]
              refine wpAnyH_ready (rs := [24]) (by kernel_rfl) (by simp) ?_
              refine AllReadyH.cons rfl (fun K hK => ?_) AllReadyH.nil
              go_simp
              refine hK.out _ _ (HK14.out _ hB1'') (fun hH => ?_)
              clear hK K
              refine takeH (i := 25) (d := some 105) (v := undef) rfl rfl (by kernel_rfl) (by kernel_rfl) (by kernel_rfl) (fun _ _ _ h => h) (Or.inr ⟨by rfl, rfl⟩) hH ?_
              try simp only [put_some, List.set_cons_zero, List.set_cons_succ]
              have HBL := Lib.hid hB1''
              refine takeH (i := 26) (d := some 106) (v := .bool false) rfl rfl (by kernel_rfl) (by kernel_rfl) (by kernel_rfl) (fun _ _ _ h => h) (Or.inl ⟨by rfl, fun W hSw => by obtain ⟨s0, s1, s2, s3, s4, s5, s6, s7, s8, s9, s10, s11, s12, s13, s14⟩ := hSw; go_simp⟩) hH ?_
              try simp only [put_some, List.set_cons_zero, List.set_cons_succ]
              refine takeH (i := 27) (d := some 107) (v := .bool false) rfl rfl (by kernel_rfl) (by kernel_rfl) (by kernel_rfl) (fun _ _ _ h => h) (Or.inl ⟨by rfl, fun W hSw => by obtain ⟨s0, s1, s2, s3, s4, s5, s6, s7, s8, s9, s10, s11, s12, s13, s14⟩ := hSw; go_simp⟩) hH ?_
              try simp only [put_some, List.set_cons_zero, List.set_cons_succ]
              have hB' := HBL.out
              clear HBL
              have HF := Lib.hid (below_then hbx hB' hbx.size)
              clear hB'
              refine wpAnyH_done (by kernel_rfl) ?_ _
              go_wp2
              go_roundw
              case rel => exact ⟨j + 1, by omega, by go_num, HF.out⟩
              case measure => simp [intOf]; omega
          | false =>
            go_wp2
            go_region_held3 (fun W => W.cell? ⟨q, 0, none⟩ = some (.int .i64 t.kind) ∧ W.cell? ⟨q, 1, none⟩ = some (.int .i64 t.col) ∧ W.cell? ⟨q, 2, none⟩ = some (.int .i64 t.op) ∧ W.cell? ⟨q, 3, none⟩ = some (.int .i64 t.v.ty) ∧ W.cell? ⟨q, 4, none⟩ = some (.int .i64 t.v.n) ∧ W.cell? ⟨q, 5, none⟩ = some (.string t.v.s) ∧ W.cell? ⟨q, 6, none⟩ = some (.slice pa pn pc) ∧ W.cell? ⟨rb, ro + j * 2 + 1, none⟩ = some (.slice ra rn rc)) (exact HK13.out _ hB') ((go_at_call 28; (with_reducible refine (HIH.out _ hB').mono ?_); rintro e wX ⟨rfl, hb⟩; replace hB' := below_then hB' hb hB'.size))
            all_goals
              have hbx := below_then hbr hB' hbr.size
              have hbx0 := hB'
              clear hB'
              have HNH : Hid (∀ W, Below wX.heap.size wX W → Calls Try.prog 28 #[.agg #[.int .i64 5, .int .i64 0, .int .i64 0, .int .i64 0, .int .i64 0, .string ⟨#[]⟩, .slice (some ⟨q + 1, 0, none⟩) 1 1], .slice ra rn rc] W fun e w' => e = .returned (.bool true) ∧ Below W.heap.size W w') := fun W hW => by
                have := HNH0.out W (below_then hbx0 hW hbx0.size)
                rw [neg_holds, HBH.out] at this
                exact this
              have HMM : Hid (∀ W, Below wX.heap.size wX W → Calls Try.prog 30 #[.agg #[.int .i64 5, .int .i64 0, .int .i64 0, .int .i64 0, .int .i64 0, .string ⟨#[]⟩, .slice (some ⟨q + 1, 0, none⟩) 1 1], .slice (some ⟨yg, 0, none⟩) zn yc] W fun e w' => e = .returned (.bool true) ∧ Below W.heap.size W w') := fun W hW => by
                have := iMayHold zl t.neg _ (.slice (some ⟨q + 1, 0, none⟩) 1 1) (.slice (some ⟨yg, 0, none⟩) zn yc) W (neg_small HBK.out HSM.out).2 (by have := (neg_small HBK.out HSM.out).1; omega) (by have := HZL.out.1; omega) HZL.out.2 (HNG.out W (below_then hbx hW hbx.size)) (fun b hb => hb.2.2) (by rw [HZN.out]; exact HY.out W (below_then hbx hW hbx.size))
                rw [HS2.out HBH.out] at this
                exact this
              have HK14 : Hid (∀ W, Below wX.heap.size wX W → W.cell? ⟨q, 0, none⟩ = some (.int .i64 t.kind) ∧ W.cell? ⟨q, 1, none⟩ = some (.int .i64 t.col) ∧ W.cell? ⟨q, 2, none⟩ = some (.int .i64 t.op) ∧ W.cell? ⟨q, 3, none⟩ = some (.int .i64 t.v.ty) ∧ W.cell? ⟨q, 4, none⟩ = some (.int .i64 t.v.n) ∧ W.cell? ⟨q, 5, none⟩ = some (.string t.v.s) ∧ W.cell? ⟨q, 6, none⟩ = some (.slice pa pn pc) ∧ W.cell? ⟨q + 2, 0, none⟩ = some (.int .i64 5) ∧ W.cell? ⟨q + 2, 1, none⟩ = some (.int .i64 0) ∧ W.cell? ⟨q + 2, 2, none⟩ = some (.int .i64 0) ∧ W.cell? ⟨q + 2, 3, none⟩ = some (.int .i64 0) ∧ W.cell? ⟨q + 2, 4, none⟩ = some (.int .i64 0) ∧ W.cell? ⟨q + 2, 5, none⟩ = some (.string ⟨#[]⟩) ∧ W.cell? ⟨q + 2, 6, none⟩ = some (.slice (some ⟨q + 1, 0, none⟩) 1 1) ∧ W.cell? ⟨rb, ro + j * 2 + 1, none⟩ = some (.slice ra rn rc)) := fun W hW => by
                obtain ⟨a0, a1, a2, a3, a4, a5, a6, d0, d1, d2, d3, d4, d5, d6⟩ := HKP.out W (below_then hbx hW hbx.size)
                have hz := below_then hbx0 hW hbx0.size
                exact ⟨a0, a1, a2, a3, a4, a5, a6, d0, d1, d2, d3, d4, d5, d6, (hz.cell (p := ⟨rb, ro + j * 2 + 1, none⟩) (lt_of_cell HC1.out)).trans HC1.out⟩
              have hB1 := (Below.refl wX.heap.size wX).drew
              have HS14 := HK14.out _ hB1
              have hji : (j : Int) < (n : Int) := by omega
              have hj0 : (0 : Int) ≤ (j : Int) := by omega
              have HK0 := HK14.out _ (Below.refl wX.heap.size wX)
              clear hbx0 HK0
              go_wp2
              refine wp_region_held_drew (S := fun W => W.cell? ⟨q, 0, none⟩ = some (.int .i64 t.kind) ∧ W.cell? ⟨q, 1, none⟩ = some (.int .i64 t.col) ∧ W.cell? ⟨q, 2, none⟩ = some (.int .i64 t.op) ∧ W.cell? ⟨q, 3, none⟩ = some (.int .i64 t.v.ty) ∧ W.cell? ⟨q, 4, none⟩ = some (.int .i64 t.v.n) ∧ W.cell? ⟨q, 5, none⟩ = some (.string t.v.s) ∧ W.cell? ⟨q, 6, none⟩ = some (.slice pa pn pc) ∧ W.cell? ⟨q + 2, 0, none⟩ = some (.int .i64 5) ∧ W.cell? ⟨q + 2, 1, none⟩ = some (.int .i64 0) ∧ W.cell? ⟨q + 2, 2, none⟩ = some (.int .i64 0) ∧ W.cell? ⟨q + 2, 3, none⟩ = some (.int .i64 0) ∧ W.cell? ⟨q + 2, 4, none⟩ = some (.int .i64 0) ∧ W.cell? ⟨q + 2, 5, none⟩ = some (.string ⟨#[]⟩) ∧ W.cell? ⟨q + 2, 6, none⟩ = some (.slice (some ⟨q + 1, 0, none⟩) 1 1) ∧ W.cell? ⟨rb, ro + j * 2 + 1, none⟩ = some (.slice ra rn rc)) (by kernel_rfl) HS14 (fun hH => ?_)
              clear HS14
              generalize wX.drew = wd at hB1 hH ⊢
              refine takeH (i := 0) (d := some 80) (v := .bool false) rfl rfl (by kernel_rfl) (by kernel_rfl) (by kernel_rfl) (fun _ _ _ h => h) (Or.inl ⟨by rfl, fun W hSw => by obtain ⟨s0, s1, s2, s3, s4, s5, s6, s7, s8, s9, s10, s11, s12, s13, s14⟩ := hSw; go_simp⟩) hH ?_
              try simp only [put_some, List.set_cons_zero, List.set_cons_succ]
              refine takeH (i := 1) (d := some 81) (v := .agg #[.int .i64 5, .int .i64 0, .int .i64 0, .int .i64 0, .int .i64 0, .string ⟨#[]⟩, .slice (some ⟨q + 1, 0, none⟩) 1 1]) rfl rfl (by kernel_rfl) (by kernel_rfl) (by kernel_rfl) (fun _ _ _ h => h) (Or.inl ⟨by rfl, fun W hSw => by obtain ⟨s0, s1, s2, s3, s4, s5, s6, s7, s8, s9, s10, s11, s12, s13, s14⟩ := hSw; go_simp⟩) hH ?_
              try simp only [put_some, List.set_cons_zero, List.set_cons_succ]
              refine takeH (i := 2) (d := some 82) (v := .slice (some ⟨rb, ro, none⟩) n rsc) rfl rfl (by kernel_rfl) (by kernel_rfl) (by kernel_rfl) (fun _ _ _ h => h) (Or.inl ⟨by rfl, fun W hSw => by obtain ⟨s0, s1, s2, s3, s4, s5, s6, s7, s8, s9, s10, s11, s12, s13, s14⟩ := hSw; go_simp⟩) hH ?_
              try simp only [put_some, List.set_cons_zero, List.set_cons_succ]
              refine takeH (i := 3) (d := some 83) (v := .int .i64 (j : Int)) rfl rfl (by kernel_rfl) (by kernel_rfl) (by kernel_rfl) (fun _ _ _ h => h) (Or.inl ⟨by rfl, fun W hSw => by obtain ⟨s0, s1, s2, s3, s4, s5, s6, s7, s8, s9, s10, s11, s12, s13, s14⟩ := hSw; go_simp⟩) hH ?_
              try simp only [put_some, List.set_cons_zero, List.set_cons_succ]
              refine takeH (i := 4) (d := some 84) (v := .pointer (some ⟨rb, ro + j * 2, none⟩)) rfl rfl (by kernel_rfl) (by kernel_rfl) (by kernel_rfl) (fun _ _ _ h => h) (Or.inl ⟨by rfl, fun W hSw => by obtain ⟨s0, s1, s2, s3, s4, s5, s6, s7, s8, s9, s10, s11, s12, s13, s14⟩ := hSw; go_simp⟩) hH ?_
              try simp only [put_some, List.set_cons_zero, List.set_cons_succ]
              refine takeH (i := 5) (d := some 85) (v := .pointer (some ⟨rb, ro + j * 2 + 1, none⟩)) rfl rfl (by kernel_rfl) (by kernel_rfl) (by kernel_rfl) (fun _ _ _ h => h) (Or.inl ⟨by rfl, fun W hSw => by obtain ⟨s0, s1, s2, s3, s4, s5, s6, s7, s8, s9, s10, s11, s12, s13, s14⟩ := hSw; go_simp⟩) hH ?_
              try simp only [put_some, List.set_cons_zero, List.set_cons_succ]
              refine takeH (i := 6) (d := some 86) (v := .slice ra rn rc) rfl rfl (by kernel_rfl) (by kernel_rfl) (by kernel_rfl) (fun _ _ _ h => h) (Or.inl ⟨by rfl, fun W hSw => by obtain ⟨s0, s1, s2, s3, s4, s5, s6, s7, s8, s9, s10, s11, s12, s13, s14⟩ := hSw; go_simp⟩) hH ?_
              try simp only [put_some, List.set_cons_zero, List.set_cons_succ]
              refine wpAnyH_ready (rs := [7]) (by kernel_rfl) (by simp) ?_
              refine AllReadyH.cons rfl (fun K hK => ?_) AllReadyH.nil
              go_simp
              go_at_call 28
              refine (HNH.out _ hB1).mono ?_
              rintro e wY ⟨rfl, hb⟩
              have hB1' := below_then hB1 hb hB1.size
              clear hb
              go_wp2_with fail
              refine hK.out _ _ (HK14.out _ hB1') (fun hH => ?_)
              clear hK K
              refine takeH (i := 8) (d := some 88) (v := .bool false) rfl rfl (by kernel_rfl) (by kernel_rfl) (by kernel_rfl) (fun _ _ _ h => h) (Or.inl ⟨by rfl, fun W hSw => by obtain ⟨s0, s1, s2, s3, s4, s5, s6, s7, s8, s9, s10, s11, s12, s13, s14⟩ := hSw; go_simp⟩) hH ?_
              try simp only [put_some, List.set_cons_zero, List.set_cons_succ]
              refine takeH (i := 9) (d := some 89) (v := .bool false) rfl rfl (by kernel_rfl) (by kernel_rfl) (by kernel_rfl) (fun _ _ _ h => h) (Or.inl ⟨by rfl, fun W hSw => by obtain ⟨s0, s1, s2, s3, s4, s5, s6, s7, s8, s9, s10, s11, s12, s13, s14⟩ := hSw; go_simp⟩) hH ?_
              try simp only [put_some, List.set_cons_zero, List.set_cons_succ]
              refine takeH (i := 10) (d := some 90) (v := .bool false) rfl rfl (by kernel_rfl) (by kernel_rfl) (by kernel_rfl) (fun _ _ _ h => h) (Or.inl ⟨by rfl, fun W hSw => by obtain ⟨s0, s1, s2, s3, s4, s5, s6, s7, s8, s9, s10, s11, s12, s13, s14⟩ := hSw; go_simp⟩) hH ?_
              try simp only [put_some, List.set_cons_zero, List.set_cons_succ]
              refine takeH (i := 11) (d := some 91) (v := .bool false) rfl rfl (by kernel_rfl) (by kernel_rfl) (by kernel_rfl) (fun _ _ _ h => h) (Or.inl ⟨by rfl, fun W hSw => by obtain ⟨s0, s1, s2, s3, s4, s5, s6, s7, s8, s9, s10, s11, s12, s13, s14⟩ := hSw; go_simp⟩) hH ?_
              try simp only [put_some, List.set_cons_zero, List.set_cons_succ]
              refine takeH (i := 12) (d := some 92) (v := undef) rfl rfl (by kernel_rfl) (by kernel_rfl) (by kernel_rfl) (fun _ _ _ h => h) (Or.inr ⟨by rfl, rfl⟩) hH ?_
              try simp only [put_some, List.set_cons_zero, List.set_cons_succ]
              refine takeH (i := 13) (d := some 93) (v := undef) rfl rfl (by kernel_rfl) (by kernel_rfl) (by kernel_rfl) (fun _ _ _ h => h) (Or.inr ⟨by rfl, rfl⟩) hH ?_
              try simp only [put_some, List.set_cons_zero, List.set_cons_succ]
              refine wpAnyH_ready (rs := [14]) (by kernel_rfl) (by simp) ?_
              refine AllReadyH.cons rfl (fun K hK => ?_) AllReadyH.nil
              go_simp
              refine hK.out _ _ (HK14.out _ hB1') (fun hH => ?_)
              clear hK K
              refine takeH (i := 15) (d := some 95) (v := undef) rfl rfl (by kernel_rfl) (by kernel_rfl) (by kernel_rfl) (fun _ _ _ h => h) (Or.inr ⟨by rfl, rfl⟩) hH ?_
              try simp only [put_some, List.set_cons_zero, List.set_cons_succ]
              refine takeH (i := 16) (d := some 96) (v := .bool false) rfl rfl (by kernel_rfl) (by kernel_rfl) (by kernel_rfl) (fun _ _ _ h => h) (Or.inl ⟨by rfl, fun W hSw => by obtain ⟨s0, s1, s2, s3, s4, s5, s6, s7, s8, s9, s10, s11, s12, s13, s14⟩ := hSw; go_simp⟩) hH ?_
              try simp only [put_some, List.set_cons_zero, List.set_cons_succ]
              refine takeH (i := 17) (d := some 97) (v := .bool false) rfl rfl (by kernel_rfl) (by kernel_rfl) (by kernel_rfl) (fun _ _ _ h => h) (Or.inl ⟨by rfl, fun W hSw => by obtain ⟨s0, s1, s2, s3, s4, s5, s6, s7, s8, s9, s10, s11, s12, s13, s14⟩ := hSw; go_simp⟩) hH ?_
              try simp only [put_some, List.set_cons_zero, List.set_cons_succ]
              refine takeH (i := 18) (d := some 98) (v := .bool false) rfl rfl (by kernel_rfl) (by kernel_rfl) (by kernel_rfl) (fun _ _ _ h => h) (Or.inl ⟨by rfl, fun W hSw => by obtain ⟨s0, s1, s2, s3, s4, s5, s6, s7, s8, s9, s10, s11, s12, s13, s14⟩ := hSw; go_simp⟩) hH ?_
              try simp only [put_some, List.set_cons_zero, List.set_cons_succ]
              refine takeH (i := 19) (d := some 99) (v := .bool false) rfl rfl (by kernel_rfl) (by kernel_rfl) (by kernel_rfl) (fun _ _ _ h => h) (Or.inl ⟨by rfl, fun W hSw => by obtain ⟨s0, s1, s2, s3, s4, s5, s6, s7, s8, s9, s10, s11, s12, s13, s14⟩ := hSw; go_simp⟩) hH ?_
              try simp only [put_some, List.set_cons_zero, List.set_cons_succ]
              refine takeH (i := 20) (d := some 100) (v := .bool true) rfl rfl (by kernel_rfl) (by kernel_rfl) (by kernel_rfl) (fun _ _ _ h => h) (Or.inl ⟨by rfl, fun W hSw => by obtain ⟨s0, s1, s2, s3, s4, s5, s6, s7, s8, s9, s10, s11, s12, s13, s14⟩ := hSw; go_simp⟩) hH ?_
              try simp only [put_some, List.set_cons_zero, List.set_cons_succ]
              refine takeH (i := 21) (d := some 101) (v := .bool true) rfl rfl (by kernel_rfl) (by kernel_rfl) (by kernel_rfl) (fun _ _ _ h => h) (Or.inl ⟨by rfl, fun W hSw => by obtain ⟨s0, s1, s2, s3, s4, s5, s6, s7, s8, s9, s10, s11, s12, s13, s14⟩ := hSw; go_simp⟩) hH ?_
              try simp only [put_some, List.set_cons_zero, List.set_cons_succ]
              refine takeH (i := 22) (d := some 102) (v := .agg #[.int .i64 5, .int .i64 0, .int .i64 0, .int .i64 0, .int .i64 0, .string ⟨#[]⟩, .slice (some ⟨q + 1, 0, none⟩) 1 1]) rfl rfl (by kernel_rfl) (by kernel_rfl) (by kernel_rfl) (fun _ _ _ h => h) (Or.inl ⟨by rfl, fun W hSw => by obtain ⟨s0, s1, s2, s3, s4, s5, s6, s7, s8, s9, s10, s11, s12, s13, s14⟩ := hSw; go_simp⟩) hH ?_
              try simp only [put_some, List.set_cons_zero, List.set_cons_succ]
              refine takeH (i := 23) (d := some 103) (v := .slice (some ⟨yg, 0, none⟩) zn yc) rfl rfl (by kernel_rfl) (by kernel_rfl) (by kernel_rfl) (fun _ _ _ h => h) (Or.inl ⟨by rfl, fun W hSw => by obtain ⟨s0, s1, s2, s3, s4, s5, s6, s7, s8, s9, s10, s11, s12, s13, s14⟩ := hSw; go_simp⟩) hH ?_
              try simp only [put_some, List.set_cons_zero, List.set_cons_succ]
              refine wpAnyH_ready (rs := [24]) (by kernel_rfl) (by simp) ?_
              refine AllReadyH.cons rfl (fun K hK => ?_) AllReadyH.nil
              go_simp
              go_at_call 30
              refine (HMM.out _ hB1').mono ?_
              rintro e wZ ⟨rfl, hb⟩
              have hB1'' := below_then hB1' hb hB1'.size
              clear hb
              go_wp2_with fail
              refine hK.out _ _ (HK14.out _ hB1'') (fun hH => ?_)
              clear hK K
              refine takeH (i := 25) (d := some 105) (v := .bool false) rfl rfl (by kernel_rfl) (by kernel_rfl) (by kernel_rfl) (fun _ _ _ h => h) (Or.inl ⟨by rfl, fun W hSw => by obtain ⟨s0, s1, s2, s3, s4, s5, s6, s7, s8, s9, s10, s11, s12, s13, s14⟩ := hSw; go_simp⟩) hH ?_
              try simp only [put_some, List.set_cons_zero, List.set_cons_succ]
              have HBL := Lib.hid hB1''
              refine takeH (i := 26) (d := some 106) (v := .bool false) rfl rfl (by kernel_rfl) (by kernel_rfl) (by kernel_rfl) (fun _ _ _ h => h) (Or.inl ⟨by rfl, fun W hSw => by obtain ⟨s0, s1, s2, s3, s4, s5, s6, s7, s8, s9, s10, s11, s12, s13, s14⟩ := hSw; go_simp⟩) hH ?_
              try simp only [put_some, List.set_cons_zero, List.set_cons_succ]
              refine takeH (i := 27) (d := some 107) (v := .bool false) rfl rfl (by kernel_rfl) (by kernel_rfl) (by kernel_rfl) (fun _ _ _ h => h) (Or.inl ⟨by rfl, fun W hSw => by obtain ⟨s0, s1, s2, s3, s4, s5, s6, s7, s8, s9, s10, s11, s12, s13, s14⟩ := hSw; go_simp⟩) hH ?_
              try simp only [put_some, List.set_cons_zero, List.set_cons_succ]
              have hB' := HBL.out
              clear HBL
              have HF := Lib.hid (below_then hbx hB' hbx.size)
              clear hB'
              refine wpAnyH_done (by kernel_rfl) ?_ _
              go_wp2
              go_roundw
              case rel => exact ⟨j + 1, by omega, by go_num, HF.out⟩
              case measure => simp [intOf]; omega
        · obtain rfl : j = n := by omega
          go_wp2
          go_ret
          exact ⟨rfl, below_then B7 hbr B7.size⟩

end Go.Proofs.Ytafoldpmodipaaa
