/- The exact laws of PutVal, GetVal, EncPlain and DecPlain, walked; the program's own contracts come as hypotheses. -/
import Derived.Test.YteddpefboeikhaaS5e
import Derived.Test.YteddpefboeikhaaBytes
namespace Go.Proofs.Yteddpefboeikhaa
open Go.RowKit

def CPutVal : Prop := ∀ (u : Value) (n : Nat) (zs : List Int) (x : V) (w : World), n ≤ 1048576 → x.s.size ≤ maxLen → zs.length = n → At 1 w u n (ints .u8 zs) → Calls Try.prog 19 #[u, x.agg] w fun e w' => ∃ v', e = .returned v' ∧ Own 5 1 w.heap.size w'.heap.size w' v' (putV zs x).length (ints .u8 (putV zs x)) ∧ Below w.heap.size w w'
def CGetVal : Prop := ∀ (u : Value) (n : Nat) (zs : List Int) (i ty : Int) (w : World), n ≤ 1048576 → zs.length = n → Num.Bytes zs → At 1 w u n (ints .u8 zs) → Calls Try.prog 24 #[u, .int .i64 i, .int .i64 ty] w fun e w' => e = .returned (rGet (getV zs i ty)) ∧ Below w.heap.size w w'
def CEncPlain : Prop := ∀ (u : Value) (l : List V) (w : World), l.length ≤ 1048576 → (∀ v ∈ l, v.s.size ≤ maxLen) → Rd 3 w u l.length (vals l) → Calls Try.prog 27 #[u] w fun e w' => ∃ v', e = .returned v' ∧ Own 5 1 w.heap.size w'.heap.size w' v' (encP l).length (ints .u8 (encP l)) ∧ Below w.heap.size w w'
def CDecPlain : Prop := ∀ (u : Value) (n : Nat) (zs : List Int) (ty k : Int) (w : World), n ≤ 1048576 → zs.length = n → Num.Bytes zs → At 1 w u n (ints .u8 zs) → Calls Try.prog 30 #[u, .int .i64 ty, .int .i64 k] w fun e w' => RDs w w' e (decP zs ty k)

theorem encP_len (l : List V) : (encP l).length ≤ 7 * l.length := by
  unfold encP
  split
  · simp
  · exact encAll_len l
theorem decL_len {zs : List Int} {ty : Int} : ∀ {k : Nat} {i : Int} {r : List V × Int}, decL zs ty k i = some r → r.1.length = k := by
  intro k
  induction k with
  | zero =>
    intro i r h
    simp only [decL, Option.some.injEq] at h
    subst h
    rfl
  | succ k ih =>
    intro i r h
    rw [decL] at h
    split at h
    · obtain ⟨q, hq, rfl⟩ := Option.map_eq_some_iff.1 h
      simp [ih hq]
    · cases h
theorem decP_len (zs : List Int) (ty k : Int) : (decP zs ty k).1.length ≤ 64 := by
  unfold decP
  split
  · rename_i h
    have := Num.inB_true.1 h
    split
    · rename_i r hr
      have hl := decL_len hr
      split
      · simp only
        omega
      · simp
    · simp
  · simp

set_option maxHeartbeats 2000000 in
theorem lawEncPlain (hi : CEncPlain) (b : Option Addr) (lenb capb : Nat) (l : List V) (w : World) (hlb : lenb ≤ maxLen) (hsb : ∀ v ∈ l, v.s.size ≤ maxLen) (hzb : l.length = lenb) (hbB : ArgS 3 w b lenb (vals l)) :
    Calls Try.prog 6 #[.slice b lenb capb] w fun e w' => e = .returned (.bool true) ∧ Below w.heap.size w w' := by
  have HL := Lib.hid hzb
  have HSS := Lib.hid hsb
  have hPl := encP_len l
  rw [hzb] at hPl
  generalize hP : encP l = P at hPl
  have HP := Lib.hid hP
  clear hP
  generalize hn : P.length = n at hPl
  have HN := Lib.hid hn
  clear hn hsb hzb
  go_enter Try.func6, Try.ntmps6
  have bt := Below.refl w.heap.size w
  go_wp2_with fail
  refine (szValS b lenb capb l 1048576 w (by omega) (by omega) hlb HSS.out HL.out (hbB.below bt)).mono ?_
  rintro e w1 ⟨rb, rfl, hrb, hb⟩
  have z1 := hb.size
  replace bt := below_then bt hb (by omega)
  clear hb
  by_cases hnb : rb < 0
  · go_wp2
    go_ret
    exact ⟨rfl, bt⟩
  have hbb : lenb ≤ 1048576 := by omega
  clear hrb
  go_wp2_with fail
  refine (toValS b lenb capb l w1 (by omega) HL.out (hbB.below bt)).mono ?_
  rintro e w2 ⟨t1, rfl, o1, hb⟩
  have z2 := hb.size
  replace bt := below_then bt hb (by omega)
  clear hb
  go_wp2_with fail
  refine (sEncPlain t1 l w2 HSS.out (by rw [HL.out]; exact o1.rd)).mono ?_
  rintro e w3 ⟨v0, rfl, ov, hb⟩
  have z3 := hb.size
  replace o1 := o1.below hb (by omega)
  replace bt := below_then bt hb (by omega)
  clear hb
  rw [HP.out, HN.out] at ov
  clear o1
  go_wp2_with fail
  refine (toValS b lenb capb l w3 (by omega) HL.out (hbB.below bt)).mono ?_
  rintro e w4 ⟨x0, rfl, ox, hb⟩
  have z4 := hb.size
  replace ov := ov.below hb (by omega)
  replace bt := below_then bt hb (by omega)
  clear hb
  go_wp2_with fail
  refine (hi x0 l w4 (by rw [HL.out]; omega) HSS.out (by rw [HL.out]; exact ox.rd)).mono ?_
  rintro e w5 ⟨g0, rfl, og, hb⟩
  have z5 := hb.size
  replace ov := ov.below hb (by omega)
  replace ox := ox.below hb (by omega)
  replace bt := below_then bt hb (by omega)
  clear hb
  rw [HP.out, HN.out] at og
  go_wp2_with fail
  refine (eqByteS g0 v0 n P w5 HN.out og.at ov.at).mono ?_
  rintro e w6 ⟨rfl, hb⟩
  have z6 := hb.size
  replace ov := ov.below hb (by omega)
  replace ox := ox.below hb (by omega)
  replace og := og.below hb (by omega)
  replace bt := below_then bt hb (by omega)
  clear hb
  go_wp2_with fail
  refine (toValS b lenb capb l w6 (by omega) HL.out (hbB.below bt)).mono ?_
  rintro e w7 ⟨t2, rfl, o2, hb⟩
  have z7 := hb.size
  replace ov := ov.below hb (by omega)
  replace ox := ox.below hb (by omega)
  replace og := og.below hb (by omega)
  replace bt := below_then bt hb (by omega)
  clear hb
  go_wp2_with fail
  refine (eqValS x0 t2 lenb l w7 HL.out ox.at o2.at).mono ?_
  rintro e w8 ⟨rfl, hb⟩
  have z8 := hb.size
  replace ov := ov.below hb (by omega)
  replace ox := ox.below hb (by omega)
  replace og := og.below hb (by omega)
  replace o2 := o2.below hb (by omega)
  replace bt := below_then bt hb (by omega)
  clear hb
  clear o2
  go_wp2_with fail
  refine (markValS x0 lenb _ _ l 1 w8 (by omega) (by omega) (by omega) HL.out ox).mono ?_
  rintro e w9 ⟨rfl, ⟨l2, hl2, hnew⟩, hg⟩
  have z9 := hg.size
  replace ov := ov.apart ox (by omega) hg
  replace og := og.apart ox (by omega) hg
  have bg := below_grown_own ox hg (by omega) (by omega)
  replace bt := bt.trans (below_grown_own ox hg (by omega) (by omega))
  clear hg bg ox
  clear hnew hl2
  go_wp2_with fail
  refine (eqByteS g0 v0 n P w9 HN.out og.at ov.at).mono ?_
  rintro e w10 ⟨rfl, hb⟩
  have z10 := hb.size
  replace ov := ov.below hb (by omega)
  replace og := og.below hb (by omega)
  replace bt := below_then bt hb (by omega)
  clear hb
  go_wp2_with fail
  refine (markByteS g0 n _ _ _ _ w10 (by omega) (by omega) (by omega) og).mono ?_
  rintro e w11 ⟨rfl, hnew, hg⟩
  have z11 := hg.size
  replace ov := ov.apart og (by omega) hg
  have bg := below_grown_own og hg (by omega) (by omega)
  replace bt := bt.trans (below_grown_own og hg (by omega) (by omega))
  clear hg bg og
  have og := hnew
  clear hnew
  go_wp2_with fail
  refine (heldByteS g0 n 1 w11 (by omega) (by omega) (by omega) og.at).mono ?_
  rintro e w' ⟨rfl, rfl⟩
  go_wp2_with fail
  refine (toValS b lenb capb l w11 (by omega) HL.out (hbB.below bt)).mono ?_
  rintro e w12 ⟨t3, rfl, o3, hb⟩
  have z12 := hb.size
  replace ov := ov.below hb (by omega)
  replace og := og.below hb (by omega)
  replace bt := below_then bt hb (by omega)
  clear hb
  go_wp2_with fail
  refine (hi t3 l w12 (by rw [HL.out]; omega) HSS.out (by rw [HL.out]; exact o3.rd)).mono ?_
  rintro e w13 ⟨h0, rfl, oh, hb⟩
  have z13 := hb.size
  replace ov := ov.below hb (by omega)
  replace og := og.below hb (by omega)
  replace o3 := o3.below hb (by omega)
  replace bt := below_then bt hb (by omega)
  clear hb
  rw [HP.out, HN.out] at oh
  clear o3
  go_wp2_with fail
  refine (eqByteS h0 v0 n P w13 HN.out oh.at ov.at).mono ?_
  rintro e w14 ⟨rfl, hb⟩
  have z14 := hb.size
  replace ov := ov.below hb (by omega)
  replace og := og.below hb (by omega)
  replace oh := oh.below hb (by omega)
  replace bt := below_then bt hb (by omega)
  clear hb
  go_wp2_with fail
  refine (heldByteS g0 n 1 w14 (by omega) (by omega) (by omega) og.at).mono ?_
  rintro e w' ⟨rfl, rfl⟩
  go_wp2
  go_ret
  exact ⟨rfl, bt⟩

set_option maxHeartbeats 2000000 in
theorem lawDecPlain (hi : CDecPlain) (a : Option Addr) (len cap : Nat) (zs : List Int) (ty k : Int) (w : World) (h : Arg .u8 w a len zs) (hby : Num.Bytes zs) :
    Calls Try.prog 7 #[.slice a len cap, .int .i64 ty, .int .i64 k] w fun e w' => e = .returned (.bool true) ∧ Below w.heap.size w w' := by
  by_cases hbig : 1048576 < len
  · go_enter Try.func7, Try.ntmps7
    go_wp2
    go_ret
    exact ⟨rfl, Below.refl _ _⟩
  · have HZ : Hid (zs.length = len) := h.1
    have hPl := decP_len zs ty k
    have hqq : ((decP zs ty k).2 != (decP zs ty k).2) = false := by simp
    generalize hP : (decP zs ty k).1 = P at hPl
    have HP := Lib.hid hP
    clear hP
    generalize hn : P.length = n at hPl
    have HN := Lib.hid hn
    clear hn
    go_enter Try.func7, Try.ntmps7
    have bt := Below.refl w.heap.size w
    go_wp2_with fail
    refine (toByteS a len cap zs w (by omega) (h.below bt)).mono ?_
    rintro e w1 ⟨t1, rfl, o1, hb⟩
    have z1 := hb.size
    replace bt := below_then bt hb (by omega)
    clear hb
    go_wp2_with fail
    refine (sDecPlain t1 len zs ty k w1 (by omega) HZ.out hby o1.at).mono ?_
    rintro e w2 ⟨v0, rfl, ov, hb⟩
    have z2 := hb.size
    replace o1 := o1.below hb (by omega)
    replace bt := below_then bt hb (by omega)
    clear hb
    rw [HP.out, HN.out] at ov
    clear o1
    go_wp2_with fail
    refine (toByteS a len cap zs w2 (by omega) (h.below bt)).mono ?_
    rintro e w3 ⟨x0, rfl, ox, hb⟩
    have z3 := hb.size
    replace ov := ov.below hb (by omega)
    replace bt := below_then bt hb (by omega)
    clear hb
    go_wp2_with fail
    refine (hi x0 len zs ty k w3 (by omega) HZ.out hby ox.at).mono ?_
    rintro e w4 ⟨g0, rfl, og, hb⟩
    have z4 := hb.size
    replace ov := ov.below hb (by omega)
    replace ox := ox.below hb (by omega)
    replace bt := below_then bt hb (by omega)
    clear hb
    rw [HP.out, HN.out] at og
    go_wp2_with fail
    refine (eqValS g0 v0 n P w4 HN.out og.at ov.at).mono ?_
    rintro e w5 ⟨rfl, hb⟩
    have z5 := hb.size
    replace ov := ov.below hb (by omega)
    replace ox := ox.below hb (by omega)
    replace og := og.below hb (by omega)
    replace bt := below_then bt hb (by omega)
    clear hb
    go_wp2_with fail
    refine (toByteS a len cap zs w5 (by omega) (h.below bt)).mono ?_
    rintro e w6 ⟨t2, rfl, o2, hb⟩
    have z6 := hb.size
    replace ov := ov.below hb (by omega)
    replace ox := ox.below hb (by omega)
    replace og := og.below hb (by omega)
    replace bt := below_then bt hb (by omega)
    clear hb
    go_wp2_with fail
    refine (eqByteS x0 t2 len zs w6 HZ.out ox.at o2.at).mono ?_
    rintro e w7 ⟨rfl, hb⟩
    have z7 := hb.size
    replace ov := ov.below hb (by omega)
    replace ox := ox.below hb (by omega)
    replace og := og.below hb (by omega)
    replace o2 := o2.below hb (by omega)
    replace bt := below_then bt hb (by omega)
    clear hb
    clear o2
    go_wp2_with fail
    refine (markByteS x0 len _ _ _ _ w7 (by omega) (by omega) (by omega) ox).mono ?_
    rintro e w8 ⟨rfl, hnew, hg⟩
    have z8 := hg.size
    replace ov := ov.apart ox (by omega) hg
    replace og := og.apart ox (by omega) hg
    have bg := below_grown_own ox hg (by omega) (by omega)
    replace bt := bt.trans (below_grown_own ox hg (by omega) (by omega))
    clear hg bg ox
    clear hnew
    go_wp2_with fail
    refine (eqValS g0 v0 n P w8 HN.out og.at ov.at).mono ?_
    rintro e w9 ⟨rfl, hb⟩
    have z9 := hb.size
    replace ov := ov.below hb (by omega)
    replace og := og.below hb (by omega)
    replace bt := below_then bt hb (by omega)
    clear hb
    go_wp2_with fail
    refine (markValM g0 n _ _ P 1 w9 (by omega) (by omega) (by omega) HN.out og).mono ?_
    rintro e w10 ⟨rfl, hnew, hg⟩
    have z10 := hg.size
    replace ov := ov.apart og (by omega) hg
    have bg := below_grown_own og hg (by omega) (by omega)
    replace bt := bt.trans (below_grown_own og hg (by omega) (by omega))
    clear hg bg og
    have og := hnew
    clear hnew
    go_wp2_with fail
    refine (heldValS g0 n 1 w10 (by omega) (by omega) (by omega) og.rd).mono ?_
    rintro e w11 ⟨rfl, hb⟩
    have z11 := hb.size
    replace ov := ov.below hb (by omega)
    replace og := og.below hb (by omega)
    replace bt := below_then bt hb (by omega)
    clear hb
    go_wp2_with fail
    refine (toByteS a len cap zs w11 (by omega) (h.below bt)).mono ?_
    rintro e w12 ⟨t3, rfl, o3, hb⟩
    have z12 := hb.size
    replace ov := ov.below hb (by omega)
    replace og := og.below hb (by omega)
    replace bt := below_then bt hb (by omega)
    clear hb
    go_wp2_with fail
    refine (hi t3 len zs ty k w12 (by omega) HZ.out hby o3.at).mono ?_
    rintro e w13 ⟨h0, rfl, oh, hb⟩
    have z13 := hb.size
    replace ov := ov.below hb (by omega)
    replace og := og.below hb (by omega)
    replace o3 := o3.below hb (by omega)
    replace bt := below_then bt hb (by omega)
    clear hb
    rw [HP.out, HN.out] at oh
    clear o3
    go_wp2_with fail
    refine (eqValS h0 v0 n P w13 HN.out oh.at ov.at).mono ?_
    rintro e w14 ⟨rfl, hb⟩
    have z14 := hb.size
    replace ov := ov.below hb (by omega)
    replace og := og.below hb (by omega)
    replace oh := oh.below hb (by omega)
    replace bt := below_then bt hb (by omega)
    clear hb
    go_wp2_with fail
    refine (heldValS g0 n 1 w14 (by omega) (by omega) (by omega) og.rd).mono ?_
    rintro e w15 ⟨rfl, hb⟩
    have z15 := hb.size
    replace ov := ov.below hb (by omega)
    replace og := og.below hb (by omega)
    replace oh := oh.below hb (by omega)
    replace bt := below_then bt hb (by omega)
    clear hb
    go_wp2
    go_ret
    exact ⟨rfl, bt⟩

theorem Held.under {W W' : World} {b B : Nat} {v : V} (h : Held W b v) (hb : Below B W W') (hlt : b < B) : Held W' b v :=
  ⟨⟨(hb.cell (p := ⟨b, 0, none⟩) hlt).trans h.1.1, (hb.cell (p := ⟨b, 1, none⟩) hlt).trans h.1.2.1, (hb.cell (p := ⟨b, 2, none⟩) hlt).trans h.1.2.2⟩,
    (hb.frozen (p := ⟨b, 0, none⟩) hlt).trans h.2.1, (hb.frozen (p := ⟨b, 1, none⟩) hlt).trans h.2.2.1, (hb.frozen (p := ⟨b, 2, none⟩) hlt).trans h.2.2.2⟩

set_option maxHeartbeats 4000000 in
theorem lawPutVal (hi : CPutVal) (a : Option Addr) (len cap : Nat) (zs : List Int) (x : V) (w : World) (h : Arg .u8 w a len zs) (hs : x.s.size ≤ maxLen) :
    Calls Try.prog 4 #[.slice a len cap, x.agg] w fun e w' => e = .returned (.bool true) ∧ Below w.heap.size w w' := by
  unfold CPutVal at hi
  have HZ : Hid (zs.length = len) := h.1
  have hPl := (putV_len zs x).2
  rw [HZ.out] at hPl
  generalize hP : putV zs x = P at hPl
  have HP := Lib.hid hP
  clear hP
  generalize hn : P.length = n at hPl
  have HN := Lib.hid hn
  have HSX := Lib.hid hs
  have T0 := held_new w x 31
  have bt := below_alloc w (.cells #[.int .i64 x.ty, .int .i64 x.n, .string x.s] 31)
  have hs0 : (w.alloc (.cells #[.int .i64 x.ty, .int .i64 x.n, .string x.s] 31)).heap.size = w.heap.size + 1 := by simp
  obtain ⟨w0, hw0⟩ : ∃ w0, w.alloc (.cells #[.int .i64 x.ty, .int .i64 x.n, .string x.s] 31) = w0 := ⟨_, rfl⟩
  rw [hw0] at T0 bt hs0
  clear hn hs
  obtain ⟨t, n1, s⟩ := x
  simp only at T0 hw0 HSX
  by_cases hbig : 1048576 < len
  · go_enter Try.func4, Try.ntmps4
    go_wp2
    go_ret
    exact ⟨rfl, bt⟩
  · go_enter Try.func4, Try.ntmps4
    obtain ⟨⟨T0a, T0b, T0c⟩, T0d, T0e, T0f⟩ := id T0
    go_wp2_with fail
    refine (szVal ⟨t, n1, s⟩ 1048576 w0 (by omega) (by omega) HSX.out).mono ?_
    rintro e w1 ⟨rfl, hb⟩
    clear T0a T0b T0c T0d T0e T0f
    have z1 := hb.size
    replace T0 := T0.below hb
    replace bt := below_then bt hb (by omega)
    clear hb
    by_cases hneg : szV ⟨t, n1, s⟩ 1048576 < 0
    · go_wp2
      go_ret
      exact ⟨rfl, bt⟩
    have HC : Hid (∀ W, Below w1.heap.size w1 W → W.cell? ⟨w.heap.size, 0, none⟩ = some (.int .i64 t) ∧ W.cell? ⟨w.heap.size, 1, none⟩ = some (.int .i64 n1) ∧ W.cell? ⟨w.heap.size, 2, none⟩ = some (.string s)) := fun W h => (T0.below h).1
    have hB' := (Below.refl w1.heap.size w1).drew
    go_wp2_with fail
    go_region_held3 (fun W => W.cell? ⟨w.heap.size, 0, none⟩ = some (.int .i64 t) ∧ W.cell? ⟨w.heap.size, 1, none⟩ = some (.int .i64 n1) ∧ W.cell? ⟨w.heap.size, 2, none⟩ = some (.string s)) (exact HC.out _ hB') (first | (go_at_call 17; (with_reducible refine (toByteS a len cap zs _ (by omega) (h.below (below_then bt hB' (by omega)))).mono ?_); rintro e u1 ⟨t1, rfl, o1, hb⟩; replace hB' := below_then hB' hb hB'.size) | (go_at_call 18; (with_reducible refine (toVal ⟨t, n1, s⟩ _).mono ?_); rintro e u2 ⟨rfl, hb⟩; replace o1 := o1.below hb (Nat.le_refl _); have zz := hb.size; replace hB' := below_then hB' hb hB'.size) | (go_at_call 16; (with_reducible refine (sPutVal t1 len zs ⟨t, n1, s⟩ _ (by omega) HSX.out HZ.out o1.at).mono ?_); rintro e u3 ⟨v0, rfl, ov, hb⟩; have zy := hb.size; have zx := hB'.size; replace hB' := below_then hB' hb hB'.size))
    clear HC o1
    have zu := hB'.size
    replace T0 := T0.below hB'
    replace bt := below_then bt hB' (by omega)
    clear hB'
    rw [HP.out, HN.out] at ov
    go_wp2_with fail
    refine (toByteS a len cap zs u3 (by omega) (h.below bt)).mono ?_
    rintro e w2 ⟨x0, rfl, ox, hb⟩
    have z2 := hb.size
    replace ov := ov.below hb (by omega)
    replace T0 := T0.below hb
    replace bt := below_then bt hb (by omega)
    clear hb
    obtain ⟨⟨T0a, T0b, T0c⟩, T0d, T0e, T0f⟩ := id T0
    go_wp2_with fail
    refine (toVal ⟨t, n1, s⟩ w2).mono ?_
    rintro e w3 ⟨rfl, hb⟩
    clear T0a T0b T0c T0d T0e T0f
    have z3 := hb.size
    replace ov := ov.below hb (by omega)
    replace ox := ox.below hb (by omega)
    replace T0 := T0.below hb
    replace bt := below_then bt hb (by omega)
    clear hb
    go_wp2_with fail
    refine (hi x0 len zs ⟨t, n1, s⟩ w3 (by omega) HSX.out HZ.out ox.at).mono ?_
    rintro e w4 ⟨g0, rfl, og, hb⟩
    have z4 := hb.size
    replace ov := ov.below hb (by omega)
    replace ox := ox.below hb (by omega)
    replace T0 := T0.below hb
    replace bt := below_then bt hb (by omega)
    clear hb
    rw [HP.out, HN.out] at og
    go_wp2_with fail
    refine (eqByteS g0 v0 n P w4 HN.out og.at ov.at).mono ?_
    rintro e w5 ⟨rfl, hb⟩
    have z5 := hb.size
    replace ov := ov.below hb (by omega)
    replace ox := ox.below hb (by omega)
    replace og := og.below hb (by omega)
    replace T0 := T0.below hb
    replace bt := below_then bt hb (by omega)
    clear hb
    go_wp2_with fail
    refine (toByteS a len cap zs w5 (by omega) (h.below bt)).mono ?_
    rintro e w6 ⟨t2, rfl, o2, hb⟩
    have z6 := hb.size
    replace ov := ov.below hb (by omega)
    replace ox := ox.below hb (by omega)
    replace og := og.below hb (by omega)
    replace T0 := T0.below hb
    replace bt := below_then bt hb (by omega)
    clear hb
    go_wp2_with fail
    refine (eqByteS x0 t2 len zs w6 HZ.out ox.at o2.at).mono ?_
    rintro e w7 ⟨rfl, hb⟩
    have z7 := hb.size
    replace ov := ov.below hb (by omega)
    replace ox := ox.below hb (by omega)
    replace og := og.below hb (by omega)
    replace o2 := o2.below hb (by omega)
    replace T0 := T0.below hb
    replace bt := below_then bt hb (by omega)
    clear hb
    clear o2
    go_wp2_with fail
    refine (markByteS x0 len _ _ _ _ w7 (by omega) (by omega) (by omega) ox).mono ?_
    rintro e w8 ⟨rfl, hnew, hg⟩
    have z8 := hg.size
    replace ov := ov.apart ox (by omega) hg
    replace og := og.apart ox (by omega) hg
    have bg := below_grown_own ox hg (by omega) (by omega)
    replace T0 := T0.under (below_grown_own ox hg (Nat.le_refl _) ox.lo) (by omega)
    replace bt := bt.trans (below_grown_own ox hg (by omega) (by omega))
    clear hg bg ox
    clear hnew
    go_wp2_with fail
    refine (eqByteS g0 v0 n P w8 HN.out og.at ov.at).mono ?_
    rintro e w9 ⟨rfl, hb⟩
    have z9 := hb.size
    replace ov := ov.below hb (by omega)
    replace og := og.below hb (by omega)
    replace T0 := T0.below hb
    replace bt := below_then bt hb (by omega)
    clear hb
    go_wp2_with fail
    refine (markByteS g0 n _ _ _ _ w9 (by omega) (by omega) (by omega) og).mono ?_
    rintro e w10 ⟨rfl, hnew, hg⟩
    have z10 := hg.size
    replace ov := ov.apart og (by omega) hg
    have bg := below_grown_own og hg (by omega) (by omega)
    replace T0 := T0.under (below_grown_own og hg (Nat.le_refl _) og.lo) (by omega)
    replace bt := bt.trans (below_grown_own og hg (by omega) (by omega))
    clear hg bg og
    have og := hnew
    clear hnew
    go_wp2_with fail
    refine (heldByteS g0 n 1 w10 (by omega) (by omega) (by omega) og.at).mono ?_
    rintro e w' ⟨rfl, rfl⟩
    have HC : Hid (∀ W, Below w10.heap.size w10 W → W.cell? ⟨w.heap.size, 0, none⟩ = some (.int .i64 t) ∧ W.cell? ⟨w.heap.size, 1, none⟩ = some (.int .i64 n1) ∧ W.cell? ⟨w.heap.size, 2, none⟩ = some (.string s)) := fun W h => (T0.below h).1
    have hB' := (Below.refl w10.heap.size w10).drew
    go_wp2_with fail
    go_region_held3 (fun W => W.cell? ⟨w.heap.size, 0, none⟩ = some (.int .i64 t) ∧ W.cell? ⟨w.heap.size, 1, none⟩ = some (.int .i64 n1) ∧ W.cell? ⟨w.heap.size, 2, none⟩ = some (.string s)) (exact HC.out _ hB') (first | (go_at_call 17; (with_reducible refine (toByteS a len cap zs _ (by omega) (h.below (below_then bt hB' (by omega)))).mono ?_); rintro e y1 ⟨t1, rfl, o1, hb⟩; replace hB' := below_then hB' hb hB'.size) | (go_at_call 18; (with_reducible refine (toVal ⟨t, n1, s⟩ _).mono ?_); rintro e y2 ⟨rfl, hb⟩; replace o1 := o1.below hb (Nat.le_refl _); have zz := hb.size; replace hB' := below_then hB' hb hB'.size) | (go_at_call 19; (with_reducible refine (hi t1 len zs ⟨t, n1, s⟩ _ (by omega) HSX.out HZ.out o1.at).mono ?_); rintro e y3 ⟨h0, rfl, oh, hb⟩; have zy := hb.size; have zx := hB'.size; replace hB' := below_then hB' hb hB'.size))
    clear HC o1
    have zy := hB'.size
    replace ov := ov.below hB' (by omega)
    replace og := og.below hB' (by omega)
    replace T0 := T0.below hB'
    replace bt := below_then bt hB' (by omega)
    clear hB'
    rw [HP.out, HN.out] at oh
    go_wp2_with fail
    refine (eqByteS h0 v0 n P y3 HN.out oh.at ov.at).mono ?_
    rintro e w11 ⟨rfl, hb⟩
    have z11 := hb.size
    replace ov := ov.below hb (by omega)
    replace og := og.below hb (by omega)
    replace oh := oh.below hb (by omega)
    replace T0 := T0.below hb
    replace bt := below_then bt hb (by omega)
    clear hb
    go_wp2_with fail
    refine (heldByteS g0 n 1 w11 (by omega) (by omega) (by omega) og.at).mono ?_
    rintro e w' ⟨rfl, rfl⟩
    go_wp2
    go_ret
    exact ⟨rfl, bt⟩

set_option maxHeartbeats 4000000 in
theorem lawGetVal (hi : CGetVal) (a : Option Addr) (len cap : Nat) (zs : List Int) (i ty : Int) (w : World) (h : Arg .u8 w a len zs) (hby : Num.Bytes zs) :
    Calls Try.prog 5 #[.slice a len cap, .int .i64 i, .int .i64 ty] w fun e w' => e = .returned (.bool true) ∧ Below w.heap.size w w' := by
  by_cases hbig : 1048576 < len
  · go_enter Try.func5, Try.ntmps5
    go_wp2
    go_ret
    exact ⟨rfl, Below.refl _ _⟩
  · have HZ : Hid (zs.length = len) := h.1
    obtain ⟨⟨t, n1, s⟩, nx, ok, hP⟩ : ∃ v nx ok, getV zs i ty = (v, nx, ok) := ⟨_, _, _, rfl⟩
    have HP := Lib.hid hP
    have hq1 : (nx != nx) = false := by simp
    have hq2 : (ok != ok) = false := by simp
    clear hP
    go_enter Try.func5, Try.ntmps5
    have bt := Below.refl w.heap.size w
    go_wp2_with fail
    refine (toByteS a len cap zs w (by omega) (h.below bt)).mono ?_
    rintro e w1 ⟨t1, rfl, o1, hb⟩
    have z1 := hb.size
    replace bt := below_then bt hb (by omega)
    clear hb
    go_wp2_with fail
    refine (sGetVal t1 len zs i ty w1 (by omega) HZ.out hby o1.at).mono ?_
    rintro e w2 ⟨rfl, hb⟩
    have z2 := hb.size
    replace o1 := o1.below hb (by omega)
    replace bt := below_then bt hb (by omega)
    clear hb
    clear o1
    rw [HP.out]
    unfold rGet
    simp only
    have ba := below_alloc w2 (.cells #[.int .i64 t, .int .i64 n1, .string s] 35)
    have T0 := held_new w2 ⟨t, n1, s⟩ 35
    have hsT0 : (w2.alloc (.cells #[.int .i64 t, .int .i64 n1, .string s] 35)).heap.size = w2.heap.size + 1 := by simp
    obtain ⟨w3, hw3⟩ : ∃ w0, w2.alloc (.cells #[.int .i64 t, .int .i64 n1, .string s] 35) = w0 := ⟨_, rfl⟩
    rw [hw3] at ba T0 hsT0
    replace bt := below_then bt ba (by omega)
    clear ba
    go_wp2_with fail
    refine (toByteS a len cap zs w3 (by omega) (h.below bt)).mono ?_
    rintro e w4 ⟨x0, rfl, ox, hb⟩
    have z4 := hb.size
    replace T0 := T0.below hb
    replace bt := below_then bt hb (by omega)
    clear hb
    go_wp2_with fail
    refine (hi x0 len zs i ty w4 (by omega) HZ.out hby ox.at).mono ?_
    rintro e w5 ⟨rfl, hb⟩
    have z5 := hb.size
    replace ox := ox.below hb (by omega)
    replace T0 := T0.below hb
    replace bt := below_then bt hb (by omega)
    clear hb
    rw [HP.out]
    unfold rGet
    simp only
    have ba := below_alloc w5 (.cells #[.int .i64 t, .int .i64 n1, .string s] 35)
    have T1 := held_new w5 ⟨t, n1, s⟩ 35
    have hsT1 : (w5.alloc (.cells #[.int .i64 t, .int .i64 n1, .string s] 35)).heap.size = w5.heap.size + 1 := by simp
    obtain ⟨w6, hw6⟩ : ∃ w0, w5.alloc (.cells #[.int .i64 t, .int .i64 n1, .string s] 35) = w0 := ⟨_, rfl⟩
    rw [hw6] at ba T1 hsT1
    replace ox := ox.below ba (by omega)
    replace T0 := T0.below ba
    replace bt := below_then bt ba (by omega)
    clear ba
    obtain ⟨⟨T0a, T0b, T0c⟩, T0d, T0e, T0f⟩ := id T0
    obtain ⟨⟨T1a, T1b, T1c⟩, T1d, T1e, T1f⟩ := id T1
    go_wp2_with fail
    refine (eqVal ⟨t, n1, s⟩ w6).mono ?_
    rintro e w7 ⟨rfl, hb⟩
    clear T0a T0b T0c T0d T0e T0f
    clear T1a T1b T1c T1d T1e T1f
    have z7 := hb.size
    replace ox := ox.below hb (by omega)
    replace T0 := T0.below hb
    replace T1 := T1.below hb
    replace bt := below_then bt hb (by omega)
    clear hb
    go_wp2_with fail
    refine (toByteS a len cap zs w7 (by omega) (h.below bt)).mono ?_
    rintro e w8 ⟨t2, rfl, o2, hb⟩
    have z8 := hb.size
    replace ox := ox.below hb (by omega)
    replace T0 := T0.below hb
    replace T1 := T1.below hb
    replace bt := below_then bt hb (by omega)
    clear hb
    go_wp2_with fail
    refine (eqByteS x0 t2 len zs w8 HZ.out ox.at o2.at).mono ?_
    rintro e w9 ⟨rfl, hb⟩
    have z9 := hb.size
    replace ox := ox.below hb (by omega)
    replace o2 := o2.below hb (by omega)
    replace T0 := T0.below hb
    replace T1 := T1.below hb
    replace bt := below_then bt hb (by omega)
    clear hb
    go_wp2
    go_ret
    exact ⟨rfl, bt⟩

end Go.Proofs.Yteddpefboeikhaa
