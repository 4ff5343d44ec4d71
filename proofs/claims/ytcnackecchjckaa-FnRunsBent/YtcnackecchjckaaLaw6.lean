/- Chapter 6's exact laws, walked; the program's own contracts come as hypotheses. -/
import Derived.Test.YtcnackecchjckaaS6d
import Derived.Test.YtcnackecchjckaaBytes
namespace Go.Proofs.Ytcnackecchjckaa
open Go.RowKit

def CRuns : Prop := ∀ (u : Value) (l : List V) (w : World), l.length ≤ 1048576 → (∀ v ∈ l, v.s.size ≤ maxLen) → Rd 3 w u l.length (vals l) → Calls Try.prog 13 #[u] w fun e w' => ∃ v', e = .returned v' ∧ Own 36 4 w.heap.size w'.heap.size w' v' (runsL l).length (rus (runsL l)) ∧ Below w.heap.size w w'
def CSpread : Prop := ∀ (u : Value) (l : List U) (w : World), l.length ≤ 1048576 → (∀ u ∈ l, u.v.s.size ≤ maxLen) → Rd 4 w u l.length (rus l) → Calls Try.prog 22 #[u] w fun e w' => ∃ v', e = .returned v' ∧ Own 34 3 w.heap.size w'.heap.size w' v' (spreadL l).length (vals (spreadL l)) ∧ Below w.heap.size w w'
def CEncRuns : Prop := ∀ (u : Value) (l : List V) (w : World), l.length ≤ 1048576 → (∀ v ∈ l, v.s.size ≤ maxLen) → Rd 3 w u l.length (vals l) → Calls Try.prog 14 #[u] w fun e w' => ∃ v', e = .returned v' ∧ Own 5 1 w.heap.size w'.heap.size w' v' (encR l).length (ints .u8 (encR l)) ∧ Below w.heap.size w w'
def CDecRuns : Prop := ∀ (u : Value) (n : Nat) (zs : List Int) (ty k : Int) (w : World), n ≤ 1048576 → zs.length = n → Num.Bytes zs → At 1 w u n (ints .u8 zs) → Calls Try.prog 24 #[u, .int .i64 ty, .int .i64 k] w fun e w' => RDs w w' e (decR zs ty k)
def CLongestRun : Prop := ∀ (u : Value) (l : List V) (w : World), l.length ≤ 1048576 → (∀ v ∈ l, v.s.size ≤ maxLen) → Rd 3 w u l.length (vals l) → Calls Try.prog 17 #[u] w fun e w' => e = .returned (.int .i64 (longL l)) ∧ Below w.heap.size w w'
def CTurns : Prop := ∀ (u : Value) (l : List V) (w : World), l.length ≤ 1048576 → (∀ v ∈ l, v.s.size ≤ maxLen) → Rd 3 w u l.length (vals l) → Calls Try.prog 19 #[u] w fun e w' => e = .returned (.int .i64 (turnsL l : Nat)) ∧ Below w.heap.size w w'
theorem encR_len' (l : List V) : (encR l).length ≤ 773 + l.length := by
  have := encR_len l
  omega

set_option maxHeartbeats 1000000 in
theorem lawTurns (hi : CTurns) (b : Option Addr) (lenb capb : Nat) (l : List V) (w : World) (hlb : lenb ≤ maxLen) (hsb : ∀ v ∈ l, v.s.size ≤ maxLen) (hzb : l.length = lenb) (hbB : ArgS 3 w b lenb (vals l)) :
    Calls Try.prog 10 #[.slice b lenb capb] w fun e w' => e = .returned (.bool true) ∧ Below w.heap.size w w' := by
  have HL := Lib.hid hzb
  have HSS := Lib.hid hsb
  have hqq : (((turnsL l : Nat) : Int) != ((turnsL l : Nat) : Int)) = false := by simp
  clear hsb hzb
  go_enter Try.func10, Try.ntmps10
  have bt := Below.refl w.heap.size w
  go_wp2_with fail
  refine (szValS b lenb capb l 1048576 w (by omega) (by omega) hlb HSS.out HL.out (hbB.below bt)).mono ?_
  rintro e w1 ⟨rb, rfl, hrb, hb⟩
  have z1 := hb.size
  replace bt := below_then bt hb (by omega)
  clear hb
  by_cases hnb : rb < 0
  · go_wp2
    go_ret
    exact ⟨rfl, bt⟩
  have hbb : lenb ≤ 1048576 := by omega
  clear hrb
  go_wp2_with fail
  refine (toValS b lenb capb l w1 (by omega) HL.out (hbB.below bt)).mono ?_
  rintro e w2 ⟨t1, rfl, o1, hb⟩
  have z2 := hb.size
  replace bt := below_then bt hb (by omega)
  clear hb
  go_wp2_with fail
  refine (sTurns t1 l w2 (by rw [HL.out]; exact o1.rd)).mono ?_
  rintro e w3 ⟨rfl, hb⟩
  have z3 := hb.size
  replace o1 := o1.below hb (by omega)
  replace bt := below_then bt hb (by omega)
  clear hb
  clear o1
  go_wp2_with fail
  refine (toValS b lenb capb l w3 (by omega) HL.out (hbB.below bt)).mono ?_
  rintro e w4 ⟨x1, rfl, oy, hb⟩
  have z4 := hb.size
  replace bt := below_then bt hb (by omega)
  clear hb
  go_wp2_with fail
  refine (hi x1 l w4 (by rw [HL.out]; omega) HSS.out (by rw [HL.out]; exact oy.rd)).mono ?_
  rintro e w5 ⟨rfl, hb⟩
  have z5 := hb.size
  replace oy := oy.below hb (by omega)
  replace bt := below_then bt hb (by omega)
  clear hb
  go_wp2_with fail
  refine (toValS b lenb capb l w5 (by omega) HL.out (hbB.below bt)).mono ?_
  rintro e w6 ⟨t4, rfl, o4, hb⟩
  have z6 := hb.size
  replace oy := oy.below hb (by omega)
  replace bt := below_then bt hb (by omega)
  clear hb
  go_wp2_with fail
  refine (eqValS x1 t4 lenb l w6 HL.out oy.at o4.at).mono ?_
  rintro e w7 ⟨rfl, hb⟩
  have z7 := hb.size
  replace oy := oy.below hb (by omega)
  replace o4 := o4.below hb (by omega)
  replace bt := below_then bt hb (by omega)
  clear hb
  go_wp2
  go_ret
  exact ⟨rfl, bt⟩

set_option maxHeartbeats 1000000 in
theorem lawLongestRun (hi : CLongestRun) (b : Option Addr) (lenb capb : Nat) (l : List V) (w : World) (hlb : lenb ≤ maxLen) (hsb : ∀ v ∈ l, v.s.size ≤ maxLen) (hzb : l.length = lenb) (hbB : ArgS 3 w b lenb (vals l)) :
    Calls Try.prog 9 #[.slice b lenb capb] w fun e w' => e = .returned (.bool true) ∧ Below w.heap.size w w' := by
  have HL := Lib.hid hzb
  have HSS := Lib.hid hsb
  have hqq : ((longL l : Int) != (longL l : Int)) = false := by simp
  clear hsb hzb
  go_enter Try.func9, Try.ntmps9
  have bt := Below.refl w.heap.size w
  go_wp2_with fail
  refine (szValS b lenb capb l 1048576 w (by omega) (by omega) hlb HSS.out HL.out (hbB.below bt)).mono ?_
  rintro e w1 ⟨rb, rfl, hrb, hb⟩
  have z1 := hb.size
  replace bt := below_then bt hb (by omega)
  clear hb
  by_cases hnb : rb < 0
  · go_wp2
    go_ret
    exact ⟨rfl, bt⟩
  have hbb : lenb ≤ 1048576 := by omega
  clear hrb
  go_wp2_with fail
  refine (toValS b lenb capb l w1 (by omega) HL.out (hbB.below bt)).mono ?_
  rintro e w2 ⟨t1, rfl, o1, hb⟩
  have z2 := hb.size
  replace bt := below_then bt hb (by omega)
  clear hb
  go_wp2_with fail
  refine (sLongestRun t1 l w2 (by rw [HL.out]; omega) (by rw [HL.out]; exact o1.rd)).mono ?_
  rintro e w3 ⟨rfl, hb⟩
  have z3 := hb.size
  replace o1 := o1.below hb (by omega)
  replace bt := below_then bt hb (by omega)
  clear hb
  clear o1
  go_wp2_with fail
  refine (toValS b lenb capb l w3 (by omega) HL.out (hbB.below bt)).mono ?_
  rintro e w4 ⟨x1, rfl, oy, hb⟩
  have z4 := hb.size
  replace bt := below_then bt hb (by omega)
  clear hb
  go_wp2_with fail
  refine (hi x1 l w4 (by rw [HL.out]; omega) HSS.out (by rw [HL.out]; exact oy.rd)).mono ?_
  rintro e w5 ⟨rfl, hb⟩
  have z5 := hb.size
  replace oy := oy.below hb (by omega)
  replace bt := below_then bt hb (by omega)
  clear hb
  go_wp2_with fail
  refine (toValS b lenb capb l w5 (by omega) HL.out (hbB.below bt)).mono ?_
  rintro e w6 ⟨t4, rfl, o4, hb⟩
  have z6 := hb.size
  replace oy := oy.below hb (by omega)
  replace bt := below_then bt hb (by omega)
  clear hb
  go_wp2_with fail
  refine (eqValS x1 t4 lenb l w6 HL.out oy.at o4.at).mono ?_
  rintro e w7 ⟨rfl, hb⟩
  have z7 := hb.size
  replace oy := oy.below hb (by omega)
  replace o4 := o4.below hb (by omega)
  replace bt := below_then bt hb (by omega)
  clear hb
  go_wp2
  go_ret
  exact ⟨rfl, bt⟩

set_option maxHeartbeats 2000000 in
theorem lawEncRuns (hi : CEncRuns) (b : Option Addr) (lenb capb : Nat) (l : List V) (w : World) (hlb : lenb ≤ maxLen) (hsb : ∀ v ∈ l, v.s.size ≤ maxLen) (hzb : l.length = lenb) (hbB : ArgS 3 w b lenb (vals l)) :
    Calls Try.prog 7 #[.slice b lenb capb] w fun e w' => e = .returned (.bool true) ∧ Below w.heap.size w w' := by
  have HL := Lib.hid hzb
  have HSS := Lib.hid hsb
  have hPl := encR_len' l
  rw [hzb] at hPl
  generalize hP : encR l = P at hPl
  have HP := Lib.hid hP
  clear hP
  generalize hn : P.length = n at hPl
  have HN := Lib.hid hn
  clear hn hsb hzb
  go_enter Try.func7, Try.ntmps7
  have bt := Below.refl w.heap.size w
  go_wp2_with fail
  refine (szValS b lenb capb l 1048576 w (by omega) (by omega) hlb HSS.out HL.out (hbB.below bt)).mono ?_
  rintro e w1 ⟨rb, rfl, hrb, hb⟩
  have z1 := hb.size
  replace bt := below_then bt hb (by omega)
  clear hb
  by_cases hnb : rb < 0
  · go_wp2
    go_ret
    exact ⟨rfl, bt⟩
  have hbb : lenb ≤ 1048576 := by omega
  clear hrb
  go_wp2_with fail
  refine (toValS b lenb capb l w1 (by omega) HL.out (hbB.below bt)).mono ?_
  rintro e w2 ⟨t1, rfl, o1, hb⟩
  have z2 := hb.size
  replace bt := below_then bt hb (by omega)
  clear hb
  go_wp2_with fail
  refine (sEncRuns t1 l w2 (by rw [HL.out]; omega) HSS.out (by rw [HL.out]; exact o1.rd)).mono ?_
  rintro e w3 ⟨v0, rfl, ov, hb⟩
  have z3 := hb.size
  replace o1 := o1.below hb (by omega)
  replace bt := below_then bt hb (by omega)
  clear hb
  rw [HP.out, HN.out] at ov
  clear o1
  go_wp2_with fail
  refine (toValS b lenb capb l w3 (by omega) HL.out (hbB.below bt)).mono ?_
  rintro e w4 ⟨x0, rfl, ox, hb⟩
  have z4 := hb.size
  replace ov := ov.below hb (by omega)
  replace bt := below_then bt hb (by omega)
  clear hb
  go_wp2_with fail
  refine (hi x0 l w4 (by rw [HL.out]; omega) HSS.out (by rw [HL.out]; exact ox.rd)).mono ?_
  rintro e w5 ⟨g0, rfl, og, hb⟩
  have z5 := hb.size
  replace ov := ov.below hb (by omega)
  replace ox := ox.below hb (by omega)
  replace bt := below_then bt hb (by omega)
  clear hb
  rw [HP.out, HN.out] at og
  go_wp2_with fail
  refine (eqByteS g0 v0 n P w5 HN.out og.at ov.at).mono ?_
  rintro e w6 ⟨rfl, hb⟩
  have z6 := hb.size
  replace ov := ov.below hb (by omega)
  replace ox := ox.below hb (by omega)
  replace og := og.below hb (by omega)
  replace bt := below_then bt hb (by omega)
  clear hb
  go_wp2_with fail
  refine (toValS b lenb capb l w6 (by omega) HL.out (hbB.below bt)).mono ?_
  rintro e w7 ⟨t2, rfl, o2, hb⟩
  have z7 := hb.size
  replace ov := ov.below hb (by omega)
  replace ox := ox.below hb (by omega)
  replace og := og.below hb (by omega)
  replace bt := below_then bt hb (by omega)
  clear hb
  go_wp2_with fail
  refine (eqValS x0 t2 lenb l w7 HL.out ox.at o2.at).mono ?_
  rintro e w8 ⟨rfl, hb⟩
  have z8 := hb.size
  replace ov := ov.below hb (by omega)
  replace ox := ox.below hb (by omega)
  replace og := og.below hb (by omega)
  replace o2 := o2.below hb (by omega)
  replace bt := below_then bt hb (by omega)
  clear hb
  clear o2
  go_wp2_with fail
  refine (markValS x0 lenb _ _ l 1 w8 (by omega) (by omega) (by omega) HL.out ox).mono ?_
  rintro e w9 ⟨rfl, ⟨l2, hl2, hnew⟩, hg⟩
  have z9 := hg.size
  replace ov := ov.apart ox (by omega) hg
  replace og := og.apart ox (by omega) hg
  have bg := below_grown_own ox hg (by omega) (by omega)
  replace bt := bt.trans (below_grown_own ox hg (by omega) (by omega))
  clear hg bg ox
  clear hnew hl2
  go_wp2_with fail
  refine (eqByteS g0 v0 n P w9 HN.out og.at ov.at).mono ?_
  rintro e w10 ⟨rfl, hb⟩
  have z10 := hb.size
  replace ov := ov.below hb (by omega)
  replace og := og.below hb (by omega)
  replace bt := below_then bt hb (by omega)
  clear hb
  go_wp2_with fail
  refine (markByteS g0 n _ _ _ _ w10 (by omega) (by omega) (by omega) og).mono ?_
  rintro e w11 ⟨rfl, hnew, hg⟩
  have z11 := hg.size
  replace ov := ov.apart og (by omega) hg
  have bg := below_grown_own og hg (by omega) (by omega)
  replace bt := bt.trans (below_grown_own og hg (by omega) (by omega))
  clear hg bg og
  have og := hnew
  clear hnew
  go_wp2_with fail
  refine (heldByteS g0 n 1 w11 (by omega) (by omega) (by omega) og.at).mono ?_
  rintro e w' ⟨rfl, rfl⟩
  go_wp2_with fail
  refine (toValS b lenb capb l w11 (by omega) HL.out (hbB.below bt)).mono ?_
  rintro e w12 ⟨t3, rfl, o3, hb⟩
  have z12 := hb.size
  replace ov := ov.below hb (by omega)
  replace og := og.below hb (by omega)
  replace bt := below_then bt hb (by omega)
  clear hb
  go_wp2_with fail
  refine (hi t3 l w12 (by rw [HL.out]; omega) HSS.out (by rw [HL.out]; exact o3.rd)).mono ?_
  rintro e w13 ⟨h0, rfl, oh, hb⟩
  have z13 := hb.size
  replace ov := ov.below hb (by omega)
  replace og := og.below hb (by omega)
  replace o3 := o3.below hb (by omega)
  replace bt := below_then bt hb (by omega)
  clear hb
  rw [HP.out, HN.out] at oh
  clear o3
  go_wp2_with fail
  refine (eqByteS h0 v0 n P w13 HN.out oh.at ov.at).mono ?_
  rintro e w14 ⟨rfl, hb⟩
  have z14 := hb.size
  replace ov := ov.below hb (by omega)
  replace og := og.below hb (by omega)
  replace oh := oh.below hb (by omega)
  replace bt := below_then bt hb (by omega)
  clear hb
  go_wp2_with fail
  refine (heldByteS g0 n 1 w14 (by omega) (by omega) (by omega) og.at).mono ?_
  rintro e w' ⟨rfl, rfl⟩
  go_wp2
  go_ret
  exact ⟨rfl, bt⟩

set_option maxHeartbeats 2000000 in
theorem lawDecRuns (hi : CDecRuns) (a : Option Addr) (len cap : Nat) (zs : List Int) (ty k : Int) (w : World) (h : Arg .u8 w a len zs) (hby : Num.Bytes zs) :
    Calls Try.prog 8 #[.slice a len cap, .int .i64 ty, .int .i64 k] w fun e w' => e = .returned (.bool true) ∧ Below w.heap.size w w' := by
  by_cases hbig : 1048576 < len
  · go_enter Try.func8, Try.ntmps8
    go_wp2
    go_ret
    exact ⟨rfl, Below.refl _ _⟩
  · have HZ : Hid (zs.length = len) := h.1
    have hPl := decR_len zs ty k
    have hqq : ((decR zs ty k).2 != (decR zs ty k).2) = false := by simp
    generalize hP : (decR zs ty k).1 = P at hPl
    have HP := Lib.hid hP
    clear hP
    generalize hn : P.length = n at hPl
    have HN := Lib.hid hn
    clear hn
    go_enter Try.func8, Try.ntmps8
    have bt := Below.refl w.heap.size w
    go_wp2_with fail
    refine (toByteS a len cap zs w (by omega) (h.below bt)).mono ?_
    rintro e w1 ⟨t1, rfl, o1, hb⟩
    have z1 := hb.size
    replace bt := below_then bt hb (by omega)
    clear hb
    go_wp2_with fail
    refine (sDecRuns t1 len zs ty k w1 (by omega) HZ.out hby o1.at).mono ?_
    rintro e w2 ⟨v0, rfl, ov, hb⟩
    have z2 := hb.size
    replace o1 := o1.below hb (by omega)
    replace bt := below_then bt hb (by omega)
    clear hb
    rw [HP.out, HN.out] at ov
    clear o1
    go_wp2_with fail
    refine (toByteS a len cap zs w2 (by omega) (h.below bt)).mono ?_
    rintro e w3 ⟨x0, rfl, ox, hb⟩
    have z3 := hb.size
    replace ov := ov.below hb (by omega)
    replace bt := below_then bt hb (by omega)
    clear hb
    go_wp2_with fail
    refine (hi x0 len zs ty k w3 (by omega) HZ.out hby ox.at).mono ?_
    rintro e w4 ⟨g0, rfl, og, hb⟩
    have z4 := hb.size
    replace ov := ov.below hb (by omega)
    replace ox := ox.below hb (by omega)
    replace bt := below_then bt hb (by omega)
    clear hb
    rw [HP.out, HN.out] at og
    go_wp2_with fail
    refine (eqValS g0 v0 n P w4 HN.out og.at ov.at).mono ?_
    rintro e w5 ⟨rfl, hb⟩
    have z5 := hb.size
    replace ov := ov.below hb (by omega)
    replace ox := ox.below hb (by omega)
    replace og := og.below hb (by omega)
    replace bt := below_then bt hb (by omega)
    clear hb
    go_wp2_with fail
    refine (toByteS a len cap zs w5 (by omega) (h.below bt)).mono ?_
    rintro e w6 ⟨t2, rfl, o2, hb⟩
    have z6 := hb.size
    replace ov := ov.below hb (by omega)
    replace ox := ox.below hb (by omega)
    replace og := og.below hb (by omega)
    replace bt := below_then bt hb (by omega)
    clear hb
    go_wp2_with fail
    refine (eqByteS x0 t2 len zs w6 HZ.out ox.at o2.at).mono ?_
    rintro e w7 ⟨rfl, hb⟩
    have z7 := hb.size
    replace ov := ov.below hb (by omega)
    replace ox := ox.below hb (by omega)
    replace og := og.below hb (by omega)
    replace o2 := o2.below hb (by omega)
    replace bt := below_then bt hb (by omega)
    clear hb
    clear o2
    go_wp2_with fail
    refine (markByteS x0 len _ _ _ _ w7 (by omega) (by omega) (by omega) ox).mono ?_
    rintro e w8 ⟨rfl, hnew, hg⟩
    have z8 := hg.size
    replace ov := ov.apart ox (by omega) hg
    replace og := og.apart ox (by omega) hg
    have bg := below_grown_own ox hg (by omega) (by omega)
    replace bt := bt.trans (below_grown_own ox hg (by omega) (by omega))
    clear hg bg ox
    clear hnew
    go_wp2_with fail
    refine (eqValS g0 v0 n P w8 HN.out og.at ov.at).mono ?_
    rintro e w9 ⟨rfl, hb⟩
    have z9 := hb.size
    replace ov := ov.below hb (by omega)
    replace og := og.below hb (by omega)
    replace bt := below_then bt hb (by omega)
    clear hb
    go_wp2_with fail
    refine (markValM g0 n _ _ P 1 w9 (by omega) (by omega) (by omega) HN.out og).mono ?_
    rintro e w10 ⟨rfl, hnew, hg⟩
    have z10 := hg.size
    replace ov := ov.apart og (by omega) hg
    have bg := below_grown_own og hg (by omega) (by omega)
    replace bt := bt.trans (below_grown_own og hg (by omega) (by omega))
    clear hg bg og
    have og := hnew
    clear hnew
    go_wp2_with fail
    refine (heldValS g0 n 1 w10 (by omega) (by omega) (by omega) og.rd).mono ?_
    rintro e w11 ⟨rfl, hb⟩
    have z11 := hb.size
    replace ov := ov.below hb (by omega)
    replace og := og.below hb (by omega)
    replace bt := below_then bt hb (by omega)
    clear hb
    go_wp2_with fail
    refine (toByteS a len cap zs w11 (by omega) (h.below bt)).mono ?_
    rintro e w12 ⟨t3, rfl, o3, hb⟩
    have z12 := hb.size
    replace ov := ov.below hb (by omega)
    replace og := og.below hb (by omega)
    replace bt := below_then bt hb (by omega)
    clear hb
    go_wp2_with fail
    refine (hi t3 len zs ty k w12 (by omega) HZ.out hby o3.at).mono ?_
    rintro e w13 ⟨h0, rfl, oh, hb⟩
    have z13 := hb.size
    replace ov := ov.below hb (by omega)
    replace og := og.below hb (by omega)
    replace o3 := o3.below hb (by omega)
    replace bt := below_then bt hb (by omega)
    clear hb
    rw [HP.out, HN.out] at oh
    clear o3
    go_wp2_with fail
    refine (eqValS h0 v0 n P w13 HN.out oh.at ov.at).mono ?_
    rintro e w14 ⟨rfl, hb⟩
    have z14 := hb.size
    replace ov := ov.below hb (by omega)
    replace og := og.below hb (by omega)
    replace oh := oh.below hb (by omega)
    replace bt := below_then bt hb (by omega)
    clear hb
    go_wp2_with fail
    refine (heldValS g0 n 1 w14 (by omega) (by omega) (by omega) og.rd).mono ?_
    rintro e w15 ⟨rfl, hb⟩
    have z15 := hb.size
    replace ov := ov.below hb (by omega)
    replace og := og.below hb (by omega)
    replace oh := oh.below hb (by omega)
    replace bt := below_then bt hb (by omega)
    clear hb
    go_wp2
    go_ret
    exact ⟨rfl, bt⟩

set_option maxHeartbeats 2000000 in
theorem lawRuns (hi : CRuns) (b : Option Addr) (lenb capb : Nat) (l : List V) (w : World) (hlb : lenb ≤ maxLen) (hsb : ∀ v ∈ l, v.s.size ≤ maxLen) (hzb : l.length = lenb) (hbB : ArgS 3 w b lenb (vals l)) :
    Calls Try.prog 5 #[.slice b lenb capb] w fun e w' => e = .returned (.bool true) ∧ Below w.heap.size w w' := by
  have HL := Lib.hid hzb
  have HSS := Lib.hid hsb
  have hPl := runsL_len l
  rw [hzb] at hPl
  generalize hP : runsL l = P at hPl
  have HP := Lib.hid hP
  clear hP
  generalize hn : P.length = n at hPl
  have HN := Lib.hid hn
  clear hn hsb hzb
  go_enter Try.func5, Try.ntmps5
  have bt := Below.refl w.heap.size w
  go_wp2_with fail
  refine (szValS b lenb capb l 1048576 w (by omega) (by omega) hlb HSS.out HL.out (hbB.below bt)).mono ?_
  rintro e w1 ⟨rb, rfl, hrb, hb⟩
  have z1 := hb.size
  replace bt := below_then bt hb (by omega)
  clear hb
  by_cases hnb : rb < 0
  · go_wp2
    go_ret
    exact ⟨rfl, bt⟩
  have hbb : lenb ≤ 1048576 := by omega
  clear hrb
  go_wp2_with fail
  refine (toValS b lenb capb l w1 (by omega) HL.out (hbB.below bt)).mono ?_
  rintro e w2 ⟨t1, rfl, o1, hb⟩
  have z2 := hb.size
  replace bt := below_then bt hb (by omega)
  clear hb
  go_wp2_with fail
  refine (sRuns t1 l w2 (by rw [HL.out]; omega) (by rw [HL.out]; exact o1.rd)).mono ?_
  rintro e w3 ⟨v0, rfl, ov, hb⟩
  have z3 := hb.size
  replace o1 := o1.below hb (by omega)
  replace bt := below_then bt hb (by omega)
  clear hb
  rw [HP.out, HN.out] at ov
  clear o1
  go_wp2_with fail
  refine (toValS b lenb capb l w3 (by omega) HL.out (hbB.below bt)).mono ?_
  rintro e w4 ⟨x0, rfl, ox, hb⟩
  have z4 := hb.size
  replace ov := ov.below hb (by omega)
  replace bt := below_then bt hb (by omega)
  clear hb
  go_wp2_with fail
  refine (hi x0 l w4 (by rw [HL.out]; omega) HSS.out (by rw [HL.out]; exact ox.rd)).mono ?_
  rintro e w5 ⟨g0, rfl, og, hb⟩
  have z5 := hb.size
  replace ov := ov.below hb (by omega)
  replace ox := ox.below hb (by omega)
  replace bt := below_then bt hb (by omega)
  clear hb
  rw [HP.out, HN.out] at og
  go_wp2_with fail
  refine (eqRunR g0 v0 n P w5 HN.out og.rd ov.rd).mono ?_
  rintro e w6 ⟨rfl, hb⟩
  have z6 := hb.size
  replace ov := ov.below hb (by omega)
  replace ox := ox.below hb (by omega)
  replace og := og.below hb (by omega)
  replace bt := below_then bt hb (by omega)
  clear hb
  go_wp2_with fail
  refine (toValS b lenb capb l w6 (by omega) HL.out (hbB.below bt)).mono ?_
  rintro e w7 ⟨t2, rfl, o2, hb⟩
  have z7 := hb.size
  replace ov := ov.below hb (by omega)
  replace ox := ox.below hb (by omega)
  replace og := og.below hb (by omega)
  replace bt := below_then bt hb (by omega)
  clear hb
  go_wp2_with fail
  refine (eqValS x0 t2 lenb l w7 HL.out ox.at o2.at).mono ?_
  rintro e w8 ⟨rfl, hb⟩
  have z8 := hb.size
  replace ov := ov.below hb (by omega)
  replace ox := ox.below hb (by omega)
  replace og := og.below hb (by omega)
  replace o2 := o2.below hb (by omega)
  replace bt := below_then bt hb (by omega)
  clear hb
  clear o2
  go_wp2_with fail
  refine (markValS x0 lenb _ _ l 1 w8 (by omega) (by omega) (by omega) HL.out ox).mono ?_
  rintro e w9 ⟨rfl, ⟨l2, hl2, hnew⟩, hg⟩
  have z9 := hg.size
  replace ov := ov.apart ox (by omega) hg
  replace og := og.apart ox (by omega) hg
  have bg := below_grown_own ox hg (by omega) (by omega)
  replace bt := bt.trans (below_grown_own ox hg (by omega) (by omega))
  clear hg bg ox
  clear hnew hl2
  go_wp2_with fail
  refine (eqRunR g0 v0 n P w9 HN.out og.rd ov.rd).mono ?_
  rintro e w10 ⟨rfl, hb⟩
  have z10 := hb.size
  replace ov := ov.below hb (by omega)
  replace og := og.below hb (by omega)
  replace bt := below_then bt hb (by omega)
  clear hb
  go_wp2_with fail
  refine (markRunM g0 n _ _ P 1 w10 (by omega) (by omega) (by omega) HN.out og).mono ?_
  rintro e w11 ⟨rfl, hnew, hg⟩
  have z11 := hg.size
  replace ov := ov.apart og (by omega) hg
  have bg := below_grown_own og hg (by omega) (by omega)
  replace bt := bt.trans (below_grown_own og hg (by omega) (by omega))
  clear hg bg og
  have og := hnew
  clear hnew
  go_wp2_with fail
  refine (heldRunS g0 n 1 w11 (by omega) (by omega) (by omega) og.rd).mono ?_
  rintro e w12 ⟨rfl, hb⟩
  have z12 := hb.size
  replace ov := ov.below hb (by omega)
  replace og := og.below hb (by omega)
  replace bt := below_then bt hb (by omega)
  clear hb
  go_wp2_with fail
  refine (toValS b lenb capb l w12 (by omega) HL.out (hbB.below bt)).mono ?_
  rintro e w13 ⟨t3, rfl, o3, hb⟩
  have z13 := hb.size
  replace ov := ov.below hb (by omega)
  replace og := og.below hb (by omega)
  replace bt := below_then bt hb (by omega)
  clear hb
  go_wp2_with fail
  refine (hi t3 l w13 (by rw [HL.out]; omega) HSS.out (by rw [HL.out]; exact o3.rd)).mono ?_
  rintro e w14 ⟨h0, rfl, oh, hb⟩
  have z14 := hb.size
  replace ov := ov.below hb (by omega)
  replace og := og.below hb (by omega)
  replace o3 := o3.below hb (by omega)
  replace bt := below_then bt hb (by omega)
  clear hb
  rw [HP.out, HN.out] at oh
  clear o3
  go_wp2_with fail
  refine (eqRunR h0 v0 n P w14 HN.out oh.rd ov.rd).mono ?_
  rintro e w15 ⟨rfl, hb⟩
  have z15 := hb.size
  replace ov := ov.below hb (by omega)
  replace og := og.below hb (by omega)
  replace oh := oh.below hb (by omega)
  replace bt := below_then bt hb (by omega)
  clear hb
  go_wp2_with fail
  refine (heldRunS g0 n 1 w15 (by omega) (by omega) (by omega) og.rd).mono ?_
  rintro e w16 ⟨rfl, hb⟩
  have z16 := hb.size
  replace ov := ov.below hb (by omega)
  replace og := og.below hb (by omega)
  replace oh := oh.below hb (by omega)
  replace bt := below_then bt hb (by omega)
  clear hb
  go_wp2
  go_ret
  exact ⟨rfl, bt⟩

set_option maxHeartbeats 2000000 in
theorem lawSpread (hi : CSpread) (b : Option Addr) (lenb capb : Nat) (l : List U) (w : World) (hsb : ∀ u ∈ l, u.v.s.size ≤ maxLen) (hzb : l.length = lenb) (hR : Rd 4 w (.slice b lenb capb) l.length (rus l)) :
    Calls Try.prog 6 #[.slice b lenb capb] w fun e w' => e = .returned (.bool true) ∧ Below w.heap.size w w' := by
  have HL := Lib.hid hzb
  have HSS := Lib.hid hsb
  have hPl := spreadL_len l
  generalize hP : spreadL l = P at hPl
  have HP := Lib.hid hP
  clear hP
  generalize hn : P.length = n at hPl
  have HN := Lib.hid hn
  clear hn hsb hzb
  go_enter Try.func6, Try.ntmps6
  have bt := Below.refl w.heap.size w
  go_wp2_with fail
  refine (szRunS (.slice b lenb capb) l 1048576 w (by omega) (by omega) HSS.out (hR.below bt)).mono ?_
  rintro e w1 ⟨rb, rfl, hrb, hb⟩
  have z1 := hb.size
  replace bt := below_then bt hb (by omega)
  clear hb
  by_cases hnb : rb < 0
  · go_wp2
    go_ret
    exact ⟨rfl, bt⟩
  have hbb : lenb ≤ 1048576 := by rw [HL.out] at hrb; omega
  clear hrb
  go_wp2_with fail
  refine (toRunS (.slice b lenb capb) l w1 (by rw [HL.out]; omega) (hR.below bt)).mono ?_
  rintro e w2 ⟨t1, rfl, o1, hb⟩
  have z2 := hb.size
  replace bt := below_then bt hb (by omega)
  clear hb
  rw [HL.out] at o1
  go_wp2_with fail
  refine (sSpread t1 l w2 (by rw [HL.out]; exact o1.rd)).mono ?_
  rintro e w3 ⟨v0, rfl, ov, hb⟩
  have z3 := hb.size
  replace o1 := o1.below hb (by omega)
  replace bt := below_then bt hb (by omega)
  clear hb
  rw [HP.out, HN.out] at ov
  clear o1
  go_wp2_with fail
  refine (toRunS (.slice b lenb capb) l w3 (by rw [HL.out]; omega) (hR.below bt)).mono ?_
  rintro e w4 ⟨x0, rfl, ox, hb⟩
  have z4 := hb.size
  replace ov := ov.below hb (by omega)
  replace bt := below_then bt hb (by omega)
  clear hb
  rw [HL.out] at ox
  go_wp2_with fail
  refine (hi x0 l w4 (by rw [HL.out]; omega) HSS.out (by rw [HL.out]; exact ox.rd)).mono ?_
  rintro e w5 ⟨g0, rfl, og, hb⟩
  have z5 := hb.size
  replace ov := ov.below hb (by omega)
  replace ox := ox.below hb (by omega)
  replace bt := below_then bt hb (by omega)
  clear hb
  rw [HP.out, HN.out] at og
  go_wp2_with fail
  refine (eqValS g0 v0 n P w5 HN.out og.at ov.at).mono ?_
  rintro e w6 ⟨rfl, hb⟩
  have z6 := hb.size
  replace ov := ov.below hb (by omega)
  replace ox := ox.below hb (by omega)
  replace og := og.below hb (by omega)
  replace bt := below_then bt hb (by omega)
  clear hb
  go_wp2_with fail
  refine (toRunS (.slice b lenb capb) l w6 (by rw [HL.out]; omega) (hR.below bt)).mono ?_
  rintro e w7 ⟨t2, rfl, o2, hb⟩
  have z7 := hb.size
  replace ov := ov.below hb (by omega)
  replace ox := ox.below hb (by omega)
  replace og := og.below hb (by omega)
  replace bt := below_then bt hb (by omega)
  clear hb
  rw [HL.out] at o2
  go_wp2_with fail
  refine (eqRunR x0 t2 lenb l w7 HL.out ox.rd o2.rd).mono ?_
  rintro e w8 ⟨rfl, hb⟩
  have z8 := hb.size
  replace ov := ov.below hb (by omega)
  replace ox := ox.below hb (by omega)
  replace og := og.below hb (by omega)
  replace o2 := o2.below hb (by omega)
  replace bt := below_then bt hb (by omega)
  clear hb
  clear o2
  go_wp2_with fail
  refine (markRunM x0 lenb _ _ l 1 w8 (by omega) (by omega) (by omega) HL.out ox).mono ?_
  rintro e w9 ⟨rfl, hnew, hg⟩
  have z9 := hg.size
  replace ov := ov.apart ox (by omega) hg
  replace og := og.apart ox (by omega) hg
  have bg := below_grown_own ox hg (by omega) (by omega)
  replace bt := bt.trans (below_grown_own ox hg (by omega) (by omega))
  clear hg bg ox
  clear hnew
  go_wp2_with fail
  refine (eqValS g0 v0 n P w9 HN.out og.at ov.at).mono ?_
  rintro e w10 ⟨rfl, hb⟩
  have z10 := hb.size
  replace ov := ov.below hb (by omega)
  replace og := og.below hb (by omega)
  replace bt := below_then bt hb (by omega)
  clear hb
  go_wp2_with fail
  refine (markValM g0 n _ _ P 1 w10 (by omega) (by omega) (by omega) HN.out og).mono ?_
  rintro e w11 ⟨rfl, hnew, hg⟩
  have z11 := hg.size
  replace ov := ov.apart og (by omega) hg
  have bg := below_grown_own og hg (by omega) (by omega)
  replace bt := bt.trans (below_grown_own og hg (by omega) (by omega))
  clear hg bg og
  have og := hnew
  clear hnew
  go_wp2_with fail
  refine (heldValS g0 n 1 w11 (by omega) (by omega) (by omega) og.rd).mono ?_
  rintro e w12 ⟨rfl, hb⟩
  have z12 := hb.size
  replace ov := ov.below hb (by omega)
  replace og := og.below hb (by omega)
  replace bt := below_then bt hb (by omega)
  clear hb
  go_wp2_with fail
  refine (toRunS (.slice b lenb capb) l w12 (by rw [HL.out]; omega) (hR.below bt)).mono ?_
  rintro e w13 ⟨t3, rfl, o3, hb⟩
  have z13 := hb.size
  replace ov := ov.below hb (by omega)
  replace og := og.below hb (by omega)
  replace bt := below_then bt hb (by omega)
  clear hb
  rw [HL.out] at o3
  go_wp2_with fail
  refine (hi t3 l w13 (by rw [HL.out]; omega) HSS.out (by rw [HL.out]; exact o3.rd)).mono ?_
  rintro e w14 ⟨h0, rfl, oh, hb⟩
  have z14 := hb.size
  replace ov := ov.below hb (by omega)
  replace og := og.below hb (by omega)
  replace o3 := o3.below hb (by omega)
  replace bt := below_then bt hb (by omega)
  clear hb
  rw [HP.out, HN.out] at oh
  clear o3
  go_wp2_with fail
  refine (eqValS h0 v0 n P w14 HN.out oh.at ov.at).mono ?_
  rintro e w15 ⟨rfl, hb⟩
  have z15 := hb.size
  replace ov := ov.below hb (by omega)
  replace og := og.below hb (by omega)
  replace oh := oh.below hb (by omega)
  replace bt := below_then bt hb (by omega)
  clear hb
  go_wp2_with fail
  refine (heldValS g0 n 1 w15 (by omega) (by omega) (by omega) og.rd).mono ?_
  rintro e w16 ⟨rfl, hb⟩
  have z16 := hb.size
  replace ov := ov.below hb (by omega)
  replace og := og.below hb (by omega)
  replace oh := oh.below hb (by omega)
  replace bt := below_then bt hb (by omega)
  clear hb
  go_wp2
  go_ret
  exact ⟨rfl, bt⟩

end Go.Proofs.Ytcnackecchjckaa
