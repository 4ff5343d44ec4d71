/- Chapter 7's exact laws, walked; the program's own contracts come as hypotheses. -/
import Derived.Test.YtoidpibdjijamaaS7g
import Derived.Test.YtoidpibdjijamaaBytes
import Derived.Test.YtoidpibdjijamaaInts
import Derived.Test.YtoidpibdjijamaaLaw5b
namespace Go.Proofs.Ytoidpibdjijamaa
open Go.RowKit

def CDict : Prop := ∀ (u : Value) (l : List V) (w : World), l.length ≤ 1048576 → (∀ v ∈ l, v.s.size ≤ maxLen) → Rd 3 w u l.length (vals l) → Calls Try.prog 12 #[u] w fun e w' => ∃ v', e = .returned v' ∧ Own 37 3 w.heap.size w'.heap.size w' v' (dictL l).length (vals (dictL l)) ∧ Below w.heap.size w w'
def CInDict : Prop := ∀ (u : Value) (d : List V) (x : V) (w : World), d.length ≤ 1048576 → Rd 3 w u d.length (vals d) → Calls Try.prog 31 #[u, x.agg] w fun e w' => e = .returned (.int .i64 (inI d x)) ∧ Below w.heap.size w w'
def CPlaces : Prop := ∀ (u v : Value) (d l : List V) (w : World), d.length ≤ 1048576 → l.length ≤ 1048576 → Rd 3 w u d.length (vals d) → Rd 3 w v l.length (vals l) → Calls Try.prog 14 #[u, v] w (Unpacked w (placesL d l))
def CPicked : Prop := ∀ (u v : Value) (d : List V) (l : List Int) (w : World), d.length ≤ 1048576 → l.length ≤ 1048576 → Rd 3 w u d.length (vals d) → Rd 1 w v l.length (ints .i64 l) → Calls Try.prog 15 #[u, v] w fun e w' => RDs w w' e (pickedL d l)
def CEncDict : Prop := ∀ (u : Value) (l : List V) (w : World), l.length ≤ 1048576 → (∀ v ∈ l, v.s.size ≤ maxLen) → Rd 3 w u l.length (vals l) → Calls Try.prog 13 #[u] w fun e w' => ∃ v', e = .returned v' ∧ Own 5 1 w.heap.size w'.heap.size w' v' (encD l).length (ints .u8 (encD l)) ∧ Below w.heap.size w w'
def CDecDict : Prop := ∀ (u : Value) (n : Nat) (zs : List Int) (ty k : Int) (w : World), n ≤ 1048576 → zs.length = n → Num.Bytes zs → At 1 w u n (ints .u8 zs) → Calls Try.prog 22 #[u, .int .i64 ty, .int .i64 k] w fun e w' => RDs w w' e (decD zs ty k)
theorem encD_len' (l : List V) : (encD l).length ≤ 1024 + l.length := by
  have := encD_len l
  omega

set_option maxHeartbeats 4000000 in
theorem lawInDict (hi : CInDict) (a : Option Addr) (lena capa : Nat) (d : List V) (x : V) (w : World) (hla : lena ≤ maxLen) (hsa : ∀ v ∈ d, v.s.size ≤ maxLen) (hza : d.length = lena) (haA : ArgS 3 w a lena (vals d)) (hs : x.s.size ≤ maxLen) :
    Calls Try.prog 5 #[.slice a lena capa, x.agg] w fun e w' => e = .returned (.bool true) ∧ Below w.heap.size w w' := by
  unfold CInDict at hi
  have HLa := Lib.hid hza
  have HSa := Lib.hid hsa
  have HSX := Lib.hid hs
  have hqq : (inI d x != inI d x) = false := by simp
  have T0 := held_new w x 45
  have bt := below_alloc w (.cells #[.int .i64 x.ty, .int .i64 x.n, .string x.s] 45)
  have hs0 : (w.alloc (.cells #[.int .i64 x.ty, .int .i64 x.n, .string x.s] 45)).heap.size = w.heap.size + 1 := by simp
  obtain ⟨w0, hw0⟩ : ∃ w0, w.alloc (.cells #[.int .i64 x.ty, .int .i64 x.n, .string x.s] 45) = w0 := ⟨_, rfl⟩
  rw [hw0] at T0 bt hs0
  clear hs hsa hza
  obtain ⟨t, n1, s⟩ := x
  simp only at T0 hw0 HSX
  go_enter Try.func5, Try.ntmps5
  go_wp2_with fail
  refine (szValS a lena capa d 1048576 w0 (by omega) (by omega) hla HSa.out HLa.out (haA.below bt)).mono ?_
  rintro e w1 ⟨ra, rfl, hra, hb⟩
  have z1 := hb.size
  replace T0 := T0.below hb
  replace bt := below_then bt hb (by omega)
  clear hb
  by_cases hnra : ra < 0
  · go_wp2
    go_ret
    exact ⟨rfl, bt⟩
  have hbra : lena ≤ 1048576 := by omega
  have hlra : ra ≤ 1048576 := by omega
  clear hra
  obtain ⟨⟨T0a, T0b, T0c⟩, T0d, T0e, T0f⟩ := id T0
  go_wp2_with fail
  refine (szVal ⟨t, n1, s⟩ ra w1 (by omega) (by omega) HSX.out).mono ?_
  rintro e w2 ⟨rfl, hb⟩
  clear T0a T0b T0c T0d T0e T0f
  have z2 := hb.size
  replace T0 := T0.below hb
  replace bt := below_then bt hb (by omega)
  clear hb
  by_cases hneg : szV ⟨t, n1, s⟩ ra < 0
  · go_wp2
    go_ret
    exact ⟨rfl, bt⟩
  have HC : Hid (∀ W, Below w2.heap.size w2 W → W.cell? ⟨w.heap.size, 0, none⟩ = some (.int .i64 t) ∧ W.cell? ⟨w.heap.size, 1, none⟩ = some (.int .i64 n1) ∧ W.cell? ⟨w.heap.size, 2, none⟩ = some (.string s)) := fun W h => (T0.below h).1
  have hB' := (Below.refl w2.heap.size w2).drew
  go_wp2_with fail
  go_region_held3 (fun W => W.cell? ⟨w.heap.size, 0, none⟩ = some (.int .i64 t) ∧ W.cell? ⟨w.heap.size, 1, none⟩ = some (.int .i64 n1) ∧ W.cell? ⟨w.heap.size, 2, none⟩ = some (.string s)) (exact HC.out _ hB') (first | (go_at_call 24; (with_reducible refine (toValS a lena capa d _ (by omega) HLa.out (haA.below (below_then bt hB' (by omega)))).mono ?_); rintro e u1 ⟨t1, rfl, o1, hb⟩; replace hB' := below_then hB' hb hB'.size) | (go_at_call 30; (with_reducible refine (toVal ⟨t, n1, s⟩ _).mono ?_); rintro e u2 ⟨rfl, hb⟩; try replace o1 := o1.below hb (Nat.le_refl _); have zz := hb.size; replace hB' := below_then hB' hb hB'.size) | (go_at_call 29; (with_reducible refine (sInDict t1 d ⟨t, n1, s⟩ _ (by rw [HLa.out]; exact o1.rd)).mono ?_); rintro e u3 ⟨rfl, hb⟩; have zy := hb.size; have zx := hB'.size; replace hB' := below_then hB' hb hB'.size))
  clear HC o1
  have zu := hB'.size
  replace T0 := T0.below hB'
  replace bt := below_then bt hB' (by omega)
  clear hB'
  go_wp2_with fail
  refine (toValS a lena capa d u3 (by omega) HLa.out (haA.below bt)).mono ?_
  rintro e w3 ⟨x0, rfl, ox, hb⟩
  have z3 := hb.size
  replace T0 := T0.below hb
  replace bt := below_then bt hb (by omega)
  clear hb
  obtain ⟨⟨T0a, T0b, T0c⟩, T0d, T0e, T0f⟩ := id T0
  go_wp2_with fail
  refine (toVal ⟨t, n1, s⟩ w3).mono ?_
  rintro e w4 ⟨rfl, hb⟩
  clear T0a T0b T0c T0d T0e T0f
  have z4 := hb.size
  replace ox := ox.below hb (by omega)
  replace T0 := T0.below hb
  replace bt := below_then bt hb (by omega)
  clear hb
  go_wp2_with fail
  refine (hi x0 d ⟨t, n1, s⟩ w4 (by rw [HLa.out]; omega) (by rw [HLa.out]; exact ox.rd)).mono ?_
  rintro e w5 ⟨rfl, hb⟩
  have z5 := hb.size
  replace ox := ox.below hb (by omega)
  replace T0 := T0.below hb
  replace bt := below_then bt hb (by omega)
  clear hb
  go_wp2_with fail
  refine (toValS a lena capa d w5 (by omega) HLa.out (haA.below bt)).mono ?_
  rintro e w6 ⟨t2, rfl, o2, hb⟩
  have z6 := hb.size
  replace ox := ox.below hb (by omega)
  replace T0 := T0.below hb
  replace bt := below_then bt hb (by omega)
  clear hb
  go_wp2_with fail
  refine (eqValS x0 t2 lena d w6 HLa.out ox.at o2.at).mono ?_
  rintro e w7 ⟨rfl, hb⟩
  have z7 := hb.size
  replace ox := ox.below hb (by omega)
  replace o2 := o2.below hb (by omega)
  replace T0 := T0.below hb
  replace bt := below_then bt hb (by omega)
  clear hb
  clear o2
  go_wp2
  go_ret
  exact ⟨rfl, bt⟩

set_option maxHeartbeats 2000000 in
theorem lawDict (hi : CDict) (b : Option Addr) (lenb capb : Nat) (l : List V) (w : World) (hlb : lenb ≤ maxLen) (hsb : ∀ v ∈ l, v.s.size ≤ maxLen) (hzb : l.length = lenb) (hbB : ArgS 3 w b lenb (vals l)) :
    Calls Try.prog 4 #[.slice b lenb capb] w fun e w' => e = .returned (.bool true) ∧ Below w.heap.size w w' := by
  have HL := Lib.hid hzb
  have HSS := Lib.hid hsb
  have hPl := dict_len l
  rw [hzb] at hPl
  generalize hP : dictL l = P at hPl
  have HP := Lib.hid hP
  clear hP
  generalize hn : P.length = n at hPl
  have HN := Lib.hid hn
  clear hn hsb hzb
  go_enter Try.func4, Try.ntmps4
  have bt := Below.refl w.heap.size w
  go_wp2_with fail
  refine (szValS b lenb capb l 1048576 w (by omega) (by omega) hlb HSS.out HL.out (hbB.below bt)).mono ?_
  rintro e w1 ⟨rb, rfl, hrb, hb⟩
  have z1 := hb.size
  replace bt := below_then bt hb (by omega)
  clear hb
  by_cases hnrb : rb < 0
  · go_wp2
    go_ret
    exact ⟨rfl, bt⟩
  have hbrb : lenb ≤ 1048576 := by omega
  have hlrb : rb ≤ 1048576 := by omega
  clear hrb
  go_wp2_with fail
  refine (toValS b lenb capb l w1 (by omega) HL.out (hbB.below bt)).mono ?_
  rintro e w2 ⟨t1, rfl, o1, hb⟩
  have z2 := hb.size
  replace bt := below_then bt hb (by omega)
  clear hb
  go_wp2_with fail
  refine (sDict t1 l w2 (by rw [HL.out]; omega) (by rw [HL.out]; exact o1.rd)).mono ?_
  rintro e w3 ⟨v0, rfl, ov, hb⟩
  have z3 := hb.size
  replace o1 := o1.below hb (by omega)
  replace bt := below_then bt hb (by omega)
  clear hb
  rw [HP.out, HN.out] at ov
  clear o1
  go_wp2_with fail
  refine (toValS b lenb capb l w3 (by omega) HL.out (hbB.below bt)).mono ?_
  rintro e w4 ⟨x0, rfl, ox, hb⟩
  have z4 := hb.size
  replace ov := ov.below hb (by omega)
  replace bt := below_then bt hb (by omega)
  clear hb
  go_wp2_with fail
  refine (hi x0 l w4 (by rw [HL.out]; omega) HSS.out (by rw [HL.out]; exact ox.rd)).mono ?_
  rintro e w5 ⟨g0, rfl, og, hb⟩
  have z5 := hb.size
  replace ov := ov.below hb (by omega)
  replace ox := ox.below hb (by omega)
  replace bt := below_then bt hb (by omega)
  clear hb
  rw [HP.out, HN.out] at og
  go_wp2_with fail
  refine (eqValS g0 v0 n P w5 HN.out og.at ov.at).mono ?_
  rintro e w6 ⟨rfl, hb⟩
  have z6 := hb.size
  replace ov := ov.below hb (by omega)
  replace ox := ox.below hb (by omega)
  replace og := og.below hb (by omega)
  replace bt := below_then bt hb (by omega)
  clear hb
  go_wp2_with fail
  refine (toValS b lenb capb l w6 (by omega) HL.out (hbB.below bt)).mono ?_
  rintro e w7 ⟨t2, rfl, o2, hb⟩
  have z7 := hb.size
  replace ov := ov.below hb (by omega)
  replace ox := ox.below hb (by omega)
  replace og := og.below hb (by omega)
  replace bt := below_then bt hb (by omega)
  clear hb
  go_wp2_with fail
  refine (eqValS x0 t2 lenb l w7 HL.out ox.at o2.at).mono ?_
  rintro e w8 ⟨rfl, hb⟩
  have z8 := hb.size
  replace ov := ov.below hb (by omega)
  replace ox := ox.below hb (by omega)
  replace og := og.below hb (by omega)
  replace o2 := o2.below hb (by omega)
  replace bt := below_then bt hb (by omega)
  clear hb
  clear o2
  go_wp2_with fail
  refine (markValS x0 lenb _ _ l 1 w8 (by omega) (by omega) (by omega) HL.out ox).mono ?_
  rintro e w9 ⟨rfl, ⟨l2, hl2, hnew⟩, hg⟩
  have z9 := hg.size
  replace ov := ov.apart ox (by omega) hg
  replace og := og.apart ox (by omega) hg
  have bg := below_grown_own ox hg (by omega) (by omega)
  replace bt := bt.trans (below_grown_own ox hg (by omega) (by omega))
  clear hg bg ox
  clear hnew hl2
  go_wp2_with fail
  refine (eqValS g0 v0 n P w9 HN.out og.at ov.at).mono ?_
  rintro e w10 ⟨rfl, hb⟩
  have z10 := hb.size
  replace ov := ov.below hb (by omega)
  replace og := og.below hb (by omega)
  replace bt := below_then bt hb (by omega)
  clear hb
  go_wp2_with fail
  refine (markValM g0 n _ _ P 1 w10 (by omega) (by omega) (by omega) HN.out og).mono ?_
  rintro e w11 ⟨rfl, hnew, hg⟩
  have z11 := hg.size
  replace ov := ov.apart og (by omega) hg
  have bg := below_grown_own og hg (by omega) (by omega)
  replace bt := bt.trans (below_grown_own og hg (by omega) (by omega))
  clear hg bg og
  have og := hnew
  clear hnew
  go_wp2_with fail
  refine (heldValS g0 n 1 w11 (by omega) (by omega) (by omega) og.rd).mono ?_
  rintro e w12 ⟨rfl, hb⟩
  have z12 := hb.size
  replace ov := ov.below hb (by omega)
  replace og := og.below hb (by omega)
  replace bt := below_then bt hb (by omega)
  clear hb
  go_wp2_with fail
  refine (toValS b lenb capb l w12 (by omega) HL.out (hbB.below bt)).mono ?_
  rintro e w13 ⟨t3, rfl, o3, hb⟩
  have z13 := hb.size
  replace ov := ov.below hb (by omega)
  replace og := og.below hb (by omega)
  replace bt := below_then bt hb (by omega)
  clear hb
  go_wp2_with fail
  refine (hi t3 l w13 (by rw [HL.out]; omega) HSS.out (by rw [HL.out]; exact o3.rd)).mono ?_
  rintro e w14 ⟨h0, rfl, oh, hb⟩
  have z14 := hb.size
  replace ov := ov.below hb (by omega)
  replace og := og.below hb (by omega)
  replace o3 := o3.below hb (by omega)
  replace bt := below_then bt hb (by omega)
  clear hb
  rw [HP.out, HN.out] at oh
  clear o3
  go_wp2_with fail
  refine (eqValS h0 v0 n P w14 HN.out oh.at ov.at).mono ?_
  rintro e w15 ⟨rfl, hb⟩
  have z15 := hb.size
  replace ov := ov.below hb (by omega)
  replace og := og.below hb (by omega)
  replace oh := oh.below hb (by omega)
  replace bt := below_then bt hb (by omega)
  clear hb
  go_wp2_with fail
  refine (heldValS g0 n 1 w15 (by omega) (by omega) (by omega) og.rd).mono ?_
  rintro e w16 ⟨rfl, hb⟩
  have z16 := hb.size
  replace ov := ov.below hb (by omega)
  replace og := og.below hb (by omega)
  replace oh := oh.below hb (by omega)
  replace bt := below_then bt hb (by omega)
  clear hb
  go_wp2
  go_ret
  exact ⟨rfl, bt⟩

set_option maxHeartbeats 4000000 in
theorem lawPlaces (hi : CPlaces) (a : Option Addr) (lena capa : Nat) (d : List V) (b : Option Addr) (lenb capb : Nat) (l : List V) (w : World) (hla : lena ≤ maxLen) (hsa : ∀ v ∈ d, v.s.size ≤ maxLen) (hza : d.length = lena) (haA : ArgS 3 w a lena (vals d)) (hlb : lenb ≤ maxLen) (hsb : ∀ v ∈ l, v.s.size ≤ maxLen) (hzb : l.length = lenb) (hbB : ArgS 3 w b lenb (vals l)) :
    Calls Try.prog 6 #[.slice a lena capa, .slice b lenb capb] w fun e w' => e = .returned (.bool true) ∧ Below w.heap.size w w' := by
  have HLa := Lib.hid hza
  have HSa := Lib.hid hsa
  have HL := Lib.hid hzb
  have HSS := Lib.hid hsb
  have hPl := places_len d l
  rw [hzb] at hPl
  have hqq : ((placesL d l).2 != (placesL d l).2) = false := by simp
  generalize hP : (placesL d l).1 = P at hPl
  have HP := Lib.hid hP
  clear hP
  generalize hn : P.length = n at hPl
  have HN := Lib.hid hn
  clear hn hsb hzb hsa hza
  go_enter Try.func6, Try.ntmps6
  have bt := Below.refl w.heap.size w
  go_wp2_with fail
  refine (szValS a lena capa d 1048576 w (by omega) (by omega) hla HSa.out HLa.out (haA.below bt)).mono ?_
  rintro e w1 ⟨ra, rfl, hra, hb⟩
  have z1 := hb.size
  replace bt := below_then bt hb (by omega)
  clear hb
  by_cases hnra : ra < 0
  · go_wp2
    go_ret
    exact ⟨rfl, bt⟩
  have hbra : lena ≤ 1048576 := by omega
  have hlra : ra ≤ 1048576 := by omega
  clear hra
  go_wp2_with fail
  refine (szValS b lenb capb l ra w1 (by omega) (by omega) hlb HSS.out HL.out (hbB.below bt)).mono ?_
  rintro e w2 ⟨rb, rfl, hrb, hb⟩
  have z2 := hb.size
  replace bt := below_then bt hb (by omega)
  clear hb
  by_cases hnrb : rb < 0
  · go_wp2
    go_ret
    exact ⟨rfl, bt⟩
  have hbrb : lenb ≤ 1048576 := by omega
  have hlrb : rb ≤ 1048576 := by omega
  clear hrb
  go_wp2_with fail
  refine (toValS a lena capa d w2 (by omega) HLa.out (haA.below bt)).mono ?_
  rintro e w3 ⟨s1, rfl, p1, hb⟩
  have z3 := hb.size
  replace bt := below_then bt hb (by omega)
  clear hb
  go_wp2_with fail
  refine (toValS b lenb capb l w3 (by omega) HL.out (hbB.below bt)).mono ?_
  rintro e w4 ⟨t1, rfl, o1, hb⟩
  have z4 := hb.size
  replace p1 := p1.below hb (by omega)
  replace bt := below_then bt hb (by omega)
  clear hb
  go_wp2_with fail
  refine (sPlaces s1 t1 d l w4 (by rw [HL.out]; omega) (by rw [HLa.out]; exact p1.rd) (by rw [HL.out]; exact o1.rd)).mono ?_
  rintro e w5 ⟨v0, rfl, ov, hb⟩
  have z5 := hb.size
  replace p1 := p1.below hb (by omega)
  replace o1 := o1.below hb (by omega)
  replace bt := below_then bt hb (by omega)
  clear hb
  rw [HP.out, HN.out] at ov
  clear o1 p1
  go_wp2_with fail
  refine (toValS a lena capa d w5 (by omega) HLa.out (haA.below bt)).mono ?_
  rintro e w6 ⟨x0, rfl, ox, hb⟩
  have z6 := hb.size
  replace ov := ov.below hb (by omega)
  replace bt := below_then bt hb (by omega)
  clear hb
  go_wp2_with fail
  refine (toValS b lenb capb l w6 (by omega) HL.out (hbB.below bt)).mono ?_
  rintro e w7 ⟨x1, rfl, oy, hb⟩
  have z7 := hb.size
  replace ov := ov.below hb (by omega)
  replace ox := ox.below hb (by omega)
  replace bt := below_then bt hb (by omega)
  clear hb
  go_wp2_with fail
  refine (hi x0 x1 d l w7 (by rw [HLa.out]; omega) (by rw [HL.out]; omega) (by rw [HLa.out]; exact ox.rd) (by rw [HL.out]; exact oy.rd)).mono ?_
  rintro e w8 ⟨g0, rfl, og, hb⟩
  have z8 := hb.size
  replace ov := ov.below hb (by omega)
  replace ox := ox.below hb (by omega)
  replace oy := oy.below hb (by omega)
  replace bt := below_then bt hb (by omega)
  clear hb
  rw [HP.out, HN.out] at og
  go_wp2_with fail
  refine (eqIntS g0 v0 n P w8 HN.out og.at ov.at).mono ?_
  rintro e w9 ⟨rfl, hb⟩
  have z9 := hb.size
  replace ov := ov.below hb (by omega)
  replace ox := ox.below hb (by omega)
  replace oy := oy.below hb (by omega)
  replace og := og.below hb (by omega)
  replace bt := below_then bt hb (by omega)
  clear hb
  go_wp2_with fail
  refine (toValS a lena capa d w9 (by omega) HLa.out (haA.below bt)).mono ?_
  rintro e w10 ⟨t2, rfl, o2, hb⟩
  have z10 := hb.size
  replace ov := ov.below hb (by omega)
  replace ox := ox.below hb (by omega)
  replace oy := oy.below hb (by omega)
  replace og := og.below hb (by omega)
  replace bt := below_then bt hb (by omega)
  clear hb
  go_wp2_with fail
  refine (eqValS x0 t2 lena d w10 HLa.out ox.at o2.at).mono ?_
  rintro e w11 ⟨rfl, hb⟩
  have z11 := hb.size
  replace ov := ov.below hb (by omega)
  replace ox := ox.below hb (by omega)
  replace oy := oy.below hb (by omega)
  replace og := og.below hb (by omega)
  replace o2 := o2.below hb (by omega)
  replace bt := below_then bt hb (by omega)
  clear hb
  clear o2
  go_wp2_with fail
  refine (toValS b lenb capb l w11 (by omega) HL.out (hbB.below bt)).mono ?_
  rintro e w12 ⟨t3, rfl, o3, hb⟩
  have z12 := hb.size
  replace ov := ov.below hb (by omega)
  replace ox := ox.below hb (by omega)
  replace oy := oy.below hb (by omega)
  replace og := og.below hb (by omega)
  replace bt := below_then bt hb (by omega)
  clear hb
  go_wp2_with fail
  refine (eqValS x1 t3 lenb l w12 HL.out oy.at o3.at).mono ?_
  rintro e w13 ⟨rfl, hb⟩
  have z13 := hb.size
  replace ov := ov.below hb (by omega)
  replace ox := ox.below hb (by omega)
  replace oy := oy.below hb (by omega)
  replace og := og.below hb (by omega)
  replace o3 := o3.below hb (by omega)
  replace bt := below_then bt hb (by omega)
  clear hb
  clear o3
  go_wp2_with fail
  refine (markValS x0 lena _ _ d 1 w13 (by omega) (by omega) (by omega) HLa.out ox).mono ?_
  rintro e w14 ⟨rfl, ⟨l2, hl2, hnew⟩, hg⟩
  have z14 := hg.size
  replace ov := ov.apart ox (by omega) hg
  replace oy := oy.apart ox (by omega) hg
  replace og := og.apart ox (by omega) hg
  have bg := below_grown_own ox hg (by omega) (by omega)
  replace bt := bt.trans (below_grown_own ox hg (by omega) (by omega))
  clear hg bg ox
  clear hnew hl2
  have hs1 : 1 + 3 * lena ≤ 3145729 ∧ 0 < 1 + 3 * lena := by omega
  generalize 1 + 3 * lena = sm at hs1 ⊢
  go_wp2_with fail
  refine (markValS x1 lenb _ _ l sm w14 (by omega) (by omega) (by omega) HL.out oy).mono ?_
  rintro e w15 ⟨rfl, ⟨l2, hl2, hnew⟩, hg⟩
  have z15 := hg.size
  replace ov := ov.apart oy (by omega) hg
  replace og := og.apart oy (by omega) hg
  have bg := below_grown_own oy hg (by omega) (by omega)
  replace bt := bt.trans (below_grown_own oy hg (by omega) (by omega))
  clear hg bg oy
  clear hnew hl2
  go_wp2_with fail
  refine (eqIntS g0 v0 n P w15 HN.out og.at ov.at).mono ?_
  rintro e w16 ⟨rfl, hb⟩
  have z16 := hb.size
  replace ov := ov.below hb (by omega)
  replace og := og.below hb (by omega)
  replace bt := below_then bt hb (by omega)
  clear hb
  go_wp2_with fail
  refine (markIntS g0 n _ _ _ 1 w16 (by omega) (by omega) (by omega) og).mono ?_
  rintro e w17 ⟨rfl, hnew, hg⟩
  have z17 := hg.size
  replace ov := ov.apart og (by omega) hg
  have bg := below_grown_own og hg (by omega) (by omega)
  replace bt := bt.trans (below_grown_own og hg (by omega) (by omega))
  clear hg bg og
  have og := hnew
  clear hnew
  go_wp2_with fail
  refine (heldIntS g0 n 1 w17 (by omega) (by omega) (by omega) og.at).mono ?_
  rintro e w' ⟨rfl, rfl⟩
  go_wp2_with fail
  refine (toValS a lena capa d w17 (by omega) HLa.out (haA.below bt)).mono ?_
  rintro e w18 ⟨u1, rfl, q1, hb⟩
  have z18 := hb.size
  replace ov := ov.below hb (by omega)
  replace og := og.below hb (by omega)
  replace bt := below_then bt hb (by omega)
  clear hb
  go_wp2_with fail
  refine (toValS b lenb capb l w18 (by omega) HL.out (hbB.below bt)).mono ?_
  rintro e w19 ⟨u2, rfl, q2, hb⟩
  have z19 := hb.size
  replace ov := ov.below hb (by omega)
  replace og := og.below hb (by omega)
  replace q1 := q1.below hb (by omega)
  replace bt := below_then bt hb (by omega)
  clear hb
  go_wp2_with fail
  refine (hi u1 u2 d l w19 (by rw [HLa.out]; omega) (by rw [HL.out]; omega) (by rw [HLa.out]; exact q1.rd) (by rw [HL.out]; exact q2.rd)).mono ?_
  rintro e w20 ⟨h0, rfl, oh, hb⟩
  have z20 := hb.size
  replace ov := ov.below hb (by omega)
  replace og := og.below hb (by omega)
  replace q1 := q1.below hb (by omega)
  replace q2 := q2.below hb (by omega)
  replace bt := below_then bt hb (by omega)
  clear hb
  rw [HP.out, HN.out] at oh
  clear q1 q2
  go_wp2_with fail
  refine (eqIntS h0 v0 n P w20 HN.out oh.at ov.at).mono ?_
  rintro e w21 ⟨rfl, hb⟩
  have z21 := hb.size
  replace ov := ov.below hb (by omega)
  replace og := og.below hb (by omega)
  replace oh := oh.below hb (by omega)
  replace bt := below_then bt hb (by omega)
  clear hb
  go_wp2_with fail
  refine (heldIntS g0 n 1 w21 (by omega) (by omega) (by omega) og.at).mono ?_
  rintro e w' ⟨rfl, rfl⟩
  go_wp2
  go_ret
  exact ⟨rfl, bt⟩

set_option maxHeartbeats 4000000 in
theorem lawPicked (hi : CPicked) (a : Option Addr) (lena capa : Nat) (d : List V) (b : Option Addr) (len cap : Nat) (zs : List Int) (w : World) (hla : lena ≤ maxLen) (hsa : ∀ v ∈ d, v.s.size ≤ maxLen) (hza : d.length = lena) (haA : ArgS 3 w a lena (vals d)) (h : Arg .i64 w b len zs) :
    Calls Try.prog 7 #[.slice a lena capa, .slice b len cap] w fun e w' => e = .returned (.bool true) ∧ Below w.heap.size w w' := by
  by_cases hbig : 1048576 < len
  · go_enter Try.func7, Try.ntmps7
    go_wp2
    go_ret
    exact ⟨rfl, Below.refl _ _⟩
  · have HLa := Lib.hid hza
    have HSa := Lib.hid hsa
    have HZ : Hid (zs.length = len) := h.1
    have hPl := picked_len d zs
    rw [HZ.out] at hPl
    have hqq : ((pickedL d zs).2 != (pickedL d zs).2) = false := by simp
    generalize hP : (pickedL d zs).1 = P at hPl
    have HP := Lib.hid hP
    clear hP
    generalize hn : P.length = n at hPl
    have HN := Lib.hid hn
    clear hn hsa hza
    go_enter Try.func7, Try.ntmps7
    have bt := Below.refl w.heap.size w
    go_wp2_with fail
    refine (szValS a lena capa d 1048576 w (by omega) (by omega) hla HSa.out HLa.out (haA.below bt)).mono ?_
    rintro e w1 ⟨ra, rfl, hra, hb⟩
    have z1 := hb.size
    replace bt := below_then bt hb (by omega)
    clear hb
    by_cases hnra : ra < 0
    · go_wp2
      go_ret
      exact ⟨rfl, bt⟩
    have hbra : lena ≤ 1048576 := by omega
    have hlra : ra ≤ 1048576 := by omega
    clear hra
    go_wp2_with fail
    refine (toValS a lena capa d w1 (by omega) HLa.out (haA.below bt)).mono ?_
    rintro e w2 ⟨s1, rfl, p1, hb⟩
    have z2 := hb.size
    replace bt := below_then bt hb (by omega)
    clear hb
    go_wp2_with fail
    refine (toIntS b len cap zs w2 (by omega) (h.below bt)).mono ?_
    rintro e w3 ⟨t1, rfl, o1, hb⟩
    have z3 := hb.size
    replace p1 := p1.below hb (by omega)
    replace bt := below_then bt hb (by omega)
    clear hb
    go_wp2_with fail
    refine (sPicked s1 t1 d zs w3 (by rw [HZ.out]; omega) (by rw [HLa.out]; exact p1.rd) (by rw [HZ.out]; exact o1.rd)).mono ?_
    rintro e w4 ⟨v0, rfl, ov, hb⟩
    have z4 := hb.size
    replace p1 := p1.below hb (by omega)
    replace o1 := o1.below hb (by omega)
    replace bt := below_then bt hb (by omega)
    clear hb
    rw [HP.out, HN.out] at ov
    clear o1 p1
    go_wp2_with fail
    refine (toValS a lena capa d w4 (by omega) HLa.out (haA.below bt)).mono ?_
    rintro e w5 ⟨x0, rfl, ox, hb⟩
    have z5 := hb.size
    replace ov := ov.below hb (by omega)
    replace bt := below_then bt hb (by omega)
    clear hb
    go_wp2_with fail
    refine (toIntS b len cap zs w5 (by omega) (h.below bt)).mono ?_
    rintro e w6 ⟨x1, rfl, oy, hb⟩
    have z6 := hb.size
    replace ov := ov.below hb (by omega)
    replace ox := ox.below hb (by omega)
    replace bt := below_then bt hb (by omega)
    clear hb
    go_wp2_with fail
    refine (hi x0 x1 d zs w6 (by rw [HLa.out]; omega) (by rw [HZ.out]; omega) (by rw [HLa.out]; exact ox.rd) (by rw [HZ.out]; exact oy.rd)).mono ?_
    rintro e w7 ⟨g0, rfl, og, hb⟩
    have z7 := hb.size
    replace ov := ov.below hb (by omega)
    replace ox := ox.below hb (by omega)
    replace oy := oy.below hb (by omega)
    replace bt := below_then bt hb (by omega)
    clear hb
    rw [HP.out, HN.out] at og
    go_wp2_with fail
    refine (eqValS g0 v0 n P w7 HN.out og.at ov.at).mono ?_
    rintro e w8 ⟨rfl, hb⟩
    have z8 := hb.size
    replace ov := ov.below hb (by omega)
    replace ox := ox.below hb (by omega)
    replace oy := oy.below hb (by omega)
    replace og := og.below hb (by omega)
    replace bt := below_then bt hb (by omega)
    clear hb
    go_wp2_with fail
    refine (toValS a lena capa d w8 (by omega) HLa.out (haA.below bt)).mono ?_
    rintro e w9 ⟨t2, rfl, o2, hb⟩
    have z9 := hb.size
    replace ov := ov.below hb (by omega)
    replace ox := ox.below hb (by omega)
    replace oy := oy.below hb (by omega)
    replace og := og.below hb (by omega)
    replace bt := below_then bt hb (by omega)
    clear hb
    go_wp2_with fail
    refine (eqValS x0 t2 lena d w9 HLa.out ox.at o2.at).mono ?_
    rintro e w10 ⟨rfl, hb⟩
    have z10 := hb.size
    replace ov := ov.below hb (by omega)
    replace ox := ox.below hb (by omega)
    replace oy := oy.below hb (by omega)
    replace og := og.below hb (by omega)
    replace o2 := o2.below hb (by omega)
    replace bt := below_then bt hb (by omega)
    clear hb
    clear o2
    go_wp2_with fail
    refine (toIntS b len cap zs w10 (by omega) (h.below bt)).mono ?_
    rintro e w11 ⟨t3, rfl, o3, hb⟩
    have z11 := hb.size
    replace ov := ov.below hb (by omega)
    replace ox := ox.below hb (by omega)
    replace oy := oy.below hb (by omega)
    replace og := og.below hb (by omega)
    replace bt := below_then bt hb (by omega)
    clear hb
    go_wp2_with fail
    refine (eqIntS x1 t3 len zs w11 HZ.out oy.at o3.at).mono ?_
    rintro e w12 ⟨rfl, hb⟩
    have z12 := hb.size
    replace ov := ov.below hb (by omega)
    replace ox := ox.below hb (by omega)
    replace oy := oy.below hb (by omega)
    replace og := og.below hb (by omega)
    replace o3 := o3.below hb (by omega)
    replace bt := below_then bt hb (by omega)
    clear hb
    clear o3
    go_wp2_with fail
    refine (markValS x0 lena _ _ d 1 w12 (by omega) (by omega) (by omega) HLa.out ox).mono ?_
    rintro e w13 ⟨rfl, ⟨l2, hl2, hnew⟩, hg⟩
    have z13 := hg.size
    replace ov := ov.apart ox (by omega) hg
    replace oy := oy.apart ox (by omega) hg
    replace og := og.apart ox (by omega) hg
    have bg := below_grown_own ox hg (by omega) (by omega)
    replace bt := bt.trans (below_grown_own ox hg (by omega) (by omega))
    clear hg bg ox
    clear hnew hl2
    have hs1 : 1 + 3 * lena ≤ 3145729 ∧ 0 < 1 + 3 * lena := by omega
    generalize 1 + 3 * lena = sm at hs1 ⊢
    go_wp2_with fail
    refine (markIntS x1 len _ _ _ (sm : Int) w13 (by omega) (by omega) (by omega) oy).mono ?_
    rintro e w14 ⟨rfl, hnew, hg⟩
    have z14 := hg.size
    replace ov := ov.apart oy (by omega) hg
    replace og := og.apart oy (by omega) hg
    have bg := below_grown_own oy hg (by omega) (by omega)
    replace bt := bt.trans (below_grown_own oy hg (by omega) (by omega))
    clear hg bg oy
    clear hnew
    go_wp2_with fail
    refine (eqValS g0 v0 n P w14 HN.out og.at ov.at).mono ?_
    rintro e w15 ⟨rfl, hb⟩
    have z15 := hb.size
    replace ov := ov.below hb (by omega)
    replace og := og.below hb (by omega)
    replace bt := below_then bt hb (by omega)
    clear hb
    go_wp2_with fail
    refine (markValM g0 n _ _ P 1 w15 (by omega) (by omega) (by omega) HN.out og).mono ?_
    rintro e w16 ⟨rfl, hnew, hg⟩
    have z16 := hg.size
    replace ov := ov.apart og (by omega) hg
    have bg := below_grown_own og hg (by omega) (by omega)
    replace bt := bt.trans (below_grown_own og hg (by omega) (by omega))
    clear hg bg og
    have og := hnew
    clear hnew
    go_wp2_with fail
    refine (heldValS g0 n 1 w16 (by omega) (by omega) (by omega) og.rd).mono ?_
    rintro e w17 ⟨rfl, hb⟩
    have z17 := hb.size
    replace ov := ov.below hb (by omega)
    replace og := og.below hb (by omega)
    replace bt := below_then bt hb (by omega)
    clear hb
    go_wp2_with fail
    refine (toValS a lena capa d w17 (by omega) HLa.out (haA.below bt)).mono ?_
    rintro e w18 ⟨u1, rfl, q1, hb⟩
    have z18 := hb.size
    replace ov := ov.below hb (by omega)
    replace og := og.below hb (by omega)
    replace bt := below_then bt hb (by omega)
    clear hb
    go_wp2_with fail
    refine (toIntS b len cap zs w18 (by omega) (h.below bt)).mono ?_
    rintro e w19 ⟨u2, rfl, q2, hb⟩
    have z19 := hb.size
    replace ov := ov.below hb (by omega)
    replace og := og.below hb (by omega)
    replace q1 := q1.below hb (by omega)
    replace bt := below_then bt hb (by omega)
    clear hb
    go_wp2_with fail
    refine (hi u1 u2 d zs w19 (by rw [HLa.out]; omega) (by rw [HZ.out]; omega) (by rw [HLa.out]; exact q1.rd) (by rw [HZ.out]; exact q2.rd)).mono ?_
    rintro e w20 ⟨h0, rfl, oh, hb⟩
    have z20 := hb.size
    replace ov := ov.below hb (by omega)
    replace og := og.below hb (by omega)
    replace q1 := q1.below hb (by omega)
    replace q2 := q2.below hb (by omega)
    replace bt := below_then bt hb (by omega)
    clear hb
    rw [HP.out, HN.out] at oh
    clear q1 q2
    go_wp2_with fail
    refine (eqValS h0 v0 n P w20 HN.out oh.at ov.at).mono ?_
    rintro e w21 ⟨rfl, hb⟩
    have z21 := hb.size
    replace ov := ov.below hb (by omega)
    replace og := og.below hb (by omega)
    replace oh := oh.below hb (by omega)
    replace bt := below_then bt hb (by omega)
    clear hb
    go_wp2_with fail
    refine (heldValS g0 n 1 w21 (by omega) (by omega) (by omega) og.rd).mono ?_
    rintro e w22 ⟨rfl, hb⟩
    have z22 := hb.size
    replace ov := ov.below hb (by omega)
    replace og := og.below hb (by omega)
    replace oh := oh.below hb (by omega)
    replace bt := below_then bt hb (by omega)
    clear hb
    go_wp2
    go_ret
    exact ⟨rfl, bt⟩

set_option maxHeartbeats 2000000 in
theorem lawEncDict (hi : CEncDict) (b : Option Addr) (lenb capb : Nat) (l : List V) (w : World) (hlb : lenb ≤ maxLen) (hsb : ∀ v ∈ l, v.s.size ≤ maxLen) (hzb : l.length = lenb) (hbB : ArgS 3 w b lenb (vals l)) :
    Calls Try.prog 8 #[.slice b lenb capb] w fun e w' => e = .returned (.bool true) ∧ Below w.heap.size w w' := by
  have HL := Lib.hid hzb
  have HSS := Lib.hid hsb
  have hPl := encD_len' l
  rw [hzb] at hPl
  generalize hP : encD l = P at hPl
  have HP := Lib.hid hP
  clear hP
  generalize hn : P.length = n at hPl
  have HN := Lib.hid hn
  clear hn hsb hzb
  go_enter Try.func8, Try.ntmps8
  have bt := Below.refl w.heap.size w
  go_wp2_with fail
  refine (szValS b lenb capb l 1048576 w (by omega) (by omega) hlb HSS.out HL.out (hbB.below bt)).mono ?_
  rintro e w1 ⟨rb, rfl, hrb, hb⟩
  have z1 := hb.size
  replace bt := below_then bt hb (by omega)
  clear hb
  by_cases hnb : rb < 0
  · go_wp2
    go_ret
    exact ⟨rfl, bt⟩
  have hbb : lenb ≤ 1048576 := by omega
  clear hrb
  go_wp2_with fail
  refine (toValS b lenb capb l w1 (by omega) HL.out (hbB.below bt)).mono ?_
  rintro e w2 ⟨t1, rfl, o1, hb⟩
  have z2 := hb.size
  replace bt := below_then bt hb (by omega)
  clear hb
  go_wp2_with fail
  refine (sEncDict t1 l w2 (by rw [HL.out]; omega) HSS.out (by rw [HL.out]; exact o1.rd)).mono ?_
  rintro e w3 ⟨v0, rfl, ov, hb⟩
  have z3 := hb.size
  replace o1 := o1.below hb (by omega)
  replace bt := below_then bt hb (by omega)
  clear hb
  rw [HP.out, HN.out] at ov
  clear o1
  go_wp2_with fail
  refine (toValS b lenb capb l w3 (by omega) HL.out (hbB.below bt)).mono ?_
  rintro e w4 ⟨x0, rfl, ox, hb⟩
  have z4 := hb.size
  replace ov := ov.below hb (by omega)
  replace bt := below_then bt hb (by omega)
  clear hb
  go_wp2_with fail
  refine (hi x0 l w4 (by rw [HL.out]; omega) HSS.out (by rw [HL.out]; exact ox.rd)).mono ?_
  rintro e w5 ⟨g0, rfl, og, hb⟩
  have z5 := hb.size
  replace ov := ov.below hb (by omega)
  replace ox := ox.below hb (by omega)
  replace bt := below_then bt hb (by omega)
  clear hb
  rw [HP.out, HN.out] at og
  go_wp2_with fail
  refine (eqByteS g0 v0 n P w5 HN.out og.at ov.at).mono ?_
  rintro e w6 ⟨rfl, hb⟩
  have z6 := hb.size
  replace ov := ov.below hb (by omega)
  replace ox := ox.below hb (by omega)
  replace og := og.below hb (by omega)
  replace bt := below_then bt hb (by omega)
  clear hb
  go_wp2_with fail
  refine (toValS b lenb capb l w6 (by omega) HL.out (hbB.below bt)).mono ?_
  rintro e w7 ⟨t2, rfl, o2, hb⟩
  have z7 := hb.size
  replace ov := ov.below hb (by omega)
  replace ox := ox.below hb (by omega)
  replace og := og.below hb (by omega)
  replace bt := below_then bt hb (by omega)
  clear hb
  go_wp2_with fail
  refine (eqValS x0 t2 lenb l w7 HL.out ox.at o2.at).mono ?_
  rintro e w8 ⟨rfl, hb⟩
  have z8 := hb.size
  replace ov := ov.below hb (by omega)
  replace ox := ox.below hb (by omega)
  replace og := og.below hb (by omega)
  replace o2 := o2.below hb (by omega)
  replace bt := below_then bt hb (by omega)
  clear hb
  clear o2
  go_wp2_with fail
  refine (markValS x0 lenb _ _ l 1 w8 (by omega) (by omega) (by omega) HL.out ox).mono ?_
  rintro e w9 ⟨rfl, ⟨l2, hl2, hnew⟩, hg⟩
  have z9 := hg.size
  replace ov := ov.apart ox (by omega) hg
  replace og := og.apart ox (by omega) hg
  have bg := below_grown_own ox hg (by omega) (by omega)
  replace bt := bt.trans (below_grown_own ox hg (by omega) (by omega))
  clear hg bg ox
  clear hnew hl2
  go_wp2_with fail
  refine (eqByteS g0 v0 n P w9 HN.out og.at ov.at).mono ?_
  rintro e w10 ⟨rfl, hb⟩
  have z10 := hb.size
  replace ov := ov.below hb (by omega)
  replace og := og.below hb (by omega)
  replace bt := below_then bt hb (by omega)
  clear hb
  go_wp2_with fail
  refine (markByteS g0 n _ _ _ _ w10 (by omega) (by omega) (by omega) og).mono ?_
  rintro e w11 ⟨rfl, hnew, hg⟩
  have z11 := hg.size
  replace ov := ov.apart og (by omega) hg
  have bg := below_grown_own og hg (by omega) (by omega)
  replace bt := bt.trans (below_grown_own og hg (by omega) (by omega))
  clear hg bg og
  have og := hnew
  clear hnew
  go_wp2_with fail
  refine (heldByteS g0 n 1 w11 (by omega) (by omega) (by omega) og.at).mono ?_
  rintro e w' ⟨rfl, rfl⟩
  go_wp2_with fail
  refine (toValS b lenb capb l w11 (by omega) HL.out (hbB.below bt)).mono ?_
  rintro e w12 ⟨t3, rfl, o3, hb⟩
  have z12 := hb.size
  replace ov := ov.below hb (by omega)
  replace og := og.below hb (by omega)
  replace bt := below_then bt hb (by omega)
  clear hb
  go_wp2_with fail
  refine (hi t3 l w12 (by rw [HL.out]; omega) HSS.out (by rw [HL.out]; exact o3.rd)).mono ?_
  rintro e w13 ⟨h0, rfl, oh, hb⟩
  have z13 := hb.size
  replace ov := ov.below hb (by omega)
  replace og := og.below hb (by omega)
  replace o3 := o3.below hb (by omega)
  replace bt := below_then bt hb (by omega)
  clear hb
  rw [HP.out, HN.out] at oh
  clear o3
  go_wp2_with fail
  refine (eqByteS h0 v0 n P w13 HN.out oh.at ov.at).mono ?_
  rintro e w14 ⟨rfl, hb⟩
  have z14 := hb.size
  replace ov := ov.below hb (by omega)
  replace og := og.below hb (by omega)
  replace oh := oh.below hb (by omega)
  replace bt := below_then bt hb (by omega)
  clear hb
  go_wp2_with fail
  refine (heldByteS g0 n 1 w14 (by omega) (by omega) (by omega) og.at).mono ?_
  rintro e w' ⟨rfl, rfl⟩
  go_wp2
  go_ret
  exact ⟨rfl, bt⟩

set_option maxHeartbeats 2000000 in
theorem lawDecDict (hi : CDecDict) (a : Option Addr) (len cap : Nat) (zs : List Int) (ty k : Int) (w : World) (h : Arg .u8 w a len zs) (hby : Num.Bytes zs) :
    Calls Try.prog 9 #[.slice a len cap, .int .i64 ty, .int .i64 k] w fun e w' => e = .returned (.bool true) ∧ Below w.heap.size w w' := by
  by_cases hbig : 1048576 < len
  · go_enter Try.func9, Try.ntmps9
    go_wp2
    go_ret
    exact ⟨rfl, Below.refl _ _⟩
  · have HZ : Hid (zs.length = len) := h.1
    have hPl := decD_len zs ty k
    have hqq : ((decD zs ty k).2 != (decD zs ty k).2) = false := by simp
    generalize hP : (decD zs ty k).1 = P at hPl
    have HP := Lib.hid hP
    clear hP
    generalize hn : P.length = n at hPl
    have HN := Lib.hid hn
    clear hn
    go_enter Try.func9, Try.ntmps9
    have bt := Below.refl w.heap.size w
    go_wp2_with fail
    refine (toByteS a len cap zs w (by omega) (h.below bt)).mono ?_
    rintro e w1 ⟨t1, rfl, o1, hb⟩
    have z1 := hb.size
    replace bt := below_then bt hb (by omega)
    clear hb
    go_wp2_with fail
    refine (sDecDict t1 len zs ty k w1 (by omega) HZ.out hby o1.at).mono ?_
    rintro e w2 ⟨v0, rfl, ov, hb⟩
    have z2 := hb.size
    replace o1 := o1.below hb (by omega)
    replace bt := below_then bt hb (by omega)
    clear hb
    rw [HP.out, HN.out] at ov
    clear o1
    go_wp2_with fail
    refine (toByteS a len cap zs w2 (by omega) (h.below bt)).mono ?_
    rintro e w3 ⟨x0, rfl, ox, hb⟩
    have z3 := hb.size
    replace ov := ov.below hb (by omega)
    replace bt := below_then bt hb (by omega)
    clear hb
    go_wp2_with fail
    refine (hi x0 len zs ty k w3 (by omega) HZ.out hby ox.at).mono ?_
    rintro e w4 ⟨g0, rfl, og, hb⟩
    have z4 := hb.size
    replace ov := ov.below hb (by omega)
    replace ox := ox.below hb (by omega)
    replace bt := below_then bt hb (by omega)
    clear hb
    rw [HP.out, HN.out] at og
    go_wp2_with fail
    refine (eqValS g0 v0 n P w4 HN.out og.at ov.at).mono ?_
    rintro e w5 ⟨rfl, hb⟩
    have z5 := hb.size
    replace ov := ov.below hb (by omega)
    replace ox := ox.below hb (by omega)
    replace og := og.below hb (by omega)
    replace bt := below_then bt hb (by omega)
    clear hb
    go_wp2_with fail
    refine (toByteS a len cap zs w5 (by omega) (h.below bt)).mono ?_
    rintro e w6 ⟨t2, rfl, o2, hb⟩
    have z6 := hb.size
    replace ov := ov.below hb (by omega)
    replace ox := ox.below hb (by omega)
    replace og := og.below hb (by omega)
    replace bt := below_then bt hb (by omega)
    clear hb
    go_wp2_with fail
    refine (eqByteS x0 t2 len zs w6 HZ.out ox.at o2.at).mono ?_
    rintro e w7 ⟨rfl, hb⟩
    have z7 := hb.size
    replace ov := ov.below hb (by omega)
    replace ox := ox.below hb (by omega)
    replace og := og.below hb (by omega)
    replace o2 := o2.below hb (by omega)
    replace bt := below_then bt hb (by omega)
    clear hb
    clear o2
    go_wp2_with fail
    refine (markByteS x0 len _ _ _ _ w7 (by omega) (by omega) (by omega) ox).mono ?_
    rintro e w8 ⟨rfl, hnew, hg⟩
    have z8 := hg.size
    replace ov := ov.apart ox (by omega) hg
    replace og := og.apart ox (by omega) hg
    have bg := below_grown_own ox hg (by omega) (by omega)
    replace bt := bt.trans (below_grown_own ox hg (by omega) (by omega))
    clear hg bg ox
    clear hnew
    go_wp2_with fail
    refine (eqValS g0 v0 n P w8 HN.out og.at ov.at).mono ?_
    rintro e w9 ⟨rfl, hb⟩
    have z9 := hb.size
    replace ov := ov.below hb (by omega)
    replace og := og.below hb (by omega)
    replace bt := below_then bt hb (by omega)
    clear hb
    go_wp2_with fail
    refine (markValM g0 n _ _ P 1 w9 (by omega) (by omega) (by omega) HN.out og).mono ?_
    rintro e w10 ⟨rfl, hnew, hg⟩
    have z10 := hg.size
    replace ov := ov.apart og (by omega) hg
    have bg := below_grown_own og hg (by omega) (by omega)
    replace bt := bt.trans (below_grown_own og hg (by omega) (by omega))
    clear hg bg og
    have og := hnew
    clear hnew
    go_wp2_with fail
    refine (heldValS g0 n 1 w10 (by omega) (by omega) (by omega) og.rd).mono ?_
    rintro e w11 ⟨rfl, hb⟩
    have z11 := hb.size
    replace ov := ov.below hb (by omega)
    replace og := og.below hb (by omega)
    replace bt := below_then bt hb (by omega)
    clear hb
    go_wp2_with fail
    refine (toByteS a len cap zs w11 (by omega) (h.below bt)).mono ?_
    rintro e w12 ⟨t3, rfl, o3, hb⟩
    have z12 := hb.size
    replace ov := ov.below hb (by omega)
    replace og := og.below hb (by omega)
    replace bt := below_then bt hb (by omega)
    clear hb
    go_wp2_with fail
    refine (hi t3 len zs ty k w12 (by omega) HZ.out hby o3.at).mono ?_
    rintro e w13 ⟨h0, rfl, oh, hb⟩
    have z13 := hb.size
    replace ov := ov.below hb (by omega)
    replace og := og.below hb (by omega)
    replace o3 := o3.below hb (by omega)
    replace bt := below_then bt hb (by omega)
    clear hb
    rw [HP.out, HN.out] at oh
    clear o3
    go_wp2_with fail
    refine (eqValS h0 v0 n P w13 HN.out oh.at ov.at).mono ?_
    rintro e w14 ⟨rfl, hb⟩
    have z14 := hb.size
    replace ov := ov.below hb (by omega)
    replace og := og.below hb (by omega)
    replace oh := oh.below hb (by omega)
    replace bt := below_then bt hb (by omega)
    clear hb
    go_wp2_with fail
    refine (heldValS g0 n 1 w14 (by omega) (by omega) (by omega) og.rd).mono ?_
    rintro e w15 ⟨rfl, hb⟩
    have z15 := hb.size
    replace ov := ov.below hb (by omega)
    replace og := og.below hb (by omega)
    replace oh := oh.below hb (by omega)
    replace bt := below_then bt hb (by omega)
    clear hb
    go_wp2
    go_ret
    exact ⟨rfl, bt⟩

end Go.Proofs.Ytoidpibdjijamaa
