/- The exact laws of chapter 4 that do no text, walked; the program's own contracts come as hypotheses. -/
import Derived.Test.YtdclbpbjdaefhaaS4b
import Derived.Test.YtdclbpbjdaefhaaR4M
import Derived.Test.YtdclbpbjdaefhaaInts
namespace Go.Proofs.Ytdclbpbjdaefhaa
open Go.RowKit

def CColsOk : Prop := ∀ (u : Value) (zs : List Int) (w : World), zs.length ≤ 1048576 → Rd 1 w u zs.length (ints .i64 zs) → Calls Try.prog 11 #[u] w fun e w' => e = .returned (.bool (colsB zs)) ∧ Below w.heap.size w w'
def CFitsCols : Prop := ∀ (u v : Value) (zs : List Int) (l : List V) (w : World), zs.length ≤ 1048576 → l.length ≤ 1048576 → (∀ v ∈ l, v.s.size ≤ maxLen) → Rd 1 w u zs.length (ints .i64 zs) → Rd 3 w v l.length (vals l) → Calls Try.prog 16 #[u, v] w fun e w' => e = .returned (.bool (fitsB zs l)) ∧ Below w.heap.size w w'
def CRowOk : Prop := ∀ (u v : Value) (zs : List Int) (r : R) (w : World), zs.length ≤ 1048576 → r.l.length ≤ 1048576 → (∀ v ∈ r.l, v.s.size ≤ maxLen) → Rd 1 w u zs.length (ints .i64 zs) → r.rd w v → Calls Try.prog 21 #[u, r.agg v] w fun e w' => e = .returned (.bool (rowB zs r)) ∧ Below w.heap.size w w'
def CSameRow : Prop := ∀ (r q : R) (u v : Value) (w : World), r.l.length ≤ 1048576 → q.l.length ≤ 1048576 → r.rd w u → q.rd w v → Calls Try.prog 24 #[r.agg u, q.agg v] w fun e w' => e = .returned (.bool (r.eqB q)) ∧ Below w.heap.size w w'
def CSameRows : Prop := ∀ (u v : Value) (ps qs : List P) (ls rs : List R) (w : World), ps.length ≤ 1048576 → qs.length ≤ 1048576 → (∀ p ∈ ps, p.1.l.length ≤ 1048576) → (∀ p ∈ qs, p.1.l.length ≤ 1048576) → RdRs w u ps → RdRs w v qs → ps.map (·.1) = ls → qs.map (·.1) = rs → Calls Try.prog 28 #[u, v] w fun e w' => e = .returned (.bool (sameR ls rs)) ∧ Below w.heap.size w w'
def CColumn : Prop := ∀ (u : Value) (ps : List P) (ls : List R) (k : Int) (w : World), ps.length ≤ 1048576 → (∀ p ∈ ps, p.1.l.length ≤ 1048576) → RdRs w u ps → ps.map (·.1) = ls → Calls Try.prog 31 #[u, .int .i64 k] w fun e w' => ∃ v', e = .returned v' ∧ Own 58 3 w.heap.size w'.heap.size w' v' (colR ls k).length (vals (colR ls k)) ∧ Below w.heap.size w w'

theorem sSameRows' (u v : Value) (ps qs : List P) (ls rs : List R) (w : World) (hu : RdRs w u ps) (hv : RdRs w v qs) (h1 : ps.map (·.1) = ls) (h2 : qs.map (·.1) = rs) :
    Calls Try.prog 26 #[u, v] w fun e w' => e = .returned (.bool (sameR ls rs)) ∧ Below w.heap.size w w' := by
  subst h1 h2
  exact sSameRows u v ps qs w hu hv
theorem sColumn' (u : Value) (ps : List P) (ls : List R) (k : Int) (w : World) (hn : ps.length ≤ 1048576) (h : RdRs w u ps) (h1 : ps.map (·.1) = ls) :
    Calls Try.prog 30 #[u, .int .i64 k] w fun e w' => ∃ v', e = .returned v' ∧ Own 58 3 w.heap.size w'.heap.size w' v' (colR ls k).length (vals (colR ls k)) ∧ Below w.heap.size w w' := by
  subst h1
  exact sColumn u ps k w hn h
theorem bulkR_mem {ps : List P} {p : P} (h : p ∈ ps) : p.1.l.length ≤ bulkR ps := by
  induction ps with
  | nil => cases h
  | cons q ps ih =>
    have e : bulkR (q :: ps) = q.1.l.length + bulk q.1.l + bulkR ps := by simp [bulkR]
    rcases List.mem_cons.1 h with rfl | h
    · omega
    · have := ih h
      omega
theorem rlen_le (ps : List P) : rlen ps ≤ 3 * (ps.length + bulkR ps) := by
  induction ps with
  | nil => simp [rlen]
  | cons q ps ih =>
    have e : bulkR (q :: ps) = q.1.l.length + bulk q.1.l + bulkR ps := by simp [bulkR]
    simp only [rlen, List.length_cons]
    omega
theorem rlen_fst {ps qs : List P} (h : qs.map (·.1) = ps.map (·.1)) : rlen qs = rlen ps := by
  induction qs generalizing ps with
  | nil => cases ps with
    | nil => rfl
    | cons => cases h
  | cons q qs ih => cases ps with
    | nil => cases h
    | cons p ps =>
      simp only [List.map_cons, List.cons.injEq] at h
      rw [rlen, rlen, h.1, ih h.2]
theorem len_fst {ps qs : List P} (h : qs.map (·.1) = ps.map (·.1)) : qs.length = ps.length := by simpa using congrArg List.length h
theorem small_fst {ps qs : List P} {N : Nat} (h : qs.map (·.1) = ps.map (·.1)) (hp : ∀ p ∈ ps, p.1.l.length ≤ N) : ∀ q ∈ qs, q.1.l.length ≤ N := by
  intro q hq
  have : q.1 ∈ ps.map (·.1) := by
    rw [← h]
    exact List.mem_map.2 ⟨q, hq, rfl⟩
  obtain ⟨p, hp', e⟩ := List.mem_map.1 this
  rw [← e]
  exact hp p hp'

set_option maxHeartbeats 1000000 in
theorem lawColsOk (hi : CColsOk) (a : Option Addr) (len cap : Nat) (zs : List Int) (w : World) (hl : len ≤ maxLen) (ha : Arg .i64 w a len zs) :
    Calls Try.prog 3 #[.slice a len cap] w fun e w' => e = .returned (.bool true) ∧ Below w.heap.size w w' := by
  have HZ := Lib.hid ha.1
  have hqq : (colsB zs != colsB zs) = false := by simp
  unfold maxLen at hl
  by_cases hbig : 1048576 < len
  · go_enter Try.func3, Try.ntmps3
    go_wp2
    go_ret
    exact ⟨rfl, Below.refl _ _⟩
  · go_enter Try.func3, Try.ntmps3
    have bt := Below.refl w.heap.size w
    go_wp2_with fail
    refine (toIntS a len cap zs w (by omega) (ha.below bt)).mono ?_
    rintro e w1 ⟨t1, rfl, o1, hb⟩
    have z1 := hb.size
    replace bt := below_then bt hb (by omega)
    clear hb
    go_wp2_with fail
    refine (sColsOk t1 zs w1 (by rw [HZ.out]; exact o1.rd)).mono ?_
    rintro e w' ⟨rfl, rfl⟩
    clear o1
    go_wp2_with fail
    refine (toIntS a len cap zs w1 (by omega) (ha.below bt)).mono ?_
    rintro e w2 ⟨x0, rfl, ox, hb⟩
    have z2 := hb.size
    replace bt := below_then bt hb (by omega)
    clear hb
    go_wp2_with fail
    refine (hi x0 zs w2 (by rw [HZ.out]; omega) (by rw [HZ.out]; exact ox.rd)).mono ?_
    rintro e w3 ⟨rfl, hb⟩
    have z3 := hb.size
    replace ox := ox.below hb (by omega)
    replace bt := below_then bt hb (by omega)
    clear hb
    go_wp2_with fail
    refine (toIntS a len cap zs w3 (by omega) (ha.below bt)).mono ?_
    rintro e w4 ⟨t2, rfl, o2, hb⟩
    have z4 := hb.size
    replace ox := ox.below hb (by omega)
    replace bt := below_then bt hb (by omega)
    clear hb
    go_wp2_with fail
    refine (eqIntS x0 t2 len zs w4 HZ.out ox.at o2.at).mono ?_
    rintro e w5 ⟨rfl, hb⟩
    have z5 := hb.size
    replace ox := ox.below hb (by omega)
    replace o2 := o2.below hb (by omega)
    replace bt := below_then bt hb (by omega)
    clear hb
    go_wp2
    go_ret
    exact ⟨rfl, bt⟩

set_option maxHeartbeats 1000000 in
theorem lawFitsCols (hi : CFitsCols) (a : Option Addr) (len cap : Nat) (zs : List Int) (b : Option Addr) (lenb capb : Nat) (l : List V) (w : World) (hl : len ≤ maxLen) (ha : Arg .i64 w a len zs)
    (hlb : lenb ≤ maxLen) (hsb : ∀ v ∈ l, v.s.size ≤ maxLen) (hzb : l.length = lenb) (hbB : ArgS 3 w b lenb (vals l)) :
    Calls Try.prog 4 #[.slice a len cap, .slice b lenb capb] w fun e w' => e = .returned (.bool true) ∧ Below w.heap.size w w' := by
  have HZ := Lib.hid ha.1
  have HL := Lib.hid hzb
  have HSS := Lib.hid hsb
  have hqq : (fitsB zs l != fitsB zs l) = false := by simp
  unfold maxLen at hl
  clear hsb hzb
  by_cases hbig : 1048576 < len
  · go_enter Try.func4, Try.ntmps4
    go_wp2
    go_ret
    exact ⟨rfl, Below.refl _ _⟩
  · go_enter Try.func4, Try.ntmps4
    have bt := Below.refl w.heap.size w
    go_wp2_with fail
    refine (szValS b lenb capb l 1048576 w (by omega) (by omega) hlb HSS.out HL.out (hbB.below bt)).mono ?_
    rintro e w1 ⟨rb, rfl, hrb, hb⟩
    have z1 := hb.size
    replace bt := below_then bt hb (by omega)
    clear hb
    by_cases hnb : rb < 0
    · go_wp2
      go_ret
      exact ⟨rfl, bt⟩
    have hbb : lenb ≤ 1048576 := by omega
    clear hrb
    go_wp2_with fail
    refine (toIntS a len cap zs w1 (by omega) (ha.below bt)).mono ?_
    rintro e w2 ⟨t1, rfl, o1, hb⟩
    have z2 := hb.size
    replace bt := below_then bt hb (by omega)
    clear hb
    go_wp2_with fail
    refine (toValS b lenb capb l w2 (by omega) HL.out (hbB.below bt)).mono ?_
    rintro e w3 ⟨t2, rfl, o2, hb⟩
    have z3 := hb.size
    replace o1 := o1.below hb (by omega)
    replace bt := below_then bt hb (by omega)
    clear hb
    go_wp2_with fail
    refine (sFitsCols t1 t2 zs l w3 HSS.out (by rw [HZ.out]; exact o1.rd) (by rw [HL.out]; exact o2.rd)).mono ?_
    rintro e w4 ⟨rfl, hb⟩
    have z4 := hb.size
    replace o1 := o1.below hb (by omega)
    replace o2 := o2.below hb (by omega)
    replace bt := below_then bt hb (by omega)
    clear hb
    clear o1 o2
    go_wp2_with fail
    refine (toIntS a len cap zs w4 (by omega) (ha.below bt)).mono ?_
    rintro e w5 ⟨x0, rfl, ox, hb⟩
    have z5 := hb.size
    replace bt := below_then bt hb (by omega)
    clear hb
    go_wp2_with fail
    refine (toValS b lenb capb l w5 (by omega) HL.out (hbB.below bt)).mono ?_
    rintro e w6 ⟨x1, rfl, oy, hb⟩
    have z6 := hb.size
    replace ox := ox.below hb (by omega)
    replace bt := below_then bt hb (by omega)
    clear hb
    go_wp2_with fail
    refine (hi x0 x1 zs l w6 (by rw [HZ.out]; omega) (by rw [HL.out]; omega) HSS.out (by rw [HZ.out]; exact ox.rd) (by rw [HL.out]; exact oy.rd)).mono ?_
    rintro e w7 ⟨rfl, hb⟩
    have z7 := hb.size
    replace ox := ox.below hb (by omega)
    replace oy := oy.below hb (by omega)
    replace bt := below_then bt hb (by omega)
    clear hb
    go_wp2_with fail
    refine (toIntS a len cap zs w7 (by omega) (ha.below bt)).mono ?_
    rintro e w8 ⟨t3, rfl, o3, hb⟩
    have z8 := hb.size
    replace ox := ox.below hb (by omega)
    replace oy := oy.below hb (by omega)
    replace bt := below_then bt hb (by omega)
    clear hb
    go_wp2_with fail
    refine (eqIntS x0 t3 len zs w8 HZ.out ox.at o3.at).mono ?_
    rintro e w9 ⟨rfl, hb⟩
    have z9 := hb.size
    replace ox := ox.below hb (by omega)
    replace oy := oy.below hb (by omega)
    replace o3 := o3.below hb (by omega)
    replace bt := below_then bt hb (by omega)
    clear hb
    clear o3
    go_wp2_with fail
    refine (toValS b lenb capb l w9 (by omega) HL.out (hbB.below bt)).mono ?_
    rintro e w10 ⟨t4, rfl, o4, hb⟩
    have z10 := hb.size
    replace ox := ox.below hb (by omega)
    replace oy := oy.below hb (by omega)
    replace bt := below_then bt hb (by omega)
    clear hb
    go_wp2_with fail
    refine (eqValS x1 t4 lenb l w10 HL.out oy.at o4.at).mono ?_
    rintro e w11 ⟨rfl, hb⟩
    have z11 := hb.size
    replace ox := ox.below hb (by omega)
    replace oy := oy.below hb (by omega)
    replace o4 := o4.below hb (by omega)
    replace bt := below_then bt hb (by omega)
    clear hb
    go_wp2
    go_ret
    exact ⟨rfl, bt⟩

set_option maxHeartbeats 1000000 in
theorem lawSameRows (hi : CSameRows) (a : Option Addr) (lena capa : Nat) (pa : List P) (b : Option Addr) (lenb capb : Nat) (pb : List P) (w : World) (hsa : ∀ p ∈ pa, ∀ v ∈ p.1.l, v.s.size ≤ maxLen) (ha : RdRs w (.slice a lena capa) pa)
    (hsb : ∀ p ∈ pb, ∀ v ∈ p.1.l, v.s.size ≤ maxLen) (hbB : RdRs w (.slice b lenb capb) pb) :
    Calls Try.prog 7 #[.slice a lena capa, .slice b lenb capb] w fun e w' => e = .returned (.bool true) ∧ Below w.heap.size w w' := by
  have HSa := Lib.hid hsa
  have HSb := Lib.hid hsb
  have hqq : (sameR (pa.map (·.1)) (pb.map (·.1)) != sameR (pa.map (·.1)) (pb.map (·.1))) = false := by simp
  clear hsa hsb
  go_enter Try.func7, Try.ntmps7
  have bt := Below.refl w.heap.size w
  go_wp2_with fail
  refine (szRowS (.slice a lena capa) pa 1048576 w (by omega) (by omega) HSa.out (ha.below bt)).mono ?_
  rintro e w1 ⟨ra, rfl, hra, hb⟩
  have z1 := hb.size
  replace bt := below_then bt hb (by omega)
  clear hb
  by_cases hna : ra < 0
  · go_wp2
    go_ret
    exact ⟨rfl, bt⟩
  have hka : (pa.length : Int) + bulkR pa ≤ 1048576 := by omega
  have hma : pa.length ≤ 1048576 := by omega
  have HIa : Hid (∀ p ∈ pa, p.1.l.length ≤ 1048576) := fun p hp => by have := bulkR_mem hp; omega
  go_wp2_with fail
  refine (szRowS (.slice b lenb capb) pb ra w1 (by omega) (by omega) HSb.out (hbB.below bt)).mono ?_
  rintro e w2 ⟨rb, rfl, hrb, hb⟩
  have z2 := hb.size
  replace bt := below_then bt hb (by omega)
  clear hb
  by_cases hnb : rb < 0
  · go_wp2
    go_ret
    exact ⟨rfl, bt⟩
  have hkb : (pb.length : Int) + bulkR pb ≤ 1048576 := by omega
  have hmb : pb.length ≤ 1048576 := by omega
  have HIb : Hid (∀ p ∈ pb, p.1.l.length ≤ 1048576) := fun p hp => by have := bulkR_mem hp; omega
  clear hra hrb HSa HSb
  go_wp2_with fail
  refine (toRowS (.slice a lena capa) pa w2 hma HIa.out (ha.below bt)).mono ?_
  rintro e w3 ⟨t1, qe1, rfl, e1, o1, hb⟩
  have z3 := hb.size
  replace bt := below_then bt hb (by omega)
  clear hb
  have He1 := Lib.hid e1
  clear e1
  go_wp2_with fail
  refine (toRowS (.slice b lenb capb) pb w3 hmb HIb.out (hbB.below bt)).mono ?_
  rintro e w4 ⟨t2, qe2, rfl, e2, o2, hb⟩
  have z4 := hb.size
  replace o1 := o1.below hb (by omega)
  replace bt := below_then bt hb (by omega)
  clear hb
  have He2 := Lib.hid e2
  clear e2
  go_wp2_with fail
  refine (sSameRows' t1 t2 qe1 qe2 (pa.map (·.1)) (pb.map (·.1)) w4 o1.rd o2.rd He1.out He2.out).mono ?_
  rintro e w5 ⟨rfl, hb⟩
  have z5 := hb.size
  replace o1 := o1.below hb (by omega)
  replace o2 := o2.below hb (by omega)
  replace bt := below_then bt hb (by omega)
  clear hb
  clear o1 o2
  go_wp2_with fail
  refine (toRowS (.slice a lena capa) pa w5 hma HIa.out (ha.below bt)).mono ?_
  rintro e w6 ⟨x0, qex, rfl, ex, ox, hb⟩
  have z6 := hb.size
  replace bt := below_then bt hb (by omega)
  clear hb
  have Hex := Lib.hid ex
  clear ex
  go_wp2_with fail
  refine (toRowS (.slice b lenb capb) pb w6 hmb HIb.out (hbB.below bt)).mono ?_
  rintro e w7 ⟨x1, qey, rfl, ey, oy, hb⟩
  have z7 := hb.size
  replace ox := ox.below hb (by omega)
  replace bt := below_then bt hb (by omega)
  clear hb
  have Hey := Lib.hid ey
  clear ey
  go_wp2_with fail
  refine (hi x0 x1 qex qey (pa.map (·.1)) (pb.map (·.1)) w7 (by rw [len_fst Hex.out]; exact hma) (by rw [len_fst Hey.out]; exact hmb) (small_fst Hex.out HIa.out) (small_fst Hey.out HIb.out) ox.rd oy.rd Hex.out Hey.out).mono ?_
  rintro e w8 ⟨rfl, hb⟩
  have z8 := hb.size
  replace ox := ox.below hb (by omega)
  replace oy := oy.below hb (by omega)
  replace bt := below_then bt hb (by omega)
  clear hb
  go_wp2_with fail
  refine (toRowS (.slice a lena capa) pa w8 hma HIa.out (ha.below bt)).mono ?_
  rintro e w9 ⟨t3, qe3, rfl, e3, o3, hb⟩
  have z9 := hb.size
  replace ox := ox.below hb (by omega)
  replace oy := oy.below hb (by omega)
  replace bt := below_then bt hb (by omega)
  clear hb
  have He3 := Lib.hid e3
  clear e3
  go_wp2_with fail
  refine (eqRowS x0 t3 qex qe3 w9 (He3.out.trans Hex.out.symm) ox.rd o3.rd).mono ?_
  rintro e w10 ⟨rfl, hb⟩
  have z10 := hb.size
  replace ox := ox.below hb (by omega)
  replace oy := oy.below hb (by omega)
  replace o3 := o3.below hb (by omega)
  replace bt := below_then bt hb (by omega)
  clear hb
  clear o3
  go_wp2_with fail
  refine (toRowS (.slice b lenb capb) pb w10 hmb HIb.out (hbB.below bt)).mono ?_
  rintro e w11 ⟨t4, qe4, rfl, e4, o4, hb⟩
  have z11 := hb.size
  replace ox := ox.below hb (by omega)
  replace oy := oy.below hb (by omega)
  replace bt := below_then bt hb (by omega)
  clear hb
  have He4 := Lib.hid e4
  clear e4
  go_wp2_with fail
  refine (eqRowS x1 t4 qey qe4 w11 (He4.out.trans Hey.out.symm) oy.rd o4.rd).mono ?_
  rintro e w12 ⟨rfl, hb⟩
  have z12 := hb.size
  replace ox := ox.below hb (by omega)
  replace oy := oy.below hb (by omega)
  replace o4 := o4.below hb (by omega)
  replace bt := below_then bt hb (by omega)
  clear hb
  go_wp2
  go_ret
  exact ⟨rfl, bt⟩

set_option maxHeartbeats 1000000 in
theorem lawColumn (hi : CColumn) (a : Option Addr) (lena capa : Nat) (pa : List P) (k : Int) (w : World) (hsa : ∀ p ∈ pa, ∀ v ∈ p.1.l, v.s.size ≤ maxLen) (ha : RdRs w (.slice a lena capa) pa) :
    Calls Try.prog 8 #[.slice a lena capa, .int .i64 k] w fun e w' => e = .returned (.bool true) ∧ Below w.heap.size w w' := by
  have HSa := Lib.hid hsa
  clear hsa
  go_enter Try.func8, Try.ntmps8
  have bt := Below.refl w.heap.size w
  go_wp2_with fail
  refine (szRowS (.slice a lena capa) pa 1048576 w (by omega) (by omega) HSa.out (ha.below bt)).mono ?_
  rintro e w1 ⟨ra, rfl, hra, hb⟩
  have z1 := hb.size
  replace bt := below_then bt hb (by omega)
  clear hb
  by_cases hna : ra < 0
  · go_wp2
    go_ret
    exact ⟨rfl, bt⟩
  have hka : (pa.length : Int) + bulkR pa ≤ 1048576 := by omega
  have hma : pa.length ≤ 1048576 := by omega
  have HIa : Hid (∀ p ∈ pa, p.1.l.length ≤ 1048576) := fun p hp => by have := bulkR_mem hp; omega
  clear hra HSa
  have hcl : (colR (pa.map (·.1)) k).length ≤ 1048576 := Nat.le_trans (colR_le _ _) (by simpa using hma)
  have HRN : Hid (rlen pa ≤ 16777216) := by show rlen pa ≤ 16777216; have := rlen_le pa; omega
  have HCN : Hid ((colR (pa.map (·.1)) k).length = (colR (pa.map (·.1)) k).length) := rfl
  go_wp2_with fail
  refine (toRowS (.slice a lena capa) pa w1 hma HIa.out (ha.below bt)).mono ?_
  rintro e w2 ⟨t1, qe1, rfl, e1, o1, hb⟩
  have z2 := hb.size
  replace bt := below_then bt hb (by omega)
  clear hb
  have He1 := Lib.hid e1
  clear e1
  go_wp2_with fail
  refine (sColumn' t1 qe1 (pa.map (·.1)) k w2 (by rw [len_fst He1.out]; exact hma) o1.rd He1.out).mono ?_
  rintro e w3 ⟨v0, rfl, ov, hb⟩
  have z3 := hb.size
  replace o1 := o1.below hb (by omega)
  replace bt := below_then bt hb (by omega)
  clear hb
  clear o1
  go_wp2_with fail
  refine (toRowS (.slice a lena capa) pa w3 hma HIa.out (ha.below bt)).mono ?_
  rintro e w4 ⟨x0, qex, rfl, ex, ox, hb⟩
  have z4 := hb.size
  replace ov := ov.below hb (by omega)
  replace bt := below_then bt hb (by omega)
  clear hb
  have Hex := Lib.hid ex
  clear ex
  go_wp2_with fail
  refine (hi x0 qex (pa.map (·.1)) k w4 (by rw [len_fst Hex.out]; exact hma) (small_fst Hex.out HIa.out) ox.rd Hex.out).mono ?_
  rintro e w5 ⟨g0, rfl, og, hb⟩
  have z5 := hb.size
  replace ov := ov.below hb (by omega)
  replace ox := ox.below hb (by omega)
  replace bt := below_then bt hb (by omega)
  clear hb
  go_wp2_with fail
  refine (eqValS g0 v0 (colR (pa.map (·.1)) k).length (colR (pa.map (·.1)) k) w5 rfl og.at ov.at).mono ?_
  rintro e w6 ⟨rfl, hb⟩
  have z6 := hb.size
  replace ov := ov.below hb (by omega)
  replace ox := ox.below hb (by omega)
  replace og := og.below hb (by omega)
  replace bt := below_then bt hb (by omega)
  clear hb
  go_wp2_with fail
  refine (toRowS (.slice a lena capa) pa w6 hma HIa.out (ha.below bt)).mono ?_
  rintro e w7 ⟨t2, qe2, rfl, e2, o2, hb⟩
  have z7 := hb.size
  replace ov := ov.below hb (by omega)
  replace ox := ox.below hb (by omega)
  replace og := og.below hb (by omega)
  replace bt := below_then bt hb (by omega)
  clear hb
  have He2 := Lib.hid e2
  clear e2
  go_wp2_with fail
  refine (eqRowS x0 t2 qex qe2 w7 (He2.out.trans Hex.out.symm) ox.rd o2.rd).mono ?_
  rintro e w8 ⟨rfl, hb⟩
  have z8 := hb.size
  replace ov := ov.below hb (by omega)
  replace ox := ox.below hb (by omega)
  replace og := og.below hb (by omega)
  replace o2 := o2.below hb (by omega)
  replace bt := below_then bt hb (by omega)
  clear hb
  clear o2
  go_wp2_with fail
  refine (markRowS x0 qex _ _ 1 w8 (by omega) (by omega) (by rw [len_fst Hex.out]; exact hma) (by rw [rlen_fst Hex.out]; exact HRN.out) ox).mono ?_
  rintro e w9 ⟨rfl, _, hg⟩
  have z9 := hg.2.2.2.1
  replace ov := ov.within hg (by omega)
  replace og := og.within hg (by omega)
  replace bt := bt.trans (hg.below (by omega) (by omega))
  clear hg ox
  generalize rlen qex = kx
  go_wp2_with fail
  refine (eqValS g0 v0 (colR (pa.map (·.1)) k).length (colR (pa.map (·.1)) k) w9 rfl og.at ov.at).mono ?_
  rintro e w10 ⟨rfl, hb⟩
  have z10 := hb.size
  replace ov := ov.below hb (by omega)
  replace og := og.below hb (by omega)
  replace bt := below_then bt hb (by omega)
  clear hb
  go_wp2_with fail
  refine (markValM g0 (colR (pa.map (·.1)) k).length _ _ (colR (pa.map (·.1)) k) 1 w10 (by omega) (by omega) (by omega) rfl og).mono ?_
  rintro e w11 ⟨rfl, hnew, hg⟩
  have z11 := hg.size
  replace ov := ov.apart og (by omega) hg
  replace bt := bt.trans (below_grown_own og hg (by omega) (by omega))
  clear hg og
  have og := hnew
  clear hnew
  go_wp2_with fail
  refine (heldValS g0 (colR (pa.map (·.1)) k).length 1 w11 (by omega) (by omega) (by omega) og.rd).mono ?_
  rintro e w12 ⟨rfl, hb⟩
  have z12 := hb.size
  replace ov := ov.below hb (by omega)
  replace og := og.below hb (by omega)
  replace bt := below_then bt hb (by omega)
  clear hb
  go_wp2_with fail
  refine (toRowS (.slice a lena capa) pa w12 hma HIa.out (ha.below bt)).mono ?_
  rintro e w13 ⟨t3, qe3, rfl, e3, o3, hb⟩
  have z13 := hb.size
  replace ov := ov.below hb (by omega)
  replace og := og.below hb (by omega)
  replace bt := below_then bt hb (by omega)
  clear hb
  have He3 := Lib.hid e3
  clear e3
  go_wp2_with fail
  refine (hi t3 qe3 (pa.map (·.1)) k w13 (by rw [len_fst He3.out]; exact hma) (small_fst He3.out HIa.out) o3.rd He3.out).mono ?_
  rintro e w14 ⟨h0, rfl, oh, hb⟩
  have z14 := hb.size
  replace ov := ov.below hb (by omega)
  replace og := og.below hb (by omega)
  replace o3 := o3.below hb (by omega)
  replace bt := below_then bt hb (by omega)
  clear hb
  clear o3
  go_wp2_with fail
  refine (eqValS h0 v0 (colR (pa.map (·.1)) k).length (colR (pa.map (·.1)) k) w14 rfl oh.at ov.at).mono ?_
  rintro e w15 ⟨rfl, hb⟩
  have z15 := hb.size
  replace ov := ov.below hb (by omega)
  replace og := og.below hb (by omega)
  replace oh := oh.below hb (by omega)
  replace bt := below_then bt hb (by omega)
  clear hb
  go_wp2_with fail
  refine (heldValS g0 (colR (pa.map (·.1)) k).length 1 w15 (by omega) (by omega) (by omega) og.rd).mono ?_
  rintro e w16 ⟨rfl, hb⟩
  have z16 := hb.size
  replace ov := ov.below hb (by omega)
  replace og := og.below hb (by omega)
  replace oh := oh.below hb (by omega)
  replace bt := below_then bt hb (by omega)
  clear hb
  go_wp2
  go_ret
  exact ⟨rfl, bt⟩

end Go.Proofs.Ytdclbpbjdaefhaa
