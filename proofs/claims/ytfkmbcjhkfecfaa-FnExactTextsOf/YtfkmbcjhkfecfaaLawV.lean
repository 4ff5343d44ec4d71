/- The exact laws of chapter 3 that do no text, walked; the program's own contracts come as hypotheses. -/
import Derived.Test.YtfkmbcjhkfecfaaVOk
import Derived.Test.YtfkmbcjhkfecfaaInts
namespace Go.Proofs.Ytfkmbcjhkfecfaa
open Go.RowKit

def CValOk : Prop := ∀ (v : V) (w : World), v.s.size ≤ maxLen → Calls Try.prog 11 #[v.agg] w fun e w' => e = .returned (.bool (okV v)) ∧ Below w.heap.size w w'
def CLessVal : Prop := ∀ (a b : V) (w : World), Calls Try.prog 13 #[a.agg, b.agg] w fun e w' => e = .returned (.bool (lessV a b)) ∧ Below w.heap.size w w'
def CSameVals : Prop := ∀ (u v : Value) (n m : Nat) (l r : List V) (w : World), l.length = n → r.length = m → n ≤ 1048576 → m ≤ 1048576 → At 3 w u n (vals l) → At 3 w v m (vals r) → Calls Try.prog 17 #[u, v] w fun e w' => e = .returned (.bool (sameV l r)) ∧ Below w.heap.size w w'
def CNumsOf : Prop := ∀ (u : Value) (n : Nat) (l : List V) (w : World), n ≤ 1048576 → l.length = n → AtN 3 w u n (vals l) → Calls Try.prog 20 #[u] w fun e w' => ∃ v', e = .returned v' ∧ Own 3 1 w.heap.size w'.heap.size w' v' n (ints .i64 (l.map V.n)) ∧ Below w.heap.size w w'
def CTextsOf : Prop := ∀ (u : Value) (n : Nat) (l : List V) (w : World), n ≤ 1048576 → l.length = n → AtN 3 w u n (vals l) → Calls Try.prog 26 #[u] w fun e w' => ∃ v', e = .returned v' ∧ Own 9 1 w.heap.size w'.heap.size w' v' n (strs (l.map V.s)) ∧ Below w.heap.size w w'

theorem ArgS.below {c : Nat} {w w' : World} {a : Option Addr} {len : Nat} {xs : List Value} (h : ArgS c w a len xs) (hb : Below w.heap.size w w') : ArgS c w' a len xs := by
  refine ⟨h.1, h.2.imp id ?_⟩
  rintro ⟨b, off, rfl, hc⟩
  exact ⟨b, off, rfl, fun j u hu => (hb.cell (p := ⟨b, off + j, none⟩) (lt_of_cell (hc j u hu))).trans (hc j u hu)⟩
/-- A Val that was boxed as the first block of a call. -/
theorem boxed3 {w W : World} {v : V} {e : TypeId} (hb : Below (w.alloc (.cells v.cs.toArray e)).heap.size (w.alloc (.cells v.cs.toArray e)) W) :
    W.cell? ⟨w.heap.size, 0, none⟩ = some (.int .i64 v.ty) ∧ W.cell? ⟨w.heap.size, 1, none⟩ = some (.int .i64 v.n) ∧ W.cell? ⟨w.heap.size, 2, none⟩ = some (.string v.s) := by
  refine ⟨(hb.cell (p := ⟨w.heap.size, 0, none⟩) (by simp)).trans ?_, (hb.cell (p := ⟨w.heap.size, 1, none⟩) (by simp)).trans ?_, (hb.cell (p := ⟨w.heap.size, 2, none⟩) (by simp)).trans ?_⟩ <;> simp [V.cs]

set_option maxHeartbeats 1000000 in
theorem lawValOk (hi : CValOk) (v : V) (w : World) (hs : v.s.size ≤ maxLen) : Calls Try.prog 3 #[v.agg] w fun e w' => e = .returned (.bool true) ∧ Below w.heap.size w w' := by
  have HSZ := Lib.hid (fun W => szVal v 1048576 W (by omega) (by omega) hs)
  have HT := Lib.hid (fun W => toVal v W)
  have HS := Lib.hid (fun W => sValOk v W hs)
  have HI := Lib.hid (fun W => hi v W hs)
  have B0 := below_alloc w (.cells v.cs.toArray 23)
  have hqq : ∀ b : Bool, (b != b) = false := fun b => by simp
  generalize okV v = r at HS HI
  generalize szV v 1048576 = z at HSZ
  have hqr := hqq r
  have H3 := Lib.hid (fun (W : World) => boxed3 (w := w) (W := W) (v := v) (e := 23))
  obtain ⟨t, n, s⟩ := v
  simp only [V.cs] at B0 H3
  clear hs hqq
  generalize hw0 : (w.alloc (.cells [Value.int .i64 t, .int .i64 n, .string s].toArray 23)) = w0 at B0 H3
  have HW := Lib.hid hw0
  clear hw0
  go_enter Try.func3, Try.ntmps3
  go_wp2_with fail
  refine (HSZ.out _).mono ?_
  rintro e w1 ⟨rfl, b1⟩
  have B1 : Below w0.heap.size w0 w1 := by
    have := b1
    rw [← HW.out]
    exact this
  clear b1
  by_cases hz : z < 0
  · go_wp2
    go_ret
    exact ⟨rfl, B0.trans (B1.mono B0.size)⟩
  · obtain ⟨p0, p1, p2⟩ := H3.out _ B1
    go_wp2_with fail
    refine (HT.out _).mono ?_
    rintro e w2 ⟨rfl, b2⟩
    have B2 := below_then B1 b2 B1.size
    clear b2 p0 p1 p2 B1
    go_wp2_with fail
    refine (HS.out _).mono ?_
    rintro e w3 ⟨rfl, b3⟩
    have B3 := below_then B2 b3 B2.size
    clear b3 B2
    obtain ⟨p0, p1, p2⟩ := H3.out _ B3
    go_wp2_with fail
    refine (HT.out _).mono ?_
    rintro e w4 ⟨rfl, b4⟩
    have B4 := below_then B3 b4 B3.size
    clear b4 p0 p1 p2 B3
    go_wp2_with fail
    refine (HI.out _).mono ?_
    rintro e w5 ⟨rfl, b5⟩
    have B5 := below_then B4 b5 B4.size
    clear b5 B4
    go_wp2
    go_ret
    exact ⟨rfl, B0.trans (B5.mono B0.size)⟩

theorem kept_at {w0 W : World} {p : Addr} {u : Value} (hb : Below w0.heap.size w0 W) (hc : w0.cell? p = some u) : W.cell? p = some u := (hb.cell (lt_of_cell hc)).trans hc
def Cells3 (W : World) (b : Nat) (v : V) : Prop := W.cell? ⟨b, 0, none⟩ = some (.int .i64 v.ty) ∧ W.cell? ⟨b, 1, none⟩ = some (.int .i64 v.n) ∧ W.cell? ⟨b, 2, none⟩ = some (.string v.s)
theorem Cells3.below {w0 W : World} {b : Nat} {v : V} (h : Cells3 w0 b v) (hb : Below w0.heap.size w0 W) : Cells3 W b v := ⟨kept_at hb h.1, kept_at hb h.2.1, kept_at hb h.2.2⟩

set_option maxHeartbeats 1000000 in
theorem lawLessVal (hi : CLessVal) (v u : V) (w : World) (hs : v.s.size ≤ maxLen) (ks : u.s.size ≤ maxLen) : Calls Try.prog 4 #[v.agg, u.agg] w fun e w' => e = .returned (.bool true) ∧ Below w.heap.size w w' := by
  have HSZ := Lib.hid (fun W => szVal v 1048576 W (by omega) (by omega) hs)
  have HSU : Hid (∀ z W, 0 ≤ z → z ≤ 1048576 → Calls Try.prog 8 #[u.agg, .int .i64 z] W fun e w' => ∃ r, e = .returned (.int .i64 r) ∧ Below W.heap.size W w') := fun z W h0 h1 => (szVal u z W h0 h1 ks).mono fun e w' h => ⟨_, h.1, h.2⟩
  have HT := Lib.hid (fun W => toVal v W)
  have HU := Lib.hid (fun W => toVal u W)
  have HS := Lib.hid (fun W => sLessVal v u W)
  have HI := Lib.hid (fun W => hi v u W)
  have hqq : ∀ b : Bool, (b != b) = false := fun b => by simp
  have hz1 : szV v 1048576 ≤ 1048576 := by unfold szV; split <;> omega
  generalize lessV v u = r at HS HI
  generalize szV v 1048576 = z at HSZ hz1
  have hqr := hqq r
  obtain ⟨t, n, s⟩ := v
  obtain ⟨t', n', s'⟩ := u
  have B0 := below_alloc2 w (.cells #[.int .i64 t, .int .i64 n, .string s] 23) (.cells #[.int .i64 t', .int .i64 n', .string s'] 23)
  have C1 : Cells3 ((w.alloc (.cells #[.int .i64 t, .int .i64 n, .string s] 23)).alloc (.cells #[.int .i64 t', .int .i64 n', .string s'] 23)) w.heap.size ⟨t, n, s⟩ := ⟨by simp, by simp, by simp⟩
  have C2 : Cells3 ((w.alloc (.cells #[.int .i64 t, .int .i64 n, .string s] 23)).alloc (.cells #[.int .i64 t', .int .i64 n', .string s'] 23)) (w.heap.size + 1) ⟨t', n', s'⟩ := ⟨by simp, by simp, by simp⟩
  clear hs ks hqq
  generalize hw0 : ((w.alloc (.cells #[.int .i64 t, .int .i64 n, .string s] 23)).alloc (.cells #[.int .i64 t', .int .i64 n', .string s'] 23)) = w0 at B0 C1 C2
  have HW := Lib.hid hw0
  clear hw0
  go_enter Try.func4, Try.ntmps4
  go_wp2_with fail
  refine (HSZ.out _).mono ?_
  rintro e w1 ⟨rfl, b1⟩
  have B1 : Below w0.heap.size w0 w1 := by
    have := b1
    rw [← HW.out]
    exact this
  clear b1
  by_cases hz : z < 0
  · go_wp2
    go_ret
    exact ⟨rfl, B0.trans (B1.mono B0.size)⟩
  · obtain ⟨p0, p1, p2⟩ := C2.below B1
    go_wp2_with fail
    refine (HSU.out z _ (by omega) hz1).mono ?_
    rintro e w2 ⟨r2, rfl, b2⟩
    have B2 := below_then B1 b2 B1.size
    clear b2 p0 p1 p2 B1
    by_cases hz2 : r2 < 0
    · go_wp2
      go_ret
      exact ⟨rfl, B0.trans (B2.mono B0.size)⟩
    · have HC : Hid (∀ W, Below w0.heap.size w0 W → W.cell? ⟨w.heap.size, 0, none⟩ = some (.int .i64 t) ∧ W.cell? ⟨w.heap.size, 1, none⟩ = some (.int .i64 n) ∧ W.cell? ⟨w.heap.size, 2, none⟩ = some (.string s) ∧ W.cell? ⟨w.heap.size + 1, 0, none⟩ = some (.int .i64 t') ∧ W.cell? ⟨w.heap.size + 1, 1, none⟩ = some (.int .i64 n') ∧ W.cell? ⟨w.heap.size + 1, 2, none⟩ = some (.string s')) := fun W h =>
        ⟨kept_at h C1.1, kept_at h C1.2.1, kept_at h C1.2.2, kept_at h C2.1, kept_at h C2.2.1, kept_at h C2.2.2⟩
      have HTA := Lib.hid (fun (t : Int) (n : Int) (s : ByteArray) W => toVal ⟨t, n, s⟩ W)
      have hB := B2
      have hB' := B2.drew
      clear C1 C2 B2 HT HU
      go_wp2_with fail
      go_region_held3 (fun W => W.cell? ⟨w.heap.size, 0, none⟩ = some (.int .i64 t) ∧ W.cell? ⟨w.heap.size, 1, none⟩ = some (.int .i64 n) ∧ W.cell? ⟨w.heap.size, 2, none⟩ = some (.string s) ∧ W.cell? ⟨w.heap.size + 1, 0, none⟩ = some (.int .i64 t') ∧ W.cell? ⟨w.heap.size + 1, 1, none⟩ = some (.int .i64 n') ∧ W.cell? ⟨w.heap.size + 1, 2, none⟩ = some (.string s')) (first | exact HC.out _ hB' | exact HC.out _ hB) (first | (go_at_call 10; (with_reducible refine (HTA.out _ _ _ _).mono ?_); rintro e w3 ⟨rfl, hb⟩; replace hB' := below_then hB' hb hB'.size) | (go_at_call 12; (with_reducible refine (HS.out _).mono ?_); rintro e w3 ⟨rfl, hb⟩; replace hB' := below_then hB' hb hB'.size))
      all_goals
        clear hB
        have hB := hB'
        replace hB' := hB'.drew
        go_wp2_with fail
        go_region_held3 (fun W => W.cell? ⟨w.heap.size, 0, none⟩ = some (.int .i64 t) ∧ W.cell? ⟨w.heap.size, 1, none⟩ = some (.int .i64 n) ∧ W.cell? ⟨w.heap.size, 2, none⟩ = some (.string s) ∧ W.cell? ⟨w.heap.size + 1, 0, none⟩ = some (.int .i64 t') ∧ W.cell? ⟨w.heap.size + 1, 1, none⟩ = some (.int .i64 n') ∧ W.cell? ⟨w.heap.size + 1, 2, none⟩ = some (.string s')) (first | exact HC.out _ hB' | exact HC.out _ hB) (first | (go_at_call 10; (with_reducible refine (HTA.out _ _ _ _).mono ?_); rintro e w3 ⟨rfl, hb⟩; replace hB' := below_then hB' hb hB'.size) | (go_at_call 13; (with_reducible refine (HI.out _).mono ?_); rintro e w3 ⟨rfl, hb⟩; replace hB' := below_then hB' hb hB'.size))
        all_goals
          go_wp2
          go_ret
          exact ⟨rfl, B0.trans (hB'.mono B0.size)⟩

set_option maxHeartbeats 1000000 in
theorem lawSameVals (hi : CSameVals) (a : Option Addr) (lena capa : Nat) (l : List V) (b : Option Addr) (lenb capb : Nat) (r : List V) (w : World) (hla : lena ≤ maxLen) (hsa : ∀ v ∈ l, v.s.size ≤ maxLen) (hza : l.length = lena) (ha : ArgS 3 w a lena (vals l))
    (hlb : lenb ≤ maxLen) (hsb : ∀ v ∈ r, v.s.size ≤ maxLen) (hzb : r.length = lenb) (hbB : ArgS 3 w b lenb (vals r)) :
    Calls Try.prog 5 #[.slice a lena capa, .slice b lenb capb] w fun e w' => e = .returned (.bool true) ∧ Below w.heap.size w w' := by
  have HZa := Lib.hid hza
  have HZb := Lib.hid hzb
  have HSa := Lib.hid hsa
  have HSb := Lib.hid hsb
  have hqq : (sameV l r != sameV l r) = false := by simp
  clear hza hzb hsa hsb
  go_enter Try.func5, Try.ntmps5
  have bt := Below.refl w.heap.size w
  go_wp2_with fail
  refine (szValS a lena capa l 1048576 w (by omega) (by omega) hla HSa.out HZa.out (ha.below bt)).mono ?_
  rintro e w1 ⟨ra, rfl, hra, hb⟩
  have z1 := hb.size
  replace bt := below_then bt hb (by omega)
  clear hb
  by_cases hna : ra < 0
  · go_wp2
    go_ret
    exact ⟨rfl, bt⟩
  have hba : lena ≤ 1048576 := by omega
  go_wp2_with fail
  refine (szValS b lenb capb r ra w1 (by omega) (by omega) hlb HSb.out HZb.out (hbB.below bt)).mono ?_
  rintro e w2 ⟨rb, rfl, hrb, hb⟩
  have z2 := hb.size
  replace bt := below_then bt hb (by omega)
  clear hb
  by_cases hnb : rb < 0
  · go_wp2
    go_ret
    exact ⟨rfl, bt⟩
  have hbb : lenb ≤ 1048576 := by omega
  clear hra hrb HSa HSb
  go_wp2_with fail
  refine (toValS a lena capa l w2 (by omega) HZa.out (ha.below bt)).mono ?_
  rintro e w3 ⟨t1, rfl, o1, hb⟩
  have z3 := hb.size
  replace bt := below_then bt hb (by omega)
  clear hb
  go_wp2_with fail
  refine (toValS b lenb capb r w3 (by omega) HZb.out (hbB.below bt)).mono ?_
  rintro e w4 ⟨t2, rfl, o2, hb⟩
  have z4 := hb.size
  replace o1 := o1.below hb (by omega)
  replace bt := below_then bt hb (by omega)
  clear hb
  go_wp2_with fail
  refine (sSameVals t1 t2 lena lenb l r w4 HZa.out HZb.out o1.at o2.at).mono ?_
  rintro e w5 ⟨rfl, hb⟩
  have z5 := hb.size
  replace o1 := o1.below hb (by omega)
  replace o2 := o2.below hb (by omega)
  replace bt := below_then bt hb (by omega)
  clear hb
  clear o1
  clear o2
  go_wp2_with fail
  refine (toValS a lena capa l w5 (by omega) HZa.out (ha.below bt)).mono ?_
  rintro e w6 ⟨x0, rfl, ox, hb⟩
  have z6 := hb.size
  replace bt := below_then bt hb (by omega)
  clear hb
  go_wp2_with fail
  refine (toValS b lenb capb r w6 (by omega) HZb.out (hbB.below bt)).mono ?_
  rintro e w7 ⟨x1, rfl, oy, hb⟩
  have z7 := hb.size
  replace ox := ox.below hb (by omega)
  replace bt := below_then bt hb (by omega)
  clear hb
  go_wp2_with fail
  refine (hi x0 x1 lena lenb l r w7 HZa.out HZb.out hba hbb ox.at oy.at).mono ?_
  rintro e w8 ⟨rfl, hb⟩
  have z8 := hb.size
  replace ox := ox.below hb (by omega)
  replace oy := oy.below hb (by omega)
  replace bt := below_then bt hb (by omega)
  clear hb
  go_wp2_with fail
  refine (toValS a lena capa l w8 (by omega) HZa.out (ha.below bt)).mono ?_
  rintro e w9 ⟨t3, rfl, o3, hb⟩
  have z9 := hb.size
  replace ox := ox.below hb (by omega)
  replace oy := oy.below hb (by omega)
  replace bt := below_then bt hb (by omega)
  clear hb
  go_wp2_with fail
  refine (eqValS x0 t3 lena l w9 HZa.out ox.at o3.at).mono ?_
  rintro e w10 ⟨rfl, hb⟩
  have z10 := hb.size
  replace ox := ox.below hb (by omega)
  replace oy := oy.below hb (by omega)
  replace o3 := o3.below hb (by omega)
  replace bt := below_then bt hb (by omega)
  clear hb
  clear o3
  go_wp2_with fail
  refine (toValS b lenb capb r w10 (by omega) HZb.out (hbB.below bt)).mono ?_
  rintro e w11 ⟨t4, rfl, o4, hb⟩
  have z11 := hb.size
  replace ox := ox.below hb (by omega)
  replace oy := oy.below hb (by omega)
  replace bt := below_then bt hb (by omega)
  clear hb
  go_wp2_with fail
  refine (eqValS x1 t4 lenb r w11 HZb.out oy.at o4.at).mono ?_
  rintro e w12 ⟨rfl, hb⟩
  have z12 := hb.size
  replace ox := ox.below hb (by omega)
  replace oy := oy.below hb (by omega)
  replace o4 := o4.below hb (by omega)
  replace bt := below_then bt hb (by omega)
  clear hb
  go_wp2
  go_ret
  exact ⟨rfl, bt⟩

set_option maxHeartbeats 1000000 in
theorem lawNumsOf (hi : CNumsOf) (a : Option Addr) (lena capa : Nat) (l : List V) (w : World) (hla : lena ≤ maxLen) (hsa : ∀ v ∈ l, v.s.size ≤ maxLen) (hza : l.length = lena) (ha : ArgS 3 w a lena (vals l)) :
    Calls Try.prog 6 #[.slice a lena capa] w fun e w' => e = .returned (.bool true) ∧ Below w.heap.size w w' := by
  have HZa := Lib.hid hza
  have HSa := Lib.hid hsa
  have HL : Hid ((l.map V.n).length = lena) := by
    show (l.map V.n).length = lena
    rw [List.length_map, HZa.out]
  clear hza hsa
  go_enter Try.func6, Try.ntmps6
  have bt := Below.refl w.heap.size w
  go_wp2_with fail
  refine (szValS a lena capa l 1048576 w (by omega) (by omega) hla HSa.out HZa.out (ha.below bt)).mono ?_
  rintro e w1 ⟨ra, rfl, hra, hb⟩
  have z1 := hb.size
  replace bt := below_then bt hb (by omega)
  clear hb
  by_cases hna : ra < 0
  · go_wp2
    go_ret
    exact ⟨rfl, bt⟩
  have hba : lena ≤ 1048576 := by omega
  clear hra HSa
  go_wp2_with fail
  refine (toValS a lena capa l w1 (by omega) HZa.out (ha.below bt)).mono ?_
  rintro e w2 ⟨t1, rfl, o1, hb⟩
  have z2 := hb.size
  replace bt := below_then bt hb (by omega)
  clear hb
  go_wp2_with fail
  refine (sNumsOf t1 lena l w2 (by omega) HZa.out (.inr o1.at)).mono ?_
  rintro e w3 ⟨v0, rfl, ov, hb⟩
  have z3 := hb.size
  replace o1 := o1.below hb (by omega)
  replace bt := below_then bt hb (by omega)
  clear hb
  clear o1
  go_wp2_with fail
  refine (toValS a lena capa l w3 (by omega) HZa.out (ha.below bt)).mono ?_
  rintro e w4 ⟨x0, rfl, ox, hb⟩
  have z4 := hb.size
  replace ov := ov.below hb (by omega)
  replace bt := below_then bt hb (by omega)
  clear hb
  go_wp2_with fail
  refine (hi x0 lena l w4 (by omega) HZa.out (.inr ox.at)).mono ?_
  rintro e w5 ⟨g0, rfl, og, hb⟩
  have z5 := hb.size
  replace ov := ov.below hb (by omega)
  replace ox := ox.below hb (by omega)
  replace bt := below_then bt hb (by omega)
  clear hb
  go_wp2_with fail
  refine (eqIntS g0 v0 lena (l.map V.n) w5 HL.out og.at ov.at).mono ?_
  rintro e w6 ⟨rfl, hb⟩
  have z6 := hb.size
  replace ov := ov.below hb (by omega)
  replace ox := ox.below hb (by omega)
  replace og := og.below hb (by omega)
  replace bt := below_then bt hb (by omega)
  clear hb
  go_wp2_with fail
  refine (toValS a lena capa l w6 (by omega) HZa.out (ha.below bt)).mono ?_
  rintro e w7 ⟨t2, rfl, o2, hb⟩
  have z7 := hb.size
  replace ov := ov.below hb (by omega)
  replace ox := ox.below hb (by omega)
  replace og := og.below hb (by omega)
  replace bt := below_then bt hb (by omega)
  clear hb
  go_wp2_with fail
  refine (eqValS x0 t2 lena l w7 HZa.out ox.at o2.at).mono ?_
  rintro e w8 ⟨rfl, hb⟩
  have z8 := hb.size
  replace ov := ov.below hb (by omega)
  replace ox := ox.below hb (by omega)
  replace og := og.below hb (by omega)
  replace o2 := o2.below hb (by omega)
  replace bt := below_then bt hb (by omega)
  clear hb
  clear o2
  go_wp2_with fail
  refine (markValS x0 lena _ _ l 1 w8 (by omega) (by omega) (by omega) HZa.out ox).mono ?_
  rintro e w9 ⟨rfl, ⟨l2, hl2, hnew⟩, hg⟩
  have z9 := hg.size
  replace ov := ov.apart ox (by omega) hg
  replace og := og.apart ox (by omega) hg
  replace bt := bt.trans (below_grown_own ox hg (by omega) (by omega))
  clear hg ox hnew hl2
  go_wp2_with fail
  refine (eqIntS g0 v0 lena (l.map V.n) w9 HL.out og.at ov.at).mono ?_
  rintro e w10 ⟨rfl, hb⟩
  have z10 := hb.size
  replace ov := ov.below hb (by omega)
  replace og := og.below hb (by omega)
  replace bt := below_then bt hb (by omega)
  clear hb
  go_wp2_with fail
  refine (markIntS g0 lena _ _ _ _ w10 (by omega) (by omega) (by omega) og).mono ?_
  rintro e w11 ⟨rfl, hnew, hg⟩
  have z11 := hg.size
  replace ov := ov.apart og (by omega) hg
  replace bt := bt.trans (below_grown_own og hg (by omega) (by omega))
  clear hg og
  have og := hnew
  clear hnew
  go_wp2_with fail
  refine (heldIntS g0 lena 1 w11 (by omega) (by omega) (by omega) og.at).mono ?_
  rintro e w' ⟨rfl, rfl⟩
  go_wp2_with fail
  refine (toValS a lena capa l w11 (by omega) HZa.out (ha.below bt)).mono ?_
  rintro e w12 ⟨t3, rfl, o3, hb⟩
  have z12 := hb.size
  replace ov := ov.below hb (by omega)
  replace og := og.below hb (by omega)
  replace bt := below_then bt hb (by omega)
  clear hb
  go_wp2_with fail
  refine (hi t3 lena l w12 (by omega) HZa.out (.inr o3.at)).mono ?_
  rintro e w13 ⟨h0, rfl, oh, hb⟩
  have z13 := hb.size
  replace ov := ov.below hb (by omega)
  replace og := og.below hb (by omega)
  replace o3 := o3.below hb (by omega)
  replace bt := below_then bt hb (by omega)
  clear hb
  clear o3
  go_wp2_with fail
  refine (eqIntS h0 v0 lena (l.map V.n) w13 HL.out oh.at ov.at).mono ?_
  rintro e w14 ⟨rfl, hb⟩
  have z14 := hb.size
  replace ov := ov.below hb (by omega)
  replace og := og.below hb (by omega)
  replace oh := oh.below hb (by omega)
  replace bt := below_then bt hb (by omega)
  clear hb
  go_wp2_with fail
  refine (heldIntS g0 lena 1 w14 (by omega) (by omega) (by omega) og.at).mono ?_
  rintro e w' ⟨rfl, rfl⟩
  go_wp2
  go_ret
  exact ⟨rfl, bt⟩

set_option maxHeartbeats 1000000 in
theorem lawTextsOf (hi : CTextsOf) (a : Option Addr) (lena capa : Nat) (l : List V) (w : World) (hla : lena ≤ maxLen) (hsa : ∀ v ∈ l, v.s.size ≤ maxLen) (hza : l.length = lena) (ha : ArgS 3 w a lena (vals l)) :
    Calls Try.prog 7 #[.slice a lena capa] w fun e w' => e = .returned (.bool true) ∧ Below w.heap.size w w' := by
  have HZa := Lib.hid hza
  have HSa := Lib.hid hsa
  have HL : Hid ((l.map V.s).length = lena) := by
    show (l.map V.s).length = lena
    rw [List.length_map, HZa.out]
  clear hza hsa
  go_enter Try.func7, Try.ntmps7
  have bt := Below.refl w.heap.size w
  go_wp2_with fail
  refine (szValS a lena capa l 1048576 w (by omega) (by omega) hla HSa.out HZa.out (ha.below bt)).mono ?_
  rintro e w1 ⟨ra, rfl, hra, hb⟩
  have z1 := hb.size
  replace bt := below_then bt hb (by omega)
  clear hb
  by_cases hna : ra < 0
  · go_wp2
    go_ret
    exact ⟨rfl, bt⟩
  have hba : lena ≤ 1048576 := by omega
  clear hra HSa
  go_wp2_with fail
  refine (toValS a lena capa l w1 (by omega) HZa.out (ha.below bt)).mono ?_
  rintro e w2 ⟨t1, rfl, o1, hb⟩
  have z2 := hb.size
  replace bt := below_then bt hb (by omega)
  clear hb
  go_wp2_with fail
  refine (sTextsOf t1 lena l w2 (by omega) HZa.out (.inr o1.at)).mono ?_
  rintro e w3 ⟨v0, rfl, ov, hb⟩
  have z3 := hb.size
  replace o1 := o1.below hb (by omega)
  replace bt := below_then bt hb (by omega)
  clear hb
  clear o1
  go_wp2_with fail
  refine (toValS a lena capa l w3 (by omega) HZa.out (ha.below bt)).mono ?_
  rintro e w4 ⟨x0, rfl, ox, hb⟩
  have z4 := hb.size
  replace ov := ov.below hb (by omega)
  replace bt := below_then bt hb (by omega)
  clear hb
  go_wp2_with fail
  refine (hi x0 lena l w4 (by omega) HZa.out (.inr ox.at)).mono ?_
  rintro e w5 ⟨g0, rfl, og, hb⟩
  have z5 := hb.size
  replace ov := ov.below hb (by omega)
  replace ox := ox.below hb (by omega)
  replace bt := below_then bt hb (by omega)
  clear hb
  go_wp2_with fail
  refine (eqStringS g0 v0 lena (l.map V.s) w5 HL.out og.at ov.at).mono ?_
  rintro e w6 ⟨rfl, hb⟩
  have z6 := hb.size
  replace ov := ov.below hb (by omega)
  replace ox := ox.below hb (by omega)
  replace og := og.below hb (by omega)
  replace bt := below_then bt hb (by omega)
  clear hb
  go_wp2_with fail
  refine (toValS a lena capa l w6 (by omega) HZa.out (ha.below bt)).mono ?_
  rintro e w7 ⟨t2, rfl, o2, hb⟩
  have z7 := hb.size
  replace ov := ov.below hb (by omega)
  replace ox := ox.below hb (by omega)
  replace og := og.below hb (by omega)
  replace bt := below_then bt hb (by omega)
  clear hb
  go_wp2_with fail
  refine (eqValS x0 t2 lena l w7 HZa.out ox.at o2.at).mono ?_
  rintro e w8 ⟨rfl, hb⟩
  have z8 := hb.size
  replace ov := ov.below hb (by omega)
  replace ox := ox.below hb (by omega)
  replace og := og.below hb (by omega)
  replace o2 := o2.below hb (by omega)
  replace bt := below_then bt hb (by omega)
  clear hb
  clear o2
  go_wp2_with fail
  refine (markValS x0 lena _ _ l 1 w8 (by omega) (by omega) (by omega) HZa.out ox).mono ?_
  rintro e w9 ⟨rfl, ⟨l2, hl2, hnew⟩, hg⟩
  have z9 := hg.size
  replace ov := ov.apart ox (by omega) hg
  replace og := og.apart ox (by omega) hg
  replace bt := bt.trans (below_grown_own ox hg (by omega) (by omega))
  clear hg ox hnew hl2
  go_wp2_with fail
  refine (eqStringS g0 v0 lena (l.map V.s) w9 HL.out og.at ov.at).mono ?_
  rintro e w10 ⟨rfl, hb⟩
  have z10 := hb.size
  replace ov := ov.below hb (by omega)
  replace og := og.below hb (by omega)
  replace bt := below_then bt hb (by omega)
  clear hb
  go_wp2_with fail
  refine (markStringS g0 lena _ _ _ 1 w10 (by omega) (by omega) (by omega) HL.out og).mono ?_
  rintro e w11 ⟨rfl, hnew, hg⟩
  have z11 := hg.size
  replace ov := ov.apart og (by omega) hg
  replace bt := bt.trans (below_grown_own og hg (by omega) (by omega))
  clear hg og
  have og := hnew
  clear hnew
  go_wp2_with fail
  refine (heldStringS g0 lena 1 w11 (by omega) (by omega) (by omega) og.at).mono ?_
  rintro e w12 ⟨rfl, hb⟩
  have z12 := hb.size
  replace ov := ov.below hb (by omega)
  replace og := og.below hb (by omega)
  replace bt := below_then bt hb (by omega)
  clear hb
  go_wp2_with fail
  refine (toValS a lena capa l w12 (by omega) HZa.out (ha.below bt)).mono ?_
  rintro e w13 ⟨t3, rfl, o3, hb⟩
  have z13 := hb.size
  replace ov := ov.below hb (by omega)
  replace og := og.below hb (by omega)
  replace bt := below_then bt hb (by omega)
  clear hb
  go_wp2_with fail
  refine (hi t3 lena l w13 (by omega) HZa.out (.inr o3.at)).mono ?_
  rintro e w14 ⟨h0, rfl, oh, hb⟩
  have z14 := hb.size
  replace ov := ov.below hb (by omega)
  replace og := og.below hb (by omega)
  replace o3 := o3.below hb (by omega)
  replace bt := below_then bt hb (by omega)
  clear hb
  clear o3
  go_wp2_with fail
  refine (eqStringS h0 v0 lena (l.map V.s) w14 HL.out oh.at ov.at).mono ?_
  rintro e w15 ⟨rfl, hb⟩
  have z15 := hb.size
  replace ov := ov.below hb (by omega)
  replace og := og.below hb (by omega)
  replace oh := oh.below hb (by omega)
  replace bt := below_then bt hb (by omega)
  clear hb
  go_wp2_with fail
  refine (heldStringS g0 lena 1 w15 (by omega) (by omega) (by omega) og.at).mono ?_
  rintro e w16 ⟨rfl, hb⟩
  have z16 := hb.size
  replace ov := ov.below hb (by omega)
  replace og := og.below hb (by omega)
  replace oh := oh.below hb (by omega)
  replace bt := below_then bt hb (by omega)
  clear hb
  go_wp2
  go_ret
  exact ⟨rfl, bt⟩

end Go.Proofs.Ytfkmbcjhkfecfaa
