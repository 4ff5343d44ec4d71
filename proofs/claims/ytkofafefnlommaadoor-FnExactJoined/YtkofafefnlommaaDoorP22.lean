/- Texts of this claim, one behind the other: Rs12, S12l, S12o, J12r, J12a. -/
import Derived.Test.YtkofafefnlommaaDoorP14
import Derived.Test.YtkofafefnlommaaDoorP13
import Derived.Test.YtkofafefnlommaaDoorP15
import Derived.Test.YtkofafefnlommaaDoorP19
import Derived.Test.YtkofafefnlommaaDoorP4
import Derived.Test.YtkofafefnlommaaDoorP16

/- The laws' own helpers over Results: szResult, toResult, eqResult, markResult, heldResult (written by mk_Rs12.py). -/
namespace Go.Proofs.YtkofafefnlommaaDoor
open Go.RowKit

theorem MyRs.setBelow {lo hi w v} {ps : List P} (h : MyRs lo hi w v ps) {a : Addr} (ha : a.block < lo) (x : Value) : MyRs lo hi (w.setCell a x) v ps := ⟨h.1.setBelow ha x, fun p hp => (h.2.1 p hp).setBelow ha x, h.2.2⟩
set_option maxHeartbeats 1000000 in
theorem szResult (n : Int) (hs : Bool) (vt vn : Int) (vs : ByteArray) (u : Value) (ps : List P) (left : Int) (w : World) (hv : vs.size ≤ maxLen) (hss : ∀ p ∈ ps, ∀ v ∈ p.1.l, v.s.size ≤ maxLen) (h : RdRs w u ps) (h0 : 0 ≤ left) (h1 : left ≤ 1048576) :
    Calls Tryd.prog 12 #[.agg #[u, .int .i64 n, .bool hs, .int .i64 vt, .int .i64 vn, .string vs], .int .i64 left] w fun e w' => ∃ r : Int, e = .returned (.int .i64 r) ∧ (r < 0 ∨ (0 ≤ r ∧ (ps.length : Int) + bulkR ps ≤ left - r)) ∧ Below w.heap.size w w' := by
  have B0 := below_alloc w (.cells #[u, .int .i64 n, .bool hs, .int .i64 vt, .int .i64 vn, .string vs] 41)
  have C0 := blk_new w [u, .int .i64 n, .bool hs, .int .i64 vt, .int .i64 vn, .string vs] 41
  have HS := Lib.hid (fun W (hb : Below w.heap.size w W) => szRowS u ps left W h0 h1 hss (h.below hb))
  have HV := Lib.hid (fun (z : Int) W (h0 : 0 ≤ z) (h1 : z ≤ 1048576) => szVal ⟨vt, vn, vs⟩ z W h0 h1 hv)
  have HE : Hid (∀ z : Int, 0 ≤ z → szV ⟨vt, vn, vs⟩ z < 0 ∨ (0 ≤ szV ⟨vt, vn, vs⟩ z ∧ szV ⟨vt, vn, vs⟩ z ≤ z)) := fun z hz => by
    have := szV_le (v := ⟨vt, vn, vs⟩) hz
    omega
  obtain ⟨⟨a, cap, hu, _⟩, _⟩ := id h
  generalize ps.length = m at hu HS ⊢
  subst hu
  clear h hss hv
  generalize hw0 : w.alloc (.cells #[.slice a m cap, .int .i64 n, .bool hs, .int .i64 vt, .int .i64 vn, .string vs] 41) = w0 at B0 C0
  have HW0 := Lib.hid hw0
  have p0 := (C0 0 _ rfl).1
  clear hw0
  go_enter Tryd.func12, Tryd.ntmps12
  go_wp2_with fail
  rw [HW0.out]
  refine (HS.out _ B0).mono ?_
  rintro e w1 ⟨r, rfl, hr, b1⟩
  have B1 := below_then B0 b1 B0.size
  obtain ⟨p3, -⟩ := C0.below b1 3 _ rfl
  obtain ⟨p4, -⟩ := C0.below b1 4 _ rfl
  obtain ⟨p5, -⟩ := C0.below b1 5 _ rfl
  clear b1 HS C0 B0 p0 HW0
  by_cases hneg : r < 0
  · clear p3 p4 p5 hr
    go_wp2
    go_ret
    exact ⟨_, rfl, .inl (by omega), B1⟩
  · have HR := Lib.hid (hr.resolve_left hneg)
    have hr1 : r ≤ 1048576 := by
      have := HR.out
      omega
    have HZ := Lib.hid (HE.out r (by omega))
    have HVR := Lib.hid (fun W => HV.out r W (by omega) hr1)
    generalize szV ⟨vt, vn, vs⟩ r = q at HZ HVR
    clear hr HE HV
    go_wp2_with fail
    refine (HVR.out _).mono ?_
    rintro e w2 ⟨rfl, b2⟩
    have B2 := below_then B1 b2 B1.size
    clear b2 HVR p3 p4 p5
    by_cases hneg2 : q < 0
    · go_wp2
      go_ret
      exact ⟨_, rfl, .inl (by omega), B2⟩
    · go_wp2
      go_ret
      exact ⟨_, rfl, .inr ⟨by omega, by have := HR.out; have := HZ.out; omega⟩, B2⟩

set_option maxHeartbeats 2000000 in
theorem toResult (n : Int) (hs : Bool) (vt vn : Int) (vs : ByteArray) (a : Option Addr) (len cap : Nat) (ps : List P) (w : World) (hle : ps.length ≤ 1048576) (hli : ∀ p ∈ ps, p.1.l.length ≤ 1048576) (h : RdRs w (.slice a len cap) ps) :
    Calls Tryd.prog 15 #[.agg #[.slice a len cap, .int .i64 n, .bool hs, .int .i64 vt, .int .i64 vn, .string vs]] w fun e w' => ∃ u', e = .returned (.agg #[u', .int .i64 n, .bool hs, .int .i64 vt, .int .i64 vn, .string vs]) ∧ ∃ qs, MyRs w.heap.size w'.heap.size w' u' qs ∧ qs.map (·.1) = ps.map (·.1) ∧ Below w.heap.size w w' := by
  have HS := Lib.hid (fun W (hW : Below w.heap.size w W) => toRowS (.slice a len cap) ps W hle hli (h.below hW))
  have HV := Lib.hid (fun W => toVal ⟨vt, vn, vs⟩ W)
  have B0 := below_alloc3 w (.cells #[.slice a len cap, .int .i64 n, .bool hs, .int .i64 vt, .int .i64 vn, .string vs] 41) (.cells #[.slice none 0 0, .int .i64 0, .bool false, .int .i64 0, .int .i64 0, .string ⟨#[]⟩] 50) (.cells #[.slice none 0 0, .int .i64 0, .bool false, .int .i64 0, .int .i64 0, .string ⟨#[]⟩] 50)
  have C0 := ((blk_new w [.slice a len cap, .int .i64 n, .bool hs, .int .i64 vt, .int .i64 vn, .string vs] 41).below (below_alloc _ (.cells #[.slice none 0 0, .int .i64 0, .bool false, .int .i64 0, .int .i64 0, .string ⟨#[]⟩] 50))).below (below_alloc _ (.cells #[.slice none 0 0, .int .i64 0, .bool false, .int .i64 0, .int .i64 0, .string ⟨#[]⟩] 50))
  have C1 := (blk_new (w.alloc (.cells #[.slice a len cap, .int .i64 n, .bool hs, .int .i64 vt, .int .i64 vn, .string vs] 41)) [.slice none 0 0, .int .i64 0, .bool false, .int .i64 0, .int .i64 0, .string ⟨#[]⟩] 50).below (below_alloc _ (.cells #[.slice none 0 0, .int .i64 0, .bool false, .int .i64 0, .int .i64 0, .string ⟨#[]⟩] 50))
  have C2 := blk_new ((w.alloc (.cells #[.slice a len cap, .int .i64 n, .bool hs, .int .i64 vt, .int .i64 vn, .string vs] 41)).alloc (.cells #[.slice none 0 0, .int .i64 0, .bool false, .int .i64 0, .int .i64 0, .string ⟨#[]⟩] 50)) [.slice none 0 0, .int .i64 0, .bool false, .int .i64 0, .int .i64 0, .string ⟨#[]⟩] 50
  rw [World.size_alloc] at C1
  rw [World.size_alloc, World.size_alloc] at C2
  have HSZ : Hid ((((w.alloc (.cells #[.slice a len cap, .int .i64 n, .bool hs, .int .i64 vt, .int .i64 vn, .string vs] 41)).alloc (.cells #[.slice none 0 0, .int .i64 0, .bool false, .int .i64 0, .int .i64 0, .string ⟨#[]⟩] 50)).alloc (.cells #[.slice none 0 0, .int .i64 0, .bool false, .int .i64 0, .int .i64 0, .string ⟨#[]⟩] 50)).heap.size = w.heap.size + 3) := by
    show _ = _
    rw [World.size_alloc, World.size_alloc, World.size_alloc]
  clear h hli
  generalize hw0 : ((w.alloc (.cells #[.slice a len cap, .int .i64 n, .bool hs, .int .i64 vt, .int .i64 vn, .string vs] 41)).alloc (.cells #[.slice none 0 0, .int .i64 0, .bool false, .int .i64 0, .int .i64 0, .string ⟨#[]⟩] 50)).alloc (.cells #[.slice none 0 0, .int .i64 0, .bool false, .int .i64 0, .int .i64 0, .string ⟨#[]⟩] 50) = w0 at B0 C0 C1 C2 HSZ
  have HW0 := Lib.hid hw0
  have p0 := (C0 0 _ rfl).1
  clear hw0
  go_enter Tryd.func15, Tryd.ntmps15
  go_wp2_with fail
  rw [HW0.out]
  refine (HS.out _ B0).mono ?_
  rintro e w1 ⟨v1, qs, rfl, hqs, o1, b1⟩
  have hql : qs.length = ps.length := by simpa using congrArg List.length hqs
  obtain ⟨g1, c1, hv1⟩ : ∃ g cp, v1 = .slice (some ⟨g, 0, none⟩) qs.length cp := by
    obtain ⟨g, cp, e, _⟩ := o1.1
    exact ⟨g, cp, e⟩
  have M1 := o1.my
  generalize hm1 : qs.length = m1 at hv1
  subst hv1
  have HQS := Lib.hid hqs
  clear p0 hql hm1 hqs o1
  have B1 := below_then B0 b1 B0.size
  have hs1 := b1.size
  rw [HSZ.out] at hs1 M1
  replace C0 := C0.below b1
  replace C1 := C1.below b1
  replace C2 := C2.below b1
  have D2 := (((C2.set 0 (.slice (some ⟨g1, 0, none⟩) m1 c1)).set 1 (.int .i64 n)).set 2 (.bool hs))
  have D1 := (((C1.other (p := ⟨w.heap.size + 1 + 1, 0, none⟩) (by simp) (.slice (some ⟨g1, 0, none⟩) m1 c1)).other (p := ⟨w.heap.size + 1 + 1, 1, none⟩) (by simp) (.int .i64 n)).other (p := ⟨w.heap.size + 1 + 1, 2, none⟩) (by simp) (.bool hs))
  have D0 := (((C0.other (p := ⟨w.heap.size + 1 + 1, 0, none⟩) (by simp; omega) (.slice (some ⟨g1, 0, none⟩) m1 c1)).other (p := ⟨w.heap.size + 1 + 1, 1, none⟩) (by simp; omega) (.int .i64 n)).other (p := ⟨w.heap.size + 1 + 1, 2, none⟩) (by simp; omega) (.bool hs))
  have B2 := (((B1.setCell (p := ⟨w.heap.size + 1 + 1, 0, none⟩) (by simp; omega) (.slice (some ⟨g1, 0, none⟩) m1 c1)).setCell (p := ⟨w.heap.size + 1 + 1, 1, none⟩) (by simp; omega) (.int .i64 n)).setCell (p := ⟨w.heap.size + 1 + 1, 2, none⟩) (by simp; omega) (.bool hs))
  have M2 := (((M1.setBelow (a := ⟨w.heap.size + 1 + 1, 0, none⟩) (by simp) (.slice (some ⟨g1, 0, none⟩) m1 c1)).setBelow (a := ⟨w.heap.size + 1 + 1, 1, none⟩) (by simp) (.int .i64 n)).setBelow (a := ⟨w.heap.size + 1 + 1, 2, none⟩) (by simp) (.bool hs))
  have c1' := (C0 1 _ rfl).1
  have c2' := (C0 2 _ rfl).1
  have c3' := (C0 3 _ rfl).1
  have c4' := (C0 4 _ rfl).1
  have c5' := (C0 5 _ rfl).1
  have e0 := (C2 0 _ rfl).1
  have f0 := (C2 0 _ rfl).2
  have e1 := (C2 1 _ rfl).1
  have f1 := (C2 1 _ rfl).2
  have e2 := (C2 2 _ rfl).1
  have f2 := (C2 2 _ rfl).2
  have hs2 : (((w1.setCell ⟨w.heap.size + 1 + 1, 0, none⟩ (.slice (some ⟨g1, 0, none⟩) m1 c1)).setCell ⟨w.heap.size + 1 + 1, 1, none⟩ (.int .i64 n)).setCell ⟨w.heap.size + 1 + 1, 2, none⟩ (.bool hs)).heap.size = w1.heap.size := by simp [World.setCell]
  rw [← hs2] at M2
  have HG : Hid (w.heap.size + 3 ≤ (((w1.setCell ⟨w.heap.size + 1 + 1, 0, none⟩ (.slice (some ⟨g1, 0, none⟩) m1 c1)).setCell ⟨w.heap.size + 1 + 1, 1, none⟩ (.int .i64 n)).setCell ⟨w.heap.size + 1 + 1, 2, none⟩ (.bool hs)).heap.size) := by
    show _ ≤ _
    rw [hs2]
    exact hs1
  generalize hw2 : (((w1.setCell ⟨w.heap.size + 1 + 1, 0, none⟩ (.slice (some ⟨g1, 0, none⟩) m1 c1)).setCell ⟨w.heap.size + 1 + 1, 1, none⟩ (.int .i64 n)).setCell ⟨w.heap.size + 1 + 1, 2, none⟩ (.bool hs)) = w2 at D1 D2 D0 B2 M2 HG
  have HW2 := Lib.hid hw2
  clear hw2 b1 HS C0 C1 C2 B0 B1 M1 hs2 hs1
  go_wp2_with fail
  rw [HW2.out]
  refine (HV.out _).mono ?_
  rintro e w3 ⟨rfl, b3⟩
  have B3 := below_then B2 b3 B2.size
  replace D1 := D1.below b3
  replace D2 := D2.below b3
  have HM2 := Lib.hid (M2.below b3 (Nat.le_refl _))
  have HS3 := Lib.hid b3.size
  simp only [List.set_cons_succ, List.set_cons_zero] at D2
  obtain ⟨d0, gg0⟩ := D2 0 _ rfl
  obtain ⟨d1, gg1⟩ := D2 1 _ rfl
  obtain ⟨d2, gg2⟩ := D2 2 _ rfl
  obtain ⟨d3, gg3⟩ := D2 3 _ rfl
  obtain ⟨d4, gg4⟩ := D2 4 _ rfl
  obtain ⟨d5, gg5⟩ := D2 5 _ rfl
  obtain ⟨mm0, nn0⟩ := D1 0 _ rfl
  obtain ⟨mm1, nn1⟩ := D1 1 _ rfl
  obtain ⟨mm2, nn2⟩ := D1 2 _ rfl
  obtain ⟨mm3, nn3⟩ := D1 3 _ rfl
  obtain ⟨mm4, nn4⟩ := D1 4 _ rfl
  obtain ⟨mm5, nn5⟩ := D1 5 _ rfl
  clear D0 D1 D2 b3 B2 M2 HV c1' c2' c3' c4' c5' e0 e1 e2 f0 f1 f2 HW2 HW0 HSZ
  go_wp2
  refine bodyPost_ret (v := .agg #[.slice (some ⟨g1, 0, none⟩) m1 c1, .int .i64 n, .bool hs, .int .i64 vt, .int .i64 vn, .string vs]) (by simp [results, Tryd.results15, go_sem, *]) rfl ⟨_, rfl, qs, ?_, HQS.out, ?_⟩
  · have := HG.out
    exact MyRs.wide ((((((((((HM2.out.setBelow (by simp) _).setBelow (by simp) _).setBelow (by simp) _).setBelow (by simp) _).setBelow (by simp) _).setBelow (by simp) _).setBelow (by simp) _).setBelow (by simp) _).setBelow (by simp) _)) (by omega) (by have := HS3.out; simpa using this)
  · exact (((((((((B3.setCell (by simp; omega) _).setCell (by simp; omega) _).setCell (by simp; omega) _).setCell (by simp) _).setCell (by simp) _).setCell (by simp) _).setCell (by simp) _).setCell (by simp) _).setCell (by simp) _)

set_option maxHeartbeats 1000000 in
theorem eqResult (n : Int) (hs : Bool) (vt vn : Int) (vs : ByteArray) (u1 u2 : Value) (ps qs : List P) (w : World) (he : qs.map (·.1) = ps.map (·.1)) (h1 : RdRs w u1 ps) (h2 : RdRs w u2 qs) :
    Calls Tryd.prog 18 #[.agg #[u1, .int .i64 n, .bool hs, .int .i64 vt, .int .i64 vn, .string vs], .agg #[u2, .int .i64 n, .bool hs, .int .i64 vt, .int .i64 vn, .string vs]] w fun e w' => e = .returned (.bool true) ∧ Below w.heap.size w w' := by
  have HS := Lib.hid (fun W (hW : Below w.heap.size w W) => eqRowS u1 u2 ps qs W he (h1.below hW) (h2.below hW))
  have HV := Lib.hid (fun W => eqVal ⟨vt, vn, vs⟩ W)
  have B0 := below_alloc2 w (.cells #[u1, .int .i64 n, .bool hs, .int .i64 vt, .int .i64 vn, .string vs] 50) (.cells #[u2, .int .i64 n, .bool hs, .int .i64 vt, .int .i64 vn, .string vs] 50)
  have C0 := (blk_new w [u1, .int .i64 n, .bool hs, .int .i64 vt, .int .i64 vn, .string vs] 50).below (below_alloc _ (.cells #[u2, .int .i64 n, .bool hs, .int .i64 vt, .int .i64 vn, .string vs] 50))
  have C1 := blk_new (w.alloc (.cells #[u1, .int .i64 n, .bool hs, .int .i64 vt, .int .i64 vn, .string vs] 50)) [u2, .int .i64 n, .bool hs, .int .i64 vt, .int .i64 vn, .string vs] 50
  rw [World.size_alloc] at C1
  obtain ⟨⟨a1, x1, hu1, _⟩, _⟩ := h1
  obtain ⟨⟨a2, x2, hu2, _⟩, _⟩ := h2
  generalize ps.length = m1 at hu1
  generalize qs.length = m2 at hu2
  subst hu1 hu2
  have hn : (n != n) = false := by simp
  have hh : (hs != hs) = false := by simp
  go_enter Tryd.func18, Tryd.ntmps18
  go_wp2_with fail
  refine (HS.out _ B0).mono ?_
  rintro e w1 ⟨rfl, b1⟩
  have B1 := below_then B0 b1 B0.size
  have c1 := (C0.below b1 1 _ rfl).1
  have d1 := (C1.below b1 1 _ rfl).1
  have c2 := (C0.below b1 2 _ rfl).1
  have d2 := (C1.below b1 2 _ rfl).1
  have c3 := (C0.below b1 3 _ rfl).1
  have d3 := (C1.below b1 3 _ rfl).1
  have c4 := (C0.below b1 4 _ rfl).1
  have d4 := (C1.below b1 4 _ rfl).1
  have c5 := (C0.below b1 5 _ rfl).1
  have d5 := (C1.below b1 5 _ rfl).1
  clear b1 HS C0 C1 B0
  go_wp2_with fail
  refine (HV.out _).mono ?_
  rintro e w2 ⟨rfl, b2⟩
  have B2 := below_then B1 b2 B1.size
  clear b2 HV c1 d1 c2 d2 c3 d3 c4 d4 c5 d5
  go_wp2
  go_ret
  exact ⟨rfl, B2⟩

set_option maxHeartbeats 1000000 in
theorem markResult (n : Int) (hs : Bool) (vt vn : Int) (vs : ByteArray) (u : Value) (ps : List P) (lo hi s : Nat) (w : World) (hz : hi ≤ w.heap.size) (h0 : 0 < s) (hsb : s ≤ 67108864) (hn : ps.length ≤ 1048576) (hr : rlen ps ≤ 16777216) (h : MyRs lo hi w u ps) :
    Calls Tryd.prog 22 #[.agg #[u, .int .i64 n, .bool hs, .int .i64 vt, .int .i64 vn, .string vs], .int .i64 s] w fun e w' => e = .returned (.int .i64 (s + rlen ps : Nat)) ∧ MyRs lo hi w' u (rmarks s ps) ∧ Within lo hi w w' := by
  have B0 := below_alloc w (.cells #[u, .int .i64 n, .bool hs, .int .i64 vt, .int .i64 vn, .string vs] 50)
  have C0 := blk_new w [u, .int .i64 n, .bool hs, .int .i64 vt, .int .i64 vn, .string vs] 50
  have p0 := (C0 0 _ rfl).1
  have HM := Lib.hid (markRowsM u ps lo hi s (w.alloc (.cells #[u, .int .i64 n, .bool hs, .int .i64 vt, .int .i64 vn, .string vs] 50)) h0 hsb hn hr (h.below B0 hz))
  have HW : Hid (Within lo hi w (w.alloc (.cells #[u, .int .i64 n, .bool hs, .int .i64 vt, .int .i64 vn, .string vs] 50))) := (Within.refl lo hi w).on B0
  generalize hw0 : w.alloc (.cells #[u, .int .i64 n, .bool hs, .int .i64 vt, .int .i64 vn, .string vs] 50) = w0 at p0 HM HW
  have HW0 := Lib.hid hw0
  obtain ⟨a, cp, hu⟩ := h.1.sl
  generalize ps.length = m at hu
  subst hu
  generalize hsm : s + rlen ps = sm at HM ⊢
  clear hsm hw0 h C0 B0
  go_enter Tryd.func22, Tryd.ntmps22
  go_wp2_with fail
  rw [HW0.out]
  refine HM.out.mono ?_
  rintro e w1 ⟨rfl, h1, h2⟩
  have HH := Lib.hid h1
  have HK := Lib.hid (HW.out.trans h2)
  clear h1 h2
  go_wp2
  go_ret
  exact ⟨rfl, HH.out, HK.out⟩

theorem heldResult (n : Int) (hs : Bool) (vt vn : Int) (vs : ByteArray) (u : Value) (ps : List P) (s : Nat) (w : World) (h0 : 0 < s) (hsb : s ≤ 1048576) (hn : ps.length ≤ 1048576) (hr : rlen ps ≤ 16777216) (h : RdRs w u (rmarks s ps)) :
    Calls Tryd.prog 23 #[.agg #[u, .int .i64 n, .bool hs, .int .i64 vt, .int .i64 vn, .string vs], .int .i64 s] w fun e w' => e = .returned (.int .i64 (s + rlen ps : Nat)) ∧ Below w.heap.size w w' := by
  have B0 := below_alloc w (.cells #[u, .int .i64 n, .bool hs, .int .i64 vt, .int .i64 vn, .string vs] 50)
  have C0 := blk_new w [u, .int .i64 n, .bool hs, .int .i64 vt, .int .i64 vn, .string vs] 50
  have p0 := (C0 0 _ rfl).1
  have HM := Lib.hid (heldRowS u ps s (w.alloc (.cells #[u, .int .i64 n, .bool hs, .int .i64 vt, .int .i64 vn, .string vs] 50)) h0 hsb hn hr (h.below B0))
  generalize hw0 : w.alloc (.cells #[u, .int .i64 n, .bool hs, .int .i64 vt, .int .i64 vn, .string vs] 50) = w0 at p0 HM B0
  have HW0 := Lib.hid hw0
  obtain ⟨⟨a, cp, hu, _⟩, _⟩ := h
  generalize (rmarks s ps).length = m at hu
  subst hu
  have hpos : ¬ (((s + rlen ps : Nat) : Int) < 0) := by omega
  generalize hsm : s + rlen ps = sm at HM hpos ⊢
  clear hsm hw0 C0
  go_enter Tryd.func23, Tryd.ntmps23
  go_wp2_with fail
  rw [HW0.out]
  refine HM.out.mono ?_
  rintro e w1 ⟨rfl, b1⟩
  have B1 := below_then B0 b1 B0.size
  clear b1
  go_wp2
  go_ret
  exact ⟨rfl, B1⟩

end Go.Proofs.YtkofafefnlommaaDoor

/- The model's Joined, of rows (written by mk_S12k.py). -/
namespace Go.Proofs.YtkofafefnlommaaDoor
open Go.RowKit


set_option maxRecDepth 100000 in
set_option maxHeartbeats 4000000 in
theorem sJoined1 (t : T) (qc : Int) (ua : Option Addr) (un uc : Nat) (oa : Option Addr) (on oc : Nat) (a b : Rs) (aa : Option Addr) (an ac : Nat) (ba : Option Addr) (bn bc : Nat) (psa psb : List P) (w : World) (ha : RdRsN w (.slice aa an ac) psa) (hpa : psa.map (·.1) = a.rows) (hb : RdRsN w (.slice ba bn bc) psb) (hpb : psb.map (·.1) = b.rows) (hna : psa.length ≤ 1048576) (hnb : psb.length ≤ 1048576) (hla : ∀ p ∈ psa, p.1.l.length ≤ 1048576) (hlb : ∀ p ∈ psb, p.1.l.length ≤ 1048576) :
    Calls Tryd.prog 19 #[.agg #[.int .i64 1, .int .i64 t.kind, .int .i64 t.col, .int .i64 t.op, .int .i64 t.v.ty, .int .i64 t.v.n, .string t.v.s, .slice ua un uc, .int .i64 qc, .slice oa on oc], .agg #[.slice aa an ac, .int .i64 a.n, .bool a.has, .int .i64 a.v.ty, .int .i64 a.v.n, .string a.v.s], .agg #[.slice ba bn bc, .int .i64 b.n, .bool b.has, .int .i64 b.v.ty, .int .i64 b.v.n, .string b.v.s]] w fun e w' => ∃ u' qs', e = .returned (.agg ((joinL 1 a b).cs u').toArray) ∧ MyRs w.heap.size w'.heap.size w' u' qs' ∧ qs'.map (·.1) = (joinL 1 a b).rows ∧ Below w.heap.size w w' := by
  have B0 : Below w.heap.size w (((((w.alloc (.cells #[.int .i64 1, .int .i64 t.kind, .int .i64 t.col, .int .i64 t.op, .int .i64 t.v.ty, .int .i64 t.v.n, .string t.v.s, .slice ua un uc, .int .i64 qc, .slice oa on oc] 46)).alloc (.cells #[.slice aa an ac, .int .i64 a.n, .bool a.has, .int .i64 a.v.ty, .int .i64 a.v.n, .string a.v.s] 50)).alloc (.cells #[.slice ba bn bc, .int .i64 b.n, .bool b.has, .int .i64 b.v.ty, .int .i64 b.v.n, .string b.v.s] 50)).alloc (.cells #[.slice none 0 0, .int .i64 0, .bool false, .int .i64 0, .int .i64 0, .string ⟨#[]⟩] 50)).alloc (.cells #[.slice none 0 0, .int .i64 0, .bool false, .int .i64 0, .int .i64 0, .string ⟨#[]⟩] 50)) := below_then (below_then (below_then (below_alloc2 w (.cells #[.int .i64 1, .int .i64 t.kind, .int .i64 t.col, .int .i64 t.op, .int .i64 t.v.ty, .int .i64 t.v.n, .string t.v.s, .slice ua un uc, .int .i64 qc, .slice oa on oc] 46) (.cells #[.slice aa an ac, .int .i64 a.n, .bool a.has, .int .i64 a.v.ty, .int .i64 a.v.n, .string a.v.s] 50)) (below_alloc _ (.cells #[.slice ba bn bc, .int .i64 b.n, .bool b.has, .int .i64 b.v.ty, .int .i64 b.v.n, .string b.v.s] 50)) (Below.size (below_alloc2 w (.cells #[.int .i64 1, .int .i64 t.kind, .int .i64 t.col, .int .i64 t.op, .int .i64 t.v.ty, .int .i64 t.v.n, .string t.v.s, .slice ua un uc, .int .i64 qc, .slice oa on oc] 46) (.cells #[.slice aa an ac, .int .i64 a.n, .bool a.has, .int .i64 a.v.ty, .int .i64 a.v.n, .string a.v.s] 50)))) (below_alloc _ (.cells #[.slice none 0 0, .int .i64 0, .bool false, .int .i64 0, .int .i64 0, .string ⟨#[]⟩] 50)) (by simp only [World.size_alloc]; omega)) (below_alloc _ (.cells #[.slice none 0 0, .int .i64 0, .bool false, .int .i64 0, .int .i64 0, .string ⟨#[]⟩] 50)) (by simp only [World.size_alloc]; omega)
  have C0 := ((((blk_new w [.int .i64 1, .int .i64 t.kind, .int .i64 t.col, .int .i64 t.op, .int .i64 t.v.ty, .int .i64 t.v.n, .string t.v.s, .slice ua un uc, .int .i64 qc, .slice oa on oc] 46).below (below_alloc _ (.cells #[.slice aa an ac, .int .i64 a.n, .bool a.has, .int .i64 a.v.ty, .int .i64 a.v.n, .string a.v.s] 50))).below (below_alloc _ (.cells #[.slice ba bn bc, .int .i64 b.n, .bool b.has, .int .i64 b.v.ty, .int .i64 b.v.n, .string b.v.s] 50))).below (below_alloc _ (.cells #[.slice none 0 0, .int .i64 0, .bool false, .int .i64 0, .int .i64 0, .string ⟨#[]⟩] 50))).below (below_alloc _ (.cells #[.slice none 0 0, .int .i64 0, .bool false, .int .i64 0, .int .i64 0, .string ⟨#[]⟩] 50))
  have CA := (((blk_new (w.alloc (.cells #[.int .i64 1, .int .i64 t.kind, .int .i64 t.col, .int .i64 t.op, .int .i64 t.v.ty, .int .i64 t.v.n, .string t.v.s, .slice ua un uc, .int .i64 qc, .slice oa on oc] 46)) [.slice aa an ac, .int .i64 a.n, .bool a.has, .int .i64 a.v.ty, .int .i64 a.v.n, .string a.v.s] 50).below (below_alloc _ (.cells #[.slice ba bn bc, .int .i64 b.n, .bool b.has, .int .i64 b.v.ty, .int .i64 b.v.n, .string b.v.s] 50))).below (below_alloc _ (.cells #[.slice none 0 0, .int .i64 0, .bool false, .int .i64 0, .int .i64 0, .string ⟨#[]⟩] 50))).below (below_alloc _ (.cells #[.slice none 0 0, .int .i64 0, .bool false, .int .i64 0, .int .i64 0, .string ⟨#[]⟩] 50))
  have CB := ((blk_new ((w.alloc (.cells #[.int .i64 1, .int .i64 t.kind, .int .i64 t.col, .int .i64 t.op, .int .i64 t.v.ty, .int .i64 t.v.n, .string t.v.s, .slice ua un uc, .int .i64 qc, .slice oa on oc] 46)).alloc (.cells #[.slice aa an ac, .int .i64 a.n, .bool a.has, .int .i64 a.v.ty, .int .i64 a.v.n, .string a.v.s] 50)) [.slice ba bn bc, .int .i64 b.n, .bool b.has, .int .i64 b.v.ty, .int .i64 b.v.n, .string b.v.s] 50).below (below_alloc _ (.cells #[.slice none 0 0, .int .i64 0, .bool false, .int .i64 0, .int .i64 0, .string ⟨#[]⟩] 50))).below (below_alloc _ (.cells #[.slice none 0 0, .int .i64 0, .bool false, .int .i64 0, .int .i64 0, .string ⟨#[]⟩] 50))
  have CR := (blk_new (((w.alloc (.cells #[.int .i64 1, .int .i64 t.kind, .int .i64 t.col, .int .i64 t.op, .int .i64 t.v.ty, .int .i64 t.v.n, .string t.v.s, .slice ua un uc, .int .i64 qc, .slice oa on oc] 46)).alloc (.cells #[.slice aa an ac, .int .i64 a.n, .bool a.has, .int .i64 a.v.ty, .int .i64 a.v.n, .string a.v.s] 50)).alloc (.cells #[.slice ba bn bc, .int .i64 b.n, .bool b.has, .int .i64 b.v.ty, .int .i64 b.v.n, .string b.v.s] 50)) [.slice none 0 0, .int .i64 0, .bool false, .int .i64 0, .int .i64 0, .string ⟨#[]⟩] 50).below (below_alloc _ (.cells #[.slice none 0 0, .int .i64 0, .bool false, .int .i64 0, .int .i64 0, .string ⟨#[]⟩] 50))
  have CO := blk_new ((((w.alloc (.cells #[.int .i64 1, .int .i64 t.kind, .int .i64 t.col, .int .i64 t.op, .int .i64 t.v.ty, .int .i64 t.v.n, .string t.v.s, .slice ua un uc, .int .i64 qc, .slice oa on oc] 46)).alloc (.cells #[.slice aa an ac, .int .i64 a.n, .bool a.has, .int .i64 a.v.ty, .int .i64 a.v.n, .string a.v.s] 50)).alloc (.cells #[.slice ba bn bc, .int .i64 b.n, .bool b.has, .int .i64 b.v.ty, .int .i64 b.v.n, .string b.v.s] 50)).alloc (.cells #[.slice none 0 0, .int .i64 0, .bool false, .int .i64 0, .int .i64 0, .string ⟨#[]⟩] 50)) [.slice none 0 0, .int .i64 0, .bool false, .int .i64 0, .int .i64 0, .string ⟨#[]⟩] 50
  have hz0 : (((((w.alloc (.cells #[.int .i64 1, .int .i64 t.kind, .int .i64 t.col, .int .i64 t.op, .int .i64 t.v.ty, .int .i64 t.v.n, .string t.v.s, .slice ua un uc, .int .i64 qc, .slice oa on oc] 46)).alloc (.cells #[.slice aa an ac, .int .i64 a.n, .bool a.has, .int .i64 a.v.ty, .int .i64 a.v.n, .string a.v.s] 50)).alloc (.cells #[.slice ba bn bc, .int .i64 b.n, .bool b.has, .int .i64 b.v.ty, .int .i64 b.v.n, .string b.v.s] 50)).alloc (.cells #[.slice none 0 0, .int .i64 0, .bool false, .int .i64 0, .int .i64 0, .string ⟨#[]⟩] 50)).alloc (.cells #[.slice none 0 0, .int .i64 0, .bool false, .int .i64 0, .int .i64 0, .string ⟨#[]⟩] 50)).heap.size = w.heap.size + 5 := by simp only [World.size_alloc]
  simp only [World.size_alloc] at CA CB CR CO
  generalize hw0 : (((((w.alloc (.cells #[.int .i64 1, .int .i64 t.kind, .int .i64 t.col, .int .i64 t.op, .int .i64 t.v.ty, .int .i64 t.v.n, .string t.v.s, .slice ua un uc, .int .i64 qc, .slice oa on oc] 46)).alloc (.cells #[.slice aa an ac, .int .i64 a.n, .bool a.has, .int .i64 a.v.ty, .int .i64 a.v.n, .string a.v.s] 50)).alloc (.cells #[.slice ba bn bc, .int .i64 b.n, .bool b.has, .int .i64 b.v.ty, .int .i64 b.v.n, .string b.v.s] 50)).alloc (.cells #[.slice none 0 0, .int .i64 0, .bool false, .int .i64 0, .int .i64 0, .string ⟨#[]⟩] 50)).alloc (.cells #[.slice none 0 0, .int .i64 0, .bool false, .int .i64 0, .int .i64 0, .string ⟨#[]⟩] 50)) = w0 at B0 C0 CA CB CR CO hz0
  have HW0 := Lib.hid hw0
  have k0 := (C0 0 _ rfl).1
  clear hw0
  have HLA := Lib.hid (fun W (hW : Below w.heap.size w W) => sL4All (.slice aa an ac) psa W hna hla (ha.below hW))
  have HLB := Lib.hid (fun W (hW : Below w.heap.size w W) => sL4All (.slice ba bn bc) psb W hnb hlb (hb.below hW))
  have BD := (Below.refl w0.heap.size w0).drew
  have Bwd := below_then B0 BD B0.size
  have CAwd := CA.below BD
  have CBwd := CB.below BD
  have CRwd := CR.below BD
  have COwd := CO.below BD
  have hzd : w0.drew.heap.size = w.heap.size + 5 := hz0
  clear C0 CA CB CR CO ha hb
  go_enter Tryd.func19, Tryd.ntmps19
  go_wp2
  rw [HW0.out]
  refine wp_region_held_drew (S := fun W => W.cell? ⟨w.heap.size + 1, 0, none⟩ = some (.slice aa an ac) ∧ W.cell? ⟨w.heap.size + 1 + 1, 0, none⟩ = some (.slice ba bn bc)) (by kernel_rfl) ⟨(CAwd 0 _ rfl).1, (CBwd 0 _ rfl).1⟩ (fun hH => ?_)
  clear BD k0 B0 hz0 HW0
  generalize w0.drew = wd at Bwd CAwd CBwd CRwd COwd hzd hH ⊢
  refine takeH (i := 0) (d := some 14) (v := .pointer (some ⟨w.heap.size + 1, 0, none⟩)) rfl rfl (by kernel_rfl) (by kernel_rfl) (by kernel_rfl) (fun _ _ _ h => h) (Or.inl ⟨by rfl, fun W hSw => by obtain ⟨s0, s1⟩ := hSw; go_simp⟩) hH ?_
  try simp only [put_some, List.set_cons_zero, List.set_cons_succ]
  refine takeH (i := 1) (d := some 15) (v := .slice aa an ac) rfl rfl (by kernel_rfl) (by kernel_rfl) (by kernel_rfl) (fun _ _ _ h => h) (Or.inl ⟨by rfl, fun W hSw => by obtain ⟨s0, s1⟩ := hSw; go_simp⟩) hH ?_
  try simp only [put_some, List.set_cons_zero, List.set_cons_succ]
  refine takeH (i := 3) (d := some 17) (v := .pointer (some ⟨w.heap.size + 1 + 1, 0, none⟩)) rfl rfl (by kernel_rfl) (by kernel_rfl) (by kernel_rfl) (fun _ _ _ h => h) (Or.inl ⟨by rfl, fun W hSw => by obtain ⟨s0, s1⟩ := hSw; go_simp⟩) hH ?_
  try simp only [put_some, List.set_cons_zero, List.set_cons_succ]
  refine takeH (i := 4) (d := some 18) (v := .slice ba bn bc) rfl rfl (by kernel_rfl) (by kernel_rfl) (by kernel_rfl) (fun _ _ _ h => h) (Or.inl ⟨by rfl, fun W hSw => by obtain ⟨s0, s1⟩ := hSw; go_simp⟩) hH ?_
  try simp only [put_some, List.set_cons_zero, List.set_cons_succ]
  refine wpAnyH_ready (rs := [2]) (by kernel_rfl) (by simp) ?_
  refine AllReadyH.cons rfl (fun K hK => ?_) AllReadyH.nil
  go_simp
  go_at_call 46
  refine (HLA.out _ Bwd).mono ?_
  rintro e w1 ⟨va, qa, rfl, Ma, Ea, ⟨ga, ca, rfl⟩, bw1⟩
  have Bw1 := below_then Bwd bw1 Bwd.size
  have CRw1 := CRwd.below bw1
  have COw1 := COwd.below bw1
  have CAw1 := CAwd.below bw1
  have CBw1 := CBwd.below bw1
  have zw1 := bw1.size
  go_wp2_with fail
  refine hK.out _ _ ⟨(CAw1 0 _ rfl).1, (CBw1 0 _ rfl).1⟩ (fun hH => ?_)
  clear hK K
  refine wpAnyH_ready (rs := [5]) (by kernel_rfl) (by simp) ?_
  refine AllReadyH.cons rfl (fun K hK => ?_) AllReadyH.nil
  go_simp
  go_at_call 46
  refine (HLB.out _ Bw1).mono ?_
  rintro e w2 ⟨vb, qb, rfl, Mb, Eb, ⟨gb, cb, rfl⟩, bw2⟩
  have Bw2 := below_then Bw1 bw2 Bw1.size
  have CRw2 := CRw1.below bw2
  have COw2 := COw1.below bw2
  have CAw2 := CAw1.below bw2
  have CBw2 := CBw1.below bw2
  have zw2 := bw2.size
  go_wp2_with fail
  refine hK.out _ _ ⟨(CAw2 0 _ rfl).1, (CBw2 0 _ rfl).1⟩ (fun hH => ?_)
  clear hK K
  refine wpAnyH_ready (rs := [6]) (by kernel_rfl) (by simp) ?_
  refine AllReadyH.cons rfl (fun K hK => ?_) AllReadyH.nil
  have MA := (Ma.below bw2 (Nat.le_refl _))
  have MB := Mb
  have OA : Own 91 2 wd.heap.size w1.heap.size w2 (.slice (some ⟨ga, 0, none⟩) qa.length ca) qa.length (prs qa) := MA.1.resolve_left (fun h => by cases h.1)
  have LA : qa.length ≤ 1048576 := by
    have e := congrArg List.length Ea
    rw [List.length_map, List.length_map] at e
    omega
  have LB : qb.length ≤ 1048576 := by
    have e := congrArg List.length Eb
    rw [List.length_map, List.length_map] at e
    omega
  refine appendN_op Tryd.elemRows (.tmp 16) (.tmp 19) rfl wd.heap.size w1.heap.size (.slice (some ⟨ga, 0, none⟩) qa.length ca) qa.length (prs qa) rfl OA (.slice (some ⟨gb, 0, none⟩) qb.length cb) qb.length (prs qb) rfl MB.atN (prs_one MB) (by unfold maxLen; omega) (by omega) ?_
  intro v3 w3 oo3 e3
  have M3 := MyRs.join (lo := wd.heap.size) MA MB OA (by omega) (by omega) (by omega) (by omega) (.inl (Nat.le_refl _)) oo3 e3
  have hne : ∀ x, x < wd.heap.size → (Value.slice (some ⟨ga, 0, none⟩) qa.length ca).ownBlock ≠ some x := fun x hx e => by
    have := OwnN.not_low (b := x) MA.1 (by omega)
    exact this e
  have B3 := Bw2.grown e3.grown Bw2.size (fun k hk => Nat.le_of_not_lt (fun hlt => hne k (by omega) hk))
  have CR3 := CRw2.ext e3 (hne _ (by omega))
  have CO3 := COw2.ext e3 (hne _ (by omega))
  have CA3 := CAw2.ext e3 (hne _ (by omega))
  have CB3 := CBw2.ext e3 (hne _ (by omega))
  have z3 := e3.grown.size
  obtain ⟨vg, vc, hv3⟩ : ∃ g cp, v3 = .slice (some ⟨g, 0, none⟩) (qa.length + qb.length) cp := by obtain ⟨g, cp, e, _⟩ := oo3; exact ⟨g, cp, e⟩
  subst hv3
  refine hK.out _ _ ⟨(CA3 0 _ rfl).1, (CB3 0 _ rfl).1⟩ (fun hH => ?_)
  clear hK K
  refine takeH (i := 7) (d := some 21) (v := .pointer (some ⟨w.heap.size + 1 + 1 + 1 + 1, 0, none⟩)) rfl rfl (by kernel_rfl) (by kernel_rfl) (by kernel_rfl) (fun _ _ _ h => h) (Or.inl ⟨by rfl, fun W hSw => by obtain ⟨s0, s1⟩ := hSw; go_simp⟩) hH ?_
  try simp only [put_some, List.set_cons_zero, List.set_cons_succ]
  refine wpAnyH_ready (rs := [8]) (by kernel_rfl) (by simp) ?_
  refine AllReadyH.cons rfl (fun K hK => ?_) AllReadyH.nil
  obtain ⟨c0, f0⟩ := CO3 0 _ rfl
  go_simp
  refine hK.out _ _ ⟨((CA3.other (p := ⟨w.heap.size + 1 + 1 + 1 + 1, 0, none⟩) (by show w.heap.size + 1 + 1 + 1 + 1 ≠ w.heap.size + 1; omega) _) 0 _ rfl).1, ((CB3.other (p := ⟨w.heap.size + 1 + 1 + 1 + 1, 0, none⟩) (by show w.heap.size + 1 + 1 + 1 + 1 ≠ w.heap.size + 1 + 1; omega) _) 0 _ rfl).1⟩ (fun hH => ?_)
  clear hK K c0 f0
  have CO4 : Blk (w3.setCell ⟨w.heap.size + 1 + 1 + 1 + 1, 0, none⟩ (.slice (some ⟨vg, 0, none⟩) (qa.length + qb.length) vc)) (w.heap.size + 1 + 1 + 1 + 1) [.slice (some ⟨vg, 0, none⟩) (qa.length + qb.length) vc, .int .i64 0, .bool false, .int .i64 0, .int .i64 0, .string ⟨#[]⟩] := CO3.set 0 (.slice (some ⟨vg, 0, none⟩) (qa.length + qb.length) vc)
  have CR4 := CR3.other (p := ⟨w.heap.size + 1 + 1 + 1 + 1, 0, none⟩) (by show w.heap.size + 1 + 1 + 1 + 1 ≠ w.heap.size + 1 + 1 + 1; omega) (.slice (some ⟨vg, 0, none⟩) (qa.length + qb.length) vc)
  generalize hvl : qa.length + qb.length = vl at CO4 CR4 M3 ⊢
  have o0 := (CO4 0 _ rfl).1
  obtain ⟨r0, f0⟩ := CR4 0 _ rfl
  have o1 := (CO4 1 _ rfl).1
  obtain ⟨r1, f1⟩ := CR4 1 _ rfl
  have o2 := (CO4 2 _ rfl).1
  obtain ⟨r2, f2⟩ := CR4 2 _ rfl
  have o3 := (CO4 3 _ rfl).1
  obtain ⟨r3, f3⟩ := CR4 3 _ rfl
  have o4 := (CO4 4 _ rfl).1
  obtain ⟨r4, f4⟩ := CR4 4 _ rfl
  have o5 := (CO4 5 _ rfl).1
  obtain ⟨r5, f5⟩ := CR4 5 _ rfl
  have HM3 := Lib.hid M3
  have HE : Hid ((qa ++ qb).map (·.1) = a.rows ++ b.rows) := by
    show _ = _
    rw [List.map_append, Ea, Eb, hpa, hpb]
  have HJ : Hid (joinL 1 a b = ⟨a.rows ++ b.rows, 0, false, V.zero⟩) := by
    show _ = _
    simp [joinL]
  clear M3 oo3 e3 CO4 CR4 CO3 CR3 CA3 CB3 MA MB OA Ma Mb Ea Eb hvl hne
  refine wpAnyH_done (by kernel_rfl) ?_ _
  go_wp2
  refine bodyPost_ret (v := .agg #[.slice (some ⟨vg, 0, none⟩) vl vc, .int .i64 0, .bool false, .int .i64 0, .int .i64 0, .string ⟨#[]⟩]) (by simp [results, Tryd.results19, go_sem, *]) rfl ⟨.slice (some ⟨vg, 0, none⟩) vl vc, qa ++ qb, (by rw [HJ.out]; rfl), ?_, (by rw [HJ.out]; exact HE.out), (((((((B3.setCell (by simp; omega) _).setCell (by simp; omega) _).setCell (by simp; omega) _).setCell (by simp; omega) _).setCell (by simp; omega) _).setCell (by simp; omega) _).setCell (by simp; omega) _)⟩
  exact MyRs.wide (MyRs.setBelow (MyRs.setBelow (MyRs.setBelow (MyRs.setBelow (MyRs.setBelow (MyRs.setBelow (MyRs.setBelow HM3.out (by simp; omega) _) (by simp; omega) _) (by simp; omega) _) (by simp; omega) _) (by simp; omega) _) (by simp; omega) _) (by simp; omega) _) (by omega) (by simp [World.setCell])

end Go.Proofs.YtkofafefnlommaaDoor

/- The model's Joined, of any kind (written by mk_S12k.py). -/
namespace Go.Proofs.YtkofafefnlommaaDoor
open Go.RowKit

set_option maxRecDepth 100000 in
set_option maxHeartbeats 4000000 in
theorem sJoined (qk : Int) (t : T) (qc : Int) (ua : Option Addr) (un uc : Nat) (oa : Option Addr) (on oc : Nat) (a b : Rs) (aa : Option Addr) (an ac : Nat) (ba : Option Addr) (bn bc : Nat) (psa psb : List P) (w : World) (ha : RdRsN w (.slice aa an ac) psa) (hpa : psa.map (·.1) = a.rows) (hb : RdRsN w (.slice ba bn bc) psb) (hpb : psb.map (·.1) = b.rows) (hna : psa.length ≤ 1048576) (hnb : psb.length ≤ 1048576) (hla : ∀ p ∈ psa, p.1.l.length ≤ 1048576) (hlb : ∀ p ∈ psb, p.1.l.length ≤ 1048576) :
    Calls Tryd.prog 19 #[.agg #[.int .i64 qk, .int .i64 t.kind, .int .i64 t.col, .int .i64 t.op, .int .i64 t.v.ty, .int .i64 t.v.n, .string t.v.s, .slice ua un uc, .int .i64 qc, .slice oa on oc], .agg #[.slice aa an ac, .int .i64 a.n, .bool a.has, .int .i64 a.v.ty, .int .i64 a.v.n, .string a.v.s], .agg #[.slice ba bn bc, .int .i64 b.n, .bool b.has, .int .i64 b.v.ty, .int .i64 b.v.n, .string b.v.s]] w fun e w' => ∃ u' qs', e = .returned (.agg ((joinL qk a b).cs u').toArray) ∧ MyRs w.heap.size w'.heap.size w' u' qs' ∧ qs'.map (·.1) = (joinL qk a b).rows ∧ Below w.heap.size w w' := by
  by_cases hk : 1 ≤ qk ∧ qk ≤ 5
  · rcases kinds5 hk with rfl | rfl | rfl | rfl | rfl
    · exact sJoined1 t qc ua un uc oa on oc a b aa an ac ba bn bc psa psb w ha hpa hb hpb hna hnb hla hlb
    · exact sJoined2 t qc ua un uc oa on oc a b aa an ac ba bn bc w
    · exact sJoined3 t qc ua un uc oa on oc a b aa an ac ba bn bc w
    · obtain ⟨Ar, An, Ah, ⟨At, Av, As⟩⟩ := a
      obtain ⟨Br, Bn, Bh, ⟨Bt, Bv, Bs⟩⟩ := b
      cases Ah <;> cases Bh
      · refine (sJoined4_ff t qc ua un uc oa on oc Ar An At Av As Br Bn Bt Bv Bs aa an ac ba bn bc w).mono ?_
        rintro e w' ⟨rfl, hb'⟩
        exact ⟨.slice none 0 0, [], rfl, ⟨.inl ⟨rfl, rfl, rfl⟩, fun p hp => (by cases hp), List.Pairwise.nil⟩, by simp [joinL], hb'⟩
      · refine (sJoined4_ft t qc ua un uc oa on oc Ar An At Av As Br Bn Bt Bv Bs aa an ac ba bn bc w).mono ?_
        rintro e w' ⟨rfl, hb'⟩
        exact ⟨.slice none 0 0, [], rfl, ⟨.inl ⟨rfl, rfl, rfl⟩, fun p hp => (by cases hp), List.Pairwise.nil⟩, by simp [joinL], hb'⟩
      · refine (sJoined4_tf t qc ua un uc oa on oc Ar An At Av As Br Bn Bt Bv Bs aa an ac ba bn bc w).mono ?_
        rintro e w' ⟨rfl, hb'⟩
        exact ⟨.slice none 0 0, [], rfl, ⟨.inl ⟨rfl, rfl, rfl⟩, fun p hp => (by cases hp), List.Pairwise.nil⟩, by simp [joinL], hb'⟩
      · refine (sJoined4_tt t qc ua un uc oa on oc Ar An At Av As Br Bn Bt Bv Bs aa an ac ba bn bc w).mono ?_
        rintro e w' ⟨rfl, hb'⟩
        exact ⟨.slice none 0 0, [], rfl, ⟨.inl ⟨rfl, rfl, rfl⟩, fun p hp => (by cases hp), List.Pairwise.nil⟩, by simp [joinL], hb'⟩
    · obtain ⟨Ar, An, Ah, ⟨At, Av, As⟩⟩ := a
      obtain ⟨Br, Bn, Bh, ⟨Bt, Bv, Bs⟩⟩ := b
      cases Ah <;> cases Bh
      · refine (sJoined5_ff t qc ua un uc oa on oc Ar An At Av As Br Bn Bt Bv Bs aa an ac ba bn bc w).mono ?_
        rintro e w' ⟨rfl, hb'⟩
        exact ⟨.slice none 0 0, [], rfl, ⟨.inl ⟨rfl, rfl, rfl⟩, fun p hp => (by cases hp), List.Pairwise.nil⟩, by simp [joinL], hb'⟩
      · refine (sJoined5_ft t qc ua un uc oa on oc Ar An At Av As Br Bn Bt Bv Bs aa an ac ba bn bc w).mono ?_
        rintro e w' ⟨rfl, hb'⟩
        exact ⟨.slice none 0 0, [], rfl, ⟨.inl ⟨rfl, rfl, rfl⟩, fun p hp => (by cases hp), List.Pairwise.nil⟩, by simp [joinL], hb'⟩
      · refine (sJoined5_tf t qc ua un uc oa on oc Ar An At Av As Br Bn Bt Bv Bs aa an ac ba bn bc w).mono ?_
        rintro e w' ⟨rfl, hb'⟩
        exact ⟨.slice none 0 0, [], rfl, ⟨.inl ⟨rfl, rfl, rfl⟩, fun p hp => (by cases hp), List.Pairwise.nil⟩, by simp [joinL], hb'⟩
      · refine (sJoined5_tt t qc ua un uc oa on oc Ar An At Av As Br Bn Bt Bv Bs aa an ac ba bn bc w).mono ?_
        rintro e w' ⟨rfl, hb'⟩
        exact ⟨.slice none 0 0, [], rfl, ⟨.inl ⟨rfl, rfl, rfl⟩, fun p hp => (by cases hp), List.Pairwise.nil⟩, by simp [joinL], hb'⟩
  · exact sJoinedNo qk hk t qc ua un uc oa on oc a b aa an ac ba bn bc w

end Go.Proofs.YtkofafefnlommaaDoor

/- The program's addRows (written by mk_J12r.py). -/
namespace Go.Proofs.YtkofafefnlommaaDoor
open Go.RowKit

theorem On.ext {q : Nat} {row : Option Nat} {w w1 w2 : World} {u u' : Value} (h : On q row w w1) (he : Ext w1 w2 u u') (hr : ∀ g, u.ownBlock = some g → row = some g ∨ w.heap.size ≤ g) :
    On q row w w2 ∧ ∀ g, u'.ownBlock = some g → row = some g ∨ w.heap.size ≤ g := by
  have hg := he.grown
  refine ⟨⟨hg.os.trans h.os, hg.tape.trans h.tape, hg.output.trans h.output, Nat.le_trans h.size hg.size, fun b h1 h2 h3 => (hg.block b (Nat.lt_of_lt_of_le h1 h.size) (fun e => ?_)).trans (h.block b h1 h2 h3)⟩, fun g hg' => ?_⟩
  · rcases hr b e.symm with k | k
    · exact h3 k.symm
    · omega
  · rcases he.blk with k | ⟨g', k, hg2⟩
    · exact hr g (by rw [← k]; exact hg')
    · rw [k] at hg'
      have : g' = g := by simpa using hg'
      have := h.size
      exact .inr (by omega)
/-- append(s, x), as one operation: x, a Row, has just been laid in a block of its own. -/
theorem appendR_op {P : Program} {t e : TypeId} {z : Value} {bytes : Nat} (T : ElemT P t e z 2 bytes) {w : World} {o : Oper} {a : Act} {K : Act → World → Prop} {Q : Exit → Act → World → Prop} (s x : Operand)
    (ho : o.op = .call { callee := .builtin .append, args := #[s, x], argTypes := #[t, t] })
    (lo hi : Nat) (v : Value) (n : Nat) (xs : List Value) (cs : List Value) (N : Nat) (hN : w.heap.size = N) (hs : a.eval s = v) (hown : OwnN e 2 lo hi w v n xs) (hlo : lo ≤ w.heap.size) (hc : cs.length = 2) (h1 : ∀ u ∈ cs, u.oneCell' = true)
    (hx : a.eval x = .slice (some ⟨N, 0, none⟩) 1 1)
    (h63 : n + 1 ≤ maxLen) (hbytes : (n + 1) * bytes ≤ 140737488355328)
    (h : ∀ v' w', Own e 2 lo w'.heap.size w' v' (n + 1) (xs ++ cs) → Ext (w.alloc (.cells cs.toArray e)) w' v v' → K (a.put o.dst v') w') : Oper.wp P o a (w.alloc (.cells cs.toArray e)) K Q := by
  subst hN
  obtain ⟨v', w', hr, h2, h3⟩ := append_blockN (w.alloc (.cells cs.toArray e)) t o.type e z 2 bytes T lo hi v n xs (hown.imp id (fun h => h.alloc _)) (by rw [World.size_alloc]; omega) ⟨w.heap.size, 0, none⟩ 1 1 cs (by rw [hc]) (fun j y hj => by
    rw [addr_add]
    exact (blk_new w cs e (0 + j) y (by rw [Nat.zero_add]; exact hj)).1) h1 (by omega) h63 hbytes
  unfold Oper.wp execOp
  simp only [ho, resolve, invoke, builtin, Sem.run_bind, Sem.run_pure, Result.andThen_ok, List.map_toArray, List.map_cons, List.map_nil, hs, hx, hr]
  exact h v' w' h2 h3

set_option maxRecDepth 100000 in
set_option maxHeartbeats 4000000 in
theorem iAddRows (q : Nat) (r b : Rs) (u : Value) (ba : Option Addr) (bn bc : Nat) (qs ps : List P) (w : World) (hq : Blk w q (r.cs u)) (hm : MyRs (q + 1) w.heap.size w u qs) (hqs : qs.map (·.1) = r.rows) (hps : ps.map (·.1) = b.rows)
    (hn : qs.length + ps.length ≤ 4194304) (hli : ∀ p ∈ ps, p.1.l.length ≤ 1048576) (hb : ∀ W, On q u.ownBlock w W → RdRsN W (.slice ba bn bc) ps) :
    Calls Tryd.prog 63 #[.pointer (some ⟨q, 0, none⟩), .agg #[.slice ba bn bc, .int .i64 b.n, .bool b.has, .int .i64 b.v.ty, .int .i64 b.v.n, .string b.v.s]] w fun e w' => e = .returned (.tuple #[]) ∧ ∃ u' qs', Blk w' q ((addL 1 r b).cs u') ∧ MyRs (q + 1) w'.heap.size w' u' qs' ∧ qs'.map (·.1) = (addL 1 r b).rows ∧ qs'.length = qs.length + ps.length ∧ On q u.ownBlock w w' ∧ ∀ g, u'.ownBlock = some g → u.ownBlock = some g ∨ w.heap.size ≤ g := by
  have hlt : q < w.heap.size := Blk.lt hq
  generalize hpl : ps.length = k at hn
  obtain ⟨_, _, hbv, hbn, _⟩ := (hb w (On.refl _ _ _)).walk hpl
  have hkn : bn = k := by injection hbv
  subst hkn
  clear hbv
  have HB : Hid (∀ W, On q u.ownBlock w W → ∀ k, k < bn → ∃ b off, ba = some ⟨b, off, none⟩ ∧ W.cell? ⟨b, off + k * 2, none⟩ = some (.int .i64 (ps.getD k P.zero).1.id) ∧ W.cell? ⟨b, off + k * 2 + 1, none⟩ = some (ps.getD k P.zero).2 ∧ AtN 3 W (ps.getD k P.zero).2 (ps.getD k P.zero).1.l.length (vals (ps.getD k P.zero).1.l)) := fun W hW k hk => by
    obtain ⟨a, cap, e, _, HC⟩ := (hb W hW).walk hpl
    obtain ⟨b, off, e2, h2⟩ := HC.out k hk W (Below.refl _ _)
    exact ⟨b, off, (by injection e with e1; rw [e1]; exact e2), h2⟩
  have HLI : Hid (∀ k, k < bn → (ps.getD k P.zero).1.l.length ≤ 1048576) := fun k hk => by
    have hk' : k < ps.length := by omega
    have e : ps.getD k P.zero = ps[k] := by simp [hk']
    rw [e]
    exact hli _ (List.getElem_mem hk')
  have HMT : Hid (∀ j, j < bn → (ps.map (·.1)).take (j + 1) = (ps.map (·.1)).take j ++ [(ps.getD j P.zero).1]) := fun j hj => by
    have hk' : j < ps.length := by omega
    rw [List.take_succ_eq_append_getElem (by rw [List.length_map]; omega), getDe ps P.zero hk', List.getElem_map]
  have HALL : Hid ((ps.map (·.1)).take bn = b.rows) := by
    show _ = _
    rw [← hpl, List.take_of_length_le (by rw [List.length_map]; exact Nat.le_refl _), hps]
  clear hb hli hps hpl
  obtain ⟨rr, n, h, ⟨vt, vn, vs⟩⟩ := r
  obtain ⟨br, m, mh, ⟨mt, mn, ms⟩⟩ := b
  simp only [Rs.cs] at hq
  dsimp only at hqs HALL ⊢
  have A1 := below_alloc w (.cells #[.slice ba bn bc, .int .i64 m, .bool mh, .int .i64 mt, .int .i64 mn, .string ms] 50)
  have C1 := blk_new w [.slice ba bn bc, .int .i64 m, .bool mh, .int .i64 mt, .int .i64 mn, .string ms] 50
  have Q1 := hq.below A1
  have O1 := (On.refl q u.ownBlock w).below A1
  have M1 := (hm.below A1 (Nat.le_refl _)).wide (Nat.le_refl _) A1.size
  have hz1 : w.heap.size ≤ (w.alloc (.cells #[.slice ba bn bc, .int .i64 m, .bool mh, .int .i64 mt, .int .i64 mn, .string ms] 50)).heap.size := A1.size
  generalize hw1 : w.alloc (.cells #[.slice ba bn bc, .int .i64 m, .bool mh, .int .i64 mt, .int .i64 mn, .string ms] 50) = w1 at A1 C1 Q1 O1 M1 hz1
  have HW1 := Lib.hid hw1
  clear hw1 hq hm A1
  have p0 := (C1 0 _ rfl).1
  go_enter Tryd.func63, Tryd.ntmps63
  go_wp2
  rw [HW1.out]
  clear p0 C1
  go_loopw [9] (fun i wr => ∃ (j : Nat) (qs' : List P) (u' : Value), j ≤ bn ∧ i = .int .i64 j ∧ Blk wr q [u', .int .i64 n, .bool h, .int .i64 vt, .int .i64 vn, .string vs] ∧ MyRs (q + 1) wr.heap.size wr u' qs' ∧ qs'.map (·.1) = rr ++ (ps.map (·.1)).take j ∧ qs'.length = qs.length + j ∧ On q u.ownBlock w wr ∧ (∀ g, u'.ownBlock = some g → u.ownBlock = some g ∨ w.heap.size ≤ g) ∧ q + 1 ≤ wr.heap.size) (fun i _ => bn - (intOf i).toNat)
  case atStart => exact ⟨0, qs, u, Nat.zero_le _, rfl, Q1, M1, by simpa using hqs, rfl, O1, fun g hg => .inl hg, by omega⟩
  case round =>
    obtain ⟨j, qs', u', hj, rfl, hK, hmy, hqj, hql, hon, htr, hsz⟩ := hrel
    have HQL := Lib.hid hql
    clear Q1 M1 O1 hz1 hql
    by_cases hltj : j < bn
    · obtain ⟨b, off, rfl, c0, c1, hat⟩ := HB.out wr hon j hltj
      have HST : Hid (∀ y : Value, (qs' ++ [((ps.getD j P.zero).1, y)]).map (·.1) = rr ++ (ps.map (·.1)).take (j + 1)) := fun y => by
        rw [HMT.out j hltj, List.map_append, hqj, List.append_assoc]
        rfl
      have hll := HLI.out j hltj
      generalize hpj : ps.getD j P.zero = pj at c0 c1 hat HST hll
      clear hpj
      obtain ⟨r, x⟩ := pj
      simp only at c0 c1 hat hll
      obtain ⟨xa, xc, rfl⟩ := hat.sl
      have HTR := Lib.hid htr
      have HTU0 : u'.ownBlock ≠ some wr.heap.size := fun e => by
        rcases hmy.1 with ⟨e2, _⟩ | ⟨g, cp, e2, h1, h2, _⟩
        · rw [e2] at e
          simp [Value.ownBlock] at e
        · rw [e2] at e
          simp [Value.ownBlock] at e
          omega
      have HTU := Lib.hid HTU0
      have HAT := Lib.hid (fun W (hW : Below wr.heap.size wr W) => iCopyRow r (.slice xa r.l.length xc) W hll (hat.below hW))
      clear hat HTU0 htr hqj
      generalize hxl : r.l.length = xn at c1 hll HAT
      obtain ⟨ri, rl⟩ := r
      simp only [R.agg] at c0 c1 HAT
      have A2 := below_alloc wr (.cells #[.int .i64 ri, .slice xa xn xc] 91)
      have T2 := blk_new wr [.int .i64 ri, .slice xa xn xc] 91
      have Q2 := hK.below A2
      have M2 := (hmy.below A2 (Nat.le_refl _)).wide (Nat.le_refl _) A2.size
      have O2 := hon.below A2
      have hz2 : (wr.alloc (.cells #[.int .i64 ri, .slice xa xn xc] 91)).heap.size = wr.heap.size + 1 := World.size_alloc _ _
      have BD := A2.drew
      have HCP := Lib.hid (HAT.out _ BD)
      generalize hwa : wr.alloc (.cells #[.int .i64 ri, .slice xa xn xc] 91) = wa at T2 Q2 M2 O2 BD HCP hz2
      have HWA := Lib.hid hwa
      generalize hss : wr.heap.size = s at T2 HTU hsz hz2
      have HSS := Lib.hid hss
      have BE := (Below.refl wa.heap.size wa).drew
      have Td := T2.below BE
      have Qd := Q2.below BE
      have Md := M2.below BE (Nat.le_refl _)
      have Od := O2.below BE
      have hsd : wa.drew.heap.size = wa.heap.size := rfl
      rw [← hsd] at Md
      clear hwa hss T2 Q2 M2 O2 BD BE hmy hK hon HAT hxl A2 HLI HB HMT
      go_wp2
      rw [HWA.out]
      try rw [HSS.out]
      clear c0 c1
      refine wp_region_held_drew (S := fun W => W.cell? ⟨s, 0, none⟩ = some (.int .i64 ri) ∧ W.cell? ⟨s, 1, none⟩ = some (.slice xa xn xc)) (by kernel_rfl) ⟨(Td 0 _ rfl).1, (Td 1 _ rfl).1⟩ (fun hH => ?_)
      generalize wa.drew = wd at Td Qd Md Od hsd HCP hH ⊢
      refine takeH (i := 0) (d := some 13) (v := .pointer (some ⟨q, 0, none⟩)) rfl rfl (by kernel_rfl) (by kernel_rfl) (by kernel_rfl) (fun _ _ _ h => h) (Or.inl ⟨by rfl, fun W hSw => by obtain ⟨s0, s1⟩ := hSw; go_simp⟩) hH ?_
      try simp only [put_some, List.set_cons_zero, List.set_cons_succ]
      refine takeH (i := 1) (d := some 14) (v := .pointer (some ⟨q, 0, none⟩)) rfl rfl (by kernel_rfl) (by kernel_rfl) (by kernel_rfl) (fun _ _ _ h => h) (Or.inl ⟨by rfl, fun W hSw => by obtain ⟨s0, s1⟩ := hSw; go_simp⟩) hH ?_
      try simp only [put_some, List.set_cons_zero, List.set_cons_succ]
      refine takeH (i := 2) (d := some 15) (v := .pointer (some ⟨q, 0, none⟩)) rfl rfl (by kernel_rfl) (by kernel_rfl) (by kernel_rfl) (fun _ _ _ h => h) (Or.inl ⟨by rfl, fun W hSw => by obtain ⟨s0, s1⟩ := hSw; go_simp⟩) hH ?_
      try simp only [put_some, List.set_cons_zero, List.set_cons_succ]
      refine takeH (i := 3) (d := some 16) (v := .pointer (some ⟨q, 0, none⟩)) rfl rfl (by kernel_rfl) (by kernel_rfl) (by kernel_rfl) (fun _ _ _ h => h) (Or.inl ⟨by rfl, fun W hSw => by obtain ⟨s0, s1⟩ := hSw; go_simp⟩) hH ?_
      try simp only [put_some, List.set_cons_zero, List.set_cons_succ]
      refine takeH (i := 5) (d := some 18) (v := .agg #[.int .i64 ri, .slice xa xn xc]) rfl rfl (by kernel_rfl) (by kernel_rfl) (by kernel_rfl) (fun _ _ _ h => h) (Or.inl ⟨by rfl, fun W hSw => by obtain ⟨s0, s1⟩ := hSw; go_simp⟩) hH ?_
      try simp only [put_some, List.set_cons_zero, List.set_cons_succ]
      refine wpAnyH_ready (rs := [4, 6]) (by kernel_rfl) (by simp) ?_
      refine AllReadyH.cons rfl (fun K hK => ?_) (AllReadyH.cons rfl (fun K hK => ?_) AllReadyH.nil)
      · have c0 := (Qd 0 _ rfl).1
        go_simp
        refine hK.out _ _ hH (fun hH => ?_)
        clear hK K c0
        refine wpAnyH_ready (rs := [6]) (by kernel_rfl) (by simp) ?_
        refine AllReadyH.cons rfl (fun K hK => ?_) AllReadyH.nil
        go_simp
        go_at_call 90
        refine (HCP.out).mono ?_
        rintro e w6 ⟨y6, rfl, o6, b6⟩
        obtain ⟨ya, yc, hy⟩ := o6.atN.sl
        generalize rl.length = yn at hy
        subst hy
        have Q6 := Qd.below b6
        have T6 := Td.below b6
        have M6 := Md.below b6 (Nat.le_refl _)
        have N6 := Od.below b6
        have hs6 := b6.size
        have HO6 := Lib.hid o6
        clear Qd Td Md Od HCP o6 b6
        go_wp2_with fail
        refine hK.out _ _ ⟨(T6 0 _ rfl).1, (T6 1 _ rfl).1⟩ (fun hH => ?_)
        clear hK K
        refine wpAnyH_ready (rs := [7]) (by kernel_rfl) (by simp) ?_
        refine AllReadyH.cons rfl (fun K hK => ?_) AllReadyH.nil
        go_simp
        have A7 := below_alloc w6 (.cells #[.int .i64 ri, .slice ya yn yc] 91)
        have Q7 := Q6.below A7
        have T7 := T6.below A7
        refine hK.out _ _ ⟨(T7 0 _ rfl).1, (T7 1 _ rfl).1⟩ (fun hH => ?_)
        clear hK K
        refine wpAnyH_ready (rs := [8]) (by kernel_rfl) (by simp) ?_
        refine AllReadyH.cons rfl (fun K hK => ?_) AllReadyH.nil
        have ONN := M6.1
        have hlo6 : q + 1 ≤ w6.heap.size := by omega
        refine appendR_op Tryd.elemRows (.tmp 17) (.tmp 20) rfl (q + 1) _ u' qs'.length (prs qs') [.int .i64 ri, .slice ya yn yc] w6.heap.size rfl rfl ONN hlo6 rfl (by intro z hz; simp at hz; rcases hz with rfl | rfl <;> rfl) rfl (by have := HQL.out; unfold maxLen; omega) (by have := HQL.out; omega) ?_
        intro v8 w8 o8 e8
        have E8 : Ext w6 w8 u' v8 := (Ext.alloc _ _).trans e8
        have Q8 := Q6.ext E8 (ONN.not_low (Nat.lt_succ_self _))
        have T8 := T6.ext E8 HTU.out
        have M8 := MyRs.append (p := (⟨ri, rl⟩, .slice ya yn yc)) M6 (by omega) HO6.out hs6 o8 E8
        have N8 := N6.ext E8 HTR.out
        obtain ⟨vb, vc, hv8⟩ : ∃ g cp, v8 = .slice (some ⟨g, 0, none⟩) (qs'.length + 1) cp := by obtain ⟨g, cp, e, _⟩ := o8; exact ⟨g, cp, e⟩
        subst hv8
        have hz8 : w6.heap.size ≤ w8.heap.size := E8.grown.size
        refine hK.out _ _ ⟨(T8 0 _ rfl).1, (T8 1 _ rfl).1⟩ (fun hH => ?_)
        clear hK K o8 e8 E8 ONN Q6 T6 M6 N6 A7 Q7 T7
        refine takeH (i := 9) (d := some 22) (v := .pointer (some ⟨q, 0, none⟩)) rfl rfl (by kernel_rfl) (by kernel_rfl) (by kernel_rfl) (fun _ _ _ h => h) (Or.inl ⟨by rfl, fun W hSw => by obtain ⟨s0, s1⟩ := hSw; go_simp⟩) hH ?_
        try simp only [put_some, List.set_cons_zero, List.set_cons_succ]
        refine takeH (i := 10) (d := some 23) (v := .pointer (some ⟨q, 0, none⟩)) rfl rfl (by kernel_rfl) (by kernel_rfl) (by kernel_rfl) (fun _ _ _ h => h) (Or.inl ⟨by rfl, fun W hSw => by obtain ⟨s0, s1⟩ := hSw; go_simp⟩) hH ?_
        try simp only [put_some, List.set_cons_zero, List.set_cons_succ]
        refine wpAnyH_ready (rs := [11]) (by kernel_rfl) (by simp) ?_
        refine AllReadyH.cons rfl (fun K hK => ?_) AllReadyH.nil
        obtain ⟨c0, f0⟩ := Q8 0 _ rfl
        go_simp
        refine hK.out _ _ ⟨((T8.other (p := ⟨q, 0, none⟩) (by show q ≠ s; omega) _) 0 _ rfl).1, ((T8.other (p := ⟨q, 0, none⟩) (by show q ≠ s; omega) _) 1 _ rfl).1⟩ (fun hH => ?_)
        clear hK K c0 f0
        have HF : Hid (_ ∧ _ ∧ _ ∧ _ ∧ _) := ⟨Q8.set 0 (.slice (some ⟨vb, 0, none⟩) (qs'.length + 1) vc), MyRs.wide (lo' := q + 1) (hi' := (w8.setCell ⟨q, 0, none⟩ (.slice (some ⟨vb, 0, none⟩) (qs'.length + 1) vc)).heap.size) (M8.setBelow (a := ⟨q, 0, none⟩) (Nat.lt_succ_self _) (.slice (some ⟨vb, 0, none⟩) (qs'.length + 1) vc)) (Nat.le_refl _) (by simp [World.setCell]), N8.1.set 0 (.slice (some ⟨vb, 0, none⟩) (qs'.length + 1) vc), N8.2, (by simp [World.setCell]; omega : q + 1 ≤ (w8.setCell ⟨q, 0, none⟩ (.slice (some ⟨vb, 0, none⟩) (qs'.length + 1) vc)).heap.size)⟩
        clear Q8 T8 M8 N8 hH
        refine wpAnyH_done (by kernel_rfl) ?_ _
        go_wp2
        go_roundw
        case rel => exact ⟨j + 1, qs' ++ [(⟨ri, rl⟩, .slice ya yn yc)], .slice (some ⟨vb, 0, none⟩) (qs'.length + 1) vc, by omega, by go_num, HF.out.1, HF.out.2.1, HST.out _, by rw [List.length_append, HQL.out]; simp; omega, HF.out.2.2⟩
        case measure => simp [intOf]; omega
      · go_simp
        go_at_call 90
        refine (HCP.out).mono ?_
        rintro e w6 ⟨y6, rfl, o6, b6⟩
        obtain ⟨ya, yc, hy⟩ := o6.atN.sl
        generalize rl.length = yn at hy
        subst hy
        have Q6 := Qd.below b6
        have T6 := Td.below b6
        have M6 := Md.below b6 (Nat.le_refl _)
        have N6 := Od.below b6
        have hs6 := b6.size
        have HO6 := Lib.hid o6
        clear Qd Td Md Od HCP o6 b6
        go_wp2_with fail
        refine hK.out _ _ ⟨(T6 0 _ rfl).1, (T6 1 _ rfl).1⟩ (fun hH => ?_)
        clear hK K
        refine wpAnyH_ready (rs := [4, 7]) (by kernel_rfl) (by simp) ?_
        refine AllReadyH.cons rfl (fun K hK => ?_) (AllReadyH.cons rfl (fun K hK => ?_) AllReadyH.nil)
        · have c0 := (Q6 0 _ rfl).1
          go_simp
          refine hK.out _ _ hH (fun hH => ?_)
          clear hK K c0
          refine wpAnyH_ready (rs := [7]) (by kernel_rfl) (by simp) ?_
          refine AllReadyH.cons rfl (fun K hK => ?_) AllReadyH.nil
          go_simp
          have A7 := below_alloc w6 (.cells #[.int .i64 ri, .slice ya yn yc] 91)
          have Q7 := Q6.below A7
          have T7 := T6.below A7
          refine hK.out _ _ ⟨(T7 0 _ rfl).1, (T7 1 _ rfl).1⟩ (fun hH => ?_)
          clear hK K
          refine wpAnyH_ready (rs := [8]) (by kernel_rfl) (by simp) ?_
          refine AllReadyH.cons rfl (fun K hK => ?_) AllReadyH.nil
          have ONN := M6.1
          have hlo6 : q + 1 ≤ w6.heap.size := by omega
          refine appendR_op Tryd.elemRows (.tmp 17) (.tmp 20) rfl (q + 1) _ u' qs'.length (prs qs') [.int .i64 ri, .slice ya yn yc] w6.heap.size rfl rfl ONN hlo6 rfl (by intro z hz; simp at hz; rcases hz with rfl | rfl <;> rfl) rfl (by have := HQL.out; unfold maxLen; omega) (by have := HQL.out; omega) ?_
          intro v8 w8 o8 e8
          have E8 : Ext w6 w8 u' v8 := (Ext.alloc _ _).trans e8
          have Q8 := Q6.ext E8 (ONN.not_low (Nat.lt_succ_self _))
          have T8 := T6.ext E8 HTU.out
          have M8 := MyRs.append (p := (⟨ri, rl⟩, .slice ya yn yc)) M6 (by omega) HO6.out hs6 o8 E8
          have N8 := N6.ext E8 HTR.out
          obtain ⟨vb, vc, hv8⟩ : ∃ g cp, v8 = .slice (some ⟨g, 0, none⟩) (qs'.length + 1) cp := by obtain ⟨g, cp, e, _⟩ := o8; exact ⟨g, cp, e⟩
          subst hv8
          have hz8 : w6.heap.size ≤ w8.heap.size := E8.grown.size
          refine hK.out _ _ ⟨(T8 0 _ rfl).1, (T8 1 _ rfl).1⟩ (fun hH => ?_)
          clear hK K o8 e8 E8 ONN Q6 T6 M6 N6 A7 Q7 T7
          refine takeH (i := 9) (d := some 22) (v := .pointer (some ⟨q, 0, none⟩)) rfl rfl (by kernel_rfl) (by kernel_rfl) (by kernel_rfl) (fun _ _ _ h => h) (Or.inl ⟨by rfl, fun W hSw => by obtain ⟨s0, s1⟩ := hSw; go_simp⟩) hH ?_
          try simp only [put_some, List.set_cons_zero, List.set_cons_succ]
          refine takeH (i := 10) (d := some 23) (v := .pointer (some ⟨q, 0, none⟩)) rfl rfl (by kernel_rfl) (by kernel_rfl) (by kernel_rfl) (fun _ _ _ h => h) (Or.inl ⟨by rfl, fun W hSw => by obtain ⟨s0, s1⟩ := hSw; go_simp⟩) hH ?_
          try simp only [put_some, List.set_cons_zero, List.set_cons_succ]
          refine wpAnyH_ready (rs := [11]) (by kernel_rfl) (by simp) ?_
          refine AllReadyH.cons rfl (fun K hK => ?_) AllReadyH.nil
          obtain ⟨c0, f0⟩ := Q8 0 _ rfl
          go_simp
          refine hK.out _ _ ⟨((T8.other (p := ⟨q, 0, none⟩) (by show q ≠ s; omega) _) 0 _ rfl).1, ((T8.other (p := ⟨q, 0, none⟩) (by show q ≠ s; omega) _) 1 _ rfl).1⟩ (fun hH => ?_)
          clear hK K c0 f0
          have HF : Hid (_ ∧ _ ∧ _ ∧ _ ∧ _) := ⟨Q8.set 0 (.slice (some ⟨vb, 0, none⟩) (qs'.length + 1) vc), MyRs.wide (lo' := q + 1) (hi' := (w8.setCell ⟨q, 0, none⟩ (.slice (some ⟨vb, 0, none⟩) (qs'.length + 1) vc)).heap.size) (M8.setBelow (a := ⟨q, 0, none⟩) (Nat.lt_succ_self _) (.slice (some ⟨vb, 0, none⟩) (qs'.length + 1) vc)) (Nat.le_refl _) (by simp [World.setCell]), N8.1.set 0 (.slice (some ⟨vb, 0, none⟩) (qs'.length + 1) vc), N8.2, (by simp [World.setCell]; omega : q + 1 ≤ (w8.setCell ⟨q, 0, none⟩ (.slice (some ⟨vb, 0, none⟩) (qs'.length + 1) vc)).heap.size)⟩
          clear Q8 T8 M8 N8 hH
          refine wpAnyH_done (by kernel_rfl) ?_ _
          go_wp2
          go_roundw
          case rel => exact ⟨j + 1, qs' ++ [(⟨ri, rl⟩, .slice ya yn yc)], .slice (some ⟨vb, 0, none⟩) (qs'.length + 1) vc, by omega, by go_num, HF.out.1, HF.out.2.1, HST.out _, by rw [List.length_append, HQL.out]; simp; omega, HF.out.2.2⟩
          case measure => simp [intOf]; omega
        · go_simp
          have A7 := below_alloc w6 (.cells #[.int .i64 ri, .slice ya yn yc] 91)
          have Q7 := Q6.below A7
          have T7 := T6.below A7
          refine hK.out _ _ ⟨(T7 0 _ rfl).1, (T7 1 _ rfl).1⟩ (fun hH => ?_)
          clear hK K
          refine wpAnyH_ready (rs := [4]) (by kernel_rfl) (by simp) ?_
          refine AllReadyH.cons rfl (fun K hK => ?_) AllReadyH.nil
          have c0 := (Q7 0 _ rfl).1
          go_simp
          refine hK.out _ _ hH (fun hH => ?_)
          clear hK K c0
          refine wpAnyH_ready (rs := [8]) (by kernel_rfl) (by simp) ?_
          refine AllReadyH.cons rfl (fun K hK => ?_) AllReadyH.nil
          have ONN := M6.1
          have hlo6 : q + 1 ≤ w6.heap.size := by omega
          refine appendR_op Tryd.elemRows (.tmp 17) (.tmp 20) rfl (q + 1) _ u' qs'.length (prs qs') [.int .i64 ri, .slice ya yn yc] w6.heap.size rfl rfl ONN hlo6 rfl (by intro z hz; simp at hz; rcases hz with rfl | rfl <;> rfl) rfl (by have := HQL.out; unfold maxLen; omega) (by have := HQL.out; omega) ?_
          intro v8 w8 o8 e8
          have E8 : Ext w6 w8 u' v8 := (Ext.alloc _ _).trans e8
          have Q8 := Q6.ext E8 (ONN.not_low (Nat.lt_succ_self _))
          have T8 := T6.ext E8 HTU.out
          have M8 := MyRs.append (p := (⟨ri, rl⟩, .slice ya yn yc)) M6 (by omega) HO6.out hs6 o8 E8
          have N8 := N6.ext E8 HTR.out
          obtain ⟨vb, vc, hv8⟩ : ∃ g cp, v8 = .slice (some ⟨g, 0, none⟩) (qs'.length + 1) cp := by obtain ⟨g, cp, e, _⟩ := o8; exact ⟨g, cp, e⟩
          subst hv8
          have hz8 : w6.heap.size ≤ w8.heap.size := E8.grown.size
          refine hK.out _ _ ⟨(T8 0 _ rfl).1, (T8 1 _ rfl).1⟩ (fun hH => ?_)
          clear hK K o8 e8 E8 ONN Q6 T6 M6 N6 A7 Q7 T7
          refine takeH (i := 9) (d := some 22) (v := .pointer (some ⟨q, 0, none⟩)) rfl rfl (by kernel_rfl) (by kernel_rfl) (by kernel_rfl) (fun _ _ _ h => h) (Or.inl ⟨by rfl, fun W hSw => by obtain ⟨s0, s1⟩ := hSw; go_simp⟩) hH ?_
          try simp only [put_some, List.set_cons_zero, List.set_cons_succ]
          refine takeH (i := 10) (d := some 23) (v := .pointer (some ⟨q, 0, none⟩)) rfl rfl (by kernel_rfl) (by kernel_rfl) (by kernel_rfl) (fun _ _ _ h => h) (Or.inl ⟨by rfl, fun W hSw => by obtain ⟨s0, s1⟩ := hSw; go_simp⟩) hH ?_
          try simp only [put_some, List.set_cons_zero, List.set_cons_succ]
          refine wpAnyH_ready (rs := [11]) (by kernel_rfl) (by simp) ?_
          refine AllReadyH.cons rfl (fun K hK => ?_) AllReadyH.nil
          obtain ⟨c0, f0⟩ := Q8 0 _ rfl
          go_simp
          refine hK.out _ _ ⟨((T8.other (p := ⟨q, 0, none⟩) (by show q ≠ s; omega) _) 0 _ rfl).1, ((T8.other (p := ⟨q, 0, none⟩) (by show q ≠ s; omega) _) 1 _ rfl).1⟩ (fun hH => ?_)
          clear hK K c0 f0
          have HF : Hid (_ ∧ _ ∧ _ ∧ _ ∧ _) := ⟨Q8.set 0 (.slice (some ⟨vb, 0, none⟩) (qs'.length + 1) vc), MyRs.wide (lo' := q + 1) (hi' := (w8.setCell ⟨q, 0, none⟩ (.slice (some ⟨vb, 0, none⟩) (qs'.length + 1) vc)).heap.size) (M8.setBelow (a := ⟨q, 0, none⟩) (Nat.lt_succ_self _) (.slice (some ⟨vb, 0, none⟩) (qs'.length + 1) vc)) (Nat.le_refl _) (by simp [World.setCell]), N8.1.set 0 (.slice (some ⟨vb, 0, none⟩) (qs'.length + 1) vc), N8.2, (by simp [World.setCell]; omega : q + 1 ≤ (w8.setCell ⟨q, 0, none⟩ (.slice (some ⟨vb, 0, none⟩) (qs'.length + 1) vc)).heap.size)⟩
          clear Q8 T8 M8 N8 hH
          refine wpAnyH_done (by kernel_rfl) ?_ _
          go_wp2
          go_roundw
          case rel => exact ⟨j + 1, qs' ++ [(⟨ri, rl⟩, .slice ya yn yc)], .slice (some ⟨vb, 0, none⟩) (qs'.length + 1) vc, by omega, by go_num, HF.out.1, HF.out.2.1, HST.out _, by rw [List.length_append, HQL.out]; simp; omega, HF.out.2.2⟩
          case measure => simp [intOf]; omega
    · obtain rfl : j = bn := by omega
      have HQ := Lib.hid hqj
      go_wp2
      go_end0
      exact ⟨rfl, u', hK, qs', hmy, by rw [HQ.out, HALL.out]; rfl, HQL.out, hon, htr⟩

end Go.Proofs.YtkofafefnlommaaDoor

/- What the functions named add do (written by mk_J12j.py). -/
namespace Go.Proofs.YtkofafefnlommaaDoor
open Go.RowKit

theorem On.row {q : Nat} {w w' : World} (h : On q none w w') (row : Option Nat) : On q row w w' := ⟨h.os, h.tape, h.output, h.size, fun b h1 h2 _ => h.block b h1 h2 (by simp)⟩
theorem MyRs.on {q : Nat} {w w' : World} {u : Value} {qs : List P} (h : MyRs (q + 1) w.heap.size w u qs) (k : On q none w w') : MyRs (q + 1) w'.heap.size w' u qs :=
  (h.within (⟨k.os, k.tape, k.output, k.size, fun j h1 h2 => k.block j h1 (by omega) (by simp)⟩ : Within q (q + 1) w w') (.inr (Nat.le_refl _))).wide (Nat.le_refl _) k.size
theorem Blk.on {q b : Nat} {row : Option Nat} {w w' : World} {cs : List Value} (h : Blk w b cs) (k : On q row w w') (h1 : b ≠ q) (h2 : some b ≠ row) : Blk w' b cs := fun i x hx => by
  have hb := k.block b (lt_of_cell (h i x hx).1) h1 h2
  exact ⟨(World.cell?_of_block hb).trans (h i x hx).1, (World.frozen?_of_block hb).trans (h i x hx).2⟩
theorem addL_rows {k : Int} (hk : k ≠ 1) (r b : Rs) : (addL k r b).rows = r.rows := by
  unfold addL
  rw [if_neg hk]
  split
  · rfl
  · split <;> split <;> rfl

theorem addC1 (q : Nat) (r b : Rs) (u : Value) (ba : Option Addr) (bn bc : Nat) (qs ps : List P) (w : World) (hq : Blk w q (r.cs u)) (hm : MyRs (q + 1) w.heap.size w u qs) (hqs : qs.map (·.1) = r.rows) (hps : ps.map (·.1) = b.rows) (hn : qs.length + ps.length ≤ 4194304) (hli : ∀ p ∈ ps, p.1.l.length ≤ 1048576) (hb : ∀ W, On q u.ownBlock w W → RdRsN W (.slice ba bn bc) ps) :
    Calls Tryd.prog 63 #[.pointer (some ⟨q, 0, none⟩), .agg #[.slice ba bn bc, .int .i64 b.n, .bool b.has, .int .i64 b.v.ty, .int .i64 b.v.n, .string b.v.s]] w fun e w' => e = .returned (.tuple #[]) ∧ ∃ u' qs', Blk w' q ((addL 1 r b).cs u') ∧ MyRs (q + 1) w'.heap.size w' u' qs' ∧ qs'.map (·.1) = (addL 1 r b).rows ∧ qs'.length ≤ qs.length + ps.length ∧ On q u.ownBlock w w' ∧ ∀ g, u'.ownBlock = some g → u.ownBlock = some g ∨ w.heap.size ≤ g := by
  refine (iAddRows q r b u ba bn bc qs ps w hq hm hqs hps hn hli hb).mono ?_
  rintro e w' ⟨rfl, u', qs', h1, h2, h3, h4, h5, h6⟩
  exact ⟨rfl, u', qs', h1, h2, h3, Nat.le_of_eq h4, h5, h6⟩

theorem addC2 (q : Nat) (r b : Rs) (u : Value) (ba : Option Addr) (bn bc : Nat) (qs ps : List P) (w : World) (hq : Blk w q (r.cs u)) (hm : MyRs (q + 1) w.heap.size w u qs) (hqs : qs.map (·.1) = r.rows) (_hps : ps.map (·.1) = b.rows) (_hn : qs.length + ps.length ≤ 4194304) (_hli : ∀ p ∈ ps, p.1.l.length ≤ 1048576) (_hb : ∀ W, On q u.ownBlock w W → RdRsN W (.slice ba bn bc) ps) :
    Calls Tryd.prog 67 #[.pointer (some ⟨q, 0, none⟩), .agg #[.slice ba bn bc, .int .i64 b.n, .bool b.has, .int .i64 b.v.ty, .int .i64 b.v.n, .string b.v.s]] w fun e w' => e = .returned (.tuple #[]) ∧ ∃ u' qs', Blk w' q ((addL 2 r b).cs u') ∧ MyRs (q + 1) w'.heap.size w' u' qs' ∧ qs'.map (·.1) = (addL 2 r b).rows ∧ qs'.length ≤ qs.length + ps.length ∧ On q u.ownBlock w w' ∧ ∀ g, u'.ownBlock = some g → u.ownBlock = some g ∨ w.heap.size ≤ g := by
  refine (iAddNum q r b u ba bn bc w hq).mono ?_
  rintro e w' ⟨rfl, h1, h2⟩
  exact ⟨rfl, u, qs, h1, hm.on h2, hqs.trans (addL_rows (by decide) r b).symm, Nat.le_add_right _ _, h2.row _, fun g hg => .inl hg⟩

theorem addC3 (q : Nat) (r b : Rs) (u : Value) (ba : Option Addr) (bn bc : Nat) (qs ps : List P) (w : World) (hq : Blk w q (r.cs u)) (hm : MyRs (q + 1) w.heap.size w u qs) (hqs : qs.map (·.1) = r.rows) (_hps : ps.map (·.1) = b.rows) (_hn : qs.length + ps.length ≤ 4194304) (_hli : ∀ p ∈ ps, p.1.l.length ≤ 1048576) (_hb : ∀ W, On q u.ownBlock w W → RdRsN W (.slice ba bn bc) ps) :
    Calls Tryd.prog 67 #[.pointer (some ⟨q, 0, none⟩), .agg #[.slice ba bn bc, .int .i64 b.n, .bool b.has, .int .i64 b.v.ty, .int .i64 b.v.n, .string b.v.s]] w fun e w' => e = .returned (.tuple #[]) ∧ ∃ u' qs', Blk w' q ((addL 3 r b).cs u') ∧ MyRs (q + 1) w'.heap.size w' u' qs' ∧ qs'.map (·.1) = (addL 3 r b).rows ∧ qs'.length ≤ qs.length + ps.length ∧ On q u.ownBlock w w' ∧ ∀ g, u'.ownBlock = some g → u.ownBlock = some g ∨ w.heap.size ≤ g := by
  refine (iAddNum q r b u ba bn bc w hq).mono ?_
  rintro e w' ⟨rfl, h1, h2⟩
  exact ⟨rfl, u, qs, h1, hm.on h2, hqs.trans (addL_rows (by decide) r b).symm, Nat.le_add_right _ _, h2.row _, fun g hg => .inl hg⟩

theorem addC4 (q : Nat) (r b : Rs) (u : Value) (ba : Option Addr) (bn bc : Nat) (qs ps : List P) (w : World) (hq : Blk w q (r.cs u)) (hm : MyRs (q + 1) w.heap.size w u qs) (hqs : qs.map (·.1) = r.rows) (_hps : ps.map (·.1) = b.rows) (_hn : qs.length + ps.length ≤ 4194304) (_hli : ∀ p ∈ ps, p.1.l.length ≤ 1048576) (_hb : ∀ W, On q u.ownBlock w W → RdRsN W (.slice ba bn bc) ps) :
    Calls Tryd.prog 73 #[.pointer (some ⟨q, 0, none⟩), .agg #[.slice ba bn bc, .int .i64 b.n, .bool b.has, .int .i64 b.v.ty, .int .i64 b.v.n, .string b.v.s]] w fun e w' => e = .returned (.tuple #[]) ∧ ∃ u' qs', Blk w' q ((addL 4 r b).cs u') ∧ MyRs (q + 1) w'.heap.size w' u' qs' ∧ qs'.map (·.1) = (addL 4 r b).rows ∧ qs'.length ≤ qs.length + ps.length ∧ On q u.ownBlock w w' ∧ ∀ g, u'.ownBlock = some g → u.ownBlock = some g ∨ w.heap.size ≤ g := by
  refine (iKeepLeast q r b u ba bn bc w hq).mono ?_
  rintro e w' ⟨rfl, h1, h2⟩
  exact ⟨rfl, u, qs, h1, hm.on h2, hqs.trans (addL_rows (by decide) r b).symm, Nat.le_add_right _ _, h2.row _, fun g hg => .inl hg⟩

theorem addC5 (q : Nat) (r b : Rs) (u : Value) (ba : Option Addr) (bn bc : Nat) (qs ps : List P) (w : World) (hq : Blk w q (r.cs u)) (hm : MyRs (q + 1) w.heap.size w u qs) (hqs : qs.map (·.1) = r.rows) (_hps : ps.map (·.1) = b.rows) (_hn : qs.length + ps.length ≤ 4194304) (_hli : ∀ p ∈ ps, p.1.l.length ≤ 1048576) (_hb : ∀ W, On q u.ownBlock w W → RdRsN W (.slice ba bn bc) ps) :
    Calls Tryd.prog 75 #[.pointer (some ⟨q, 0, none⟩), .agg #[.slice ba bn bc, .int .i64 b.n, .bool b.has, .int .i64 b.v.ty, .int .i64 b.v.n, .string b.v.s]] w fun e w' => e = .returned (.tuple #[]) ∧ ∃ u' qs', Blk w' q ((addL 5 r b).cs u') ∧ MyRs (q + 1) w'.heap.size w' u' qs' ∧ qs'.map (·.1) = (addL 5 r b).rows ∧ qs'.length ≤ qs.length + ps.length ∧ On q u.ownBlock w w' ∧ ∀ g, u'.ownBlock = some g → u.ownBlock = some g ∨ w.heap.size ≤ g := by
  refine (iKeepMost q r b u ba bn bc w hq).mono ?_
  rintro e w' ⟨rfl, h1, h2⟩
  exact ⟨rfl, u, qs, h1, hm.on h2, hqs.trans (addL_rows (by decide) r b).symm, Nat.le_add_right _ _, h2.row _, fun g hg => .inl hg⟩

end Go.Proofs.YtkofafefnlommaaDoor
