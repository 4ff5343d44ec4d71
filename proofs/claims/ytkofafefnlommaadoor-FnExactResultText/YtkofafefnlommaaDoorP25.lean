/- Texts of this claim, one behind the other: Rs12. -/
import Derived.Test.YtkofafefnlommaaDoorP17
import Derived.Test.YtkofafefnlommaaDoorP15
import Derived.Test.YtkofafefnlommaaDoorP19
import Derived.Test.YtkofafefnlommaaDoorP22

/- The laws' own helpers over Results: szResult, toResult, eqResult, markResult, heldResult (written by mk_Rs12.py). -/
namespace Go.Proofs.YtkofafefnlommaaDoor
open Go.RowKit

theorem MyRs.setBelow {lo hi w v} {ps : List P} (h : MyRs lo hi w v ps) {a : Addr} (ha : a.block < lo) (x : Value) : MyRs lo hi (w.setCell a x) v ps := ⟨h.1.setBelow ha x, fun p hp => (h.2.1 p hp).setBelow ha x, h.2.2⟩
set_option maxHeartbeats 1000000 in
theorem szResult (n : Int) (hs : Bool) (vt vn : Int) (vs : ByteArray) (u : Value) (ps : List P) (left : Int) (w : World) (hv : vs.size ≤ maxLen) (hss : ∀ p ∈ ps, ∀ v ∈ p.1.l, v.s.size ≤ maxLen) (h : RdRs w u ps) (h0 : 0 ≤ left) (h1 : left ≤ 1048576) :
    Calls Tryd.prog 12 #[.agg #[u, .int .i64 n, .bool hs, .int .i64 vt, .int .i64 vn, .string vs], .int .i64 left] w fun e w' => ∃ r : Int, e = .returned (.int .i64 r) ∧ (r < 0 ∨ (0 ≤ r ∧ (ps.length : Int) + bulkR ps ≤ left - r)) ∧ Below w.heap.size w w' := by
  have B0 := below_alloc w (.cells #[u, .int .i64 n, .bool hs, .int .i64 vt, .int .i64 vn, .string vs] 41)
  have C0 := blk_new w [u, .int .i64 n, .bool hs, .int .i64 vt, .int .i64 vn, .string vs] 41
  have HS := Lib.hid (fun W (hb : Below w.heap.size w W) => szRowS u ps left W h0 h1 hss (h.below hb))
  have HV := Lib.hid (fun (z : Int) W (h0 : 0 ≤ z) (h1 : z ≤ 1048576) => szVal ⟨vt, vn, vs⟩ z W h0 h1 hv)
  have HE : Hid (∀ z : Int, 0 ≤ z → szV ⟨vt, vn, vs⟩ z < 0 ∨ (0 ≤ szV ⟨vt, vn, vs⟩ z ∧ szV ⟨vt, vn, vs⟩ z ≤ z)) := fun z hz => by
    have := szV_le (v := ⟨vt, vn, vs⟩) hz
    omega
  obtain ⟨⟨a, cap, hu, _⟩, _⟩ := id h
  generalize ps.length = m at hu HS ⊢
  subst hu
  clear h hss hv
  generalize hw0 : w.alloc (.cells #[.slice a m cap, .int .i64 n, .bool hs, .int .i64 vt, .int .i64 vn, .string vs] 41) = w0 at B0 C0
  have HW0 := Lib.hid hw0
  have p0 := (C0 0 _ rfl).1
  clear hw0
  go_enter Tryd.func12, Tryd.ntmps12
  go_wp2_with fail
  rw [HW0.out]
  refine (HS.out _ B0).mono ?_
  rintro e w1 ⟨r, rfl, hr, b1⟩
  have B1 := below_then B0 b1 B0.size
  obtain ⟨p3, -⟩ := C0.below b1 3 _ rfl
  obtain ⟨p4, -⟩ := C0.below b1 4 _ rfl
  obtain ⟨p5, -⟩ := C0.below b1 5 _ rfl
  clear b1 HS C0 B0 p0 HW0
  by_cases hneg : r < 0
  · clear p3 p4 p5 hr
    go_wp2
    go_ret
    exact ⟨_, rfl, .inl (by omega), B1⟩
  · have HR := Lib.hid (hr.resolve_left hneg)
    have hr1 : r ≤ 1048576 := by
      have := HR.out
      omega
    have HZ := Lib.hid (HE.out r (by omega))
    have HVR := Lib.hid (fun W => HV.out r W (by omega) hr1)
    generalize szV ⟨vt, vn, vs⟩ r = q at HZ HVR
    clear hr HE HV
    go_wp2_with fail
    refine (HVR.out _).mono ?_
    rintro e w2 ⟨rfl, b2⟩
    have B2 := below_then B1 b2 B1.size
    clear b2 HVR p3 p4 p5
    by_cases hneg2 : q < 0
    · go_wp2
      go_ret
      exact ⟨_, rfl, .inl (by omega), B2⟩
    · go_wp2
      go_ret
      exact ⟨_, rfl, .inr ⟨by omega, by have := HR.out; have := HZ.out; omega⟩, B2⟩

set_option maxHeartbeats 2000000 in
theorem toResult (n : Int) (hs : Bool) (vt vn : Int) (vs : ByteArray) (a : Option Addr) (len cap : Nat) (ps : List P) (w : World) (hle : ps.length ≤ 1048576) (hli : ∀ p ∈ ps, p.1.l.length ≤ 1048576) (h : RdRs w (.slice a len cap) ps) :
    Calls Tryd.prog 15 #[.agg #[.slice a len cap, .int .i64 n, .bool hs, .int .i64 vt, .int .i64 vn, .string vs]] w fun e w' => ∃ u', e = .returned (.agg #[u', .int .i64 n, .bool hs, .int .i64 vt, .int .i64 vn, .string vs]) ∧ ∃ qs, MyRs w.heap.size w'.heap.size w' u' qs ∧ qs.map (·.1) = ps.map (·.1) ∧ Below w.heap.size w w' := by
  have HS := Lib.hid (fun W (hW : Below w.heap.size w W) => toRowS (.slice a len cap) ps W hle hli (h.below hW))
  have HV := Lib.hid (fun W => toVal ⟨vt, vn, vs⟩ W)
  have B0 := below_alloc3 w (.cells #[.slice a len cap, .int .i64 n, .bool hs, .int .i64 vt, .int .i64 vn, .string vs] 41) (.cells #[.slice none 0 0, .int .i64 0, .bool false, .int .i64 0, .int .i64 0, .string ⟨#[]⟩] 50) (.cells #[.slice none 0 0, .int .i64 0, .bool false, .int .i64 0, .int .i64 0, .string ⟨#[]⟩] 50)
  have C0 := ((blk_new w [.slice a len cap, .int .i64 n, .bool hs, .int .i64 vt, .int .i64 vn, .string vs] 41).below (below_alloc _ (.cells #[.slice none 0 0, .int .i64 0, .bool false, .int .i64 0, .int .i64 0, .string ⟨#[]⟩] 50))).below (below_alloc _ (.cells #[.slice none 0 0, .int .i64 0, .bool false, .int .i64 0, .int .i64 0, .string ⟨#[]⟩] 50))
  have C1 := (blk_new (w.alloc (.cells #[.slice a len cap, .int .i64 n, .bool hs, .int .i64 vt, .int .i64 vn, .string vs] 41)) [.slice none 0 0, .int .i64 0, .bool false, .int .i64 0, .int .i64 0, .string ⟨#[]⟩] 50).below (below_alloc _ (.cells #[.slice none 0 0, .int .i64 0, .bool false, .int .i64 0, .int .i64 0, .string ⟨#[]⟩] 50))
  have C2 := blk_new ((w.alloc (.cells #[.slice a len cap, .int .i64 n, .bool hs, .int .i64 vt, .int .i64 vn, .string vs] 41)).alloc (.cells #[.slice none 0 0, .int .i64 0, .bool false, .int .i64 0, .int .i64 0, .string ⟨#[]⟩] 50)) [.slice none 0 0, .int .i64 0, .bool false, .int .i64 0, .int .i64 0, .string ⟨#[]⟩] 50
  rw [World.size_alloc] at C1
  rw [World.size_alloc, World.size_alloc] at C2
  have HSZ : Hid ((((w.alloc (.cells #[.slice a len cap, .int .i64 n, .bool hs, .int .i64 vt, .int .i64 vn, .string vs] 41)).alloc (.cells #[.slice none 0 0, .int .i64 0, .bool false, .int .i64 0, .int .i64 0, .string ⟨#[]⟩] 50)).alloc (.cells #[.slice none 0 0, .int .i64 0, .bool false, .int .i64 0, .int .i64 0, .string ⟨#[]⟩] 50)).heap.size = w.heap.size + 3) := by
    show _ = _
    rw [World.size_alloc, World.size_alloc, World.size_alloc]
  clear h hli
  generalize hw0 : ((w.alloc (.cells #[.slice a len cap, .int .i64 n, .bool hs, .int .i64 vt, .int .i64 vn, .string vs] 41)).alloc (.cells #[.slice none 0 0, .int .i64 0, .bool false, .int .i64 0, .int .i64 0, .string ⟨#[]⟩] 50)).alloc (.cells #[.slice none 0 0, .int .i64 0, .bool false, .int .i64 0, .int .i64 0, .string ⟨#[]⟩] 50) = w0 at B0 C0 C1 C2 HSZ
  have HW0 := Lib.hid hw0
  have p0 := (C0 0 _ rfl).1
  clear hw0
  go_enter Tryd.func15, Tryd.ntmps15
  go_wp2_with fail
  rw [HW0.out]
  refine (HS.out _ B0).mono ?_
  rintro e w1 ⟨v1, qs, rfl, hqs, o1, b1⟩
  have hql : qs.length = ps.length := by simpa using congrArg List.length hqs
  obtain ⟨g1, c1, hv1⟩ : ∃ g cp, v1 = .slice (some ⟨g, 0, none⟩) qs.length cp := by
    obtain ⟨g, cp, e, _⟩ := o1.1
    exact ⟨g, cp, e⟩
  have M1 := o1.my
  generalize hm1 : qs.length = m1 at hv1
  subst hv1
  have HQS := Lib.hid hqs
  clear p0 hql hm1 hqs o1
  have B1 := below_then B0 b1 B0.size
  have hs1 := b1.size
  rw [HSZ.out] at hs1 M1
  replace C0 := C0.below b1
  replace C1 := C1.below b1
  replace C2 := C2.below b1
  have D2 := (((C2.set 0 (.slice (some ⟨g1, 0, none⟩) m1 c1)).set 1 (.int .i64 n)).set 2 (.bool hs))
  have D1 := (((C1.other (p := ⟨w.heap.size + 1 + 1, 0, none⟩) (by simp) (.slice (some ⟨g1, 0, none⟩) m1 c1)).other (p := ⟨w.heap.size + 1 + 1, 1, none⟩) (by simp) (.int .i64 n)).other (p := ⟨w.heap.size + 1 + 1, 2, none⟩) (by simp) (.bool hs))
  have D0 := (((C0.other (p := ⟨w.heap.size + 1 + 1, 0, none⟩) (by simp; omega) (.slice (some ⟨g1, 0, none⟩) m1 c1)).other (p := ⟨w.heap.size + 1 + 1, 1, none⟩) (by simp; omega) (.int .i64 n)).other (p := ⟨w.heap.size + 1 + 1, 2, none⟩) (by simp; omega) (.bool hs))
  have B2 := (((B1.setCell (p := ⟨w.heap.size + 1 + 1, 0, none⟩) (by simp; omega) (.slice (some ⟨g1, 0, none⟩) m1 c1)).setCell (p := ⟨w.heap.size + 1 + 1, 1, none⟩) (by simp; omega) (.int .i64 n)).setCell (p := ⟨w.heap.size + 1 + 1, 2, none⟩) (by simp; omega) (.bool hs))
  have M2 := (((M1.setBelow (a := ⟨w.heap.size + 1 + 1, 0, none⟩) (by simp) (.slice (some ⟨g1, 0, none⟩) m1 c1)).setBelow (a := ⟨w.heap.size + 1 + 1, 1, none⟩) (by simp) (.int .i64 n)).setBelow (a := ⟨w.heap.size + 1 + 1, 2, none⟩) (by simp) (.bool hs))
  have c1' := (C0 1 _ rfl).1
  have c2' := (C0 2 _ rfl).1
  have c3' := (C0 3 _ rfl).1
  have c4' := (C0 4 _ rfl).1
  have c5' := (C0 5 _ rfl).1
  have e0 := (C2 0 _ rfl).1
  have f0 := (C2 0 _ rfl).2
  have e1 := (C2 1 _ rfl).1
  have f1 := (C2 1 _ rfl).2
  have e2 := (C2 2 _ rfl).1
  have f2 := (C2 2 _ rfl).2
  have hs2 : (((w1.setCell ⟨w.heap.size + 1 + 1, 0, none⟩ (.slice (some ⟨g1, 0, none⟩) m1 c1)).setCell ⟨w.heap.size + 1 + 1, 1, none⟩ (.int .i64 n)).setCell ⟨w.heap.size + 1 + 1, 2, none⟩ (.bool hs)).heap.size = w1.heap.size := by simp [World.setCell]
  rw [← hs2] at M2
  have HG : Hid (w.heap.size + 3 ≤ (((w1.setCell ⟨w.heap.size + 1 + 1, 0, none⟩ (.slice (some ⟨g1, 0, none⟩) m1 c1)).setCell ⟨w.heap.size + 1 + 1, 1, none⟩ (.int .i64 n)).setCell ⟨w.heap.size + 1 + 1, 2, none⟩ (.bool hs)).heap.size) := by
    show _ ≤ _
    rw [hs2]
    exact hs1
  generalize hw2 : (((w1.setCell ⟨w.heap.size + 1 + 1, 0, none⟩ (.slice (some ⟨g1, 0, none⟩) m1 c1)).setCell ⟨w.heap.size + 1 + 1, 1, none⟩ (.int .i64 n)).setCell ⟨w.heap.size + 1 + 1, 2, none⟩ (.bool hs)) = w2 at D1 D2 D0 B2 M2 HG
  have HW2 := Lib.hid hw2
  clear hw2 b1 HS C0 C1 C2 B0 B1 M1 hs2 hs1
  go_wp2_with fail
  rw [HW2.out]
  refine (HV.out _).mono ?_
  rintro e w3 ⟨rfl, b3⟩
  have B3 := below_then B2 b3 B2.size
  replace D1 := D1.below b3
  replace D2 := D2.below b3
  have HM2 := Lib.hid (M2.below b3 (Nat.le_refl _))
  have HS3 := Lib.hid b3.size
  simp only [List.set_cons_succ, List.set_cons_zero] at D2
  obtain ⟨d0, gg0⟩ := D2 0 _ rfl
  obtain ⟨d1, gg1⟩ := D2 1 _ rfl
  obtain ⟨d2, gg2⟩ := D2 2 _ rfl
  obtain ⟨d3, gg3⟩ := D2 3 _ rfl
  obtain ⟨d4, gg4⟩ := D2 4 _ rfl
  obtain ⟨d5, gg5⟩ := D2 5 _ rfl
  obtain ⟨mm0, nn0⟩ := D1 0 _ rfl
  obtain ⟨mm1, nn1⟩ := D1 1 _ rfl
  obtain ⟨mm2, nn2⟩ := D1 2 _ rfl
  obtain ⟨mm3, nn3⟩ := D1 3 _ rfl
  obtain ⟨mm4, nn4⟩ := D1 4 _ rfl
  obtain ⟨mm5, nn5⟩ := D1 5 _ rfl
  clear D0 D1 D2 b3 B2 M2 HV c1' c2' c3' c4' c5' e0 e1 e2 f0 f1 f2 HW2 HW0 HSZ
  go_wp2
  refine bodyPost_ret (v := .agg #[.slice (some ⟨g1, 0, none⟩) m1 c1, .int .i64 n, .bool hs, .int .i64 vt, .int .i64 vn, .string vs]) (by simp [results, Tryd.results15, go_sem, *]) rfl ⟨_, rfl, qs, ?_, HQS.out, ?_⟩
  · have := HG.out
    exact MyRs.wide ((((((((((HM2.out.setBelow (by simp) _).setBelow (by simp) _).setBelow (by simp) _).setBelow (by simp) _).setBelow (by simp) _).setBelow (by simp) _).setBelow (by simp) _).setBelow (by simp) _).setBelow (by simp) _)) (by omega) (by have := HS3.out; simpa using this)
  · exact (((((((((B3.setCell (by simp; omega) _).setCell (by simp; omega) _).setCell (by simp; omega) _).setCell (by simp) _).setCell (by simp) _).setCell (by simp) _).setCell (by simp) _).setCell (by simp) _).setCell (by simp) _)

set_option maxHeartbeats 1000000 in
theorem eqResult (n : Int) (hs : Bool) (vt vn : Int) (vs : ByteArray) (u1 u2 : Value) (ps qs : List P) (w : World) (he : qs.map (·.1) = ps.map (·.1)) (h1 : RdRs w u1 ps) (h2 : RdRs w u2 qs) :
    Calls Tryd.prog 18 #[.agg #[u1, .int .i64 n, .bool hs, .int .i64 vt, .int .i64 vn, .string vs], .agg #[u2, .int .i64 n, .bool hs, .int .i64 vt, .int .i64 vn, .string vs]] w fun e w' => e = .returned (.bool true) ∧ Below w.heap.size w w' := by
  have HS := Lib.hid (fun W (hW : Below w.heap.size w W) => eqRowS u1 u2 ps qs W he (h1.below hW) (h2.below hW))
  have HV := Lib.hid (fun W => eqVal ⟨vt, vn, vs⟩ W)
  have B0 := below_alloc2 w (.cells #[u1, .int .i64 n, .bool hs, .int .i64 vt, .int .i64 vn, .string vs] 50) (.cells #[u2, .int .i64 n, .bool hs, .int .i64 vt, .int .i64 vn, .string vs] 50)
  have C0 := (blk_new w [u1, .int .i64 n, .bool hs, .int .i64 vt, .int .i64 vn, .string vs] 50).below (below_alloc _ (.cells #[u2, .int .i64 n, .bool hs, .int .i64 vt, .int .i64 vn, .string vs] 50))
  have C1 := blk_new (w.alloc (.cells #[u1, .int .i64 n, .bool hs, .int .i64 vt, .int .i64 vn, .string vs] 50)) [u2, .int .i64 n, .bool hs, .int .i64 vt, .int .i64 vn, .string vs] 50
  rw [World.size_alloc] at C1
  obtain ⟨⟨a1, x1, hu1, _⟩, _⟩ := h1
  obtain ⟨⟨a2, x2, hu2, _⟩, _⟩ := h2
  generalize ps.length = m1 at hu1
  generalize qs.length = m2 at hu2
  subst hu1 hu2
  have hn : (n != n) = false := by simp
  have hh : (hs != hs) = false := by simp
  go_enter Tryd.func18, Tryd.ntmps18
  go_wp2_with fail
  refine (HS.out _ B0).mono ?_
  rintro e w1 ⟨rfl, b1⟩
  have B1 := below_then B0 b1 B0.size
  have c1 := (C0.below b1 1 _ rfl).1
  have d1 := (C1.below b1 1 _ rfl).1
  have c2 := (C0.below b1 2 _ rfl).1
  have d2 := (C1.below b1 2 _ rfl).1
  have c3 := (C0.below b1 3 _ rfl).1
  have d3 := (C1.below b1 3 _ rfl).1
  have c4 := (C0.below b1 4 _ rfl).1
  have d4 := (C1.below b1 4 _ rfl).1
  have c5 := (C0.below b1 5 _ rfl).1
  have d5 := (C1.below b1 5 _ rfl).1
  clear b1 HS C0 C1 B0
  go_wp2_with fail
  refine (HV.out _).mono ?_
  rintro e w2 ⟨rfl, b2⟩
  have B2 := below_then B1 b2 B1.size
  clear b2 HV c1 d1 c2 d2 c3 d3 c4 d4 c5 d5
  go_wp2
  go_ret
  exact ⟨rfl, B2⟩

set_option maxHeartbeats 1000000 in
theorem markResult (n : Int) (hs : Bool) (vt vn : Int) (vs : ByteArray) (u : Value) (ps : List P) (lo hi s : Nat) (w : World) (hz : hi ≤ w.heap.size) (h0 : 0 < s) (hsb : s ≤ 67108864) (hn : ps.length ≤ 1048576) (hr : rlen ps ≤ 16777216) (h : MyRs lo hi w u ps) :
    Calls Tryd.prog 22 #[.agg #[u, .int .i64 n, .bool hs, .int .i64 vt, .int .i64 vn, .string vs], .int .i64 s] w fun e w' => e = .returned (.int .i64 (s + rlen ps : Nat)) ∧ MyRs lo hi w' u (rmarks s ps) ∧ Within lo hi w w' := by
  have B0 := below_alloc w (.cells #[u, .int .i64 n, .bool hs, .int .i64 vt, .int .i64 vn, .string vs] 50)
  have C0 := blk_new w [u, .int .i64 n, .bool hs, .int .i64 vt, .int .i64 vn, .string vs] 50
  have p0 := (C0 0 _ rfl).1
  have HM := Lib.hid (markRowsM u ps lo hi s (w.alloc (.cells #[u, .int .i64 n, .bool hs, .int .i64 vt, .int .i64 vn, .string vs] 50)) h0 hsb hn hr (h.below B0 hz))
  have HW : Hid (Within lo hi w (w.alloc (.cells #[u, .int .i64 n, .bool hs, .int .i64 vt, .int .i64 vn, .string vs] 50))) := (Within.refl lo hi w).on B0
  generalize hw0 : w.alloc (.cells #[u, .int .i64 n, .bool hs, .int .i64 vt, .int .i64 vn, .string vs] 50) = w0 at p0 HM HW
  have HW0 := Lib.hid hw0
  obtain ⟨a, cp, hu⟩ := h.1.sl
  generalize ps.length = m at hu
  subst hu
  generalize hsm : s + rlen ps = sm at HM ⊢
  clear hsm hw0 h C0 B0
  go_enter Tryd.func22, Tryd.ntmps22
  go_wp2_with fail
  rw [HW0.out]
  refine HM.out.mono ?_
  rintro e w1 ⟨rfl, h1, h2⟩
  have HH := Lib.hid h1
  have HK := Lib.hid (HW.out.trans h2)
  clear h1 h2
  go_wp2
  go_ret
  exact ⟨rfl, HH.out, HK.out⟩

theorem heldResult (n : Int) (hs : Bool) (vt vn : Int) (vs : ByteArray) (u : Value) (ps : List P) (s : Nat) (w : World) (h0 : 0 < s) (hsb : s ≤ 1048576) (hn : ps.length ≤ 1048576) (hr : rlen ps ≤ 16777216) (h : RdRs w u (rmarks s ps)) :
    Calls Tryd.prog 23 #[.agg #[u, .int .i64 n, .bool hs, .int .i64 vt, .int .i64 vn, .string vs], .int .i64 s] w fun e w' => e = .returned (.int .i64 (s + rlen ps : Nat)) ∧ Below w.heap.size w w' := by
  have B0 := below_alloc w (.cells #[u, .int .i64 n, .bool hs, .int .i64 vt, .int .i64 vn, .string vs] 50)
  have C0 := blk_new w [u, .int .i64 n, .bool hs, .int .i64 vt, .int .i64 vn, .string vs] 50
  have p0 := (C0 0 _ rfl).1
  have HM := Lib.hid (heldRowS u ps s (w.alloc (.cells #[u, .int .i64 n, .bool hs, .int .i64 vt, .int .i64 vn, .string vs] 50)) h0 hsb hn hr (h.below B0))
  generalize hw0 : w.alloc (.cells #[u, .int .i64 n, .bool hs, .int .i64 vt, .int .i64 vn, .string vs] 50) = w0 at p0 HM B0
  have HW0 := Lib.hid hw0
  obtain ⟨⟨a, cp, hu, _⟩, _⟩ := h
  generalize (rmarks s ps).length = m at hu
  subst hu
  have hpos : ¬ (((s + rlen ps : Nat) : Int) < 0) := by omega
  generalize hsm : s + rlen ps = sm at HM hpos ⊢
  clear hsm hw0 C0
  go_enter Tryd.func23, Tryd.ntmps23
  go_wp2_with fail
  rw [HW0.out]
  refine HM.out.mono ?_
  rintro e w1 ⟨rfl, b1⟩
  have B1 := below_then B0 b1 B0.size
  clear b1
  go_wp2
  go_ret
  exact ⟨rfl, B1⟩

end Go.Proofs.YtkofafefnlommaaDoor
