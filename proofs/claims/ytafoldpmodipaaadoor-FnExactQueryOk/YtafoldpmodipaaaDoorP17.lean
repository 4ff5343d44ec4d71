/- Texts of this claim, one behind the other: S12q. -/
import Derived.Test.YtafoldpmodipaaaDoorP16
import Derived.Test.YtafoldpmodipaaaDoorP3

/- The model's QueryOk (written by mk_S12q.py). -/
namespace Go.Proofs.YtafoldpmodipaaaDoor
open Go.RowKit

set_option maxRecDepth 100000 in
set_option maxHeartbeats 2000000 in
theorem sQueryOk1 {Q : Nat → Prop} (cols zs : List Int) (t : T) (qc : Int) (ua : Option Addr) (un uc : Nat) (oa : Option Addr) (on oc : Nat) (ca : Option Addr) (cn cc : Nat) (w : World) (hcl : cols.length = cn) (hzl : zs.length = on) (hc1 : cn ≤ 1048576) (hz1 : on ≤ 1048576) (hc : Rd 1 w (.slice ca cn cc) cn (ints .i64 cols)) (hz : Rd 1 w (.slice oa on oc) on (ints .i64 zs)) (hs : t.Small) (hbk : t.bulk ≤ 1048577) (hr : RdT Q w t (.slice ua un uc)) :
    Calls Tryd.prog 8 #[.slice ca cn cc, .agg #[.int .i64 1, .int .i64 t.kind, .int .i64 t.col, .int .i64 t.op, .int .i64 t.v.ty, .int .i64 t.v.n, .string t.v.s, .slice ua un uc, .int .i64 qc, .slice oa on oc]] w fun e w' => e = .returned (.bool (queryOk cols 1 qc t zs)) ∧ Below w.heap.size w w' := by
  have hU : True := by
    have := hc1
    have := hz1
    have := hz
    have := hzl
    trivial
  clear hU
  have HP := Lib.hid (fun W (hW : Below w.heap.size w W) => sPredOk cols t _ (.slice ua un uc) (.slice ca cn cc) W hs (by omega) (hr.below hW) (by rw [hcl]; exact hc.below hW))
  unfold queryOk
  generalize t.predOk cols = p at HP ⊢
  have B0 := below_alloc w (.cells #[.int .i64 1, .int .i64 t.kind, .int .i64 t.col, .int .i64 t.op, .int .i64 t.v.ty, .int .i64 t.v.n, .string t.v.s, .slice ua un uc, .int .i64 qc, .slice oa on oc] 38)
  have C0 := blk_new w [.int .i64 1, .int .i64 t.kind, .int .i64 t.col, .int .i64 t.op, .int .i64 t.v.ty, .int .i64 t.v.n, .string t.v.s, .slice ua un uc, .int .i64 qc, .slice oa on oc] 38
  generalize hw0 : w.alloc (.cells #[.int .i64 1, .int .i64 t.kind, .int .i64 t.col, .int .i64 t.op, .int .i64 t.v.ty, .int .i64 t.v.n, .string t.v.s, .slice ua un uc, .int .i64 qc, .slice oa on oc] 38) = w0 at B0 C0
  have HW0 := Lib.hid hw0
  have k1 := (C0 1 _ rfl).1
  have k2 := (C0 2 _ rfl).1
  have k3 := (C0 3 _ rfl).1
  have k4 := (C0 4 _ rfl).1
  have k5 := (C0 5 _ rfl).1
  have k6 := (C0 6 _ rfl).1
  have k7 := (C0 7 _ rfl).1
  clear hw0 hr hs hbk
  rw [qform_1, hcl, hzl]
  obtain ⟨oa', oc', hoe, _, HOI⟩ := hz.ints hzl
  simp only [Value.slice.injEq] at hoe
  obtain ⟨rfl, -, rfl⟩ := hoe
  have HZL := Lib.hid hzl
  have HOJ := Lib.hid (fun k (hk : k < on) W (hW : Below w.heap.size w W) => (show ∃ b off, oa = some ⟨b, off, none⟩ ∧ W.cell? ⟨b, off + k, none⟩ = some (.int .i64 (zs.getD k 0)) from by
    obtain ⟨b, off, h1, h2⟩ := HOI.out k hk
    exact ⟨b, off, h1, (hW.cell (p := ⟨b, off + k, none⟩) (lt_of_cell h2)).trans h2⟩))
  clear hc hz hcl hzl HOI
  go_enter Tryd.func8, Tryd.ntmps8
  go_wp2_with fail
  rw [HW0.out]
  refine (HP.out _ B0).mono ?_
  rintro e w1 ⟨rfl, b1⟩
  have B1 := below_then B0 b1 B0.size
  have C1 := C0.below b1
  have p0 := (C1 0 _ rfl).1
  have p8 := (C1 8 _ rfl).1
  have p9 := (C1 9 _ rfl).1
  clear k1 k2 k3 k4 k5 k6 k7 b1 B0 C0 C1 HP HW0
  cases p with
  | false =>
    go_wp2
    go_ret
    exact ⟨rfl, B1⟩
  | true =>
    go_wp2
    go_loopw [5] (fun i wr => ∃ k : Nat, k ≤ on ∧ i = .int .i64 k ∧ (∀ j, j < k → Num.inB (zs.getD j 0) 0 ((cn : Int) - 1) = true) ∧ wr = w1) (fun i _ => on - (intOf i).toNat)
    case atStart => exact ⟨0, Nat.zero_le _, rfl, fun j hj => by omega, rfl⟩
    case round =>
      obtain ⟨k, hk, rfl, hpre, rfl⟩ := hrel
      have HPRE := Lib.hid hpre
      clear hpre
      by_cases hlt : k < on
      · obtain ⟨b, off, rfl, hcell⟩ := HOJ.out k hlt _ B1
        generalize hy : zs.getD k 0 = y at hcell
        have HY := Lib.hid hy
        clear hy
        have HI := Lib.hid (fun W => l1In y 0 ((cn : Int) - 1) W)
        cases hi : Num.inB y 0 ((cn : Int) - 1) with
        | false =>
          rw [hi] at HI
          have HF : Hid (zs.all (fun k => Num.inB k 0 ((cn : Int) - 1)) = false) := allIn_no (k := k) (by rw [HZL.out]; exact hlt) (by rw [HY.out]; exact hi)
          clear hi
          go_wp2_with fail
          refine (HI.out _).mono ?_
          rintro e w2 ⟨rfl, rfl⟩
          go_wp2
          go_ret
          exact ⟨ret_bool (by rw [HF.out]; rfl), B1⟩
        | true =>
          rw [hi] at HI
          have HN : Hid (∀ j, j < k + 1 → Num.inB (zs.getD j 0) 0 ((cn : Int) - 1) = true) := fun j hj => by
            by_cases hjk : j = k
            · rw [hjk, HY.out]
              exact hi
            · exact HPRE.out j (by omega)
          clear hi
          go_wp2_with fail
          refine (HI.out _).mono ?_
          rintro e w2 ⟨rfl, rfl⟩
          go_wp2
          go_roundw
          case rel => exact ⟨k + 1, by omega, by go_num, HN.out, trivial⟩
          case measure => simp [intOf]; omega
      · obtain rfl : k = on := by omega
        have HF : Hid (zs.all (fun k => Num.inB k 0 ((cn : Int) - 1)) = true) := allIn_yes (fun j hj => HPRE.out j (by rw [HZL.out] at hj; exact hj))
        have HI := Lib.hid (fun W => l1In (k : Int) 1 3 W)
        by_cases h0 : qc = 0
        · subst h0
          have hb0 : ((0 : Int) == 0) = true := rfl
          go_wp2_with fail
          refine (HI.out _).mono ?_
          rintro e w2 ⟨rfl, rfl⟩
          generalize hii : Num.inB (k : Int) 1 3 = ii
          have HII := Lib.hid hii
          clear hii
          go_wp2
          go_ret
          exact ⟨ret_bool (by rw [HF.out, HII.out]; rfl), B1⟩
        · have hb0 : (qc == 0) = false := by simp [h0]
          go_wp2
          go_ret
          exact ⟨ret_bool (by rw [HF.out, hb0]; rfl), B1⟩

set_option maxRecDepth 100000 in
set_option maxHeartbeats 2000000 in
theorem sQueryOk2 {Q : Nat → Prop} (cols zs : List Int) (t : T) (qc : Int) (ua : Option Addr) (un uc : Nat) (oa : Option Addr) (on oc : Nat) (ca : Option Addr) (cn cc : Nat) (w : World) (hcl : cols.length = cn) (hzl : zs.length = on) (hc1 : cn ≤ 1048576) (hz1 : on ≤ 1048576) (hc : Rd 1 w (.slice ca cn cc) cn (ints .i64 cols)) (hz : Rd 1 w (.slice oa on oc) on (ints .i64 zs)) (hs : t.Small) (hbk : t.bulk ≤ 1048577) (hr : RdT Q w t (.slice ua un uc)) :
    Calls Tryd.prog 8 #[.slice ca cn cc, .agg #[.int .i64 2, .int .i64 t.kind, .int .i64 t.col, .int .i64 t.op, .int .i64 t.v.ty, .int .i64 t.v.n, .string t.v.s, .slice ua un uc, .int .i64 qc, .slice oa on oc]] w fun e w' => e = .returned (.bool (queryOk cols 2 qc t zs)) ∧ Below w.heap.size w w' := by
  have hU : True := by
    have := hc1
    have := hz1
    have := hz
    have := hzl
    trivial
  clear hU
  have HP := Lib.hid (fun W (hW : Below w.heap.size w W) => sPredOk cols t _ (.slice ua un uc) (.slice ca cn cc) W hs (by omega) (hr.below hW) (by rw [hcl]; exact hc.below hW))
  unfold queryOk
  generalize t.predOk cols = p at HP ⊢
  have B0 := below_alloc w (.cells #[.int .i64 2, .int .i64 t.kind, .int .i64 t.col, .int .i64 t.op, .int .i64 t.v.ty, .int .i64 t.v.n, .string t.v.s, .slice ua un uc, .int .i64 qc, .slice oa on oc] 38)
  have C0 := blk_new w [.int .i64 2, .int .i64 t.kind, .int .i64 t.col, .int .i64 t.op, .int .i64 t.v.ty, .int .i64 t.v.n, .string t.v.s, .slice ua un uc, .int .i64 qc, .slice oa on oc] 38
  generalize hw0 : w.alloc (.cells #[.int .i64 2, .int .i64 t.kind, .int .i64 t.col, .int .i64 t.op, .int .i64 t.v.ty, .int .i64 t.v.n, .string t.v.s, .slice ua un uc, .int .i64 qc, .slice oa on oc] 38) = w0 at B0 C0
  have HW0 := Lib.hid hw0
  have k1 := (C0 1 _ rfl).1
  have k2 := (C0 2 _ rfl).1
  have k3 := (C0 3 _ rfl).1
  have k4 := (C0 4 _ rfl).1
  have k5 := (C0 5 _ rfl).1
  have k6 := (C0 6 _ rfl).1
  have k7 := (C0 7 _ rfl).1
  clear hw0 hr hs hbk
  rw [qform_2, hzl]
  clear hc hz hcl hzl
  go_enter Tryd.func8, Tryd.ntmps8
  go_wp2_with fail
  rw [HW0.out]
  refine (HP.out _ B0).mono ?_
  rintro e w1 ⟨rfl, b1⟩
  have B1 := below_then B0 b1 B0.size
  have C1 := C0.below b1
  have p0 := (C1 0 _ rfl).1
  have p8 := (C1 8 _ rfl).1
  have p9 := (C1 9 _ rfl).1
  clear k1 k2 k3 k4 k5 k6 k7 b1 B0 C0 C1 HP HW0
  cases p with
  | false =>
    go_wp2
    go_ret
    exact ⟨rfl, B1⟩
  | true =>
    by_cases h0 : qc = 0
    · subst h0
      have hb0 : ((0 : Int) == 0) = true := rfl
      by_cases h1 : on = 0
      · subst h1
        go_wp2
        go_ret
        exact ⟨rfl, B1⟩
      · have hb1 : ((on : Int) == 0) = false := by simp; omega
        have hb2 : (on == 0) = false := by simp; omega
        go_wp2
        go_ret
        exact ⟨ret_bool (by first | rfl | (rw [hb2]; rfl) | (rw [hb2]; simp; done) | (simp; done) | simp_all), B1⟩
    · have hb0 : (qc == 0) = false := by simp [h0]
      go_wp2
      go_ret
      exact ⟨ret_bool (by first | rfl | (rw [hb0]; rfl) | (rw [hb0]; simp; done) | (simp; done) | simp_all), B1⟩

set_option maxRecDepth 100000 in
set_option maxHeartbeats 2000000 in
theorem sQueryOk3 {Q : Nat → Prop} (cols zs : List Int) (t : T) (qc : Int) (ua : Option Addr) (un uc : Nat) (oa : Option Addr) (on oc : Nat) (ca : Option Addr) (cn cc : Nat) (w : World) (hcl : cols.length = cn) (hzl : zs.length = on) (hc1 : cn ≤ 1048576) (hz1 : on ≤ 1048576) (hc : Rd 1 w (.slice ca cn cc) cn (ints .i64 cols)) (hz : Rd 1 w (.slice oa on oc) on (ints .i64 zs)) (hs : t.Small) (hbk : t.bulk ≤ 1048577) (hr : RdT Q w t (.slice ua un uc)) :
    Calls Tryd.prog 8 #[.slice ca cn cc, .agg #[.int .i64 3, .int .i64 t.kind, .int .i64 t.col, .int .i64 t.op, .int .i64 t.v.ty, .int .i64 t.v.n, .string t.v.s, .slice ua un uc, .int .i64 qc, .slice oa on oc]] w fun e w' => e = .returned (.bool (queryOk cols 3 qc t zs)) ∧ Below w.heap.size w w' := by
  have hU : True := by
    have := hc1
    have := hz1
    have := hz
    have := hzl
    trivial
  clear hU
  have HP := Lib.hid (fun W (hW : Below w.heap.size w W) => sPredOk cols t _ (.slice ua un uc) (.slice ca cn cc) W hs (by omega) (hr.below hW) (by rw [hcl]; exact hc.below hW))
  unfold queryOk
  generalize t.predOk cols = p at HP ⊢
  have B0 := below_alloc w (.cells #[.int .i64 3, .int .i64 t.kind, .int .i64 t.col, .int .i64 t.op, .int .i64 t.v.ty, .int .i64 t.v.n, .string t.v.s, .slice ua un uc, .int .i64 qc, .slice oa on oc] 38)
  have C0 := blk_new w [.int .i64 3, .int .i64 t.kind, .int .i64 t.col, .int .i64 t.op, .int .i64 t.v.ty, .int .i64 t.v.n, .string t.v.s, .slice ua un uc, .int .i64 qc, .slice oa on oc] 38
  generalize hw0 : w.alloc (.cells #[.int .i64 3, .int .i64 t.kind, .int .i64 t.col, .int .i64 t.op, .int .i64 t.v.ty, .int .i64 t.v.n, .string t.v.s, .slice ua un uc, .int .i64 qc, .slice oa on oc] 38) = w0 at B0 C0
  have HW0 := Lib.hid hw0
  have k1 := (C0 1 _ rfl).1
  have k2 := (C0 2 _ rfl).1
  have k3 := (C0 3 _ rfl).1
  have k4 := (C0 4 _ rfl).1
  have k5 := (C0 5 _ rfl).1
  have k6 := (C0 6 _ rfl).1
  have k7 := (C0 7 _ rfl).1
  clear hw0 hr hs hbk
  rw [qform_3, hcl, hzl]
  obtain ⟨ca', cc', hce, _, HCI⟩ := hc.ints hcl
  simp only [Value.slice.injEq] at hce
  obtain ⟨rfl, -, rfl⟩ := hce
  have HCJ := Lib.hid (fun k (hk : k < cn) W (hW : Below w.heap.size w W) => (show ∃ b off, ca = some ⟨b, off, none⟩ ∧ W.cell? ⟨b, off + k, none⟩ = some (.int .i64 (cols.getD k 0)) from by
    obtain ⟨b, off, h1, h2⟩ := HCI.out k hk
    exact ⟨b, off, h1, (hW.cell (p := ⟨b, off + k, none⟩) (lt_of_cell h2)).trans h2⟩))
  clear hc hz hcl hzl HCI
  go_enter Tryd.func8, Tryd.ntmps8
  go_wp2_with fail
  rw [HW0.out]
  refine (HP.out _ B0).mono ?_
  rintro e w1 ⟨rfl, b1⟩
  have B1 := below_then B0 b1 B0.size
  have C1 := C0.below b1
  have p0 := (C1 0 _ rfl).1
  have p8 := (C1 8 _ rfl).1
  have p9 := (C1 9 _ rfl).1
  clear k1 k2 k3 k4 k5 k6 k7 b1 B0 C0 C1 HP HW0
  cases p with
  | false =>
    go_wp2
    go_ret
    exact ⟨rfl, B1⟩
  | true =>
    have HI := Lib.hid (fun W => l1In qc 0 ((cn : Int) - 1) W)
    cases hi : Num.inB qc 0 ((cn : Int) - 1) with
    | false =>
      rw [hi] at HI
      have HII := Lib.hid hi
      clear hi
      go_wp2_with fail
      refine (HI.out _).mono ?_
      rintro e w2 ⟨rfl, rfl⟩
      go_wp2
      go_ret
      exact ⟨ret_bool (by first | rfl | (rw [HII.out]; rfl) | (rw [HII.out]; simp; done) | (simp; done) | simp_all), B1⟩
    | true =>
      rw [hi] at HI
      have hir := Num.inB_true.1 hi
      have HII := Lib.hid hi
      clear hi
      obtain ⟨k, rfl⟩ := Int.eq_ofNat_of_zero_le hir.1
      have hkc : k < cn := by omega
      have hki : (k : Int) < (cn : Int) := by omega
      obtain ⟨b, off, rfl, hcell⟩ := HCJ.out k hkc _ B1
      have HTN : Hid (((k : Int)).toNat = k) := Int.toNat_natCast k
      generalize hy0 : cols.getD k 0 = y at hcell
      have HY := Lib.hid hy0
      clear hy0 hir
      by_cases hy : y = 1
      · subst hy
        by_cases h1 : on = 0
        · subst h1
          go_wp2_with fail
          refine (HI.out _).mono ?_
          rintro e w2 ⟨rfl, rfl⟩
          go_wp2
          go_ret
          exact ⟨ret_bool (by rw [HII.out, HTN.out, HY.out]; rfl), B1⟩
        · have hb1 : ((on : Int) == 0) = false := by simp; omega
          have hb2 : (on == 0) = false := by simp; omega
          go_wp2_with fail
          refine (HI.out _).mono ?_
          rintro e w2 ⟨rfl, rfl⟩
          go_wp2
          go_ret
          exact ⟨ret_bool (by rw [HII.out, HTN.out, HY.out, hb2]; rfl), B1⟩
      · have hyb : (y == 1) = false := by simp [hy]
        go_wp2_with fail
        refine (HI.out _).mono ?_
        rintro e w2 ⟨rfl, rfl⟩
        go_wp2
        go_ret
        exact ⟨ret_bool (by rw [HII.out, HTN.out, HY.out, hyb]; rfl), B1⟩

set_option maxRecDepth 100000 in
set_option maxHeartbeats 2000000 in
theorem sQueryOk4 {Q : Nat → Prop} (cols zs : List Int) (t : T) (qc : Int) (ua : Option Addr) (un uc : Nat) (oa : Option Addr) (on oc : Nat) (ca : Option Addr) (cn cc : Nat) (w : World) (hcl : cols.length = cn) (hzl : zs.length = on) (hc1 : cn ≤ 1048576) (hz1 : on ≤ 1048576) (hc : Rd 1 w (.slice ca cn cc) cn (ints .i64 cols)) (hz : Rd 1 w (.slice oa on oc) on (ints .i64 zs)) (hs : t.Small) (hbk : t.bulk ≤ 1048577) (hr : RdT Q w t (.slice ua un uc)) :
    Calls Tryd.prog 8 #[.slice ca cn cc, .agg #[.int .i64 4, .int .i64 t.kind, .int .i64 t.col, .int .i64 t.op, .int .i64 t.v.ty, .int .i64 t.v.n, .string t.v.s, .slice ua un uc, .int .i64 qc, .slice oa on oc]] w fun e w' => e = .returned (.bool (queryOk cols 4 qc t zs)) ∧ Below w.heap.size w w' := by
  have hU : True := by
    have := hc1
    have := hz1
    have := hz
    have := hzl
    trivial
  clear hU
  have HP := Lib.hid (fun W (hW : Below w.heap.size w W) => sPredOk cols t _ (.slice ua un uc) (.slice ca cn cc) W hs (by omega) (hr.below hW) (by rw [hcl]; exact hc.below hW))
  unfold queryOk
  generalize t.predOk cols = p at HP ⊢
  have B0 := below_alloc w (.cells #[.int .i64 4, .int .i64 t.kind, .int .i64 t.col, .int .i64 t.op, .int .i64 t.v.ty, .int .i64 t.v.n, .string t.v.s, .slice ua un uc, .int .i64 qc, .slice oa on oc] 38)
  have C0 := blk_new w [.int .i64 4, .int .i64 t.kind, .int .i64 t.col, .int .i64 t.op, .int .i64 t.v.ty, .int .i64 t.v.n, .string t.v.s, .slice ua un uc, .int .i64 qc, .slice oa on oc] 38
  generalize hw0 : w.alloc (.cells #[.int .i64 4, .int .i64 t.kind, .int .i64 t.col, .int .i64 t.op, .int .i64 t.v.ty, .int .i64 t.v.n, .string t.v.s, .slice ua un uc, .int .i64 qc, .slice oa on oc] 38) = w0 at B0 C0
  have HW0 := Lib.hid hw0
  have k1 := (C0 1 _ rfl).1
  have k2 := (C0 2 _ rfl).1
  have k3 := (C0 3 _ rfl).1
  have k4 := (C0 4 _ rfl).1
  have k5 := (C0 5 _ rfl).1
  have k6 := (C0 6 _ rfl).1
  have k7 := (C0 7 _ rfl).1
  clear hw0 hr hs hbk
  rw [qform_4, hcl, hzl]
  clear hc hz hcl hzl
  go_enter Tryd.func8, Tryd.ntmps8
  go_wp2_with fail
  rw [HW0.out]
  refine (HP.out _ B0).mono ?_
  rintro e w1 ⟨rfl, b1⟩
  have B1 := below_then B0 b1 B0.size
  have C1 := C0.below b1
  have p0 := (C1 0 _ rfl).1
  have p8 := (C1 8 _ rfl).1
  have p9 := (C1 9 _ rfl).1
  clear k1 k2 k3 k4 k5 k6 k7 b1 B0 C0 C1 HP HW0
  cases p with
  | false =>
    go_wp2
    go_ret
    exact ⟨rfl, B1⟩
  | true =>
    have HI := Lib.hid (fun W => l1In qc 0 ((cn : Int) - 1) W)
    cases hi : Num.inB qc 0 ((cn : Int) - 1) with
    | false =>
      rw [hi] at HI
      have HII := Lib.hid hi
      clear hi
      go_wp2_with fail
      refine (HI.out _).mono ?_
      rintro e w2 ⟨rfl, rfl⟩
      go_wp2
      go_ret
      exact ⟨ret_bool (by first | rfl | (rw [HII.out]; rfl) | (rw [HII.out]; simp; done) | (simp; done) | simp_all), B1⟩
    | true =>
      rw [hi] at HI
      have HII := Lib.hid hi
      clear hi
      by_cases h1 : on = 0
      · subst h1
        go_wp2_with fail
        refine (HI.out _).mono ?_
        rintro e w2 ⟨rfl, rfl⟩
        go_wp2
        go_ret
        exact ⟨ret_bool (by first | rfl | (rw [HII.out]; rfl) | (rw [HII.out]; simp; done) | (simp; done) | simp_all), B1⟩
      · have hb1 : ((on : Int) == 0) = false := by simp; omega
        have hb2 : (on == 0) = false := by simp; omega
        go_wp2_with fail
        refine (HI.out _).mono ?_
        rintro e w2 ⟨rfl, rfl⟩
        go_wp2
        go_ret
        exact ⟨ret_bool (by first | rfl | (rw [HII.out, hb2]; rfl) | (rw [HII.out, hb2]; simp; done) | (simp; done) | simp_all), B1⟩

set_option maxRecDepth 100000 in
set_option maxHeartbeats 2000000 in
theorem sQueryOk5 {Q : Nat → Prop} (cols zs : List Int) (t : T) (qc : Int) (ua : Option Addr) (un uc : Nat) (oa : Option Addr) (on oc : Nat) (ca : Option Addr) (cn cc : Nat) (w : World) (hcl : cols.length = cn) (hzl : zs.length = on) (hc1 : cn ≤ 1048576) (hz1 : on ≤ 1048576) (hc : Rd 1 w (.slice ca cn cc) cn (ints .i64 cols)) (hz : Rd 1 w (.slice oa on oc) on (ints .i64 zs)) (hs : t.Small) (hbk : t.bulk ≤ 1048577) (hr : RdT Q w t (.slice ua un uc)) :
    Calls Tryd.prog 8 #[.slice ca cn cc, .agg #[.int .i64 5, .int .i64 t.kind, .int .i64 t.col, .int .i64 t.op, .int .i64 t.v.ty, .int .i64 t.v.n, .string t.v.s, .slice ua un uc, .int .i64 qc, .slice oa on oc]] w fun e w' => e = .returned (.bool (queryOk cols 5 qc t zs)) ∧ Below w.heap.size w w' := by
  have hU : True := by
    have := hc1
    have := hz1
    have := hz
    have := hzl
    trivial
  clear hU
  have HP := Lib.hid (fun W (hW : Below w.heap.size w W) => sPredOk cols t _ (.slice ua un uc) (.slice ca cn cc) W hs (by omega) (hr.below hW) (by rw [hcl]; exact hc.below hW))
  unfold queryOk
  generalize t.predOk cols = p at HP ⊢
  have B0 := below_alloc w (.cells #[.int .i64 5, .int .i64 t.kind, .int .i64 t.col, .int .i64 t.op, .int .i64 t.v.ty, .int .i64 t.v.n, .string t.v.s, .slice ua un uc, .int .i64 qc, .slice oa on oc] 38)
  have C0 := blk_new w [.int .i64 5, .int .i64 t.kind, .int .i64 t.col, .int .i64 t.op, .int .i64 t.v.ty, .int .i64 t.v.n, .string t.v.s, .slice ua un uc, .int .i64 qc, .slice oa on oc] 38
  generalize hw0 : w.alloc (.cells #[.int .i64 5, .int .i64 t.kind, .int .i64 t.col, .int .i64 t.op, .int .i64 t.v.ty, .int .i64 t.v.n, .string t.v.s, .slice ua un uc, .int .i64 qc, .slice oa on oc] 38) = w0 at B0 C0
  have HW0 := Lib.hid hw0
  have k1 := (C0 1 _ rfl).1
  have k2 := (C0 2 _ rfl).1
  have k3 := (C0 3 _ rfl).1
  have k4 := (C0 4 _ rfl).1
  have k5 := (C0 5 _ rfl).1
  have k6 := (C0 6 _ rfl).1
  have k7 := (C0 7 _ rfl).1
  clear hw0 hr hs hbk
  rw [qform_5, hcl, hzl]
  clear hc hz hcl hzl
  go_enter Tryd.func8, Tryd.ntmps8
  go_wp2_with fail
  rw [HW0.out]
  refine (HP.out _ B0).mono ?_
  rintro e w1 ⟨rfl, b1⟩
  have B1 := below_then B0 b1 B0.size
  have C1 := C0.below b1
  have p0 := (C1 0 _ rfl).1
  have p8 := (C1 8 _ rfl).1
  have p9 := (C1 9 _ rfl).1
  clear k1 k2 k3 k4 k5 k6 k7 b1 B0 C0 C1 HP HW0
  cases p with
  | false =>
    go_wp2
    go_ret
    exact ⟨rfl, B1⟩
  | true =>
    have HI := Lib.hid (fun W => l1In qc 0 ((cn : Int) - 1) W)
    cases hi : Num.inB qc 0 ((cn : Int) - 1) with
    | false =>
      rw [hi] at HI
      have HII := Lib.hid hi
      clear hi
      go_wp2_with fail
      refine (HI.out _).mono ?_
      rintro e w2 ⟨rfl, rfl⟩
      go_wp2
      go_ret
      exact ⟨ret_bool (by first | rfl | (rw [HII.out]; rfl) | (rw [HII.out]; simp; done) | (simp; done) | simp_all), B1⟩
    | true =>
      rw [hi] at HI
      have HII := Lib.hid hi
      clear hi
      by_cases h1 : on = 0
      · subst h1
        go_wp2_with fail
        refine (HI.out _).mono ?_
        rintro e w2 ⟨rfl, rfl⟩
        go_wp2
        go_ret
        exact ⟨ret_bool (by first | rfl | (rw [HII.out]; rfl) | (rw [HII.out]; simp; done) | (simp; done) | simp_all), B1⟩
      · have hb1 : ((on : Int) == 0) = false := by simp; omega
        have hb2 : (on == 0) = false := by simp; omega
        go_wp2_with fail
        refine (HI.out _).mono ?_
        rintro e w2 ⟨rfl, rfl⟩
        go_wp2
        go_ret
        exact ⟨ret_bool (by first | rfl | (rw [HII.out, hb2]; rfl) | (rw [HII.out, hb2]; simp; done) | (simp; done) | simp_all), B1⟩

set_option maxRecDepth 100000 in
set_option maxHeartbeats 2000000 in
theorem sQueryOkNo {Q : Nat → Prop} (qk : Int) (cols zs : List Int) (t : T) (qc : Int) (ua : Option Addr) (un uc : Nat) (oa : Option Addr) (on oc : Nat) (ca : Option Addr) (cn cc : Nat) (w : World) (hcl : cols.length = cn) (hzl : zs.length = on) (hc1 : cn ≤ 1048576) (hz1 : on ≤ 1048576) (hc : Rd 1 w (.slice ca cn cc) cn (ints .i64 cols)) (hz : Rd 1 w (.slice oa on oc) on (ints .i64 zs)) (hs : t.Small) (hbk : t.bulk ≤ 1048577) (hr : RdT Q w t (.slice ua un uc)) (hk : ¬ (1 ≤ qk ∧ qk ≤ 5)) :
    Calls Tryd.prog 8 #[.slice ca cn cc, .agg #[.int .i64 qk, .int .i64 t.kind, .int .i64 t.col, .int .i64 t.op, .int .i64 t.v.ty, .int .i64 t.v.n, .string t.v.s, .slice ua un uc, .int .i64 qc, .slice oa on oc]] w fun e w' => e = .returned (.bool (queryOk cols qk qc t zs)) ∧ Below w.heap.size w w' := by
  have hU : True := by
    have := hc1
    have := hz1
    have := hz
    have := hzl
    trivial
  clear hU
  have HP := Lib.hid (fun W (hW : Below w.heap.size w W) => sPredOk cols t _ (.slice ua un uc) (.slice ca cn cc) W hs (by omega) (hr.below hW) (by rw [hcl]; exact hc.below hW))
  unfold queryOk
  generalize t.predOk cols = p at HP ⊢
  have B0 := below_alloc w (.cells #[.int .i64 qk, .int .i64 t.kind, .int .i64 t.col, .int .i64 t.op, .int .i64 t.v.ty, .int .i64 t.v.n, .string t.v.s, .slice ua un uc, .int .i64 qc, .slice oa on oc] 38)
  have C0 := blk_new w [.int .i64 qk, .int .i64 t.kind, .int .i64 t.col, .int .i64 t.op, .int .i64 t.v.ty, .int .i64 t.v.n, .string t.v.s, .slice ua un uc, .int .i64 qc, .slice oa on oc] 38
  generalize hw0 : w.alloc (.cells #[.int .i64 qk, .int .i64 t.kind, .int .i64 t.col, .int .i64 t.op, .int .i64 t.v.ty, .int .i64 t.v.n, .string t.v.s, .slice ua un uc, .int .i64 qc, .slice oa on oc] 38) = w0 at B0 C0
  have HW0 := Lib.hid hw0
  have k1 := (C0 1 _ rfl).1
  have k2 := (C0 2 _ rfl).1
  have k3 := (C0 3 _ rfl).1
  have k4 := (C0 4 _ rfl).1
  have k5 := (C0 5 _ rfl).1
  have k6 := (C0 6 _ rfl).1
  have k7 := (C0 7 _ rfl).1
  clear hw0 hr hs hbk
  rw [qform_no hk, Bool.and_false]
  have b1 : (qk == 1) = false := by simp; omega
  have b2 : (qk == 2) = false := by simp; omega
  have b3 : (qk == 3) = false := by simp; omega
  have b4 : (qk == 4) = false := by simp; omega
  have b5 : (qk == 5) = false := by simp; omega
  clear hc hz hcl hzl hk
  go_enter Tryd.func8, Tryd.ntmps8
  go_wp2_with fail
  rw [HW0.out]
  refine (HP.out _ B0).mono ?_
  rintro e w1 ⟨rfl, b1⟩
  have B1 := below_then B0 b1 B0.size
  have C1 := C0.below b1
  have p0 := (C1 0 _ rfl).1
  have p8 := (C1 8 _ rfl).1
  have p9 := (C1 9 _ rfl).1
  clear k1 k2 k3 k4 k5 k6 k7 b1 B0 C0 C1 HP HW0
  cases p with
  | false =>
    go_wp2
    go_ret
    exact ⟨rfl, B1⟩
  | true =>
    go_wp2
    go_ret
    exact ⟨rfl, B1⟩

theorem sQueryOk {Q : Nat → Prop} (qk : Int) (cols zs : List Int) (t : T) (qc : Int) (ua : Option Addr) (un uc : Nat) (oa : Option Addr) (on oc : Nat) (ca : Option Addr) (cn cc : Nat) (w : World) (hcl : cols.length = cn) (hzl : zs.length = on) (hc1 : cn ≤ 1048576) (hz1 : on ≤ 1048576) (hc : Rd 1 w (.slice ca cn cc) cn (ints .i64 cols)) (hz : Rd 1 w (.slice oa on oc) on (ints .i64 zs)) (hs : t.Small) (hbk : t.bulk ≤ 1048577) (hr : RdT Q w t (.slice ua un uc)) :
    Calls Tryd.prog 8 #[.slice ca cn cc, .agg #[.int .i64 qk, .int .i64 t.kind, .int .i64 t.col, .int .i64 t.op, .int .i64 t.v.ty, .int .i64 t.v.n, .string t.v.s, .slice ua un uc, .int .i64 qc, .slice oa on oc]] w fun e w' => e = .returned (.bool (queryOk cols qk qc t zs)) ∧ Below w.heap.size w w' := by
  by_cases hk : 1 ≤ qk ∧ qk ≤ 5
  · rcases kinds5 hk with rfl | rfl | rfl | rfl | rfl
    · exact sQueryOk1 cols zs t qc ua un uc oa on oc ca cn cc w hcl hzl hc1 hz1 hc hz hs hbk hr
    · exact sQueryOk2 cols zs t qc ua un uc oa on oc ca cn cc w hcl hzl hc1 hz1 hc hz hs hbk hr
    · exact sQueryOk3 cols zs t qc ua un uc oa on oc ca cn cc w hcl hzl hc1 hz1 hc hz hs hbk hr
    · exact sQueryOk4 cols zs t qc ua un uc oa on oc ca cn cc w hcl hzl hc1 hz1 hc hz hs hbk hr
    · exact sQueryOk5 cols zs t qc ua un uc oa on oc ca cn cc w hcl hzl hc1 hz1 hc hz hs hbk hr
  · exact sQueryOkNo qk cols zs t qc ua un uc oa on oc ca cn cc w hcl hzl hc1 hz1 hc hz hs hbk hr hk

end Go.Proofs.YtafoldpmodipaaaDoor
