/- Texts of this claim, one behind the other: I12q. -/
import Derived.Test.YtafoldpmodipaaaDoorP16
import Derived.Test.YtafoldpmodipaaaDoorP7
import Derived.Test.YtafoldpmodipaaaDoorP18

/- What the program's kinds of queries ask of a query (written by mk_S12q.py). -/
namespace Go.Proofs.YtafoldpmodipaaaDoor
open Go.RowKit

set_option maxRecDepth 100000 in
set_option maxHeartbeats 2000000 in
theorem fitsNothing (qk : Int) (cols zs : List Int) (t : T) (qc : Int) (ua : Option Addr) (un uc : Nat) (oa : Option Addr) (on oc : Nat) (ca : Option Addr) (cn cc : Nat) (w : World) (hcl : cols.length = cn) (hzl : zs.length = on) (hc1 : cn ≤ 1048576) (hz1 : on ≤ 1048576) (hc : Rd 1 w (.slice ca cn cc) cn (ints .i64 cols)) (hz : Rd 1 w (.slice oa on oc) on (ints .i64 zs)) :
    Calls Tryd.prog 64 #[.agg #[.int .i64 qk, .int .i64 t.kind, .int .i64 t.col, .int .i64 t.op, .int .i64 t.v.ty, .int .i64 t.v.n, .string t.v.s, .slice ua un uc, .int .i64 qc, .slice oa on oc], .slice ca cn cc] w fun e w' => e = .returned (.bool (qform cols 2 qc zs)) ∧ Below w.heap.size w w' := by
  have hU : True := by
    have := hcl
    have := hzl
    have := hc1
    have := hz1
    have := hc
    have := hz
    trivial
  clear hU
  rw [qform_2, hzl]
  have B0 := below_alloc w (.cells #[.int .i64 qk, .int .i64 t.kind, .int .i64 t.col, .int .i64 t.op, .int .i64 t.v.ty, .int .i64 t.v.n, .string t.v.s, .slice ua un uc, .int .i64 qc, .slice oa on oc] 38)
  have C0 := blk_new w [.int .i64 qk, .int .i64 t.kind, .int .i64 t.col, .int .i64 t.op, .int .i64 t.v.ty, .int .i64 t.v.n, .string t.v.s, .slice ua un uc, .int .i64 qc, .slice oa on oc] 38
  have p8 := (C0 8 _ rfl).1
  have p9 := (C0 9 _ rfl).1
  clear C0
  by_cases h0 : qc = 0
  · subst h0
    have hb0 : ((0 : Int) == 0) = true := rfl
    by_cases h1 : on = 0
    · subst h1
      go_enter Tryd.func64, Tryd.ntmps64
      go_wp2
      go_ret
      exact ⟨rfl, B0⟩
    · have hb1 : ((on : Int) == 0) = false := by simp; omega
      have hb2 : (on == 0) = false := by simp; omega
      go_enter Tryd.func64, Tryd.ntmps64
      go_wp2
      go_ret
      exact ⟨ret_bool (by first | rfl | (rw [hb2]; rfl) | (rw [hb2]; simp) | (simp; done) | simp_all), B0⟩
  · have hb0 : (qc == 0) = false := by simp [h0]
    go_enter Tryd.func64, Tryd.ntmps64
    go_wp2
    go_ret
    exact ⟨ret_bool (by first | rfl | (rw [hb0]; rfl) | (rw [hb0]; simp) | (simp; done) | simp_all), B0⟩

set_option maxRecDepth 100000 in
set_option maxHeartbeats 2000000 in
theorem fitsColumn (qk : Int) (cols zs : List Int) (t : T) (qc : Int) (ua : Option Addr) (un uc : Nat) (oa : Option Addr) (on oc : Nat) (ca : Option Addr) (cn cc : Nat) (w : World) (hcl : cols.length = cn) (hzl : zs.length = on) (hc1 : cn ≤ 1048576) (hz1 : on ≤ 1048576) (hc : Rd 1 w (.slice ca cn cc) cn (ints .i64 cols)) (hz : Rd 1 w (.slice oa on oc) on (ints .i64 zs)) :
    Calls Tryd.prog 70 #[.agg #[.int .i64 qk, .int .i64 t.kind, .int .i64 t.col, .int .i64 t.op, .int .i64 t.v.ty, .int .i64 t.v.n, .string t.v.s, .slice ua un uc, .int .i64 qc, .slice oa on oc], .slice ca cn cc] w fun e w' => e = .returned (.bool (qform cols 4 qc zs)) ∧ Below w.heap.size w w' := by
  have hU : True := by
    have := hcl
    have := hzl
    have := hc1
    have := hz1
    have := hc
    have := hz
    trivial
  clear hU
  rw [qform_4, hcl, hzl]
  have B0 := below_alloc w (.cells #[.int .i64 qk, .int .i64 t.kind, .int .i64 t.col, .int .i64 t.op, .int .i64 t.v.ty, .int .i64 t.v.n, .string t.v.s, .slice ua un uc, .int .i64 qc, .slice oa on oc] 38)
  have C0 := blk_new w [.int .i64 qk, .int .i64 t.kind, .int .i64 t.col, .int .i64 t.op, .int .i64 t.v.ty, .int .i64 t.v.n, .string t.v.s, .slice ua un uc, .int .i64 qc, .slice oa on oc] 38
  have p8 := (C0 8 _ rfl).1
  have p9 := (C0 9 _ rfl).1
  clear C0
  by_cases h0 : 0 ≤ qc
  · by_cases h1 : qc < (cn : Int)
    · have hi : Num.inB qc 0 ((cn : Int) - 1) = true := Num.inB_true.2 (by omega)
      by_cases h2 : on = 0
      · subst h2
        go_enter Tryd.func70, Tryd.ntmps70
        go_wp2
        go_ret
        exact ⟨ret_bool (by first | rfl | (rw [hi]; rfl) | (rw [hi]; simp) | (simp; done) | simp_all), B0⟩
      · have hb1 : ((on : Int) == 0) = false := by simp; omega
        have hb2 : (on == 0) = false := by simp; omega
        go_enter Tryd.func70, Tryd.ntmps70
        go_wp2
        go_ret
        exact ⟨ret_bool (by first | rfl | (rw [hi, hb2]; rfl) | (rw [hi, hb2]; simp) | (simp; done) | simp_all), B0⟩
    · have hi : Num.inB qc 0 ((cn : Int) - 1) = false := Num.inB_false.2 (by omega)
      go_enter Tryd.func70, Tryd.ntmps70
      go_wp2
      go_ret
      exact ⟨ret_bool (by first | rfl | (rw [hi]; rfl) | (rw [hi]; simp) | (simp; done) | simp_all), B0⟩
  · have hi : Num.inB qc 0 ((cn : Int) - 1) = false := Num.inB_false.2 (by omega)
    go_enter Tryd.func70, Tryd.ntmps70
    go_wp2
    go_ret
    exact ⟨ret_bool (by first | rfl | (rw [hi]; rfl) | (rw [hi]; simp) | (simp; done) | simp_all), B0⟩

set_option maxRecDepth 100000 in
set_option maxHeartbeats 2000000 in
theorem fitsNums (qk : Int) (cols zs : List Int) (t : T) (qc : Int) (ua : Option Addr) (un uc : Nat) (oa : Option Addr) (on oc : Nat) (ca : Option Addr) (cn cc : Nat) (w : World) (hcl : cols.length = cn) (hzl : zs.length = on) (hc1 : cn ≤ 1048576) (hz1 : on ≤ 1048576) (hc : Rd 1 w (.slice ca cn cc) cn (ints .i64 cols)) (hz : Rd 1 w (.slice oa on oc) on (ints .i64 zs)) :
    Calls Tryd.prog 68 #[.agg #[.int .i64 qk, .int .i64 t.kind, .int .i64 t.col, .int .i64 t.op, .int .i64 t.v.ty, .int .i64 t.v.n, .string t.v.s, .slice ua un uc, .int .i64 qc, .slice oa on oc], .slice ca cn cc] w fun e w' => e = .returned (.bool (qform cols 3 qc zs)) ∧ Below w.heap.size w w' := by
  have hU : True := by
    have := hcl
    have := hzl
    have := hc1
    have := hz1
    have := hc
    have := hz
    trivial
  clear hU
  have HC := Lib.hid (fun W (hW : Below w.heap.size w W) => fitsColumn qk cols zs t qc ua un uc oa on oc ca cn cc W hcl hzl hc1 hz1 (hc.below hW) (hz.below hW))
  rw [qform_4, hcl, hzl] at HC
  rw [qform_3, hcl, hzl]
  obtain ⟨ca', cc', hce, _, HCI⟩ := hc.ints hcl
  simp only [Value.slice.injEq] at hce
  obtain ⟨rfl, -, rfl⟩ := hce
  have B0 := below_alloc w (.cells #[.int .i64 qk, .int .i64 t.kind, .int .i64 t.col, .int .i64 t.op, .int .i64 t.v.ty, .int .i64 t.v.n, .string t.v.s, .slice ua un uc, .int .i64 qc, .slice oa on oc] 38)
  have C0 := blk_new w [.int .i64 qk, .int .i64 t.kind, .int .i64 t.col, .int .i64 t.op, .int .i64 t.v.ty, .int .i64 t.v.n, .string t.v.s, .slice ua un uc, .int .i64 qc, .slice oa on oc] 38
  generalize hw0 : w.alloc (.cells #[.int .i64 qk, .int .i64 t.kind, .int .i64 t.col, .int .i64 t.op, .int .i64 t.v.ty, .int .i64 t.v.n, .string t.v.s, .slice ua un uc, .int .i64 qc, .slice oa on oc] 38) = w0 at B0 C0
  have HW0 := Lib.hid hw0
  have p0 := (C0 0 _ rfl).1
  have p1 := (C0 1 _ rfl).1
  have p2 := (C0 2 _ rfl).1
  have p3 := (C0 3 _ rfl).1
  have p4 := (C0 4 _ rfl).1
  have p5 := (C0 5 _ rfl).1
  have p6 := (C0 6 _ rfl).1
  have p7 := (C0 7 _ rfl).1
  have p8 := (C0 8 _ rfl).1
  have p9 := (C0 9 _ rfl).1
  clear hw0
  by_cases hi : 0 ≤ qc ∧ qc < (cn : Int)
  · have hib : Num.inB qc 0 ((cn : Int) - 1) = true := Num.inB_true.2 (by omega)
    obtain ⟨k, rfl⟩ := Int.eq_ofNat_of_zero_le hi.1
    obtain ⟨b, off, hca, hcell⟩ := HCI.out k (by omega)
    subst hca
    have hki : (k : Int) < (cn : Int) := hi.2
    rw [hib] at HC ⊢
    rw [Int.toNat_natCast]
    generalize cols.getD k 0 = y at hcell ⊢
    by_cases h2 : on = 0
    · subst h2
      by_cases hy : y = 1
      · subst hy
        go_enter Tryd.func68, Tryd.ntmps68
        go_wp2_with fail
        rw [HW0.out]
        refine (HC.out _ B0).mono ?_
        rintro e w1 ⟨rfl, b1⟩
        have B1 := below_then B0 b1 B0.size
        have q8 := (C0.below b1 8 _ rfl).1
        have hcl1 := (B1.cell (p := ⟨b, off + k, none⟩) (lt_of_cell hcell)).trans hcell
        clear C0 b1 p0 p1 p2 p3 p4 p5 p6 p7 p8 p9 HC
        go_wp2
        go_ret
        exact ⟨rfl, B1⟩
      · have hyb : (y == 1) = false := by simp [hy]
        go_enter Tryd.func68, Tryd.ntmps68
        go_wp2_with fail
        rw [HW0.out]
        refine (HC.out _ B0).mono ?_
        rintro e w1 ⟨rfl, b1⟩
        have B1 := below_then B0 b1 B0.size
        have q8 := (C0.below b1 8 _ rfl).1
        have hcl1 := (B1.cell (p := ⟨b, off + k, none⟩) (lt_of_cell hcell)).trans hcell
        clear C0 b1 p0 p1 p2 p3 p4 p5 p6 p7 p8 p9 HC
        go_wp2
        go_ret
        exact ⟨ret_bool (by first | rfl | (rw [hyb]; rfl) | (rw [hyb]; simp) | (simp; done) | simp_all), B1⟩
    · have hb2 : (on == 0) = false := by simp; omega
      rw [hb2] at HC ⊢
      rw [Bool.and_false] at HC ⊢
      rw [Bool.and_false]
      go_enter Tryd.func68, Tryd.ntmps68
      go_wp2_with fail
      rw [HW0.out]
      refine (HC.out _ B0).mono ?_
      rintro e w1 ⟨rfl, b1⟩
      have B1 := below_then B0 b1 B0.size
      clear C0 b1 p0 p1 p2 p3 p4 p5 p6 p7 p8 p9 HC
      go_wp2
      go_ret
      exact ⟨rfl, B1⟩
  · have hib : Num.inB qc 0 ((cn : Int) - 1) = false := Num.inB_false.2 (by omega)
    rw [hib] at HC ⊢
    rw [Bool.false_and] at HC ⊢
    go_enter Tryd.func68, Tryd.ntmps68
    go_wp2_with fail
    rw [HW0.out]
    refine (HC.out _ B0).mono ?_
    rintro e w1 ⟨rfl, b1⟩
    have B1 := below_then B0 b1 B0.size
    clear C0 b1 p0 p1 p2 p3 p4 p5 p6 p7 p8 p9 HC
    go_wp2
    go_ret
    exact ⟨rfl, B1⟩

set_option maxRecDepth 100000 in
set_option maxHeartbeats 2000000 in
theorem fitsLists (qk : Int) (cols zs : List Int) (t : T) (qc : Int) (ua : Option Addr) (un uc : Nat) (oa : Option Addr) (on oc : Nat) (ca : Option Addr) (cn cc : Nat) (w : World) (hcl : cols.length = cn) (hzl : zs.length = on) (hc1 : cn ≤ 1048576) (hz1 : on ≤ 1048576) (hc : Rd 1 w (.slice ca cn cc) cn (ints .i64 cols)) (hz : Rd 1 w (.slice oa on oc) on (ints .i64 zs)) :
    Calls Tryd.prog 60 #[.agg #[.int .i64 qk, .int .i64 t.kind, .int .i64 t.col, .int .i64 t.op, .int .i64 t.v.ty, .int .i64 t.v.n, .string t.v.s, .slice ua un uc, .int .i64 qc, .slice oa on oc], .slice ca cn cc] w fun e w' => e = .returned (.bool (qform cols 1 qc zs)) ∧ Below w.heap.size w w' := by
  have hU : True := by
    have := hcl
    have := hzl
    have := hc1
    have := hz1
    have := hc
    have := hz
    trivial
  clear hU
  rw [qform_1, hcl, hzl]
  obtain ⟨oa', oc', hoe, _, HOI⟩ := hz.ints hzl
  simp only [Value.slice.injEq] at hoe
  obtain ⟨rfl, -, rfl⟩ := hoe
  have HZL := Lib.hid hzl
  have B0 := below_alloc w (.cells #[.int .i64 qk, .int .i64 t.kind, .int .i64 t.col, .int .i64 t.op, .int .i64 t.v.ty, .int .i64 t.v.n, .string t.v.s, .slice ua un uc, .int .i64 qc, .slice oa on oc] 38)
  have C0 := blk_new w [.int .i64 qk, .int .i64 t.kind, .int .i64 t.col, .int .i64 t.op, .int .i64 t.v.ty, .int .i64 t.v.n, .string t.v.s, .slice ua un uc, .int .i64 qc, .slice oa on oc] 38
  have p8 := (C0 8 _ rfl).1
  have p9 := (C0 9 _ rfl).1
  clear C0
  by_cases h0 : qc = 0
  · subst h0
    by_cases h1 : on < 1
    · have hi : Num.inB (on : Int) 1 3 = false := Num.inB_false.2 (by omega)
      go_enter Tryd.func60, Tryd.ntmps60
      go_wp2
      go_ret
      exact ⟨ret_bool (by first | rfl | (rw [hi]; rfl) | (rw [hi]; simp) | (simp; done) | simp_all), B0⟩
    · by_cases h3 : 3 < on
      · have hi : Num.inB (on : Int) 1 3 = false := Num.inB_false.2 (by omega)
        go_enter Tryd.func60, Tryd.ntmps60
        go_wp2
        go_ret
        exact ⟨ret_bool (by first | rfl | (rw [hi]; rfl) | (rw [hi]; simp) | (simp; done) | simp_all), B0⟩
      · have HI : Hid (Num.inB (on : Int) 1 3 = true) := Num.inB_true.2 (by omega)
        go_enter Tryd.func60, Tryd.ntmps60
        go_wp2
        go_loopw [25] (fun i wr => ∃ k : Nat, k ≤ on ∧ i = .int .i64 k ∧ (∀ j, j < k → Num.inB (zs.getD j 0) 0 ((cn : Int) - 1) = true) ∧ Below w.heap.size w wr) (fun i _ => on - (intOf i).toNat)
        case atStart => exact ⟨0, Nat.zero_le _, rfl, fun j hj => by omega, B0⟩
        case round =>
          obtain ⟨k, hk, rfl, hpre, hbr⟩ := hrel
          have HPRE := Lib.hid hpre
          clear hpre
          by_cases hlt : k < on
          · obtain ⟨b, off, rfl, hcell⟩ := HOI.out k hlt
            have hcw := (hbr.cell (p := ⟨b, off + k, none⟩) (lt_of_cell hcell)).trans hcell
            generalize hy : zs.getD k 0 = y at hcell hcw
            have HY := Lib.hid hy
            clear hcell hy
            by_cases hy0 : y < 0
            · have HF : Hid (zs.all (fun k => Num.inB k 0 ((cn : Int) - 1)) = false) := allIn_no (k := k) (by rw [HZL.out]; exact hlt) (by rw [HY.out]; exact Num.inB_false.2 (by omega))
              go_wp2
              go_ret
              exact ⟨ret_bool (by first | rfl | (rw [HF.out]; rfl) | (rw [HF.out]; simp) | (simp; done) | simp_all), hbr⟩
            · by_cases hy1 : (cn : Int) ≤ y
              · have HF : Hid (zs.all (fun k => Num.inB k 0 ((cn : Int) - 1)) = false) := allIn_no (k := k) (by rw [HZL.out]; exact hlt) (by rw [HY.out]; exact Num.inB_false.2 (by omega))
                go_wp2
                go_ret
                exact ⟨ret_bool (by first | rfl | (rw [HF.out]; rfl) | (rw [HF.out]; simp) | (simp; done) | simp_all), hbr⟩
              · have HN : Hid (∀ j, j < k + 1 → Num.inB (zs.getD j 0) 0 ((cn : Int) - 1) = true) := fun j hj => by
                  by_cases hjk : j = k
                  · rw [hjk, HY.out]
                    exact Num.inB_true.2 (by omega)
                  · exact HPRE.out j (by omega)
                go_wp2
                go_roundw
                case rel => exact ⟨k + 1, by omega, by go_num, HN.out, hbr⟩
                case measure => simp [intOf]; omega
          · obtain rfl : k = on := by omega
            have HF : Hid (zs.all (fun k => Num.inB k 0 ((cn : Int) - 1)) = true) := allIn_yes (fun j hj => HPRE.out j (by rw [HZL.out] at hj; exact hj))
            go_wp2
            go_ret
            exact ⟨ret_bool (by first | rfl | (rw [HF.out, HI.out]; rfl) | (rw [HF.out, HI.out]; simp) | (simp; done) | simp_all), hbr⟩
  · have hb0 : (qc == 0) = false := by simp [h0]
    have hb1 : (qc != 0) = true := by simp [h0]
    go_enter Tryd.func60, Tryd.ntmps60
    go_wp2
    go_ret
    exact ⟨ret_bool (by first | rfl | (rw [hb0]; rfl) | (rw [hb0]; simp) | (simp; done) | simp_all), B0⟩

end Go.Proofs.YtafoldpmodipaaaDoor
