/- Texts of this claim, one behind the other: I12r. -/
import Derived.Test.YtafoldpmodipaaaDoorP23
import Derived.Test.YtafoldpmodipaaaDoorP25

/- The program's QueryOk (written by mk_S12q.py). -/
namespace Go.Proofs.YtafoldpmodipaaaDoor
open Go.RowKit

set_option maxRecDepth 100000 in
set_option maxHeartbeats 2000000 in
theorem iQueryOk1 {Q : Nat → Prop} (cols zs : List Int) (t : T) (qc : Int) (ua : Option Addr) (un uc : Nat) (oa : Option Addr) (on oc : Nat) (ca : Option Addr) (cn cc : Nat) (w : World) (hcl : cols.length = cn) (hzl : zs.length = on) (hc1 : cn ≤ 1048576) (hz1 : on ≤ 1048576) (hc : Rd 1 w (.slice ca cn cc) cn (ints .i64 cols)) (hz : Rd 1 w (.slice oa on oc) on (ints .i64 zs)) (hs : t.Small) (hbk : t.bulk ≤ 1048577) (hr : RdT Q w t (.slice ua un uc)) :
    Calls Tryd.prog 11 #[.slice ca cn cc, .agg #[.int .i64 1, .int .i64 t.kind, .int .i64 t.col, .int .i64 t.op, .int .i64 t.v.ty, .int .i64 t.v.n, .string t.v.s, .slice ua un uc, .int .i64 qc, .slice oa on oc]] w fun e w' => e = .returned (.bool (queryOk cols 1 qc t zs)) ∧ Below w.heap.size w w' := by
  have HA := Lib.hid (fun W => aggOf1 W)
  have HF : Hid (∀ W, Below w.heap.size w W → Calls Tryd.prog 60 #[.agg #[.int .i64 1, .int .i64 t.kind, .int .i64 t.col, .int .i64 t.op, .int .i64 t.v.ty, .int .i64 t.v.n, .string t.v.s, .slice ua un uc, .int .i64 qc, .slice oa on oc], .slice ca cn cc] W fun e w' => e = .returned (.bool (qform cols 1 qc zs)) ∧ Below W.heap.size W w') := fun W hW => fitsLists 1 cols zs t qc ua un uc oa on oc ca cn cc W hcl hzl hc1 hz1 (hc.below hW) (hz.below hW)
  have HP := Lib.hid (fun W (hW : Below w.heap.size w W) => iPredOk cols t _ (.slice ua un uc) (.slice ca cn cc) W hs hbk (by omega) (hr.below hW) (by rw [hcl]; exact hc.below hW))
  unfold queryOk
  generalize qform cols 1 qc zs = b at HF ⊢
  generalize t.predOk cols = p at HP ⊢
  have B0 := below_alloc w (.cells #[.int .i64 1, .int .i64 t.kind, .int .i64 t.col, .int .i64 t.op, .int .i64 t.v.ty, .int .i64 t.v.n, .string t.v.s, .slice ua un uc, .int .i64 qc, .slice oa on oc] 38)
  have C0 := blk_new w [.int .i64 1, .int .i64 t.kind, .int .i64 t.col, .int .i64 t.op, .int .i64 t.v.ty, .int .i64 t.v.n, .string t.v.s, .slice ua un uc, .int .i64 qc, .slice oa on oc] 38
  generalize hw0 : w.alloc (.cells #[.int .i64 1, .int .i64 t.kind, .int .i64 t.col, .int .i64 t.op, .int .i64 t.v.ty, .int .i64 t.v.n, .string t.v.s, .slice ua un uc, .int .i64 qc, .slice oa on oc] 38) = w0 at B0 C0
  have HW0 := Lib.hid hw0
  have k0 := (C0 0 _ rfl).1
  have hst : ∀ fn f c a W, Sem.run Tryd.prog (store a (.func fn f c)) W = stored Tryd.prog W a (.func fn f c) .plain := fun _ _ _ _ _ => run_store _ _ _ _ _ rfl
  clear hw0 hr hs hbk hc hz hcl hzl
  go_enter Tryd.func11, Tryd.ntmps11
  go_wp2_with fail
  rw [HW0.out]
  refine (HA.out _).mono ?_
  rintro e w1 ⟨rfl, b1⟩
  have B1 := below_then B0 b1 B0.size
  have A2 := below_alloc w1 (.cells #[.func (.func 60) #[] #[], .func (.func 61) #[] #[], .func (.func 62) #[] #[], .func (.func 63) #[] #[]] 71)
  have B2 := below_then B1 A2 B1.size
  have C2 := (C0.below b1).below A2
  have E2 := blk_new w1 [.func (.func 60) #[] #[], .func (.func 61) #[] #[], .func (.func 62) #[] #[], .func (.func 63) #[] #[]] 71
  have p0 := (C2 0 _ rfl).1
  have p1 := (C2 1 _ rfl).1
  have p2 := (C2 2 _ rfl).1
  have p3 := (C2 3 _ rfl).1
  have p4 := (C2 4 _ rfl).1
  have p5 := (C2 5 _ rfl).1
  have p6 := (C2 6 _ rfl).1
  have p7 := (C2 7 _ rfl).1
  have p8 := (C2 8 _ rfl).1
  have p9 := (C2 9 _ rfl).1
  have e0 := (E2 0 _ rfl).1
  have e1 := (E2 1 _ rfl).1
  have e2 := (E2 2 _ rfl).1
  have e3 := (E2 3 _ rfl).1
  clear k0 b1 B0 B1 A2 HA HW0 E2
  go_wp2_with fail
  refine (HF.out _ B2).mono ?_
  rintro e w3 ⟨rfl, b3⟩
  have B3 := below_then B2 b3 B2.size
  have C3 := C2.below b3
  have q1 := (C3 1 _ rfl).1
  have q2 := (C3 2 _ rfl).1
  have q3 := (C3 3 _ rfl).1
  have q4 := (C3 4 _ rfl).1
  have q5 := (C3 5 _ rfl).1
  have q6 := (C3 6 _ rfl).1
  have q7 := (C3 7 _ rfl).1
  clear p0 p1 p2 p3 p4 p5 p6 p7 p8 p9 e0 e1 e2 e3 b3 B2 C2 C0 C3 HF
  cases b with
  | false =>
    go_wp2
    go_ret
    exact ⟨ret_bool (by cases p <;> rfl), B3⟩
  | true =>
    go_wp2_with fail
    refine (HP.out _ B3).mono ?_
    rintro e w4 ⟨rfl, b4⟩
    have B4 := below_then B3 b4 B3.size
    clear q1 q2 q3 q4 q5 q6 q7 b4 HP
    go_wp2
    go_ret
    exact ⟨ret_bool (by cases p <;> rfl), B4⟩

set_option maxRecDepth 100000 in
set_option maxHeartbeats 2000000 in
theorem iQueryOk2 {Q : Nat → Prop} (cols zs : List Int) (t : T) (qc : Int) (ua : Option Addr) (un uc : Nat) (oa : Option Addr) (on oc : Nat) (ca : Option Addr) (cn cc : Nat) (w : World) (hcl : cols.length = cn) (hzl : zs.length = on) (hc1 : cn ≤ 1048576) (hz1 : on ≤ 1048576) (hc : Rd 1 w (.slice ca cn cc) cn (ints .i64 cols)) (hz : Rd 1 w (.slice oa on oc) on (ints .i64 zs)) (hs : t.Small) (hbk : t.bulk ≤ 1048577) (hr : RdT Q w t (.slice ua un uc)) :
    Calls Tryd.prog 11 #[.slice ca cn cc, .agg #[.int .i64 2, .int .i64 t.kind, .int .i64 t.col, .int .i64 t.op, .int .i64 t.v.ty, .int .i64 t.v.n, .string t.v.s, .slice ua un uc, .int .i64 qc, .slice oa on oc]] w fun e w' => e = .returned (.bool (queryOk cols 2 qc t zs)) ∧ Below w.heap.size w w' := by
  have HA := Lib.hid (fun W => aggOf2 W)
  have HF : Hid (∀ W, Below w.heap.size w W → Calls Tryd.prog 64 #[.agg #[.int .i64 2, .int .i64 t.kind, .int .i64 t.col, .int .i64 t.op, .int .i64 t.v.ty, .int .i64 t.v.n, .string t.v.s, .slice ua un uc, .int .i64 qc, .slice oa on oc], .slice ca cn cc] W fun e w' => e = .returned (.bool (qform cols 2 qc zs)) ∧ Below W.heap.size W w') := fun W hW => fitsNothing 2 cols zs t qc ua un uc oa on oc ca cn cc W hcl hzl hc1 hz1 (hc.below hW) (hz.below hW)
  have HP := Lib.hid (fun W (hW : Below w.heap.size w W) => iPredOk cols t _ (.slice ua un uc) (.slice ca cn cc) W hs hbk (by omega) (hr.below hW) (by rw [hcl]; exact hc.below hW))
  unfold queryOk
  generalize qform cols 2 qc zs = b at HF ⊢
  generalize t.predOk cols = p at HP ⊢
  have B0 := below_alloc w (.cells #[.int .i64 2, .int .i64 t.kind, .int .i64 t.col, .int .i64 t.op, .int .i64 t.v.ty, .int .i64 t.v.n, .string t.v.s, .slice ua un uc, .int .i64 qc, .slice oa on oc] 38)
  have C0 := blk_new w [.int .i64 2, .int .i64 t.kind, .int .i64 t.col, .int .i64 t.op, .int .i64 t.v.ty, .int .i64 t.v.n, .string t.v.s, .slice ua un uc, .int .i64 qc, .slice oa on oc] 38
  generalize hw0 : w.alloc (.cells #[.int .i64 2, .int .i64 t.kind, .int .i64 t.col, .int .i64 t.op, .int .i64 t.v.ty, .int .i64 t.v.n, .string t.v.s, .slice ua un uc, .int .i64 qc, .slice oa on oc] 38) = w0 at B0 C0
  have HW0 := Lib.hid hw0
  have k0 := (C0 0 _ rfl).1
  have hst : ∀ fn f c a W, Sem.run Tryd.prog (store a (.func fn f c)) W = stored Tryd.prog W a (.func fn f c) .plain := fun _ _ _ _ _ => run_store _ _ _ _ _ rfl
  clear hw0 hr hs hbk hc hz hcl hzl
  go_enter Tryd.func11, Tryd.ntmps11
  go_wp2_with fail
  rw [HW0.out]
  refine (HA.out _).mono ?_
  rintro e w1 ⟨rfl, b1⟩
  have B1 := below_then B0 b1 B0.size
  have A2 := below_alloc w1 (.cells #[.func (.func 64) #[] #[], .func (.func 65) #[] #[], .func (.func 66) #[] #[], .func (.func 67) #[] #[]] 71)
  have B2 := below_then B1 A2 B1.size
  have C2 := (C0.below b1).below A2
  have E2 := blk_new w1 [.func (.func 64) #[] #[], .func (.func 65) #[] #[], .func (.func 66) #[] #[], .func (.func 67) #[] #[]] 71
  have p0 := (C2 0 _ rfl).1
  have p1 := (C2 1 _ rfl).1
  have p2 := (C2 2 _ rfl).1
  have p3 := (C2 3 _ rfl).1
  have p4 := (C2 4 _ rfl).1
  have p5 := (C2 5 _ rfl).1
  have p6 := (C2 6 _ rfl).1
  have p7 := (C2 7 _ rfl).1
  have p8 := (C2 8 _ rfl).1
  have p9 := (C2 9 _ rfl).1
  have e0 := (E2 0 _ rfl).1
  have e1 := (E2 1 _ rfl).1
  have e2 := (E2 2 _ rfl).1
  have e3 := (E2 3 _ rfl).1
  clear k0 b1 B0 B1 A2 HA HW0 E2
  go_wp2_with fail
  refine (HF.out _ B2).mono ?_
  rintro e w3 ⟨rfl, b3⟩
  have B3 := below_then B2 b3 B2.size
  have C3 := C2.below b3
  have q1 := (C3 1 _ rfl).1
  have q2 := (C3 2 _ rfl).1
  have q3 := (C3 3 _ rfl).1
  have q4 := (C3 4 _ rfl).1
  have q5 := (C3 5 _ rfl).1
  have q6 := (C3 6 _ rfl).1
  have q7 := (C3 7 _ rfl).1
  clear p0 p1 p2 p3 p4 p5 p6 p7 p8 p9 e0 e1 e2 e3 b3 B2 C2 C0 C3 HF
  cases b with
  | false =>
    go_wp2
    go_ret
    exact ⟨ret_bool (by cases p <;> rfl), B3⟩
  | true =>
    go_wp2_with fail
    refine (HP.out _ B3).mono ?_
    rintro e w4 ⟨rfl, b4⟩
    have B4 := below_then B3 b4 B3.size
    clear q1 q2 q3 q4 q5 q6 q7 b4 HP
    go_wp2
    go_ret
    exact ⟨ret_bool (by cases p <;> rfl), B4⟩

set_option maxRecDepth 100000 in
set_option maxHeartbeats 2000000 in
theorem iQueryOk3 {Q : Nat → Prop} (cols zs : List Int) (t : T) (qc : Int) (ua : Option Addr) (un uc : Nat) (oa : Option Addr) (on oc : Nat) (ca : Option Addr) (cn cc : Nat) (w : World) (hcl : cols.length = cn) (hzl : zs.length = on) (hc1 : cn ≤ 1048576) (hz1 : on ≤ 1048576) (hc : Rd 1 w (.slice ca cn cc) cn (ints .i64 cols)) (hz : Rd 1 w (.slice oa on oc) on (ints .i64 zs)) (hs : t.Small) (hbk : t.bulk ≤ 1048577) (hr : RdT Q w t (.slice ua un uc)) :
    Calls Tryd.prog 11 #[.slice ca cn cc, .agg #[.int .i64 3, .int .i64 t.kind, .int .i64 t.col, .int .i64 t.op, .int .i64 t.v.ty, .int .i64 t.v.n, .string t.v.s, .slice ua un uc, .int .i64 qc, .slice oa on oc]] w fun e w' => e = .returned (.bool (queryOk cols 3 qc t zs)) ∧ Below w.heap.size w w' := by
  have HA := Lib.hid (fun W => aggOf3 W)
  have HF : Hid (∀ W, Below w.heap.size w W → Calls Tryd.prog 68 #[.agg #[.int .i64 3, .int .i64 t.kind, .int .i64 t.col, .int .i64 t.op, .int .i64 t.v.ty, .int .i64 t.v.n, .string t.v.s, .slice ua un uc, .int .i64 qc, .slice oa on oc], .slice ca cn cc] W fun e w' => e = .returned (.bool (qform cols 3 qc zs)) ∧ Below W.heap.size W w') := fun W hW => fitsNums 3 cols zs t qc ua un uc oa on oc ca cn cc W hcl hzl hc1 hz1 (hc.below hW) (hz.below hW)
  have HP := Lib.hid (fun W (hW : Below w.heap.size w W) => iPredOk cols t _ (.slice ua un uc) (.slice ca cn cc) W hs hbk (by omega) (hr.below hW) (by rw [hcl]; exact hc.below hW))
  unfold queryOk
  generalize qform cols 3 qc zs = b at HF ⊢
  generalize t.predOk cols = p at HP ⊢
  have B0 := below_alloc w (.cells #[.int .i64 3, .int .i64 t.kind, .int .i64 t.col, .int .i64 t.op, .int .i64 t.v.ty, .int .i64 t.v.n, .string t.v.s, .slice ua un uc, .int .i64 qc, .slice oa on oc] 38)
  have C0 := blk_new w [.int .i64 3, .int .i64 t.kind, .int .i64 t.col, .int .i64 t.op, .int .i64 t.v.ty, .int .i64 t.v.n, .string t.v.s, .slice ua un uc, .int .i64 qc, .slice oa on oc] 38
  generalize hw0 : w.alloc (.cells #[.int .i64 3, .int .i64 t.kind, .int .i64 t.col, .int .i64 t.op, .int .i64 t.v.ty, .int .i64 t.v.n, .string t.v.s, .slice ua un uc, .int .i64 qc, .slice oa on oc] 38) = w0 at B0 C0
  have HW0 := Lib.hid hw0
  have k0 := (C0 0 _ rfl).1
  have hst : ∀ fn f c a W, Sem.run Tryd.prog (store a (.func fn f c)) W = stored Tryd.prog W a (.func fn f c) .plain := fun _ _ _ _ _ => run_store _ _ _ _ _ rfl
  clear hw0 hr hs hbk hc hz hcl hzl
  go_enter Tryd.func11, Tryd.ntmps11
  go_wp2_with fail
  rw [HW0.out]
  refine (HA.out _).mono ?_
  rintro e w1 ⟨rfl, b1⟩
  have B1 := below_then B0 b1 B0.size
  have A2 := below_alloc w1 (.cells #[.func (.func 68) #[] #[], .func (.func 69) #[] #[], .func (.func 66) #[] #[], .func (.func 67) #[] #[]] 71)
  have B2 := below_then B1 A2 B1.size
  have C2 := (C0.below b1).below A2
  have E2 := blk_new w1 [.func (.func 68) #[] #[], .func (.func 69) #[] #[], .func (.func 66) #[] #[], .func (.func 67) #[] #[]] 71
  have p0 := (C2 0 _ rfl).1
  have p1 := (C2 1 _ rfl).1
  have p2 := (C2 2 _ rfl).1
  have p3 := (C2 3 _ rfl).1
  have p4 := (C2 4 _ rfl).1
  have p5 := (C2 5 _ rfl).1
  have p6 := (C2 6 _ rfl).1
  have p7 := (C2 7 _ rfl).1
  have p8 := (C2 8 _ rfl).1
  have p9 := (C2 9 _ rfl).1
  have e0 := (E2 0 _ rfl).1
  have e1 := (E2 1 _ rfl).1
  have e2 := (E2 2 _ rfl).1
  have e3 := (E2 3 _ rfl).1
  clear k0 b1 B0 B1 A2 HA HW0 E2
  go_wp2_with fail
  refine (HF.out _ B2).mono ?_
  rintro e w3 ⟨rfl, b3⟩
  have B3 := below_then B2 b3 B2.size
  have C3 := C2.below b3
  have q1 := (C3 1 _ rfl).1
  have q2 := (C3 2 _ rfl).1
  have q3 := (C3 3 _ rfl).1
  have q4 := (C3 4 _ rfl).1
  have q5 := (C3 5 _ rfl).1
  have q6 := (C3 6 _ rfl).1
  have q7 := (C3 7 _ rfl).1
  clear p0 p1 p2 p3 p4 p5 p6 p7 p8 p9 e0 e1 e2 e3 b3 B2 C2 C0 C3 HF
  cases b with
  | false =>
    go_wp2
    go_ret
    exact ⟨ret_bool (by cases p <;> rfl), B3⟩
  | true =>
    go_wp2_with fail
    refine (HP.out _ B3).mono ?_
    rintro e w4 ⟨rfl, b4⟩
    have B4 := below_then B3 b4 B3.size
    clear q1 q2 q3 q4 q5 q6 q7 b4 HP
    go_wp2
    go_ret
    exact ⟨ret_bool (by cases p <;> rfl), B4⟩

set_option maxRecDepth 100000 in
set_option maxHeartbeats 2000000 in
theorem iQueryOk4 {Q : Nat → Prop} (cols zs : List Int) (t : T) (qc : Int) (ua : Option Addr) (un uc : Nat) (oa : Option Addr) (on oc : Nat) (ca : Option Addr) (cn cc : Nat) (w : World) (hcl : cols.length = cn) (hzl : zs.length = on) (hc1 : cn ≤ 1048576) (hz1 : on ≤ 1048576) (hc : Rd 1 w (.slice ca cn cc) cn (ints .i64 cols)) (hz : Rd 1 w (.slice oa on oc) on (ints .i64 zs)) (hs : t.Small) (hbk : t.bulk ≤ 1048577) (hr : RdT Q w t (.slice ua un uc)) :
    Calls Tryd.prog 11 #[.slice ca cn cc, .agg #[.int .i64 4, .int .i64 t.kind, .int .i64 t.col, .int .i64 t.op, .int .i64 t.v.ty, .int .i64 t.v.n, .string t.v.s, .slice ua un uc, .int .i64 qc, .slice oa on oc]] w fun e w' => e = .returned (.bool (queryOk cols 4 qc t zs)) ∧ Below w.heap.size w w' := by
  have HA := Lib.hid (fun W => aggOf4 W)
  have HF : Hid (∀ W, Below w.heap.size w W → Calls Tryd.prog 70 #[.agg #[.int .i64 4, .int .i64 t.kind, .int .i64 t.col, .int .i64 t.op, .int .i64 t.v.ty, .int .i64 t.v.n, .string t.v.s, .slice ua un uc, .int .i64 qc, .slice oa on oc], .slice ca cn cc] W fun e w' => e = .returned (.bool (qform cols 4 qc zs)) ∧ Below W.heap.size W w') := fun W hW => fitsColumn 4 cols zs t qc ua un uc oa on oc ca cn cc W hcl hzl hc1 hz1 (hc.below hW) (hz.below hW)
  have HP := Lib.hid (fun W (hW : Below w.heap.size w W) => iPredOk cols t _ (.slice ua un uc) (.slice ca cn cc) W hs hbk (by omega) (hr.below hW) (by rw [hcl]; exact hc.below hW))
  unfold queryOk
  generalize qform cols 4 qc zs = b at HF ⊢
  generalize t.predOk cols = p at HP ⊢
  have B0 := below_alloc w (.cells #[.int .i64 4, .int .i64 t.kind, .int .i64 t.col, .int .i64 t.op, .int .i64 t.v.ty, .int .i64 t.v.n, .string t.v.s, .slice ua un uc, .int .i64 qc, .slice oa on oc] 38)
  have C0 := blk_new w [.int .i64 4, .int .i64 t.kind, .int .i64 t.col, .int .i64 t.op, .int .i64 t.v.ty, .int .i64 t.v.n, .string t.v.s, .slice ua un uc, .int .i64 qc, .slice oa on oc] 38
  generalize hw0 : w.alloc (.cells #[.int .i64 4, .int .i64 t.kind, .int .i64 t.col, .int .i64 t.op, .int .i64 t.v.ty, .int .i64 t.v.n, .string t.v.s, .slice ua un uc, .int .i64 qc, .slice oa on oc] 38) = w0 at B0 C0
  have HW0 := Lib.hid hw0
  have k0 := (C0 0 _ rfl).1
  have hst : ∀ fn f c a W, Sem.run Tryd.prog (store a (.func fn f c)) W = stored Tryd.prog W a (.func fn f c) .plain := fun _ _ _ _ _ => run_store _ _ _ _ _ rfl
  clear hw0 hr hs hbk hc hz hcl hzl
  go_enter Tryd.func11, Tryd.ntmps11
  go_wp2_with fail
  rw [HW0.out]
  refine (HA.out _).mono ?_
  rintro e w1 ⟨rfl, b1⟩
  have B1 := below_then B0 b1 B0.size
  have A2 := below_alloc w1 (.cells #[.func (.func 70) #[] #[], .func (.func 71) #[] #[], .func (.func 72) #[] #[], .func (.func 73) #[] #[]] 71)
  have B2 := below_then B1 A2 B1.size
  have C2 := (C0.below b1).below A2
  have E2 := blk_new w1 [.func (.func 70) #[] #[], .func (.func 71) #[] #[], .func (.func 72) #[] #[], .func (.func 73) #[] #[]] 71
  have p0 := (C2 0 _ rfl).1
  have p1 := (C2 1 _ rfl).1
  have p2 := (C2 2 _ rfl).1
  have p3 := (C2 3 _ rfl).1
  have p4 := (C2 4 _ rfl).1
  have p5 := (C2 5 _ rfl).1
  have p6 := (C2 6 _ rfl).1
  have p7 := (C2 7 _ rfl).1
  have p8 := (C2 8 _ rfl).1
  have p9 := (C2 9 _ rfl).1
  have e0 := (E2 0 _ rfl).1
  have e1 := (E2 1 _ rfl).1
  have e2 := (E2 2 _ rfl).1
  have e3 := (E2 3 _ rfl).1
  clear k0 b1 B0 B1 A2 HA HW0 E2
  go_wp2_with fail
  refine (HF.out _ B2).mono ?_
  rintro e w3 ⟨rfl, b3⟩
  have B3 := below_then B2 b3 B2.size
  have C3 := C2.below b3
  have q1 := (C3 1 _ rfl).1
  have q2 := (C3 2 _ rfl).1
  have q3 := (C3 3 _ rfl).1
  have q4 := (C3 4 _ rfl).1
  have q5 := (C3 5 _ rfl).1
  have q6 := (C3 6 _ rfl).1
  have q7 := (C3 7 _ rfl).1
  clear p0 p1 p2 p3 p4 p5 p6 p7 p8 p9 e0 e1 e2 e3 b3 B2 C2 C0 C3 HF
  cases b with
  | false =>
    go_wp2
    go_ret
    exact ⟨ret_bool (by cases p <;> rfl), B3⟩
  | true =>
    go_wp2_with fail
    refine (HP.out _ B3).mono ?_
    rintro e w4 ⟨rfl, b4⟩
    have B4 := below_then B3 b4 B3.size
    clear q1 q2 q3 q4 q5 q6 q7 b4 HP
    go_wp2
    go_ret
    exact ⟨ret_bool (by cases p <;> rfl), B4⟩

set_option maxRecDepth 100000 in
set_option maxHeartbeats 2000000 in
theorem iQueryOk5 {Q : Nat → Prop} (cols zs : List Int) (t : T) (qc : Int) (ua : Option Addr) (un uc : Nat) (oa : Option Addr) (on oc : Nat) (ca : Option Addr) (cn cc : Nat) (w : World) (hcl : cols.length = cn) (hzl : zs.length = on) (hc1 : cn ≤ 1048576) (hz1 : on ≤ 1048576) (hc : Rd 1 w (.slice ca cn cc) cn (ints .i64 cols)) (hz : Rd 1 w (.slice oa on oc) on (ints .i64 zs)) (hs : t.Small) (hbk : t.bulk ≤ 1048577) (hr : RdT Q w t (.slice ua un uc)) :
    Calls Tryd.prog 11 #[.slice ca cn cc, .agg #[.int .i64 5, .int .i64 t.kind, .int .i64 t.col, .int .i64 t.op, .int .i64 t.v.ty, .int .i64 t.v.n, .string t.v.s, .slice ua un uc, .int .i64 qc, .slice oa on oc]] w fun e w' => e = .returned (.bool (queryOk cols 5 qc t zs)) ∧ Below w.heap.size w w' := by
  have HA := Lib.hid (fun W => aggOf5 W)
  have HF : Hid (∀ W, Below w.heap.size w W → Calls Tryd.prog 70 #[.agg #[.int .i64 5, .int .i64 t.kind, .int .i64 t.col, .int .i64 t.op, .int .i64 t.v.ty, .int .i64 t.v.n, .string t.v.s, .slice ua un uc, .int .i64 qc, .slice oa on oc], .slice ca cn cc] W fun e w' => e = .returned (.bool (qform cols 5 qc zs)) ∧ Below W.heap.size W w') := fun W hW => fitsColumn 5 cols zs t qc ua un uc oa on oc ca cn cc W hcl hzl hc1 hz1 (hc.below hW) (hz.below hW)
  have HP := Lib.hid (fun W (hW : Below w.heap.size w W) => iPredOk cols t _ (.slice ua un uc) (.slice ca cn cc) W hs hbk (by omega) (hr.below hW) (by rw [hcl]; exact hc.below hW))
  unfold queryOk
  generalize qform cols 5 qc zs = b at HF ⊢
  generalize t.predOk cols = p at HP ⊢
  have B0 := below_alloc w (.cells #[.int .i64 5, .int .i64 t.kind, .int .i64 t.col, .int .i64 t.op, .int .i64 t.v.ty, .int .i64 t.v.n, .string t.v.s, .slice ua un uc, .int .i64 qc, .slice oa on oc] 38)
  have C0 := blk_new w [.int .i64 5, .int .i64 t.kind, .int .i64 t.col, .int .i64 t.op, .int .i64 t.v.ty, .int .i64 t.v.n, .string t.v.s, .slice ua un uc, .int .i64 qc, .slice oa on oc] 38
  generalize hw0 : w.alloc (.cells #[.int .i64 5, .int .i64 t.kind, .int .i64 t.col, .int .i64 t.op, .int .i64 t.v.ty, .int .i64 t.v.n, .string t.v.s, .slice ua un uc, .int .i64 qc, .slice oa on oc] 38) = w0 at B0 C0
  have HW0 := Lib.hid hw0
  have k0 := (C0 0 _ rfl).1
  have hst : ∀ fn f c a W, Sem.run Tryd.prog (store a (.func fn f c)) W = stored Tryd.prog W a (.func fn f c) .plain := fun _ _ _ _ _ => run_store _ _ _ _ _ rfl
  clear hw0 hr hs hbk hc hz hcl hzl
  go_enter Tryd.func11, Tryd.ntmps11
  go_wp2_with fail
  rw [HW0.out]
  refine (HA.out _).mono ?_
  rintro e w1 ⟨rfl, b1⟩
  have B1 := below_then B0 b1 B0.size
  have A2 := below_alloc w1 (.cells #[.func (.func 70) #[] #[], .func (.func 71) #[] #[], .func (.func 74) #[] #[], .func (.func 73) #[] #[]] 71)
  have B2 := below_then B1 A2 B1.size
  have C2 := (C0.below b1).below A2
  have E2 := blk_new w1 [.func (.func 70) #[] #[], .func (.func 71) #[] #[], .func (.func 74) #[] #[], .func (.func 73) #[] #[]] 71
  have p0 := (C2 0 _ rfl).1
  have p1 := (C2 1 _ rfl).1
  have p2 := (C2 2 _ rfl).1
  have p3 := (C2 3 _ rfl).1
  have p4 := (C2 4 _ rfl).1
  have p5 := (C2 5 _ rfl).1
  have p6 := (C2 6 _ rfl).1
  have p7 := (C2 7 _ rfl).1
  have p8 := (C2 8 _ rfl).1
  have p9 := (C2 9 _ rfl).1
  have e0 := (E2 0 _ rfl).1
  have e1 := (E2 1 _ rfl).1
  have e2 := (E2 2 _ rfl).1
  have e3 := (E2 3 _ rfl).1
  clear k0 b1 B0 B1 A2 HA HW0 E2
  go_wp2_with fail
  refine (HF.out _ B2).mono ?_
  rintro e w3 ⟨rfl, b3⟩
  have B3 := below_then B2 b3 B2.size
  have C3 := C2.below b3
  have q1 := (C3 1 _ rfl).1
  have q2 := (C3 2 _ rfl).1
  have q3 := (C3 3 _ rfl).1
  have q4 := (C3 4 _ rfl).1
  have q5 := (C3 5 _ rfl).1
  have q6 := (C3 6 _ rfl).1
  have q7 := (C3 7 _ rfl).1
  clear p0 p1 p2 p3 p4 p5 p6 p7 p8 p9 e0 e1 e2 e3 b3 B2 C2 C0 C3 HF
  cases b with
  | false =>
    go_wp2
    go_ret
    exact ⟨ret_bool (by cases p <;> rfl), B3⟩
  | true =>
    go_wp2_with fail
    refine (HP.out _ B3).mono ?_
    rintro e w4 ⟨rfl, b4⟩
    have B4 := below_then B3 b4 B3.size
    clear q1 q2 q3 q4 q5 q6 q7 b4 HP
    go_wp2
    go_ret
    exact ⟨ret_bool (by cases p <;> rfl), B4⟩

set_option maxRecDepth 100000 in
set_option maxHeartbeats 2000000 in
theorem iQueryOk {Q : Nat → Prop} (qk : Int) (cols zs : List Int) (t : T) (qc : Int) (ua : Option Addr) (un uc : Nat) (oa : Option Addr) (on oc : Nat) (ca : Option Addr) (cn cc : Nat) (w : World) (hcl : cols.length = cn) (hzl : zs.length = on) (hc1 : cn ≤ 1048576) (hz1 : on ≤ 1048576) (hc : Rd 1 w (.slice ca cn cc) cn (ints .i64 cols)) (hz : Rd 1 w (.slice oa on oc) on (ints .i64 zs)) (hs : t.Small) (hbk : t.bulk ≤ 1048577) (hr : RdT Q w t (.slice ua un uc)) :
    Calls Tryd.prog 11 #[.slice ca cn cc, .agg #[.int .i64 qk, .int .i64 t.kind, .int .i64 t.col, .int .i64 t.op, .int .i64 t.v.ty, .int .i64 t.v.n, .string t.v.s, .slice ua un uc, .int .i64 qc, .slice oa on oc]] w fun e w' => e = .returned (.bool (queryOk cols qk qc t zs)) ∧ Below w.heap.size w w' := by
  by_cases hk : 1 ≤ qk ∧ qk ≤ 5
  · rcases kinds5 hk with rfl | rfl | rfl | rfl | rfl
    · exact iQueryOk1 cols zs t qc ua un uc oa on oc ca cn cc w hcl hzl hc1 hz1 hc hz hs hbk hr
    · exact iQueryOk2 cols zs t qc ua un uc oa on oc ca cn cc w hcl hzl hc1 hz1 hc hz hs hbk hr
    · exact iQueryOk3 cols zs t qc ua un uc oa on oc ca cn cc w hcl hzl hc1 hz1 hc hz hs hbk hr
    · exact iQueryOk4 cols zs t qc ua un uc oa on oc ca cn cc w hcl hzl hc1 hz1 hc hz hs hbk hr
    · exact iQueryOk5 cols zs t qc ua un uc oa on oc ca cn cc w hcl hzl hc1 hz1 hc hz hs hbk hr
  · have HA := Lib.hid (fun W => aggOfNo qk hk W)
    have e : queryOk cols qk qc t zs = false := by
      unfold queryOk
      rw [qform_no hk, Bool.and_false]
    rw [e]
    have B0 := below_alloc w (.cells #[.int .i64 qk, .int .i64 t.kind, .int .i64 t.col, .int .i64 t.op, .int .i64 t.v.ty, .int .i64 t.v.n, .string t.v.s, .slice ua un uc, .int .i64 qc, .slice oa on oc] 38)
    have C0 := blk_new w [.int .i64 qk, .int .i64 t.kind, .int .i64 t.col, .int .i64 t.op, .int .i64 t.v.ty, .int .i64 t.v.n, .string t.v.s, .slice ua un uc, .int .i64 qc, .slice oa on oc] 38
    generalize hw0 : w.alloc (.cells #[.int .i64 qk, .int .i64 t.kind, .int .i64 t.col, .int .i64 t.op, .int .i64 t.v.ty, .int .i64 t.v.n, .string t.v.s, .slice ua un uc, .int .i64 qc, .slice oa on oc] 38) = w0 at B0 C0
    have HW0 := Lib.hid hw0
    have k0 := (C0 0 _ rfl).1
    have hst2 : ∀ a W, Sem.run Tryd.prog (store a .nilFunc) W = stored Tryd.prog W a .nilFunc .plain := fun _ _ => run_store _ _ _ _ _ rfl
    clear hw0 e hk
    go_enter Tryd.func11, Tryd.ntmps11
    go_wp2_with fail
    rw [HW0.out]
    refine (HA.out _).mono ?_
    rintro e w1 ⟨rfl, b1⟩
    have B1 := below_then B0 b1 B0.size
    have B2 := below_then B1 (below_alloc w1 (.cells #[.nilFunc, .nilFunc, .nilFunc, .nilFunc] 71)) B1.size
    clear k0 b1 B0 B1 C0 HA HW0
    go_wp2
    go_ret
    exact ⟨rfl, B2⟩

end Go.Proofs.YtafoldpmodipaaaDoor
