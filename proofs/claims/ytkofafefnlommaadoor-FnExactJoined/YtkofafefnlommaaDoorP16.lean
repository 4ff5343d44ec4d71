/- Texts of this claim, one behind the other: S12n. -/
import Derived.Test.YtkofafefnlommaaDoorP15

/- The model's Joined, of the greatest value (written by mk_S12k.py). -/
namespace Go.Proofs.YtkofafefnlommaaDoor
open Go.RowKit

set_option maxRecDepth 100000 in
set_option maxHeartbeats 4000000 in
theorem sJoined5_ff (t : T) (qc : Int) (ua : Option Addr) (un uc : Nat) (oa : Option Addr) (on oc : Nat) (Ar : List R) (An At Av : Int) (As : ByteArray) (Br : List R) (Bn Bt Bv : Int) (Bs : ByteArray) (aa : Option Addr) (an ac : Nat) (ba : Option Addr) (bn bc : Nat) (w : World) :
    Calls Tryd.prog 19 #[.agg #[.int .i64 5, .int .i64 t.kind, .int .i64 t.col, .int .i64 t.op, .int .i64 t.v.ty, .int .i64 t.v.n, .string t.v.s, .slice ua un uc, .int .i64 qc, .slice oa on oc], .agg #[.slice aa an ac, .int .i64 An, .bool false, .int .i64 At, .int .i64 Av, .string As], .agg #[.slice ba bn bc, .int .i64 Bn, .bool false, .int .i64 Bt, .int .i64 Bv, .string Bs]] w fun e w' => e = .returned (.agg ((joinL 5 (⟨Ar, An, false, ⟨At, Av, As⟩⟩ : Rs) (⟨Br, Bn, false, ⟨Bt, Bv, Bs⟩⟩ : Rs)).cs (.slice none 0 0)).toArray) ∧ Below w.heap.size w w' := by
  have HJ : Hid (joinL 5 (⟨Ar, An, false, ⟨At, Av, As⟩⟩ : Rs) (⟨Br, Bn, false, ⟨Bt, Bv, Bs⟩⟩ : Rs) = ⟨[], 0, false, (zoneL ([] : List V)).hi⟩) := by
    show _ = _
    simp [joinL, hasL]
  have HZ := Lib.hid (fun u W h => sZoneOf u ([] : List V) W h)
  generalize zoneL ([] : List V) = z at HJ HZ
  obtain ⟨⟨zt, zn, zs⟩, ⟨yt, yn, ys⟩⟩ := z
  simp only [Zn.agg] at HZ
  have hfl : ∀ W, Sem.run Tryd.prog (Instr.field 106 (.agg #[.int .i64 zt, .int .i64 zn, .string zs, .int .i64 yt, .int .i64 yn, .string ys]) 0) W = Result.ok (.agg #[.int .i64 zt, .int .i64 zn, .string zs]) W := fun W => by kernel_rfl
  have hfh : ∀ W, Sem.run Tryd.prog (Instr.field 106 (.agg #[.int .i64 zt, .int .i64 zn, .string zs, .int .i64 yt, .int .i64 yn, .string ys]) 1) W = Result.ok (.agg #[.int .i64 yt, .int .i64 yn, .string ys]) W := fun W => by kernel_rfl
  have B0 : Below w.heap.size w (((((w.alloc (.cells #[.int .i64 5, .int .i64 t.kind, .int .i64 t.col, .int .i64 t.op, .int .i64 t.v.ty, .int .i64 t.v.n, .string t.v.s, .slice ua un uc, .int .i64 qc, .slice oa on oc] 46)).alloc (.cells #[.slice aa an ac, .int .i64 An, .bool false, .int .i64 At, .int .i64 Av, .string As] 50)).alloc (.cells #[.slice ba bn bc, .int .i64 Bn, .bool false, .int .i64 Bt, .int .i64 Bv, .string Bs] 50)).alloc (.cells #[.slice none 0 0, .int .i64 0, .bool false, .int .i64 0, .int .i64 0, .string ⟨#[]⟩] 50)).alloc (.cells #[.slice none 0 0, .int .i64 0, .bool false, .int .i64 0, .int .i64 0, .string ⟨#[]⟩] 50)) := below_alloc5 w _ _ _ _ _
  have C0 := ((((blk_new w [.int .i64 5, .int .i64 t.kind, .int .i64 t.col, .int .i64 t.op, .int .i64 t.v.ty, .int .i64 t.v.n, .string t.v.s, .slice ua un uc, .int .i64 qc, .slice oa on oc] 46).below (below_alloc _ (.cells #[.slice aa an ac, .int .i64 An, .bool false, .int .i64 At, .int .i64 Av, .string As] 50))).below (below_alloc _ (.cells #[.slice ba bn bc, .int .i64 Bn, .bool false, .int .i64 Bt, .int .i64 Bv, .string Bs] 50))).below (below_alloc _ (.cells #[.slice none 0 0, .int .i64 0, .bool false, .int .i64 0, .int .i64 0, .string ⟨#[]⟩] 50))).below (below_alloc _ (.cells #[.slice none 0 0, .int .i64 0, .bool false, .int .i64 0, .int .i64 0, .string ⟨#[]⟩] 50))
  have CA := (((blk_new (w.alloc (.cells #[.int .i64 5, .int .i64 t.kind, .int .i64 t.col, .int .i64 t.op, .int .i64 t.v.ty, .int .i64 t.v.n, .string t.v.s, .slice ua un uc, .int .i64 qc, .slice oa on oc] 46)) [.slice aa an ac, .int .i64 An, .bool false, .int .i64 At, .int .i64 Av, .string As] 50).below (below_alloc _ (.cells #[.slice ba bn bc, .int .i64 Bn, .bool false, .int .i64 Bt, .int .i64 Bv, .string Bs] 50))).below (below_alloc _ (.cells #[.slice none 0 0, .int .i64 0, .bool false, .int .i64 0, .int .i64 0, .string ⟨#[]⟩] 50))).below (below_alloc _ (.cells #[.slice none 0 0, .int .i64 0, .bool false, .int .i64 0, .int .i64 0, .string ⟨#[]⟩] 50))
  have CB := ((blk_new ((w.alloc (.cells #[.int .i64 5, .int .i64 t.kind, .int .i64 t.col, .int .i64 t.op, .int .i64 t.v.ty, .int .i64 t.v.n, .string t.v.s, .slice ua un uc, .int .i64 qc, .slice oa on oc] 46)).alloc (.cells #[.slice aa an ac, .int .i64 An, .bool false, .int .i64 At, .int .i64 Av, .string As] 50)) [.slice ba bn bc, .int .i64 Bn, .bool false, .int .i64 Bt, .int .i64 Bv, .string Bs] 50).below (below_alloc _ (.cells #[.slice none 0 0, .int .i64 0, .bool false, .int .i64 0, .int .i64 0, .string ⟨#[]⟩] 50))).below (below_alloc _ (.cells #[.slice none 0 0, .int .i64 0, .bool false, .int .i64 0, .int .i64 0, .string ⟨#[]⟩] 50))
  have CR := (blk_new (((w.alloc (.cells #[.int .i64 5, .int .i64 t.kind, .int .i64 t.col, .int .i64 t.op, .int .i64 t.v.ty, .int .i64 t.v.n, .string t.v.s, .slice ua un uc, .int .i64 qc, .slice oa on oc] 46)).alloc (.cells #[.slice aa an ac, .int .i64 An, .bool false, .int .i64 At, .int .i64 Av, .string As] 50)).alloc (.cells #[.slice ba bn bc, .int .i64 Bn, .bool false, .int .i64 Bt, .int .i64 Bv, .string Bs] 50)) [.slice none 0 0, .int .i64 0, .bool false, .int .i64 0, .int .i64 0, .string ⟨#[]⟩] 50).below (below_alloc _ (.cells #[.slice none 0 0, .int .i64 0, .bool false, .int .i64 0, .int .i64 0, .string ⟨#[]⟩] 50))
  have CO := blk_new ((((w.alloc (.cells #[.int .i64 5, .int .i64 t.kind, .int .i64 t.col, .int .i64 t.op, .int .i64 t.v.ty, .int .i64 t.v.n, .string t.v.s, .slice ua un uc, .int .i64 qc, .slice oa on oc] 46)).alloc (.cells #[.slice aa an ac, .int .i64 An, .bool false, .int .i64 At, .int .i64 Av, .string As] 50)).alloc (.cells #[.slice ba bn bc, .int .i64 Bn, .bool false, .int .i64 Bt, .int .i64 Bv, .string Bs] 50)).alloc (.cells #[.slice none 0 0, .int .i64 0, .bool false, .int .i64 0, .int .i64 0, .string ⟨#[]⟩] 50)) [.slice none 0 0, .int .i64 0, .bool false, .int .i64 0, .int .i64 0, .string ⟨#[]⟩] 50
  have hz0 : (((((w.alloc (.cells #[.int .i64 5, .int .i64 t.kind, .int .i64 t.col, .int .i64 t.op, .int .i64 t.v.ty, .int .i64 t.v.n, .string t.v.s, .slice ua un uc, .int .i64 qc, .slice oa on oc] 46)).alloc (.cells #[.slice aa an ac, .int .i64 An, .bool false, .int .i64 At, .int .i64 Av, .string As] 50)).alloc (.cells #[.slice ba bn bc, .int .i64 Bn, .bool false, .int .i64 Bt, .int .i64 Bv, .string Bs] 50)).alloc (.cells #[.slice none 0 0, .int .i64 0, .bool false, .int .i64 0, .int .i64 0, .string ⟨#[]⟩] 50)).alloc (.cells #[.slice none 0 0, .int .i64 0, .bool false, .int .i64 0, .int .i64 0, .string ⟨#[]⟩] 50)).heap.size = w.heap.size + 5 := by simp only [World.size_alloc]
  simp only [World.size_alloc] at CA CB CR CO
  generalize hw0 : (((((w.alloc (.cells #[.int .i64 5, .int .i64 t.kind, .int .i64 t.col, .int .i64 t.op, .int .i64 t.v.ty, .int .i64 t.v.n, .string t.v.s, .slice ua un uc, .int .i64 qc, .slice oa on oc] 46)).alloc (.cells #[.slice aa an ac, .int .i64 An, .bool false, .int .i64 At, .int .i64 Av, .string As] 50)).alloc (.cells #[.slice ba bn bc, .int .i64 Bn, .bool false, .int .i64 Bt, .int .i64 Bv, .string Bs] 50)).alloc (.cells #[.slice none 0 0, .int .i64 0, .bool false, .int .i64 0, .int .i64 0, .string ⟨#[]⟩] 50)).alloc (.cells #[.slice none 0 0, .int .i64 0, .bool false, .int .i64 0, .int .i64 0, .string ⟨#[]⟩] 50)) = w0 at B0 C0 CA CB CR CO hz0
  have HW0 := Lib.hid hw0
  have A1 := below_alloc w0 (.cells #[] 29)
  have B1 := below_then B0 A1 B0.size
  have C1 := C0.below A1
  have CA1 := CA.below A1
  have CB1 := CB.below A1
  have CR1 := CR.below A1
  have CO1 := CO.below A1
  have O1 := own_lit (e := 29) (size := 3) w0 #[] 0 (Nat.zero_le _) rfl
  rw [World.size_alloc] at O1
  have hz1 : (w0.alloc (.cells #[] 29)).heap.size = w.heap.size + 6 := by rw [World.size_alloc, hz0]
  have OX : Own 29 3 w0.heap.size (w0.alloc (.cells #[] 29)).heap.size (w0.alloc (.cells #[] 29)) (.slice (some ⟨w0.heap.size, 0, none⟩) 0 0) 0 [] := by
    rw [World.size_alloc]
    simpa using O1
  have hg0 : w0.heap.size = w.heap.size + 1 + 1 + 1 + 1 + 1 := hz0
  rw [hg0] at OX
  generalize hw1 : w0.alloc (.cells #[] 29) = w1 at B1 C1 CA1 CB1 CR1 CO1 OX hz1
  have HW1 := Lib.hid hw1
  clear hw0 hw1 O1 A1 C0 CA CB CR CO hg0
  go_enter Tryd.func19, Tryd.ntmps19
  have KC : Blk w1 (w.heap.size) [.int .i64 5, .int .i64 t.kind, .int .i64 t.col, .int .i64 t.op, .int .i64 t.v.ty, .int .i64 t.v.n, .string t.v.s, .slice ua un uc, .int .i64 qc, .slice oa on oc] := C1
  go_wp2_with fail
  rw [HW0.out, HW1.out]
  have XO := CO1
  have XR := CR1
  have XC := C1
  have XA := CA1
  have XB := B1
  have XX := OX
  have hzs : w.heap.size + 6 ≤ w1.heap.size := by omega
  have hg5 : w.heap.size + 1 + 1 + 1 + 1 + 1 = w.heap.size + 5 := rfl
  refine (HZ.out _ _ (by have h := OwnN.rd (.inr XX); simpa [vals, V.cs] using h)).mono ?_
  rintro e w5 ⟨rfl, b5⟩
  have B5 := below_then XB b5 XB.size
  have D0 := XC.below b5
  have DO := XO.below b5
  have DR := XR.below b5
  have DX := (XX.below b5 (Nat.le_refl _)).wide b5.size
  have hz5 := b5.size
  have k0 := (D0 0 _ rfl).1
  clear b5 XO XR XC XB XX
  obtain ⟨o3, f3⟩ := DO 3 _ rfl
  obtain ⟨o4, f4⟩ := DO 4 _ rfl
  obtain ⟨o5, f5⟩ := DO 5 _ rfl
  go_wp2_with fail
  clear k0 o3 f3 o4 f4 o5 f5
  have XO : Blk (((w5.setCell ⟨w.heap.size + 1 + 1 + 1 + 1, 3, none⟩ (.int .i64 zt)).setCell ⟨w.heap.size + 1 + 1 + 1 + 1, 4, none⟩ (.int .i64 zn)).setCell ⟨w.heap.size + 1 + 1 + 1 + 1, 5, none⟩ (.string zs)) (w.heap.size + 1 + 1 + 1 + 1) [.slice none 0 0, .int .i64 0, .bool false, .int .i64 zt, .int .i64 zn, .string zs] := ((DO.set 3 _).set 4 _).set 5 _
  have XR : Blk (((w5.setCell ⟨w.heap.size + 1 + 1 + 1 + 1, 3, none⟩ (.int .i64 zt)).setCell ⟨w.heap.size + 1 + 1 + 1 + 1, 4, none⟩ (.int .i64 zn)).setCell ⟨w.heap.size + 1 + 1 + 1 + 1, 5, none⟩ (.string zs)) (w.heap.size + 1 + 1 + 1) [.slice none 0 0, .int .i64 0, .bool false, .int .i64 0, .int .i64 0, .string ⟨#[]⟩] := (((DR.other (p := ⟨w.heap.size + 1 + 1 + 1 + 1, 3, none⟩) (by show w.heap.size + 1 + 1 + 1 + 1 ≠ w.heap.size + 1 + 1 + 1; omega) _).other (p := ⟨w.heap.size + 1 + 1 + 1 + 1, 4, none⟩) (by show w.heap.size + 1 + 1 + 1 + 1 ≠ w.heap.size + 1 + 1 + 1; omega) _).other (p := ⟨w.heap.size + 1 + 1 + 1 + 1, 5, none⟩) (by show w.heap.size + 1 + 1 + 1 + 1 ≠ w.heap.size + 1 + 1 + 1; omega) _)
  have XB : Below w.heap.size w (((w5.setCell ⟨w.heap.size + 1 + 1 + 1 + 1, 3, none⟩ (.int .i64 zt)).setCell ⟨w.heap.size + 1 + 1 + 1 + 1, 4, none⟩ (.int .i64 zn)).setCell ⟨w.heap.size + 1 + 1 + 1 + 1, 5, none⟩ (.string zs)) := (((B5.setCell (by simp; omega) _).setCell (by simp; omega) _).setCell (by simp; omega) _)
  have XX : Own 29 3 (w.heap.size + 1 + 1 + 1 + 1 + 1) _ (((w5.setCell ⟨w.heap.size + 1 + 1 + 1 + 1, 3, none⟩ (.int .i64 zt)).setCell ⟨w.heap.size + 1 + 1 + 1 + 1, 4, none⟩ (.int .i64 zn)).setCell ⟨w.heap.size + 1 + 1 + 1 + 1, 5, none⟩ (.string zs)) (.slice (some ⟨w.heap.size + 1 + 1 + 1 + 1 + 1, 0, none⟩) 0 0) 0 _ := ((DX.setBelow (a := ⟨w.heap.size + 1 + 1 + 1 + 1, 3, none⟩) (by show w.heap.size + 1 + 1 + 1 + 1 < w.heap.size + 1 + 1 + 1 + 1 + 1; omega) (.int .i64 zt)).setBelow (a := ⟨w.heap.size + 1 + 1 + 1 + 1, 4, none⟩) (by show w.heap.size + 1 + 1 + 1 + 1 < w.heap.size + 1 + 1 + 1 + 1 + 1; omega) (.int .i64 zn)).setBelow (a := ⟨w.heap.size + 1 + 1 + 1 + 1, 5, none⟩) (by show w.heap.size + 1 + 1 + 1 + 1 < w.heap.size + 1 + 1 + 1 + 1 + 1; omega) (.string zs)
  refine (HZ.out _ _ (by have h := OwnN.rd (.inr XX); simpa [vals, V.cs] using h)).mono ?_
  rintro e w6 ⟨rfl, b6⟩
  have B6 := below_then XB b6 XB.size
  have EO := XO.below b6
  have ER := XR.below b6
  clear b6 XO XR XB XX D0 DO DR DX
  obtain ⟨o0, f0⟩ := EO 0 _ rfl
  obtain ⟨r0, h0⟩ := ER 0 _ rfl
  obtain ⟨o1, f1⟩ := EO 1 _ rfl
  obtain ⟨r1, h1⟩ := ER 1 _ rfl
  obtain ⟨o2, f2⟩ := EO 2 _ rfl
  obtain ⟨r2, h2⟩ := ER 2 _ rfl
  obtain ⟨o3, f3⟩ := EO 3 _ rfl
  obtain ⟨r3, h3⟩ := ER 3 _ rfl
  obtain ⟨o4, f4⟩ := EO 4 _ rfl
  obtain ⟨r4, h4⟩ := ER 4 _ rfl
  obtain ⟨o5, f5⟩ := EO 5 _ rfl
  obtain ⟨r5, h5⟩ := ER 5 _ rfl
  clear EO ER
  go_wp2
  exact bodyPost_ret (v := .agg #[.slice none 0 0, .int .i64 0, .bool false, .int .i64 yt, .int .i64 yn, .string ys]) (by simp [results, Tryd.results19, go_sem, *]) rfl ⟨by rw [HJ.out]; rfl, (((((((((B6.setCell (by simp; omega) _).setCell (by simp; omega) _).setCell (by simp; omega) _).setCell (by simp; omega) _).setCell (by simp; omega) _).setCell (by simp; omega) _).setCell (by simp; omega) _).setCell (by simp; omega) _).setCell (by simp; omega) _)⟩

set_option maxRecDepth 100000 in
set_option maxHeartbeats 4000000 in
theorem sJoined5_ft (t : T) (qc : Int) (ua : Option Addr) (un uc : Nat) (oa : Option Addr) (on oc : Nat) (Ar : List R) (An At Av : Int) (As : ByteArray) (Br : List R) (Bn Bt Bv : Int) (Bs : ByteArray) (aa : Option Addr) (an ac : Nat) (ba : Option Addr) (bn bc : Nat) (w : World) :
    Calls Tryd.prog 19 #[.agg #[.int .i64 5, .int .i64 t.kind, .int .i64 t.col, .int .i64 t.op, .int .i64 t.v.ty, .int .i64 t.v.n, .string t.v.s, .slice ua un uc, .int .i64 qc, .slice oa on oc], .agg #[.slice aa an ac, .int .i64 An, .bool false, .int .i64 At, .int .i64 Av, .string As], .agg #[.slice ba bn bc, .int .i64 Bn, .bool true, .int .i64 Bt, .int .i64 Bv, .string Bs]] w fun e w' => e = .returned (.agg ((joinL 5 (⟨Ar, An, false, ⟨At, Av, As⟩⟩ : Rs) (⟨Br, Bn, true, ⟨Bt, Bv, Bs⟩⟩ : Rs)).cs (.slice none 0 0)).toArray) ∧ Below w.heap.size w w' := by
  have HJ : Hid (joinL 5 (⟨Ar, An, false, ⟨At, Av, As⟩⟩ : Rs) (⟨Br, Bn, true, ⟨Bt, Bv, Bs⟩⟩ : Rs) = ⟨[], 0, true, (zoneL ([⟨Bt, Bv, Bs⟩] : List V)).hi⟩) := by
    show _ = _
    simp [joinL, hasL]
  have HZ := Lib.hid (fun u W h => sZoneOf u ([⟨Bt, Bv, Bs⟩] : List V) W h)
  generalize zoneL ([⟨Bt, Bv, Bs⟩] : List V) = z at HJ HZ
  obtain ⟨⟨zt, zn, zs⟩, ⟨yt, yn, ys⟩⟩ := z
  simp only [Zn.agg] at HZ
  have hfl : ∀ W, Sem.run Tryd.prog (Instr.field 106 (.agg #[.int .i64 zt, .int .i64 zn, .string zs, .int .i64 yt, .int .i64 yn, .string ys]) 0) W = Result.ok (.agg #[.int .i64 zt, .int .i64 zn, .string zs]) W := fun W => by kernel_rfl
  have hfh : ∀ W, Sem.run Tryd.prog (Instr.field 106 (.agg #[.int .i64 zt, .int .i64 zn, .string zs, .int .i64 yt, .int .i64 yn, .string ys]) 1) W = Result.ok (.agg #[.int .i64 yt, .int .i64 yn, .string ys]) W := fun W => by kernel_rfl
  have B0 : Below w.heap.size w (((((w.alloc (.cells #[.int .i64 5, .int .i64 t.kind, .int .i64 t.col, .int .i64 t.op, .int .i64 t.v.ty, .int .i64 t.v.n, .string t.v.s, .slice ua un uc, .int .i64 qc, .slice oa on oc] 46)).alloc (.cells #[.slice aa an ac, .int .i64 An, .bool false, .int .i64 At, .int .i64 Av, .string As] 50)).alloc (.cells #[.slice ba bn bc, .int .i64 Bn, .bool true, .int .i64 Bt, .int .i64 Bv, .string Bs] 50)).alloc (.cells #[.slice none 0 0, .int .i64 0, .bool false, .int .i64 0, .int .i64 0, .string ⟨#[]⟩] 50)).alloc (.cells #[.slice none 0 0, .int .i64 0, .bool false, .int .i64 0, .int .i64 0, .string ⟨#[]⟩] 50)) := below_alloc5 w _ _ _ _ _
  have C0 := ((((blk_new w [.int .i64 5, .int .i64 t.kind, .int .i64 t.col, .int .i64 t.op, .int .i64 t.v.ty, .int .i64 t.v.n, .string t.v.s, .slice ua un uc, .int .i64 qc, .slice oa on oc] 46).below (below_alloc _ (.cells #[.slice aa an ac, .int .i64 An, .bool false, .int .i64 At, .int .i64 Av, .string As] 50))).below (below_alloc _ (.cells #[.slice ba bn bc, .int .i64 Bn, .bool true, .int .i64 Bt, .int .i64 Bv, .string Bs] 50))).below (below_alloc _ (.cells #[.slice none 0 0, .int .i64 0, .bool false, .int .i64 0, .int .i64 0, .string ⟨#[]⟩] 50))).below (below_alloc _ (.cells #[.slice none 0 0, .int .i64 0, .bool false, .int .i64 0, .int .i64 0, .string ⟨#[]⟩] 50))
  have CA := (((blk_new (w.alloc (.cells #[.int .i64 5, .int .i64 t.kind, .int .i64 t.col, .int .i64 t.op, .int .i64 t.v.ty, .int .i64 t.v.n, .string t.v.s, .slice ua un uc, .int .i64 qc, .slice oa on oc] 46)) [.slice aa an ac, .int .i64 An, .bool false, .int .i64 At, .int .i64 Av, .string As] 50).below (below_alloc _ (.cells #[.slice ba bn bc, .int .i64 Bn, .bool true, .int .i64 Bt, .int .i64 Bv, .string Bs] 50))).below (below_alloc _ (.cells #[.slice none 0 0, .int .i64 0, .bool false, .int .i64 0, .int .i64 0, .string ⟨#[]⟩] 50))).below (below_alloc _ (.cells #[.slice none 0 0, .int .i64 0, .bool false, .int .i64 0, .int .i64 0, .string ⟨#[]⟩] 50))
  have CB := ((blk_new ((w.alloc (.cells #[.int .i64 5, .int .i64 t.kind, .int .i64 t.col, .int .i64 t.op, .int .i64 t.v.ty, .int .i64 t.v.n, .string t.v.s, .slice ua un uc, .int .i64 qc, .slice oa on oc] 46)).alloc (.cells #[.slice aa an ac, .int .i64 An, .bool false, .int .i64 At, .int .i64 Av, .string As] 50)) [.slice ba bn bc, .int .i64 Bn, .bool true, .int .i64 Bt, .int .i64 Bv, .string Bs] 50).below (below_alloc _ (.cells #[.slice none 0 0, .int .i64 0, .bool false, .int .i64 0, .int .i64 0, .string ⟨#[]⟩] 50))).below (below_alloc _ (.cells #[.slice none 0 0, .int .i64 0, .bool false, .int .i64 0, .int .i64 0, .string ⟨#[]⟩] 50))
  have CR := (blk_new (((w.alloc (.cells #[.int .i64 5, .int .i64 t.kind, .int .i64 t.col, .int .i64 t.op, .int .i64 t.v.ty, .int .i64 t.v.n, .string t.v.s, .slice ua un uc, .int .i64 qc, .slice oa on oc] 46)).alloc (.cells #[.slice aa an ac, .int .i64 An, .bool false, .int .i64 At, .int .i64 Av, .string As] 50)).alloc (.cells #[.slice ba bn bc, .int .i64 Bn, .bool true, .int .i64 Bt, .int .i64 Bv, .string Bs] 50)) [.slice none 0 0, .int .i64 0, .bool false, .int .i64 0, .int .i64 0, .string ⟨#[]⟩] 50).below (below_alloc _ (.cells #[.slice none 0 0, .int .i64 0, .bool false, .int .i64 0, .int .i64 0, .string ⟨#[]⟩] 50))
  have CO := blk_new ((((w.alloc (.cells #[.int .i64 5, .int .i64 t.kind, .int .i64 t.col, .int .i64 t.op, .int .i64 t.v.ty, .int .i64 t.v.n, .string t.v.s, .slice ua un uc, .int .i64 qc, .slice oa on oc] 46)).alloc (.cells #[.slice aa an ac, .int .i64 An, .bool false, .int .i64 At, .int .i64 Av, .string As] 50)).alloc (.cells #[.slice ba bn bc, .int .i64 Bn, .bool true, .int .i64 Bt, .int .i64 Bv, .string Bs] 50)).alloc (.cells #[.slice none 0 0, .int .i64 0, .bool false, .int .i64 0, .int .i64 0, .string ⟨#[]⟩] 50)) [.slice none 0 0, .int .i64 0, .bool false, .int .i64 0, .int .i64 0, .string ⟨#[]⟩] 50
  have hz0 : (((((w.alloc (.cells #[.int .i64 5, .int .i64 t.kind, .int .i64 t.col, .int .i64 t.op, .int .i64 t.v.ty, .int .i64 t.v.n, .string t.v.s, .slice ua un uc, .int .i64 qc, .slice oa on oc] 46)).alloc (.cells #[.slice aa an ac, .int .i64 An, .bool false, .int .i64 At, .int .i64 Av, .string As] 50)).alloc (.cells #[.slice ba bn bc, .int .i64 Bn, .bool true, .int .i64 Bt, .int .i64 Bv, .string Bs] 50)).alloc (.cells #[.slice none 0 0, .int .i64 0, .bool false, .int .i64 0, .int .i64 0, .string ⟨#[]⟩] 50)).alloc (.cells #[.slice none 0 0, .int .i64 0, .bool false, .int .i64 0, .int .i64 0, .string ⟨#[]⟩] 50)).heap.size = w.heap.size + 5 := by simp only [World.size_alloc]
  simp only [World.size_alloc] at CA CB CR CO
  generalize hw0 : (((((w.alloc (.cells #[.int .i64 5, .int .i64 t.kind, .int .i64 t.col, .int .i64 t.op, .int .i64 t.v.ty, .int .i64 t.v.n, .string t.v.s, .slice ua un uc, .int .i64 qc, .slice oa on oc] 46)).alloc (.cells #[.slice aa an ac, .int .i64 An, .bool false, .int .i64 At, .int .i64 Av, .string As] 50)).alloc (.cells #[.slice ba bn bc, .int .i64 Bn, .bool true, .int .i64 Bt, .int .i64 Bv, .string Bs] 50)).alloc (.cells #[.slice none 0 0, .int .i64 0, .bool false, .int .i64 0, .int .i64 0, .string ⟨#[]⟩] 50)).alloc (.cells #[.slice none 0 0, .int .i64 0, .bool false, .int .i64 0, .int .i64 0, .string ⟨#[]⟩] 50)) = w0 at B0 C0 CA CB CR CO hz0
  have HW0 := Lib.hid hw0
  have A1 := below_alloc w0 (.cells #[] 29)
  have B1 := below_then B0 A1 B0.size
  have C1 := C0.below A1
  have CA1 := CA.below A1
  have CB1 := CB.below A1
  have CR1 := CR.below A1
  have CO1 := CO.below A1
  have O1 := own_lit (e := 29) (size := 3) w0 #[] 0 (Nat.zero_le _) rfl
  rw [World.size_alloc] at O1
  have hz1 : (w0.alloc (.cells #[] 29)).heap.size = w.heap.size + 6 := by rw [World.size_alloc, hz0]
  have OX : Own 29 3 w0.heap.size (w0.alloc (.cells #[] 29)).heap.size (w0.alloc (.cells #[] 29)) (.slice (some ⟨w0.heap.size, 0, none⟩) 0 0) 0 [] := by
    rw [World.size_alloc]
    simpa using O1
  have hg0 : w0.heap.size = w.heap.size + 1 + 1 + 1 + 1 + 1 := hz0
  rw [hg0] at OX
  generalize hw1 : w0.alloc (.cells #[] 29) = w1 at B1 C1 CA1 CB1 CR1 CO1 OX hz1
  have HW1 := Lib.hid hw1
  clear hw0 hw1 O1 A1 C0 CA CB CR CO hg0
  go_enter Tryd.func19, Tryd.ntmps19
  go_wp2_with (at_builtin; rw [HW0.out, HW1.out]; refine appendV_law Tryd.elemVals rfl _ _ rfl (w.heap.size + 1 + 1 + 1 + 1 + 1) _ (.slice (some ⟨w.heap.size + 1 + 1 + 1 + 1 + 1, 0, none⟩) 0 0) 0 [] ⟨Bt, Bv, Bs⟩ rfl OX (by rw [hz1]; rfl) (by unfold maxLen; omega) (by omega) ?_)
  intro v2 w2 O2 E2
  have hne2 : ∀ x, x < w.heap.size + 1 + 1 + 1 + 1 + 1 → ((.slice (some ⟨w.heap.size + 1 + 1 + 1 + 1 + 1, 0, none⟩) 0 0) : Value).ownBlock ≠ some x := fun x hx => OwnN.not_low (.inr OX) hx
  have hgz2 : w.heap.size + 1 + 1 + 1 + 1 + 1 = w.heap.size + 5 := rfl
  have B2 := B1.grown E2.grown B1.size (fun k hk => Nat.le_of_not_lt (fun hlt => hne2 k (by omega) hk))
  have C2 := C1.ext E2 (hne2 _ (by omega))
  have CA2 := CA1.ext E2 (hne2 _ (by omega))
  have CB2 := CB1.ext E2 (hne2 _ (by omega))
  have CR2 := CR1.ext E2 (hne2 _ (by omega))
  have CO2 := CO1.ext E2 (hne2 _ (by omega))
  have hz2 : w.heap.size + 6 ≤ w2.heap.size := by have := E2.grown.size; omega
  obtain ⟨x2, y2, hv2⟩ : ∃ g cp, v2 = .slice (some ⟨g, 0, none⟩) 1 cp := by obtain ⟨g, cp, e, _⟩ := O2; exact ⟨g, cp, e⟩
  subst hv2
  clear OX E2
  have OX := O2
  clear O2 C1 CA1 CB1 CR1 CO1 hne2
  have k0 := (C2 0 _ rfl).1
  have a2 := (CA2 2 _ rfl).1
  have b2 := (CB2 2 _ rfl).1
  obtain ⟨o2, f2⟩ := CO2 2 _ rfl
  go_wp2_with fail
  clear k0 a2 b2 o2 f2
  have XO : Blk (w2.setCell ⟨w.heap.size + 1 + 1 + 1 + 1, 2, none⟩ (.bool true)) (w.heap.size + 1 + 1 + 1 + 1) [.slice none 0 0, .int .i64 0, .bool true, .int .i64 0, .int .i64 0, .string ⟨#[]⟩] := CO2.set 2 _
  have XR : Blk (w2.setCell ⟨w.heap.size + 1 + 1 + 1 + 1, 2, none⟩ (.bool true)) (w.heap.size + 1 + 1 + 1) [.slice none 0 0, .int .i64 0, .bool false, .int .i64 0, .int .i64 0, .string ⟨#[]⟩] := CR2.other (p := ⟨w.heap.size + 1 + 1 + 1 + 1, 2, none⟩) (by show w.heap.size + 1 + 1 + 1 + 1 ≠ w.heap.size + 1 + 1 + 1; omega) _
  have XC : Blk (w2.setCell ⟨w.heap.size + 1 + 1 + 1 + 1, 2, none⟩ (.bool true)) (w.heap.size) [.int .i64 5, .int .i64 t.kind, .int .i64 t.col, .int .i64 t.op, .int .i64 t.v.ty, .int .i64 t.v.n, .string t.v.s, .slice ua un uc, .int .i64 qc, .slice oa on oc] := C2.other (p := ⟨w.heap.size + 1 + 1 + 1 + 1, 2, none⟩) (by show w.heap.size + 1 + 1 + 1 + 1 ≠ w.heap.size; omega) _
  have XB : Below w.heap.size w (w2.setCell ⟨w.heap.size + 1 + 1 + 1 + 1, 2, none⟩ (.bool true)) := B2.setCell (by simp; omega) _
  have XX : Own 29 3 (w.heap.size + 1 + 1 + 1 + 1 + 1) (w2.setCell ⟨w.heap.size + 1 + 1 + 1 + 1, 2, none⟩ (.bool true)).heap.size (w2.setCell ⟨w.heap.size + 1 + 1 + 1 + 1, 2, none⟩ (.bool true)) (.slice (some ⟨x2, 0, none⟩) 1 y2) 1 _ := (OX.setBelow (a := ⟨w.heap.size + 1 + 1 + 1 + 1, 2, none⟩) (by show w.heap.size + 1 + 1 + 1 + 1 < w.heap.size + 1 + 1 + 1 + 1 + 1; omega) (.bool true)).wide (by simp [World.setCell])
  have hzs : w.heap.size + 6 ≤ (w2.setCell ⟨w.heap.size + 1 + 1 + 1 + 1, 2, none⟩ (.bool true)).heap.size := by simp [World.setCell]; omega
  have hg5 : w.heap.size + 1 + 1 + 1 + 1 + 1 = w.heap.size + 5 := rfl
  refine (HZ.out _ _ (by have h := OwnN.rd (.inr XX); simpa [vals, V.cs] using h)).mono ?_
  rintro e w5 ⟨rfl, b5⟩
  have B5 := below_then XB b5 XB.size
  have D0 := XC.below b5
  have DO := XO.below b5
  have DR := XR.below b5
  have DX := (XX.below b5 (Nat.le_refl _)).wide b5.size
  have hz5 := b5.size
  have k0 := (D0 0 _ rfl).1
  clear b5 XO XR XC XB XX
  obtain ⟨o3, f3⟩ := DO 3 _ rfl
  obtain ⟨o4, f4⟩ := DO 4 _ rfl
  obtain ⟨o5, f5⟩ := DO 5 _ rfl
  go_wp2_with fail
  clear k0 o3 f3 o4 f4 o5 f5
  have XO : Blk (((w5.setCell ⟨w.heap.size + 1 + 1 + 1 + 1, 3, none⟩ (.int .i64 zt)).setCell ⟨w.heap.size + 1 + 1 + 1 + 1, 4, none⟩ (.int .i64 zn)).setCell ⟨w.heap.size + 1 + 1 + 1 + 1, 5, none⟩ (.string zs)) (w.heap.size + 1 + 1 + 1 + 1) [.slice none 0 0, .int .i64 0, .bool true, .int .i64 zt, .int .i64 zn, .string zs] := ((DO.set 3 _).set 4 _).set 5 _
  have XR : Blk (((w5.setCell ⟨w.heap.size + 1 + 1 + 1 + 1, 3, none⟩ (.int .i64 zt)).setCell ⟨w.heap.size + 1 + 1 + 1 + 1, 4, none⟩ (.int .i64 zn)).setCell ⟨w.heap.size + 1 + 1 + 1 + 1, 5, none⟩ (.string zs)) (w.heap.size + 1 + 1 + 1) [.slice none 0 0, .int .i64 0, .bool false, .int .i64 0, .int .i64 0, .string ⟨#[]⟩] := (((DR.other (p := ⟨w.heap.size + 1 + 1 + 1 + 1, 3, none⟩) (by show w.heap.size + 1 + 1 + 1 + 1 ≠ w.heap.size + 1 + 1 + 1; omega) _).other (p := ⟨w.heap.size + 1 + 1 + 1 + 1, 4, none⟩) (by show w.heap.size + 1 + 1 + 1 + 1 ≠ w.heap.size + 1 + 1 + 1; omega) _).other (p := ⟨w.heap.size + 1 + 1 + 1 + 1, 5, none⟩) (by show w.heap.size + 1 + 1 + 1 + 1 ≠ w.heap.size + 1 + 1 + 1; omega) _)
  have XB : Below w.heap.size w (((w5.setCell ⟨w.heap.size + 1 + 1 + 1 + 1, 3, none⟩ (.int .i64 zt)).setCell ⟨w.heap.size + 1 + 1 + 1 + 1, 4, none⟩ (.int .i64 zn)).setCell ⟨w.heap.size + 1 + 1 + 1 + 1, 5, none⟩ (.string zs)) := (((B5.setCell (by simp; omega) _).setCell (by simp; omega) _).setCell (by simp; omega) _)
  have XX : Own 29 3 (w.heap.size + 1 + 1 + 1 + 1 + 1) _ (((w5.setCell ⟨w.heap.size + 1 + 1 + 1 + 1, 3, none⟩ (.int .i64 zt)).setCell ⟨w.heap.size + 1 + 1 + 1 + 1, 4, none⟩ (.int .i64 zn)).setCell ⟨w.heap.size + 1 + 1 + 1 + 1, 5, none⟩ (.string zs)) (.slice (some ⟨x2, 0, none⟩) 1 y2) 1 _ := ((DX.setBelow (a := ⟨w.heap.size + 1 + 1 + 1 + 1, 3, none⟩) (by show w.heap.size + 1 + 1 + 1 + 1 < w.heap.size + 1 + 1 + 1 + 1 + 1; omega) (.int .i64 zt)).setBelow (a := ⟨w.heap.size + 1 + 1 + 1 + 1, 4, none⟩) (by show w.heap.size + 1 + 1 + 1 + 1 < w.heap.size + 1 + 1 + 1 + 1 + 1; omega) (.int .i64 zn)).setBelow (a := ⟨w.heap.size + 1 + 1 + 1 + 1, 5, none⟩) (by show w.heap.size + 1 + 1 + 1 + 1 < w.heap.size + 1 + 1 + 1 + 1 + 1; omega) (.string zs)
  refine (HZ.out _ _ (by have h := OwnN.rd (.inr XX); simpa [vals, V.cs] using h)).mono ?_
  rintro e w6 ⟨rfl, b6⟩
  have B6 := below_then XB b6 XB.size
  have EO := XO.below b6
  have ER := XR.below b6
  clear b6 XO XR XB XX D0 DO DR DX
  obtain ⟨o0, f0⟩ := EO 0 _ rfl
  obtain ⟨r0, h0⟩ := ER 0 _ rfl
  obtain ⟨o1, f1⟩ := EO 1 _ rfl
  obtain ⟨r1, h1⟩ := ER 1 _ rfl
  obtain ⟨o2, f2⟩ := EO 2 _ rfl
  obtain ⟨r2, h2⟩ := ER 2 _ rfl
  obtain ⟨o3, f3⟩ := EO 3 _ rfl
  obtain ⟨r3, h3⟩ := ER 3 _ rfl
  obtain ⟨o4, f4⟩ := EO 4 _ rfl
  obtain ⟨r4, h4⟩ := ER 4 _ rfl
  obtain ⟨o5, f5⟩ := EO 5 _ rfl
  obtain ⟨r5, h5⟩ := ER 5 _ rfl
  clear EO ER
  go_wp2
  exact bodyPost_ret (v := .agg #[.slice none 0 0, .int .i64 0, .bool true, .int .i64 yt, .int .i64 yn, .string ys]) (by simp [results, Tryd.results19, go_sem, *]) rfl ⟨by rw [HJ.out]; rfl, (((((((((B6.setCell (by simp; omega) _).setCell (by simp; omega) _).setCell (by simp; omega) _).setCell (by simp; omega) _).setCell (by simp; omega) _).setCell (by simp; omega) _).setCell (by simp; omega) _).setCell (by simp; omega) _).setCell (by simp; omega) _)⟩

set_option maxRecDepth 100000 in
set_option maxHeartbeats 4000000 in
theorem sJoined5_tf (t : T) (qc : Int) (ua : Option Addr) (un uc : Nat) (oa : Option Addr) (on oc : Nat) (Ar : List R) (An At Av : Int) (As : ByteArray) (Br : List R) (Bn Bt Bv : Int) (Bs : ByteArray) (aa : Option Addr) (an ac : Nat) (ba : Option Addr) (bn bc : Nat) (w : World) :
    Calls Tryd.prog 19 #[.agg #[.int .i64 5, .int .i64 t.kind, .int .i64 t.col, .int .i64 t.op, .int .i64 t.v.ty, .int .i64 t.v.n, .string t.v.s, .slice ua un uc, .int .i64 qc, .slice oa on oc], .agg #[.slice aa an ac, .int .i64 An, .bool true, .int .i64 At, .int .i64 Av, .string As], .agg #[.slice ba bn bc, .int .i64 Bn, .bool false, .int .i64 Bt, .int .i64 Bv, .string Bs]] w fun e w' => e = .returned (.agg ((joinL 5 (⟨Ar, An, true, ⟨At, Av, As⟩⟩ : Rs) (⟨Br, Bn, false, ⟨Bt, Bv, Bs⟩⟩ : Rs)).cs (.slice none 0 0)).toArray) ∧ Below w.heap.size w w' := by
  have HJ : Hid (joinL 5 (⟨Ar, An, true, ⟨At, Av, As⟩⟩ : Rs) (⟨Br, Bn, false, ⟨Bt, Bv, Bs⟩⟩ : Rs) = ⟨[], 0, true, (zoneL ([⟨At, Av, As⟩] : List V)).hi⟩) := by
    show _ = _
    simp [joinL, hasL]
  have HZ := Lib.hid (fun u W h => sZoneOf u ([⟨At, Av, As⟩] : List V) W h)
  generalize zoneL ([⟨At, Av, As⟩] : List V) = z at HJ HZ
  obtain ⟨⟨zt, zn, zs⟩, ⟨yt, yn, ys⟩⟩ := z
  simp only [Zn.agg] at HZ
  have hfl : ∀ W, Sem.run Tryd.prog (Instr.field 106 (.agg #[.int .i64 zt, .int .i64 zn, .string zs, .int .i64 yt, .int .i64 yn, .string ys]) 0) W = Result.ok (.agg #[.int .i64 zt, .int .i64 zn, .string zs]) W := fun W => by kernel_rfl
  have hfh : ∀ W, Sem.run Tryd.prog (Instr.field 106 (.agg #[.int .i64 zt, .int .i64 zn, .string zs, .int .i64 yt, .int .i64 yn, .string ys]) 1) W = Result.ok (.agg #[.int .i64 yt, .int .i64 yn, .string ys]) W := fun W => by kernel_rfl
  have B0 : Below w.heap.size w (((((w.alloc (.cells #[.int .i64 5, .int .i64 t.kind, .int .i64 t.col, .int .i64 t.op, .int .i64 t.v.ty, .int .i64 t.v.n, .string t.v.s, .slice ua un uc, .int .i64 qc, .slice oa on oc] 46)).alloc (.cells #[.slice aa an ac, .int .i64 An, .bool true, .int .i64 At, .int .i64 Av, .string As] 50)).alloc (.cells #[.slice ba bn bc, .int .i64 Bn, .bool false, .int .i64 Bt, .int .i64 Bv, .string Bs] 50)).alloc (.cells #[.slice none 0 0, .int .i64 0, .bool false, .int .i64 0, .int .i64 0, .string ⟨#[]⟩] 50)).alloc (.cells #[.slice none 0 0, .int .i64 0, .bool false, .int .i64 0, .int .i64 0, .string ⟨#[]⟩] 50)) := below_alloc5 w _ _ _ _ _
  have C0 := ((((blk_new w [.int .i64 5, .int .i64 t.kind, .int .i64 t.col, .int .i64 t.op, .int .i64 t.v.ty, .int .i64 t.v.n, .string t.v.s, .slice ua un uc, .int .i64 qc, .slice oa on oc] 46).below (below_alloc _ (.cells #[.slice aa an ac, .int .i64 An, .bool true, .int .i64 At, .int .i64 Av, .string As] 50))).below (below_alloc _ (.cells #[.slice ba bn bc, .int .i64 Bn, .bool false, .int .i64 Bt, .int .i64 Bv, .string Bs] 50))).below (below_alloc _ (.cells #[.slice none 0 0, .int .i64 0, .bool false, .int .i64 0, .int .i64 0, .string ⟨#[]⟩] 50))).below (below_alloc _ (.cells #[.slice none 0 0, .int .i64 0, .bool false, .int .i64 0, .int .i64 0, .string ⟨#[]⟩] 50))
  have CA := (((blk_new (w.alloc (.cells #[.int .i64 5, .int .i64 t.kind, .int .i64 t.col, .int .i64 t.op, .int .i64 t.v.ty, .int .i64 t.v.n, .string t.v.s, .slice ua un uc, .int .i64 qc, .slice oa on oc] 46)) [.slice aa an ac, .int .i64 An, .bool true, .int .i64 At, .int .i64 Av, .string As] 50).below (below_alloc _ (.cells #[.slice ba bn bc, .int .i64 Bn, .bool false, .int .i64 Bt, .int .i64 Bv, .string Bs] 50))).below (below_alloc _ (.cells #[.slice none 0 0, .int .i64 0, .bool false, .int .i64 0, .int .i64 0, .string ⟨#[]⟩] 50))).below (below_alloc _ (.cells #[.slice none 0 0, .int .i64 0, .bool false, .int .i64 0, .int .i64 0, .string ⟨#[]⟩] 50))
  have CB := ((blk_new ((w.alloc (.cells #[.int .i64 5, .int .i64 t.kind, .int .i64 t.col, .int .i64 t.op, .int .i64 t.v.ty, .int .i64 t.v.n, .string t.v.s, .slice ua un uc, .int .i64 qc, .slice oa on oc] 46)).alloc (.cells #[.slice aa an ac, .int .i64 An, .bool true, .int .i64 At, .int .i64 Av, .string As] 50)) [.slice ba bn bc, .int .i64 Bn, .bool false, .int .i64 Bt, .int .i64 Bv, .string Bs] 50).below (below_alloc _ (.cells #[.slice none 0 0, .int .i64 0, .bool false, .int .i64 0, .int .i64 0, .string ⟨#[]⟩] 50))).below (below_alloc _ (.cells #[.slice none 0 0, .int .i64 0, .bool false, .int .i64 0, .int .i64 0, .string ⟨#[]⟩] 50))
  have CR := (blk_new (((w.alloc (.cells #[.int .i64 5, .int .i64 t.kind, .int .i64 t.col, .int .i64 t.op, .int .i64 t.v.ty, .int .i64 t.v.n, .string t.v.s, .slice ua un uc, .int .i64 qc, .slice oa on oc] 46)).alloc (.cells #[.slice aa an ac, .int .i64 An, .bool true, .int .i64 At, .int .i64 Av, .string As] 50)).alloc (.cells #[.slice ba bn bc, .int .i64 Bn, .bool false, .int .i64 Bt, .int .i64 Bv, .string Bs] 50)) [.slice none 0 0, .int .i64 0, .bool false, .int .i64 0, .int .i64 0, .string ⟨#[]⟩] 50).below (below_alloc _ (.cells #[.slice none 0 0, .int .i64 0, .bool false, .int .i64 0, .int .i64 0, .string ⟨#[]⟩] 50))
  have CO := blk_new ((((w.alloc (.cells #[.int .i64 5, .int .i64 t.kind, .int .i64 t.col, .int .i64 t.op, .int .i64 t.v.ty, .int .i64 t.v.n, .string t.v.s, .slice ua un uc, .int .i64 qc, .slice oa on oc] 46)).alloc (.cells #[.slice aa an ac, .int .i64 An, .bool true, .int .i64 At, .int .i64 Av, .string As] 50)).alloc (.cells #[.slice ba bn bc, .int .i64 Bn, .bool false, .int .i64 Bt, .int .i64 Bv, .string Bs] 50)).alloc (.cells #[.slice none 0 0, .int .i64 0, .bool false, .int .i64 0, .int .i64 0, .string ⟨#[]⟩] 50)) [.slice none 0 0, .int .i64 0, .bool false, .int .i64 0, .int .i64 0, .string ⟨#[]⟩] 50
  have hz0 : (((((w.alloc (.cells #[.int .i64 5, .int .i64 t.kind, .int .i64 t.col, .int .i64 t.op, .int .i64 t.v.ty, .int .i64 t.v.n, .string t.v.s, .slice ua un uc, .int .i64 qc, .slice oa on oc] 46)).alloc (.cells #[.slice aa an ac, .int .i64 An, .bool true, .int .i64 At, .int .i64 Av, .string As] 50)).alloc (.cells #[.slice ba bn bc, .int .i64 Bn, .bool false, .int .i64 Bt, .int .i64 Bv, .string Bs] 50)).alloc (.cells #[.slice none 0 0, .int .i64 0, .bool false, .int .i64 0, .int .i64 0, .string ⟨#[]⟩] 50)).alloc (.cells #[.slice none 0 0, .int .i64 0, .bool false, .int .i64 0, .int .i64 0, .string ⟨#[]⟩] 50)).heap.size = w.heap.size + 5 := by simp only [World.size_alloc]
  simp only [World.size_alloc] at CA CB CR CO
  generalize hw0 : (((((w.alloc (.cells #[.int .i64 5, .int .i64 t.kind, .int .i64 t.col, .int .i64 t.op, .int .i64 t.v.ty, .int .i64 t.v.n, .string t.v.s, .slice ua un uc, .int .i64 qc, .slice oa on oc] 46)).alloc (.cells #[.slice aa an ac, .int .i64 An, .bool true, .int .i64 At, .int .i64 Av, .string As] 50)).alloc (.cells #[.slice ba bn bc, .int .i64 Bn, .bool false, .int .i64 Bt, .int .i64 Bv, .string Bs] 50)).alloc (.cells #[.slice none 0 0, .int .i64 0, .bool false, .int .i64 0, .int .i64 0, .string ⟨#[]⟩] 50)).alloc (.cells #[.slice none 0 0, .int .i64 0, .bool false, .int .i64 0, .int .i64 0, .string ⟨#[]⟩] 50)) = w0 at B0 C0 CA CB CR CO hz0
  have HW0 := Lib.hid hw0
  have A1 := below_alloc w0 (.cells #[] 29)
  have B1 := below_then B0 A1 B0.size
  have C1 := C0.below A1
  have CA1 := CA.below A1
  have CB1 := CB.below A1
  have CR1 := CR.below A1
  have CO1 := CO.below A1
  have O1 := own_lit (e := 29) (size := 3) w0 #[] 0 (Nat.zero_le _) rfl
  rw [World.size_alloc] at O1
  have hz1 : (w0.alloc (.cells #[] 29)).heap.size = w.heap.size + 6 := by rw [World.size_alloc, hz0]
  have OX : Own 29 3 w0.heap.size (w0.alloc (.cells #[] 29)).heap.size (w0.alloc (.cells #[] 29)) (.slice (some ⟨w0.heap.size, 0, none⟩) 0 0) 0 [] := by
    rw [World.size_alloc]
    simpa using O1
  have hg0 : w0.heap.size = w.heap.size + 1 + 1 + 1 + 1 + 1 := hz0
  rw [hg0] at OX
  generalize hw1 : w0.alloc (.cells #[] 29) = w1 at B1 C1 CA1 CB1 CR1 CO1 OX hz1
  have HW1 := Lib.hid hw1
  clear hw0 hw1 O1 A1 C0 CA CB CR CO hg0
  go_enter Tryd.func19, Tryd.ntmps19
  go_wp2_with (at_builtin; rw [HW0.out, HW1.out]; refine appendV_law Tryd.elemVals rfl _ _ rfl (w.heap.size + 1 + 1 + 1 + 1 + 1) _ (.slice (some ⟨w.heap.size + 1 + 1 + 1 + 1 + 1, 0, none⟩) 0 0) 0 [] ⟨At, Av, As⟩ rfl OX (by rw [hz1]; rfl) (by unfold maxLen; omega) (by omega) ?_)
  intro v2 w2 O2 E2
  have hne2 : ∀ x, x < w.heap.size + 1 + 1 + 1 + 1 + 1 → ((.slice (some ⟨w.heap.size + 1 + 1 + 1 + 1 + 1, 0, none⟩) 0 0) : Value).ownBlock ≠ some x := fun x hx => OwnN.not_low (.inr OX) hx
  have hgz2 : w.heap.size + 1 + 1 + 1 + 1 + 1 = w.heap.size + 5 := rfl
  have B2 := B1.grown E2.grown B1.size (fun k hk => Nat.le_of_not_lt (fun hlt => hne2 k (by omega) hk))
  have C2 := C1.ext E2 (hne2 _ (by omega))
  have CA2 := CA1.ext E2 (hne2 _ (by omega))
  have CB2 := CB1.ext E2 (hne2 _ (by omega))
  have CR2 := CR1.ext E2 (hne2 _ (by omega))
  have CO2 := CO1.ext E2 (hne2 _ (by omega))
  have hz2 : w.heap.size + 6 ≤ w2.heap.size := by have := E2.grown.size; omega
  obtain ⟨x2, y2, hv2⟩ : ∃ g cp, v2 = .slice (some ⟨g, 0, none⟩) 1 cp := by obtain ⟨g, cp, e, _⟩ := O2; exact ⟨g, cp, e⟩
  subst hv2
  clear OX E2
  have OX := O2
  clear O2 C1 CA1 CB1 CR1 CO1 hne2
  have k0 := (C2 0 _ rfl).1
  have a2 := (CA2 2 _ rfl).1
  have b2 := (CB2 2 _ rfl).1
  obtain ⟨o2, f2⟩ := CO2 2 _ rfl
  go_wp2_with fail
  clear k0 a2 b2 o2 f2
  have XO : Blk (w2.setCell ⟨w.heap.size + 1 + 1 + 1 + 1, 2, none⟩ (.bool true)) (w.heap.size + 1 + 1 + 1 + 1) [.slice none 0 0, .int .i64 0, .bool true, .int .i64 0, .int .i64 0, .string ⟨#[]⟩] := CO2.set 2 _
  have XR : Blk (w2.setCell ⟨w.heap.size + 1 + 1 + 1 + 1, 2, none⟩ (.bool true)) (w.heap.size + 1 + 1 + 1) [.slice none 0 0, .int .i64 0, .bool false, .int .i64 0, .int .i64 0, .string ⟨#[]⟩] := CR2.other (p := ⟨w.heap.size + 1 + 1 + 1 + 1, 2, none⟩) (by show w.heap.size + 1 + 1 + 1 + 1 ≠ w.heap.size + 1 + 1 + 1; omega) _
  have XC : Blk (w2.setCell ⟨w.heap.size + 1 + 1 + 1 + 1, 2, none⟩ (.bool true)) (w.heap.size) [.int .i64 5, .int .i64 t.kind, .int .i64 t.col, .int .i64 t.op, .int .i64 t.v.ty, .int .i64 t.v.n, .string t.v.s, .slice ua un uc, .int .i64 qc, .slice oa on oc] := C2.other (p := ⟨w.heap.size + 1 + 1 + 1 + 1, 2, none⟩) (by show w.heap.size + 1 + 1 + 1 + 1 ≠ w.heap.size; omega) _
  have XB : Below w.heap.size w (w2.setCell ⟨w.heap.size + 1 + 1 + 1 + 1, 2, none⟩ (.bool true)) := B2.setCell (by simp; omega) _
  have XX : Own 29 3 (w.heap.size + 1 + 1 + 1 + 1 + 1) (w2.setCell ⟨w.heap.size + 1 + 1 + 1 + 1, 2, none⟩ (.bool true)).heap.size (w2.setCell ⟨w.heap.size + 1 + 1 + 1 + 1, 2, none⟩ (.bool true)) (.slice (some ⟨x2, 0, none⟩) 1 y2) 1 _ := (OX.setBelow (a := ⟨w.heap.size + 1 + 1 + 1 + 1, 2, none⟩) (by show w.heap.size + 1 + 1 + 1 + 1 < w.heap.size + 1 + 1 + 1 + 1 + 1; omega) (.bool true)).wide (by simp [World.setCell])
  have hzs : w.heap.size + 6 ≤ (w2.setCell ⟨w.heap.size + 1 + 1 + 1 + 1, 2, none⟩ (.bool true)).heap.size := by simp [World.setCell]; omega
  have hg5 : w.heap.size + 1 + 1 + 1 + 1 + 1 = w.heap.size + 5 := rfl
  refine (HZ.out _ _ (by have h := OwnN.rd (.inr XX); simpa [vals, V.cs] using h)).mono ?_
  rintro e w5 ⟨rfl, b5⟩
  have B5 := below_then XB b5 XB.size
  have D0 := XC.below b5
  have DO := XO.below b5
  have DR := XR.below b5
  have DX := (XX.below b5 (Nat.le_refl _)).wide b5.size
  have hz5 := b5.size
  have k0 := (D0 0 _ rfl).1
  clear b5 XO XR XC XB XX
  obtain ⟨o3, f3⟩ := DO 3 _ rfl
  obtain ⟨o4, f4⟩ := DO 4 _ rfl
  obtain ⟨o5, f5⟩ := DO 5 _ rfl
  go_wp2_with fail
  clear k0 o3 f3 o4 f4 o5 f5
  have XO : Blk (((w5.setCell ⟨w.heap.size + 1 + 1 + 1 + 1, 3, none⟩ (.int .i64 zt)).setCell ⟨w.heap.size + 1 + 1 + 1 + 1, 4, none⟩ (.int .i64 zn)).setCell ⟨w.heap.size + 1 + 1 + 1 + 1, 5, none⟩ (.string zs)) (w.heap.size + 1 + 1 + 1 + 1) [.slice none 0 0, .int .i64 0, .bool true, .int .i64 zt, .int .i64 zn, .string zs] := ((DO.set 3 _).set 4 _).set 5 _
  have XR : Blk (((w5.setCell ⟨w.heap.size + 1 + 1 + 1 + 1, 3, none⟩ (.int .i64 zt)).setCell ⟨w.heap.size + 1 + 1 + 1 + 1, 4, none⟩ (.int .i64 zn)).setCell ⟨w.heap.size + 1 + 1 + 1 + 1, 5, none⟩ (.string zs)) (w.heap.size + 1 + 1 + 1) [.slice none 0 0, .int .i64 0, .bool false, .int .i64 0, .int .i64 0, .string ⟨#[]⟩] := (((DR.other (p := ⟨w.heap.size + 1 + 1 + 1 + 1, 3, none⟩) (by show w.heap.size + 1 + 1 + 1 + 1 ≠ w.heap.size + 1 + 1 + 1; omega) _).other (p := ⟨w.heap.size + 1 + 1 + 1 + 1, 4, none⟩) (by show w.heap.size + 1 + 1 + 1 + 1 ≠ w.heap.size + 1 + 1 + 1; omega) _).other (p := ⟨w.heap.size + 1 + 1 + 1 + 1, 5, none⟩) (by show w.heap.size + 1 + 1 + 1 + 1 ≠ w.heap.size + 1 + 1 + 1; omega) _)
  have XB : Below w.heap.size w (((w5.setCell ⟨w.heap.size + 1 + 1 + 1 + 1, 3, none⟩ (.int .i64 zt)).setCell ⟨w.heap.size + 1 + 1 + 1 + 1, 4, none⟩ (.int .i64 zn)).setCell ⟨w.heap.size + 1 + 1 + 1 + 1, 5, none⟩ (.string zs)) := (((B5.setCell (by simp; omega) _).setCell (by simp; omega) _).setCell (by simp; omega) _)
  have XX : Own 29 3 (w.heap.size + 1 + 1 + 1 + 1 + 1) _ (((w5.setCell ⟨w.heap.size + 1 + 1 + 1 + 1, 3, none⟩ (.int .i64 zt)).setCell ⟨w.heap.size + 1 + 1 + 1 + 1, 4, none⟩ (.int .i64 zn)).setCell ⟨w.heap.size + 1 + 1 + 1 + 1, 5, none⟩ (.string zs)) (.slice (some ⟨x2, 0, none⟩) 1 y2) 1 _ := ((DX.setBelow (a := ⟨w.heap.size + 1 + 1 + 1 + 1, 3, none⟩) (by show w.heap.size + 1 + 1 + 1 + 1 < w.heap.size + 1 + 1 + 1 + 1 + 1; omega) (.int .i64 zt)).setBelow (a := ⟨w.heap.size + 1 + 1 + 1 + 1, 4, none⟩) (by show w.heap.size + 1 + 1 + 1 + 1 < w.heap.size + 1 + 1 + 1 + 1 + 1; omega) (.int .i64 zn)).setBelow (a := ⟨w.heap.size + 1 + 1 + 1 + 1, 5, none⟩) (by show w.heap.size + 1 + 1 + 1 + 1 < w.heap.size + 1 + 1 + 1 + 1 + 1; omega) (.string zs)
  refine (HZ.out _ _ (by have h := OwnN.rd (.inr XX); simpa [vals, V.cs] using h)).mono ?_
  rintro e w6 ⟨rfl, b6⟩
  have B6 := below_then XB b6 XB.size
  have EO := XO.below b6
  have ER := XR.below b6
  clear b6 XO XR XB XX D0 DO DR DX
  obtain ⟨o0, f0⟩ := EO 0 _ rfl
  obtain ⟨r0, h0⟩ := ER 0 _ rfl
  obtain ⟨o1, f1⟩ := EO 1 _ rfl
  obtain ⟨r1, h1⟩ := ER 1 _ rfl
  obtain ⟨o2, f2⟩ := EO 2 _ rfl
  obtain ⟨r2, h2⟩ := ER 2 _ rfl
  obtain ⟨o3, f3⟩ := EO 3 _ rfl
  obtain ⟨r3, h3⟩ := ER 3 _ rfl
  obtain ⟨o4, f4⟩ := EO 4 _ rfl
  obtain ⟨r4, h4⟩ := ER 4 _ rfl
  obtain ⟨o5, f5⟩ := EO 5 _ rfl
  obtain ⟨r5, h5⟩ := ER 5 _ rfl
  clear EO ER
  go_wp2
  exact bodyPost_ret (v := .agg #[.slice none 0 0, .int .i64 0, .bool true, .int .i64 yt, .int .i64 yn, .string ys]) (by simp [results, Tryd.results19, go_sem, *]) rfl ⟨by rw [HJ.out]; rfl, (((((((((B6.setCell (by simp; omega) _).setCell (by simp; omega) _).setCell (by simp; omega) _).setCell (by simp; omega) _).setCell (by simp; omega) _).setCell (by simp; omega) _).setCell (by simp; omega) _).setCell (by simp; omega) _).setCell (by simp; omega) _)⟩

set_option maxRecDepth 100000 in
set_option maxHeartbeats 4000000 in
theorem sJoined5_tt (t : T) (qc : Int) (ua : Option Addr) (un uc : Nat) (oa : Option Addr) (on oc : Nat) (Ar : List R) (An At Av : Int) (As : ByteArray) (Br : List R) (Bn Bt Bv : Int) (Bs : ByteArray) (aa : Option Addr) (an ac : Nat) (ba : Option Addr) (bn bc : Nat) (w : World) :
    Calls Tryd.prog 19 #[.agg #[.int .i64 5, .int .i64 t.kind, .int .i64 t.col, .int .i64 t.op, .int .i64 t.v.ty, .int .i64 t.v.n, .string t.v.s, .slice ua un uc, .int .i64 qc, .slice oa on oc], .agg #[.slice aa an ac, .int .i64 An, .bool true, .int .i64 At, .int .i64 Av, .string As], .agg #[.slice ba bn bc, .int .i64 Bn, .bool true, .int .i64 Bt, .int .i64 Bv, .string Bs]] w fun e w' => e = .returned (.agg ((joinL 5 (⟨Ar, An, true, ⟨At, Av, As⟩⟩ : Rs) (⟨Br, Bn, true, ⟨Bt, Bv, Bs⟩⟩ : Rs)).cs (.slice none 0 0)).toArray) ∧ Below w.heap.size w w' := by
  have HJ : Hid (joinL 5 (⟨Ar, An, true, ⟨At, Av, As⟩⟩ : Rs) (⟨Br, Bn, true, ⟨Bt, Bv, Bs⟩⟩ : Rs) = ⟨[], 0, true, (zoneL ([⟨At, Av, As⟩, ⟨Bt, Bv, Bs⟩] : List V)).hi⟩) := by
    show _ = _
    simp [joinL, hasL]
  have HZ := Lib.hid (fun u W h => sZoneOf u ([⟨At, Av, As⟩, ⟨Bt, Bv, Bs⟩] : List V) W h)
  generalize zoneL ([⟨At, Av, As⟩, ⟨Bt, Bv, Bs⟩] : List V) = z at HJ HZ
  obtain ⟨⟨zt, zn, zs⟩, ⟨yt, yn, ys⟩⟩ := z
  simp only [Zn.agg] at HZ
  have hfl : ∀ W, Sem.run Tryd.prog (Instr.field 106 (.agg #[.int .i64 zt, .int .i64 zn, .string zs, .int .i64 yt, .int .i64 yn, .string ys]) 0) W = Result.ok (.agg #[.int .i64 zt, .int .i64 zn, .string zs]) W := fun W => by kernel_rfl
  have hfh : ∀ W, Sem.run Tryd.prog (Instr.field 106 (.agg #[.int .i64 zt, .int .i64 zn, .string zs, .int .i64 yt, .int .i64 yn, .string ys]) 1) W = Result.ok (.agg #[.int .i64 yt, .int .i64 yn, .string ys]) W := fun W => by kernel_rfl
  have B0 : Below w.heap.size w (((((w.alloc (.cells #[.int .i64 5, .int .i64 t.kind, .int .i64 t.col, .int .i64 t.op, .int .i64 t.v.ty, .int .i64 t.v.n, .string t.v.s, .slice ua un uc, .int .i64 qc, .slice oa on oc] 46)).alloc (.cells #[.slice aa an ac, .int .i64 An, .bool true, .int .i64 At, .int .i64 Av, .string As] 50)).alloc (.cells #[.slice ba bn bc, .int .i64 Bn, .bool true, .int .i64 Bt, .int .i64 Bv, .string Bs] 50)).alloc (.cells #[.slice none 0 0, .int .i64 0, .bool false, .int .i64 0, .int .i64 0, .string ⟨#[]⟩] 50)).alloc (.cells #[.slice none 0 0, .int .i64 0, .bool false, .int .i64 0, .int .i64 0, .string ⟨#[]⟩] 50)) := below_alloc5 w _ _ _ _ _
  have C0 := ((((blk_new w [.int .i64 5, .int .i64 t.kind, .int .i64 t.col, .int .i64 t.op, .int .i64 t.v.ty, .int .i64 t.v.n, .string t.v.s, .slice ua un uc, .int .i64 qc, .slice oa on oc] 46).below (below_alloc _ (.cells #[.slice aa an ac, .int .i64 An, .bool true, .int .i64 At, .int .i64 Av, .string As] 50))).below (below_alloc _ (.cells #[.slice ba bn bc, .int .i64 Bn, .bool true, .int .i64 Bt, .int .i64 Bv, .string Bs] 50))).below (below_alloc _ (.cells #[.slice none 0 0, .int .i64 0, .bool false, .int .i64 0, .int .i64 0, .string ⟨#[]⟩] 50))).below (below_alloc _ (.cells #[.slice none 0 0, .int .i64 0, .bool false, .int .i64 0, .int .i64 0, .string ⟨#[]⟩] 50))
  have CA := (((blk_new (w.alloc (.cells #[.int .i64 5, .int .i64 t.kind, .int .i64 t.col, .int .i64 t.op, .int .i64 t.v.ty, .int .i64 t.v.n, .string t.v.s, .slice ua un uc, .int .i64 qc, .slice oa on oc] 46)) [.slice aa an ac, .int .i64 An, .bool true, .int .i64 At, .int .i64 Av, .string As] 50).below (below_alloc _ (.cells #[.slice ba bn bc, .int .i64 Bn, .bool true, .int .i64 Bt, .int .i64 Bv, .string Bs] 50))).below (below_alloc _ (.cells #[.slice none 0 0, .int .i64 0, .bool false, .int .i64 0, .int .i64 0, .string ⟨#[]⟩] 50))).below (below_alloc _ (.cells #[.slice none 0 0, .int .i64 0, .bool false, .int .i64 0, .int .i64 0, .string ⟨#[]⟩] 50))
  have CB := ((blk_new ((w.alloc (.cells #[.int .i64 5, .int .i64 t.kind, .int .i64 t.col, .int .i64 t.op, .int .i64 t.v.ty, .int .i64 t.v.n, .string t.v.s, .slice ua un uc, .int .i64 qc, .slice oa on oc] 46)).alloc (.cells #[.slice aa an ac, .int .i64 An, .bool true, .int .i64 At, .int .i64 Av, .string As] 50)) [.slice ba bn bc, .int .i64 Bn, .bool true, .int .i64 Bt, .int .i64 Bv, .string Bs] 50).below (below_alloc _ (.cells #[.slice none 0 0, .int .i64 0, .bool false, .int .i64 0, .int .i64 0, .string ⟨#[]⟩] 50))).below (below_alloc _ (.cells #[.slice none 0 0, .int .i64 0, .bool false, .int .i64 0, .int .i64 0, .string ⟨#[]⟩] 50))
  have CR := (blk_new (((w.alloc (.cells #[.int .i64 5, .int .i64 t.kind, .int .i64 t.col, .int .i64 t.op, .int .i64 t.v.ty, .int .i64 t.v.n, .string t.v.s, .slice ua un uc, .int .i64 qc, .slice oa on oc] 46)).alloc (.cells #[.slice aa an ac, .int .i64 An, .bool true, .int .i64 At, .int .i64 Av, .string As] 50)).alloc (.cells #[.slice ba bn bc, .int .i64 Bn, .bool true, .int .i64 Bt, .int .i64 Bv, .string Bs] 50)) [.slice none 0 0, .int .i64 0, .bool false, .int .i64 0, .int .i64 0, .string ⟨#[]⟩] 50).below (below_alloc _ (.cells #[.slice none 0 0, .int .i64 0, .bool false, .int .i64 0, .int .i64 0, .string ⟨#[]⟩] 50))
  have CO := blk_new ((((w.alloc (.cells #[.int .i64 5, .int .i64 t.kind, .int .i64 t.col, .int .i64 t.op, .int .i64 t.v.ty, .int .i64 t.v.n, .string t.v.s, .slice ua un uc, .int .i64 qc, .slice oa on oc] 46)).alloc (.cells #[.slice aa an ac, .int .i64 An, .bool true, .int .i64 At, .int .i64 Av, .string As] 50)).alloc (.cells #[.slice ba bn bc, .int .i64 Bn, .bool true, .int .i64 Bt, .int .i64 Bv, .string Bs] 50)).alloc (.cells #[.slice none 0 0, .int .i64 0, .bool false, .int .i64 0, .int .i64 0, .string ⟨#[]⟩] 50)) [.slice none 0 0, .int .i64 0, .bool false, .int .i64 0, .int .i64 0, .string ⟨#[]⟩] 50
  have hz0 : (((((w.alloc (.cells #[.int .i64 5, .int .i64 t.kind, .int .i64 t.col, .int .i64 t.op, .int .i64 t.v.ty, .int .i64 t.v.n, .string t.v.s, .slice ua un uc, .int .i64 qc, .slice oa on oc] 46)).alloc (.cells #[.slice aa an ac, .int .i64 An, .bool true, .int .i64 At, .int .i64 Av, .string As] 50)).alloc (.cells #[.slice ba bn bc, .int .i64 Bn, .bool true, .int .i64 Bt, .int .i64 Bv, .string Bs] 50)).alloc (.cells #[.slice none 0 0, .int .i64 0, .bool false, .int .i64 0, .int .i64 0, .string ⟨#[]⟩] 50)).alloc (.cells #[.slice none 0 0, .int .i64 0, .bool false, .int .i64 0, .int .i64 0, .string ⟨#[]⟩] 50)).heap.size = w.heap.size + 5 := by simp only [World.size_alloc]
  simp only [World.size_alloc] at CA CB CR CO
  generalize hw0 : (((((w.alloc (.cells #[.int .i64 5, .int .i64 t.kind, .int .i64 t.col, .int .i64 t.op, .int .i64 t.v.ty, .int .i64 t.v.n, .string t.v.s, .slice ua un uc, .int .i64 qc, .slice oa on oc] 46)).alloc (.cells #[.slice aa an ac, .int .i64 An, .bool true, .int .i64 At, .int .i64 Av, .string As] 50)).alloc (.cells #[.slice ba bn bc, .int .i64 Bn, .bool true, .int .i64 Bt, .int .i64 Bv, .string Bs] 50)).alloc (.cells #[.slice none 0 0, .int .i64 0, .bool false, .int .i64 0, .int .i64 0, .string ⟨#[]⟩] 50)).alloc (.cells #[.slice none 0 0, .int .i64 0, .bool false, .int .i64 0, .int .i64 0, .string ⟨#[]⟩] 50)) = w0 at B0 C0 CA CB CR CO hz0
  have HW0 := Lib.hid hw0
  have A1 := below_alloc w0 (.cells #[] 29)
  have B1 := below_then B0 A1 B0.size
  have C1 := C0.below A1
  have CA1 := CA.below A1
  have CB1 := CB.below A1
  have CR1 := CR.below A1
  have CO1 := CO.below A1
  have O1 := own_lit (e := 29) (size := 3) w0 #[] 0 (Nat.zero_le _) rfl
  rw [World.size_alloc] at O1
  have hz1 : (w0.alloc (.cells #[] 29)).heap.size = w.heap.size + 6 := by rw [World.size_alloc, hz0]
  have OX : Own 29 3 w0.heap.size (w0.alloc (.cells #[] 29)).heap.size (w0.alloc (.cells #[] 29)) (.slice (some ⟨w0.heap.size, 0, none⟩) 0 0) 0 [] := by
    rw [World.size_alloc]
    simpa using O1
  have hg0 : w0.heap.size = w.heap.size + 1 + 1 + 1 + 1 + 1 := hz0
  rw [hg0] at OX
  generalize hw1 : w0.alloc (.cells #[] 29) = w1 at B1 C1 CA1 CB1 CR1 CO1 OX hz1
  have HW1 := Lib.hid hw1
  clear hw0 hw1 O1 A1 C0 CA CB CR CO hg0
  go_enter Tryd.func19, Tryd.ntmps19
  go_wp2_with (at_builtin; rw [HW0.out, HW1.out]; refine appendV_law Tryd.elemVals rfl _ _ rfl (w.heap.size + 1 + 1 + 1 + 1 + 1) _ (.slice (some ⟨w.heap.size + 1 + 1 + 1 + 1 + 1, 0, none⟩) 0 0) 0 [] ⟨At, Av, As⟩ rfl OX (by rw [hz1]; rfl) (by unfold maxLen; omega) (by omega) ?_)
  intro v2 w2 O2 E2
  have hne2 : ∀ x, x < w.heap.size + 1 + 1 + 1 + 1 + 1 → ((.slice (some ⟨w.heap.size + 1 + 1 + 1 + 1 + 1, 0, none⟩) 0 0) : Value).ownBlock ≠ some x := fun x hx => OwnN.not_low (.inr OX) hx
  have hgz2 : w.heap.size + 1 + 1 + 1 + 1 + 1 = w.heap.size + 5 := rfl
  have B2 := B1.grown E2.grown B1.size (fun k hk => Nat.le_of_not_lt (fun hlt => hne2 k (by omega) hk))
  have C2 := C1.ext E2 (hne2 _ (by omega))
  have CA2 := CA1.ext E2 (hne2 _ (by omega))
  have CB2 := CB1.ext E2 (hne2 _ (by omega))
  have CR2 := CR1.ext E2 (hne2 _ (by omega))
  have CO2 := CO1.ext E2 (hne2 _ (by omega))
  have hz2 : w.heap.size + 6 ≤ w2.heap.size := by have := E2.grown.size; omega
  obtain ⟨x2, y2, hv2⟩ : ∃ g cp, v2 = .slice (some ⟨g, 0, none⟩) 1 cp := by obtain ⟨g, cp, e, _⟩ := O2; exact ⟨g, cp, e⟩
  subst hv2
  clear OX E2
  have OX := O2
  clear O2 C1 CA1 CB1 CR1 CO1 hne2
  have k0 := (C2 0 _ rfl).1
  have a2 := (CA2 2 _ rfl).1
  have a3 := (CA2 3 _ rfl).1
  have a4 := (CA2 4 _ rfl).1
  have a5 := (CA2 5 _ rfl).1
  have b2 := (CB2 2 _ rfl).1
  have b3 := (CB2 3 _ rfl).1
  have b4 := (CB2 4 _ rfl).1
  have b5 := (CB2 5 _ rfl).1
  go_wp2_with (at_builtin; skip; refine appendV_law Tryd.elemVals rfl _ _ rfl (w.heap.size + 1 + 1 + 1 + 1 + 1) _ (.slice (some ⟨x2, 0, none⟩) 1 y2) 1 _ ⟨Bt, Bv, Bs⟩ rfl OX rfl (by unfold maxLen; omega) (by omega) ?_)
  intro v3 w3 O3 E3
  have hne3 : ∀ x, x < w.heap.size + 1 + 1 + 1 + 1 + 1 → ((.slice (some ⟨x2, 0, none⟩) 1 y2) : Value).ownBlock ≠ some x := fun x hx => OwnN.not_low (.inr OX) hx
  have hgz3 : w.heap.size + 1 + 1 + 1 + 1 + 1 = w.heap.size + 5 := rfl
  have B3 := B2.grown E3.grown B2.size (fun k hk => Nat.le_of_not_lt (fun hlt => hne3 k (by omega) hk))
  have C3 := C2.ext E3 (hne3 _ (by omega))
  have CA3 := CA2.ext E3 (hne3 _ (by omega))
  have CB3 := CB2.ext E3 (hne3 _ (by omega))
  have CR3 := CR2.ext E3 (hne3 _ (by omega))
  have CO3 := CO2.ext E3 (hne3 _ (by omega))
  have hz3 : w.heap.size + 6 ≤ w3.heap.size := by have := E3.grown.size; omega
  obtain ⟨x3, y3, hv3⟩ : ∃ g cp, v3 = .slice (some ⟨g, 0, none⟩) 2 cp := by obtain ⟨g, cp, e, _⟩ := O3; exact ⟨g, cp, e⟩
  subst hv3
  clear OX E3
  have OX := O3
  clear O3 C2 CA2 CB2 CR2 CO2 hne3
  clear k0 a2 a3 a4 a5 b2 b3 b4 b5
  have k0 := (C3 0 _ rfl).1
  have a2 := (CA3 2 _ rfl).1
  have b2 := (CB3 2 _ rfl).1
  obtain ⟨o2, f2⟩ := CO3 2 _ rfl
  go_wp2_with fail
  clear k0 a2 b2 o2 f2
  have XO : Blk (w3.setCell ⟨w.heap.size + 1 + 1 + 1 + 1, 2, none⟩ (.bool true)) (w.heap.size + 1 + 1 + 1 + 1) [.slice none 0 0, .int .i64 0, .bool true, .int .i64 0, .int .i64 0, .string ⟨#[]⟩] := CO3.set 2 _
  have XR : Blk (w3.setCell ⟨w.heap.size + 1 + 1 + 1 + 1, 2, none⟩ (.bool true)) (w.heap.size + 1 + 1 + 1) [.slice none 0 0, .int .i64 0, .bool false, .int .i64 0, .int .i64 0, .string ⟨#[]⟩] := CR3.other (p := ⟨w.heap.size + 1 + 1 + 1 + 1, 2, none⟩) (by show w.heap.size + 1 + 1 + 1 + 1 ≠ w.heap.size + 1 + 1 + 1; omega) _
  have XC : Blk (w3.setCell ⟨w.heap.size + 1 + 1 + 1 + 1, 2, none⟩ (.bool true)) (w.heap.size) [.int .i64 5, .int .i64 t.kind, .int .i64 t.col, .int .i64 t.op, .int .i64 t.v.ty, .int .i64 t.v.n, .string t.v.s, .slice ua un uc, .int .i64 qc, .slice oa on oc] := C3.other (p := ⟨w.heap.size + 1 + 1 + 1 + 1, 2, none⟩) (by show w.heap.size + 1 + 1 + 1 + 1 ≠ w.heap.size; omega) _
  have XB : Below w.heap.size w (w3.setCell ⟨w.heap.size + 1 + 1 + 1 + 1, 2, none⟩ (.bool true)) := B3.setCell (by simp; omega) _
  have XX : Own 29 3 (w.heap.size + 1 + 1 + 1 + 1 + 1) (w3.setCell ⟨w.heap.size + 1 + 1 + 1 + 1, 2, none⟩ (.bool true)).heap.size (w3.setCell ⟨w.heap.size + 1 + 1 + 1 + 1, 2, none⟩ (.bool true)) (.slice (some ⟨x3, 0, none⟩) 2 y3) 2 _ := (OX.setBelow (a := ⟨w.heap.size + 1 + 1 + 1 + 1, 2, none⟩) (by show w.heap.size + 1 + 1 + 1 + 1 < w.heap.size + 1 + 1 + 1 + 1 + 1; omega) (.bool true)).wide (by simp [World.setCell])
  have hzs : w.heap.size + 6 ≤ (w3.setCell ⟨w.heap.size + 1 + 1 + 1 + 1, 2, none⟩ (.bool true)).heap.size := by simp [World.setCell]; omega
  have hg5 : w.heap.size + 1 + 1 + 1 + 1 + 1 = w.heap.size + 5 := rfl
  refine (HZ.out _ _ (by have h := OwnN.rd (.inr XX); simpa [vals, V.cs] using h)).mono ?_
  rintro e w5 ⟨rfl, b5⟩
  have B5 := below_then XB b5 XB.size
  have D0 := XC.below b5
  have DO := XO.below b5
  have DR := XR.below b5
  have DX := (XX.below b5 (Nat.le_refl _)).wide b5.size
  have hz5 := b5.size
  have k0 := (D0 0 _ rfl).1
  clear b5 XO XR XC XB XX
  obtain ⟨o3, f3⟩ := DO 3 _ rfl
  obtain ⟨o4, f4⟩ := DO 4 _ rfl
  obtain ⟨o5, f5⟩ := DO 5 _ rfl
  go_wp2_with fail
  clear k0 o3 f3 o4 f4 o5 f5
  have XO : Blk (((w5.setCell ⟨w.heap.size + 1 + 1 + 1 + 1, 3, none⟩ (.int .i64 zt)).setCell ⟨w.heap.size + 1 + 1 + 1 + 1, 4, none⟩ (.int .i64 zn)).setCell ⟨w.heap.size + 1 + 1 + 1 + 1, 5, none⟩ (.string zs)) (w.heap.size + 1 + 1 + 1 + 1) [.slice none 0 0, .int .i64 0, .bool true, .int .i64 zt, .int .i64 zn, .string zs] := ((DO.set 3 _).set 4 _).set 5 _
  have XR : Blk (((w5.setCell ⟨w.heap.size + 1 + 1 + 1 + 1, 3, none⟩ (.int .i64 zt)).setCell ⟨w.heap.size + 1 + 1 + 1 + 1, 4, none⟩ (.int .i64 zn)).setCell ⟨w.heap.size + 1 + 1 + 1 + 1, 5, none⟩ (.string zs)) (w.heap.size + 1 + 1 + 1) [.slice none 0 0, .int .i64 0, .bool false, .int .i64 0, .int .i64 0, .string ⟨#[]⟩] := (((DR.other (p := ⟨w.heap.size + 1 + 1 + 1 + 1, 3, none⟩) (by show w.heap.size + 1 + 1 + 1 + 1 ≠ w.heap.size + 1 + 1 + 1; omega) _).other (p := ⟨w.heap.size + 1 + 1 + 1 + 1, 4, none⟩) (by show w.heap.size + 1 + 1 + 1 + 1 ≠ w.heap.size + 1 + 1 + 1; omega) _).other (p := ⟨w.heap.size + 1 + 1 + 1 + 1, 5, none⟩) (by show w.heap.size + 1 + 1 + 1 + 1 ≠ w.heap.size + 1 + 1 + 1; omega) _)
  have XB : Below w.heap.size w (((w5.setCell ⟨w.heap.size + 1 + 1 + 1 + 1, 3, none⟩ (.int .i64 zt)).setCell ⟨w.heap.size + 1 + 1 + 1 + 1, 4, none⟩ (.int .i64 zn)).setCell ⟨w.heap.size + 1 + 1 + 1 + 1, 5, none⟩ (.string zs)) := (((B5.setCell (by simp; omega) _).setCell (by simp; omega) _).setCell (by simp; omega) _)
  have XX : Own 29 3 (w.heap.size + 1 + 1 + 1 + 1 + 1) _ (((w5.setCell ⟨w.heap.size + 1 + 1 + 1 + 1, 3, none⟩ (.int .i64 zt)).setCell ⟨w.heap.size + 1 + 1 + 1 + 1, 4, none⟩ (.int .i64 zn)).setCell ⟨w.heap.size + 1 + 1 + 1 + 1, 5, none⟩ (.string zs)) (.slice (some ⟨x3, 0, none⟩) 2 y3) 2 _ := ((DX.setBelow (a := ⟨w.heap.size + 1 + 1 + 1 + 1, 3, none⟩) (by show w.heap.size + 1 + 1 + 1 + 1 < w.heap.size + 1 + 1 + 1 + 1 + 1; omega) (.int .i64 zt)).setBelow (a := ⟨w.heap.size + 1 + 1 + 1 + 1, 4, none⟩) (by show w.heap.size + 1 + 1 + 1 + 1 < w.heap.size + 1 + 1 + 1 + 1 + 1; omega) (.int .i64 zn)).setBelow (a := ⟨w.heap.size + 1 + 1 + 1 + 1, 5, none⟩) (by show w.heap.size + 1 + 1 + 1 + 1 < w.heap.size + 1 + 1 + 1 + 1 + 1; omega) (.string zs)
  refine (HZ.out _ _ (by have h := OwnN.rd (.inr XX); simpa [vals, V.cs] using h)).mono ?_
  rintro e w6 ⟨rfl, b6⟩
  have B6 := below_then XB b6 XB.size
  have EO := XO.below b6
  have ER := XR.below b6
  clear b6 XO XR XB XX D0 DO DR DX
  obtain ⟨o0, f0⟩ := EO 0 _ rfl
  obtain ⟨r0, h0⟩ := ER 0 _ rfl
  obtain ⟨o1, f1⟩ := EO 1 _ rfl
  obtain ⟨r1, h1⟩ := ER 1 _ rfl
  obtain ⟨o2, f2⟩ := EO 2 _ rfl
  obtain ⟨r2, h2⟩ := ER 2 _ rfl
  obtain ⟨o3, f3⟩ := EO 3 _ rfl
  obtain ⟨r3, h3⟩ := ER 3 _ rfl
  obtain ⟨o4, f4⟩ := EO 4 _ rfl
  obtain ⟨r4, h4⟩ := ER 4 _ rfl
  obtain ⟨o5, f5⟩ := EO 5 _ rfl
  obtain ⟨r5, h5⟩ := ER 5 _ rfl
  clear EO ER
  go_wp2
  exact bodyPost_ret (v := .agg #[.slice none 0 0, .int .i64 0, .bool true, .int .i64 yt, .int .i64 yn, .string ys]) (by simp [results, Tryd.results19, go_sem, *]) rfl ⟨by rw [HJ.out]; rfl, (((((((((B6.setCell (by simp; omega) _).setCell (by simp; omega) _).setCell (by simp; omega) _).setCell (by simp; omega) _).setCell (by simp; omega) _).setCell (by simp; omega) _).setCell (by simp; omega) _).setCell (by simp; omega) _).setCell (by simp; omega) _)⟩

end Go.Proofs.YtkofafefnlommaaDoor
