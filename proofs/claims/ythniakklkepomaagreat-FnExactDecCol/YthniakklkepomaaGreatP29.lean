/- Texts of this claim, one behind the other: I9, I9b, I7h, I9d, Law9b, I9k, Law9c. -/
import Derived.Test.YthniakklkepomaaGreatP22
import Derived.Test.YthniakklkepomaaGreatP18
import Derived.Test.YthniakklkepomaaGreatP21
import Derived.Test.YthniakklkepomaaGreatP28
import Derived.Test.YthniakklkepomaaGreatP26
import Derived.Test.YthniakklkepomaaGreatP15
import Derived.Test.YthniakklkepomaaGreatP19
import Derived.Test.YthniakklkepomaaGreatP14
import Derived.Test.YthniakklkepomaaGreatP4
import Derived.Test.YthniakklkepomaaGreatP8

/- The program's contracts of chapter 9 but DecCol's (written by mk_I9.py). -/
namespace Go.Proofs.YthniakklkepomaaGreat
open Go.RowKit

theorem kindIs (k : Int) (w : World) : Calls Tryz.prog 40 #[.int .i64 k] w fun e w' => e = .returned (.bool (Num.inB k 0 3)) ∧ w = w' := by
  by_cases h0 : 0 ≤ k
  · by_cases h3 : k < 4
    · have e : Num.inB k 0 3 = true := Num.inB_true.2 ⟨h0, by omega⟩
      rw [e]
      go_enter Tryz.func40, Tryz.ntmps40
      go_wp2
      go_ret
      exact ⟨rfl, rfl⟩
    · have e : Num.inB k 0 3 = false := Num.inB_false.2 (by omega)
      rw [e]
      go_enter Tryz.func40, Tryz.ntmps40
      go_wp2
      go_ret
      exact ⟨rfl, rfl⟩
  · have e : Num.inB k 0 3 = false := Num.inB_false.2 (by omega)
    rw [e]
    go_enter Tryz.func40, Tryz.ntmps40
    go_wp2
    go_ret
    exact ⟨rfl, rfl⟩

/-- Four cells of a block that may be written. -/
def Quad (W : World) (b : Nat) (x y z u : Value) : Prop :=
  (W.cell? ⟨b, 0, none⟩ = some x ∧ W.cell? ⟨b, 1, none⟩ = some y ∧ W.cell? ⟨b, 2, none⟩ = some z ∧ W.cell? ⟨b, 3, none⟩ = some u) ∧
  W.frozen? ⟨b, 0, none⟩ = false ∧ W.frozen? ⟨b, 1, none⟩ = false ∧ W.frozen? ⟨b, 2, none⟩ = false ∧ W.frozen? ⟨b, 3, none⟩ = false
theorem quad_new (w : World) (x y z u : Value) (e : TypeId) : Quad (w.alloc (.cells #[x, y, z, u] e)) w.heap.size x y z u := ⟨⟨by simp, by simp, by simp, by simp⟩, by simp, by simp, by simp, by simp⟩
/-- A declared function as a value. -/
def fnV (f : FuncId) : Value := .func (.func f) #[] #[]

theorem encs (w : World) : Calls Tryz.prog 41 #[] w fun e w' => e = .returned (.agg #[.func (.func 27) #[] #[], .func (.func 64) #[] #[], .func (.func 65) #[] #[], .func (.func 66) #[] #[]]) ∧ Below w.heap.size w w' := by
  obtain ⟨⟨c0, c1, c2, c3⟩, f0, f1, f2, f3⟩ := quad_new w .nilFunc .nilFunc .nilFunc .nilFunc 51
  have hst : ∀ fn f c a W, Sem.run Tryz.prog (store a (.func fn f c)) W = stored Tryz.prog W a (.func fn f c) .plain := fun _ _ _ _ _ => run_store _ _ _ _ _ rfl
  go_enter Tryz.func41, Tryz.ntmps41
  go_wp2
  clear c0 c1 c2 c3 f0 f1 f2 f3
  obtain ⟨⟨c0, c1, c2, c3⟩, _⟩ := quad_new w (.func (.func 27) #[] #[]) (.func (.func 64) #[] #[]) (.func (.func 65) #[] #[]) (.func (.func 66) #[] #[]) 51
  exact bodyPost_ret (v := .agg #[.func (.func 27) #[] #[], .func (.func 64) #[] #[], .func (.func 65) #[] #[], .func (.func 66) #[] #[]]) (by simp [results, Tryz.results41, go_sem, *]) rfl ⟨rfl, below_alloc w _⟩
theorem encAt0 (W : World) : (Instr.index 51 (.agg #[.func (.func 27) #[] #[], .func (.func 64) #[] #[], .func (.func 65) #[] #[], .func (.func 66) #[] #[]]) (.int .i64 0)).run Tryz.prog W = .ok (.func (.func 27) #[] #[]) W := by kernel_rfl
theorem encAt1 (W : World) : (Instr.index 51 (.agg #[.func (.func 27) #[] #[], .func (.func 64) #[] #[], .func (.func 65) #[] #[], .func (.func 66) #[] #[]]) (.int .i64 1)).run Tryz.prog W = .ok (.func (.func 64) #[] #[]) W := by kernel_rfl
theorem encAt2 (W : World) : (Instr.index 51 (.agg #[.func (.func 27) #[] #[], .func (.func 64) #[] #[], .func (.func 65) #[] #[], .func (.func 66) #[] #[]]) (.int .i64 2)).run Tryz.prog W = .ok (.func (.func 65) #[] #[]) W := by kernel_rfl
theorem encAt3 (W : World) : (Instr.index 51 (.agg #[.func (.func 27) #[] #[], .func (.func 64) #[] #[], .func (.func 65) #[] #[], .func (.func 66) #[] #[]]) (.int .i64 3)).run Tryz.prog W = .ok (.func (.func 66) #[] #[]) W := by kernel_rfl

set_option maxHeartbeats 1000000 in
theorem iEncBy : CEncBy := by
  intro u k l w hn hss h
  have H0 : Hid (∀ W, Below w.heap.size w W → Calls Tryz.prog 27 #[u] W fun e w' => ∃ v', e = .returned v' ∧ Own 5 1 W.heap.size w'.heap.size w' v' (encB 0 l).length (ints .u8 (encB 0 l)) ∧ Below W.heap.size W w') := fun W hW => iEncPlain u l W hn hss (h.below hW)
  have H1 : Hid (∀ W, Below w.heap.size w W → Calls Tryz.prog 64 #[u] W fun e w' => ∃ v', e = .returned v' ∧ Own 5 1 W.heap.size w'.heap.size w' v' (encB 1 l).length (ints .u8 (encB 1 l)) ∧ Below W.heap.size W w') := fun W hW => iEncRuns u l W hn hss (h.below hW)
  have H2 : Hid (∀ W, Below w.heap.size w W → Calls Tryz.prog 65 #[u] W fun e w' => ∃ v', e = .returned v' ∧ Own 5 1 W.heap.size w'.heap.size w' v' (encB 2 l).length (ints .u8 (encB 2 l)) ∧ Below W.heap.size W w') := fun W hW => iEncDict u l W hn hss (h.below hW)
  have H3 : Hid (∀ W, Below w.heap.size w W → Calls Tryz.prog 66 #[u] W fun e w' => ∃ v', e = .returned v' ∧ Own 5 1 W.heap.size w'.heap.size w' v' (encB 3 l).length (ints .u8 (encB 3 l)) ∧ Below W.heap.size W w') := fun W hW => iEncFrame u l W hn hss (h.below hW)
  have HI := Lib.hid (fun W => kindIs k W)
  have HE := Lib.hid (fun W => encs W)
  cases hk : Num.inB k 0 3 with
  | false =>
    rw [hk] at HI
    rw [encB_no (Num.inB_false.1 hk)]
    have O1 := own_lit (e := 5) (size := 1) w #[] 0 (Nat.zero_le _) rfl
    have B1 := below_alloc w (.cells #[] 5)
    clear h hn hss hk
    go_enter Tryz.func14, Tryz.ntmps14
    go_wp2_with (go_at_call 40; refine (HI.out _).mono ?_; clear HI; rintro e w' ⟨rfl, rfl⟩)
    go_ret
    exact ⟨_, rfl, O1, B1⟩
  | true =>
    have hb := Num.inB_true.1 hk
    rw [hk] at HI
    have h4 : k = 0 ∨ k = 1 ∨ k = 2 ∨ k = 3 := by omega
    clear h hn hss hk hb
    rcases h4 with rfl | rfl | rfl | rfl
    · have hix := encAt0
      go_enter Tryz.func14, Tryz.ntmps14
      go_wp2_with fail
      refine (HI.out _).mono ?_
      rintro e w' ⟨rfl, rfl⟩
      clear HI
      go_wp2_with fail
      refine (HE.out _).mono ?_
      rintro e w1 ⟨rfl, b1⟩
      clear HE
      go_wp2_with fail
      refine (H0.out _ b1).mono ?_
      rintro e w2 ⟨v2, rfl, o2, b2⟩
      have B2 := below_then b1 b2 b1.size
      have z1 := b1.size
      go_wp2
      go_ret
      exact ⟨_, rfl, o2.lower z1, B2⟩
    · have hix := encAt1
      go_enter Tryz.func14, Tryz.ntmps14
      go_wp2_with fail
      refine (HI.out _).mono ?_
      rintro e w' ⟨rfl, rfl⟩
      clear HI
      go_wp2_with fail
      refine (HE.out _).mono ?_
      rintro e w1 ⟨rfl, b1⟩
      clear HE
      go_wp2_with fail
      refine (H1.out _ b1).mono ?_
      rintro e w2 ⟨v2, rfl, o2, b2⟩
      have B2 := below_then b1 b2 b1.size
      have z1 := b1.size
      go_wp2
      go_ret
      exact ⟨_, rfl, o2.lower z1, B2⟩
    · have hix := encAt2
      go_enter Tryz.func14, Tryz.ntmps14
      go_wp2_with fail
      refine (HI.out _).mono ?_
      rintro e w' ⟨rfl, rfl⟩
      clear HI
      go_wp2_with fail
      refine (HE.out _).mono ?_
      rintro e w1 ⟨rfl, b1⟩
      clear HE
      go_wp2_with fail
      refine (H2.out _ b1).mono ?_
      rintro e w2 ⟨v2, rfl, o2, b2⟩
      have B2 := below_then b1 b2 b1.size
      have z1 := b1.size
      go_wp2
      go_ret
      exact ⟨_, rfl, o2.lower z1, B2⟩
    · have hix := encAt3
      go_enter Tryz.func14, Tryz.ntmps14
      go_wp2_with fail
      refine (HI.out _).mono ?_
      rintro e w' ⟨rfl, rfl⟩
      clear HI
      go_wp2_with fail
      refine (HE.out _).mono ?_
      rintro e w1 ⟨rfl, b1⟩
      clear HE
      go_wp2_with fail
      refine (H3.out _ b1).mono ?_
      rintro e w2 ⟨v2, rfl, o2, b2⟩
      have B2 := below_then b1 b2 b1.size
      have z1 := b1.size
      go_wp2
      go_ret
      exact ⟨_, rfl, o2.lower z1, B2⟩

end Go.Proofs.YthniakklkepomaaGreat

/- The program's contracts of chapter 9: shortest, BestKind, EncCol, Saved, KindText (written by mk_I9.py). -/
namespace Go.Proofs.YthniakklkepomaaGreat
open Go.RowKit

/-- The best of the first k kinds, -1 for none. -/
def bestN (l : List V) : Nat → Int
  | 0 => -1
  | k + 1 => bestK l k
theorem bestN_zero (l : List V) : bestN l 0 = -1 := rfl
theorem bestN_nn (l : List V) (k : Nat) : 0 ≤ bestN l (k + 1) ∧ bestN l (k + 1) ≤ k := by
  have := bestK_le l k
  have e : bestN l (k + 1) = (bestK l k : Int) := rfl
  omega
theorem bestN_le (l : List V) : ∀ k, -1 ≤ bestN l k ∧ bestN l k ≤ k
  | 0 => by rw [bestN_zero]; omega
  | k + 1 => by have := bestN_nn l k; omega

set_option maxRecDepth 100000 in
set_option maxHeartbeats 4000000 in
theorem shortest (u : Value) (l : List V) (w : World) (hn : l.length ≤ 1048576) (hss : ∀ v ∈ l, v.s.size ≤ maxLen) (h : Rd 3 w u l.length (vals l)) :
    Calls Tryz.prog 36 #[u] w fun e w' => ∃ v', e = .returned (.tuple #[.int .i64 (bestL l), v']) ∧ Own 5 1 w.heap.size w'.heap.size w' v' (encB (bestL l) l).length (ints .u8 (encB (bestL l) l)) ∧ Below w.heap.size w w' := by
  have H0 : Hid (∀ W, Below w.heap.size w W → Calls Tryz.prog 27 #[u] W fun e w' => ∃ v', e = .returned v' ∧ Own 5 1 W.heap.size w'.heap.size w' v' (encB 0 l).length (ints .u8 (encB 0 l)) ∧ Below W.heap.size W w') := fun W hW => iEncPlain u l W hn hss (h.below hW)
  have H1 : Hid (∀ W, Below w.heap.size w W → Calls Tryz.prog 64 #[u] W fun e w' => ∃ v', e = .returned v' ∧ Own 5 1 W.heap.size w'.heap.size w' v' (encB 1 l).length (ints .u8 (encB 1 l)) ∧ Below W.heap.size W w') := fun W hW => iEncRuns u l W hn hss (h.below hW)
  have H2 : Hid (∀ W, Below w.heap.size w W → Calls Tryz.prog 65 #[u] W fun e w' => ∃ v', e = .returned v' ∧ Own 5 1 W.heap.size w'.heap.size w' v' (encB 2 l).length (ints .u8 (encB 2 l)) ∧ Below W.heap.size W w') := fun W hW => iEncDict u l W hn hss (h.below hW)
  have H3 : Hid (∀ W, Below w.heap.size w W → Calls Tryz.prog 66 #[u] W fun e w' => ∃ v', e = .returned v' ∧ Own 5 1 W.heap.size w'.heap.size w' v' (encB 3 l).length (ints .u8 (encB 3 l)) ∧ Below W.heap.size W w') := fun W hW => iEncFrame u l W hn hss (h.below hW)
  have hown0 := own_lit (e := 5) (size := 1) w #[] 0 (Nat.zero_le _) rfl
  have hb0 := below_alloc w (.cells #[] 5)
  have HT := Lib.hid (iTypeOf u l _ hn hss (h.below hb0))
  have HE := Lib.hid (fun W => encs W)
  have HNO : Hid (typeV l = 0 → bestL l = -1) := bestL_no
  have HYES : Hid (¬ typeV l = 0 → bestL l = bestN l 4) := bestL_yes
  have HST : Hid (∀ k, bestN l (k + 2) = if (k + 1 ≠ 3 ∨ typeV l = 1) ∧ (encB ((k + 1 : Nat) : Int) l).length < (encB (bestN l (k + 1)) l).length then ((k + 1 : Nat) : Int) else bestN l (k + 1)) := fun k => by
    show ((bestK l (k + 1) : Nat) : Int) = _
    show _ = if (k + 1 ≠ 3 ∨ typeV l = 1) ∧ (encB ((k + 1 : Nat) : Int) l).length < (encB (bestK l k) l).length then ((k + 1 : Nat) : Int) else (bestK l k : Int)
    rw [bestK]
    split <;> rfl
  have hbl := bestL_in l
  have HNB : Hid (encB (-1) l = []) := encB_no (by omega) l
  generalize typeV l = ty at HT HNO HYES HST
  generalize bestL l = R at HNO HYES hbl ⊢
  clear h hss hn
  go_enter Tryz.func36, Tryz.ntmps36
  go_wp2_with fail
  refine HT.out.mono ?_
  rintro e w1 ⟨rfl, hb1⟩
  have b1 := below_then hb0 hb1 hb0.size
  have O1 := (hown0.below hb1 (by simp)).wide hb1.size
  clear HT hb1 hown0 hb0
  by_cases ht : ty = 0
  · subst ht
    obtain rfl := HNO.out rfl
    clear HNO HYES HST HE H0 H1 H2 H3
    have OO := Lib.hid O1
    clear O1
    go_wp2
    go_ret2
    exact ⟨_, rfl, by rw [HNB.out]; exact OO.out, b1⟩
  · have htb : (ty == 0) = false := by simpa using ht
    have HR := Lib.hid (HYES.out ht)
    clear ht HNO HYES
    go_wp2_with fail
    refine (HE.out _).mono ?_
    rintro e w2 ⟨rfl, hb2⟩
    have B2 := below_then b1 hb2 b1.size
    have O2 := (O1.below hb2 (Nat.le_refl _)).wide hb2.size
    clear hb2 b1 O1 HE
    go_wp2_with fail
    go_loopw [4, 5, 18] (fun b c i wr => ∃ k : Nat, k ≤ 4 ∧ i = .int .i64 k ∧ b = .int .i64 (bestN l k) ∧ Own 5 1 w.heap.size wr.heap.size wr c (encB (bestN l k) l).length (ints .u8 (encB (bestN l k) l)) ∧ Below w.heap.size w wr) (fun _ _ i _ => 4 - (intOf i).toNat)
    case atStart => exact ⟨0, by omega, rfl, rfl, by rw [bestN_zero, HNB.out]; exact O2, B2⟩
    case round =>
      obtain ⟨k, hk, rfl, rfl, hown, hbr⟩ := hrel
      have h5 : k = 0 ∨ k = 1 ∨ k = 2 ∨ k = 3 ∨ k = 4 := by omega
      clear hk O2 B2
      rcases h5 with rfl | rfl | rfl | rfl | rfl
      · have hix := encAt0
        have HF : Hid (bestN l 1 = 0) := rfl
        rw [bestN_zero] at *
        go_wp2_with fail
        refine (H0.out _ hbr).mono ?_
        rintro e w3 ⟨v3, rfl, o3, hb3⟩
        have B3 := below_then hbr hb3 hbr.size
        have hown3 := (hown.below hb3 (Nat.le_refl _)).wide hb3.size
        have own3 := o3.lower hbr.size
        obtain ⟨p3, c3, hv3⟩ := own_form o3
        subst hv3
        clear o3 hb3 hbr hown hix
        have OO := Lib.hid own3
        clear own3 hown3
        go_wp2
        go_roundw
        case rel => exact ⟨1, by omega, rfl, by rw [HF.out], by rw [HF.out]; exact OO.out, B3⟩
        case measure => simp [intOf]
      · have hix := encAt1
        have hbn : 0 ≤ bestN l 1 := (bestN_nn l 0).1
        have hbe : (bestN l 1 == -1) = false := by simp; omega
        have HPOS : Hid ((encB 1 l).length < (encB (bestN l 1) l).length → bestN l 2 = 1) := fun h => by
          rw [HST.out 0, if_pos ⟨(.inl (by omega)), h⟩]
          rfl
        have HNEG : Hid (¬ (encB 1 l).length < (encB (bestN l 1) l).length → bestN l 2 = bestN l 1) := fun h => by rw [HST.out 0, if_neg (fun q => h q.2)]
        have hx := encB_len (bestN l 1) l
        have hy := encB_len 1 l
        generalize bestN l 1 = bk at hown HPOS HNEG hbn hbe hx ⊢
        go_wp2_with fail
        refine (H1.out _ hbr).mono ?_
        rintro e w3 ⟨v3, rfl, o3, hb3⟩
        have B3 := below_then hbr hb3 hbr.size
        have hown3 := (hown.below hb3 (Nat.le_refl _)).wide hb3.size
        have own3 := o3.lower hbr.size
        obtain ⟨p3, c3, hv3⟩ := own_form o3
        subst hv3
        clear o3 hb3 hbr hown hix
        obtain ⟨p4, c4, hv4⟩ := own_form hown3
        subst hv4
        by_cases hlt : (encB 1 l).length < (encB bk l).length
        · have HF := Lib.hid (HPOS.out hlt)
          have OO := Lib.hid own3
          clear HPOS HNEG own3 hown3
          generalize hyn : (encB 1 l).length = yn at *
          generalize hxn : (encB bk l).length = xn at *
          have HYN := Lib.hid hyn
          have HXN := Lib.hid hxn
          clear hyn hxn
          go_wp2
          go_roundw
          case rel => exact ⟨2, by omega, rfl, by rw [HF.out], by rw [HF.out, HYN.out]; exact OO.out, B3⟩
          case measure => simp [intOf]
        · have HF := Lib.hid (HNEG.out hlt)
          have OO := Lib.hid hown3
          clear HPOS HNEG own3 hown3
          generalize hyn : (encB 1 l).length = yn at *
          generalize hxn : (encB bk l).length = xn at *
          have HYN := Lib.hid hyn
          have HXN := Lib.hid hxn
          clear hyn hxn
          go_wp2
          go_roundw
          case rel => exact ⟨2, by omega, rfl, by rw [HF.out], by rw [HF.out, HXN.out]; exact OO.out, B3⟩
          case measure => simp [intOf]
      · have hix := encAt2
        have hbn : 0 ≤ bestN l 2 := (bestN_nn l 1).1
        have hbe : (bestN l 2 == -1) = false := by simp; omega
        have HPOS : Hid ((encB 2 l).length < (encB (bestN l 2) l).length → bestN l 3 = 2) := fun h => by
          rw [HST.out 1, if_pos ⟨(.inl (by omega)), h⟩]
          rfl
        have HNEG : Hid (¬ (encB 2 l).length < (encB (bestN l 2) l).length → bestN l 3 = bestN l 2) := fun h => by rw [HST.out 1, if_neg (fun q => h q.2)]
        have hx := encB_len (bestN l 2) l
        have hy := encB_len 2 l
        generalize bestN l 2 = bk at hown HPOS HNEG hbn hbe hx ⊢
        go_wp2_with fail
        refine (H2.out _ hbr).mono ?_
        rintro e w3 ⟨v3, rfl, o3, hb3⟩
        have B3 := below_then hbr hb3 hbr.size
        have hown3 := (hown.below hb3 (Nat.le_refl _)).wide hb3.size
        have own3 := o3.lower hbr.size
        obtain ⟨p3, c3, hv3⟩ := own_form o3
        subst hv3
        clear o3 hb3 hbr hown hix
        obtain ⟨p4, c4, hv4⟩ := own_form hown3
        subst hv4
        by_cases hlt : (encB 2 l).length < (encB bk l).length
        · have HF := Lib.hid (HPOS.out hlt)
          have OO := Lib.hid own3
          clear HPOS HNEG own3 hown3
          generalize hyn : (encB 2 l).length = yn at *
          generalize hxn : (encB bk l).length = xn at *
          have HYN := Lib.hid hyn
          have HXN := Lib.hid hxn
          clear hyn hxn
          go_wp2
          go_roundw
          case rel => exact ⟨3, by omega, rfl, by rw [HF.out], by rw [HF.out, HYN.out]; exact OO.out, B3⟩
          case measure => simp [intOf]
        · have HF := Lib.hid (HNEG.out hlt)
          have OO := Lib.hid hown3
          clear HPOS HNEG own3 hown3
          generalize hyn : (encB 2 l).length = yn at *
          generalize hxn : (encB bk l).length = xn at *
          have HYN := Lib.hid hyn
          have HXN := Lib.hid hxn
          clear hyn hxn
          go_wp2
          go_roundw
          case rel => exact ⟨3, by omega, rfl, by rw [HF.out], by rw [HF.out, HXN.out]; exact OO.out, B3⟩
          case measure => simp [intOf]
      · have hix := encAt3
        by_cases h1 : ty = 1
        · subst h1
          have hbn : 0 ≤ bestN l 3 := (bestN_nn l 2).1
          have hbe : (bestN l 3 == -1) = false := by simp; omega
          have HPOS : Hid ((encB 3 l).length < (encB (bestN l 3) l).length → bestN l 4 = 3) := fun h => by
            rw [HST.out 2, if_pos ⟨(.inr rfl), h⟩]
            rfl
          have HNEG : Hid (¬ (encB 3 l).length < (encB (bestN l 3) l).length → bestN l 4 = bestN l 3) := fun h => by rw [HST.out 2, if_neg (fun q => h q.2)]
          have hx := encB_len (bestN l 3) l
          have hy := encB_len 3 l
          generalize bestN l 3 = bk at hown HPOS HNEG hbn hbe hx ⊢
          go_wp2_with fail
          refine (H3.out _ hbr).mono ?_
          rintro e w3 ⟨v3, rfl, o3, hb3⟩
          have B3 := below_then hbr hb3 hbr.size
          have hown3 := (hown.below hb3 (Nat.le_refl _)).wide hb3.size
          have own3 := o3.lower hbr.size
          obtain ⟨p3, c3, hv3⟩ := own_form o3
          subst hv3
          clear o3 hb3 hbr hown hix
          obtain ⟨p4, c4, hv4⟩ := own_form hown3
          subst hv4
          by_cases hlt : (encB 3 l).length < (encB bk l).length
          · have HF := Lib.hid (HPOS.out hlt)
            have OO := Lib.hid own3
            clear HPOS HNEG own3 hown3
            generalize hyn : (encB 3 l).length = yn at *
            generalize hxn : (encB bk l).length = xn at *
            have HYN := Lib.hid hyn
            have HXN := Lib.hid hxn
            clear hyn hxn
            go_wp2
            go_roundw
            case rel => exact ⟨4, by omega, rfl, by rw [HF.out], by rw [HF.out, HYN.out]; exact OO.out, B3⟩
            case measure => simp [intOf]
          · have HF := Lib.hid (HNEG.out hlt)
            have OO := Lib.hid hown3
            clear HPOS HNEG own3 hown3
            generalize hyn : (encB 3 l).length = yn at *
            generalize hxn : (encB bk l).length = xn at *
            have HYN := Lib.hid hyn
            have HXN := Lib.hid hxn
            clear hyn hxn
            go_wp2
            go_roundw
            case rel => exact ⟨4, by omega, rfl, by rw [HF.out], by rw [HF.out, HXN.out]; exact OO.out, B3⟩
            case measure => simp [intOf]
        · have h1b : (ty != 1) = true := by simpa using h1
          have HF : Hid (bestN l 4 = bestN l 3) := by
            show _ = _
            rw [HST.out 2, if_neg (fun h => h.1.elim (fun a => a rfl) h1)]
          have OO := Lib.hid hown
          have B3 := hbr
          generalize bestN l 3 = bk at HF OO ⊢
          clear h1 hown hbr
          go_wp2
          go_roundw
          case rel => exact ⟨4, by omega, rfl, by rw [HF.out], by rw [HF.out]; exact OO.out, B3⟩
          case measure => simp [intOf]
      · rw [← HR.out] at hown ⊢
        have OO := Lib.hid hown
        clear hown
        go_wp2
        go_ret2
        exact ⟨_, rfl, OO.out, hbr⟩

theorem iBestKind : CBestKind := by
  intro u l w hn hss h
  have HS := Lib.hid (shortest u l w hn hss h)
  generalize bestL l = R at HS ⊢
  clear h hss hn
  go_enter Tryz.func12, Tryz.ntmps12
  go_wp2_with fail
  refine HS.out.mono ?_
  rintro e w1 ⟨v1, rfl, o1, b1⟩
  clear o1
  go_wp2
  go_ret
  exact ⟨rfl, b1⟩

set_option maxHeartbeats 1000000 in
theorem iEncCol : CEncCol := by
  intro u l w hn hss h
  have HB := Lib.hid (shortest u l w hn hss h)
  have HNO : Hid (typeV l = 0 → bestL l = -1 ∧ encC l = []) := fun h => ⟨bestL_no h, encC_no h⟩
  have HYES : Hid (¬ typeV l = 0 → 0 ≤ bestL l ∧ bestL l ≤ 3 ∧ encC l = bestL l :: encB (bestL l) l) := fun h => ⟨by rw [bestL_yes h]; omega, (bestL_in l).2, encC_yes h⟩
  have HEL := encB_len (bestL l) l
  generalize typeV l = ty at HNO HYES
  generalize encC l = R at HNO HYES ⊢
  generalize bestL l = k at HB HNO HYES HEL
  clear h hss hn
  by_cases ht : ty = 0
  · obtain ⟨rfl, rfl⟩ := HNO.out ht
    clear HNO HYES HEL ht
    go_enter Tryz.func8, Tryz.ntmps8
    go_wp2_with fail
    refine HB.out.mono ?_
    rintro e w1 ⟨v1, rfl, o1, b1⟩
    have O1 := own_lit (e := 5) (size := 1) w1 #[] 0 (Nat.zero_le _) rfl
    have B1 := b1.alloc b1.size (.cells #[] 5)
    have z1 := b1.size
    clear o1
    go_wp2
    go_ret
    exact ⟨_, rfl, O1.lower z1, B1⟩
  · obtain ⟨k0, k3, hR⟩ := HYES.out ht
    have HES : Hid (Value.int .u8 k :: ints .u8 (encB k l) = ints .u8 R ∧ 1 + (encB k l).length = R.length) := ⟨by rw [hR]; rfl, by rw [hR, List.length_cons]; omega⟩
    clear HNO HYES ht hR
    generalize encB k l = X at HES HB HEL
    generalize X.length = xn at HES HB HEL
    have hkb : IntKind.u8.wrap k = k := IntWalk.u8_in _ (by omega)
    have hke : (k == -1) = false := by simp; omega
    go_enter Tryz.func8, Tryz.ntmps8
    go_wp2_with fail
    refine HB.out.mono ?_
    rintro e w1 ⟨v1, rfl, o1, b1⟩
    have own2 := own_lit (e := 5) (size := 1) w1 #[.int .u8 k] 1 (by unfold maxLen; omega) rfl
    have B2 := b1.alloc b1.size (.cells #[.int .u8 k] 5)
    have z1 : Hid (w.heap.size ≤ w1.heap.size) := b1.size
    obtain ⟨g6, off6, cp6, rfl, hn6, hc6, hl6, hcs6⟩ := (o1.below (below_alloc w1 (.cells #[.int .u8 k] 5)) (Nat.le_refl _)).at
    have HL6 := Lib.hid hl6
    have HC6 := Lib.hid hcs6
    clear hl6 hcs6 o1 HB b1
    go_wp2_with (at_builtin; refine append_law Tryz.elemBytes rfl _ _ rfl _ _ _ _ _ rfl own2 g6 off6 xn cp6 (ints .u8 X) rfl HL6.out HC6.out (ints_one _ _) (by unfold maxLen; omega) (by omega) ?_)
    intro v7 w7 o7 e7
    have b7 := B2.trans ((e7.below own2).mono z1.out)
    have O7 : Hid (Own 5 1 w.heap.size w7.heap.size w7 v7 R.length (ints .u8 R)) := by
      have := o7.lower z1.out
      rw [← HES.out.1, ← HES.out.2]
      exact this
    clear o7 e7 own2
    go_wp2
    go_ret
    exact ⟨_, rfl, O7.out, b7⟩

set_option maxHeartbeats 1000000 in
theorem iSaved : CSaved := by
  intro u l w hn hss h
  have HP := Lib.hid (iEncPlain u l w hn hss h)
  have HC := Lib.hid (fun W (hW : Below w.heap.size w W) => iEncCol u l W hn hss (h.below hW))
  have HS : Hid (savedL l = ((encP l).length : Int) - ((encC l).length : Int)) := rfl
  have h1 := encB_len 0 l
  rw [encB0] at h1
  have h2 := encC_len l
  generalize savedL l = R at HS ⊢
  generalize encP l = p at HP HS h1
  generalize encC l = c at HC HS h2
  generalize p.length = pn at HP HS h1
  generalize c.length = cn at HC HS h2
  clear h hss hn
  go_enter Tryz.func16, Tryz.ntmps16
  go_wp2_with fail
  refine HP.out.mono ?_
  rintro e w1 ⟨v1, rfl, o1, b1⟩
  obtain ⟨p1, c1, hv1⟩ := own_form o1
  subst hv1
  clear o1 HP
  go_wp2_with fail
  refine (HC.out _ b1).mono ?_
  rintro e w2 ⟨v2, rfl, o2, hb2⟩
  have B2 := below_then b1 hb2 b1.size
  obtain ⟨p2, c2, hv2⟩ := own_form o2
  subst hv2
  clear o2 HC hb2
  go_wp2
  go_ret
  exact ⟨ret_int HS.out.symm, B2⟩

end Go.Proofs.YthniakklkepomaaGreat

/- The contracts of impl's getDict and DecDict. -/
namespace Go.Proofs.YthniakklkepomaaGreat
open Go.RowKit

/-- getDict. -/
def getD7 (zs : List Int) (ty k : Int) : Option (List V × Int) :=
  if (Num.get zs 0).2.2 = true ∧ Num.inB (Num.get zs 0).1 1 k = true then decL zs ty (Num.get zs 0).1.toNat (Num.get zs 0).2.1 else none
def RGet (w w' : World) (e : Ending) (r : Option (List V × Int)) : Prop :=
  (r = none → e = .returned (.tuple #[.slice none 0 0, .int .i64 0, .bool false])) ∧ (∀ d i, r = some (d, i) → ∃ v', e = .returned (.tuple #[v', .int .i64 i, .bool true]) ∧ Own 54 3 w.heap.size w'.heap.size w' v' d.length (vals d)) ∧ Below w.heap.size w w'
theorem rget_none {w w' : World} (h : Below w.heap.size w w') : RGet w w' (.returned (.tuple #[.slice none 0 0, .int .i64 0, .bool false])) none := ⟨fun _ => rfl, fun _ _ h => (by cases h), h⟩
theorem decL_n {zs : List Int} {ty : Int} {k : Nat} {i : Int} {r : List V × Int} (h : decL zs ty k i = some r) : r.1.length = k := decL_len h
theorem decL_bound {zs : List Int} (hb : Num.Bytes zs) {ty : Int} : ∀ {n : Nat} {i : Int} {r : List V × Int}, decL zs ty n i = some r → 0 < n → 0 ≤ r.2 ∧ r.2 ≤ zs.length := by
  intro n
  induction n with
  | zero => intro i r _ h; omega
  | succ n ih =>
    intro i r h _
    rw [decL] at h
    split at h
    · rename_i hg
      obtain ⟨q, hq, rfl⟩ := Option.map_eq_some_iff.1 h
      cases n with
      | zero =>
        simp only [decL, Option.some.injEq] at hq
        subst hq
        exact getV_bound hb hg
      | succ n =>
        have := ih hq (by omega)
        exact this
    · cases h

set_option maxHeartbeats 4000000 in
theorem getDict (u : Value) (n : Nat) (zs : List Int) (ty k : Int) (w : World) (hk : k ≤ 64) (hn : n ≤ 1048576) (hz : zs.length = n) (hby : Num.Bytes zs) (h : At 1 w u n (ints .u8 zs)) :
    Calls Tryz.prog 116 #[u, .int .i64 ty, .int .i64 k] w fun e w' => RGet w w' e (getD7 zs ty k) := by
  have HN := Lib.hid (iGetNum u n zs 0 w (by omega) hz hby h)
  have HG := Lib.hid (fun i W (hW : Below w.heap.size w W) => iGetVal u n zs i ty W hn hz hby (h.below hW))
  have HE : Hid (getD7 zs ty k = if (Num.get zs 0).2.2 = true ∧ Num.inB (Num.get zs 0).1 1 k = true then decL zs ty (Num.get zs 0).1.toNat (Num.get zs 0).2.1 else none) := rfl
  have HNONE := Lib.hid (fun W (hW : Below w.heap.size w W) => rget_none hW)
  have HFIN : Hid (∀ e w', RGet w w' e none → getD7 zs ty k = none → RGet w w' e (getD7 zs ty k)) := fun e w' h1 h2 => by rw [h2]; exact h1
  obtain ⟨b, off, cap, rfl, _, _, _, _⟩ := h
  generalize Num.get zs 0 = g0 at HN HE
  obtain ⟨x0, nx0, ok0⟩ := g0
  unfold getRes at HN
  simp only at HN HE
  clear hz hby
  cases ok0 with
  | false =>
    have HF : Hid (getD7 zs ty k = none) := by
      show _ = _
      rw [HE.out]
      exact if_neg (fun h => by cases h.1)
    go_enter Tryz.func116, Tryz.ntmps116
    go_wp2_with (go_at_call 138; refine HN.out.mono ?_; rintro e w' ⟨rfl, rfl⟩)
    go_ret3
    exact HFIN.out _ _ (HNONE.out _ (Below.refl _ _)) HF.out
  | true =>
    by_cases hin : 1 ≤ x0 ∧ x0 ≤ k
    · obtain ⟨N, rfl⟩ := Int.eq_ofNat_of_zero_le (show 0 ≤ x0 by omega)
      rw [if_pos ⟨rfl, Num.inB_true.2 hin⟩, Int.toNat_natCast] at HE
      obtain ⟨n0, n1⟩ := hin
      have hN64 : N ≤ 64 := by omega
      have HD0 : Hid (decL zs ty N nx0 = (decL zs ty (N - 0) nx0).map fun r => ([] ++ r.1, r.2)) := by
        show _ = _
        simp
      have HST : Hid (∀ (j : Nat) (i : Int) (pre : List V), j < N → decL zs ty N nx0 = (decL zs ty (N - j) i).map (fun r => (pre ++ r.1, r.2)) → if (getV zs i ty).2.2 = true then decL zs ty N nx0 = (decL zs ty (N - (j + 1)) (getV zs i ty).2.1).map (fun r => ((pre ++ [(getV zs i ty).1]) ++ r.1, r.2)) else decL zs ty N nx0 = none) := fun j i pre hj hd => by
        rw [show N - j = (N - (j + 1)) + 1 by omega, decL] at hd
        split
        · rename_i hg
          rw [if_pos hg] at hd
          rw [hd, Option.map_map]
          congr 1
          funext r
          simp
        · rename_i hg
          rw [if_neg hg] at hd
          rw [hd]
          rfl
      have HFN : Hid (∀ (i : Int) (pre : List V), decL zs ty N nx0 = (decL zs ty (N - N) i).map (fun r => (pre ++ r.1, r.2)) → decL zs ty N nx0 = some (pre, i)) := fun i pre hd => by
        rw [hd, Nat.sub_self]
        simp [decL]
      go_enter Tryz.func116, Tryz.ntmps116
      go_wp2_with (first | (go_at_call 138; refine HN.out.mono ?_; rintro e w' ⟨rfl, rfl⟩) | (at_make; refine make_law Tryz.elemVals rfl _ _ rfl .i64 .i64 _ _ N rfl rfl rfl rfl (by omega) (by unfold maxLen; omega) ?_))
      intro w1 hown1 hb1
      have hown0 : Own 54 3 w.heap.size w1.heap.size w1 (.slice (some ⟨w.heap.size, 0, none⟩) N N) N (vals (fillV [] N)) := by
        have e : vals (fillV [] N) = (madeCells V.zero.cs.toArray (N * 3)).toList := by
          rw [made_flat V.cs V.zero 3 N (by omega) (fun _ => rfl)]
          simp [fillV, vals]
        rw [e]
        exact hown1
      clear hown1
      go_wp2
      go_loopw [10, 35] (fun p i wr => ∃ (j : Nat) (q : Int) (pre : List V), j ≤ N ∧ i = .int .i64 j ∧ p = .int .i64 q ∧ pre.length = j ∧ decL zs ty N nx0 = (decL zs ty (N - j) q).map (fun r => (pre ++ r.1, r.2)) ∧ wr.ownsRow w.heap.size 54 3 (.slice (some ⟨w.heap.size, 0, none⟩) N N) N (vals (fillV pre N)) ∧ Below w.heap.size w wr) (fun _ i _ => N - (intOf i).toNat)
      case atStart => exact ⟨0, nx0, [], Nat.zero_le _, rfl, rfl, rfl, HD0.out, hown0.row, hb1⟩
      case round =>
        obtain ⟨j, q, pre, hj, rfl, rfl, hpl, hd, hown, hbr⟩ := hrel
        clear hown0 hb1
        by_cases hlt : j < N
        · have HSJ := Lib.hid (HST.out j q pre hlt hd)
          have HV := Lib.hid (HG.out q wr hbr)
          have HPL := Lib.hid hpl
          have HSET := Lib.hid (fun x => fillV_set (pre := pre) (K := N) x (by omega))
          have HFL := Lib.hid (fillV_len (pre := pre) (K := N) (by omega))
          rw [HPL.out] at HSET
          clear hd hpl
          generalize getV zs q ty = r at HSJ HV
          obtain ⟨⟨xt, xn, xs⟩, nx, ok⟩ := r
          unfold rGet at HV
          simp only at HSJ HV
          go_wp2_with fail
          refine HV.out.mono ?_
          rintro e w2 ⟨rfl, hb2⟩
          have own2 := ((own_of_row hown (Nat.le_refl _)).below hb2 (Nat.le_refl _)).row
          have b2 := below_then hbr hb2 hbr.size
          have R := Lib.hid (stored3 own2 j ⟨xt, xn, xs⟩ (by rw [HFL.out]; exact hlt))
          rw [HSET.out] at R
          obtain ⟨x0, s0⟩ := cellAt_some own2 (j * 3) (by omega)
          obtain ⟨x1, s1⟩ := cellAt_some own2 (j * 3 + 1) (by omega)
          obtain ⟨x2, s2⟩ := cellAt_some own2 (j * 3 + 2) (by omega)
          have f0 := own2.frozenAt (j * 3)
          have f1 := own2.frozenAt (j * 3 + 1)
          have f2 := own2.frozenAt (j * 3 + 2)
          have b3 := Lib.hid (((b2.setCell (p := ⟨w.heap.size, j * 3, none⟩) (Nat.le_refl _) (.int .i64 xt)).setCell (p := ⟨w.heap.size, j * 3 + 1, none⟩) (Nat.le_refl _) (.int .i64 xn)).setCell (p := ⟨w.heap.size, j * 3 + 2, none⟩) (Nat.le_refl _) (.string xs))
          clear hown hb2 HV own2 b2 hbr
          cases ok with
          | false =>
            have HF : Hid (getD7 zs ty k = none) := by
              show _ = _
              have hd := HSJ.out
              rw [if_neg (by simp)] at hd
              rw [HE.out, hd]
            clear R
            go_wp2
            go_ret3
            exact HFIN.out _ _ (HNONE.out _ b3.out) HF.out
          | true =>
            have HS2 : Hid (decL zs ty N nx0 = (decL zs ty (N - (j + 1)) nx).map (fun r => ((pre ++ [(⟨xt, xn, xs⟩ : V)]) ++ r.1, r.2))) := by
              have hd := HSJ.out
              rw [if_pos rfl] at hd
              exact hd
            have HLN : Hid ((pre ++ [(⟨xt, xn, xs⟩ : V)]).length = j + 1) := by
              show _ = _
              simp [HPL.out]
            clear HSJ
            go_wp2
            go_roundw
            case rel => exact ⟨j + 1, nx, pre ++ [⟨xt, xn, xs⟩], by omega, by go_num, rfl, HLN.out, HS2.out, R.out.1, b3.out⟩
            case measure => simp [intOf]; omega
        · obtain rfl : j = N := by omega
          have HF := Lib.hid (HFN.out q pre hd)
          rw [HF.out] at HE
          rw [fillV_all hpl] at hown
          have O1 := own_of_row hown (Nat.le_refl _)
          have HPL := Lib.hid hpl
          have O2 := Lib.hid O1
          clear hd hown O1 hpl
          go_wp2
          go_ret3
          rw [HE.out]
          refine ⟨fun h => (by cases h), fun d i h => ?_, hbr⟩
          cases h
          exact ⟨_, rfl, by rw [HPL.out]; exact O2.out⟩
    · have HF : Hid (getD7 zs ty k = none) := by
        show _ = _
        rw [HE.out]
        exact if_neg (fun h => hin (Num.inB_true.1 h.2))
      by_cases h1 : x0 < 1
      · go_enter Tryz.func116, Tryz.ntmps116
        go_wp2_with (go_at_call 138; refine HN.out.mono ?_; rintro e w' ⟨rfl, rfl⟩)
        go_ret3
        exact HFIN.out _ _ (HNONE.out _ (Below.refl _ _)) HF.out
      · have h2 : k < x0 := by omega
        clear hin
        go_enter Tryz.func116, Tryz.ntmps116
        go_wp2_with (go_at_call 138; refine HN.out.mono ?_; rintro e w' ⟨rfl, rfl⟩)
        go_ret3
        exact HFIN.out _ _ (HNONE.out _ (Below.refl _ _)) HF.out

theorem decD_none {zs : List Int} {ty k : Int} (hk : Num.inB k 1 64 = false) : decD zs ty k = ([], false) := if_neg (fun h => by rw [hk] at h; cases h.2.1)
theorem decD_get {zs : List Int} {ty k : Int} (hk : Num.inB k 1 64 = true) : decD zs ty k = match getD7 zs ty k with
    | some r => decT zs k r.1 r.2
    | none => ([], false) := by
  unfold decD getD7
  by_cases hc : (Num.get zs 0).2.2 = true ∧ Num.inB (Num.get zs 0).1 1 k = true
  · rw [if_pos ⟨hc.1, hk, hc.2⟩, if_pos hc]
    cases decL zs ty (Num.get zs 0).1.toNat (Num.get zs 0).2.1 <;> rfl
  · rw [if_neg (fun h => hc ⟨h.1, h.2.2⟩), if_neg hc]

set_option maxRecDepth 100000 in
set_option maxHeartbeats 4000000 in
theorem iDecDict : CDecDict := by
  intro u n zs ty k w hn hz hby h
  have HNO : Hid (∀ w1, Below w.heap.size w w1 → RDs w (w1.alloc (.cells #[] 54)) (.returned (.tuple #[.slice (some ⟨w1.heap.size, 0, none⟩) 0 0, .bool false])) ([], false)) := fun w1 b1 =>
    ⟨_, rfl, (own_lit (e := 54) (size := 3) w1 #[] 0 (Nat.zero_le _) rfl).lower b1.size, b1.alloc b1.size _⟩
  cases hk : Num.inB k 1 64 with
  | false =>
    rw [decD_none hk]
    have hk2 : k < 1 ∨ 64 < k := by
      by_cases h1 : k < 1
      · exact .inl h1
      · by_cases h2 : 64 < k
        · exact .inr h2
        · exfalso
          rw [Num.inB_true.2 ⟨by omega, by omega⟩] at hk
          cases hk
    have HF1 := Lib.hid (HNO.out w (Below.refl _ _))
    obtain ⟨b, off, cap, rfl, _, _, _, _⟩ := h
    clear hz hby hk
    rcases hk2 with hk | hk
    · go_enter Tryz.func82, Tryz.ntmps82
      go_wp2
      go_ret2
      exact HF1.out
    · go_enter Tryz.func82, Tryz.ntmps82
      go_wp2
      go_ret2
      exact HF1.out
  | true =>
    rw [decD_get hk]
    obtain ⟨k0, k1⟩ := Num.inB_true.1 hk
    have HG := Lib.hid (getDict u n zs ty k w k1 hn hz hby h)
    have HSZ : Hid (∀ d i, getD7 zs ty k = some (d, i) → (1 ≤ d.length ∧ d.length ≤ 64) ∧ (0 ≤ i ∧ i ≤ n) ∧ ∀ v ∈ d, v.s.size ≤ maxLen) := fun d i hr => by
      unfold getD7 at hr
      split at hr
      · rename_i hc
        have h1 := decL_n hr
        have h2 := Num.inB_true.1 hc.2
        have h3 := decL_bound hby hr (by omega)
        simp only at h1 h3
        rw [hz] at h3
        exact ⟨by omega, h3, decL_size hr⟩
      · cases hr
    generalize getD7 zs ty k = G at HG HSZ
    cases G with
    | none =>
      obtain ⟨b, off, cap, rfl, _, _, _, _⟩ := h
      clear hz hby hk HSZ
      go_enter Tryz.func82, Tryz.ntmps82
      go_wp2_with fail
      refine HG.out.mono ?_
      rintro e w1 ⟨h1, _, b1⟩
      obtain rfl := h1 rfl
      have HF1 := Lib.hid (HNO.out w1 b1)
      clear h1 HG HNO
      go_wp2
      go_ret2
      exact HF1.out
    | some r =>
      obtain ⟨d, i⟩ := r
      obtain ⟨⟨hd1, hd2⟩, ⟨q0, q1⟩, hds⟩ := HSZ.out d i rfl
      obtain ⟨A, rfl⟩ := Int.eq_ofNat_of_zero_le q0
      have hAn : A ≤ n := by omega
      have HA := Lib.hid h
      have HZ := Lib.hid hz
      have HBY := Lib.hid hby
      have HDS := Lib.hid hds
      obtain ⟨b, off, cap, rfl, hcn, hcm, _, _⟩ := id h
      simp only
      generalize hres : decT zs k d (A : Int) = res
      have HRES : Hid (res = decT zs k d (A : Int)) := hres.symm
      unfold decT at HRES
      rw [Int.toNat_natCast] at HRES
      clear hz hby hk HSZ hds hres h q0 q1
      go_enter Tryz.func82, Tryz.ntmps82
      go_wp2_with fail
      refine HG.out.mono ?_
      rintro e w1 ⟨_, h1, b1⟩
      obtain ⟨v1, rfl, o1⟩ := h1 d A rfl
      clear h1 HG
      generalize hm : d.length = m at o1 hd1 hd2 HRES
      have HM := Lib.hid hm
      clear hm
      obtain ⟨g1, c1, rfl, hg1, hg2, hrow⟩ := o1
      have O1 : Hid (Own 54 3 w.heap.size w1.heap.size w1 (.slice (some ⟨g1, 0, none⟩) m c1) m (vals d)) := ⟨g1, c1, rfl, hg1, hg2, hrow⟩
      clear hg1 hg2 hrow
      obtain ⟨tl, htl, HTL⟩ := tail_at cap A b off
      have hatr := HA.out.below b1
      have HWD := Lib.hid (fun W => placeWidth (some ⟨g1, 0, none⟩) m c1 W (by omega))
      generalize Bit.widthI ((m : Int) - 1) = wd at HWD HRES
      have HUN := Lib.hid (fun W (hW : Below w1.heap.size w1 W) => iUnpackBits _ (n - A) (zs.drop A) (wd : Int) k W (by omega) (by rw [List.length_drop, HZ.out]) (fun x hx => HBY.out x (List.mem_of_mem_drop hx)) (.inr (At.from HZ.out (hatr.below hW) hAn HTL.out)))
      have hun64 := Bit.unpack_le (zs.drop A) wd k
      generalize Bit.unpack (zs.drop A) (wd : Int) k = up at HUN HRES hun64
      obtain ⟨p, may⟩ := up
      simp only at HRES hun64
      unfold Unpacked at HUN
      simp only at HUN
      have hB' := (Below.refl w1.heap.size w1).drew
      have B1 := Lib.hid b1
      clear hatr b1
      go_wp2
      refine wp_region_held_drew (S := fun _ => True) (by kernel_rfl) trivial (fun hH => ?_)
      refine takeH (i := 0) (d := some 32) (v := .slice (some ⟨b, off, none⟩) n cap) rfl rfl (by kernel_rfl) (by kernel_rfl) (by kernel_rfl) (fun _ _ _ h => h) (Or.inl ⟨by rfl, fun W hSw => by go_simp⟩) hH ?_
      try simp only [put_some, List.set_cons_zero, List.set_cons_succ]
      refine takeH (i := 1) (d := some 33) (v := .int .i64 (A : Int)) rfl rfl (by kernel_rfl) (by kernel_rfl) (by kernel_rfl) (fun _ _ _ h => h) (Or.inl ⟨by rfl, fun W hSw => by go_simp⟩) hH ?_
      try simp only [put_some, List.set_cons_zero, List.set_cons_succ]
      refine takeH (i := 2) (d := some 34) (v := .slice (some ⟨b, tl, none⟩) (n - A) (cap - A)) rfl rfl (by kernel_rfl) (by kernel_rfl) (by kernel_rfl) (fun _ _ _ h => h) (Or.inl ⟨by rfl, fun W hSw => by go_simp⟩) hH ?_
      try simp only [put_some, List.set_cons_zero, List.set_cons_succ]
      refine takeH (i := 3) (d := some 35) (v := .slice (some ⟨g1, 0, none⟩) m c1) rfl rfl (by kernel_rfl) (by kernel_rfl) (by kernel_rfl) (fun _ _ _ h => h) (Or.inl ⟨by rfl, fun W hSw => by go_simp⟩) hH ?_
      try simp only [put_some, List.set_cons_zero, List.set_cons_succ]
      refine takeH (i := 5) (d := some 37) (v := .int .i64 k) rfl rfl (by kernel_rfl) (by kernel_rfl) (by kernel_rfl) (fun _ _ _ h => h) (Or.inl ⟨by rfl, fun W hSw => by go_simp⟩) hH ?_
      try simp only [put_some, List.set_cons_zero, List.set_cons_succ]
      refine wpAnyH_ready (rs := [4]) (by kernel_rfl) (by simp) ?_
      refine AllReadyH.cons rfl (fun K hK => ?_) AllReadyH.nil
      go_simp
      go_at_call 103
      refine (HWD.out _).mono ?_
      rintro e w' ⟨rfl, rfl⟩
      go_wp2_with fail
      refine hK.out _ _ trivial (fun hH => ?_)
      clear hK K
      refine wpAnyH_ready (rs := [6]) (by kernel_rfl) (by simp) ?_
      refine AllReadyH.cons rfl (fun K hK => ?_) AllReadyH.nil
      go_simp
      go_at_call 117
      refine (HUN.out _ hB').mono ?_
      rintro e w2 ⟨v2, rfl, o2, hb2⟩
      have b2 := below_then hB' hb2 hB'.size
      clear hb2 hB' htl HWD
      go_wp2_with fail
      refine hK.out _ _ trivial (fun hH => ?_)
      clear hK K
      refine takeH (i := 7) (d := some 31) (v := .tuple #[v2, .bool may]) rfl rfl (by kernel_rfl) (by kernel_rfl) (by kernel_rfl) (fun _ _ _ h => h) (Or.inl ⟨by rfl, fun W hSw => by go_simp⟩) hH ?_
      try simp only [put_some, List.set_cons_zero, List.set_cons_succ]
      refine takeH (i := 8) (d := some 39) (v := v2) rfl rfl (by kernel_rfl) (by kernel_rfl) (by kernel_rfl) (fun _ _ _ h => h) (Or.inl ⟨by rfl, fun W hSw => by go_simp⟩) hH ?_
      try simp only [put_some, List.set_cons_zero, List.set_cons_succ]
      refine takeH (i := 9) (d := some 40) (v := .bool may) rfl rfl (by kernel_rfl) (by kernel_rfl) (by kernel_rfl) (fun _ _ _ h => h) (Or.inl ⟨by rfl, fun W hSw => by go_simp⟩) hH ?_
      try simp only [put_some, List.set_cons_zero, List.set_cons_succ]
      refine takeH (i := 10) (d := some 11) (v := v2) rfl rfl (by kernel_rfl) (by kernel_rfl) (by kernel_rfl) (fun _ _ _ h => h) (Or.inl ⟨by rfl, fun W hSw => by go_simp⟩) hH ?_
      try simp only [put_some, List.set_cons_zero, List.set_cons_succ]
      refine takeH (i := 11) (d := some 10) (v := .bool may) rfl rfl (by kernel_rfl) (by kernel_rfl) (by kernel_rfl) (fun _ _ _ h => h) (Or.inl ⟨by rfl, fun W hSw => by go_simp⟩) hH ?_
      try simp only [put_some, List.set_cons_zero, List.set_cons_succ]
      refine wpAnyH_done (by kernel_rfl) ?_ _
      have B2 := below_then B1.out b2 B1.out.size
      cases may with
      | false =>
        have HF : Hid (res = ([], false)) := by
          show _ = _
          rw [HRES.out]
          exact if_neg (fun h => by cases h.1)
        have HF1 := Lib.hid (HNO.out w2 B2)
        clear o2 b2
        go_wp2
        go_ret2
        rw [HF.out]
        exact HF1.out
      | true =>
        have HPK := Lib.hid (iPicked (.slice (some ⟨g1, 0, none⟩) m c1) v2 d p w2 (by rw [HM.out]; omega) (by omega) (by rw [HM.out]; exact (O1.out.below b2 (Nat.le_refl _)).rd) o2.rd)
        have HLS := Lib.hid (picked_all (p := p) (q := fun v => v.s.size ≤ maxLen) HDS.out)
        have hl64 := Nat.le_trans (picked_len d p) hun64
        generalize pickedL d p = pc at HPK HLS hl64 HRES
        obtain ⟨l, can⟩ := pc
        unfold RDs at HPK
        simp only at HPK HLS hl64 HRES
        have hzr := Nat.le_trans B1.out.size b2.size
        clear o2 b2
        go_wp2_with fail
        refine HPK.out.mono ?_
        rintro e w3 ⟨v3, rfl, o3, hb3⟩
        have b3 := below_then B2 hb3 B2.size
        have HOL := Lib.hid (o3.lower (show w.heap.size ≤ w2.heap.size by omega))
        have HEN := Lib.hid (iEncDict v3 l w3 (by omega) HLS.out o3.rd)
        clear hb3 HPK o3
        cases can with
        | false =>
          have HF : Hid (res = ([], false)) := by
            show _ = _
            rw [HRES.out]
            exact if_neg (fun h => by cases h.2.1)
          have HF1 := Lib.hid (HNO.out w3 b3)
          clear HEN HOL
          go_wp2
          go_ret2
          rw [HF.out]
          exact HF1.out
        | true =>
          go_wp2_with fail
          refine HEN.out.mono ?_
          rintro e w4 ⟨v4, rfl, o4, hb4⟩
          have b4 := below_then b3 hb4 b3.size
          have OL4 := Lib.hid ((HOL.out.below hb4 (Nat.le_refl _)).wide hb4.size)
          have HSM := Lib.hid (bytesEqual v4 _ (encD l).length n (encD l) zs w4 rfl HZ.out (encD_bytes l) HBY.out o4.at (HA.out.below b4))
          clear HEN hb4 HOL o4
          by_cases hen : encD l = zs
          · rw [decide_eq_true hen] at HSM
            have HF : Hid (res = (l, true)) := by
              show _ = _
              rw [HRES.out]
              exact if_pos (by first | exact ⟨trivial, trivial, hen⟩ | exact ⟨rfl, rfl, hen⟩)
            go_wp2_with (go_at_call 115; refine HSM.out.mono ?_; rintro e w' ⟨rfl, rfl⟩)
            go_ret2
            rw [HF.out]
            exact ⟨_, rfl, OL4.out, b4⟩
          · rw [decide_eq_false hen] at HSM
            have HF : Hid (res = ([], false)) := by
              show _ = _
              rw [HRES.out]
              exact if_neg (fun h => hen h.2.2)
            have HF1 := Lib.hid (HNO.out w4 b4)
            go_wp2_with (go_at_call 115; refine HSM.out.mono ?_; rintro e w' ⟨rfl, rfl⟩)
            go_ret2
            rw [HF.out]
            exact HF1.out

end Go.Proofs.YthniakklkepomaaGreat

/- The contract of impl's DecCol (written by mk_I9d.py). -/
namespace Go.Proofs.YthniakklkepomaaGreat
open Go.RowKit

theorem decs (w : World) : Calls Tryz.prog 46 #[] w fun e w' => e = .returned (.agg #[.func (.func 80) #[] #[], .func (.func 81) #[] #[], .func (.func 82) #[] #[], .func (.func 83) #[] #[]]) ∧ Below w.heap.size w w' := by
  obtain ⟨⟨c0, c1, c2, c3⟩, f0, f1, f2, f3⟩ := quad_new w .nilFunc .nilFunc .nilFunc .nilFunc 57
  have hst : ∀ fn f c a W, Sem.run Tryz.prog (store a (.func fn f c)) W = stored Tryz.prog W a (.func fn f c) .plain := fun _ _ _ _ _ => run_store _ _ _ _ _ rfl
  go_enter Tryz.func46, Tryz.ntmps46
  go_wp2
  clear c0 c1 c2 c3 f0 f1 f2 f3
  obtain ⟨⟨c0, c1, c2, c3⟩, _⟩ := quad_new w (.func (.func 80) #[] #[]) (.func (.func 81) #[] #[]) (.func (.func 82) #[] #[]) (.func (.func 83) #[] #[]) 57
  exact bodyPost_ret (v := .agg #[.func (.func 80) #[] #[], .func (.func 81) #[] #[], .func (.func 82) #[] #[], .func (.func 83) #[] #[]]) (by simp [results, Tryz.results46, go_sem, *]) rfl ⟨rfl, below_alloc w _⟩
theorem decAt0 (W : World) : (Instr.index 57 (.agg #[.func (.func 80) #[] #[], .func (.func 81) #[] #[], .func (.func 82) #[] #[], .func (.func 83) #[] #[]]) (.int .i64 0)).run Tryz.prog W = .ok (.func (.func 80) #[] #[]) W := by kernel_rfl
theorem decAt1 (W : World) : (Instr.index 57 (.agg #[.func (.func 80) #[] #[], .func (.func 81) #[] #[], .func (.func 82) #[] #[], .func (.func 83) #[] #[]]) (.int .i64 1)).run Tryz.prog W = .ok (.func (.func 81) #[] #[]) W := by kernel_rfl
theorem decAt2 (W : World) : (Instr.index 57 (.agg #[.func (.func 80) #[] #[], .func (.func 81) #[] #[], .func (.func 82) #[] #[], .func (.func 83) #[] #[]]) (.int .i64 2)).run Tryz.prog W = .ok (.func (.func 82) #[] #[]) W := by kernel_rfl
theorem decAt3 (W : World) : (Instr.index 57 (.agg #[.func (.func 80) #[] #[], .func (.func 81) #[] #[], .func (.func 82) #[] #[], .func (.func 83) #[] #[]]) (.int .i64 3)).run Tryz.prog W = .ok (.func (.func 83) #[] #[]) W := by kernel_rfl

theorem decFO (u : Value) (n : Nat) (zs : List Int) (ty k : Int) (w : World) (hn : n ≤ 1048576) (hz : zs.length = n) (hby : Num.Bytes zs) (h : At 1 w u n (ints .u8 zs)) :
    Calls Tryz.prog 83 #[u, .int .i64 ty, .int .i64 k] w fun e w' => RDs w w' e (if ty = 1 then decF zs k else ([], false)) := by
  by_cases ht : ty = 1
  · subst ht
    rw [if_pos rfl]
    have HD := Lib.hid (iDecFrame u n zs k w hn hz hby h)
    generalize decF zs k = r at HD ⊢
    clear h hz hby hn
    go_enter Tryz.func83, Tryz.ntmps83
    go_wp2_with fail
    refine HD.out.mono ?_
    rintro e w2 ⟨v2, rfl, o2, hb2⟩
    obtain ⟨rl, rk⟩ := r
    simp only at o2 ⊢
    go_wp2
    go_ret2
    exact ⟨_, rfl, o2, hb2⟩
  · rw [if_neg ht]
    have htb : (ty != 1) = true := by simpa using ht
    have OL := own_lit (e := 54) (size := 3) w #[] 0 (Nat.zero_le _) rfl
    have BL := below_alloc w (.cells #[] 54)
    clear h hz hby hn ht
    go_enter Tryz.func83, Tryz.ntmps83
    go_wp2
    go_ret2
    exact ⟨_, rfl, OL, BL⟩

set_option maxRecDepth 100000 in
set_option maxHeartbeats 4000000 in
theorem iDecCol : CDecCol := by
  intro u n zs ty k w hn hz hby h
  have HNO : Hid (∀ W, Below w.heap.size w W → RDs w (W.alloc (.cells #[] 54)) (.returned (.tuple #[.slice (some ⟨W.heap.size, 0, none⟩) 0 0, .bool false])) ([], false)) := fun W hW => ⟨_, rfl, (own_lit (e := 54) (size := 3) W #[] 0 (Nat.zero_le _) rfl).lower hW.size, hW.alloc hW.size _⟩
  have HB1 := Lib.hid (Below.refl w.heap.size w)
  have HKI := Lib.hid (fun z W => kindIs z W)
  have HDS := Lib.hid (fun W => decs W)
  obtain ⟨b, off, cap, rfl, hcn, hcm, hlen, hcells⟩ := id h
  by_cases h0 : n = 0
  · subst h0
    have HF := Lib.hid (decC_none (ty := ty) (k := k) (.inl hz))
    rw [HF.out]
    clear h hcells hlen hz hby HF hcn hcm HKI HDS
    go_enter Tryz.func19, Tryz.ntmps19
    go_wp2
    go_ret2
    exact HNO.out _ HB1.out
  have hnb : ((n : Int) < 1) = False := eq_false (by omega)
  have hcn' : n ≤ cap := hcn
  have h1n : 1 ≤ n := by omega
  obtain ⟨tl, htl, HTL⟩ := tail_at cap 1 b off
  have hcell : w.cell? ⟨b, off + 0, none⟩ = some (.int .u8 (zs.getD 0 0)) := At.cell hcells hz (by omega)
  rw [Nat.add_zero] at hcell
  have hzb : 0 ≤ zs.getD 0 0 ∧ zs.getD 0 0 ≤ 255 := by
    have hA : 0 < zs.length := by omega
    rw [getDe zs 0 hA]
    have := hby _ (List.getElem_mem hA)
    omega
  have HTA : Hid (∀ W, Below w.heap.size w W → At 1 W (.slice (some ⟨b, tl, none⟩) (n - 1) (cap - 1)) (n - 1) (ints .u8 (zs.drop 1))) := fun W hW => At.from hz (h.below hW) h1n HTL.out
  have HZD : Hid ((zs.drop 1).length = n - 1) := by show _ = _; rw [List.length_drop, hz]
  have HYD : Hid (Num.Bytes (zs.drop 1)) := fun x hx => hby x (List.mem_of_mem_drop hx)
  have HEX := Lib.hid (decC_prog hby (by omega) ty k)
  have HRZ := decB_len (zs.getD 0 0) (zs.drop 1) ty k
  have HRS := Lib.hid (decB_sz (zs.getD 0 0) (zs.drop 1) ty k)
  generalize zs.getD 0 0 = z at hcell hzb HEX HRZ HRS
  obtain ⟨z0, z1⟩ := hzb
  have hwz : IntKind.i64.wrap z = z := IntWalk.i64_in _ (by omega)
  generalize decC zs ty k = R at HEX ⊢
  clear h hcells hlen hz hby hcn hcm h0 HTL
  have HKZ := Lib.hid (HKI.out z)
  clear HKI
  by_cases hd : z = 0 ∨ z = 1 ∨ z = 2 ∨ z = 3
  · have hki : Num.inB z 0 3 = true := Num.inB_true.2 ⟨by omega, by omega⟩
    rw [hki] at HKZ
    clear hki
    rcases hd with rfl | rfl | rfl | rfl
    · have HD := Lib.hid (fun W (hW : Below w.heap.size w W) => iDecPlain _ (n - 1) (zs.drop 1) ty k W (by omega) HZD.out HYD.out (HTA.out W hW))
      have er : decB 0 (zs.drop 1) ty k = decP (zs.drop 1) ty k := rfl
      rw [er] at HEX HRS HRZ
      clear er
      generalize decP (zs.drop 1) ty k = r at HD HEX HRS HRZ
      have HE2 : Hid (R = if r.2 = true ∧ bestL r.1 = 0 then (r.1, true) else ([], false)) := by
        show _ = _
        rw [HEX.out]
        by_cases hc : r.2 = true ∧ bestL r.1 = 0
        · rw [if_pos hc, if_pos ⟨hc.1, fun q => absurd q (by decide), hc.2⟩]
        · rw [if_neg hc, if_neg (fun q => hc ⟨q.1, q.2.2⟩)]
      clear HEX
      have HEX := HE2
      clear HE2
      obtain ⟨rl, rk⟩ := r
      unfold RDs at HD
      simp only at HD HEX HRS HRZ
      clear HTA HZD HYD
      have hix := decAt0
      have hB' := (Below.refl w.heap.size w).drew
      go_enter Tryz.func19, Tryz.ntmps19
      go_wp2_with (go_at_call 40; refine (HKZ.out _).mono ?_; rintro e w' ⟨rfl, rfl⟩)
      refine wp_region_held_drew (S := fun _ => True) (by kernel_rfl) trivial (fun hH => ?_)
      refine takeH (i := 3) (d := some 31) (v := .slice (some ⟨b, off, none⟩) n cap) rfl rfl (by kernel_rfl) (by kernel_rfl) (by kernel_rfl) (fun _ _ _ h => h) (Or.inl ⟨by rfl, fun W hSw => by go_simp⟩) hH ?_
      try simp only [put_some, List.set_cons_zero, List.set_cons_succ]
      refine takeH (i := 4) (d := some 32) (v := .slice (some ⟨b, tl, none⟩) (n - 1) (cap - 1)) rfl rfl (by kernel_rfl) (by kernel_rfl) (by kernel_rfl) (fun _ _ _ h => h) (Or.inl ⟨by rfl, fun W hSw => by go_simp⟩) hH ?_
      try simp only [put_some, List.set_cons_zero, List.set_cons_succ]
      refine takeH (i := 5) (d := some 33) (v := .int .i64 ty) rfl rfl (by kernel_rfl) (by kernel_rfl) (by kernel_rfl) (fun _ _ _ h => h) (Or.inl ⟨by rfl, fun W hSw => by go_simp⟩) hH ?_
      try simp only [put_some, List.set_cons_zero, List.set_cons_succ]
      refine takeH (i := 6) (d := some 34) (v := .int .i64 k) rfl rfl (by kernel_rfl) (by kernel_rfl) (by kernel_rfl) (fun _ _ _ h => h) (Or.inl ⟨by rfl, fun W hSw => by go_simp⟩) hH ?_
      try simp only [put_some, List.set_cons_zero, List.set_cons_succ]
      refine takeH (i := 1) (d := some 29) (v := .int .i64 0) rfl rfl (by kernel_rfl) (by kernel_rfl) (by kernel_rfl) (fun _ _ _ h => h) (Or.inl ⟨by rfl, fun W hSw => by go_simp⟩) hH ?_
      try simp only [put_some, List.set_cons_zero, List.set_cons_succ]
      refine wpAnyH_ready (rs := [0]) (by kernel_rfl) (by simp) ?_
      refine AllReadyH.cons rfl (fun K hK => ?_) AllReadyH.nil
      go_simp
      go_at_call 46
      refine (HDS.out _).mono ?_
      rintro e w2 ⟨rfl, hb2⟩
      have b2 := below_then hB' hb2 hB'.size
      clear hb2 hB' HDS
      go_wp2_with fail
      refine hK.out _ _ trivial (fun hH => ?_)
      clear hK K
      refine takeH (i := 2) (d := some 30) (v := .func (.func 80) #[] #[]) rfl rfl (by kernel_rfl) (by kernel_rfl) (by kernel_rfl) (fun _ _ _ h => h) (Or.inl ⟨by rfl, fun W hSw => by go_simp⟩) hH ?_
      try simp only [put_some, List.set_cons_zero, List.set_cons_succ]
      refine wpAnyH_ready (rs := [7]) (by kernel_rfl) (by simp) ?_
      refine AllReadyH.cons rfl (fun K hK => ?_) AllReadyH.nil
      go_simp
      go_at_call 80
      refine (HD.out _ b2).mono ?_
      rintro e w3 ⟨v3, rfl, o3, hb3⟩
      have B3 := below_then b2 hb3 b2.size
      have z3 := b2.size
      clear hb3 b2 HD htl hix hcell
      go_wp2_with fail
      refine hK.out _ _ trivial (fun hH => ?_)
      clear hK K
      refine takeH (i := 8) (d := some 27) (v := .tuple #[v3, .bool rk]) rfl rfl (by kernel_rfl) (by kernel_rfl) (by kernel_rfl) (fun _ _ _ h => h) (Or.inl ⟨by rfl, fun W hSw => by go_simp⟩) hH ?_
      try simp only [put_some, List.set_cons_zero, List.set_cons_succ]
      refine takeH (i := 9) (d := some 36) (v := v3) rfl rfl (by kernel_rfl) (by kernel_rfl) (by kernel_rfl) (fun _ _ _ h => h) (Or.inl ⟨by rfl, fun W hSw => by go_simp⟩) hH ?_
      try simp only [put_some, List.set_cons_zero, List.set_cons_succ]
      refine takeH (i := 10) (d := some 37) (v := .bool rk) rfl rfl (by kernel_rfl) (by kernel_rfl) (by kernel_rfl) (fun _ _ _ h => h) (Or.inl ⟨by rfl, fun W hSw => by go_simp⟩) hH ?_
      try simp only [put_some, List.set_cons_zero, List.set_cons_succ]
      refine takeH (i := 11) (d := some 9) (v := v3) rfl rfl (by kernel_rfl) (by kernel_rfl) (by kernel_rfl) (fun _ _ _ h => h) (Or.inl ⟨by rfl, fun W hSw => by go_simp⟩) hH ?_
      try simp only [put_some, List.set_cons_zero, List.set_cons_succ]
      refine takeH (i := 12) (d := some 10) (v := .bool rk) rfl rfl (by kernel_rfl) (by kernel_rfl) (by kernel_rfl) (fun _ _ _ h => h) (Or.inl ⟨by rfl, fun W hSw => by go_simp⟩) hH ?_
      try simp only [put_some, List.set_cons_zero, List.set_cons_succ]
      refine wpAnyH_done (by kernel_rfl) ?_ _
      have O3 := Lib.hid (o3.lower z3)
      clear o3 hH
      cases rk with
      | false =>
        have HF : Hid (R = ([], false)) := by
          show _ = _
          rw [HEX.out, if_neg (fun q => by cases q.1)]
        clear HEX HRS HRZ
        go_wp2
        go_ret2
        rw [HF.out]
        exact HNO.out _ B3
      | true =>
        have HC := Lib.hid (iBestKind v3 rl w3 (by omega) HRS.out O3.out.rd)
        have HY : Hid (bestL rl = 0 → R = (rl, true)) := fun a => by rw [HEX.out, if_pos ⟨rfl, a⟩]
        have HX : Hid (¬ bestL rl = 0 → R = ([], false)) := fun a => by rw [HEX.out, if_neg (fun q => a q.2)]
        clear HEX HRS
        generalize bestL rl = t at HC HY HX
        go_wp2_with fail
        refine HC.out.mono ?_
        rintro e w4 ⟨rfl, hb4⟩
        have B4 := below_then B3 hb4 B3.size
        by_cases ht : t = 0
        · have HF := Lib.hid (HY.out ht)
          subst ht
          have O4 := Lib.hid ((O3.out.below hb4 (Nat.le_refl _)).wide hb4.size)
          clear HX HY HC hb4 B3
          go_wp2
          go_ret2
          rw [HF.out]
          exact ⟨_, rfl, O4.out, B4⟩
        · have htb : (t != 0) = true := by simpa using ht
          have HF := Lib.hid (HX.out ht)
          clear HX HY ht HC hb4
          go_wp2
          go_ret2
          rw [HF.out]
          exact HNO.out _ B4
    · have HD := Lib.hid (fun W (hW : Below w.heap.size w W) => iDecRuns _ (n - 1) (zs.drop 1) ty k W (by omega) HZD.out HYD.out (HTA.out W hW))
      have er : decB 1 (zs.drop 1) ty k = decR (zs.drop 1) ty k := rfl
      rw [er] at HEX HRS HRZ
      clear er
      generalize decR (zs.drop 1) ty k = r at HD HEX HRS HRZ
      have HE2 : Hid (R = if r.2 = true ∧ bestL r.1 = 1 then (r.1, true) else ([], false)) := by
        show _ = _
        rw [HEX.out]
        by_cases hc : r.2 = true ∧ bestL r.1 = 1
        · rw [if_pos hc, if_pos ⟨hc.1, fun q => absurd q (by decide), hc.2⟩]
        · rw [if_neg hc, if_neg (fun q => hc ⟨q.1, q.2.2⟩)]
      clear HEX
      have HEX := HE2
      clear HE2
      obtain ⟨rl, rk⟩ := r
      unfold RDs at HD
      simp only at HD HEX HRS HRZ
      clear HTA HZD HYD
      have hix := decAt1
      have hB' := (Below.refl w.heap.size w).drew
      go_enter Tryz.func19, Tryz.ntmps19
      go_wp2_with (go_at_call 40; refine (HKZ.out _).mono ?_; rintro e w' ⟨rfl, rfl⟩)
      refine wp_region_held_drew (S := fun _ => True) (by kernel_rfl) trivial (fun hH => ?_)
      refine takeH (i := 3) (d := some 31) (v := .slice (some ⟨b, off, none⟩) n cap) rfl rfl (by kernel_rfl) (by kernel_rfl) (by kernel_rfl) (fun _ _ _ h => h) (Or.inl ⟨by rfl, fun W hSw => by go_simp⟩) hH ?_
      try simp only [put_some, List.set_cons_zero, List.set_cons_succ]
      refine takeH (i := 4) (d := some 32) (v := .slice (some ⟨b, tl, none⟩) (n - 1) (cap - 1)) rfl rfl (by kernel_rfl) (by kernel_rfl) (by kernel_rfl) (fun _ _ _ h => h) (Or.inl ⟨by rfl, fun W hSw => by go_simp⟩) hH ?_
      try simp only [put_some, List.set_cons_zero, List.set_cons_succ]
      refine takeH (i := 5) (d := some 33) (v := .int .i64 ty) rfl rfl (by kernel_rfl) (by kernel_rfl) (by kernel_rfl) (fun _ _ _ h => h) (Or.inl ⟨by rfl, fun W hSw => by go_simp⟩) hH ?_
      try simp only [put_some, List.set_cons_zero, List.set_cons_succ]
      refine takeH (i := 6) (d := some 34) (v := .int .i64 k) rfl rfl (by kernel_rfl) (by kernel_rfl) (by kernel_rfl) (fun _ _ _ h => h) (Or.inl ⟨by rfl, fun W hSw => by go_simp⟩) hH ?_
      try simp only [put_some, List.set_cons_zero, List.set_cons_succ]
      refine takeH (i := 1) (d := some 29) (v := .int .i64 1) rfl rfl (by kernel_rfl) (by kernel_rfl) (by kernel_rfl) (fun _ _ _ h => h) (Or.inl ⟨by rfl, fun W hSw => by go_simp⟩) hH ?_
      try simp only [put_some, List.set_cons_zero, List.set_cons_succ]
      refine wpAnyH_ready (rs := [0]) (by kernel_rfl) (by simp) ?_
      refine AllReadyH.cons rfl (fun K hK => ?_) AllReadyH.nil
      go_simp
      go_at_call 46
      refine (HDS.out _).mono ?_
      rintro e w2 ⟨rfl, hb2⟩
      have b2 := below_then hB' hb2 hB'.size
      clear hb2 hB' HDS
      go_wp2_with fail
      refine hK.out _ _ trivial (fun hH => ?_)
      clear hK K
      refine takeH (i := 2) (d := some 30) (v := .func (.func 81) #[] #[]) rfl rfl (by kernel_rfl) (by kernel_rfl) (by kernel_rfl) (fun _ _ _ h => h) (Or.inl ⟨by rfl, fun W hSw => by go_simp⟩) hH ?_
      try simp only [put_some, List.set_cons_zero, List.set_cons_succ]
      refine wpAnyH_ready (rs := [7]) (by kernel_rfl) (by simp) ?_
      refine AllReadyH.cons rfl (fun K hK => ?_) AllReadyH.nil
      go_simp
      go_at_call 81
      refine (HD.out _ b2).mono ?_
      rintro e w3 ⟨v3, rfl, o3, hb3⟩
      have B3 := below_then b2 hb3 b2.size
      have z3 := b2.size
      clear hb3 b2 HD htl hix hcell
      go_wp2_with fail
      refine hK.out _ _ trivial (fun hH => ?_)
      clear hK K
      refine takeH (i := 8) (d := some 27) (v := .tuple #[v3, .bool rk]) rfl rfl (by kernel_rfl) (by kernel_rfl) (by kernel_rfl) (fun _ _ _ h => h) (Or.inl ⟨by rfl, fun W hSw => by go_simp⟩) hH ?_
      try simp only [put_some, List.set_cons_zero, List.set_cons_succ]
      refine takeH (i := 9) (d := some 36) (v := v3) rfl rfl (by kernel_rfl) (by kernel_rfl) (by kernel_rfl) (fun _ _ _ h => h) (Or.inl ⟨by rfl, fun W hSw => by go_simp⟩) hH ?_
      try simp only [put_some, List.set_cons_zero, List.set_cons_succ]
      refine takeH (i := 10) (d := some 37) (v := .bool rk) rfl rfl (by kernel_rfl) (by kernel_rfl) (by kernel_rfl) (fun _ _ _ h => h) (Or.inl ⟨by rfl, fun W hSw => by go_simp⟩) hH ?_
      try simp only [put_some, List.set_cons_zero, List.set_cons_succ]
      refine takeH (i := 11) (d := some 9) (v := v3) rfl rfl (by kernel_rfl) (by kernel_rfl) (by kernel_rfl) (fun _ _ _ h => h) (Or.inl ⟨by rfl, fun W hSw => by go_simp⟩) hH ?_
      try simp only [put_some, List.set_cons_zero, List.set_cons_succ]
      refine takeH (i := 12) (d := some 10) (v := .bool rk) rfl rfl (by kernel_rfl) (by kernel_rfl) (by kernel_rfl) (fun _ _ _ h => h) (Or.inl ⟨by rfl, fun W hSw => by go_simp⟩) hH ?_
      try simp only [put_some, List.set_cons_zero, List.set_cons_succ]
      refine wpAnyH_done (by kernel_rfl) ?_ _
      have O3 := Lib.hid (o3.lower z3)
      clear o3 hH
      cases rk with
      | false =>
        have HF : Hid (R = ([], false)) := by
          show _ = _
          rw [HEX.out, if_neg (fun q => by cases q.1)]
        clear HEX HRS HRZ
        go_wp2
        go_ret2
        rw [HF.out]
        exact HNO.out _ B3
      | true =>
        have HC := Lib.hid (iBestKind v3 rl w3 (by omega) HRS.out O3.out.rd)
        have HY : Hid (bestL rl = 1 → R = (rl, true)) := fun a => by rw [HEX.out, if_pos ⟨rfl, a⟩]
        have HX : Hid (¬ bestL rl = 1 → R = ([], false)) := fun a => by rw [HEX.out, if_neg (fun q => a q.2)]
        clear HEX HRS
        generalize bestL rl = t at HC HY HX
        go_wp2_with fail
        refine HC.out.mono ?_
        rintro e w4 ⟨rfl, hb4⟩
        have B4 := below_then B3 hb4 B3.size
        by_cases ht : t = 1
        · have HF := Lib.hid (HY.out ht)
          subst ht
          have O4 := Lib.hid ((O3.out.below hb4 (Nat.le_refl _)).wide hb4.size)
          clear HX HY HC hb4 B3
          go_wp2
          go_ret2
          rw [HF.out]
          exact ⟨_, rfl, O4.out, B4⟩
        · have htb : (t != 1) = true := by simpa using ht
          have HF := Lib.hid (HX.out ht)
          clear HX HY ht HC hb4
          go_wp2
          go_ret2
          rw [HF.out]
          exact HNO.out _ B4
    · have HD := Lib.hid (fun W (hW : Below w.heap.size w W) => iDecDict _ (n - 1) (zs.drop 1) ty k W (by omega) HZD.out HYD.out (HTA.out W hW))
      have er : decB 2 (zs.drop 1) ty k = decD (zs.drop 1) ty k := rfl
      rw [er] at HEX HRS HRZ
      clear er
      generalize decD (zs.drop 1) ty k = r at HD HEX HRS HRZ
      have HE2 : Hid (R = if r.2 = true ∧ bestL r.1 = 2 then (r.1, true) else ([], false)) := by
        show _ = _
        rw [HEX.out]
        by_cases hc : r.2 = true ∧ bestL r.1 = 2
        · rw [if_pos hc, if_pos ⟨hc.1, fun q => absurd q (by decide), hc.2⟩]
        · rw [if_neg hc, if_neg (fun q => hc ⟨q.1, q.2.2⟩)]
      clear HEX
      have HEX := HE2
      clear HE2
      obtain ⟨rl, rk⟩ := r
      unfold RDs at HD
      simp only at HD HEX HRS HRZ
      clear HTA HZD HYD
      have hix := decAt2
      have hB' := (Below.refl w.heap.size w).drew
      go_enter Tryz.func19, Tryz.ntmps19
      go_wp2_with (go_at_call 40; refine (HKZ.out _).mono ?_; rintro e w' ⟨rfl, rfl⟩)
      refine wp_region_held_drew (S := fun _ => True) (by kernel_rfl) trivial (fun hH => ?_)
      refine takeH (i := 3) (d := some 31) (v := .slice (some ⟨b, off, none⟩) n cap) rfl rfl (by kernel_rfl) (by kernel_rfl) (by kernel_rfl) (fun _ _ _ h => h) (Or.inl ⟨by rfl, fun W hSw => by go_simp⟩) hH ?_
      try simp only [put_some, List.set_cons_zero, List.set_cons_succ]
      refine takeH (i := 4) (d := some 32) (v := .slice (some ⟨b, tl, none⟩) (n - 1) (cap - 1)) rfl rfl (by kernel_rfl) (by kernel_rfl) (by kernel_rfl) (fun _ _ _ h => h) (Or.inl ⟨by rfl, fun W hSw => by go_simp⟩) hH ?_
      try simp only [put_some, List.set_cons_zero, List.set_cons_succ]
      refine takeH (i := 5) (d := some 33) (v := .int .i64 ty) rfl rfl (by kernel_rfl) (by kernel_rfl) (by kernel_rfl) (fun _ _ _ h => h) (Or.inl ⟨by rfl, fun W hSw => by go_simp⟩) hH ?_
      try simp only [put_some, List.set_cons_zero, List.set_cons_succ]
      refine takeH (i := 6) (d := some 34) (v := .int .i64 k) rfl rfl (by kernel_rfl) (by kernel_rfl) (by kernel_rfl) (fun _ _ _ h => h) (Or.inl ⟨by rfl, fun W hSw => by go_simp⟩) hH ?_
      try simp only [put_some, List.set_cons_zero, List.set_cons_succ]
      refine takeH (i := 1) (d := some 29) (v := .int .i64 2) rfl rfl (by kernel_rfl) (by kernel_rfl) (by kernel_rfl) (fun _ _ _ h => h) (Or.inl ⟨by rfl, fun W hSw => by go_simp⟩) hH ?_
      try simp only [put_some, List.set_cons_zero, List.set_cons_succ]
      refine wpAnyH_ready (rs := [0]) (by kernel_rfl) (by simp) ?_
      refine AllReadyH.cons rfl (fun K hK => ?_) AllReadyH.nil
      go_simp
      go_at_call 46
      refine (HDS.out _).mono ?_
      rintro e w2 ⟨rfl, hb2⟩
      have b2 := below_then hB' hb2 hB'.size
      clear hb2 hB' HDS
      go_wp2_with fail
      refine hK.out _ _ trivial (fun hH => ?_)
      clear hK K
      refine takeH (i := 2) (d := some 30) (v := .func (.func 82) #[] #[]) rfl rfl (by kernel_rfl) (by kernel_rfl) (by kernel_rfl) (fun _ _ _ h => h) (Or.inl ⟨by rfl, fun W hSw => by go_simp⟩) hH ?_
      try simp only [put_some, List.set_cons_zero, List.set_cons_succ]
      refine wpAnyH_ready (rs := [7]) (by kernel_rfl) (by simp) ?_
      refine AllReadyH.cons rfl (fun K hK => ?_) AllReadyH.nil
      go_simp
      go_at_call 82
      refine (HD.out _ b2).mono ?_
      rintro e w3 ⟨v3, rfl, o3, hb3⟩
      have B3 := below_then b2 hb3 b2.size
      have z3 := b2.size
      clear hb3 b2 HD htl hix hcell
      go_wp2_with fail
      refine hK.out _ _ trivial (fun hH => ?_)
      clear hK K
      refine takeH (i := 8) (d := some 27) (v := .tuple #[v3, .bool rk]) rfl rfl (by kernel_rfl) (by kernel_rfl) (by kernel_rfl) (fun _ _ _ h => h) (Or.inl ⟨by rfl, fun W hSw => by go_simp⟩) hH ?_
      try simp only [put_some, List.set_cons_zero, List.set_cons_succ]
      refine takeH (i := 9) (d := some 36) (v := v3) rfl rfl (by kernel_rfl) (by kernel_rfl) (by kernel_rfl) (fun _ _ _ h => h) (Or.inl ⟨by rfl, fun W hSw => by go_simp⟩) hH ?_
      try simp only [put_some, List.set_cons_zero, List.set_cons_succ]
      refine takeH (i := 10) (d := some 37) (v := .bool rk) rfl rfl (by kernel_rfl) (by kernel_rfl) (by kernel_rfl) (fun _ _ _ h => h) (Or.inl ⟨by rfl, fun W hSw => by go_simp⟩) hH ?_
      try simp only [put_some, List.set_cons_zero, List.set_cons_succ]
      refine takeH (i := 11) (d := some 9) (v := v3) rfl rfl (by kernel_rfl) (by kernel_rfl) (by kernel_rfl) (fun _ _ _ h => h) (Or.inl ⟨by rfl, fun W hSw => by go_simp⟩) hH ?_
      try simp only [put_some, List.set_cons_zero, List.set_cons_succ]
      refine takeH (i := 12) (d := some 10) (v := .bool rk) rfl rfl (by kernel_rfl) (by kernel_rfl) (by kernel_rfl) (fun _ _ _ h => h) (Or.inl ⟨by rfl, fun W hSw => by go_simp⟩) hH ?_
      try simp only [put_some, List.set_cons_zero, List.set_cons_succ]
      refine wpAnyH_done (by kernel_rfl) ?_ _
      have O3 := Lib.hid (o3.lower z3)
      clear o3 hH
      cases rk with
      | false =>
        have HF : Hid (R = ([], false)) := by
          show _ = _
          rw [HEX.out, if_neg (fun q => by cases q.1)]
        clear HEX HRS HRZ
        go_wp2
        go_ret2
        rw [HF.out]
        exact HNO.out _ B3
      | true =>
        have HC := Lib.hid (iBestKind v3 rl w3 (by omega) HRS.out O3.out.rd)
        have HY : Hid (bestL rl = 2 → R = (rl, true)) := fun a => by rw [HEX.out, if_pos ⟨rfl, a⟩]
        have HX : Hid (¬ bestL rl = 2 → R = ([], false)) := fun a => by rw [HEX.out, if_neg (fun q => a q.2)]
        clear HEX HRS
        generalize bestL rl = t at HC HY HX
        go_wp2_with fail
        refine HC.out.mono ?_
        rintro e w4 ⟨rfl, hb4⟩
        have B4 := below_then B3 hb4 B3.size
        by_cases ht : t = 2
        · have HF := Lib.hid (HY.out ht)
          subst ht
          have O4 := Lib.hid ((O3.out.below hb4 (Nat.le_refl _)).wide hb4.size)
          clear HX HY HC hb4 B3
          go_wp2
          go_ret2
          rw [HF.out]
          exact ⟨_, rfl, O4.out, B4⟩
        · have htb : (t != 2) = true := by simpa using ht
          have HF := Lib.hid (HX.out ht)
          clear HX HY ht HC hb4
          go_wp2
          go_ret2
          rw [HF.out]
          exact HNO.out _ B4
    · have HD := Lib.hid (fun W (hW : Below w.heap.size w W) => decFO _ (n - 1) (zs.drop 1) ty k W (by omega) HZD.out HYD.out (HTA.out W hW))
      have er : decB 3 (zs.drop 1) ty k = decF (zs.drop 1) k := rfl
      rw [er] at HEX HRS HRZ
      clear er
      generalize decF (zs.drop 1) k = r at HD HEX HRS HRZ
      have HE2 : Hid (R = if (if ty = 1 then r else ([], false)).2 = true ∧ bestL (if ty = 1 then r else ([], false)).1 = 3 then ((if ty = 1 then r else ([], false)).1, true) else ([], false)) := by
        show _ = _
        rw [HEX.out]
        by_cases ht : ty = 1
        · simp only [if_pos ht]
          by_cases hc : r.2 = true ∧ bestL r.1 = 3
          · rw [if_pos hc, if_pos ⟨hc.1, fun _ => ht, hc.2⟩]
          · rw [if_neg hc, if_neg (fun q => hc ⟨q.1, q.2.2⟩)]
        · simp only [if_neg ht]
          rw [if_neg (fun q => ht (q.2.1 trivial)), if_neg (fun q => by cases q.1)]
      have HR2 : Hid (∀ v ∈ (if ty = 1 then r else ([], false)).1, v.s.size ≤ maxLen) := by
        by_cases ht : ty = 1
        · simp only [if_pos ht]
          exact HRS.out
        · simp only [if_neg ht]
          exact fun _ h => by cases h
      have HR3 : (if ty = 1 then r else ([], false)).1.length ≤ 64 := by
        by_cases ht : ty = 1
        · simp only [if_pos ht]
          exact HRZ
        · simp only [if_neg ht]
          exact Nat.zero_le _
      clear HEX HRS HRZ
      generalize (if ty = 1 then r else ([], false)) = r2 at HD HE2 HR2 HR3
      obtain ⟨rl, rk⟩ := r2
      have HEX := HE2
      have HRS := HR2
      have HRZ := HR3
      clear HE2 HR2 HR3
      unfold RDs at HD
      simp only at HD HEX HRS HRZ
      clear HTA HZD HYD
      have hix := decAt3
      have hB' := (Below.refl w.heap.size w).drew
      go_enter Tryz.func19, Tryz.ntmps19
      go_wp2_with (go_at_call 40; refine (HKZ.out _).mono ?_; rintro e w' ⟨rfl, rfl⟩)
      refine wp_region_held_drew (S := fun _ => True) (by kernel_rfl) trivial (fun hH => ?_)
      refine takeH (i := 3) (d := some 31) (v := .slice (some ⟨b, off, none⟩) n cap) rfl rfl (by kernel_rfl) (by kernel_rfl) (by kernel_rfl) (fun _ _ _ h => h) (Or.inl ⟨by rfl, fun W hSw => by go_simp⟩) hH ?_
      try simp only [put_some, List.set_cons_zero, List.set_cons_succ]
      refine takeH (i := 4) (d := some 32) (v := .slice (some ⟨b, tl, none⟩) (n - 1) (cap - 1)) rfl rfl (by kernel_rfl) (by kernel_rfl) (by kernel_rfl) (fun _ _ _ h => h) (Or.inl ⟨by rfl, fun W hSw => by go_simp⟩) hH ?_
      try simp only [put_some, List.set_cons_zero, List.set_cons_succ]
      refine takeH (i := 5) (d := some 33) (v := .int .i64 ty) rfl rfl (by kernel_rfl) (by kernel_rfl) (by kernel_rfl) (fun _ _ _ h => h) (Or.inl ⟨by rfl, fun W hSw => by go_simp⟩) hH ?_
      try simp only [put_some, List.set_cons_zero, List.set_cons_succ]
      refine takeH (i := 6) (d := some 34) (v := .int .i64 k) rfl rfl (by kernel_rfl) (by kernel_rfl) (by kernel_rfl) (fun _ _ _ h => h) (Or.inl ⟨by rfl, fun W hSw => by go_simp⟩) hH ?_
      try simp only [put_some, List.set_cons_zero, List.set_cons_succ]
      refine takeH (i := 1) (d := some 29) (v := .int .i64 3) rfl rfl (by kernel_rfl) (by kernel_rfl) (by kernel_rfl) (fun _ _ _ h => h) (Or.inl ⟨by rfl, fun W hSw => by go_simp⟩) hH ?_
      try simp only [put_some, List.set_cons_zero, List.set_cons_succ]
      refine wpAnyH_ready (rs := [0]) (by kernel_rfl) (by simp) ?_
      refine AllReadyH.cons rfl (fun K hK => ?_) AllReadyH.nil
      go_simp
      go_at_call 46
      refine (HDS.out _).mono ?_
      rintro e w2 ⟨rfl, hb2⟩
      have b2 := below_then hB' hb2 hB'.size
      clear hb2 hB' HDS
      go_wp2_with fail
      refine hK.out _ _ trivial (fun hH => ?_)
      clear hK K
      refine takeH (i := 2) (d := some 30) (v := .func (.func 83) #[] #[]) rfl rfl (by kernel_rfl) (by kernel_rfl) (by kernel_rfl) (fun _ _ _ h => h) (Or.inl ⟨by rfl, fun W hSw => by go_simp⟩) hH ?_
      try simp only [put_some, List.set_cons_zero, List.set_cons_succ]
      refine wpAnyH_ready (rs := [7]) (by kernel_rfl) (by simp) ?_
      refine AllReadyH.cons rfl (fun K hK => ?_) AllReadyH.nil
      go_simp
      go_at_call 83
      refine (HD.out _ b2).mono ?_
      rintro e w3 ⟨v3, rfl, o3, hb3⟩
      have B3 := below_then b2 hb3 b2.size
      have z3 := b2.size
      clear hb3 b2 HD htl hix hcell
      go_wp2_with fail
      refine hK.out _ _ trivial (fun hH => ?_)
      clear hK K
      refine takeH (i := 8) (d := some 27) (v := .tuple #[v3, .bool rk]) rfl rfl (by kernel_rfl) (by kernel_rfl) (by kernel_rfl) (fun _ _ _ h => h) (Or.inl ⟨by rfl, fun W hSw => by go_simp⟩) hH ?_
      try simp only [put_some, List.set_cons_zero, List.set_cons_succ]
      refine takeH (i := 9) (d := some 36) (v := v3) rfl rfl (by kernel_rfl) (by kernel_rfl) (by kernel_rfl) (fun _ _ _ h => h) (Or.inl ⟨by rfl, fun W hSw => by go_simp⟩) hH ?_
      try simp only [put_some, List.set_cons_zero, List.set_cons_succ]
      refine takeH (i := 10) (d := some 37) (v := .bool rk) rfl rfl (by kernel_rfl) (by kernel_rfl) (by kernel_rfl) (fun _ _ _ h => h) (Or.inl ⟨by rfl, fun W hSw => by go_simp⟩) hH ?_
      try simp only [put_some, List.set_cons_zero, List.set_cons_succ]
      refine takeH (i := 11) (d := some 9) (v := v3) rfl rfl (by kernel_rfl) (by kernel_rfl) (by kernel_rfl) (fun _ _ _ h => h) (Or.inl ⟨by rfl, fun W hSw => by go_simp⟩) hH ?_
      try simp only [put_some, List.set_cons_zero, List.set_cons_succ]
      refine takeH (i := 12) (d := some 10) (v := .bool rk) rfl rfl (by kernel_rfl) (by kernel_rfl) (by kernel_rfl) (fun _ _ _ h => h) (Or.inl ⟨by rfl, fun W hSw => by go_simp⟩) hH ?_
      try simp only [put_some, List.set_cons_zero, List.set_cons_succ]
      refine wpAnyH_done (by kernel_rfl) ?_ _
      have O3 := Lib.hid (o3.lower z3)
      clear o3 hH
      cases rk with
      | false =>
        have HF : Hid (R = ([], false)) := by
          show _ = _
          rw [HEX.out, if_neg (fun q => by cases q.1)]
        clear HEX HRS HRZ
        go_wp2
        go_ret2
        rw [HF.out]
        exact HNO.out _ B3
      | true =>
        have HC := Lib.hid (iBestKind v3 rl w3 (by omega) HRS.out O3.out.rd)
        have HY : Hid (bestL rl = 3 → R = (rl, true)) := fun a => by rw [HEX.out, if_pos ⟨rfl, a⟩]
        have HX : Hid (¬ bestL rl = 3 → R = ([], false)) := fun a => by rw [HEX.out, if_neg (fun q => a q.2)]
        clear HEX HRS
        generalize bestL rl = t at HC HY HX
        go_wp2_with fail
        refine HC.out.mono ?_
        rintro e w4 ⟨rfl, hb4⟩
        have B4 := below_then B3 hb4 B3.size
        by_cases ht : t = 3
        · have HF := Lib.hid (HY.out ht)
          subst ht
          have O4 := Lib.hid ((O3.out.below hb4 (Nat.le_refl _)).wide hb4.size)
          clear HX HY HC hb4 B3
          go_wp2
          go_ret2
          rw [HF.out]
          exact ⟨_, rfl, O4.out, B4⟩
        · have htb : (t != 3) = true := by simpa using ht
          have HF := Lib.hid (HX.out ht)
          clear HX HY ht HC hb4
          go_wp2
          go_ret2
          rw [HF.out]
          exact HNO.out _ B4
  · have hki : Num.inB z 0 3 = false := Num.inB_false.2 (by omega)
    rw [hki] at HKZ
    rw [decB_no (by omega)] at HEX
    have HF : Hid (R = ([], false)) := by
      show _ = _
      rw [HEX.out, if_neg (fun q => by cases q.1)]
    rw [HF.out]
    clear hd HEX HRS HRZ HF HTA HZD HYD HDS hki
    go_enter Tryz.func19, Tryz.ntmps19
    go_wp2_with (go_at_call 40; refine (HKZ.out _).mono ?_; rintro e w' ⟨rfl, rfl⟩)
    go_ret2
    exact HNO.out _ HB1.out

end Go.Proofs.YthniakklkepomaaGreat

/- The law FnCols, walked. -/
namespace Go.Proofs.YthniakklkepomaaGreat
open Go.RowKit

set_option maxRecDepth 100000 in
set_option maxHeartbeats 4000000 in
theorem lawFnCols (c : Code) (w : World) (h : c.len ≤ 1048576 → c.In w) :
    Calls Tryz.prog 3 #[.slice c.a c.len c.cap] w fun e w' => e = .returned (.bool true) ∧ Below w.heap.size w w' := by
  by_cases hbig : 1048576 < c.len
  · go_enter Tryz.func3, Tryz.ntmps3
    go_wp2_with (go_at_call 6; refine (big_yes _ _ _ _ hbig).mono ?_; rintro e w' ⟨rfl, rfl⟩)
    go_ret
    exact ⟨rfl, Below.refl _ _⟩
  · have hin := h (by omega)
    clear h
    go_enter Tryz.func3, Tryz.ntmps3
    go_wp2_with fail
    refine (big_no _ _ _ _ (by omega)).mono ?_
    rintro e w' ⟨rfl, rfl⟩
    go_wp2_with fail
    refine (drawEncCol c _ hin).mono ?_
    rintro e w1 ⟨v1, l, rfl, hl, o1, b1⟩
    have HSZ := Lib.hid hl.sizes
    have hl16 := hl.1
    clear hl
    obtain ⟨bl, cl, hv1⟩ := o1.shape
    subst hv1
    go_wp2_with fail
    refine (iEncCol _ l w1 (by omega) HSZ.out o1.rd).mono ?_
    rintro e w2 ⟨v2, rfl, o2, b2⟩
    have B2 := below_then b1 b2 b1.size
    have L2 := (o1.below b2 (Nat.le_refl _)).wide b2.size
    obtain ⟨be, ce, hv2⟩ := o2.shape
    subst hv2
    clear o1 b2
    go_wp2_with fail
    refine (drawEncBy c _ (hin.below B2)).mono ?_
    rintro e w3 ⟨v3, x, m, rfl, hm, o3, b3⟩
    have HSM := Lib.hid hm.sizes
    have hm16 := hm.1
    have B3 := below_then B2 b3 B2.size
    have L3 := (L2.below b3 (Nat.le_refl _)).wide b3.size
    have R3 := (o2.below b3 (Nat.le_refl _)).wide b3.size
    obtain ⟨bo, co, hv3⟩ := o3.shape
    subst hv3
    clear L2 o2 b3 b1 B2 hm hin
    have HB0 := Lib.hid (Below.refl w3.heap.size w3)
    have hLl : Hid (∀ W, Below w3.heap.size w3 W → Rd 3 W (.slice (some ⟨bl, 0, none⟩) l.length cl) l.length (vals l)) := fun W hW => L3.rd.below hW
    have hBb : Hid (∀ W, Below w3.heap.size w3 W → At 1 W (.slice (some ⟨be, 0, none⟩) (encC l).length ce) (encC l).length (ints .u8 (encC l))) := fun W hW => R3.at.below hW
    have hMm : Hid (∀ W, Below w3.heap.size w3 W → Rd 3 W (.slice (some ⟨bo, 0, none⟩) m.length co) m.length (vals m)) := fun W hW => o3.rd.below hW
    have HSE := Lib.hid (fun W hW => sEncCol _ l W (by omega) HSZ.out (hLl.out W hW))
    have HSK := Lib.hid (fun W hW => sBestKind _ l W (by omega) HSZ.out (hLl.out W hW))
    have HIK := Lib.hid (fun W hW => iBestKind _ l W (by omega) HSZ.out (hLl.out W hW))
    have HSV := Lib.hid (fun W hW => sSaved _ l W (by omega) HSZ.out (hLl.out W hW))
    have HIV := Lib.hid (fun W hW => iSaved _ l W (by omega) HSZ.out (hLl.out W hW))
    have HIT := Lib.hid (fun W hW => iTypeOf _ l W (by omega) HSZ.out (hLl.out W hW))
    have HSB := Lib.hid (fun W hW => sEncBy _ x m W (by omega) HSM.out (hMm.out W hW))
    have HIB := Lib.hid (fun W hW => iEncBy _ x m W (by omega) HSM.out (hMm.out W hW))
    have HIE := Lib.hid (fun k W hW => iEncBy _ k l W (by omega) HSZ.out (hLl.out W hW))
    have HID := Lib.hid (fun ty k W hW => iDecCol _ (encC l).length (encC l) ty k W (by have := encC_len l; omega) rfl (encC_bytes l) (hBb.out W hW))
    have HDE : Hid (¬ typeV l = 0 → decC (encC l) (typeV l) l.length = (l, true)) := decC_enc
    have HMIN : Hid (¬ typeV l = 0 → ∀ k, 0 < (encB k l).length → (encC l).length ≤ (encB k l).length + 1) := fun h k hk => encC_min h hk
    have HBL := Lib.hid (fun k => encB_len k l)
    have HE0 : Hid (typeV l = 0 → (encC l).length = 0 ∧ bestL l = -1) := fun h => by
      rw [encC_no h]
      exact ⟨rfl, bestL_no h⟩
    have hel := encC_len l
    have hkk : (bestL l != bestL l) = false := by simp
    have hss : (savedL l != savedL l) = false := by simp
    generalize bestL l = bk at HSK HIK HE0 hkk
    generalize savedL l = sv at HSV HIV hss
    generalize hxm : encB x m = X at HSB HIB
    clear hxm
    generalize hxn : X.length = xn at HSB HIB
    have HXN := Lib.hid hxn
    generalize hnn : l.length = n at hLl HSE HSK HIK HSV HIV HIT HIE HDE hl16 ⊢
    have HNN := Lib.hid hnn
    generalize hmm : m.length = mn at hMm HSB HIB hm16 ⊢
    generalize hcc : (encC l).length = ec at hBb HSE HID HE0 HMIN hel ⊢
    have HCC := Lib.hid hcc
    clear hnn hmm hcc hxn L3 o3 R3
    go_wp2_with fail
    refine (HSE.out _ HB0.out).mono ?_
    rintro e w4 ⟨v4, rfl, o4, b4⟩
    have hb4 := below_then HB0.out b4 (Nat.le_refl _)
    have hs4 := Lib.hid (same _ v4 ec (encC l) w4 HCC.out (hBb.out _ hb4) o4.at)
    obtain ⟨b4', c4', hv4⟩ := o4.shape
    subst hv4
    clear o4 b4 HSE
    go_wp2_with fail
    refine hs4.out.mono ?_
    rintro e w5 ⟨rfl, b5⟩
    have hb5 := below_then hb4 b5 hb4.size
    clear b5 hb4 hs4
    go_wp2_with fail
    refine (HIK.out _ hb5).mono ?_
    rintro e w6 ⟨rfl, b6⟩
    have hb6 := below_then hb5 b6 hb5.size
    clear b6 hb5
    go_wp2_with fail
    refine (HSK.out _ hb6).mono ?_
    rintro e w7 ⟨rfl, b7⟩
    have hb7 := below_then hb6 b7 hb6.size
    clear b7 hb6 HSK
    go_wp2_with fail
    refine (HIB.out _ hb7).mono ?_
    rintro e w8 ⟨v8, rfl, o8, b8⟩
    have hb8 := below_then hb7 b8 hb7.size
    obtain ⟨b8', c8', hv8⟩ := o8.shape
    subst hv8
    clear b8 hb7 HIB
    go_wp2_with fail
    refine (HSB.out _ hb8).mono ?_
    rintro e w9 ⟨v9, rfl, o9, b9⟩
    have hb9 := below_then hb8 b9 hb8.size
    have hs9 := Lib.hid (same _ v9 xn X w9 HXN.out (o8.below b9 (Nat.le_refl _)).at o9.at)
    obtain ⟨b9', c9', hv9⟩ := o9.shape
    subst hv9
    clear o9 b9 HSB hb8 o8
    go_wp2_with fail
    refine hs9.out.mono ?_
    rintro e w10 ⟨rfl, b10⟩
    have hb10 := below_then hb9 b10 hb9.size
    clear b10 hb9 hs9
    go_wp2_with fail
    refine (HIV.out _ hb10).mono ?_
    rintro e w11 ⟨rfl, b11⟩
    have hb11 := below_then hb10 b11 hb10.size
    clear b11 hb10 HIV
    go_wp2_with fail
    refine (HSV.out _ hb11).mono ?_
    rintro e w12 ⟨rfl, b12⟩
    have hb12 := below_then hb11 b12 hb11.size
    clear b12 hb11 HSV
    go_wp2_with fail
    refine (HIT.out _ hb12).mono ?_
    rintro e w13 ⟨rfl, b13⟩
    have hb13 := below_then hb12 b13 hb12.size
    clear b13 hb12 HIT
    by_cases ht : typeV l = 0
    · obtain ⟨rfl, rfl⟩ := HE0.out ht
      rw [ht]
      clear ht HE0 HDE HMIN HID HIE
      go_wp2_with fail
      refine (HIK.out _ hb13).mono ?_
      rintro e w14 ⟨rfl, b14⟩
      have hb14 := below_then hb13 b14 hb13.size
      have B14 := below_then B3 hb14 B3.size
      clear b14 hb13 HIK
      go_wp2
      go_ret
      exact ⟨rfl, B14⟩
    · have htb : (typeV l == 0) = false := by simpa using ht
      have HDE2 := Lib.hid (HDE.out ht)
      have HM2 := Lib.hid (HMIN.out ht)
      have HID2 := Lib.hid (HID.out (typeV l) n)
      rw [HDE2.out] at HID2
      unfold RDs at HID2
      simp only at HID2
      rw [HNN.out] at HID2
      clear ht HDE HMIN HE0 HID HDE2 HIK
      generalize typeV l = ty at htb HID2 ⊢
      go_wp2_with fail
      go_loopw [8] (fun i wr => ∃ k : Nat, k ≤ 4 ∧ i = .int .i64 k ∧ Below w3.heap.size w3 wr) (fun i _ => 4 - (intOf i).toNat)
      case atStart => exact ⟨0, by omega, rfl, hb13⟩
      case round =>
        obtain ⟨k, hk, rfl, hbr⟩ := hrel
        by_cases hlt : k < 4
        · have hle : (k : Int) ≤ 3 := by omega
          have HK := Lib.hid (HIE.out (k : Int) wr hbr)
          have hmk := HM2.out (k : Int)
          have hbk := HBL.out (k : Int)
          generalize encB (k : Int) l = Y at HK hmk hbk
          generalize Y.length = yn at HK hmk hbk
          go_wp2_with fail
          refine HK.out.mono ?_
          rintro e w14 ⟨v14, rfl, o14, b14⟩
          have hb14 := below_then hbr b14 hbr.size
          obtain ⟨b14', c14', hv14⟩ := o14.shape
          subst hv14
          clear o14 b14 HK
          by_cases hy : 0 < yn
          · have hmn := hmk hy
            have hnl : ¬ ((yn : Int) + 1 < (ec : Int)) := by omega
            have hyi : (0 : Int) < (yn : Int) := by omega
            clear hmk
            go_wp2
            go_roundw
            case rel => exact ⟨k + 1, by omega, by go_num, hb14⟩
            case measure => simp [intOf]; omega
          · obtain rfl : yn = 0 := by omega
            clear hmk
            go_wp2
            go_roundw
            case rel => exact ⟨k + 1, by omega, by go_num, hb14⟩
            case measure => simp [intOf]; omega
        · obtain rfl : k = 4 := by omega
          clear hlt hk
          go_wp2_with fail
          refine (HID2.out _ hbr).mono ?_
          rintro e w15 ⟨v15, rfl, o15, b15⟩
          have hb15 := below_then hbr b15 hbr.size
          obtain ⟨b15', c15', hv15⟩ := o15.shape
          subst hv15
          have HS16 := Lib.hid (sameVals _ _ n l w15 HNN.out o15.rd (hLl.out _ hb15))
          clear b15 o15 HID2
          go_wp2_with fail
          refine HS16.out.mono ?_
          rintro e w16 ⟨rfl, b16⟩
          have hb16 := below_then hb15 b16 hb15.size
          have B16 := below_then B3 hb16 B3.size
          clear b16 hb15 HS16
          go_wp2
          go_ret
          exact ⟨rfl, B16⟩

end Go.Proofs.YthniakklkepomaaGreat

/- The program's contract of KindText (written by mk_I9.py). -/
namespace Go.Proofs.YthniakklkepomaaGreat
open Go.RowKit

set_option maxHeartbeats 1000000 in
theorem iKindText : CKindText := by
  intro n w
  have HI := Lib.hid (fun W => kindIs n W)
  cases hk : Num.inB n 0 3 with
  | false =>
    rw [hk] at HI
    have HK := Lib.hid (kindT_no (Num.inB_false.1 hk))
    generalize kindT n = s at HK ⊢
    clear hk
    go_enter Tryz.func25, Tryz.ntmps25
    go_wp2_with (go_at_call 40; refine (HI.out _).mono ?_; clear HI; rintro e w' ⟨rfl, rfl⟩)
    go_ret
    exact ⟨by rw [HK.out]; rfl, Below.refl _ _⟩
  | true =>
    have hb := Num.inB_true.1 hk
    rw [hk] at HI
    clear hk
    obtain ⟨⟨c0, c1, c2, c3⟩, f0, f1, f2, f3⟩ := quad_new w (.string ⟨#[]⟩) (.string ⟨#[]⟩) (.string ⟨#[]⟩) (.string ⟨#[]⟩) 65
    have B := below_alloc w (.cells #[.string ⟨#[112, 108, 97, 105, 110]⟩, .string ⟨#[114, 117, 110, 115]⟩, .string ⟨#[100, 105, 99, 116]⟩, .string ⟨#[102, 114, 97, 109, 101]⟩] 65)
    obtain ⟨⟨d0, d1, d2, d3⟩, _⟩ := quad_new w (.string ⟨#[112, 108, 97, 105, 110]⟩) (.string ⟨#[114, 117, 110, 115]⟩) (.string ⟨#[100, 105, 99, 116]⟩) (.string ⟨#[102, 114, 97, 109, 101]⟩) 65
    have h4 : n = 0 ∨ n = 1 ∨ n = 2 ∨ n = 3 := by omega
    clear hb
    rcases h4 with rfl | rfl | rfl | rfl
    all_goals
      go_enter Tryz.func25, Tryz.ntmps25
      go_wp2_with (go_at_call 40; refine (HI.out _).mono ?_; clear HI; rintro e w' ⟨rfl, rfl⟩)
      go_ret
      exact ⟨rfl, B⟩

end Go.Proofs.YthniakklkepomaaGreat

/- The law FnColsBent, walked. -/
namespace Go.Proofs.YthniakklkepomaaGreat
open Go.RowKit

set_option maxRecDepth 100000 in
set_option maxHeartbeats 4000000 in
theorem lawFnColsBent (c : Code) (w : World) (h : c.len ≤ 1048576 → c.In w) :
    Calls Tryz.prog 4 #[.slice c.a c.len c.cap] w fun e w' => e = .returned (.bool true) ∧ Below w.heap.size w w' := by
  by_cases hbig : 1048576 < c.len
  · go_enter Tryz.func4, Tryz.ntmps4
    go_wp2_with (go_at_call 6; refine (big_yes _ _ _ _ hbig).mono ?_; rintro e w' ⟨rfl, rfl⟩)
    go_ret
    exact ⟨rfl, Below.refl _ _⟩
  · have hin := h (by omega)
    clear h
    go_enter Tryz.func4, Tryz.ntmps4
    go_wp2_with fail
    refine (big_no _ _ _ _ (by omega)).mono ?_
    rintro e w' ⟨rfl, rfl⟩
    go_wp2_with fail
    refine (drawDecCol c _ hin).mono ?_
    rintro e w1 ⟨v1, zs, ty, k, rfl, _, _, hby, hzl, o1, b1⟩
    obtain ⟨bb, cb, hv1⟩ := o1.shape
    subst hv1
    have hBb : Hid (∀ W, Below w1.heap.size w1 W → At 1 W (.slice (some ⟨bb, 0, none⟩) zs.length cb) zs.length (ints .u8 zs)) := fun W hW => o1.at.below hW
    have HID := Lib.hid (fun W hW => iDecCol _ zs.length zs ty k W (by omega) rfl hby (hBb.out W hW))
    have HSD := Lib.hid (fun W hW => sDecCol _ zs.length zs ty k W (by omega) rfl hby (hBb.out W hW))
    have HDK := Lib.hid (decC_ok hby (ty := ty) (k := k))
    have HDS := Lib.hid (decC_sz zs ty k)
    have HDL := Lib.hid (decC_len zs ty k)
    clear o1
    generalize hd : decC zs ty k = d at HID HSD HDK HDS HDL
    obtain ⟨dl, dk⟩ := d
    unfold RDs at HID HSD
    simp only at HID HSD HDK HDS HDL
    have hdl := HDL.out
    clear hd HDL
    generalize hzn : zs.length = zn at hBb HID HSD hzl ⊢
    have HZN := Lib.hid hzn
    clear hzn
    go_wp2_with fail
    refine (HID.out _ (Below.refl _ _)).mono ?_
    rintro e w2 ⟨v2, rfl, o2, b2⟩
    obtain ⟨bl, cl, hv2⟩ := o2.shape
    subst hv2
    have B2 := below_then b1 b2 b1.size
    clear HID
    go_wp2_with fail
    refine (HSD.out _ b2).mono ?_
    rintro e w3 ⟨v3, rfl, o3, b3⟩
    obtain ⟨bm, cm, hv3⟩ := o3.shape
    subst hv3
    have hb3 := below_then b2 b3 b2.size
    have B3 := below_then B2 b3 B2.size
    have L3 := (o2.below b3 (Nat.le_refl _)).rd
    have M3 := o3.rd
    clear HSD o2 b2 b3 B2 o3 b1
    generalize hdn : dl.length = dn at L3 M3 hdl ⊢
    have HDN := Lib.hid hdn
    clear hdn
    go_wp2_with fail
    refine (drawKindText c _ (hin.below B3)).mono ?_
    rintro e w4 ⟨x, rfl, b4⟩
    have B4 := below_then B3 b4 B3.size
    have hb4 := below_then hb3 b4 hb3.size
    replace L3 := L3.below b4
    replace M3 := M3.below b4
    clear b4 hb3 B3
    go_wp2_with fail
    refine (drawVals c _ (hin.below B4)).mono ?_
    rintro e w5 ⟨v5, y, rfl, hy, o5, b5⟩
    obtain ⟨b5', c5', hv5⟩ := o5.shape
    subst hv5
    have B5 := below_then B4 b5 B4.size
    have hb5 := below_then hb4 b5 hb4.size
    replace L3 := L3.below b5
    replace M3 := M3.below b5
    have hy16 := hy.1
    have HYS := Lib.hid hy.sizes
    have HIK := Lib.hid (fun W => iKindText x W)
    have HSK := Lib.hid (fun W => sKindText x W)
    have hq : ((kindT x).toList == (kindT x).toList) = true := by simp
    generalize kindT x = s at HIK HSK hq
    have HIC := Lib.hid (fun W (hW : Below w5.heap.size w5 W) => iEncCol _ y W (by omega) HYS.out (o5.rd.below hW))
    have HIP := Lib.hid (fun W (hW : Below w5.heap.size w5 W) => iEncPlain _ y W (by omega) HYS.out (o5.rd.below hW))
    have hpl := encC_plain y
    have hcl := encC_len y
    have hpb := encB_len 0 y
    rw [encB0] at hpb
    generalize encC y = cy at HIC hpl hcl
    generalize encP y = py at HIP hpl hpb
    generalize cy.length = cn at HIC hpl hcl
    generalize py.length = pn at HIP hpl hpb
    have HI1 := Lib.hid (sameVals _ _ dn dl w5 HDN.out L3 M3)
    have HI6 := Lib.hid (fun W (hW : Below w5.heap.size w5 W) => iEncCol _ dl W (by rw [HDN.out]; omega) HDS.out (by rw [HDN.out]; exact L3.below hW))
    have HI7 := Lib.hid (fun W (hW : Below w5.heap.size w5 W) => iTypeOf _ dl W (by rw [HDN.out]; omega) HDS.out (by rw [HDN.out]; exact L3.below hW))
    have HBB : Hid (∀ W, Below w5.heap.size w5 W → At 1 W (.slice (some ⟨bb, 0, none⟩) zn cb) zn (ints .u8 zs)) := fun W hW => hBb.out W (below_then hb5 hW hb5.size)
    have hkk : (dk != dk) = false := by simp
    clear L3 M3 hb5 hBb o5 hb4 B4 hy b5 hin
    generalize y.length = yn at HIC HIP hy16 ⊢
    go_wp2_with fail
    refine HI1.out.mono ?_
    rintro e w6 ⟨rfl, hb6⟩
    have B6 := below_then B5 hb6 B5.size
    clear HI1
    go_wp2_with fail
    refine (HIK.out _).mono ?_
    rintro e w7 ⟨rfl, b7⟩
    have hb7 := below_then hb6 b7 hb6.size
    clear HIK b7 hb6 B6
    go_wp2_with fail
    refine (HSK.out _).mono ?_
    rintro e w8 ⟨rfl, b8⟩
    have hb8 := below_then hb7 b8 hb7.size
    clear HSK b8 hb7
    go_wp2_with fail
    refine (HIC.out _ hb8).mono ?_
    rintro e w9 ⟨v9, rfl, o9, b9⟩
    have hb9 := below_then hb8 b9 hb8.size
    obtain ⟨b9', c9', hv9⟩ := o9.shape
    subst hv9
    clear HIC b9 hb8 o9
    go_wp2_with fail
    refine (HIP.out _ hb9).mono ?_
    rintro e w10 ⟨v10, rfl, o10, b10⟩
    have hb10 := below_then hb9 b10 hb9.size
    have B10 := below_then B5 hb10 B5.size
    obtain ⟨b10', c10', hv10⟩ := o10.shape
    subst hv10
    have hng : ¬ ((pn : Int) + 1 < (cn : Int)) := by omega
    clear HIP b10 hb9 o10
    cases dk with
    | false =>
      go_wp2
      go_ret
      exact ⟨rfl, B10⟩
    | true =>
      obtain ⟨hd1, hd2, hd3⟩ := HDK.out rfl
      have HD1 := Lib.hid hd1
      rw [HDN.out] at hd2
      subst hd2
      rw [hd3] at HI7
      have hdd : ((dn : Int) == (dn : Int)) = true := by simp
      have htt : (ty == ty) = true := by simp
      clear hd1 HDK hd3
      rw [HD1.out] at HI6
      rw [HZN.out] at HI6
      go_wp2_with fail
      refine (HI6.out _ hb10).mono ?_
      rintro e w11 ⟨v11, rfl, o11, b11⟩
      have hb11 := below_then hb10 b11 hb10.size
      obtain ⟨b11', c11', hv11⟩ := o11.shape
      subst hv11
      have HS12 := Lib.hid (same _ _ zn zs w11 HZN.out o11.at (HBB.out _ hb11))
      clear HI6 hb10 b11 B10 o11
      go_wp2_with fail
      refine HS12.out.mono ?_
      rintro e w12 ⟨rfl, b12⟩
      have hb12 := below_then hb11 b12 hb11.size
      clear HS12 b12 hb11
      go_wp2_with fail
      refine (HI7.out _ hb12).mono ?_
      rintro e w13 ⟨rfl, b13⟩
      have hb13 := below_then hb12 b13 hb12.size
      have B13 := below_then B5 hb13 B5.size
      clear HI7 b13 hb12
      go_wp2
      go_ret
      exact ⟨rfl, B13⟩

end Go.Proofs.YthniakklkepomaaGreat
