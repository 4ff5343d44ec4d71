/- Texts of this claim, one behind the other: I9, I9b. -/
import Derived.Test.YtkofafefnlommaaGreatP28
import Derived.Test.YtkofafefnlommaaGreatP23
import Derived.Test.YtkofafefnlommaaGreatP27
import Derived.Test.YtkofafefnlommaaGreatP38
import Derived.Test.YtkofafefnlommaaGreatP34

/- The program's contracts of chapter 9 but DecCol's (written by mk_I9.py). -/
namespace Go.Proofs.YtkofafefnlommaaGreat
open Go.RowKit

theorem kindIs (k : Int) (w : World) : Calls Tryz.prog 108 #[.int .i64 k] w fun e w' => e = .returned (.bool (Num.inB k 0 3)) ∧ w = w' := by
  by_cases h0 : 0 ≤ k
  · by_cases h3 : k < 4
    · have e : Num.inB k 0 3 = true := Num.inB_true.2 ⟨h0, by omega⟩
      rw [e]
      go_enter Tryz.func108, Tryz.ntmps108
      go_wp2
      go_ret
      exact ⟨rfl, rfl⟩
    · have e : Num.inB k 0 3 = false := Num.inB_false.2 (by omega)
      rw [e]
      go_enter Tryz.func108, Tryz.ntmps108
      go_wp2
      go_ret
      exact ⟨rfl, rfl⟩
  · have e : Num.inB k 0 3 = false := Num.inB_false.2 (by omega)
    rw [e]
    go_enter Tryz.func108, Tryz.ntmps108
    go_wp2
    go_ret
    exact ⟨rfl, rfl⟩

/-- Four cells of a block that may be written. -/
def Quad (W : World) (b : Nat) (x y z u : Value) : Prop :=
  (W.cell? ⟨b, 0, none⟩ = some x ∧ W.cell? ⟨b, 1, none⟩ = some y ∧ W.cell? ⟨b, 2, none⟩ = some z ∧ W.cell? ⟨b, 3, none⟩ = some u) ∧
  W.frozen? ⟨b, 0, none⟩ = false ∧ W.frozen? ⟨b, 1, none⟩ = false ∧ W.frozen? ⟨b, 2, none⟩ = false ∧ W.frozen? ⟨b, 3, none⟩ = false
theorem quad_new (w : World) (x y z u : Value) (e : TypeId) : Quad (w.alloc (.cells #[x, y, z, u] e)) w.heap.size x y z u := ⟨⟨by simp, by simp, by simp, by simp⟩, by simp, by simp, by simp, by simp⟩
/-- A declared function as a value. -/
def fnV (f : FuncId) : Value := .func (.func f) #[] #[]

theorem encs (w : World) : Calls Tryz.prog 105 #[] w fun e w' => e = .returned (.agg #[.func (.func 131) #[] #[], .func (.func 132) #[] #[], .func (.func 133) #[] #[], .func (.func 134) #[] #[]]) ∧ Below w.heap.size w w' := by
  obtain ⟨⟨c0, c1, c2, c3⟩, f0, f1, f2, f3⟩ := quad_new w .nilFunc .nilFunc .nilFunc .nilFunc 108
  have hst : ∀ fn f c a W, Sem.run Tryz.prog (store a (.func fn f c)) W = stored Tryz.prog W a (.func fn f c) .plain := fun _ _ _ _ _ => run_store _ _ _ _ _ rfl
  go_enter Tryz.func105, Tryz.ntmps105
  go_wp2
  clear c0 c1 c2 c3 f0 f1 f2 f3
  obtain ⟨⟨c0, c1, c2, c3⟩, _⟩ := quad_new w (.func (.func 131) #[] #[]) (.func (.func 132) #[] #[]) (.func (.func 133) #[] #[]) (.func (.func 134) #[] #[]) 108
  exact bodyPost_ret (v := .agg #[.func (.func 131) #[] #[], .func (.func 132) #[] #[], .func (.func 133) #[] #[], .func (.func 134) #[] #[]]) (by simp [results, Tryz.results105, go_sem, *]) rfl ⟨rfl, below_alloc w _⟩
theorem encAt0 (W : World) : (Instr.index 108 (.agg #[.func (.func 131) #[] #[], .func (.func 132) #[] #[], .func (.func 133) #[] #[], .func (.func 134) #[] #[]]) (.int .i64 0)).run Tryz.prog W = .ok (.func (.func 131) #[] #[]) W := by kernel_rfl
theorem encAt1 (W : World) : (Instr.index 108 (.agg #[.func (.func 131) #[] #[], .func (.func 132) #[] #[], .func (.func 133) #[] #[], .func (.func 134) #[] #[]]) (.int .i64 1)).run Tryz.prog W = .ok (.func (.func 132) #[] #[]) W := by kernel_rfl
theorem encAt2 (W : World) : (Instr.index 108 (.agg #[.func (.func 131) #[] #[], .func (.func 132) #[] #[], .func (.func 133) #[] #[], .func (.func 134) #[] #[]]) (.int .i64 2)).run Tryz.prog W = .ok (.func (.func 133) #[] #[]) W := by kernel_rfl
theorem encAt3 (W : World) : (Instr.index 108 (.agg #[.func (.func 131) #[] #[], .func (.func 132) #[] #[], .func (.func 133) #[] #[], .func (.func 134) #[] #[]]) (.int .i64 3)).run Tryz.prog W = .ok (.func (.func 134) #[] #[]) W := by kernel_rfl

end Go.Proofs.YtkofafefnlommaaGreat

/- The program's contracts of chapter 9: shortest, BestKind, EncCol, Saved, KindText (written by mk_I9.py). -/
namespace Go.Proofs.YtkofafefnlommaaGreat
open Go.RowKit

/-- The best of the first k kinds, -1 for none. -/
def bestN (l : List V) : Nat → Int
  | 0 => -1
  | k + 1 => bestK l k
theorem bestN_zero (l : List V) : bestN l 0 = -1 := rfl
theorem bestN_nn (l : List V) (k : Nat) : 0 ≤ bestN l (k + 1) ∧ bestN l (k + 1) ≤ k := by
  have := bestK_le l k
  have e : bestN l (k + 1) = (bestK l k : Int) := rfl
  omega
theorem bestN_le (l : List V) : ∀ k, -1 ≤ bestN l k ∧ bestN l k ≤ k
  | 0 => by rw [bestN_zero]; omega
  | k + 1 => by have := bestN_nn l k; omega

set_option maxRecDepth 100000 in
set_option maxHeartbeats 4000000 in
theorem shortest (u : Value) (l : List V) (w : World) (hn : l.length ≤ 1048576) (hss : ∀ v ∈ l, v.s.size ≤ maxLen) (h : Rd 3 w u l.length (vals l)) :
    Calls Tryz.prog 77 #[u] w fun e w' => ∃ v', e = .returned (.tuple #[.int .i64 (bestL l), v']) ∧ Own 5 1 w.heap.size w'.heap.size w' v' (encB (bestL l) l).length (ints .u8 (encB (bestL l) l)) ∧ Below w.heap.size w w' := by
  have H0 : Hid (∀ W, Below w.heap.size w W → Calls Tryz.prog 131 #[u] W fun e w' => ∃ v', e = .returned v' ∧ Own 5 1 W.heap.size w'.heap.size w' v' (encB 0 l).length (ints .u8 (encB 0 l)) ∧ Below W.heap.size W w') := fun W hW => iEncPlain u l W hn hss (h.below hW)
  have H1 : Hid (∀ W, Below w.heap.size w W → Calls Tryz.prog 132 #[u] W fun e w' => ∃ v', e = .returned v' ∧ Own 5 1 W.heap.size w'.heap.size w' v' (encB 1 l).length (ints .u8 (encB 1 l)) ∧ Below W.heap.size W w') := fun W hW => iEncRuns u l W hn hss (h.below hW)
  have H2 : Hid (∀ W, Below w.heap.size w W → Calls Tryz.prog 133 #[u] W fun e w' => ∃ v', e = .returned v' ∧ Own 5 1 W.heap.size w'.heap.size w' v' (encB 2 l).length (ints .u8 (encB 2 l)) ∧ Below W.heap.size W w') := fun W hW => iEncDict u l W hn hss (h.below hW)
  have H3 : Hid (∀ W, Below w.heap.size w W → Calls Tryz.prog 134 #[u] W fun e w' => ∃ v', e = .returned v' ∧ Own 5 1 W.heap.size w'.heap.size w' v' (encB 3 l).length (ints .u8 (encB 3 l)) ∧ Below W.heap.size W w') := fun W hW => iEncFrame u l W hn hss (h.below hW)
  have hown0 := own_lit (e := 5) (size := 1) w #[] 0 (Nat.zero_le _) rfl
  have hb0 := below_alloc w (.cells #[] 5)
  have HT := Lib.hid (iTypeOf u l _ hn hss (h.below hb0))
  have HE := Lib.hid (fun W => encs W)
  have HNO : Hid (typeV l = 0 → bestL l = -1) := bestL_no
  have HYES : Hid (¬ typeV l = 0 → bestL l = bestN l 4) := bestL_yes
  have HST : Hid (∀ k, bestN l (k + 2) = if (k + 1 ≠ 3 ∨ typeV l = 1) ∧ (encB ((k + 1 : Nat) : Int) l).length < (encB (bestN l (k + 1)) l).length then ((k + 1 : Nat) : Int) else bestN l (k + 1)) := fun k => by
    show ((bestK l (k + 1) : Nat) : Int) = _
    show _ = if (k + 1 ≠ 3 ∨ typeV l = 1) ∧ (encB ((k + 1 : Nat) : Int) l).length < (encB (bestK l k) l).length then ((k + 1 : Nat) : Int) else (bestK l k : Int)
    rw [bestK]
    split <;> rfl
  have hbl := bestL_in l
  have HNB : Hid (encB (-1) l = []) := encB_no (by omega) l
  generalize typeV l = ty at HT HNO HYES HST
  generalize bestL l = R at HNO HYES hbl ⊢
  clear h hss hn
  go_enter Tryz.func77, Tryz.ntmps77
  go_wp2_with fail
  refine HT.out.mono ?_
  rintro e w1 ⟨rfl, hb1⟩
  have b1 := below_then hb0 hb1 hb0.size
  have O1 := (hown0.below hb1 (by simp)).wide hb1.size
  clear HT hb1 hown0 hb0
  by_cases ht : ty = 0
  · subst ht
    obtain rfl := HNO.out rfl
    clear HNO HYES HST HE H0 H1 H2 H3
    have OO := Lib.hid O1
    clear O1
    go_wp2
    go_ret2
    exact ⟨_, rfl, by rw [HNB.out]; exact OO.out, b1⟩
  · have htb : (ty == 0) = false := by simpa using ht
    have HR := Lib.hid (HYES.out ht)
    clear ht HNO HYES
    go_wp2_with fail
    refine (HE.out _).mono ?_
    rintro e w2 ⟨rfl, hb2⟩
    have B2 := below_then b1 hb2 b1.size
    have O2 := (O1.below hb2 (Nat.le_refl _)).wide hb2.size
    clear hb2 b1 O1 HE
    go_wp2_with fail
    go_loopw [4, 5, 18] (fun b c i wr => ∃ k : Nat, k ≤ 4 ∧ i = .int .i64 k ∧ b = .int .i64 (bestN l k) ∧ Own 5 1 w.heap.size wr.heap.size wr c (encB (bestN l k) l).length (ints .u8 (encB (bestN l k) l)) ∧ Below w.heap.size w wr) (fun _ _ i _ => 4 - (intOf i).toNat)
    case atStart => exact ⟨0, by omega, rfl, rfl, by rw [bestN_zero, HNB.out]; exact O2, B2⟩
    case round =>
      obtain ⟨k, hk, rfl, rfl, hown, hbr⟩ := hrel
      have h5 : k = 0 ∨ k = 1 ∨ k = 2 ∨ k = 3 ∨ k = 4 := by omega
      clear hk O2 B2
      rcases h5 with rfl | rfl | rfl | rfl | rfl
      · have hix := encAt0
        have HF : Hid (bestN l 1 = 0) := rfl
        rw [bestN_zero] at *
        go_wp2_with fail
        refine (H0.out _ hbr).mono ?_
        rintro e w3 ⟨v3, rfl, o3, hb3⟩
        have B3 := below_then hbr hb3 hbr.size
        have hown3 := (hown.below hb3 (Nat.le_refl _)).wide hb3.size
        have own3 := o3.lower hbr.size
        obtain ⟨p3, c3, hv3⟩ := own_form o3
        subst hv3
        clear o3 hb3 hbr hown hix
        have OO := Lib.hid own3
        clear own3 hown3
        go_wp2
        go_roundw
        case rel => exact ⟨1, by omega, rfl, by rw [HF.out], by rw [HF.out]; exact OO.out, B3⟩
        case measure => simp [intOf]
      · have hix := encAt1
        have hbn : 0 ≤ bestN l 1 := (bestN_nn l 0).1
        have hbe : (bestN l 1 == -1) = false := by simp; omega
        have HPOS : Hid ((encB 1 l).length < (encB (bestN l 1) l).length → bestN l 2 = 1) := fun h => by
          rw [HST.out 0, if_pos ⟨(.inl (by omega)), h⟩]
          rfl
        have HNEG : Hid (¬ (encB 1 l).length < (encB (bestN l 1) l).length → bestN l 2 = bestN l 1) := fun h => by rw [HST.out 0, if_neg (fun q => h q.2)]
        have hx := encB_len (bestN l 1) l
        have hy := encB_len 1 l
        generalize bestN l 1 = bk at hown HPOS HNEG hbn hbe hx ⊢
        go_wp2_with fail
        refine (H1.out _ hbr).mono ?_
        rintro e w3 ⟨v3, rfl, o3, hb3⟩
        have B3 := below_then hbr hb3 hbr.size
        have hown3 := (hown.below hb3 (Nat.le_refl _)).wide hb3.size
        have own3 := o3.lower hbr.size
        obtain ⟨p3, c3, hv3⟩ := own_form o3
        subst hv3
        clear o3 hb3 hbr hown hix
        obtain ⟨p4, c4, hv4⟩ := own_form hown3
        subst hv4
        by_cases hlt : (encB 1 l).length < (encB bk l).length
        · have HF := Lib.hid (HPOS.out hlt)
          have OO := Lib.hid own3
          clear HPOS HNEG own3 hown3
          generalize hyn : (encB 1 l).length = yn at *
          generalize hxn : (encB bk l).length = xn at *
          have HYN := Lib.hid hyn
          have HXN := Lib.hid hxn
          clear hyn hxn
          go_wp2
          go_roundw
          case rel => exact ⟨2, by omega, rfl, by rw [HF.out], by rw [HF.out, HYN.out]; exact OO.out, B3⟩
          case measure => simp [intOf]
        · have HF := Lib.hid (HNEG.out hlt)
          have OO := Lib.hid hown3
          clear HPOS HNEG own3 hown3
          generalize hyn : (encB 1 l).length = yn at *
          generalize hxn : (encB bk l).length = xn at *
          have HYN := Lib.hid hyn
          have HXN := Lib.hid hxn
          clear hyn hxn
          go_wp2
          go_roundw
          case rel => exact ⟨2, by omega, rfl, by rw [HF.out], by rw [HF.out, HXN.out]; exact OO.out, B3⟩
          case measure => simp [intOf]
      · have hix := encAt2
        have hbn : 0 ≤ bestN l 2 := (bestN_nn l 1).1
        have hbe : (bestN l 2 == -1) = false := by simp; omega
        have HPOS : Hid ((encB 2 l).length < (encB (bestN l 2) l).length → bestN l 3 = 2) := fun h => by
          rw [HST.out 1, if_pos ⟨(.inl (by omega)), h⟩]
          rfl
        have HNEG : Hid (¬ (encB 2 l).length < (encB (bestN l 2) l).length → bestN l 3 = bestN l 2) := fun h => by rw [HST.out 1, if_neg (fun q => h q.2)]
        have hx := encB_len (bestN l 2) l
        have hy := encB_len 2 l
        generalize bestN l 2 = bk at hown HPOS HNEG hbn hbe hx ⊢
        go_wp2_with fail
        refine (H2.out _ hbr).mono ?_
        rintro e w3 ⟨v3, rfl, o3, hb3⟩
        have B3 := below_then hbr hb3 hbr.size
        have hown3 := (hown.below hb3 (Nat.le_refl _)).wide hb3.size
        have own3 := o3.lower hbr.size
        obtain ⟨p3, c3, hv3⟩ := own_form o3
        subst hv3
        clear o3 hb3 hbr hown hix
        obtain ⟨p4, c4, hv4⟩ := own_form hown3
        subst hv4
        by_cases hlt : (encB 2 l).length < (encB bk l).length
        · have HF := Lib.hid (HPOS.out hlt)
          have OO := Lib.hid own3
          clear HPOS HNEG own3 hown3
          generalize hyn : (encB 2 l).length = yn at *
          generalize hxn : (encB bk l).length = xn at *
          have HYN := Lib.hid hyn
          have HXN := Lib.hid hxn
          clear hyn hxn
          go_wp2
          go_roundw
          case rel => exact ⟨3, by omega, rfl, by rw [HF.out], by rw [HF.out, HYN.out]; exact OO.out, B3⟩
          case measure => simp [intOf]
        · have HF := Lib.hid (HNEG.out hlt)
          have OO := Lib.hid hown3
          clear HPOS HNEG own3 hown3
          generalize hyn : (encB 2 l).length = yn at *
          generalize hxn : (encB bk l).length = xn at *
          have HYN := Lib.hid hyn
          have HXN := Lib.hid hxn
          clear hyn hxn
          go_wp2
          go_roundw
          case rel => exact ⟨3, by omega, rfl, by rw [HF.out], by rw [HF.out, HXN.out]; exact OO.out, B3⟩
          case measure => simp [intOf]
      · have hix := encAt3
        by_cases h1 : ty = 1
        · subst h1
          have hbn : 0 ≤ bestN l 3 := (bestN_nn l 2).1
          have hbe : (bestN l 3 == -1) = false := by simp; omega
          have HPOS : Hid ((encB 3 l).length < (encB (bestN l 3) l).length → bestN l 4 = 3) := fun h => by
            rw [HST.out 2, if_pos ⟨(.inr rfl), h⟩]
            rfl
          have HNEG : Hid (¬ (encB 3 l).length < (encB (bestN l 3) l).length → bestN l 4 = bestN l 3) := fun h => by rw [HST.out 2, if_neg (fun q => h q.2)]
          have hx := encB_len (bestN l 3) l
          have hy := encB_len 3 l
          generalize bestN l 3 = bk at hown HPOS HNEG hbn hbe hx ⊢
          go_wp2_with fail
          refine (H3.out _ hbr).mono ?_
          rintro e w3 ⟨v3, rfl, o3, hb3⟩
          have B3 := below_then hbr hb3 hbr.size
          have hown3 := (hown.below hb3 (Nat.le_refl _)).wide hb3.size
          have own3 := o3.lower hbr.size
          obtain ⟨p3, c3, hv3⟩ := own_form o3
          subst hv3
          clear o3 hb3 hbr hown hix
          obtain ⟨p4, c4, hv4⟩ := own_form hown3
          subst hv4
          by_cases hlt : (encB 3 l).length < (encB bk l).length
          · have HF := Lib.hid (HPOS.out hlt)
            have OO := Lib.hid own3
            clear HPOS HNEG own3 hown3
            generalize hyn : (encB 3 l).length = yn at *
            generalize hxn : (encB bk l).length = xn at *
            have HYN := Lib.hid hyn
            have HXN := Lib.hid hxn
            clear hyn hxn
            go_wp2
            go_roundw
            case rel => exact ⟨4, by omega, rfl, by rw [HF.out], by rw [HF.out, HYN.out]; exact OO.out, B3⟩
            case measure => simp [intOf]
          · have HF := Lib.hid (HNEG.out hlt)
            have OO := Lib.hid hown3
            clear HPOS HNEG own3 hown3
            generalize hyn : (encB 3 l).length = yn at *
            generalize hxn : (encB bk l).length = xn at *
            have HYN := Lib.hid hyn
            have HXN := Lib.hid hxn
            clear hyn hxn
            go_wp2
            go_roundw
            case rel => exact ⟨4, by omega, rfl, by rw [HF.out], by rw [HF.out, HXN.out]; exact OO.out, B3⟩
            case measure => simp [intOf]
        · have h1b : (ty != 1) = true := by simpa using h1
          have HF : Hid (bestN l 4 = bestN l 3) := by
            show _ = _
            rw [HST.out 2, if_neg (fun h => h.1.elim (fun a => a rfl) h1)]
          have OO := Lib.hid hown
          have B3 := hbr
          generalize bestN l 3 = bk at HF OO ⊢
          clear h1 hown hbr
          go_wp2
          go_roundw
          case rel => exact ⟨4, by omega, rfl, by rw [HF.out], by rw [HF.out]; exact OO.out, B3⟩
          case measure => simp [intOf]
      · rw [← HR.out] at hown ⊢
        have OO := Lib.hid hown
        clear hown
        go_wp2
        go_ret2
        exact ⟨_, rfl, OO.out, hbr⟩

theorem iBestKind : CBestKind := by
  intro u l w hn hss h
  have HS := Lib.hid (shortest u l w hn hss h)
  generalize bestL l = R at HS ⊢
  clear h hss hn
  go_enter Tryz.func55, Tryz.ntmps55
  go_wp2_with fail
  refine HS.out.mono ?_
  rintro e w1 ⟨v1, rfl, o1, b1⟩
  clear o1
  go_wp2
  go_ret
  exact ⟨rfl, b1⟩

set_option maxHeartbeats 1000000 in
theorem iEncCol : CEncCol := by
  intro u l w hn hss h
  have HB := Lib.hid (shortest u l w hn hss h)
  have HNO : Hid (typeV l = 0 → bestL l = -1 ∧ encC l = []) := fun h => ⟨bestL_no h, encC_no h⟩
  have HYES : Hid (¬ typeV l = 0 → 0 ≤ bestL l ∧ bestL l ≤ 3 ∧ encC l = bestL l :: encB (bestL l) l) := fun h => ⟨by rw [bestL_yes h]; omega, (bestL_in l).2, encC_yes h⟩
  have HEL := encB_len (bestL l) l
  generalize typeV l = ty at HNO HYES
  generalize encC l = R at HNO HYES ⊢
  generalize bestL l = k at HB HNO HYES HEL
  clear h hss hn
  by_cases ht : ty = 0
  · obtain ⟨rfl, rfl⟩ := HNO.out ht
    clear HNO HYES HEL ht
    go_enter Tryz.func39, Tryz.ntmps39
    go_wp2_with fail
    refine HB.out.mono ?_
    rintro e w1 ⟨v1, rfl, o1, b1⟩
    have O1 := own_lit (e := 5) (size := 1) w1 #[] 0 (Nat.zero_le _) rfl
    have B1 := b1.alloc b1.size (.cells #[] 5)
    have z1 := b1.size
    clear o1
    go_wp2
    go_ret
    exact ⟨_, rfl, O1.lower z1, B1⟩
  · obtain ⟨k0, k3, hR⟩ := HYES.out ht
    have HES : Hid (Value.int .u8 k :: ints .u8 (encB k l) = ints .u8 R ∧ 1 + (encB k l).length = R.length) := ⟨by rw [hR]; rfl, by rw [hR, List.length_cons]; omega⟩
    clear HNO HYES ht hR
    generalize encB k l = X at HES HB HEL
    generalize X.length = xn at HES HB HEL
    have hkb : IntKind.u8.wrap k = k := IntWalk.u8_in _ (by omega)
    have hke : (k == -1) = false := by simp; omega
    go_enter Tryz.func39, Tryz.ntmps39
    go_wp2_with fail
    refine HB.out.mono ?_
    rintro e w1 ⟨v1, rfl, o1, b1⟩
    have own2 := own_lit (e := 5) (size := 1) w1 #[.int .u8 k] 1 (by unfold maxLen; omega) rfl
    have B2 := b1.alloc b1.size (.cells #[.int .u8 k] 5)
    have z1 : Hid (w.heap.size ≤ w1.heap.size) := b1.size
    obtain ⟨g6, off6, cp6, rfl, hn6, hc6, hl6, hcs6⟩ := (o1.below (below_alloc w1 (.cells #[.int .u8 k] 5)) (Nat.le_refl _)).at
    have HL6 := Lib.hid hl6
    have HC6 := Lib.hid hcs6
    clear hl6 hcs6 o1 HB b1
    go_wp2_with (at_builtin; refine append_law Tryz.elemBytes rfl _ _ rfl _ _ _ _ _ rfl own2 g6 off6 xn cp6 (ints .u8 X) rfl HL6.out HC6.out (ints_one _ _) (by unfold maxLen; omega) (by omega) ?_)
    intro v7 w7 o7 e7
    have b7 := B2.trans ((e7.below own2).mono z1.out)
    have O7 : Hid (Own 5 1 w.heap.size w7.heap.size w7 v7 R.length (ints .u8 R)) := by
      have := o7.lower z1.out
      rw [← HES.out.1, ← HES.out.2]
      exact this
    clear o7 e7 own2
    go_wp2
    go_ret
    exact ⟨_, rfl, O7.out, b7⟩

end Go.Proofs.YtkofafefnlommaaGreat
