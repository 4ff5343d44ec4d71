/- The contracts of the model's EncBy, BestKind, EncCol, Saved. -/
import Derived.Test.YthniakklkepomaaM9
import Derived.Test.YthniakklkepomaaS8
namespace Go.Proofs.Ythniakklkepomaa
open Go.RowKit

theorem own_form {e size lo hi w v n xs} (h : Own e size lo hi w v n xs) : ∃ g c, v = .slice (some ⟨g, 0, none⟩) n c := by
  obtain ⟨g, c, e, _⟩ := h
  exact ⟨g, c, e⟩
set_option maxHeartbeats 1000000 in
theorem sEncBy (u : Value) (k : Int) (l : List V) (w : World) (hn : l.length ≤ 1048576) (hss : ∀ v ∈ l, v.s.size ≤ maxLen) (h : Rd 3 w u l.length (vals l)) :
    Calls Try.prog 9 #[.int .i64 k, u] w fun e w' => ∃ v', e = .returned v' ∧ Own 5 1 w.heap.size w'.heap.size w' v' (encB k l).length (ints .u8 (encB k l)) ∧ Below w.heap.size w w' := by
  by_cases h0 : k = 0
  · subst h0
    rw [encB0]
    have H := Lib.hid (sEncPlain u l w hss h)
    clear h hss hn
    go_enter Try.func9, Try.ntmps9
    go_wp2_with (go_at_call 26; refine H.out.mono ?_; clear H; rintro e w1 ⟨v1, rfl, o1, b1⟩)
    go_ret
    exact ⟨_, rfl, o1, b1⟩
  by_cases h1 : k = 1
  · subst h1
    rw [encB1]
    have H := Lib.hid (sEncRuns u l w hn hss h)
    clear h hss hn
    go_enter Try.func9, Try.ntmps9
    go_wp2_with (go_at_call 27; refine H.out.mono ?_; clear H; rintro e w1 ⟨v1, rfl, o1, b1⟩)
    go_ret
    exact ⟨_, rfl, o1, b1⟩
  by_cases h2 : k = 2
  · subst h2
    rw [encB2]
    have H := Lib.hid (sEncDict u l w hn hss h)
    clear h hss hn
    go_enter Try.func9, Try.ntmps9
    go_wp2_with (go_at_call 28; refine H.out.mono ?_; clear H; rintro e w1 ⟨v1, rfl, o1, b1⟩)
    go_ret
    exact ⟨_, rfl, o1, b1⟩
  by_cases h3 : k = 3
  · subst h3
    rw [encB3]
    have H := Lib.hid (sEncFrame u l w hss h)
    clear h hss hn
    go_enter Try.func9, Try.ntmps9
    go_wp2_with (go_at_call 29; refine H.out.mono ?_; clear H; rintro e w1 ⟨v1, rfl, o1, b1⟩)
    go_ret
    exact ⟨_, rfl, o1, b1⟩
  rw [encB_no (by omega)]
  have O1 := own_lit (e := 5) (size := 1) w #[] 0 (Nat.zero_le _) rfl
  have B1 := below_alloc w (.cells #[] 5)
  have q0 : (k == 0) = false := by simpa using h0
  have q1 : (k == 1) = false := by simpa using h1
  have q2 : (k == 2) = false := by simpa using h2
  have q3 : (k == 3) = false := by simpa using h3
  clear h0 h1 h2 h3 h hss hn
  go_enter Try.func9, Try.ntmps9
  go_wp2
  go_ret
  exact ⟨_, rfl, O1, B1⟩

set_option maxHeartbeats 2000000 in
theorem sBestKind (u : Value) (l : List V) (w : World) (hn : l.length ≤ 1048576) (hss : ∀ v ∈ l, v.s.size ≤ maxLen) (h : Rd 3 w u l.length (vals l)) :
    Calls Try.prog 17 #[u] w fun e w' => e = .returned (.int .i64 (bestL l)) ∧ Below w.heap.size w w' := by
  have HT := Lib.hid (sTypeOf u l w hss h)
  have HP := Lib.hid (fun W (hW : Below w.heap.size w W) => sEncPlain u l W hss (h.below hW))
  have HE := Lib.hid (fun k W (hW : Below w.heap.size w W) => sEncBy u k l W hn hss (h.below hW))
  have HNO : Hid (typeV l = 0 → bestL l = -1) := bestL_no
  have HYES : Hid (¬ typeV l = 0 → bestL l = bestK l 3) := bestL_yes
  have HST : Hid (∀ k, bestK l (k + 1) = if (k + 1 ≠ 3 ∨ typeV l = 1) ∧ (encB ((k + 1 : Nat) : Int) l).length < (encB (bestK l k) l).length then k + 1 else bestK l k) := fun k => rfl
  have HBL : Hid (∀ k, (encB k l).length ≤ 1024) := fun k => encB_len k l
  have HL0 : Hid ((encP l).length = (encB (bestK l 0) l).length) := rfl
  generalize typeV l = ty at HT HNO HYES HST
  generalize bestL l = R at HNO HYES
  clear h hss hn
  go_enter Try.func17, Try.ntmps17
  go_wp2_with fail
  refine HT.out.mono ?_
  rintro e w1 ⟨rfl, b1⟩
  clear HT
  by_cases ht : ty = 0
  · subst ht
    have HR : Hid ((-1 : Int) = R) := (HNO.out rfl).symm
    clear HNO HYES HST HL0 HBL HP HE
    go_wp2
    go_ret
    exact ⟨ret_int HR.out, b1⟩
  · have htb : (ty == 0) = false := by simpa using ht
    have HR := Lib.hid (HYES.out ht)
    clear ht HNO HYES
    go_wp2_with fail
    refine (HP.out _ b1).mono ?_
    rintro e w2 ⟨v2, rfl, o2, hb2⟩
    have B2 := below_then b1 hb2 b1.size
    obtain ⟨p2, c2, hv2⟩ := own_form o2
    subst hv2
    have hl0 : (encP l).length ≤ 1024 := HBL.out 0
    clear o2 hb2 b1 HP
    generalize (encP l).length = n0 at HL0 hl0 ⊢
    go_wp2_with fail
    go_loopw [4, 5, 6] (fun b x i wr => ∃ (k m : Nat), k ≤ 3 ∧ i = .int .i64 ((k : Int) + 1) ∧ b = .int .i64 (bestK l k) ∧ x = .int .i64 m ∧ m = (encB (bestK l k) l).length ∧ m ≤ 1024 ∧ Below w.heap.size w wr) (fun _ _ i _ => 4 - (intOf i).toNat)
    case atStart => exact ⟨0, n0, Nat.zero_le _, rfl, rfl, rfl, HL0.out, hl0, B2⟩
    case round =>
      obtain ⟨k, m, hk, rfl, rfl, rfl, hm, hm2, hbr⟩ := hrel
      have HM := Lib.hid hm
      clear hm
      by_cases hlt : k < 3
      · have hle : (k : Int) + 1 ≤ 3 := by omega
        have HSK := Lib.hid (HST.out k)
        have HBN := HBL.out ((k + 1 : Nat) : Int)
        have HEK := Lib.hid (HE.out ((k + 1 : Nat) : Int) wr hbr)
        have ek : (((k + 1 : Nat)) : Int) = (k : Int) + 1 := by omega
        rw [← HM.out] at HSK
        have HLN : Hid ((encB ((k + 1 : Nat) : Int) l).length = (encB ((k + 1 : Nat) : Int) l).length) := rfl
        generalize hN : (encB ((k + 1 : Nat) : Int) l).length = N at HSK HBN HEK HLN
        have HN := Lib.hid hN
        clear hN
        rw [ek] at HEK
        generalize hbk : bestK l k = bk at *
        have HBK := Lib.hid hbk
        clear hbk
        go_wp2_with fail
        refine HEK.out.mono ?_
        rintro e w3 ⟨v3, rfl, o3, hb3⟩
        have B3 := below_then hbr hb3 hbr.size
        obtain ⟨p3, c3, hv3⟩ := own_form o3
        subst hv3
        clear o3 hb3 HEK hbr
        have HPOS : Hid ((k + 1 ≠ 3 ∨ ty = 1) → N < m → bestK l (k + 1) = k + 1) := fun a b => by rw [HSK.out, if_pos ⟨a, b⟩]
        have HNEG : Hid (¬ ((k + 1 ≠ 3 ∨ ty = 1) ∧ N < m) → bestK l (k + 1) = bk) := fun a => by rw [HSK.out, if_neg a]
        clear HSK
        by_cases h2 : k = 2
        · subst h2
          by_cases h1 : ty = 1
          · subst h1
            by_cases hNm : N < m
            · have HF := Lib.hid (HPOS.out (.inr rfl) hNm)
              clear HPOS HNEG
              go_wp2
              go_roundw
              case rel => exact ⟨3, N, by omega, by go_num, by rw [HF.out]; go_num, rfl, by rw [HF.out]; exact HN.out.symm, by omega, B3⟩
              case measure => simp [intOf]
            · have HF := Lib.hid (HNEG.out (fun h => hNm h.2))
              clear HPOS HNEG
              go_wp2
              go_roundw
              case rel => exact ⟨3, m, by omega, by go_num, by rw [HF.out], rfl, by rw [HF.out]; exact HM.out, by omega, B3⟩
              case measure => simp [intOf]
          · have h1b : (ty == 1) = false := by simpa using h1
            have HF := Lib.hid (HNEG.out (fun h => h.1.elim (fun a => a rfl) h1))
            clear HPOS HNEG h1
            go_wp2
            go_roundw
            case rel => exact ⟨3, m, by omega, by go_num, by rw [HF.out], rfl, by rw [HF.out]; exact HM.out, by omega, B3⟩
            case measure => simp [intOf]
        · have hne : ((k : Int) + 1 != 3) = true := by simp; omega
          by_cases hNm : N < m
          · have HF := Lib.hid (HPOS.out (.inl (by omega)) hNm)
            clear HPOS HNEG
            go_wp2
            go_roundw
            case rel => exact ⟨k + 1, N, by omega, by go_num, by rw [HF.out]; go_num, rfl, by rw [HF.out]; exact HN.out.symm, by omega, B3⟩
            case measure => simp [intOf]; omega
          · have HF := Lib.hid (HNEG.out (fun h => hNm h.2))
            clear HPOS HNEG
            go_wp2
            go_roundw
            case rel => exact ⟨k + 1, m, by omega, by go_num, by rw [HF.out], rfl, by rw [HF.out]; exact HM.out, by omega, B3⟩
            case measure => simp [intOf]; omega
      · obtain rfl : k = 3 := by omega
        have HRR : Hid (((bestK l 3 : Nat) : Int) = R) := HR.out.symm
        generalize bestK l 3 = bk at HRR ⊢
        clear HM
        go_wp2
        go_ret
        exact ⟨ret_int HRR.out, hbr⟩

set_option maxHeartbeats 2000000 in
theorem sEncCol (u : Value) (l : List V) (w : World) (hn : l.length ≤ 1048576) (hss : ∀ v ∈ l, v.s.size ≤ maxLen) (h : Rd 3 w u l.length (vals l)) :
    Calls Try.prog 19 #[u] w fun e w' => ∃ v', e = .returned v' ∧ Own 5 1 w.heap.size w'.heap.size w' v' (encC l).length (ints .u8 (encC l)) ∧ Below w.heap.size w w' := by
  have HB := Lib.hid (sBestKind u l w hn hss h)
  have HE := Lib.hid (fun k W (hW : Below w.heap.size w W) => sEncBy u k l W hn hss (h.below hW))
  have HNO : Hid (typeV l = 0 → bestL l = -1 ∧ encC l = []) := fun h => ⟨bestL_no h, encC_no h⟩
  have HYES : Hid (¬ typeV l = 0 → 0 ≤ bestL l ∧ bestL l ≤ 3 ∧ encC l = bestL l :: encB (bestL l) l) := fun h => ⟨by rw [bestL_yes h]; omega, (bestL_in l).2, encC_yes h⟩
  have HEL := encB_len (bestL l) l
  generalize typeV l = ty at HNO HYES
  generalize encC l = R at HNO HYES ⊢
  generalize bestL l = k at HB HNO HYES HEL
  clear h hss hn
  by_cases ht : ty = 0
  · obtain ⟨rfl, rfl⟩ := HNO.out ht
    clear HNO HYES HEL HE ht
    go_enter Try.func19, Try.ntmps19
    go_wp2_with fail
    refine HB.out.mono ?_
    rintro e w1 ⟨rfl, b1⟩
    have O1 := own_lit (e := 5) (size := 1) w1 #[] 0 (Nat.zero_le _) rfl
    have B1 := b1.alloc b1.size (.cells #[] 5)
    have z1 := b1.size
    go_wp2
    go_ret
    exact ⟨_, rfl, O1.lower z1, B1⟩
  · obtain ⟨k0, k3, hR⟩ := HYES.out ht
    have HES : Hid (Value.int .u8 k :: ints .u8 (encB k l) = ints .u8 R ∧ 1 + (encB k l).length = R.length) := ⟨by rw [hR]; rfl, by rw [hR, List.length_cons]; omega⟩
    have HEK := Lib.hid (HE.out k)
    clear HNO HYES HE ht hR
    generalize encB k l = X at HES HEK HEL
    generalize X.length = xn at HES HEK HEL
    have hkb : IntKind.u8.wrap k = k := IntWalk.u8_in _ (by omega)
    go_enter Try.func19, Try.ntmps19
    go_wp2_with fail
    refine HB.out.mono ?_
    rintro e w1 ⟨rfl, b1⟩
    have O1 := own_lit (e := 5) (size := 1) w1 #[.int .u8 k] 1 (by unfold maxLen; omega) rfl
    have B1 := b1.alloc b1.size (.cells #[.int .u8 k] 5)
    have z1 : Hid (w.heap.size ≤ w1.heap.size) := b1.size
    have hb1 := below_alloc w1 (.cells #[.int .u8 k] 5)
    clear HB
    go_wp2_with fail
    refine (HEK.out _ B1).mono ?_
    rintro e w2 ⟨v2, rfl, o2, hb2⟩
    have B2 := below_then B1 hb2 B1.size
    have own2 := (O1.below hb2 (Nat.le_refl _)).wide hb2.size
    obtain ⟨g6, off6, cp6, rfl, hn6, hc6, hl6, hcs6⟩ := o2.at
    have HL6 := Lib.hid hl6
    have HC6 := Lib.hid hcs6
    clear hl6 hcs6 o2 hb2 O1 B1 HEK hb1 b1
    go_wp2_with (at_builtin; refine append_law Try.elemBytes rfl _ _ rfl _ _ _ _ _ rfl own2 g6 off6 xn cp6 (ints .u8 X) rfl HL6.out HC6.out (ints_one _ _) (by unfold maxLen; omega) (by omega) ?_)
    intro v7 w7 o7 e7
    have b7 := B2.trans ((e7.below own2).mono z1.out)
    have O7 : Hid (Own 5 1 w.heap.size w7.heap.size w7 v7 R.length (ints .u8 R)) := by
      have := o7.lower z1.out
      rw [← HES.out.1, ← HES.out.2]
      exact this
    clear o7 e7 own2
    go_wp2
    go_ret
    exact ⟨_, rfl, O7.out, b7⟩

set_option maxHeartbeats 1000000 in
theorem sSaved (u : Value) (l : List V) (w : World) (hn : l.length ≤ 1048576) (hss : ∀ v ∈ l, v.s.size ≤ maxLen) (h : Rd 3 w u l.length (vals l)) :
    Calls Try.prog 23 #[u] w fun e w' => e = .returned (.int .i64 (savedL l)) ∧ Below w.heap.size w w' := by
  have HP := Lib.hid (sEncPlain u l w hss h)
  have HC := Lib.hid (fun W (hW : Below w.heap.size w W) => sEncCol u l W hn hss (h.below hW))
  have HS : Hid (savedL l = ((encP l).length : Int) - ((encC l).length : Int)) := rfl
  have h1 := encB_len 0 l
  rw [encB0] at h1
  have h2 := encC_len l
  generalize savedL l = R at HS ⊢
  generalize encP l = p at HP HS h1
  generalize encC l = c at HC HS h2
  generalize p.length = pn at HP HS h1
  generalize c.length = cn at HC HS h2
  clear h hss hn
  go_enter Try.func23, Try.ntmps23
  go_wp2_with fail
  refine HP.out.mono ?_
  rintro e w1 ⟨v1, rfl, o1, b1⟩
  obtain ⟨p1, c1, hv1⟩ := own_form o1
  subst hv1
  clear o1 HP
  go_wp2_with fail
  refine (HC.out _ b1).mono ?_
  rintro e w2 ⟨v2, rfl, o2, hb2⟩
  have B2 := below_then b1 hb2 b1.size
  obtain ⟨p2, c2, hv2⟩ := own_form o2
  subst hv2
  clear o2 HC hb2
  go_wp2
  go_ret
  exact ⟨ret_int HS.out.symm, B2⟩

end Go.Proofs.Ythniakklkepomaa
