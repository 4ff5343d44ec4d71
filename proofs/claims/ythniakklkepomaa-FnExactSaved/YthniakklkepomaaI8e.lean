/- The contracts of impl's EncFrame and Raised. -/
import Derived.Test.YthniakklkepomaaI8
import Derived.Test.YthniakklkepomaaIEq
import Derived.Test.YthniakklkepomaaIPack
import Derived.Test.YthniakklkepomaaI5d
namespace Go.Proofs.Ythniakklkepomaa
open Go.RowKit

set_option maxHeartbeats 2000000 in
theorem iEncFrame : CEncFrame := by
  intro u l w hn hss h
  have hown0 := own_lit (e := 5) (size := 1) w #[] 0 (Nat.zero_le _) rfl
  have hb0 := below_alloc w (.cells #[] 5)
  have HE : Hid (encF l = if typeV l = 1 then (Num.put [] (baseL l) ++ [(Bit.widthFor (offL l) : Int)]) ++ Bit.pack (offL l) (Bit.widthFor (offL l)) else []) := rfl
  have HT := Lib.hid (iTypeOf u l _ hn hss (h.below hb0))
  have HB := Lib.hid (fun W (hW : Below w.heap.size w W) => iBase u l W hn hss (h.below hW))
  have HO := Lib.hid (fun W (hW : Below w.heap.size w W) => iOffsets u l W hn hss (h.below hW))
  have hol := (off_len l).2
  have HOK : Hid (typeV l = 1 → Num.ok (baseL l)) := base_ok
  generalize typeV l = ty at HE HT HOK
  generalize baseL l = bs at HE HB HOK
  generalize offL l = o at HE HO hol
  generalize encF l = R at HE
  clear hss h hn
  go_enter Try.func51, Try.ntmps51
  go_wp2_with fail
  refine HT.out.mono ?_
  rintro e w1 ⟨rfl, hb1⟩
  have b1 := below_then hb0 hb1 hb0.size
  have O1 := (hown0.below hb1 (Nat.le_refl _)).wide hb1.size
  clear HT hb1 hb0 hown0
  by_cases ht : ty = 1
  · subst ht
    rw [if_pos rfl] at HE
    have hok := HOK.out rfl
    have HPT : Hid (Num.put [] bs = Num.puts [] [bs]) := putNum_puts hok
    rw [HPT.out] at HE
    have hpl := (Num.put_len [] bs).2
    rw [HPT.out] at hpl
    simp only [List.length_nil] at hpl
    clear HOK hok HPT
    go_wp2_with fail
    refine (HO.out w1 b1).mono ?_
    rintro e w2 ⟨v2, rfl, o2, hb2⟩
    have b2 := below_then b1 hb2 b1.size
    have O2 := (O1.below hb2 (Nat.le_refl _)).wide hb2.size
    have HW := Lib.hid (iWidthFor v2 o.length o w2 rfl (.inr o2.at))
    have hw31 := Bit.widthFor_le31 o
    have hpn := Bit.pack_le o (Bit.widthFor o)
    generalize Bit.widthFor o = wd at HE HW hw31 hpn
    clear HO hb2 O1
    go_wp2_with fail
    refine HW.out.mono ?_
    rintro e w' ⟨rfl, rfl⟩
    clear HW
    go_wp2_with fail
    refine (HB.out _ b2).mono ?_
    rintro e w3 ⟨rfl, hb3⟩
    have b3 := below_then b2 hb3 b2.size
    have O3 := (O2.below hb3 (Nat.le_refl _)).wide hb3.size
    have p3 := (o2.below hb3 (Nat.le_refl _)).wide hb3.size
    have hwd : (wd : Int) ≤ 31 := by omega
    have HPK := Lib.hid (fun W hW => iPackBits v2 o.length o (wd : Int) W (by omega) rfl (.inr hW))
    have HES : Hid (ints .u8 (Num.puts [] [bs]) ++ .int .u8 (wd : Int) :: ints .u8 (Bit.pack o wd) = ints .u8 R ∧ (Num.puts [] [bs]).length + 1 + (Bit.pack o wd).length = R.length) := by
      rw [HE.out]
      refine ⟨?_, by simp only [List.length_append, List.length_cons, List.length_nil]⟩
      rw [ints_append, ints_append, List.append_assoc]
      rfl
    have hl : At 1 (w3.alloc (.cells #[.int .i64 bs] 3)) (.slice (some ⟨w3.heap.size, 0, none⟩) 1 1) 1 (ints .i64 [bs]) := (own_lit w3 #[.int .i64 bs] 1 (by unfold maxLen; omega) rfl).at
    have HA := Lib.hid (appendNums _ _ _ _ 0 1 [] [bs] _ rfl rfl (by omega) (by omega) (O3.alloc (.cells #[.int .i64 bs] 3)) hl (fun _ => own_ne O3 (Nat.le_refl _)))
    generalize Num.puts [] [bs] = pb at HA HES hpl
    generalize pb.length = pbn at HA HES hpl
    have p3' := (p3.alloc (.cells #[.int .i64 bs] 3))
    have NE3 := O3.blocks_ne p3 (by decide)
    have z1 := b1.size
    generalize Bit.pack o (wd : Int) = pk at HPK HES hpn
    generalize pk.length = pn at HPK HES hpn
    generalize o.length = on at *
    obtain ⟨g2, c2, rfl⟩ : ∃ g c, v2 = .slice (some ⟨g, 0, none⟩) on c := by
      obtain ⟨g, c, e, _⟩ := o2
      exact ⟨g, c, e⟩
    clear o2 O2 hb3 HB HE b1 b2
    go_wp2_with fail
    refine HA.out.mono ?_
    rintro e w4 ⟨v4, rfl, o4, e4⟩
    have B4 : Below w.heap.size w w4 := (b3.alloc b3.size _).trans (e4.below (O3.alloc _))
    have P4 := (p3'.other e4.grown NE3).wide (Nat.le_trans (by simp) e4.grown.size)
    have NE4 := o4.blocks_ne P4 (by decide)
    clear HA hl p3' p3 NE3 e4 b3 O3
    go_wp2_with (first | (at_builtin; refine append1_law Try.elemBytes rfl _ _ rfl _ _ _ _ _ (.int .u8 (wd : Int)) rfl rfl o4 rfl (by unfold maxLen; omega) (by omega) ?_) | fail)
    intro v5 w5 o5 e5
    have B5 := B4.trans (e5.below o4)
    have HPK5 := Lib.hid (HPK.out w5 (P4.other e5.grown NE4).at)
    clear o4 e5 B4 P4 NE4 HPK
    go_wp2_with fail
    refine HPK5.out.mono ?_
    rintro e w6 ⟨v6, rfl, o6, hb6⟩
    have b6 := below_then B5 hb6 B5.size
    have own6 := (o5.below hb6 (Nat.le_refl _)).wide hb6.size
    obtain ⟨g6, off6, cp6, rfl, hn6, hc6, hl6, hcs6⟩ := o6.at
    have HL6 := Lib.hid hl6
    have HC6 := Lib.hid hcs6
    clear hl6 hcs6 o6 hb6 o5 HPK5 B5
    go_wp2_with (at_builtin; refine append_law Try.elemBytes rfl _ _ rfl _ _ _ _ _ rfl own6 g6 off6 pn cp6 (ints .u8 pk) rfl HL6.out HC6.out (ints_one _ _) (by unfold maxLen; omega) (by omega) ?_)
    intro v7 w7 o7 e7
    have b7 := b6.trans (e7.below own6)
    rw [HES.out.1, HES.out.2] at o7
    have O7 := Lib.hid o7
    clear o7 e7 own6
    go_wp2
    go_ret
    exact ⟨_, rfl, O7.out, b7⟩
  · have htb : (ty != 1) = true := by simpa using ht
    rw [if_neg ht] at HE
    clear ht
    go_wp2
    go_ret
    rw [HE.out]
    exact ⟨_, rfl, O1, b1⟩

end Go.Proofs.Ythniakklkepomaa
