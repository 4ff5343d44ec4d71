/- Texts of this claim, one behind the other: I7g. -/
import Derived.Test.YtkofafefnlommaaGreatP37
import Derived.Test.YtkofafefnlommaaGreatP31
import Derived.Test.YtkofafefnlommaaGreatP23
import Derived.Test.YtkofafefnlommaaGreatP15

/- The contracts of impl's placeWidth and EncDict. -/
namespace Go.Proofs.YtkofafefnlommaaGreat
open Go.RowKit

theorem placeWidth (a : Option Addr) (m cap : Nat) (w : World) (hm : m ≤ 1048576) : Calls Tryz.prog 158 #[.slice a m cap] w fun e w' => e = .returned (.int .i64 (Bit.widthI ((m : Int) - 1))) ∧ w = w' := by
  have HW := Lib.hid (fun W => iWidthOf ((m : Int) - 1) W)
  generalize Bit.widthI ((m : Int) - 1) = r at HW
  go_enter Tryz.func158, Tryz.ntmps158
  go_wp2_with (go_at_call 183; refine (HW.out _).mono ?_; rintro e w' ⟨rfl, rfl⟩)
  go_ret
  exact ⟨rfl, rfl⟩

set_option maxHeartbeats 4000000 in
theorem iEncDict : CEncDict := by
  intro u l w hn hss h
  have hown0 := own_lit (e := 5) (size := 1) w #[] 0 (Nat.zero_le _) rfl
  have hb0 := below_alloc w (.cells #[] 5)
  have HT := Lib.hid (iTypeOf u l _ hn hss (h.below hb0))
  have HD := Lib.hid (fun W (hW : Below w.heap.size w W) => iDict u l W hn hss (h.below hW))
  have HE : Hid (encD l = if typeV l = 0 then [] else putAll (Num.put [] (dictL l).length) (dictL l) ++ Bit.pack (placesL (dictL l) l).1 (Bit.widthI ((dictL l).length - 1))) := rfl
  have HRL := Lib.hid (dict_len l)
  have HTL : Hid (¬ typeV l = 0 → l.length ≤ 64) := typeV_len
  have HROK : Hid (¬ typeV l = 0 → ∀ v ∈ dictL l, okV v = true) := fun h => dict_all (p := fun v => okV v = true) (fun v hv => by
    obtain ⟨k, hk, rfl⟩ := List.getElem_of_mem hv
    have := typeV_ok h hk
    rw [getDe l V.zero hk] at this
    exact this)
  have HP := Lib.hid (fun x d W (hW : Below w.heap.size w W) (hd : d.length ≤ 1048576) (hx : Rd 3 W x d.length (vals d)) => iPlaces x u d l W hd hn hx (h.below hW))
  obtain ⟨a, cap, rfl, _, _⟩ := h
  generalize typeV l = ty at HT HE HTL HROK
  generalize dictL l = r at HD HE HRL HROK
  clear hss
  generalize hln : l.length = n at *
  have HLN := Lib.hid hln
  clear hln
  go_enter Tryz.func133, Tryz.ntmps133
  go_wp2_with fail
  refine HT.out.mono ?_
  rintro e w1 ⟨rfl, b1⟩
  have B1 := below_then hb0 b1 hb0.size
  have O1 := (hown0.below b1 (Nat.le_refl _)).wide b1.size
  clear b1 hb0 hown0 HT
  by_cases ht : ty = 0
  · subst ht
    rw [if_pos rfl] at HE
    go_wp2
    go_ret
    rw [HE.out]
    exact ⟨_, rfl, O1, B1⟩
  · have htb : (ty == 0) = false := by simpa using ht
    have h64 := HTL.out ht
    have hrl := HRL.out
    have HROK2 := Lib.hid (HROK.out ht)
    rw [if_neg ht] at HE
    go_wp2_with fail
    refine (HD.out _ B1).mono ?_
    rintro e w2 ⟨v2, rfl, o2, b2⟩
    have B2 := below_then B1 b2 B1.size
    have O2 := (O1.below b2 (Nat.le_refl _)).wide b2.size
    have HLOW := Lib.hid B1.size
    clear HD b2 O1 B1 ht htb HRL
    have HRLN : Hid (r.length = r.length) := rfl
    generalize hm : r.length = m at o2 hrl HE
    obtain ⟨g2, c2, rfl, _, _, _⟩ : ∃ g c, v2 = .slice (some ⟨g, 0, none⟩) m c ∧ True ∧ True ∧ True := by
      obtain ⟨g, c, e, _⟩ := o2
      exact ⟨g, c, e, trivial, trivial, trivial⟩
    have HM := Lib.hid hm
    have HS : Hid (∀ k, k < m → putAll (Num.put [] (m : Int)) (r.take (k + 1)) = putV (putAll (Num.put [] (m : Int)) (r.take k)) (r.getD k V.zero)) := fun k hk => by
      have hk' : k < r.length := by omega
      rw [getDe r V.zero hk', List.take_succ_eq_append_getElem hk', putAll_snoc]
    have HSS : Hid (∀ k, k < m → okV (r.getD k V.zero) = true) := fun k hk => by
      have hk' : k < r.length := by omega
      rw [getDe r V.zero hk']
      exact HROK2.out _ (List.getElem_mem hk')
    have HEL : Hid (∀ k, k ≤ m → (putAll (Num.put [] (m : Int)) (r.take k)).length ≤ 5 + 7 * k) := fun k hk => by
      have h1 := putAll_len (Num.put [] (m : Int)) (r.take k)
      have h2 := (Num.put_len [] (m : Int)).2
      have e : (r.take k).length = k := by simp; omega
      rw [e] at h1
      simp only [List.length_nil] at h2
      omega
    have HZ : Hid (putAll (Num.put [] (m : Int)) (r.take 0) = Num.puts [] [(m : Int)]) := by
      show Num.put [] (m : Int) = _
      exact putNum_puts (by unfold Num.ok; omega)
    clear hm HROK HROK2 HRLN
    have hl : At 1 (w2.alloc (.cells #[.int .i64 (m : Int)] 3)) (.slice (some ⟨w2.heap.size, 0, none⟩) 1 1) 1 (ints .i64 [(m : Int)]) := (own_lit w2 #[.int .i64 (m : Int)] 1 (by unfold maxLen; omega) rfl).at
    have HA := Lib.hid (appendNums _ _ _ _ 0 1 [] [(m : Int)] _ rfl rfl (by omega) (by omega) (O2.alloc (.cells #[.int .i64 (m : Int)] 3)) hl (fun _ => own_ne O2 (Nat.le_refl _)))
    have o2' := (o2.alloc (.cells #[.int .i64 (m : Int)] 3))
    have NE2 := O2.blocks_ne o2 (by decide)
    go_wp2_with fail
    refine HA.out.mono ?_
    rintro e w3 ⟨v3, rfl, o3, e3⟩
    rw [← HZ.out] at o3
    have B3 : Below w.heap.size w w3 := (B2.alloc O2.lo _).trans (e3.below (O2.alloc _))
    have R3 := (o2'.other e3.grown NE2).wide (Nat.le_trans (by simp) e3.grown.size)
    clear HA hl o2 o2' NE2 e3 B2 O2
    generalize hq0 : putAll (Num.put [] (m : Int)) = q at o3 HS HEL HE
    clear hq0 HZ
    go_wp2
    go_loopw [3, 23] (fun o i wr => ∃ k : Nat, k ≤ m ∧ i = .int .i64 k ∧ Own 5 1 w.heap.size wr.heap.size wr o (q (r.take k)).length (ints .u8 (q (r.take k))) ∧ Own 77 3 w1.heap.size wr.heap.size wr (.slice (some ⟨g2, 0, none⟩) m c2) m (vals r) ∧ Below w.heap.size w wr) (fun _ i _ => m - (intOf i).toNat)
    case atStart => exact ⟨0, Nat.zero_le _, rfl, o3, R3, B3⟩
    case round =>
      obtain ⟨k, hk, rfl, hown, hrr, hbr⟩ := hrel
      by_cases hlt : k < m
      · obtain ⟨p0, p1, p2⟩ := row_at HM.out hrr.row hlt
        have HSK := Lib.hid (HS.out k hlt)
        have hel := HEL.out k hk
        have hok := HSS.out k hlt
        generalize r.getD k V.zero = x at p0 p1 p2 HSK hok
        have ba := below_alloc wr (.cells #[.int .i64 x.ty, .int .i64 x.n, .string x.s] 77)
        have F0 := held_new wr x 77
        have NE := hown.blocks_ne hrr (by decide)
        generalize q (r.take k) = zs at hown hel HSK
        have O1 := hown.alloc (.cells #[.int .i64 x.ty, .int .i64 x.n, .string x.s] 77)
        have rr1 := hrr.alloc (.cells #[.int .i64 x.ty, .int .i64 x.n, .string x.s] 77)
        have HPV := Lib.hid (appendValG _ _ _ _ zs x _ (by omega) rfl hok O1)
        have bt := hbr.alloc hbr.size (.cells #[.int .i64 x.ty, .int .i64 x.n, .string x.s] 77)
        rw [← HSK.out] at HPV
        have HLW : Hid (w.heap.size ≤ wr.heap.size) := hbr.size
        obtain ⟨xt, xn, xs⟩ := x
        simp only at p0 p1 p2 F0 O1 rr1 bt HPV
        clear hown hrr hel hok ba hbr O1
        go_wp2_with fail
        refine HPV.out.mono ?_
        rintro e w5 ⟨v5, rfl, o5, b5, g5⟩
        have hb5 := bt.trans b5
        have rr5 := Lib.hid ((rr1.other g5 NE).wide (Nat.le_trans (by simp) g5.size))
        have O5 := Lib.hid o5
        clear o5 b5 g5 bt rr1 NE F0 p0 p1 p2 HPV
        go_wp2
        go_roundw
        case rel => exact ⟨k + 1, by omega, by go_num, O5.out, rr5.out, hb5⟩
        case measure => simp [intOf]; omega
      · obtain rfl : k = m := by omega
        have hel := HEL.out k hk
        have hqd : Hid (r.take k = r) := by show _ = _; rw [← HM.out, List.take_length]
        rw [hqd.out] at hown hel
        have HPL := Lib.hid (HP.out (.slice (some ⟨g2, 0, none⟩) k c2) r wr hbr (by rw [HM.out]; omega) (by rw [HM.out]; exact hrr.rd))
        have hpl64 := places_len r l
        rw [HLN.out] at hpl64
        generalize placesL r l = pl at HPL HE hpl64
        obtain ⟨p, pb⟩ := pl
        simp only at HE hpl64
        unfold Unpacked at HPL
        simp only at HPL
        have HWD := Lib.hid (fun W => placeWidth (some ⟨g2, 0, none⟩) k c2 W (by omega))
        generalize Bit.widthI ((k : Int) - 1) = wd at HWD HE
        have HPK := Lib.hid (fun v W (hv : AtN 1 W v p.length (ints .i64 p)) => iPackBits v p.length p (wd : Int) W (by omega) rfl hv)
        have hpk : (Bit.pack p wd).length ≤ 256 := by
          have h1 := Bit.pack_le p wd
          omega
        generalize Bit.pack p (wd : Int) = pk at HPK HE hpk
        have HES : Hid (ints .u8 (q r) ++ ints .u8 pk = ints .u8 (encD l) ∧ (q r).length + pk.length = (encD l).length) := by
          rw [HE.out]
          exact ⟨(ints_append _ _ _).symm, (List.length_append).symm⟩
        generalize hqn : (q r).length = qn at hown hel HES
        clear hqn
        generalize hpn : pk.length = pn at HPK HES hpk
        generalize hpp : p.length = pq at HPL HPK
        clear hqd hrr
        go_wp2_with fail
        refine HPL.out.mono ?_
        rintro e w6 ⟨v6, rfl, o6, hb6⟩
        have b6 := below_then hbr hb6 hbr.size
        have own6 := (hown.below hb6 (Nat.le_refl _)).wide hb6.size
        have HPK6 := Lib.hid (HPK.out v6 w6 (.inr o6.at))
        clear hown hb6 hbr HPL HPK o6
        go_wp2_with (first | (go_at_call 158; refine (HWD.out _).mono ?_; rintro e w' ⟨rfl, rfl⟩) | fail)
        refine HPK6.out.mono ?_
        rintro e w7 ⟨v7, rfl, o7, hb7⟩
        have b7 := below_then b6 hb7 b6.size
        have own7 := (own6.below hb7 (Nat.le_refl _)).wide hb7.size
        obtain ⟨g7, off7, cp7, rfl, hn7, hc7, hl7, hcs7⟩ := o7.at
        have HL7 := Lib.hid hl7
        have HC7 := Lib.hid hcs7
        clear hl7 hcs7 o7 hb7 own6 HPK6
        go_wp2_with (at_builtin; refine append_law Tryz.elemBytes rfl _ _ rfl _ _ _ _ _ rfl own7 g7 off7 pn cp7 (ints .u8 pk) rfl HL7.out HC7.out (ints_one _ _) (by unfold maxLen; omega) (by omega) ?_)
        intro v8 w8 o8 e8
        have b8 := b7.trans (e8.below own7)
        rw [HES.out.1, HES.out.2] at o8
        have O8 := Lib.hid o8
        clear o8 e8 own7
        go_wp2
        go_ret
        exact ⟨_, rfl, O8.out, b8⟩

end Go.Proofs.YtkofafefnlommaaGreat
