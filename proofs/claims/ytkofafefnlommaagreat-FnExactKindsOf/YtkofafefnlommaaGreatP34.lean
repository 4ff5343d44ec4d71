/- Texts of this claim, one behind the other: I8, I8e. -/
import Derived.Test.YtkofafefnlommaaGreatP25
import Derived.Test.YtkofafefnlommaaGreatP16
import Derived.Test.YtkofafefnlommaaGreatP18
import Derived.Test.YtkofafefnlommaaGreatP23
import Derived.Test.YtkofafefnlommaaGreatP15
import Derived.Test.YtkofafefnlommaaGreatP24

/- The contracts of impl's Base, offsetFrom with its closure, Offsets, Reach. -/
namespace Go.Proofs.YtkofafefnlommaaGreat
open Go.RowKit

set_option maxHeartbeats 1000000 in
theorem iBase : CBase := by
  intro u l w hln hss h
  have HST : Hid (∀ k, k < l.length → baseK l (k + 1) = if (l.getD k V.zero).n < baseK l k then (l.getD k V.zero).n else baseK l k) := fun k hk => baseK_step hk
  have HZ := Lib.hid (baseK_zero l)
  have HEN := Lib.hid (baseK_end l)
  have HNIL : Hid (l.length = 0 → baseL l = 0) := fun h0 => by
    obtain rfl := List.length_eq_zero_iff.1 h0
    rfl
  generalize baseL l = R at HEN HNIL
  generalize hl : l.length = n at h hln HST HEN HNIL
  obtain ⟨a, cap, rfl, hm, HC⟩ := h.vals hl
  unfold maxLen at hm
  clear h hl hss
  by_cases h0 : n = 0
  · have HR := Lib.hid (HNIL.out h0)
    subst h0
    go_enter Tryz.func161, Tryz.ntmps161
    go_wp2
    go_ret
    exact ⟨ret_int (by rw [HR.out]), Below.refl _ _⟩
  · have hpos : 0 < n := by omega
    have hnb : ((n : Int) == 0) = false := by simpa using h0
    obtain ⟨b, off, rfl, z0, z1, z2⟩ := HC.out 0 hpos
    rw [← HZ.out] at z1
    simp only [Nat.zero_mul, Nat.add_zero] at z1
    generalize hg : baseK l = g at HST HZ HEN z1
    clear z0 z2 h0 hg
    go_enter Tryz.func161, Tryz.ntmps161
    go_wp2
    go_loopw [3, 15] (fun x i wr => ∃ k : Nat, k ≤ n ∧ i = .int .i64 k ∧ x = .int .i64 (g k) ∧ Below w.heap.size w wr) (fun _ i _ => n - (intOf i).toNat)
    case atStart => exact ⟨0, Nat.zero_le _, rfl, rfl, Below.refl _ _⟩
    case round =>
      obtain ⟨k, hk, rfl, rfl, hbr⟩ := hrel
      by_cases hlt : k < n
      · obtain ⟨b', o', hbo, q0, q1, q2⟩ := HC.out k hlt
        simp only [Option.some.injEq, Addr.mk.injEq, and_true] at hbo
        obtain ⟨rfl, rfl⟩ := hbo
        have HSK := Lib.hid (HST.out k hlt)
        generalize l.getD k V.zero = x at q0 q1 q2 HSK
        obtain ⟨t1, n1, s1⟩ := x
        simp only at q0 q1 q2 HSK
        replace q0 := (hbr.cell (p := ⟨b, off + k * 3, none⟩) (lt_of_cell q0)).trans q0
        replace q1 := (hbr.cell (p := ⟨b, off + k * 3 + 1, none⟩) (lt_of_cell q1)).trans q1
        replace q2 := (hbr.cell (p := ⟨b, off + k * 3 + 2, none⟩) (lt_of_cell q2)).trans q2
        have bt := hbr.alloc hbr.size (.cells #[.int .i64 t1, .int .i64 n1, .string s1] 77)
        clear z1
        by_cases hy : n1 < g k
        · rw [if_pos hy] at HSK
          have hmin : min (g k) n1 = n1 := by omega
          go_wp2
          go_roundw
          case rel => exact ⟨k + 1, by omega, by go_num, by rw [HSK.out], bt⟩
          case measure => simp [intOf]; omega
        · rw [if_neg hy] at HSK
          have hmin : min (g k) n1 = g k := by omega
          go_wp2
          go_roundw
          case rel => exact ⟨k + 1, by omega, by go_num, by rw [HSK.out], bt⟩
          case measure => simp [intOf]; omega
      · obtain rfl : k = n := by omega
        go_wp2
        go_ret
        exact ⟨ret_int HEN.out, hbr⟩

theorem offsetFrom (bs : Int) (w : World) : Calls Tryz.prog 184 #[.int .i64 bs] w fun e w' => e = .returned (.func (.func 196) #[] #[.pointer (some ⟨w.heap.size, 0, none⟩)]) ∧ w' = w.alloc (.cells #[.int .i64 bs] 3) := by
  have hmf : ∀ (fn : Fn) (first cap : Array Value) (w : World), (Instr.makeFunc fn first cap).run Tryz.prog w = .ok (.func fn first cap) w := fun _ _ _ _ => rfl
  go_enter Tryz.func184, Tryz.ntmps184
  go_wp2
  go_ret
  exact ⟨rfl, rfl⟩

theorem offsetOf (x : V) (g : Nat) (bs : Int) (w : World) (h0 : -1000000000 ≤ x.n) (h1 : x.n ≤ 1000000000) (h2 : -1000000000 ≤ bs) (h3 : bs ≤ 1000000000) (hg : w.cell? ⟨g, 0, none⟩ = some (.int .i64 bs)) :
    Calls Tryz.prog 196 #[x.agg, .pointer (some ⟨g, 0, none⟩)] w fun e w' => e = .returned (.int .i64 (x.n - bs)) ∧ Below w.heap.size w w' := by
  have F0 := held_new w x 77
  have ba := below_alloc w (.cells #[.int .i64 x.ty, .int .i64 x.n, .string x.s] 77)
  have hg2 := (ba.cell (p := ⟨g, 0, none⟩) (lt_of_cell hg)).trans hg
  obtain ⟨t, n, s⟩ := x
  simp only at F0 ba hg2 h0 h1
  obtain ⟨⟨f0, f1, f2⟩, _, _, _⟩ := F0
  clear hg
  go_enter Tryz.func196, Tryz.ntmps196
  go_wp2
  go_ret
  exact ⟨rfl, ba⟩

theorem filled_len' {pre : List Int} {n : Nat} (h : pre.length ≤ n) : (filled .i64 pre n).length = n := by simp [filled, ints]; omega

set_option maxHeartbeats 1000000 in
theorem iOffsets : COffsets := by
  intro u l w hln hss h
  have HT := Lib.hid (iTypeOf u l w hln hss h)
  have HB := Lib.hid (fun W (hW : Below w.heap.size w W) => iBase u l W hln hss (h.below hW))
  have HNO : Hid (¬ typeV l = 1 → offL l = []) := off_no
  have HYES : Hid (typeV l = 1 → ofK l l.length = offL l ∧ l.length ≤ 64 ∧ (-1000000000 ≤ baseL l ∧ baseL l ≤ 1000000000) ∧ ∀ k, k < l.length → -1000000000 ≤ (l.getD k V.zero).n ∧ (l.getD k V.zero).n ≤ 1000000000) := fun h => ⟨ofK_end h, (int_parts h).2.1, base_ok h, fun k hk => num_at h hk⟩
  have HS : Hid (∀ k, k < l.length → ofK l (k + 1) = ofK l k ++ [(l.getD k V.zero).n - baseL l]) := fun k hk => by
    unfold ofK
    rw [List.take_succ_eq_append_getElem hk, List.map_append, getDe l V.zero hk]
    rfl
  have HTL : Hid (∀ k, k ≤ l.length → (ofK l k).length = k) := fun k hk => by simp [ofK]; omega
  have HE0 : Hid (ofK l 0 = []) := by show _ = _; simp [ofK]
  have hb1 : l.length ≤ 1048576 := hln
  generalize hl : l.length = n at h HT HB HYES HS HTL hb1
  obtain ⟨a, cap, rfl, hm, HC⟩ := h.vals hl
  unfold maxLen at hm
  generalize typeV l = ty at HT HNO HYES
  generalize baseL l = bs at HB HYES HS
  generalize offL l = R at HNO HYES
  clear h hl hss hln
  go_enter Tryz.func159, Tryz.ntmps159
  go_wp2_with fail
  refine HT.out.mono ?_
  rintro e w1 ⟨rfl, b1⟩
  clear HT
  by_cases ht : ty = 1
  · subst ht
    obtain ⟨hR, h64, ⟨hbs0, hbs1⟩, HNM⟩ := HYES.out rfl
    have HR := Lib.hid hR
    have HN := Lib.hid HNM
    clear hR HNM HYES HNO
    go_wp2_with fail
    refine (HB.out _ b1).mono ?_
    rintro e w2 ⟨rfl, hb2⟩
    have b2 := below_then b1 hb2 b1.size
    clear hb2 b1 HB
    go_wp2_with fail
    refine (offsetFrom bs w2).mono ?_
    rintro e w3 ⟨rfl, hw3⟩
    have hs3 : w3.heap.size = w2.heap.size + 1 := by rw [hw3]; simp
    have b3 : Below w.heap.size w w3 := by rw [hw3]; exact b2.alloc b2.size _
    have hc3 : w3.cell? ⟨w2.heap.size, 0, none⟩ = some (.int .i64 bs) := by rw [hw3]; simp
    generalize hgg : w2.heap.size = g at hs3 hc3 ⊢
    have hwg : Hid (w.heap.size ≤ g) := by
      show _ ≤ _
      rw [← hgg]
      exact b2.size
    have HG3 : Hid (w3.heap.size = g + 1) := hs3
    clear hw3 b2 hgg hs3
    go_wp2_with (at_make; refine make_law Tryz.elemInts rfl _ _ rfl .i64 .i64 _ _ n rfl rfl rfl rfl (by omega) (by unfold maxLen; omega) ?_)
    intro w4 hown4 hb4
    have hb5 := below_then b3 hb4 b3.size
    have hown0 : Own 3 1 w3.heap.size w4.heap.size w4 (.slice (some ⟨w3.heap.size, 0, none⟩) n n) n (filled .i64 (ofK l 0) n) := by
      rw [HE0.out]
      rw [← made_filled]
      exact hown4
    generalize hgo : w3.heap.size = go at hown0 hown4 hb4 ⊢
    have HGO := Lib.hid hgo
    clear hown4 hgo
    go_wp2
    go_loopw [19] (fun i wr => ∃ k : Nat, k ≤ n ∧ i = .int .i64 k ∧ wr.ownsRow go 3 1 (.slice (some ⟨go, 0, none⟩) n n) n (filled .i64 (ofK l k) n) ∧ Below go w3 wr ∧ Below w.heap.size w wr) (fun i _ => n - (intOf i).toNat)
    case atStart => exact ⟨0, Nat.zero_le _, rfl, hown0.row, hb4, hb5⟩
    case round =>
      obtain ⟨k, hk, rfl, hown, hb3r, hbr⟩ := hrel
      clear hown0 hb4 hb5
      by_cases hlt : k < n
      · obtain ⟨b, off, rfl, p0, p1, p2⟩ := HC.out k hlt
        have HSK := Lib.hid (HS.out k hlt)
        have HKL := Lib.hid (HTL.out k hk)
        have HSET := Lib.hid (fun x => filled_set (k := .i64) (pre := ofK l k) (n := n) x (by rw [HKL.out]; exact hlt))
        rw [HKL.out] at HSET
        have HFL := Lib.hid (filled_len' (pre := ofK l k) (n := n) (by rw [HKL.out]; exact hk))
        obtain ⟨y0, y1⟩ := HN.out k hlt
        generalize l.getD k V.zero = x at p0 p1 p2 HSK y0 y1
        replace p0 := (hbr.cell (p := ⟨b, off + k * 3, none⟩) (lt_of_cell p0)).trans p0
        replace p1 := (hbr.cell (p := ⟨b, off + k * 3 + 1, none⟩) (lt_of_cell p1)).trans p1
        replace p2 := (hbr.cell (p := ⟨b, off + k * 3 + 2, none⟩) (lt_of_cell p2)).trans p2
        have ba := below_alloc wr (.cells #[.int .i64 x.ty, .int .i64 x.n, .string x.s] 77)
        have hgc : (wr.alloc (.cells #[.int .i64 x.ty, .int .i64 x.n, .string x.s] 77)).cell? ⟨g, 0, none⟩ = some (.int .i64 bs) := by
          have e1 := hb3r.cell (p := ⟨g, 0, none⟩) (by have := HG3.out; have := HGO.out; show g < go; omega)
          have e2 := e1.trans hc3
          exact (ba.cell (p := ⟨g, 0, none⟩) (lt_of_cell e2)).trans e2
        have HOF := Lib.hid (offsetOf x g bs _ y0 y1 hbs0 hbs1 hgc)
        have B2 := below_then hbr ba hbr.size
        have B3 := hb3r.alloc (by have := hown.lt _ rfl; omega) (.cells #[.int .i64 x.ty, .int .i64 x.n, .string x.s] 77)
        have O2 := (own_of_row hown (Nat.le_refl _)).below ba (Nat.le_refl _)
        obtain ⟨t1, n1, s1⟩ := x
        simp only at p0 p1 p2 HOF B2 B3 O2 HSK y0 y1
        clear hown hb3r hbr ba hgc hc3
        go_wp2_with fail
        refine HOF.out.mono ?_
        rintro e w5 ⟨rfl, hb5⟩
        have hgo2 := O2.lo
        have HLOW : Hid (w.heap.size ≤ go) := by
          have h1 := HG3.out
          have h2 := HGO.out
          have h3 := hwg.out
          show _ ≤ _
          omega
        have B5 := (below_then B2 hb5 B2.size).setCell (p := ⟨go, k, none⟩) HLOW.out (.int .i64 (n1 - bs))
        have B35 := (B3.trans (hb5.mono hgo2)).setCell (p := ⟨go, k, none⟩) (Nat.le_refl _) (.int .i64 (n1 - bs))
        have r5 := (O2.below hb5 (by simp)).row
        have R := Lib.hid (r5.stored k (.int .i64 (n1 - bs)))
        rw [HSET.out, ← HSK.out] at R
        obtain ⟨x0, s0⟩ := cellAt_some r5 k (by omega)
        have f0 := r5.frozenAt k
        have HB5 := Lib.hid B5
        have HB35 := Lib.hid B35
        clear O2 r5 B5 B35 B2 B3 hb5 HOF p0 p1 p2
        go_wp2
        go_roundw
        case rel => exact ⟨k + 1, by omega, by go_num, R.out.1, HB35.out, HB5.out⟩
        case measure => simp [intOf]; omega
      · obtain rfl : k = n := by omega
        have HKL := Lib.hid (HTL.out k hk)
        have OO := Lib.hid (own_of_row hown (Nat.le_refl _))
        have HLOW : Hid (w.heap.size ≤ go) := by
          have h1 := HG3.out
          have h2 := HGO.out
          have h3 := hwg.out
          show _ ≤ _
          omega
        clear hown
        go_wp2
        go_ret
        refine ⟨_, rfl, ?_, hbr⟩
        have := OO.out
        rw [filled_all HKL.out, HR.out] at this
        rw [← HR.out, HKL.out, HR.out]
        exact this.lower HLOW.out
  · have htb : (ty != 1) = true := by simpa using ht
    have HR := Lib.hid (HNO.out ht)
    have O1 := own_lit (e := 3) (size := 1) w1 #[] 0 (Nat.zero_le _) rfl
    have B1 := b1.alloc b1.size (.cells #[] 3)
    have z1 := b1.size
    clear ht
    go_wp2
    go_ret
    rw [HR.out]
    exact ⟨_, rfl, O1.lower z1, B1⟩

end Go.Proofs.YtkofafefnlommaaGreat

/- The contracts of impl's EncFrame and Raised. -/
namespace Go.Proofs.YtkofafefnlommaaGreat
open Go.RowKit

set_option maxHeartbeats 2000000 in
theorem iEncFrame : CEncFrame := by
  intro u l w hn hss h
  have hown0 := own_lit (e := 5) (size := 1) w #[] 0 (Nat.zero_le _) rfl
  have hb0 := below_alloc w (.cells #[] 5)
  have HE : Hid (encF l = if typeV l = 1 then (Num.put [] (baseL l) ++ [(Bit.widthFor (offL l) : Int)]) ++ Bit.pack (offL l) (Bit.widthFor (offL l)) else []) := rfl
  have HT := Lib.hid (iTypeOf u l _ hn hss (h.below hb0))
  have HB := Lib.hid (fun W (hW : Below w.heap.size w W) => iBase u l W hn hss (h.below hW))
  have HO := Lib.hid (fun W (hW : Below w.heap.size w W) => iOffsets u l W hn hss (h.below hW))
  have hol := (off_len l).2
  have HOK : Hid (typeV l = 1 → Num.ok (baseL l)) := base_ok
  generalize typeV l = ty at HE HT HOK
  generalize baseL l = bs at HE HB HOK
  generalize offL l = o at HE HO hol
  generalize encF l = R at HE
  clear hss h hn
  go_enter Tryz.func134, Tryz.ntmps134
  go_wp2_with fail
  refine HT.out.mono ?_
  rintro e w1 ⟨rfl, hb1⟩
  have b1 := below_then hb0 hb1 hb0.size
  have O1 := (hown0.below hb1 (Nat.le_refl _)).wide hb1.size
  clear HT hb1 hb0 hown0
  by_cases ht : ty = 1
  · subst ht
    rw [if_pos rfl] at HE
    have hok := HOK.out rfl
    have HPT : Hid (Num.put [] bs = Num.puts [] [bs]) := putNum_puts hok
    rw [HPT.out] at HE
    have hpl := (Num.put_len [] bs).2
    rw [HPT.out] at hpl
    simp only [List.length_nil] at hpl
    clear HOK hok HPT
    go_wp2_with fail
    refine (HO.out w1 b1).mono ?_
    rintro e w2 ⟨v2, rfl, o2, hb2⟩
    have b2 := below_then b1 hb2 b1.size
    have O2 := (O1.below hb2 (Nat.le_refl _)).wide hb2.size
    have HW := Lib.hid (iWidthFor v2 o.length o w2 rfl (.inr o2.at))
    have hw31 := Bit.widthFor_le31 o
    have hpn := Bit.pack_le o (Bit.widthFor o)
    generalize Bit.widthFor o = wd at HE HW hw31 hpn
    clear HO hb2 O1
    go_wp2_with fail
    refine HW.out.mono ?_
    rintro e w' ⟨rfl, rfl⟩
    clear HW
    go_wp2_with fail
    refine (HB.out _ b2).mono ?_
    rintro e w3 ⟨rfl, hb3⟩
    have b3 := below_then b2 hb3 b2.size
    have O3 := (O2.below hb3 (Nat.le_refl _)).wide hb3.size
    have p3 := (o2.below hb3 (Nat.le_refl _)).wide hb3.size
    have hwd : (wd : Int) ≤ 31 := by omega
    have HPK := Lib.hid (fun W hW => iPackBits v2 o.length o (wd : Int) W (by omega) rfl (.inr hW))
    have HES : Hid (ints .u8 (Num.puts [] [bs]) ++ .int .u8 (wd : Int) :: ints .u8 (Bit.pack o wd) = ints .u8 R ∧ (Num.puts [] [bs]).length + 1 + (Bit.pack o wd).length = R.length) := by
      rw [HE.out]
      refine ⟨?_, by simp only [List.length_append, List.length_cons, List.length_nil]⟩
      rw [ints_append, ints_append, List.append_assoc]
      rfl
    have hl : At 1 (w3.alloc (.cells #[.int .i64 bs] 3)) (.slice (some ⟨w3.heap.size, 0, none⟩) 1 1) 1 (ints .i64 [bs]) := (own_lit w3 #[.int .i64 bs] 1 (by unfold maxLen; omega) rfl).at
    have HA := Lib.hid (appendNums _ _ _ _ 0 1 [] [bs] _ rfl rfl (by omega) (by omega) (O3.alloc (.cells #[.int .i64 bs] 3)) hl (fun _ => own_ne O3 (Nat.le_refl _)))
    generalize Num.puts [] [bs] = pb at HA HES hpl
    generalize pb.length = pbn at HA HES hpl
    have p3' := (p3.alloc (.cells #[.int .i64 bs] 3))
    have NE3 := O3.blocks_ne p3 (by decide)
    have z1 := b1.size
    generalize Bit.pack o (wd : Int) = pk at HPK HES hpn
    generalize pk.length = pn at HPK HES hpn
    generalize o.length = on at *
    obtain ⟨g2, c2, rfl⟩ : ∃ g c, v2 = .slice (some ⟨g, 0, none⟩) on c := by
      obtain ⟨g, c, e, _⟩ := o2
      exact ⟨g, c, e⟩
    clear o2 O2 hb3 HB HE b1 b2
    go_wp2_with fail
    refine HA.out.mono ?_
    rintro e w4 ⟨v4, rfl, o4, e4⟩
    have B4 : Below w.heap.size w w4 := (b3.alloc b3.size _).trans (e4.below (O3.alloc _))
    have P4 := (p3'.other e4.grown NE3).wide (Nat.le_trans (by simp) e4.grown.size)
    have NE4 := o4.blocks_ne P4 (by decide)
    clear HA hl p3' p3 NE3 e4 b3 O3
    go_wp2_with (first | (at_builtin; refine append1_law Tryz.elemBytes rfl _ _ rfl _ _ _ _ _ (.int .u8 (wd : Int)) rfl rfl o4 rfl (by unfold maxLen; omega) (by omega) ?_) | fail)
    intro v5 w5 o5 e5
    have B5 := B4.trans (e5.below o4)
    have HPK5 := Lib.hid (HPK.out w5 (P4.other e5.grown NE4).at)
    clear o4 e5 B4 P4 NE4 HPK
    go_wp2_with fail
    refine HPK5.out.mono ?_
    rintro e w6 ⟨v6, rfl, o6, hb6⟩
    have b6 := below_then B5 hb6 B5.size
    have own6 := (o5.below hb6 (Nat.le_refl _)).wide hb6.size
    obtain ⟨g6, off6, cp6, rfl, hn6, hc6, hl6, hcs6⟩ := o6.at
    have HL6 := Lib.hid hl6
    have HC6 := Lib.hid hcs6
    clear hl6 hcs6 o6 hb6 o5 HPK5 B5
    go_wp2_with (at_builtin; refine append_law Tryz.elemBytes rfl _ _ rfl _ _ _ _ _ rfl own6 g6 off6 pn cp6 (ints .u8 pk) rfl HL6.out HC6.out (ints_one _ _) (by unfold maxLen; omega) (by omega) ?_)
    intro v7 w7 o7 e7
    have b7 := b6.trans (e7.below own6)
    rw [HES.out.1, HES.out.2] at o7
    have O7 := Lib.hid o7
    clear o7 e7 own6
    go_wp2
    go_ret
    exact ⟨_, rfl, O7.out, b7⟩
  · have htb : (ty != 1) = true := by simpa using ht
    rw [if_neg ht] at HE
    clear ht
    go_wp2
    go_ret
    rw [HE.out]
    exact ⟨_, rfl, O1, b1⟩

set_option maxHeartbeats 1000000 in
theorem iRaised : CRaised := by
  intro v base l w hn h
  have HNK0 := Lib.hid (fun W => numOk base W)
  cases hok : Num.okB base with
  | false =>
    have HR := Lib.hid (raised_bad l hok)
    rw [hok] at HNK0
    have hown0 := own_lit (e := 77) (size := 3) w #[] 0 (Nat.zero_le _) rfl
    have hb0 := below_alloc w (.cells #[] 77)
    clear h hn hok
    go_enter Tryz.func191, Tryz.ntmps191
    go_wp2_with (go_at_call 78; refine (HNK0.out _).mono ?_; rintro e w' ⟨rfl, rfl⟩)
    go_ret2
    rw [HR.out]
    exact ⟨_, rfl, hown0, hb0⟩
  | true =>
    obtain ⟨b0, b1⟩ : -1000000000 ≤ base ∧ base ≤ 1000000000 := Num.okB_true.1 hok
    rw [hok] at HNK0
    generalize hl : l.length = K at h hn
    obtain ⟨a, cap, rfl, hm, HC⟩ := h.ints hl
    unfold maxLen at hm
    have HL := Lib.hid hl
    have HNO : Hid (∀ k, k < K → upB base (l.getD k 0) = false → raisedL base l = ([], false)) := fun k hk h1 => raised_no (by omega) h1
    have HYES : Hid ((∀ k, k < K → upB base (l.getD k 0) = true) → raisedL base l = (l.map (upV base), true)) := fun h1 => raised_yes hok (fun k hk => h1 k (by omega))
    have HS : Hid (∀ k, k < K → upK base l (k + 1) = upK base l k ++ [⟨1, base + l.getD k 0, ⟨#[]⟩⟩]) := fun k hk => by
      have hk' : k < l.length := by omega
      unfold upK
      rw [List.take_succ_eq_append_getElem hk', List.map_append, getDe l 0 hk']
      rfl
    have HKL : Hid (∀ k, k ≤ K → (upK base l k).length = k) := fun k hk => by simp [upK]; omega
    have HPK0 : Hid (upK base l 0 = []) := by show _ = _; simp [upK]
    have HPKE : Hid (upK base l K = l.map (upV base)) := by show _ = _; unfold upK; rw [← hl, List.take_length]
    generalize raisedL base l = R at HNO HYES
    clear h hl hok
    go_enter Tryz.func191, Tryz.ntmps191
    go_wp2_with (first | (go_at_call 78; refine (HNK0.out _).mono ?_; rintro e w' ⟨rfl, rfl⟩) | (at_make; refine make_law Tryz.elemVals rfl _ _ rfl .i64 .i64 _ _ K rfl rfl rfl rfl (by omega) (by unfold maxLen; omega) ?_))
    intro w1 hown1 hb1
    have hown0 : Own 77 3 w.heap.size w1.heap.size w1 (.slice (some ⟨w.heap.size, 0, none⟩) K K) K (vals (fillV (upK base l 0) K)) := by
      have e : vals (fillV (upK base l 0) K) = (madeCells V.zero.cs.toArray (K * 3)).toList := by
        rw [made_flat V.cs V.zero 3 K (by omega) (fun _ => rfl), HPK0.out]
        simp [fillV, vals]
      rw [e]
      exact hown1
    clear hown1
    go_wp2
    go_loopw [18] (fun i wr => ∃ j : Nat, j ≤ K ∧ i = .int .i64 j ∧ (∀ i, i < j → upB base (l.getD i 0) = true) ∧ wr.ownsRow w.heap.size 77 3 (.slice (some ⟨w.heap.size, 0, none⟩) K K) K (vals (fillV (upK base l j) K)) ∧ Below w.heap.size w wr) (fun i _ => K - (intOf i).toNat)
    case atStart => exact ⟨0, Nat.zero_le _, rfl, fun i hi => by omega, hown0.row, hb1⟩
    case round =>
      obtain ⟨j, hj, rfl, hno, hown, hbr⟩ := hrel
      have HK := Lib.hid hno
      clear hown0 hb1 hno
      by_cases hlt : j < K
      · obtain ⟨b, off, rfl, p0⟩ := HC.out j hlt
        replace p0 := (hbr.cell (p := ⟨b, off + j, none⟩) (lt_of_cell p0)).trans p0
        have HSJ := Lib.hid (HS.out j hlt)
        have HKJ := Lib.hid (HKL.out j hj)
        have HSET := Lib.hid (fun x => fillV_set (pre := upK base l j) (K := K) x (by rw [HKJ.out]; exact hlt))
        rw [HKJ.out] at HSET
        have HFL := Lib.hid (fillV_len (pre := upK base l j) (K := K) (by rw [HKJ.out]; exact hj))
        have HNK := Lib.hid (HNO.out j hlt)
        have HKK : Hid (upB base (l.getD j 0) = true → ∀ i, i < j + 1 → upB base (l.getD i 0) = true) := fun h1 i hi => by
          by_cases e : i = j
          · subst e; exact h1
          · exact HK.out i (by omega)
        generalize l.getD j 0 = z at p0 HSJ HNK HKK
        have OL := own_lit (e := 77) (size := 3) wr #[] 0 (Nat.zero_le _) rfl
        have BL := hbr.alloc hbr.size (.cells #[] 77)
        have hzz := hbr.size
        by_cases hz0 : z < 0
        · have HR : Hid (R = ([], false)) := HNK.out (decide_eq_false fun e => by omega)
          clear hown
          go_wp2
          go_ret2
          rw [HR.out]
          exact ⟨_, rfl, OL.lower hzz, BL⟩
        · by_cases hz1 : 2000000000 < z
          · have HR : Hid (R = ([], false)) := HNK.out (decide_eq_false fun e => by omega)
            clear hown
            go_wp2
            go_ret2
            rw [HR.out]
            exact ⟨_, rfl, OL.lower hzz, BL⟩
          · by_cases hz2 : 1000000000 < base + z
            · have HR : Hid (R = ([], false)) := HNK.out (decide_eq_false fun e => by omega)
              clear hown
              go_wp2
              go_ret2
              rw [HR.out]
              exact ⟨_, rfl, OL.lower hzz, BL⟩
            · have HK2 := Lib.hid (HKK.out (decide_eq_true (by omega)))
              have HIV := Lib.hid (fun W => iIntVal (base + z) W)
              have HOW := Lib.hid hown
              clear OL BL hown
              go_wp2_with fail
              refine (HIV.out _).mono ?_
              rintro e w2 ⟨rfl, hb2⟩
              have B2 := below_then hbr hb2 hbr.size
              have r2 := ((own_of_row HOW.out (Nat.le_refl _)).below hb2 (Nat.le_refl _)).row
              have R3 := Lib.hid (stored3 r2 j ⟨1, base + z, ⟨#[]⟩⟩ (by rw [HFL.out]; exact hlt))
              rw [HSET.out, ← HSJ.out] at R3
              obtain ⟨x0, s0⟩ := cellAt_some r2 (j * 3) (by omega)
              obtain ⟨x1, s1'⟩ := cellAt_some r2 (j * 3 + 1) (by omega)
              obtain ⟨x2, s2⟩ := cellAt_some r2 (j * 3 + 2) (by omega)
              have f0 := r2.frozenAt (j * 3)
              have f1 := r2.frozenAt (j * 3 + 1)
              have f2 := r2.frozenAt (j * 3 + 2)
              have b3 := Lib.hid (((B2.setCell (p := ⟨w.heap.size, j * 3, none⟩) (Nat.le_refl _) (.int .i64 1)).setCell (p := ⟨w.heap.size, j * 3 + 1, none⟩) (Nat.le_refl _) (.int .i64 (base + z))).setCell (p := ⟨w.heap.size, j * 3 + 2, none⟩) (Nat.le_refl _) (.string ⟨#[]⟩))
              clear r2 hbr hb2 B2 HIV HOW p0
              go_wp2
              go_roundw
              case rel => exact ⟨j + 1, by omega, by go_num, HK2.out, R3.out.1, b3.out⟩
              case measure => simp [intOf]; omega
      · obtain rfl : j = K := by omega
        have HR := Lib.hid (HYES.out HK.out)
        have OO := Lib.hid (own_of_row hown (Nat.le_refl _))
        have HKJ := Lib.hid (HKL.out j hj)
        clear hown
        go_wp2
        go_ret2
        rw [HR.out]
        refine ⟨_, rfl, ?_, hbr⟩
        have := OO.out
        rw [fillV_all HKJ.out, HPKE.out] at this
        show Own _ _ _ _ _ _ (l.map _).length _
        rw [List.length_map, HL.out]
        exact this

end Go.Proofs.YtkofafefnlommaaGreat
