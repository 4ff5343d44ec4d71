/- The contracts of the model's Base, Offsets, Reach, EncFrame. -/
import Derived.Test.YthniakklkepomaaM8
import Derived.Test.YthniakklkepomaaS5
import Derived.Test.YthniakklkepomaaSPack
import Derived.Test.YthniakklkepomaaSBits
import Derived.Test.YthniakklkepomaaSUnpack
namespace Go.Proofs.Ythniakklkepomaa
open Go.RowKit

set_option maxHeartbeats 1000000 in
theorem sBase (u : Value) (l : List V) (w : World) (h : Rd 3 w u l.length (vals l)) :
    Calls Try.prog 48 #[u] w fun e w' => e = .returned (.int .i64 (baseL l)) ∧ w = w' := by
  have HST : Hid (∀ k, k < l.length → baseK l (k + 1) = if (l.getD k V.zero).n < baseK l k then (l.getD k V.zero).n else baseK l k) := fun k hk => baseK_step hk
  have HON : Hid (0 < l.length → baseK l 1 = (l.getD 0 V.zero).n) := baseK_one
  have HEN : Hid (∀ x, (x = if l.length = 0 then 0 else baseK l l.length) → x = baseL l) := fun x hx => by
    rw [hx]
    split
    · rename_i h0
      obtain rfl := List.length_eq_zero_iff.1 h0
      rfl
    · exact baseK_end l
  generalize baseL l = R at HEN
  generalize hl : l.length = n at h HST HON HEN
  obtain ⟨a, cap, rfl, hm, HC⟩ := h.vals hl
  unfold maxLen at hm
  clear h hl
  go_enter Try.func48, Try.ntmps48
  go_wp2
  go_loop [3, 4] (fun x i => ∃ (k : Nat) (z : Int), k ≤ n ∧ i = .int .i64 k ∧ x = .int .i64 z ∧ z = if k = 0 then 0 else baseK l k) (fun _ i => n - (intOf i).toNat)
  case atStart => exact ⟨0, 0, Nat.zero_le _, rfl, rfl, rfl⟩
  case round =>
    obtain ⟨k, z, hk, rfl, rfl, hz⟩ := hrel
    by_cases hlt : k < n
    · obtain ⟨b, off, rfl, p0, p1, p2⟩ := HC.out k hlt
      have HSK := Lib.hid (HST.out k hlt)
      by_cases hk0 : k = 0
      · subst hk0
        have HO := Lib.hid (HON.out hlt)
        simp only [Nat.zero_mul, Nat.add_zero] at p1
        generalize (l.getD 0 V.zero).n = y at p1 HO
        clear hz HSK p0 p2
        go_wp2
        go_round
        case rel => exact ⟨1, y, by omega, by go_num, rfl, by rw [if_neg (by omega), HO.out]⟩
        case measure => simp [intOf]; omega
      · have hkb : ((k : Int) == 0) = false := by simpa using hk0
        rw [if_neg hk0] at hz
        rw [← hz] at HSK
        generalize (l.getD k V.zero).n = y at p1 HSK
        clear hz p0 p2 hk0
        by_cases hy : y < z
        · rw [if_pos hy] at HSK
          go_wp2
          go_round
          case rel => exact ⟨k + 1, y, by omega, by go_num, rfl, by rw [if_neg (by omega), HSK.out]⟩
          case measure => simp [intOf]; omega
        · rw [if_neg hy] at HSK
          go_wp2
          go_round
          case rel => exact ⟨k + 1, z, by omega, by go_num, rfl, by rw [if_neg (by omega), HSK.out]⟩
          case measure => simp [intOf]; omega
    · obtain rfl : k = n := by omega
      have HR := Lib.hid (HEN.out z hz)
      clear hz
      go_wp2
      go_ret
      exact ⟨ret_int HR.out, rfl⟩

/-- The offsets of the first k values. -/
def ofK (l : List V) (k : Nat) : List Int := (l.take k).map (fun v => v.n - baseL l)
theorem ofK_step {l : List V} {k : Nat} (h : k < l.length) : ints .i64 (ofK l (k + 1)) = ints .i64 (ofK l k) ++ [.int .i64 ((l.getD k V.zero).n - baseL l)] := by
  unfold ofK
  rw [List.take_succ_eq_append_getElem h, List.map_append, ints_append, getDe l V.zero h]
  rfl
theorem ofK_end {l : List V} (h : typeV l = 1) : ofK l l.length = offL l := by
  unfold ofK
  rw [List.take_length, off_yes h]
theorem num_at {l : List V} (h : typeV l = 1) {k : Nat} (hk : k < l.length) : -1000000000 ≤ (l.getD k V.zero).n ∧ (l.getD k V.zero).n ≤ 1000000000 := by
  rw [getDe l V.zero hk]
  exact int_num h _ (List.getElem_mem hk)

set_option maxHeartbeats 1000000 in
theorem sOffsets (u : Value) (l : List V) (w : World) (hss : ∀ v ∈ l, v.s.size ≤ maxLen) (h : Rd 3 w u l.length (vals l)) :
    Calls Try.prog 46 #[u] w fun e w' => ∃ v', e = .returned v' ∧ Own 3 1 w.heap.size w'.heap.size w' v' (offL l).length (ints .i64 (offL l)) ∧ Below w.heap.size w w' := by
  have hown0 := own_lit (e := 3) (size := 1) w #[] 0 (Nat.zero_le _) rfl
  have hb0 := below_alloc w (.cells #[] 3)
  have HT := Lib.hid (sTypeOf u l _ hss (h.below hb0))
  have HB := Lib.hid (fun W (hW : Below w.heap.size w W) => sBase u l W (h.below hW))
  have HNO : Hid (¬ typeV l = 1 → offL l = []) := off_no
  have HYES : Hid (typeV l = 1 → ofK l l.length = offL l ∧ l.length ≤ 64 ∧ (-1000000000 ≤ baseL l ∧ baseL l ≤ 1000000000) ∧ ∀ k, k < l.length → -1000000000 ≤ (l.getD k V.zero).n ∧ (l.getD k V.zero).n ≤ 1000000000) := fun h => ⟨ofK_end h, (int_parts h).2.1, base_ok h, fun k hk => num_at h hk⟩
  have HS : Hid (∀ k, k < l.length → ints .i64 (ofK l (k + 1)) = ints .i64 (ofK l k) ++ [.int .i64 ((l.getD k V.zero).n - baseL l)]) := fun k hk => ofK_step hk
  have HTL : Hid (∀ k, k ≤ l.length → (ofK l k).length = k) := fun k hk => by simp [ofK]; omega
  generalize hl : l.length = n at h HT HB HYES HS HTL
  obtain ⟨a, cap, rfl, hm, HC⟩ := h.vals hl
  unfold maxLen at hm
  generalize typeV l = ty at HT HNO HYES
  generalize baseL l = bs at HB HYES HS
  generalize offL l = R at HNO HYES
  clear h hl hss
  go_enter Try.func46, Try.ntmps46
  go_wp2_with fail
  refine HT.out.mono ?_
  rintro e w1 ⟨rfl, hb1⟩
  have b1 := below_then hb0 hb1 hb0.size
  have O1 := (hown0.below hb1 (by simp)).wide hb1.size
  clear HT hb1 hown0 hb0
  by_cases ht : ty = 1
  · subst ht
    obtain ⟨hR, h64, hbs, HNM⟩ := HYES.out rfl
    have HR := Lib.hid hR
    have HN := Lib.hid HNM
    clear hR HNM HYES HNO
    have e0 : ofK l 0 = [] := by simp [ofK]
    go_wp2_with (go_at_call 48; refine (HB.out _ b1).mono ?_; rintro e w' ⟨rfl, rfl⟩)
    go_loopw [3, 5] (fun o i wr => ∃ k : Nat, k ≤ n ∧ i = .int .i64 k ∧ Own 3 1 w.heap.size wr.heap.size wr o k (ints .i64 (ofK l k)) ∧ Below w.heap.size w wr) (fun _ i _ => n - (intOf i).toNat)
    case atStart => exact ⟨0, Nat.zero_le _, rfl, by rw [e0]; exact O1, b1⟩
    case round =>
      obtain ⟨k, hk, rfl, hown, hbr⟩ := hrel
      by_cases hlt : k < n
      · obtain ⟨b, off, rfl, p0, p1, p2⟩ := HC.out k hlt
        replace p1 := (hbr.cell (p := ⟨b, off + k * 3 + 1, none⟩) (lt_of_cell p1)).trans p1
        have HSK := Lib.hid (HS.out k hlt)
        obtain ⟨y0, y1⟩ := HN.out k hlt
        generalize (l.getD k V.zero).n = y at p1 HSK y0 y1
        clear p0 p2
        go_wp2_with (at_builtin; refine append1_law Try.elemInts rfl _ _ rfl _ _ _ _ _ (.int .i64 (y - bs)) rfl rfl hown rfl (by unfold maxLen; omega) (by omega) ?_)
        intro v4 w4 o4 e4
        have b4 := hbr.trans (e4.below hown)
        rw [← HSK.out] at o4
        have O4 := Lib.hid o4
        clear o4 e4 hown p1
        go_wp2
        go_roundw
        case rel => exact ⟨k + 1, by omega, by go_num, O4.out, b4⟩
        case measure => simp [intOf]; omega
      · obtain rfl : k = n := by omega
        have OO := Lib.hid hown
        have HL := Lib.hid (HTL.out k (Nat.le_refl _))
        clear hown
        go_wp2
        go_ret
        exact ⟨_, rfl, by have := OO.out; rw [← HR.out, HL.out]; exact this, hbr⟩
  · have htb : (ty != 1) = true := by simpa using ht
    have HR := Lib.hid (HNO.out ht)
    clear ht
    go_wp2
    go_ret
    rw [HR.out]
    exact ⟨_, rfl, O1, b1⟩

set_option maxHeartbeats 2000000 in
theorem sEncFrame (u : Value) (l : List V) (w : World) (hss : ∀ v ∈ l, v.s.size ≤ maxLen) (h : Rd 3 w u l.length (vals l)) :
    Calls Try.prog 29 #[u] w fun e w' => ∃ v', e = .returned v' ∧ Own 5 1 w.heap.size w'.heap.size w' v' (encF l).length (ints .u8 (encF l)) ∧ Below w.heap.size w w' := by
  have HE : Hid (encF l = if typeV l = 1 then (Num.put [] (baseL l) ++ [(Bit.widthFor (offL l) : Int)]) ++ Bit.pack (offL l) (Bit.widthFor (offL l)) else []) := rfl
  have HT := Lib.hid (sTypeOf u l w hss h)
  have HB := Lib.hid (fun W (hW : Below w.heap.size w W) => sBase u l W (h.below hW))
  have HO := Lib.hid (fun W (hW : Below w.heap.size w W) => sOffsets u l W hss (h.below hW))
  have hol := (off_len l).2
  generalize typeV l = ty at HE HT
  generalize baseL l = bs at HE HB
  generalize offL l = o at HE HO hol
  generalize encF l = R at HE
  clear hss h
  go_enter Try.func29, Try.ntmps29
  go_wp2_with fail
  refine HT.out.mono ?_
  rintro e w1 ⟨rfl, b1⟩
  clear HT
  by_cases ht : ty = 1
  · subst ht
    rw [if_pos rfl] at HE
    go_wp2_with fail
    refine (HO.out w1 b1).mono ?_
    rintro e w2 ⟨v2, rfl, o2, hb2⟩
    have b2 := below_then b1 hb2 b1.size
    have HW := Lib.hid (sWidthFor v2 o.length o w2 rfl (.inr o2.at))
    have hw31 := Bit.widthFor_le31 o
    have hpn := Bit.pack_le o (Bit.widthFor o)
    generalize Bit.widthFor o = wd at HE HW hw31 hpn
    have z2 := hb2.size
    clear HO hb2
    go_wp2_with fail
    refine HW.out.mono ?_
    rintro e w' ⟨rfl, rfl⟩
    clear HW
    have O3 := own_lit (e := 5) (size := 1) w2 #[] 0 (Nat.zero_le _) rfl
    have hb3 := below_alloc w2 (.cells #[] 5)
    have b3 := below_then b2 hb3 b2.size
    have HN := Lib.hid (sPutNum _ 0 [] bs _ (by omega) rfl O3.at)
    have hpl := (Num.put_len [] bs).2
    simp only [List.length_nil] at hpl
    generalize Num.put [] bs = pb at HN HE hpl
    generalize hpbn : pb.length = pbn at HN hpl
    have o3 := o2.below hb3 (Nat.le_refl _)
    clear O3
    go_wp2_with (first | (go_at_call 48; refine (HB.out _ b3).mono ?_; rintro e w' ⟨rfl, rfl⟩) | fail)
    refine HN.out.mono ?_
    rintro e w4 ⟨v4, rfl, o4, hb4⟩
    have b4 := below_then b3 hb4 b3.size
    have own4 := o4.lower (lo' := w2.heap.size) (by simp)
    have op4 := o3.below hb4 (by simp)
    have hz2 : Hid (w.heap.size ≤ w2.heap.size) := b2.size
    have hwdi : (wd : Int) ≤ 31 := by omega
    have HES : Hid (ints .u8 pb ++ .int .u8 (wd : Int) :: ints .u8 (Bit.pack o wd) = ints .u8 R ∧ pbn + 1 + (Bit.pack o wd).length = R.length) := by
      rw [HE.out, ← hpbn]
      refine ⟨?_, by simp only [List.length_append, List.length_cons, List.length_nil]⟩
      rw [ints_append, ints_append, List.append_assoc]
      rfl
    have HPK := Lib.hid (fun W hW => sPackBits v2 o.length o (wd : Int) W (by omega) rfl (.inr hW))
    generalize Bit.pack o (wd : Int) = pk at HPK HES hpn
    generalize pk.length = pn at HPK HES hpn
    generalize o.length = on at *
    obtain ⟨g2, c2, rfl⟩ : ∃ g c, v2 = .slice (some ⟨g, 0, none⟩) on c := by
      obtain ⟨g, c, e, _⟩ := o2
      exact ⟨g, c, e⟩
    clear o2 o3 o4 hb3 hb4 HN HB hpbn HE b1 b2 b3 z2
    go_wp2_with (first | (at_builtin; refine append1_law Try.elemBytes rfl _ _ rfl _ _ _ _ _ (.int .u8 (wd : Int)) rfl rfl own4 rfl (by unfold maxLen; omega) (by omega) ?_) | fail)
    intro v5 w5 o5 e5
    have hb5 := e5.below own4
    have b5 := b4.trans (hb5.mono hz2.out)
    have HPK5 := Lib.hid (HPK.out w5 (op4.below hb5 (Nat.le_refl _)).at)
    clear hb5 e5 own4 op4 b4 HPK
    go_wp2_with fail
    refine HPK5.out.mono ?_
    rintro e w6 ⟨v6, rfl, o6, hb6⟩
    have b6 := below_then b5 hb6 b5.size
    have own6 := (o5.below hb6 (Nat.le_refl _)).wide hb6.size
    obtain ⟨g6, off6, cp6, rfl, hn6, hc6, hl6, hcs6⟩ := o6.at
    have HL6 := Lib.hid hl6
    have HC6 := Lib.hid hcs6
    clear hl6 hcs6 o6 hb6 o5 HPK5 b5
    go_wp2_with (at_builtin; refine append_law Try.elemBytes rfl _ _ rfl _ _ _ _ _ rfl own6 g6 off6 pn cp6 (ints .u8 pk) rfl HL6.out HC6.out (ints_one _ _) (by unfold maxLen; omega) (by omega) ?_)
    intro v7 w7 o7 e7
    have b7 := b6.trans ((e7.below own6).mono hz2.out)
    rw [HES.out.1, HES.out.2] at o7
    have O7 := Lib.hid (o7.lower hz2.out)
    clear o7 e7 own6
    go_wp2
    go_ret
    exact ⟨_, rfl, O7.out, b7⟩
  · have htb : (ty != 1) = true := by simpa using ht
    rw [if_neg ht] at HE
    have O1 := own_lit (e := 5) (size := 1) w1 #[] 0 (Nat.zero_le _) rfl
    have B1 := b1.alloc b1.size (.cells #[] 5)
    have z1 := b1.size
    go_wp2
    go_ret
    rw [HE.out]
    exact ⟨_, rfl, O1.lower z1, B1⟩

end Go.Proofs.Ythniakklkepomaa
