/- The contract of the model's EncDict. -/
import Derived.Test.YthniakklkepomaaS7d
import Derived.Test.YthniakklkepomaaSPack
import Derived.Test.YthniakklkepomaaSBits
namespace Go.Proofs.Ythniakklkepomaa
open Go.RowKit

/-- EncDict. -/
def putAll (b : List Int) (d : List V) : List Int := d.foldl putV b
theorem putAll_snoc (b : List Int) (d : List V) (v : V) : putAll b (d ++ [v]) = putV (putAll b d) v := by simp [putAll]
theorem putAll_len (b : List Int) (d : List V) : (putAll b d).length ≤ b.length + 7 * d.length := by
  unfold putAll
  induction d generalizing b with
  | nil => simp
  | cons v d ih =>
    have h1 := ih (putV b v)
    have h2 := (putV_len b v).2
    simp only [List.foldl_cons, List.length_cons]
    omega
theorem putAll_bytes {b : List Int} (h : Num.Bytes b) (d : List V) : Num.Bytes (putAll b d) := by
  unfold putAll
  induction d generalizing b with
  | nil => exact h
  | cons v d ih => exact ih (putV_bytes h v)
def encD (l : List V) : List Int :=
  if typeV l = 0 then [] else putAll (Num.put [] (dictL l).length) (dictL l) ++ Bit.pack (placesL (dictL l) l).1 (Bit.widthI ((dictL l).length - 1))
theorem encD_bytes (l : List V) : Num.Bytes (encD l) := by
  unfold encD
  split
  · exact nil_bytes
  · exact bytes_append (putAll_bytes (Num.put_bytes nil_bytes _) _) (Bit.pack_bytes _ _)
theorem encD_len (l : List V) : (encD l).length ≤ 1024 := by
  unfold encD
  split
  · simp
  · rename_i h
    have h1 := typeV_len h
    have h2 := dict_len l
    have h3 := putAll_len (Num.put [] (dictL l).length) (dictL l)
    have h4 := Num.put_len [] ((dictL l).length : Int)
    have h5 := Bit.pack_le (placesL (dictL l) l).1 (Bit.widthI ((dictL l).length - 1))
    have h6 := places_len (dictL l) l
    simp only [List.length_append, List.length_nil] at *
    omega
theorem dict_all {l : List V} {p : V → Prop} (h : ∀ v ∈ l, p v) : ∀ v ∈ dictL l, p v := fun v hv => h v (mem_dict.1 hv)

set_option maxHeartbeats 2000000 in
theorem sEncDict (u : Value) (l : List V) (w : World) (hn : l.length ≤ 1048576) (hss : ∀ v ∈ l, v.s.size ≤ maxLen) (h : Rd 3 w u l.length (vals l)) :
    Calls Try.prog 28 #[u] w fun e w' => ∃ v', e = .returned v' ∧ Own 5 1 w.heap.size w'.heap.size w' v' (encD l).length (ints .u8 (encD l)) ∧ Below w.heap.size w w' := by
  have HE : Hid (encD l = if typeV l = 0 then [] else putAll (Num.put [] (dictL l).length) (dictL l) ++ Bit.pack (placesL (dictL l) l).1 (Bit.widthI ((dictL l).length - 1))) := rfl
  have HTL : Hid (¬ typeV l = 0 → l.length ≤ 64) := typeV_len
  have HT := Lib.hid (sTypeOf u l w hss h)
  have HD := Lib.hid (fun W (hW : Below w.heap.size w W) => sDict u l W hn (h.below hW))
  have HP := Lib.hid (fun x d W (hW : Below w.heap.size w W) (hx : Rd 3 W x d.length (vals d)) => sPlaces x u d l W hn hx (h.below hW))
  have HDL := Lib.hid (dict_len l)
  have HSD : Hid (∀ v ∈ dictL l, v.s.size ≤ maxLen) := dict_all hss
  generalize typeV l = ty at HE HTL HT
  generalize dictL l = d at HE HD HDL HSD
  clear hss h hn
  go_enter Try.func28, Try.ntmps28
  go_wp2_with fail
  refine HT.out.mono ?_
  rintro e w1 ⟨rfl, b1⟩
  clear HT
  by_cases ht : ty = 0
  · subst ht
    rw [if_pos rfl] at HE
    have O1 := own_lit (e := 5) (size := 1) w1 #[] 0 (Nat.zero_le _) rfl
    have B1 := b1.alloc b1.size (.cells #[] 5)
    have z1 := b1.size
    go_wp2
    go_ret
    rw [HE.out]
    exact ⟨_, rfl, O1.lower z1, B1⟩
  · have htb : (ty == 0) = false := by simpa using ht
    have h64 := HTL.out ht
    have hd64 : d.length ≤ 64 := Nat.le_trans HDL.out h64
    rw [if_neg ht] at HE
    clear ht HTL
    go_wp2_with fail
    refine (HD.out w1 b1).mono ?_
    rintro e w2 ⟨v2, rfl, o2, hb2⟩
    have b2 := below_then b1 hb2 b1.size
    replace o2 := o2.lower b1.size
    have HP2 := Lib.hid (HP.out v2 d w2 b2 o2.rd)
    clear hb2 HD htb b1
    go_wp2_with fail
    refine HP2.out.mono ?_
    rintro e w3 ⟨v3, rfl, o3, hb3⟩
    have b3 := below_then b2 hb3 b2.size
    have z3 := hb3.size
    replace o2 := o2.below hb3 (Nat.le_refl _)
    replace o3 := o3.lower b2.size
    clear hb3 HP2 HP
    generalize hp : (placesL d l).1 = p at o3 HE
    have HPL : Hid (p.length ≤ 64) := by
      show _ ≤ _
      rw [← hp]
      exact Nat.le_trans (places_len d l) h64
    clear hp h64
    have HDS : Hid (∀ k, k < d.length → putAll (Num.put [] d.length) (d.take (k + 1)) = putV (putAll (Num.put [] d.length) (d.take k)) (d.getD k V.zero)) := fun k hk => by
      rw [getDe d V.zero hk, List.take_succ_eq_append_getElem hk, putAll_snoc]
    have HDN : Hid (∀ k, k ≤ d.length → (putAll (Num.put [] d.length) (d.take k)).length ≤ 5 + 7 * k) := fun k hk => by
      have h1 := putAll_len (Num.put [] d.length) (d.take k)
      have h2 := Num.put_len [] (d.length : Int)
      have e : (d.take k).length = k := by simp; omega
      simp only [List.length_nil] at h2
      omega
    have HSS : Hid (∀ k, k < d.length → (d.getD k V.zero).s.size ≤ maxLen) := fun k hk => by
      rw [getDe d V.zero hk]
      exact HSD.out _ (List.getElem_mem hk)
    generalize hm : d.length = m at o2 HDS HDN HSS HE hd64
    have HM := Lib.hid hm
    obtain ⟨g2, cp2, rfl, hg1, hg2, hrow⟩ := o2
    have o2 : Own 41 3 w.heap.size w2.heap.size w3 (.slice (some ⟨g2, 0, none⟩) m cp2) m (vals d) := ⟨g2, cp2, rfl, hg1, hg2, hrow⟩
    clear hg1 hg2 hrow HDL HSD
    have O4 := own_lit (e := 5) (size := 1) w3 #[] 0 (Nat.zero_le _) rfl
    have hb4 := below_alloc w3 (.cells #[] 5)
    have HN := Lib.hid (sPutNum _ 0 [] (m : Int) _ (by omega) rfl O4.at)
    clear O4
    go_wp2_with fail
    refine HN.out.mono ?_
    rintro e w4 ⟨v4, rfl, o4, hb5⟩
    have hb6 := below_then hb4 hb5 hb4.size
    have b4 := below_then b3 hb6 b3.size
    have z4 := hb6.size
    replace o2 := o2.below hb6 z3
    replace o3 := o3.below hb6 (Nat.le_refl _)
    replace o4 := o4.lower (lo' := w.heap.size) (Nat.le_trans b3.size hb4.size)
    clear hb4 hb5 hb6 HN b3 b2
    obtain ⟨a', cap', e', _, HC⟩ := Rd.vals o2.rd hm
    simp only [Value.slice.injEq, true_and] at e'
    obtain ⟨rfl, rfl⟩ := e'
    clear hm
    have hput0 : Hid (putAll (Num.put [] m) (d.take 0) = Num.put [] m) := by
      show _ = _
      simp [putAll]
    rw [← hput0.out] at o4
    generalize hq0 : putAll (Num.put [] (m : Int)) = q at o4 HDS HDN HE
    clear hput0 hq0
    go_wp2
    go_loopw [6, 7] (fun o i wr => ∃ k : Nat, k ≤ m ∧ i = .int .i64 k ∧ Own 5 1 w.heap.size wr.heap.size wr o (q (d.take k)).length (ints .u8 (q (d.take k))) ∧ Below w4.heap.size w4 wr) (fun _ i _ => m - (intOf i).toNat)
    case atStart => exact ⟨0, Nat.zero_le _, rfl, o4, Below.refl _ _⟩
    case round =>
      obtain ⟨k, hk, rfl, hown, hbr⟩ := hrel
      by_cases hlt : k < m
      · obtain ⟨b, off, e', p0, p1, p2⟩ := HC.out k hlt
        simp only [Option.some.injEq, Addr.mk.injEq, and_true] at e'
        obtain ⟨rfl, rfl⟩ := e'
        have HSK := Lib.hid (HDS.out k hlt)
        have hel := HDN.out k hk
        have HP := Lib.hid (sPutVal _ (q (d.take k)).length (q (d.take k)) (d.getD k V.zero) wr (by omega) (HSS.out k hlt) rfl hown.at)
        rw [← HSK.out] at HP
        replace p0 := (hbr.cell (p := ⟨g2, 0 + k * 3, none⟩) (lt_of_cell p0)).trans p0
        replace p1 := (hbr.cell (p := ⟨g2, 0 + k * 3 + 1, none⟩) (lt_of_cell p1)).trans p1
        replace p2 := (hbr.cell (p := ⟨g2, 0 + k * 3 + 2, none⟩) (lt_of_cell p2)).trans p2
        generalize d.getD k V.zero = x at p0 p1 p2 HP
        obtain ⟨t1, n1, s1⟩ := x
        simp only [Nat.zero_add] at p0 p1 p2
        have z5 := hbr.size
        go_wp2_with fail
        refine HP.out.mono ?_
        rintro e w5 ⟨v5, rfl, o5, hb5⟩
        have B5 := below_then hbr hb5 hbr.size
        have O5 := Lib.hid (o5.lower (lo' := w.heap.size) (Nat.le_trans b4.size z5))
        clear o5 hb5 hbr hown HP p0 p1 p2
        go_wp2
        go_roundw
        case rel => exact ⟨k + 1, by omega, by go_num, O5.out, B5⟩
        case measure => simp [intOf]; omega
      · obtain rfl : k = m := by omega
        have hel := HDN.out k hk
        have hqd : Hid (d.take k = d) := by show _ = _; rw [← HM.out, List.take_length]
        rw [hqd.out] at hown hel
        replace o3 := o3.below hbr z4
        have b5 := below_then b4 hbr b4.size
        have z5 := hbr.size
        have HWD := Lib.hid (fun W => sWidthOf ((k : Int) - 1) W)
        generalize Bit.widthI ((k : Int) - 1) = wd at HWD HE
        have HPK := Lib.hid (sPackBits v3 p.length p (wd : Int) wr (by have := HPL.out; omega) rfl (.inr o3.at))
        have hpk : (Bit.pack p wd).length ≤ 256 := by
          have h1 := Bit.pack_le p wd
          have h2 := HPL.out
          omega
        generalize Bit.pack p (wd : Int) = pk at HPK HE hpk
        have HES : Hid (ints .u8 (q d) ++ ints .u8 pk = ints .u8 (encD l) ∧ (q d).length + pk.length = (encD l).length) := by
          rw [HE.out]
          exact ⟨(ints_append _ _ _).symm, (List.length_append).symm⟩
        clear hqd
        generalize hqn : (q d).length = qn at hown hel HES
        clear hqn
        generalize hpn : pk.length = pn at HPK HES hpk
        clear o3 hbr
        go_wp2_with (first | (go_at_call 45; refine (HWD.out _).mono ?_; rintro e w' ⟨rfl, rfl⟩) | fail)
        refine HPK.out.mono ?_
        rintro e w6 ⟨v6, rfl, o6, hb6⟩
        have b6 := below_then b5 hb6 b5.size
        replace hown := (hown.below hb6 (Nat.le_refl _)).wide hb6.size
        obtain ⟨g6, off6, cp6, rfl, hn6, hc6, hl6, hcs6⟩ := o6.at
        have HL6 := Lib.hid hl6
        have HC6 := Lib.hid hcs6
        clear hl6 hcs6 o6 hb6
        go_wp2_with (at_builtin; refine append_law Try.elemBytes rfl _ _ rfl _ _ _ _ _ rfl hown g6 off6 pn cp6 (ints .u8 pk) rfl HL6.out HC6.out (ints_one _ _) (by unfold maxLen; omega) (by omega) ?_)
        intro v7 w7 o7 e7
        have b7 := b6.trans (e7.below hown)
        rw [HES.out.1, HES.out.2] at o7
        have O7 := Lib.hid o7
        clear o7 e7 hown
        go_wp2
        go_ret
        exact ⟨_, rfl, O7.out, b7⟩

end Go.Proofs.Ythniakklkepomaa
