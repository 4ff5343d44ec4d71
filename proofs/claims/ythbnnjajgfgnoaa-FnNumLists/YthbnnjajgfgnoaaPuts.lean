/- The contracts of the program's numsOk and PutNums, and of the model's PutNums. -/
import Derived.Test.YthbnnjajgfgnoaaPut
import Derived.Test.YthbnnjajgfgnoaaInts
namespace Go.Proofs.Ythbnnjajgfgnoaa
open Go.RowKit

theorem okAll_no {l : List Int} {k : Nat} (h : k < l.length) (hk : Num.okB (l.getD k 0) = false) : Num.okAll l = false := by
  unfold Num.okAll
  rw [List.all_eq_false]
  exact ⟨l.getD k 0, by simp [h], by rw [hk]; simp⟩

set_option maxHeartbeats 400000 in
theorem numsOk (v : Value) (m : Nat) (l : List Int) (w : World) (hm : l.length = m) (hl : At 1 w v m (ints .i64 l)) :
    Calls Try.prog 58 #[v] w fun e w' => e = .returned (.bool (Num.okAll l)) ∧ w = w' := by
  obtain ⟨b, off, cap, rfl, h1, h2, h3, hc⟩ := hl
  have HM := Lib.hid hm
  clear hm h3
  unfold maxLen at h2
  go_enter Try.func58, Try.ntmps58
  go_wp2
  go_loop [7] (fun i => ∃ k : Nat, k ≤ m ∧ i = .int .i64 k ∧ Num.okAll (l.take k) = true) (fun i => m - (intOf i).toNat)
  case atStart => exact ⟨0, Nat.zero_le _, rfl, rfl⟩
  case round =>
    obtain ⟨k, hk, rfl, hok⟩ := hrel
    have HOK := Lib.hid hok
    clear hok
    by_cases hlt : k < m
    · have hcx : w.cell? ⟨b, off + k, none⟩ = some (.int .i64 (l.getD k 0)) := At.cell hc HM.out hlt
      have hts : Hid (l.take (k + 1) = l.take k ++ [l.getD k 0]) := take_snoc l k (by rw [HM.out]; exact hlt)
      have hno : Hid (Num.okB (l.getD k 0) = false → Num.okAll l = false) := okAll_no (by rw [HM.out]; exact hlt)
      generalize l.getD k 0 = x at hcx hts hno
      clear hc
      cases hx : Num.okB x with
      | true =>
        go_wp2_with (go_at_call 46; refine (numOk _ _).mono ?_; rintro e w' ⟨rfl, rfl⟩)
        go_round
        case rel => exact ⟨k + 1, by omega, by go_num, by rw [hts.out, Num.okAll_snoc, HOK.out, hx]; rfl⟩
        case measure => simp [intOf]; omega
      | false =>
        have HN := Lib.hid (hno.out hx)
        go_wp2_with (go_at_call 46; refine (numOk _ _).mono ?_; rintro e w' ⟨rfl, rfl⟩)
        go_ret
        exact ⟨ret_bool HN.out.symm, rfl⟩
    · obtain rfl : k = m := by omega
      have e : l.take k = l := by rw [← HM.out]; exact List.take_length
      have HE := Lib.hid e
      clear e
      go_wp2
      go_ret
      exact ⟨ret_bool (by rw [← HOK.out, HE.out]), rfl⟩

set_option maxHeartbeats 400000 in
theorem iPutNums (v vl : Value) (n m : Nat) (zs l : List Int) (w : World) (hn : n ≤ 1073741824) (hml : m ≤ 134217728) (hz : zs.length = n) (hm : l.length = m) (h : AtN 1 w v n (ints .u8 zs)) (hl : At 1 w vl m (ints .i64 l)) :
    Calls Try.prog 28 #[v, vl] w fun e w' => ∃ v', e = .returned v' ∧ Own 5 1 w.heap.size w'.heap.size w' v' (Num.putL zs l).length (ints .u8 (Num.putL zs l)) ∧ Below w.heap.size w w' := by
  have HZ := Lib.hid hz
  have HM := Lib.hid hm
  clear hz hm
  have hla := hl
  obtain ⟨b, off, cap, rfl, h1, h2, h3, hc⟩ := hl
  clear h3 hc
  unfold maxLen at h2
  cases hx : Num.okAll l with
  | true =>
    have HP : Hid (Num.putL zs l = Num.puts (zs ++ Num.grp 4 (Num.zig m)) l) := (Num.putL_ok hx).trans (by rw [HM.out, Num.puts_cons])
    have hg := Num.grp_len 4 (Num.zig m)
    go_enter Try.func28, Try.ntmps28
    go_wp2_with (first | (go_at_call 58; refine (numsOk _ m l _ HM.out hla).mono ?_; rw [hx]; rintro e w' ⟨rfl, rfl⟩) | (go_at_call 47; refine (ownBytes _ n zs _ hn HZ.out h).mono ?_; rintro e w1 ⟨v1, rfl, hown1, hb1⟩))
    have hl1 : At 1 (w1.alloc (.cells #[.int .i64 m] 3)) (.slice (some ⟨w1.heap.size, 0, none⟩) 1 1) 1 (ints .i64 [(m : Int)]) := (own_lit w1 #[.int .i64 m] 1 (by unfold maxLen; omega) rfl).at
    refine (appendNums _ _ w.heap.size _ n 1 zs [(m : Int)] _ HZ.out rfl (by omega) (by omega) (hown1.alloc _) hl1 (fun _ => own_ne hown1 (Nat.le_refl _))).mono ?_
    rintro e w2 ⟨v2, rfl, hown2, hext2⟩
    have hb2 := (hb1.alloc hown1.lo _).trans (hext2.below (hown1.alloc _))
    clear hext2 hb1 hl1 hown1 h
    rw [Num.puts_one] at hown2
    have hlen : (zs ++ Num.grp 4 (Num.zig m)).length ≤ 1073741829 := by rw [List.length_append, HZ.out]; omega
    go_wp2_with fail
    refine (appendNums _ _ w.heap.size _ _ m _ l _ rfl HM.out hlen hml hown2 (hla.below hb2) (ne_of_own hla (Nat.le_refl _) hown2)).mono ?_
    rintro e w3 ⟨v3, rfl, hown3, hext3⟩
    have hb3 := hb2.trans (hext3.below hown2)
    clear hext3 hb2 hown2
    go_wp2
    go_ret
    refine ⟨_, rfl, ?_, hb3⟩
    rw [HP.out]
    exact hown3
  | false =>
    have HP : Hid (Num.putL zs l = zs) := Num.putL_no hx
    go_enter Try.func28, Try.ntmps28
    go_wp2_with (first | (go_at_call 58; refine (numsOk _ m l _ HM.out hla).mono ?_; rw [hx]; rintro e w' ⟨rfl, rfl⟩) | (go_at_call 47; refine (ownBytes _ n zs _ hn HZ.out h).mono ?_; rintro e w1 ⟨v1, rfl, hown1, hb1⟩))
    go_ret
    refine ⟨_, rfl, ?_, hb1⟩
    rw [HP.out, HZ.out]
    exact hown1

theorem okAll_take {l : List Int} (h : Num.okAll l = true) (k : Nat) : Num.okAll (l.take k) = true := by
  unfold Num.okAll at h ⊢
  rw [List.all_eq_true] at h ⊢
  exact fun x hx => h x (List.mem_of_mem_take hx)

set_option maxHeartbeats 400000 in
theorem sPutNums (v vl : Value) (n m : Nat) (zs l : List Int) (w : World) (hn : n ≤ 33554432) (hml : m ≤ 33554432) (hz : zs.length = n) (hm : l.length = m) (h : At 1 w v n (ints .u8 zs)) (hl : At 1 w vl m (ints .i64 l)) :
    Calls Try.prog 32 #[v, vl] w fun e w' => ∃ v', e = .returned v' ∧ Own 5 1 w.heap.size w'.heap.size w' v' (Num.putL zs l).length (ints .u8 (Num.putL zs l)) ∧ Below w.heap.size w w' := by
  have HZ := Lib.hid hz
  have HM := Lib.hid hm
  clear hz hm
  have hva := h
  obtain ⟨b0, off0, cap0, rfl, g1, g2, g3, gc⟩ := h
  obtain ⟨b, off, cap, rfl, h1, h2, h3, hc⟩ := hl
  clear h3
  unfold maxLen at h2
  have hmok : Num.ok m := ⟨by omega, by omega⟩
  go_enter Try.func32, Try.ntmps32
  go_wp2_with (go_at_call 16; refine (sPutNum _ n zs _ _ (by omega) HZ.out hva).mono ?_; rintro e w1 ⟨v1, rfl, hown1, hb1⟩)
  rw [Num.put_ok hmok, ← Num.puts_one] at hown1
  clear hmok
  go_loopw [5, 6] (fun v2 i wr => ∃ k : Nat, k ≤ m ∧ i = .int .i64 k ∧ Num.okAll (l.take k) = true ∧ Own 5 1 w.heap.size wr.heap.size wr v2 (Num.puts zs ((m : Int) :: l.take k)).length (ints .u8 (Num.puts zs ((m : Int) :: l.take k))) ∧ Below w.heap.size w wr) (fun _ i _ => m - (intOf i).toNat)
  case atStart => exact ⟨0, Nat.zero_le _, rfl, rfl, by simpa using hown1, hb1⟩
  case round =>
    obtain ⟨k, hk, rfl, hok, hown, hbr⟩ := hrel
    have HOK := Lib.hid hok
    clear hok hown1 hb1
    have hpl := (Num.puts_len zs ((m : Int) :: l.take k)).2
    rw [HZ.out, List.length_cons, List.length_take] at hpl
    have hpl2 : (Num.puts zs ((m : Int) :: l.take k)).length ≤ 1073741824 := by omega
    clear hpl
    by_cases hlt : k < m
    · have hc0 : w.cell? ⟨b, off + k, none⟩ = some (.int .i64 (l.getD k 0)) := At.cell hc HM.out hlt
      have hcx : wr.cell? ⟨b, off + k, none⟩ = some (.int .i64 (l.getD k 0)) := (hbr.cell (p := ⟨b, off + k, none⟩) (lt_of_cell hc0)).trans hc0
      have hts : Hid (l.take (k + 1) = l.take k ++ [l.getD k 0]) := take_snoc l k (by rw [HM.out]; exact hlt)
      have hno : Hid (Num.okB (l.getD k 0) = false → Num.okAll l = false) := okAll_no (by rw [HM.out]; exact hlt)
      generalize l.getD k 0 = x at hcx hts hno hc0
      clear hc hc0
      cases hx : Num.okB x with
      | true =>
        have hput : Hid (Num.put (Num.puts zs ((m : Int) :: l.take k)) x = Num.puts zs ((m : Int) :: l.take (k + 1))) := (Num.put_ok (Num.okB_true.1 hx)).trans (by rw [hts.out, ← List.cons_append, Num.puts_snoc])
        have hat := hown.at
        generalize Num.puts zs ((m : Int) :: l.take k) = pz at hat hput hpl2 hown
        clear hown
        go_wp2_with (first | (go_at_call 49; refine (l1Right _ _).mono ?_; rintro e w' ⟨rfl, rfl⟩) | (go_at_call 16; refine (sPutNum _ _ pz x _ hpl2 rfl hat).mono ?_; rintro e w2 ⟨v2, rfl, hown2, hb2⟩))
        rw [hput.out] at hown2
        have hb3 := below_then hbr hb2 hbr.size
        go_roundw
        case rel => exact ⟨k + 1, by omega, by go_num, by rw [hts.out, Num.okAll_snoc, HOK.out, hx]; rfl, hown2.lower hbr.size, hb3⟩
        case measure => simp [intOf]; omega
      | false =>
        have HP : Hid (Num.putL zs l = zs) := Num.putL_no (hno.out hx)
        have hown0 := own_lit (e := 5) (size := 1) wr #[] 0 (Nat.zero_le _) rfl
        have hb0 := hbr.alloc hbr.size (.cells #[] 5)
        have HC : Hid (∀ j u, (ints .u8 zs)[j]? = some u → (wr.alloc (.cells #[] 5)).cell? ⟨b0, off0 + j, none⟩ = some u) := fun j u hu => (hb0.cell (p := ⟨b0, off0 + j, none⟩) (lt_of_cell (gc j u hu))).trans (gc j u hu)
        have HLZ : Hid ((ints .u8 zs).length = n * 1) := g3
        clear gc g3 hown hva
        go_wp2_with (first | (go_at_call 49; refine (l1Right _ _).mono ?_; rintro e w' ⟨rfl, rfl⟩) | (at_builtin; refine append_law Try.elemBytes rfl _ _ rfl _ _ _ _ _ rfl hown0 b0 off0 n cap0 (ints .u8 zs) rfl HLZ.out HC.out (ints_one _ _) (by unfold maxLen; omega) (by omega) ?_))
        intro v3 w3 hown3 hext3
        have R0 : Own 5 1 w.heap.size w3.heap.size w3 v3 n (ints .u8 zs) := by
          have := hown3.lower hbr.size
          simpa using this
        have hb3 := hb0.trans ((hext3.below hown0).mono hbr.size)
        clear hown3 hext3 hown0 hb0
        go_wp2
        go_ret
        refine ⟨_, rfl, ?_, hb3⟩
        rw [HP.out, HZ.out]
        exact R0
    · obtain rfl : k = m := by omega
      have e : l.take k = l := by rw [← HM.out]; exact List.take_length
      rw [e] at hown HOK
      have HP : Hid (Num.putL zs l = Num.puts zs ((k : Int) :: l)) := (Num.putL_ok HOK.out).trans (by rw [HM.out])
      clear e
      go_wp2
      go_ret
      refine ⟨_, rfl, ?_, hbr⟩
      rw [HP.out]
      exact hown

end Go.Proofs.Ythbnnjajgfgnoaa
