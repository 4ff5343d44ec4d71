/- The contracts of l5Any, l5Type, DrawRuns, DrawDecRuns, DrawSpread. -/
import Derived.Test.YtcnackecchjckaaDrawV2
import Derived.Test.YtcnackecchjckaaBent
import Derived.Test.YtcnackecchjckaaM6
namespace Go.Proofs.Ytcnackecchjckaa
open Go.RowKit

/-- What l5Any draws. -/
def AnyList (l : List V) : Prop := l.length ≤ 16 ∧ ∀ v ∈ l, Fair v
theorem Drawn.any {l : List V} (h : Drawn l) : AnyList l := by
  obtain ⟨h1, h2, ty, _, h3⟩ := h
  exact ⟨by omega, fun v hv => (h3 v hv).fair⟩
theorem AnyList.sizes {l : List V} (h : AnyList l) : ∀ v ∈ l, v.s.size ≤ maxLen := fun v hv => by
  have := (h.2 v hv).s
  unfold maxLen
  omega

set_option maxHeartbeats 1000000 in
theorem l5Any (c : Code) (g : Nat) (w : World) (h : Cur c g w) :
    Calls Try.prog 45 #[.pointer (some ⟨g, 0, none⟩)] w (DrewVals c g w AnyList) := by
  have hgl := h.lt
  go_enter Try.func45, Try.ntmps45
  go_wp2_with fail
  refine (l5Draw c g _ h).mono ?_
  rintro e w1 ⟨v1, l, rfl, hl, o1, hc1, hg1⟩
  have G1 := (Going.start h).next hc1 hg1
  have HA := Lib.hid hl.any
  have HL15 : Hid (l.length ≤ 15) := hl.2.1
  clear hl hc1 hg1
  generalize hlc : l.length = lc at o1
  have HLC := Lib.hid hlc
  have hl16 : lc ≤ 15 := by rw [← hlc]; exact HL15.out
  clear hlc
  obtain ⟨b2, cp2, rfl⟩ : ∃ b cp, v1 = .slice (some ⟨b, 0, none⟩) lc cp := by
    obtain ⟨b, cp, e, _⟩ := o1
    exact ⟨b, cp, e⟩
  go_wp2_with fail
  refine (l1Below c g _ _ G1.cur).mono ?_
  rintro e w2 ⟨y, rfl, hy, hc2, hg2⟩
  have G2 := G1.next hc2 hg2
  have O2 := (o1.draw hg2 hgl).wide hg2.size
  clear o1 G1 hc2 hg2
  by_cases e0 : y = 0
  · subst e0
    go_wp2_with fail
    refine (l3Any c g _ G2.cur).mono ?_
    rintro e w3 ⟨x, rfl, HX, hc3, hg3⟩
    have G3 := G2.next hc3 hg3
    have O3 := (O2.draw hg3 hgl).wide hg3.size
    obtain ⟨xt, xn, xs⟩ := x
    have HX3 := Lib.hid HX
    have HVA : Hid (vals l ++ V.cs ⟨xt, xn, xs⟩ = vals (l ++ [(⟨xt, xn, xs⟩ : V)])) := by
      show _ = _
      simp [vals]
    clear HX hc3 hg3 O2 G2
    go_wp2_with (at_builtin; refine appendV_law Try.elemVals rfl _ _ rfl _ _ _ _ _ ⟨xt, xn, xs⟩ rfl O3 rfl (by unfold maxLen; omega) (by omega) ?_)
    intro v4 w4 o4 e4
    have G4 := G3.ext O3 (Nat.le_refl _) e4
    rw [HVA.out] at o4
    have O4 := Lib.hid o4
    clear o4 e4 O3 G3
    go_wp2
    go_ret
    refine ⟨_, l ++ [⟨xt, xn, xs⟩], rfl, ⟨?_, ?_⟩, by rw [List.length_append, List.length_singleton, HLC.out]; exact O4.out, G4.cur, G4.grown⟩
    · rw [List.length_append, List.length_singleton, HLC.out]
      omega
    · intro v hv
      rcases List.mem_append.1 hv with h1 | h1
      · exact HA.out.2 v h1
      · obtain rfl := List.mem_singleton.1 h1
        exact HX3.out
  · have b0 : (y == 0) = false := by simp [e0]
    by_cases e1 : y = 1
    · subst e1
      have O3 := (own_lit (e := 34) (size := 3) w2 #[] 0 (Nat.zero_le _) rfl).lower G2.grown.size
      have G3 := G2.alloc (.cells #[] 34)
      clear O2 G2
      go_wp2
      go_ret
      exact ⟨_, [], rfl, ⟨by simp, fun v hv => by cases hv⟩, O3, G3.cur, G3.grown⟩
    · have b1 : (y == 1) = false := by simp [e1]
      clear e0 e1 hy
      go_wp2
      go_ret
      exact ⟨_, l, rfl, HA.out, by rw [HLC.out]; exact O2, G2.cur, G2.grown⟩

set_option maxHeartbeats 1000000 in
theorem l5Type (c : Code) (g : Nat) (u : Value) (n : Nat) (l : List V) (w : World) (hl : l.length = n) (hn : 1 ≤ n) (hn2 : n ≤ 1000) (hf : ∀ v ∈ l, Fair v) (hu : Rd 3 w u n (vals l)) (h : Cur c g w) :
    Calls Try.prog 59 #[.pointer (some ⟨g, 0, none⟩), u] w fun e w' => ∃ ty k : Int, e = .returned (.tuple #[.int .i64 ty, .int .i64 k]) ∧ I64 ty ∧ I64 k ∧ Cur c g w' ∧ w.grownBy w' (some g) := by
  have hgl := h.lt
  obtain ⟨a, cap, rfl, _, HC⟩ := hu.vals hl
  obtain ⟨b, off, rfl, c0, c1, c2⟩ := HC.out 0 (by omega)
  have HT : Hid (I64 (l.getD 0 V.zero).ty) := by
    have hk : 0 < l.length := by omega
    have e : l.getD 0 V.zero = l[0] := by simp [hk]
    rw [e]
    exact (hf _ (List.getElem_mem hk)).ty
  generalize l.getD 0 V.zero = x at c0 c1 c2 HT
  obtain ⟨xt, xn, xs⟩ := x
  simp only [Nat.zero_mul, Nat.add_zero] at c0 c1 c2 HT
  have G0 := Going.start h
  clear hf HC hu
  go_enter Try.func59, Try.ntmps59
  go_wp2_with fail
  refine (l1Below c g _ _ G0.cur).mono ?_
  rintro e w2 ⟨y, rfl, hy, hc2, hg2⟩
  have G2 := G0.next hc2 hg2
  clear G0 hc2 hg2 c0 c1 c2
  by_cases e0 : y = 0
  · subst e0
    go_wp2_with fail
    refine (l1Below c g _ _ G2.cur).mono ?_
    rintro e w3 ⟨z, rfl, hz, hc3, hg3⟩
    have G3 := G2.next hc3 hg3
    have HZ : Hid (I64 z) := ⟨by omega, by omega⟩
    clear hz
    go_wp2
    go_ret2
    exact ⟨_, _, rfl, HZ.out, ⟨by omega, by omega⟩, G3.cur, G3.grown⟩
  · have b0 : (y == 0) = false := by simp [e0]
    by_cases e1 : y = 1
    · subst e1
      go_wp2_with fail
      refine (l1IntLit c g [0, (n : Int) + 1, (n : Int) - 1, 65, -1] 5 w2 rfl (by omega) (by omega) G2.cur _ rfl).mono ?_
      rintro e w3 ⟨z, rfl, hz, hc3, hg3⟩
      have G3 := G2.next hc3 hg3
      have HZ : Hid (I64 z) := by
        simp only [List.mem_cons, List.not_mem_nil, or_false] at hz
        rcases hz with rfl | rfl | rfl | rfl | rfl <;> exact ⟨by omega, by omega⟩
      clear hz
      go_wp2
      go_ret2
      exact ⟨_, _, rfl, HT.out, HZ.out, G3.cur, G3.grown⟩
    · have b1 : (y == 1) = false := by simp [e1]
      clear e0 e1 hy
      go_wp2
      go_ret2
      exact ⟨_, _, rfl, HT.out, ⟨by omega, by omega⟩, G2.cur, G2.grown⟩

theorem drawRuns (c : Code) (w : World) (h : c.In w) :
    Calls Try.prog 12 #[.slice c.a c.len c.cap] w fun e w' => ∃ (v : Value) (l : List V), e = .returned v ∧ AnyList l ∧ Own 34 3 w.heap.size w'.heap.size w' v l.length (vals l) ∧ Below w.heap.size w w' := by
  go_enter Try.func12, Try.ntmps12
  go_wp2_with fail
  refine (l1New c _ h).mono ?_
  rintro e w1 ⟨rfl, hc1, hb1⟩
  go_wp2_with fail
  refine (l5Any c _ _ hc1).mono ?_
  rintro e w2 ⟨v, l, rfl, H, o2, hc2, hg2⟩
  have O2 := o2.lower hb1.size
  go_wp2
  go_ret
  exact ⟨_, l, rfl, H, O2, below_cur hb1 hg2⟩

set_option maxHeartbeats 1000000 in
theorem drawDecRuns (c : Code) (w : World) (h : c.In w) :
    Calls Try.prog 25 #[.slice c.a c.len c.cap] w fun e w' => ∃ (v : Value) (zs : List Int) (ty k : Int), e = .returned (.tuple #[v, .int .i64 ty, .int .i64 k]) ∧ I64 ty ∧ I64 k ∧ Num.Bytes zs ∧ zs.length ≤ 1000 ∧ Own 5 1 w.heap.size w'.heap.size w' v zs.length (ints .u8 zs) ∧ Below w.heap.size w w' := by
  go_enter Try.func25, Try.ntmps25
  go_wp2_with fail
  refine (l1New c _ h).mono ?_
  rintro e w1 ⟨rfl, hc1, hb1⟩
  go_wp2_with fail
  refine (l5Draw c _ _ hc1).mono ?_
  rintro e w2 ⟨v2, l, rfl, hl, o2, hc2, hg2⟩
  have G2 := (Going.start hc1).next hc2 hg2
  have HA := Lib.hid hl.any
  obtain ⟨hl1, hl2, _⟩ := hl
  clear hc2 hg2
  go_wp2_with fail
  refine (l5Type c _ v2 l.length l w2 rfl hl1 (by omega) HA.out.2 o2.rd G2.cur).mono ?_
  rintro e w3 ⟨ty, k, rfl, ht, hk, hc3, hg3⟩
  have G3 := G2.next hc3 hg3
  have O3 := (o2.draw hg3 hc1.lt).wide hg3.size
  clear hc3 hg3 o2 G2
  have HE := Lib.hid (sEncRuns v2 l w3 (by omega) HA.out.sizes O3.rd)
  have HEL := Lib.hid (encR_len l)
  obtain ⟨b2, cp2, rfl⟩ : ∃ b cp, v2 = .slice (some ⟨b, 0, none⟩) l.length cp := by
    obtain ⟨b, cp, e, _⟩ := O3
    exact ⟨b, cp, e⟩
  generalize l.length = lc at *
  go_wp2_with fail
  refine HE.out.mono ?_
  rintro e w4 ⟨v4, rfl, o4, b4⟩
  have G4 := G3.below b4
  have hel := HEL.out
  clear HE G3 O3
  go_wp2_with fail
  refine (l1Bent c _ v4 (encR l).length (encR l) w4 (by omega) rfl (encR_bytes l) o4.at G4.cur).mono ?_
  rintro e w5 ⟨v5, zs, rfl, hby, hzl, o5, hc5, hg5⟩
  have G5 := G4.next hc5 hg5
  have HB5 := Lib.hid (below_cur hb1 G5.grown)
  have O5 := Lib.hid (o5.lower (show w.heap.size ≤ w4.heap.size by
    have h1 := hb1.size
    have h2 := G4.grown.size
    omega))
  have HZ : Hid (zs.length ≤ 1000) := by
    show _ ≤ _
    omega
  have HBY := Lib.hid hby
  obtain ⟨b5, cp5, rfl⟩ : ∃ b cp, v5 = .slice (some ⟨b, 0, none⟩) zs.length cp := by
    obtain ⟨b, cp, e, _⟩ := o5
    exact ⟨b, cp, e⟩
  clear o4 o5 hc5 hg5 hzl G4 G5 b4 hby
  go_wp2
  go_ret3
  exact ⟨_, zs, ty, k, rfl, ht, hk, HBY.out, HZ.out, O5.out, HB5.out⟩

/-- What DrawSpread draws. -/
def AnyRuns (r : List U) : Prop := r.length ≤ 16 ∧ ∀ u ∈ r, u.v.s.size ≤ 7
theorem AnyRuns.sizes {r : List U} (h : AnyRuns r) : ∀ u ∈ r, u.v.s.size ≤ maxLen := fun u hu => by
  have := h.2 u hu
  unfold maxLen
  omega

set_option maxHeartbeats 1000000 in
theorem drawSpread (c : Code) (w : World) (h : c.In w) :
    Calls Try.prog 27 #[.slice c.a c.len c.cap] w fun e w' => ∃ (v : Value) (r : List U), e = .returned v ∧ AnyRuns r ∧ Own 36 4 w.heap.size w'.heap.size w' v r.length (rus r) ∧ Below w.heap.size w w' := by
  go_enter Try.func27, Try.ntmps27
  go_wp2_with fail
  refine (l1New c _ h).mono ?_
  rintro e w1 ⟨rfl, hc1, hb1⟩
  generalize hgg : w.heap.size = g at hc1 hb1 ⊢
  go_wp2_with fail
  refine (l5Draw c _ _ hc1).mono ?_
  rintro e w2 ⟨v2, l, rfl, hl, o2, hc2, hg2⟩
  have G2 := (Going.start hc1).next hc2 hg2
  have HA := Lib.hid hl.any
  obtain ⟨hl1, hl2, _⟩ := hl
  have HR := Lib.hid (sRuns v2 l w2 (by omega) o2.rd)
  have HAR : Hid (AnyRuns (runsL l) ∧ 1 ≤ (runsL l).length ∧ (runsL l).length ≤ 15) := by
    have h1 := runsL_len l
    refine ⟨⟨by omega, runsL_all (p := fun v => v.s.size ≤ 7) (fun v hv => (HA.out.2 v hv).s)⟩, ?_, by omega⟩
    rw [runs_turns (by omega)]
    omega
  obtain ⟨b2, cp2, rfl⟩ : ∃ b cp, v2 = .slice (some ⟨b, 0, none⟩) l.length cp := by
    obtain ⟨b, cp, e, _⟩ := o2
    exact ⟨b, cp, e⟩
  generalize l.length = lc at *
  go_wp2_with fail
  refine HR.out.mono ?_
  rintro e w3 ⟨v3, rfl, o3, b3⟩
  have G3 := G2.below b3
  have O3 := o3.lower G2.grown.size
  clear o3 b3 o2 hc2 hg2 HR
  generalize runsL l = r at O3 HAR
  generalize hrc : r.length = rc at O3 HAR
  have HRC := Lib.hid hrc
  obtain ⟨b3, cp3, rfl⟩ : ∃ b cp, v3 = .slice (some ⟨b, 0, none⟩) rc cp := by
    obtain ⟨b, cp, e, _⟩ := O3
    exact ⟨b, cp, e⟩
  have hr1 := HAR.out.2.1
  have hr2 := HAR.out.2.2
  have HLE := Lib.hid hb1.size
  have HAR0 := Lib.hid HAR.out.1
  clear hrc HAR
  go_wp2_with fail
  refine (l1Below c g _ _ G3.cur).mono ?_
  rintro e w4 ⟨y, rfl, hy, hc4, hg4⟩
  have G4 := G3.next hc4 hg4
  have O4 := (O3.draw hg4 hc1.lt).wide hg4.size
  clear hc4 hg4 O3 G3
  by_cases e0 : y = 0
  · subst e0
    go_wp2_with fail
    refine (l1IntLit c g [0, -1, 64, 65, 9223372036854775807] 5 w4 rfl (by omega) (by omega) G4.cur _ rfl).mono ?_
    rintro e w5 ⟨z, rfl, hz, hc5, hg5⟩
    have G5 := G4.next hc5 hg5
    have O5 := (O4.draw hg5 hc1.lt).wide hg5.size
    have hrl : 0 < r.length := by rw [HRC.out]; omega
    have row := O5.row
    have R := row.stored 3 (.int .i64 z)
    have hset := rus_setK r 0 z hrl
    simp only [Nat.zero_mul, Nat.zero_add] at hset
    rw [← hset] at R
    have HLB : Hid (w1.heap.size ≤ b3) := by
      obtain ⟨g', c', e', h1, _⟩ := O5
      cases e'
      exact h1
    obtain ⟨x3, s3⟩ := cellAt_some row 3 (by omega)
    have f3 := row.frozenAt 3
    have G6 := Lib.hid (G5.set (b := b3) HLB.out 3 (.int .i64 z))
    have HRW := Lib.hid R.1
    have HAN : Hid (AnyRuns (r.set 0 ⟨(r.getD 0 U.zero).v, z⟩)) := by
      refine ⟨by rw [List.length_set]; exact HAR0.out.1, fun u hu => ?_⟩
      rcases List.mem_or_eq_of_mem_set hu with h1 | h1
      · exact HAR0.out.2 u h1
      · subst h1
        have e : r.getD 0 U.zero = r[0] := by simp [hrl]
        show (r.getD 0 U.zero).v.s.size ≤ 7
        rw [e]
        exact HAR0.out.2 _ (List.getElem_mem hrl)
    clear hz hc5 hg5 O4 G4 row R hset hrl O5 G5
    generalize hrs : r.set 0 ⟨(r.getD 0 U.zero).v, z⟩ = rr at HRW HAN
    have HRL : Hid (rr.length = rc) := by
      show _ = _
      rw [← hrs, List.length_set, HRC.out]
    clear hrs
    go_wp2
    go_ret
    refine ⟨_, rr, rfl, HAN.out, ?_, ?_⟩
    · rw [HRL.out]
      have hO : Own 36 4 w1.heap.size _ _ (.slice (some ⟨b3, 0, none⟩) rc cp3) rc (rus rr) := ⟨b3, cp3, rfl, HLB.out, (HRW.out.lt b3 rfl).2, HRW.out⟩
      exact hO.lower HLE.out
    · exact below_cur (hgg ▸ hb1) (hgg ▸ G6.out.grown)
  · have b0 : (y == 0) = false := by simp [e0]
    by_cases e1 : y = 1
    · subst e1
      go_wp2_with fail
      refine (l3Draw c g _ G4.cur).mono ?_
      rintro e w5 ⟨x, rfl, HX, hc5, hg5⟩
      have G5 := G4.next hc5 hg5
      have O5 := (O4.draw hg5 hc1.lt).wide hg5.size
      obtain ⟨xt, xn, xs⟩ := x
      have HX7 : Hid (xs.size ≤ 7) := by
        rcases HX with h1 | h1
        · exact h1.fair.s
        · exact h1.fair.s
      clear HX hc5 hg5 O4 G4
      go_wp2_with fail
      refine (l1Below c g _ _ G5.cur).mono ?_
      rintro e w6 ⟨z, rfl, hz, hc6, hg6⟩
      have G6 := G5.next hc6 hg6
      have O6 := (O5.draw hg6 hc1.lt).wide hg6.size
      have hz2 : 0 ≤ z ∧ z < 3 := by omega
      have HVA : Hid (rus r ++ U.cs ⟨⟨xt, xn, xs⟩, 1 + z⟩ = rus (r ++ [(⟨⟨xt, xn, xs⟩, 1 + z⟩ : U)])) := by
        show _ = _
        simp [rus]
      clear hc6 hg6 O5 G5 hz
      go_wp2_with (at_builtin; refine appendU_law Try.elemRuns rfl _ _ rfl _ _ _ _ _ ⟨⟨xt, xn, xs⟩, 1 + z⟩ rfl O6 rfl (by unfold maxLen; omega) (by omega) ?_)
      intro v7 w7 o7 e7
      have G7 := G6.ext O6 (Nat.le_refl _) e7
      rw [HVA.out] at o7
      have O7 := Lib.hid (o7.lower HLE.out)
      clear o7 e7 O6 G6
      go_wp2
      go_ret
      refine ⟨_, r ++ [⟨⟨xt, xn, xs⟩, 1 + z⟩], rfl, ⟨?_, ?_⟩, by rw [List.length_append, List.length_singleton, HRC.out]; exact O7.out, ?_⟩
      · rw [List.length_append, List.length_singleton, HRC.out]
        omega
      · intro u hu
        rcases List.mem_append.1 hu with h1 | h1
        · exact HAR0.out.2 u h1
        · obtain rfl := List.mem_singleton.1 h1
          exact HX7.out
      · exact below_cur (hgg ▸ hb1) (hgg ▸ G7.grown)
    · have b1 : (y == 1) = false := by simp [e1]
      clear e0 e1 hy
      go_wp2
      go_ret
      refine ⟨_, r, rfl, HAR0.out, by rw [HRC.out]; exact O4.lower HLE.out, ?_⟩
      exact below_cur (hgg ▸ hb1) (hgg ▸ G4.grown)

end Go.Proofs.Ytcnackecchjckaa
