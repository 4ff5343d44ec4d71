/- The model's Least, Most and TypeOf, and the walks of their laws; the program's own contracts come as hypotheses. -/
import Derived.Test.YthniakklkepomaaVOk
import Derived.Test.YthniakklkepomaaTake
namespace Go.Proofs.Ythniakklkepomaa
open Go.RowKit

/-- A value of the type z. -/
def ofB (z : Int) (v : V) : Bool := okV v && v.ty == z
/-- TypeOf. -/
def typeV (l : List V) : Int := if Num.inB l.length 1 64 = true ∧ l.all (ofB (l.getD 0 V.zero).ty) = true then (l.getD 0 V.zero).ty else 0
theorem typeV_no {l : List V} {k : Nat} (hk : k < l.length) (h : ofB (l.getD 0 V.zero).ty (l.getD k V.zero) = false) : typeV l = 0 := by
  unfold typeV
  rw [if_neg]
  rintro ⟨_, h2⟩
  have e : l.getD k V.zero = l[k] := by simp [hk]
  rw [e] at h
  have := List.all_eq_true.1 h2 _ (List.getElem_mem hk)
  rw [h] at this
  cases this
theorem typeV_all {l : List V} (h0 : Num.inB l.length 1 64 = true) (h : ∀ k, k < l.length → ofB (l.getD 0 V.zero).ty (l.getD k V.zero) = true) : typeV l = (l.getD 0 V.zero).ty := by
  have ha : l.all (ofB (l.getD 0 V.zero).ty) = true := by
    rw [List.all_eq_true]
    intro v hv
    obtain ⟨k, hk, rfl⟩ := List.getElem_of_mem hv
    have := h k hk
    simpa [hk] using this
  unfold typeV
  rw [if_pos ⟨h0, ha⟩]

set_option maxHeartbeats 1000000 in
theorem sTypeOf (v : Value) (l : List V) (w : World) (hss : ∀ v ∈ l, v.s.size ≤ maxLen) (h : Rd 3 w v l.length (vals l)) :
    Calls Try.prog 35 #[v] w fun e w' => e = .returned (.int .i64 (typeV l)) ∧ Below w.heap.size w w' := by
  have HTA := Lib.hid (typeV_all (l := l))
  have HIN : Hid (Num.inB l.length 1 64 = false → typeV l = 0) := fun h => by
    unfold typeV
    rw [if_neg]
    rintro ⟨h1, _⟩
    rw [h] at h1
    cases h1
  generalize hl : l.length = n at h HTA HIN
  obtain ⟨a2, c2, rfl, hm, HC⟩ := h.vals hl
  unfold maxLen at hm
  have HL := Lib.hid hl
  have HSS : Hid (∀ k, k < n → (l.getD k V.zero).s.size ≤ maxLen) := by
    intro k hk
    have hk' : k < l.length := by omega
    have e : l.getD k V.zero = l[k] := by simp [hk']
    rw [e]
    exact hss _ (List.getElem_mem hk')
  have HI := Lib.hid (fun W => l1In n 1 64 W)
  clear h hss hl
  cases hin : Num.inB n 1 64 with
  | false =>
    have HE := Lib.hid (HIN.out hin)
    rw [hin] at HI
    clear hin
    go_enter Try.func35, Try.ntmps35
    go_wp2_with (go_at_call 37; refine (HI.out _).mono ?_; rintro e w' ⟨rfl, rfl⟩)
    go_ret
    exact ⟨ret_int HE.out.symm, Below.refl _ _⟩
  | true =>
    obtain ⟨hn0, hn1⟩ := Num.inB_true.1 hin
    have hpos : 0 < n := by omega
    rw [hin] at HI HTA
    obtain ⟨b2, o2, rfl, z0, _, _⟩ := HC.out 0 hpos
    generalize hzz : (l.getD 0 V.zero).ty = z at z0 HTA
    simp only [Nat.zero_mul, Nat.add_zero] at z0
    have HZ := Lib.hid hzz
    have HTB := Lib.hid (HTA.out rfl)
    clear hzz hin hn0 hn1 HTA
    go_enter Try.func35, Try.ntmps35
    go_wp2_with (go_at_call 37; refine (HI.out _).mono ?_; rintro e w' ⟨rfl, rfl⟩)
    go_loopw [3] (fun i wr => ∃ k : Nat, k ≤ n ∧ i = .int .i64 k ∧ (∀ j, j < k → ofB z (l.getD j V.zero) = true) ∧ Below w.heap.size w wr) (fun i _ => n - (intOf i).toNat)
    case atStart => exact ⟨0, Nat.zero_le _, rfl, fun j hj => by omega, Below.refl _ _⟩
    case round =>
      obtain ⟨k, hk, rfl, hok, hbr⟩ := hrel
      have HOK := Lib.hid hok
      clear hok
      have p0 := (hbr.cell (p := ⟨b2, o2, none⟩) (lt_of_cell z0)).trans z0
      by_cases hlt : k < n
      · obtain ⟨b', o', hbo, q0, q1, q2⟩ := HC.out k hlt
        simp only [Option.some.injEq, Addr.mk.injEq, and_true] at hbo
        obtain ⟨rfl, rfl⟩ := hbo
        have HS : Hid (ofB z (l.getD k V.zero) = true → ∀ j, j < k + 1 → ofB z (l.getD j V.zero) = true) := fun h j hj => by
          by_cases e : j = k
          · subst e; exact h
          · exact HOK.out j (by omega)
        have HN : Hid (ofB z (l.getD k V.zero) = false → typeV l = 0) := fun h => typeV_no (by rw [HL.out]; exact hlt) (by rw [HZ.out]; exact h)
        have HO := Lib.hid (fun W => sValOk (l.getD k V.zero) W (HSS.out k hlt))
        generalize l.getD k V.zero = x at q0 q1 q2 HS HN HO
        have HF : Hid (ofB z x = (okV x && x.ty == z)) := rfl
        obtain ⟨t2, n2, s2⟩ := x
        simp only at q0 q1 q2
        replace q0 := (hbr.cell (p := ⟨b2, o2 + k * 3, none⟩) (lt_of_cell q0)).trans q0
        replace q1 := (hbr.cell (p := ⟨b2, o2 + k * 3 + 1, none⟩) (lt_of_cell q1)).trans q1
        replace q2 := (hbr.cell (p := ⟨b2, o2 + k * 3 + 2, none⟩) (lt_of_cell q2)).trans q2
        have HKV : Hid (∀ W, Below wr.heap.size wr W → W.cell? ⟨b2, o2 + k * 3, none⟩ = some (.int .i64 t2) ∧ W.cell? ⟨b2, o2 + k * 3 + 1, none⟩ = some (.int .i64 n2) ∧ W.cell? ⟨b2, o2 + k * 3 + 2, none⟩ = some (.string s2)) := fun W h =>
          ⟨(h.cell (p := ⟨b2, o2 + k * 3, none⟩) (lt_of_cell q0)).trans q0, (h.cell (p := ⟨b2, o2 + k * 3 + 1, none⟩) (lt_of_cell q1)).trans q1, (h.cell (p := ⟨b2, o2 + k * 3 + 2, none⟩) (lt_of_cell q2)).trans q2⟩
        have HK : Hid (∀ W, Below wr.heap.size wr W → W.cell? ⟨b2, o2 + k * 3, none⟩ = some (.int .i64 t2) ∧ W.cell? ⟨b2, o2 + k * 3 + 1, none⟩ = some (.int .i64 n2) ∧ W.cell? ⟨b2, o2 + k * 3 + 2, none⟩ = some (.string s2) ∧ W.cell? ⟨b2, o2, none⟩ = some (.int .i64 z)) := fun W h =>
          ⟨(HKV.out W h).1, (HKV.out W h).2.1, (HKV.out W h).2.2, (h.cell (p := ⟨b2, o2, none⟩) (lt_of_cell p0)).trans p0⟩
        have hB' := (Below.refl wr.heap.size wr).drew
        clear p0 q0 q1 q2
        cases hv : okV ⟨t2, n2, s2⟩ with
        | false =>
          have HN2 : Hid (typeV l = 0) := HN.out (by rw [HF.out, hv, Bool.false_and])
          rw [hv] at HO
          clear hv HS HN HF z0
          go_wp2
          refine wp_region_held_drew (S := fun W => W.cell? ⟨b2, o2 + k * 3, none⟩ = some (.int .i64 t2) ∧ W.cell? ⟨b2, o2 + k * 3 + 1, none⟩ = some (.int .i64 n2) ∧ W.cell? ⟨b2, o2 + k * 3 + 2, none⟩ = some (.string s2)) (by kernel_rfl) (HKV.out _ hB') (fun hHeld => ?_)
          refine takeH (i := 0) (d := some 14) (v := .slice (some ⟨b2, o2, none⟩) n c2) rfl rfl (by kernel_rfl) (by kernel_rfl) (by kernel_rfl) (fun _ _ _ h => h) (Or.inl ⟨by rfl, fun W hSw => by obtain ⟨d0, d1, d2⟩ := hSw; go_simp⟩) hHeld ?_
          simp only [put_some, List.set_cons_zero, List.set_cons_succ]
          refine takeH (i := 1) (d := some 15) (v := .int .i64 k) rfl rfl (by kernel_rfl) (by kernel_rfl) (by kernel_rfl) (fun _ _ _ h => h) (Or.inl ⟨by rfl, fun W hSw => by obtain ⟨d0, d1, d2⟩ := hSw; go_simp⟩) hHeld ?_
          simp only [put_some, List.set_cons_zero, List.set_cons_succ]
          refine takeH (i := 2) (d := some 16) (v := .pointer (some ⟨b2, o2 + k * 3, none⟩)) rfl rfl (by kernel_rfl) (by kernel_rfl) (by kernel_rfl) (fun _ _ _ h => h) (Or.inl ⟨by rfl, fun W hSw => by obtain ⟨d0, d1, d2⟩ := hSw; go_simp⟩) hHeld ?_
          simp only [put_some, List.set_cons_zero, List.set_cons_succ]
          refine takeH (i := 3) (d := some 17) (v := .agg #[.int .i64 t2, .int .i64 n2, .string s2]) rfl rfl (by kernel_rfl) (by kernel_rfl) (by kernel_rfl) (fun _ _ _ h => h) (Or.inl ⟨by rfl, fun W hSw => by obtain ⟨d0, d1, d2⟩ := hSw; go_simp⟩) hHeld ?_
          simp only [put_some, List.set_cons_zero, List.set_cons_succ]
          refine wpAnyH_ready (rs := [4]) (by kernel_rfl) (by simp) ?_
          refine AllReadyH.cons rfl (fun K hK => ?_) AllReadyH.nil
          go_simp
          go_at_call 52
          refine (HO.out _).mono ?_
          rintro e w2 ⟨rfl, hb2⟩
          replace hB' := below_then hB' hb2 hB'.size
          go_wp2_with fail
          refine hK.out _ _ (HKV.out _ hB') (fun hHeld => ?_)
          clear hK K
          refine takeH (i := 5) (d := some 19) (v := .bool true) rfl rfl (by kernel_rfl) (by kernel_rfl) (by kernel_rfl) (fun _ _ _ h => h) (Or.inl ⟨by rfl, fun W hSw => by obtain ⟨d0, d1, d2⟩ := hSw; go_simp⟩) hHeld ?_
          simp only [put_some, List.set_cons_zero, List.set_cons_succ]
          refine takeH (i := 6) (d := some 20) (v := .bool true) rfl rfl (by kernel_rfl) (by kernel_rfl) (by kernel_rfl) (fun _ _ _ h => h) (Or.inl ⟨by rfl, fun W hSw => by obtain ⟨d0, d1, d2⟩ := hSw; go_simp⟩) hHeld ?_
          simp only [put_some, List.set_cons_zero, List.set_cons_succ]
          refine takeH (i := 7) (d := some 21) (v := undef) rfl rfl (by kernel_rfl) (by kernel_rfl) (by kernel_rfl) (fun _ _ _ h => h) (Or.inr ⟨by rfl, rfl⟩) hHeld ?_
          simp only [put_some, List.set_cons_zero, List.set_cons_succ]
          refine takeH (i := 8) (d := some 22) (v := undef) rfl rfl (by kernel_rfl) (by kernel_rfl) (by kernel_rfl) (fun _ _ _ h => h) (Or.inr ⟨by rfl, rfl⟩) hHeld ?_
          simp only [put_some, List.set_cons_zero, List.set_cons_succ]
          refine takeH (i := 9) (d := some 23) (v := undef) rfl rfl (by kernel_rfl) (by kernel_rfl) (by kernel_rfl) (fun _ _ _ h => h) (Or.inr ⟨by rfl, rfl⟩) hHeld ?_
          simp only [put_some, List.set_cons_zero, List.set_cons_succ]
          refine takeH (i := 10) (d := some 24) (v := undef) rfl rfl (by kernel_rfl) (by kernel_rfl) (by kernel_rfl) (fun _ _ _ h => h) (Or.inr ⟨by rfl, rfl⟩) hHeld ?_
          simp only [put_some, List.set_cons_zero, List.set_cons_succ]
          refine takeH (i := 11) (d := some 25) (v := undef) rfl rfl (by kernel_rfl) (by kernel_rfl) (by kernel_rfl) (fun _ _ _ h => h) (Or.inr ⟨by rfl, rfl⟩) hHeld ?_
          simp only [put_some, List.set_cons_zero, List.set_cons_succ]
          refine takeH (i := 12) (d := some 26) (v := undef) rfl rfl (by kernel_rfl) (by kernel_rfl) (by kernel_rfl) (fun _ _ _ h => h) (Or.inr ⟨by rfl, rfl⟩) hHeld ?_
          simp only [put_some, List.set_cons_zero, List.set_cons_succ]
          refine takeH (i := 13) (d := some 27) (v := undef) rfl rfl (by kernel_rfl) (by kernel_rfl) (by kernel_rfl) (fun _ _ _ h => h) (Or.inr ⟨by rfl, rfl⟩) hHeld ?_
          simp only [put_some, List.set_cons_zero, List.set_cons_succ]
          refine takeH (i := 14) (d := some 28) (v := undef) rfl rfl (by kernel_rfl) (by kernel_rfl) (by kernel_rfl) (fun _ _ _ h => h) (Or.inr ⟨by rfl, rfl⟩) hHeld ?_
          simp only [put_some, List.set_cons_zero, List.set_cons_succ]
          refine takeH (i := 15) (d := some 29) (v := undef) rfl rfl (by kernel_rfl) (by kernel_rfl) (by kernel_rfl) (fun _ _ _ h => h) (Or.inr ⟨by rfl, rfl⟩) hHeld ?_
          simp only [put_some, List.set_cons_zero, List.set_cons_succ]
          refine takeH (i := 16) (d := some 30) (v := undef) rfl rfl (by kernel_rfl) (by kernel_rfl) (by kernel_rfl) (fun _ _ _ h => h) (Or.inr ⟨by rfl, rfl⟩) hHeld ?_
          simp only [put_some, List.set_cons_zero, List.set_cons_succ]
          refine takeH (i := 17) (d := some 31) (v := .bool true) rfl rfl (by kernel_rfl) (by kernel_rfl) (by kernel_rfl) (fun _ _ _ h => h) (Or.inl ⟨by rfl, fun W hSw => by obtain ⟨d0, d1, d2⟩ := hSw; go_simp⟩) hHeld ?_
          simp only [put_some, List.set_cons_zero, List.set_cons_succ]
          refine wpAnyH_done (by kernel_rfl) ?_ _
          go_wp2
          go_ret
          exact ⟨ret_int HN2.out.symm, below_then hbr hB' hbr.size⟩
        | true =>
          rw [hv] at HO
          rw [hv, Bool.true_and] at HF
          simp only at HF
          cases ht : (t2 == z) with
          | true =>
            have HS2 := Lib.hid (HS.out (by rw [HF.out, ht]))
            have hzz : (t2 != z) = false := by simpa using ht
            clear hv HS HN HF ht
            go_wp2
            go_region_held3 (fun W => W.cell? ⟨b2, o2 + k * 3, none⟩ = some (.int .i64 t2) ∧ W.cell? ⟨b2, o2 + k * 3 + 1, none⟩ = some (.int .i64 n2) ∧ W.cell? ⟨b2, o2 + k * 3 + 2, none⟩ = some (.string s2) ∧ W.cell? ⟨b2, o2, none⟩ = some (.int .i64 z)) (exact HK.out _ hB') ((go_at_call 52; (with_reducible refine (HO.out _).mono ?_); rintro e w2 ⟨rfl, hb2⟩; replace hB' := below_then hB' hb2 hB'.size))
            go_wp2
            go_roundw
            case rel => exact ⟨k + 1, by omega, by go_num, HS2.out, below_then hbr hB' hbr.size⟩
            case measure => simp [intOf]; omega
          | false =>
            have HN2 := Lib.hid (HN.out (by rw [HF.out, ht]))
            have hzz : (t2 != z) = true := by simpa using ht
            clear hv HS HN HF ht
            go_wp2
            go_region_held3 (fun W => W.cell? ⟨b2, o2 + k * 3, none⟩ = some (.int .i64 t2) ∧ W.cell? ⟨b2, o2 + k * 3 + 1, none⟩ = some (.int .i64 n2) ∧ W.cell? ⟨b2, o2 + k * 3 + 2, none⟩ = some (.string s2) ∧ W.cell? ⟨b2, o2, none⟩ = some (.int .i64 z)) (exact HK.out _ hB') ((go_at_call 52; (with_reducible refine (HO.out _).mono ?_); rintro e w2 ⟨rfl, hb2⟩; replace hB' := below_then hB' hb2 hB'.size))
            go_wp2
            go_ret
            exact ⟨ret_int HN2.out.symm, below_then hbr hB' hbr.size⟩
      · obtain rfl : k = n := by omega
        have HA : Hid (typeV l = z) := by
          exact HTB.out (fun j hj => HOK.out j hj)
        clear z0
        go_wp2
        go_ret
        exact ⟨ret_int HA.out.symm, hbr⟩

end Go.Proofs.Ythniakklkepomaa
