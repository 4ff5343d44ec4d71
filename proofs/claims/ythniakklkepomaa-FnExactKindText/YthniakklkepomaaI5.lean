/- The contracts of impl's Least, Most, TypeOf. -/
import Derived.Test.YthniakklkepomaaLaw5
import Derived.Test.YthniakklkepomaaIValOk
namespace Go.Proofs.Ythniakklkepomaa
open Go.RowKit

set_option maxHeartbeats 1000000 in
theorem iTypeOf : CTypeOf := by
  intro v l w hln hss h
  have HTA := Lib.hid (typeV_all (l := l))
  have HIN : Hid (Num.inB l.length 1 64 = false → typeV l = 0) := fun h => by
    unfold typeV
    rw [if_neg]
    rintro ⟨h1, _⟩
    rw [h] at h1
    cases h1
  generalize hl : l.length = n at h HTA HIN hln
  obtain ⟨a2, c2, rfl, hm, HC⟩ := h.vals hl
  unfold maxLen at hm
  have HL := Lib.hid hl
  have HSS : Hid (∀ k, k < n → (l.getD k V.zero).s.size ≤ maxLen) := by
    intro k hk
    have hk' : k < l.length := by omega
    have e : l.getD k V.zero = l[k] := by simp [hk']
    rw [e]
    exact hss _ (List.getElem_mem hk')
  clear h hss hl
  cases hin : Num.inB n 1 64 with
  | false =>
    have HE := Lib.hid (HIN.out hin)
    by_cases h1 : n < 1
    · obtain rfl : n = 0 := by omega
      clear hin
      go_enter Try.func53, Try.ntmps53
      go_wp2
      go_ret
      exact ⟨ret_int HE.out.symm, Below.refl _ _⟩
    · have h2 : 64 < n := by
        by_cases h2 : 64 < n
        · exact h2
        · exfalso
          rw [Num.inB_true.2 ⟨by omega, by omega⟩] at hin
          cases hin
      clear hin
      go_enter Try.func53, Try.ntmps53
      go_wp2
      go_ret
      exact ⟨ret_int HE.out.symm, Below.refl _ _⟩
  | true =>
    obtain ⟨hn0, hn1⟩ := Num.inB_true.1 hin
    have hpos : 0 < n := by omega
    rw [hin] at HTA
    obtain ⟨b2, o2, rfl, z0, _, _⟩ := HC.out 0 hpos
    generalize hzz : (l.getD 0 V.zero).ty = z at z0 HTA
    simp only [Nat.zero_mul, Nat.add_zero] at z0
    have HZ := Lib.hid hzz
    have HTB := Lib.hid (HTA.out rfl)
    clear hzz hin HTA
    go_enter Try.func53, Try.ntmps53
    go_wp2
    go_loopw [20] (fun i wr => ∃ k : Nat, k ≤ n ∧ i = .int .i64 k ∧ (∀ j, j < k → ofB z (l.getD j V.zero) = true) ∧ Below w.heap.size w wr) (fun i _ => n - (intOf i).toNat)
    case atStart => exact ⟨0, Nat.zero_le _, rfl, fun j hj => by omega, Below.refl _ _⟩
    case round =>
      obtain ⟨k, hk, rfl, hok, hbr⟩ := hrel
      have HOK := Lib.hid hok
      clear hok
      by_cases hlt : k < n
      · obtain ⟨b', o', hbo, q0, q1, q2⟩ := HC.out k hlt
        simp only [Option.some.injEq, Addr.mk.injEq, and_true] at hbo
        obtain ⟨rfl, rfl⟩ := hbo
        have HS : Hid (ofB z (l.getD k V.zero) = true → ∀ j, j < k + 1 → ofB z (l.getD j V.zero) = true) := fun h j hj => by
          by_cases e : j = k
          · subst e; exact h
          · exact HOK.out j (by omega)
        have HN : Hid (ofB z (l.getD k V.zero) = false → typeV l = 0) := fun h => typeV_no (by rw [HL.out]; exact hlt) (by rw [HZ.out]; exact h)
        have HO := Lib.hid (fun W => iValOk (l.getD k V.zero) W (HSS.out k hlt))
        generalize l.getD k V.zero = x at q0 q1 q2 HS HN HO
        have HF : Hid (ofB z x = (okV x && x.ty == z)) := rfl
        obtain ⟨t2, n2, s2⟩ := x
        simp only at q0 q1 q2
        replace q0 := (hbr.cell (p := ⟨b2, o2 + k * 3, none⟩) (lt_of_cell q0)).trans q0
        replace q1 := (hbr.cell (p := ⟨b2, o2 + k * 3 + 1, none⟩) (lt_of_cell q1)).trans q1
        replace q2 := (hbr.cell (p := ⟨b2, o2 + k * 3 + 2, none⟩) (lt_of_cell q2)).trans q2
        have ba := below_alloc wr (.cells #[.int .i64 t2, .int .i64 n2, .string s2] 41)
        have bt := below_then hbr ba hbr.size
        by_cases htz : t2 = z
        · subst htz
          have hne : (t2 != t2) = false := by simp
          cases hv : okV ⟨t2, n2, s2⟩ with
          | false =>
            have HN2 : Hid (typeV l = 0) := HN.out (by rw [HF.out, hv, Bool.false_and])
            rw [hv] at HO
            clear hv HS HN HF z0 ba
            go_wp2_with (go_at_call 69; refine (HO.out _).mono ?_; rintro e w2 ⟨rfl, hb2⟩; replace bt := below_then bt hb2 bt.size)
            go_ret
            exact ⟨ret_int HN2.out.symm, bt⟩
          | true =>
            have HS2 := Lib.hid (HS.out (by rw [HF.out, hv]; simp))
            rw [hv] at HO
            clear hv HS HN HF z0 ba
            go_wp2_with (go_at_call 69; refine (HO.out _).mono ?_; rintro e w2 ⟨rfl, hb2⟩; replace bt := below_then bt hb2 bt.size)
            go_roundw
            case rel => exact ⟨k + 1, by omega, by go_num, HS2.out, bt⟩
            case measure => simp [intOf]; omega
        · have hne : (t2 != z) = true := by simpa using htz
          have HN2 : Hid (typeV l = 0) := HN.out (by rw [HF.out]; simp [htz])
          clear HS HN HF z0 ba htz
          go_wp2
          go_ret
          exact ⟨ret_int HN2.out.symm, bt⟩
      · obtain rfl : k = n := by omega
        have HTC := Lib.hid (HTB.out HOK.out)
        go_wp2
        go_ret
        exact ⟨ret_int (by rw [HTC.out]), hbr⟩

end Go.Proofs.Ythniakklkepomaa
