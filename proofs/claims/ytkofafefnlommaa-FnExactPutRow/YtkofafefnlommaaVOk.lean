/- The contract of the model's ValOk. -/
import Derived.Test.YtkofafefnlommaaVSpec
namespace Go.Proofs.Ytkofafefnlommaa
open Go.RowKit

/-- A character that a string may hold. -/
def chrB (c : UInt8) : Bool := Num.inB c.toNat 97 122 || Num.inB c.toNat 48 57
/-- A string that a value may hold. -/
def txtB (s : ByteArray) : Bool := decide (s.size ≤ 6) && s.data.toList.all chrB
/-- ValOk. -/
def okV (v : V) : Bool := if v.ty = 1 then Num.okB v.n && (v.s.size == 0) else v.ty == 2 && (v.n == 0 && txtB v.s)

theorem size_of_toList {s : ByteArray} (e : s.toList = []) : s.size = 0 := by
  rw [ByteArray.toList_eq] at e
  have := congrArg List.length e
  rw [Array.length_toList] at this
  exact this
theorem txtB_bad {s : ByteArray} {k : Nat} (h : k < s.size) (hc : chrB s[k] = false) : txtB s = false := by
  unfold txtB
  rw [Bool.and_eq_false_iff]
  right
  rw [List.all_eq_false]
  refine ⟨s[k], ?_, by rw [hc]; simp⟩
  rw [show s[k] = s.data.toList[k]'(by simpa using h) by rfl]
  exact List.getElem_mem _
theorem txtB_all {s : ByteArray} (h : s.size ≤ 6) (hc : ∀ k (hk : k < s.size), chrB s[k] = true) : txtB s = true := by
  unfold txtB
  rw [Bool.and_eq_true, List.all_eq_true]
  refine ⟨decide_eq_true h, fun c hm => ?_⟩
  obtain ⟨i, hi, rfl⟩ := List.getElem_of_mem hm
  exact hc i (by simpa using hi)

set_option maxHeartbeats 1000000 in
theorem sValOk (v : V) (w : World) (hs : v.s.size ≤ maxLen) : Calls Try.prog 81 #[v.agg] w fun e w' => e = .returned (.bool (okV v)) ∧ Below w.heap.size w w' := by
  obtain ⟨t, n, s⟩ := v
  simp only at hs
  unfold maxLen at hs
  by_cases ht : t = 1
  · subst ht
    have HE : Hid (okV ⟨1, n, s⟩ = (Num.okB n && (s.size == 0))) := if_pos rfl
    cases hok : Num.okB n with
    | false =>
      rw [hok, Bool.false_and] at HE
      have HR := Lib.hid (fun W => l1Right n W)
      rw [hok] at HR
      clear hok
      go_enter Try.func81, Try.ntmps81
      go_wp2_with (go_at_call 87; refine (HR.out _).mono ?_; rintro e w' ⟨rfl, rfl⟩)
      go_ret
      exact ⟨ret_bool HE.out.symm, below_alloc _ _⟩
    | true =>
      rw [hok, Bool.true_and] at HE
      have HR := Lib.hid (fun W => l1Right n W)
      rw [hok] at HR
      clear hok
      by_cases h0 : s.size = 0
      · obtain rfl : s = ⟨#[]⟩ := by
          apply ByteArray.ext
          exact Array.eq_empty_of_size_eq_zero h0
        go_enter Try.func81, Try.ntmps81
        go_wp2_with (go_at_call 87; refine (HR.out _).mono ?_; rintro e w' ⟨rfl, rfl⟩)
        go_ret
        exact ⟨ret_bool HE.out.symm, below_alloc _ _⟩
      · have hb : (s.size == 0) = false := by simpa using h0
        rw [hb] at HE
        have hl : ¬ s.toList = [] := fun e => h0 (size_of_toList e)
        have hl2 : (s.toList == []) = false := by simpa using hl
        go_enter Try.func81, Try.ntmps81
        go_wp2_with (go_at_call 87; refine (HR.out _).mono ?_; rintro e w' ⟨rfl, rfl⟩)
        go_ret
        exact ⟨ret_bool (by rw [HE.out]; try rfl), below_alloc _ _⟩
  · have HE : Hid (okV ⟨t, n, s⟩ = (t == 2 && (n == 0 && txtB s))) := if_neg ht
    have ht1 : (t == 1) = false := by simpa using ht
    clear ht
    go_enter Try.func81, Try.ntmps81
    go_wp2
    go_loop [3] (fun i => ∃ k : Nat, k ≤ s.size ∧ k ≤ 7 ∧ i = .int .i64 k ∧ ∀ j (hj : j < s.size), j < k → chrB s[j] = true) (fun i => 8 - (intOf i).toNat)
    case atStart => exact ⟨0, Nat.zero_le _, by omega, rfl, fun j _ hj => by omega⟩
    case round =>
      obtain ⟨k, hk, hk7, rfl, hok⟩ := hrel
      have HOK := Lib.hid hok
      clear hok
      by_cases hlt : k < s.size
      · by_cases h6 : k ≤ 6
        · have HS : Hid (chrB s[k] = true → ∀ j (hj : j < s.size), j < k + 1 → chrB s[j] = true) := fun h j hj hjk => by
            by_cases e : j = k
            · subst e; exact h
            · exact HOK.out j hj (by omega)
          have HN : Hid (chrB s[k] = false → okV ⟨t, n, s⟩ = false) := fun h => by rw [HE.out, txtB_bad hlt h, Bool.and_false, Bool.and_false]
          have hcw : wrap64 (s[k].toNat : Int) = (s[k].toNat : Int) := by
            have := s[k].toNat_lt
            unfold wrap64
            omega
          cases h1 : Num.inB s[k].toNat 97 122 with
          | true =>
            have HS2 := Lib.hid (HS.out (by unfold chrB; rw [h1]; rfl))
            clear HS HN
            go_wp2_with (go_at_call 71; refine (l1In _ _ _ _).mono ?_; rintro e w' ⟨rfl, rfl⟩)
            go_round
            case rel => exact ⟨k + 1, by omega, by omega, by go_num, HS2.out⟩
            case measure => simp [intOf]; omega
          | false =>
            cases h2 : Num.inB s[k].toNat 48 57 with
            | true =>
              have HS2 := Lib.hid (HS.out (by unfold chrB; rw [h2, Bool.or_true]))
              clear HS HN
              go_wp2_with (go_at_call 71; refine (l1In _ _ _ _).mono ?_; rintro e w' ⟨rfl, rfl⟩)
              go_round
              case rel => exact ⟨k + 1, by omega, by omega, by go_num, HS2.out⟩
              case measure => simp [intOf]; omega
            | false =>
              have HN2 := Lib.hid (HN.out (by unfold chrB; rw [h1, h2]; rfl))
              clear HS HN
              go_wp2_with (go_at_call 71; refine (l1In _ _ _ _).mono ?_; rintro e w' ⟨rfl, rfl⟩)
              go_ret
              exact ⟨ret_bool HN2.out.symm, below_alloc _ _⟩
        · have HN : Hid (okV ⟨t, n, s⟩ = false) := by
            show okV _ = false
            rw [HE.out]
            unfold txtB
            rw [decide_eq_false (by omega)]
            simp
          by_cases ht : t = 2
          · subst ht
            by_cases hn : n = 0
            · subst hn
              go_wp2
              go_ret
              exact ⟨ret_bool (by rw [HN.out]; simp; omega), below_alloc _ _⟩
            · have hnb : (n == 0) = false := by simpa using hn
              go_wp2
              go_ret
              exact ⟨ret_bool HN.out.symm, below_alloc _ _⟩
          · have htb : (t == 2) = false := by simpa using ht
            go_wp2
            go_ret
            exact ⟨ret_bool HN.out.symm, below_alloc _ _⟩
      · obtain rfl : k = s.size := by omega
        by_cases ht : t = 2
        · subst ht
          by_cases hn : n = 0
          · subst hn
            have HN : Hid (okV ⟨2, 0, s⟩ = decide (s.size ≤ 6)) := by
              show okV _ = decide (s.size ≤ 6)
              rw [HE.out]
              by_cases h6 : s.size ≤ 6
              · rw [txtB_all h6 (fun j hj => HOK.out j hj hj), decide_eq_true h6]
                rfl
              · unfold txtB
                rw [decide_eq_false h6]
                rfl
            go_wp2
            go_ret
            exact ⟨ret_bool (by rw [HN.out]; exact decide_eq_decide.2 (by omega)), below_alloc _ _⟩
          · have hnb : (n == 0) = false := by simpa using hn
            rw [hnb] at HE
            go_wp2
            go_ret
            exact ⟨ret_bool HE.out.symm, below_alloc _ _⟩
        · have htb : (t == 2) = false := by simpa using ht
          rw [htb] at HE
          go_wp2
          go_ret
          exact ⟨ret_bool HE.out.symm, below_alloc _ _⟩

end Go.Proofs.Ytkofafefnlommaa
