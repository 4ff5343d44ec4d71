/- The contract of impl's Column. -/
import Derived.Test.YtdclbpbjdaefhaaI4
namespace Go.Proofs.Ytdclbpbjdaefhaa
open Go.RowKit

set_option maxHeartbeats 1000000 in
theorem iColumn : CColumn := by
  intro u ps ls k w hn _ h hls
  subst hls
  have hown0 := own_lit (e := 58) (size := 3) w #[] 0 (Nat.zero_le _) rfl
  have hb0 := below_alloc w (.cells #[] 58)
  generalize hl : ps.length = n at hn
  obtain ⟨a, cap, rfl, _, HC⟩ := h.walk hl
  have hl' : (ps.map (·.1)).length = n := by simpa using hl
  have HE : Hid (∀ j, ((ps.map (·.1)).getD j R.zero) = (ps.getD j P.zero).1) := fun j => (getD_fst ps j).symm
  clear h hl
  generalize ps.map (·.1) = l at HE hl' ⊢
  have HL := Lib.hid hl'
  have HT : Hid (∀ j, j < n → colR (l.take (j + 1)) k = colR (l.take j) k ++ (if Num.inB k 0 (((ps.getD j P.zero).1.l.length : Int) - 1) = true then (ps.getD j P.zero).1.l[k.toNat]? else none).toList) := fun j hj => by
    have hj' : j < l.length := by omega
    rw [List.take_succ_eq_append_getElem hj', colR_snoc, ← HE.out j]
    simp [hj']
  have HLE : Hid (∀ j, j ≤ n → (colR (l.take j) k).length ≤ j) := fun j hj => Nat.le_trans (colR_le _ _) (by simp; omega)
  clear hl'
  go_enter Try.func31, Try.ntmps31
  go_wp2
  go_loopw [5, 11] (fun o i wr => ∃ j : Nat, j ≤ n ∧ i = .int .i64 j ∧ Own 58 3 w.heap.size wr.heap.size wr o (colR (l.take j) k).length (vals (colR (l.take j) k)) ∧ Below w.heap.size w wr) (fun _ i _ => n - (intOf i).toNat)
  case atStart => exact ⟨0, Nat.zero_le _, rfl, hown0, hb0⟩
  case round =>
    obtain ⟨j, hj, rfl, hown, hbr⟩ := hrel
    by_cases hlt : j < n
    · obtain ⟨b, off, rfl, c0, c1, hr⟩ := HC.out j hlt wr hbr
      have HTJ := Lib.hid (HT.out j hlt)
      have hcl := HLE.out j (by omega)
      generalize ps.getD j P.zero = p at c0 c1 hr HTJ
      obtain ⟨⟨i, rl⟩, ru⟩ := p
      simp only at c0 c1 HTJ
      obtain ⟨a', cap', hu, hmx, hx⟩ := hr
      simp only at hu hmx hx
      subst hu
      have ba := below_alloc wr (.cells #[.int .i64 i, .slice a' rl.length cap'] 38)
      have bt := below_then hbr ba hbr.size
      have hown2 := (hown.below ba (Nat.le_refl _)).wide ba.size
      unfold maxLen at hmx
      by_cases k0 : k < 0
      · have hin : Num.inB k 0 ((rl.length : Int) - 1) = false := by rw [← Bool.not_eq_true, Num.inB_true]; omega
        rw [hin, if_neg (by simp), Option.toList_none, List.append_nil] at HTJ
        clear hin hx hown ba
        generalize rl.length = m at *
        go_wp2
        go_roundw
        case rel => exact ⟨j + 1, by omega, by go_num, by rw [HTJ.out]; exact hown2, bt⟩
        case measure => simp [intOf]; omega
      by_cases k1 : k < (rl.length : Int)
      · have hin : Num.inB k 0 ((rl.length : Int) - 1) = true := by rw [Num.inB_true]; omega
        rw [hin] at HTJ
        obtain ⟨K, rfl⟩ := Int.eq_ofNat_of_zero_le (show 0 ≤ k by omega)
        have hK : K < rl.length := by omega
        rw [if_pos rfl, Int.toNat_natCast, List.getElem?_eq_getElem hK, Option.toList_some] at HTJ
        obtain ⟨b', o', rfl, hc⟩ : ∃ b off, a' = some ⟨b, off, none⟩ ∧ ∀ j u, (vals rl)[j]? = some u → wr.cell? ⟨b, off + j, none⟩ = some u := by
          rcases hx.2 with h0 | h0
          · omega
          · exact h0
        obtain ⟨d0, d1, d2⟩ := cells3 hc hK
        replace d0 := (ba.cell (p := ⟨b', o' + K * 3, none⟩) (lt_of_cell d0)).trans d0
        replace d1 := (ba.cell (p := ⟨b', o' + K * 3 + 1, none⟩) (lt_of_cell d1)).trans d1
        replace d2 := (ba.cell (p := ⟨b', o' + K * 3 + 2, none⟩) (lt_of_cell d2)).trans d2
        have y0 : (wr.alloc (.cells #[.int .i64 i, .slice (some ⟨b', o', none⟩) rl.length cap'] 38)).cell? ⟨wr.heap.size, 1, none⟩ = some (.slice (some ⟨b', o', none⟩) rl.length cap') := by simp
        generalize rl[K] = x at d0 d1 d2 HTJ
        have HVA : Hid (vals (colR (l.take j) K) ++ x.cs = vals (colR (l.take j) K ++ [x])) := by
          show _ = _
          simp [vals]
        have HLN : Hid ((colR (l.take j) K ++ [x]).length = (colR (l.take j) K).length + 1) := by
          show _ = _
          simp
        clear hin hx hc hown ba
        generalize rl.length = m at *
        generalize colR (l.take j) K = C at *
        generalize C.length = c at *
        obtain ⟨xt, xn, xs⟩ := x
        simp only at d0 d1 d2
        go_wp2_with (at_builtin; refine appendV_law Try.elemVals rfl _ _ rfl _ _ _ _ _ ⟨xt, xn, xs⟩ rfl hown2 (by show Value.slice (some ⟨wr.heap.size + 1, 0, none⟩) 1 1 = _; rw [World.size_alloc]) (by unfold maxLen; omega) (by omega) ?_)
        intro v3 w3 o3 e3
        have b3 := bt.trans (e3.below hown2)
        rw [HVA.out] at o3
        have O3 := Lib.hid o3
        clear o3 e3 hown2 d0 d1 d2 c0 c1
        go_wp2
        go_roundw
        case rel => exact ⟨j + 1, by omega, by go_num, by rw [HTJ.out, HLN.out]; exact O3.out, b3⟩
        case measure => simp [intOf]; omega
      · have hin : Num.inB k 0 ((rl.length : Int) - 1) = false := by rw [← Bool.not_eq_true, Num.inB_true]; omega
        rw [hin, if_neg (by simp), Option.toList_none, List.append_nil] at HTJ
        clear hin hx hown ba
        generalize rl.length = m at *
        go_wp2
        go_roundw
        case rel => exact ⟨j + 1, by omega, by go_num, by rw [HTJ.out]; exact hown2, bt⟩
        case measure => simp [intOf]; omega
    · obtain rfl : j = n := by omega
      rw [← HL.out, List.take_length] at hown
      go_wp2
      go_ret
      exact ⟨_, rfl, hown, hbr⟩

end Go.Proofs.Ytdclbpbjdaefhaa
