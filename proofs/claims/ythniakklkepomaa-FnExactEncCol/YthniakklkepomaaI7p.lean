/- The contract of impl's Places. -/
import Derived.Test.YthniakklkepomaaIFirst
namespace Go.Proofs.Ythniakklkepomaa
open Go.RowKit

theorem filled_len {pre : List Int} {n : Nat} (h : pre.length ≤ n) : (filled .i64 pre n).length = n := by simp [filled, ints]; omega

set_option maxHeartbeats 2000000 in
theorem iPlaces : CPlaces := by
  intro u v d l w _ hn hd h
  have HF := Lib.hid (firstPlaces u d w hd)
  generalize hl : l.length = K at h hn
  obtain ⟨a, cap, rfl, hm, HC⟩ := h.vals hl
  unfold maxLen at hm
  have HL := Lib.hid hl
  have HNO : Hid (∀ k, k < K → inD d (l.getD k V.zero) = none → placesL d l = ([], false)) := fun k hk h1 => places_no (by omega) h1
  have HYES : Hid ((∀ k, k < K → (inD d (l.getD k V.zero)).isSome = true) → placesL d l = (l.map (inI d), true)) := fun h1 => places_yes (fun k hk => h1 k (by omega))
  have HS : Hid (∀ k, k < K → plK d l (k + 1) = plK d l k ++ [inI d (l.getD k V.zero)]) := fun k hk => by
    unfold plK
    exact map_snoc _ _ V.zero _ (by omega)
  have HKL : Hid (∀ k, k ≤ K → (plK d l k).length = k) := fun k hk => by simp [plK]; omega
  have HPK0 : Hid (plK d l 0 = []) := by show _ = _; simp [plK]
  have HPKE : Hid (plK d l K = l.map (inI d)) := by show _ = _; unfold plK; rw [← hl, List.take_length]
  generalize placesL d l = R at HNO HYES
  clear h hl hd
  go_enter Try.func63, Try.ntmps63
  go_wp2_with fail
  refine HF.out.mono ?_
  rintro e w1 ⟨mb, es, clock, L, rfl, hmb, hob, hen, hlk, b1⟩
  have HLK := Lib.hid hlk
  have HEN := Lib.hid hen
  have hz1 := b1.size
  have hmlt : mb < w1.heap.size := (Array.getElem?_eq_some_iff.1 hob).1
  have HOB := Lib.hid hob
  clear HF hlk hen hob
  go_wp2_with (at_make; refine make_law Try.elemInts rfl _ _ rfl .i64 .i64 _ _ K rfl rfl rfl rfl (by omega) (by unfold maxLen; omega) ?_)
  intro w2 hown1 hb2
  have hown0 : Own 3 1 w1.heap.size w2.heap.size w2 (.slice (some ⟨w1.heap.size, 0, none⟩) K K) K (filled .i64 (plK d l 0) K) := by
    have e := made_ints .i64 K
    rw [Nat.mul_one] at e
    rw [HPK0.out, filled_nil, ← e]
    exact hown1
  clear hown1
  generalize hg : w1.heap.size = g at hown0 hb2 hmlt ⊢
  have HG := Lib.hid hg
  clear hg
  go_wp2
  go_loopw [19] (fun i wr => ∃ j : Nat, j ≤ K ∧ i = .int .i64 j ∧ (∀ i, i < j → (inD d (l.getD i V.zero)).isSome = true) ∧ wr.ownsRow g 3 1 (.slice (some ⟨g, 0, none⟩) K K) K (filled .i64 (plK d l j) K) ∧ Below g w1 wr) (fun i _ => K - (intOf i).toNat)
  case atStart => exact ⟨0, Nat.zero_le _, rfl, fun i hi => by omega, hown0.row, hb2⟩
  case round =>
    obtain ⟨j, hj, rfl, hno, hown, hbr⟩ := hrel
    have HK := Lib.hid hno
    clear hown0 hb2 hno
    have hgw := HG.out
    by_cases hlt : j < K
    · obtain ⟨b, off, rfl, p0, p1, p2⟩ := HC.out j hlt
      have bw : Below w.heap.size w wr := b1.trans (hbr.mono (by omega))
      replace p0 := (bw.cell (p := ⟨b, off + j * 3, none⟩) (lt_of_cell p0)).trans p0
      replace p1 := (bw.cell (p := ⟨b, off + j * 3 + 1, none⟩) (lt_of_cell p1)).trans p1
      replace p2 := (bw.cell (p := ⟨b, off + j * 3 + 2, none⟩) (lt_of_cell p2)).trans p2
      have hob2 : wr.heap[mb]? = some (.map es clock) := (hbr.block mb hmlt).trans HOB.out
      have HSJ := Lib.hid (HS.out j hlt)
      have HKJ := Lib.hid (HKL.out j hj)
      have HSET := Lib.hid (fun x => filled_set (k := .i64) (pre := plK d l j) (n := K) x (by rw [HKJ.out]; exact hlt))
      rw [HKJ.out] at HSET
      have HNK := Lib.hid (HNO.out j hlt)
      have HKK : Hid ((inD d (l.getD j V.zero)).isSome = true → ∀ i, i < j + 1 → (inD d (l.getD i V.zero)).isSome = true) := fun h1 i hi => by
        by_cases e : i = j
        · subst e; exact h1
        · exact HK.out i (by omega)
      have HLV := Lib.hid (HLK.out (l.getD j V.zero))
      have HIS : Hid (∀ i, inD d (l.getD j V.zero) = some i → inI d (l.getD j V.zero) = i) := fun i hi => inI_some hi
      have hlu := fun W hW => run_lookup_val (l.getD j V.zero) W mb clock es L hW HEN.out
      generalize inI d (l.getD j V.zero) = z at HSJ HIS
      generalize inD d (l.getD j V.zero) = o at HNK HKK HLV HIS
      rw [HLV.out] at hlu
      generalize l.getD j V.zero = y at p0 p1 p2 hlu
      obtain ⟨t1, n1, s1⟩ := y
      simp only at p0 p1 p2 hlu
      have hlu2 := hlu (wr.alloc (.cells #[.int .i64 t1, .int .i64 n1, .string s1] 41)) ((Below.heap_alloc _ _ _ (Array.getElem?_eq_some_iff.1 hob2).1).trans hob2)
      have hsz := hbr.size
      have hownA := (own_of_row hown (Nat.le_refl _)).alloc (.cells #[.int .i64 t1, .int .i64 n1, .string s1] 41)
      have hbA := hbr.alloc (Nat.le_trans (by omega) hbr.size) (.cells #[.int .i64 t1, .int .i64 n1, .string s1] 41)
      have hvA := held_new wr ⟨t1, n1, s1⟩ 41
      have HROW := Lib.hid hown
      clear hlu hown hob2
      cases o with
      | none =>
        have HR := Lib.hid (HNK.out rfl)
        simp only [Option.map_none, Option.getD_none, Option.isSome_none] at hlu2
        have OL := own_lit (e := 3) (size := 1) (wr.alloc (.cells #[.int .i64 t1, .int .i64 n1, .string s1] 41)) #[] 0 (Nat.zero_le _) rfl
        have BL := Lib.hid (b1.trans ((hbA.alloc (by simp; omega) (.cells #[] 3)).mono (by omega)))
        have OL2 := Lib.hid (OL.lower (lo' := w.heap.size) (by simp; omega))
        clear hownA hbA OL
        go_wp2
        go_ret2
        rw [HR.out]
        exact ⟨_, rfl, by simpa [ints] using OL2.out, BL.out⟩
      | some A =>
        have HK2 := Lib.hid (HKK.out rfl)
        obtain rfl := HIS.out A rfl
        simp only [Option.map_some, Option.getD_some, Option.isSome_some] at hlu2
        obtain ⟨gA, cA, eA, _, _, row⟩ := hownA
        cases eA
        have R := Lib.hid ((HROW.out.stored j (.int .i64 (A : Int))).1.alloc (.cells #[.int .i64 t1, .int .i64 n1, .string s1] 41))
        rw [HSET.out, ← HSJ.out] at R
        obtain ⟨x0, s0⟩ := cellAt_some row j (by omega)
        have f0 := row.frozenAt j
        have hbA2 := Lib.hid ((hbr.setCell (p := ⟨g, j, none⟩) (Nat.le_refl _) (.int .i64 (A : Int))).alloc (by simp [World.setCell]; omega) (.cells #[.int .i64 t1, .int .i64 n1, .string s1] 41))
        obtain ⟨⟨v0, v1, v2⟩, _⟩ := hvA
        simp only at v0 v1 v2
        clear hbA row HNK HKK HIS HLV bw hbr hsz
        go_wp2
        go_roundw
        case rel => exact ⟨j + 1, by omega, by go_num, HK2.out, R.out, hbA2.out⟩
        case measure => simp [intOf]; omega
    · obtain rfl : j = K := by omega
      have HR := Lib.hid (HYES.out HK.out)
      have OO := Lib.hid (own_of_row hown (Nat.le_refl _))
      have HKJ := Lib.hid (HKL.out j hj)
      clear hown
      go_wp2
      go_ret2
      rw [HR.out]
      refine ⟨_, rfl, ?_, b1.trans (hbr.mono (by omega))⟩
      have := OO.out
      rw [filled_all HKJ.out, HPKE.out] at this
      show Own _ _ _ _ _ _ (l.map _).length _
      rw [List.length_map, HL.out]
      exact this.lower (by omega)

end Go.Proofs.Ythniakklkepomaa
