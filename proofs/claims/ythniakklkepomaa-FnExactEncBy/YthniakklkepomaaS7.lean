/- The contracts of the model's InDict, Places, Picked. -/
import Derived.Test.YthniakklkepomaaM7
import Derived.Test.YthniakklkepomaaHeldV
import Derived.Test.YthniakklkepomaaS5e
import Derived.Test.YthniakklkepomaaSUnpack
namespace Go.Proofs.Ythniakklkepomaa
open Go.RowKit

set_option maxHeartbeats 1000000 in
theorem sInDict (u : Value) (d : List V) (x : V) (w : World) (h : Rd 3 w u d.length (vals d)) :
    Calls Try.prog 58 #[u, x.agg] w fun e w' => e = .returned (.int .i64 (inI d x)) ∧ Below w.heap.size w w' := by
  generalize hl : d.length = n at h
  obtain ⟨a, cap, rfl, hm, HC⟩ := h.vals hl
  unfold maxLen at hm
  have HL := Lib.hid hl
  have HE : Hid (∀ i, i < n → (d.getD i V.zero).eqB x = true → (∀ j, j < i → (d.getD j V.zero).eqB x = false) → inI d x = i) := fun i hi h1 h2 => inI_some (inD_first (by omega) h1 h2)
  have HN : Hid ((∀ j, j < n → (d.getD j V.zero).eqB x = false) → inI d x = -1) := fun h1 => inI_none (inD_none.2 (fun j hj => h1 j (by omega)))
  have hx0 := held_new w x 41
  have hb0 := below_alloc w (.cells #[.int .i64 x.ty, .int .i64 x.n, .string x.s] 41)
  generalize inI d x = r at HE HN
  obtain ⟨xt, xn, xs⟩ := x
  clear h hl
  go_enter Try.func58, Try.ntmps58
  go_wp2
  generalize hW : w.alloc (.cells #[.int .i64 xt, .int .i64 xn, .string xs] 41) = W at hx0 hb0 ⊢
  have HW := Lib.hid hW
  clear hW
  go_loopw [5] (fun i wr => ∃ k : Nat, k ≤ n ∧ i = .int .i64 k ∧ (∀ j, j < k → (d.getD j V.zero).eqB ⟨xt, xn, xs⟩ = false) ∧ Below W.heap.size W wr) (fun i _ => n - (intOf i).toNat)
  case atStart => exact ⟨0, Nat.zero_le _, rfl, fun j hj => by omega, Below.refl _ _⟩
  case round =>
    obtain ⟨k, hk, rfl, hno, hbr⟩ := hrel
    have HNO := Lib.hid hno
    clear hno
    by_cases hlt : k < n
    · obtain ⟨b, off, rfl, p0, p1, p2⟩ := HC.out k hlt
      have hbr2 := hb0.trans (hbr.mono hb0.size)
      replace p0 := (hbr2.cell (p := ⟨b, off + k * 3, none⟩) (lt_of_cell p0)).trans p0
      replace p1 := (hbr2.cell (p := ⟨b, off + k * 3 + 1, none⟩) (lt_of_cell p1)).trans p1
      replace p2 := (hbr2.cell (p := ⟨b, off + k * 3 + 2, none⟩) (lt_of_cell p2)).trans p2
      obtain ⟨⟨q0, q1, q2⟩, _⟩ := hx0.below hbr
      have HEK := Lib.hid (HE.out k hlt)
      have HNK : Hid ((d.getD k V.zero).eqB ⟨xt, xn, xs⟩ = false → ∀ j, j < k + 1 → (d.getD j V.zero).eqB ⟨xt, xn, xs⟩ = false) := fun h1 j hj => by
        by_cases e : j = k
        · subst e; exact h1
        · exact HNO.out j (by omega)
      have hq := fun W => run_eql_val (d.getD k V.zero) ⟨xt, xn, xs⟩ W
      generalize d.getD k V.zero = y at p0 p1 p2 HEK HNK hq
      cases he : y.eqB ⟨xt, xn, xs⟩ with
      | true =>
        have HR := Lib.hid (HEK.out he HNO.out)
        rw [he] at hq
        obtain ⟨t1, n1, s1⟩ := y
        have HB := Lib.hid hbr2
        clear he HEK HNK hx0 hb0 hbr hbr2
        simp only at q0 q1 q2
        go_wp2
        go_quiet (fail)
        go_wp2
        go_ret
        exact ⟨ret_int HR.out.symm, HB.out.trans (below_drewN _ _ _)⟩
      | false =>
        have HS := Lib.hid (HNK.out he)
        rw [he] at hq
        obtain ⟨t1, n1, s1⟩ := y
        clear he HEK HNK hx0 hb0
        simp only at q0 q1 q2
        go_wp2
        go_quiet (fail)
        go_wp2
        go_roundw
        case rel => exact ⟨k + 1, by omega, by go_num, HS.out, hbr.trans (below_drewN _ _ _)⟩
        case measure => simp [intOf]; omega
    · obtain rfl : k = n := by omega
      have HR := Lib.hid (HN.out HNO.out)
      have hbr2 := hb0.trans (hbr.mono hb0.size)
      go_wp2
      go_ret
      exact ⟨ret_int HR.out.symm, hbr2⟩

theorem map_snoc {α β : Type} (f : α → β) (l : List α) (z : α) (k : Nat) (h : k < l.length) : (l.take (k + 1)).map f = (l.take k).map f ++ [f (l.getD k z)] := by
  rw [List.take_succ_eq_append_getElem h, List.map_append, getDe l z h]
  rfl
/-- The places of the first k values; what is picked at the first k places. -/
def plK (d l : List V) (k : Nat) : List Int := (l.take k).map (inI d)
def pkK (d : List V) (l : List Int) (k : Nat) : List V := (l.take k).map (fun x => d.getD x.toNat V.zero)
theorem inI_neg {d : List V} {v : V} (h : inI d v < 0) : inD d v = none := by
  cases e : inD d v with
  | none => rfl
  | some i => rw [inI_some e] at h; omega
theorem inI_pos {d : List V} {v : V} (h : ¬ inI d v < 0) : (inD d v).isSome = true := by
  cases e : inD d v with
  | none => rw [inI_none e] at h; omega
  | some i => rfl

set_option maxHeartbeats 1000000 in
theorem sPlaces (u v : Value) (d l : List V) (w : World) (hn : l.length ≤ 1048576) (hd : Rd 3 w u d.length (vals d)) (h : Rd 3 w v l.length (vals l)) :
    Calls Try.prog 43 #[u, v] w (Unpacked w (placesL d l)) := by
  have hown0 := own_lit (e := 3) (size := 1) w #[] 0 (Nat.zero_le _) rfl
  have hb0 := below_alloc w (.cells #[] 3)
  have HD := Lib.hid (fun x W (hW : Below w.heap.size w W) => sInDict u d x W (hd.below hW))
  generalize hl : l.length = n at h hn
  obtain ⟨a, cap, rfl, hm, HC⟩ := h.vals hl
  unfold maxLen at hm
  have HL := Lib.hid hl
  have HNO : Hid (∀ k, k < n → inI d (l.getD k V.zero) < 0 → placesL d l = ([], false)) := fun k hk h1 => places_no (by omega) (inI_neg h1)
  have HYES : Hid ((∀ k, k < n → 0 ≤ inI d (l.getD k V.zero)) → placesL d l = (l.map (inI d), true)) := fun h1 => places_yes (fun k hk => inI_pos (by have := h1 k (by omega); omega))
  have HS : Hid (∀ k, k < n → ints .i64 (plK d l (k + 1)) = ints .i64 (plK d l k) ++ [.int .i64 (inI d (l.getD k V.zero))]) := fun k hk => by
    unfold plK
    rw [map_snoc _ _ V.zero _ (by omega), ints_append]
    rfl
  have HTL : Hid (∀ k, k ≤ n → (plK d l k).length = k) := fun k hk => by simp [plK]; omega
  generalize placesL d l = R at HNO HYES
  clear h hl hd
  go_enter Try.func43, Try.ntmps43
  go_wp2
  go_loopw [6, 7] (fun o i wr => ∃ k : Nat, k ≤ n ∧ i = .int .i64 k ∧ (∀ j, j < k → 0 ≤ inI d (l.getD j V.zero)) ∧ Own 3 1 w.heap.size wr.heap.size wr o k (ints .i64 (plK d l k)) ∧ Below w.heap.size w wr) (fun _ i _ => n - (intOf i).toNat)
  case atStart => exact ⟨0, Nat.zero_le _, rfl, fun j hj => by omega, hown0, hb0⟩
  case round =>
    obtain ⟨k, hk, rfl, hno, hown, hbr⟩ := hrel
    have HK := Lib.hid hno
    clear hno
    by_cases hlt : k < n
    · obtain ⟨b, off, rfl, p0, p1, p2⟩ := HC.out k hlt
      replace p0 := (hbr.cell (p := ⟨b, off + k * 3, none⟩) (lt_of_cell p0)).trans p0
      replace p1 := (hbr.cell (p := ⟨b, off + k * 3 + 1, none⟩) (lt_of_cell p1)).trans p1
      replace p2 := (hbr.cell (p := ⟨b, off + k * 3 + 2, none⟩) (lt_of_cell p2)).trans p2
      have HX := Lib.hid (HD.out (l.getD k V.zero) wr hbr)
      have HSK := Lib.hid (HS.out k hlt)
      have HNK := Lib.hid (HNO.out k hlt)
      have HKK : Hid (0 ≤ inI d (l.getD k V.zero) → ∀ j, j < k + 1 → 0 ≤ inI d (l.getD j V.zero)) := fun h1 j hj => by
        by_cases e : j = k
        · subst e; exact h1
        · exact HK.out j (by omega)
      generalize inI d (l.getD k V.zero) = z at HX HSK HNK HKK
      generalize l.getD k V.zero = y at p0 p1 p2 HX
      obtain ⟨t1, n1, s1⟩ := y
      simp only at p0 p1 p2
      go_wp2_with fail
      refine HX.out.mono ?_
      rintro e w2 ⟨rfl, hb2⟩
      have B2 := below_then hbr hb2 hbr.size
      have z2 := hb2.size
      have O2 := hown.below hb2 (Nat.le_refl _)
      clear hb2 hown HX p0 p1 p2 hbr
      by_cases hz : z < 0
      · have HR := Lib.hid (HNK.out hz)
        have OL := own_lit (e := 3) (size := 1) w2 #[] 0 (Nat.zero_le _) rfl
        have BL := B2.alloc B2.size (.cells #[] 3)
        have hzz := B2.size
        clear O2
        go_wp2
        go_ret2
        rw [HR.out]
        exact ⟨_, rfl, OL.lower hzz, BL⟩
      · have HK2 := Lib.hid (HKK.out (by omega))
        have O3 := O2.wide z2
        clear O2
        go_wp2_with (at_builtin; refine append1_law Try.elemInts rfl _ _ rfl _ _ _ _ _ (.int .i64 z) rfl rfl O3 rfl (by unfold maxLen; omega) (by omega) ?_)
        intro v4 w4 o4 e4
        have b4 := B2.trans (e4.below O3)
        rw [← HSK.out] at o4
        have O4 := Lib.hid o4
        clear o4 e4 O3
        go_wp2
        go_roundw
        case rel => exact ⟨k + 1, by omega, by go_num, HK2.out, O4.out, b4⟩
        case measure => simp [intOf]; omega
    · obtain rfl : k = n := by omega
      have HR := Lib.hid (HYES.out HK.out)
      have OO := Lib.hid hown
      clear hown
      go_wp2
      go_ret2
      rw [HR.out]
      exact ⟨_, rfl, by have := OO.out; unfold plK at this; rw [← HL.out, List.take_length] at this; rw [List.length_map]; exact this, hbr⟩

end Go.Proofs.Ythniakklkepomaa
