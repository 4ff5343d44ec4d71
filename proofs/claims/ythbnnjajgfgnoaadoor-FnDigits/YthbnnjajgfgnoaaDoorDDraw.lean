/- The contracts of l1Str, DrawNumText, DrawParseNum. -/
import Derived.Test.YthbnnjajgfgnoaaDoorDrawOne
import Derived.Test.YthbnnjajgfgnoaaDoorDSyn
namespace Go.Proofs.YthbnnjajgfgnoaaDoor
open Go.RowKit

/-- Strings as values. -/
def strs (ss : List (List UInt8)) : List Value := ss.map fun l => Value.string ⟨l.toArray⟩
theorem strs_get {ss : List (List UInt8)} {k : Nat} (h : k < ss.length) : (strs ss)[k]? = some (.string ⟨(ss.getD k []).toArray⟩) := by simp [strs, h]
theorem getD_in {ss : List (List UInt8)} {k : Nat} (h : k < ss.length) : ss.getD k [] ∈ ss := by simp [h]

set_option maxHeartbeats 400000 in
theorem l1Str (c : Code) (g : Nat) (v : Value) (m : Nat) (ss : List (List UInt8)) (w : World) (hm : ss.length = m) (h0 : 0 < m) (hv : At 1 w v m (strs ss)) (hne : v.ownBlock ≠ some g) (h : Cur c g w) :
    Calls Tryd.prog 16 #[.pointer (some ⟨g, 0, none⟩), v] w fun e w' => ∃ l ∈ ss, e = .returned (.string ⟨l.toArray⟩) ∧ Cur c g w' ∧ w.grownBy w' (some g) := by
  obtain ⟨b, off, cap, rfl, h1, h2, h3, hc⟩ := hv
  unfold maxLen at h2
  go_enter Tryd.func16, Tryd.ntmps16
  go_wp2_with fail
  refine (l1Below c g _ _ h).mono ?_
  rintro e w1 ⟨x, rfl, hx, hc1, hg1⟩
  obtain ⟨k, rfl⟩ := Int.eq_ofNat_of_zero_le hx.1
  have hk : k < m := by omega
  have hbg : b ≠ g := by simpa [Value.ownBlock] using hne
  have hcx := hc k _ (strs_get (by omega))
  have hcx1 : w1.cell? ⟨b, off + k, none⟩ = some (.string ⟨(ss.getD k []).toArray⟩) := (World.cell?_of_block (w := w) (hg1.block b (lt_of_cell hcx) (fun e => hbg (by simpa using e)))).trans hcx
  have hmem : Hid (ss.getD k [] ∈ ss) := getD_in (by omega)
  generalize ss.getD k [] = z at hcx1 hmem
  clear hcx hc hx h3
  go_wp2
  go_ret
  exact ⟨_, hmem.out, rfl, hc1, hg1⟩

theorem strlit_at (w : World) (ss : List (List UInt8)) (n : Nat) (hn : ss.length = n) (hm : n ≤ 1000) : At 1 (w.alloc (.cells (strs ss).toArray 9)) (.slice (some ⟨w.heap.size, 0, none⟩) n n) n (strs ss) := by
  have := own_lit (e := 9) (size := 1) w (strs ss).toArray n (by unfold maxLen; omega) (by simp [strs, hn])
  simpa using this.at
theorem l1StrLit (c : Code) (g : Nat) (ss : List (List UInt8)) (n : Nat) (w : World) (hn : ss.length = n) (h0 : 0 < n) (hm : n ≤ 1000) (h : Cur c g w) (arr : Array Value) (ha : arr = (strs ss).toArray) :
    Calls Tryd.prog 16 #[.pointer (some ⟨g, 0, none⟩), .slice (some ⟨w.heap.size, 0, none⟩) n n] (w.alloc (.cells arr 9)) fun e w' => ∃ l ∈ ss, e = .returned (.string ⟨l.toArray⟩) ∧ Cur c g w' ∧ w.grownBy w' (some g) := by
  subst ha
  refine (l1Str c g _ n ss _ hn h0 (strlit_at w ss n hn hm) ?_ (h.alloc _)).mono ?_
  · have := h.lt
    simp [Value.ownBlock]
    omega
  · rintro e w1 ⟨x, hx, rfl, hc1, hg1⟩
    exact ⟨x, hx, rfl, hc1, (grownBy_alloc w _ _).trans hg1⟩

theorem drawNumText (c : Code) (w : World) (h : c.In w) :
    Calls Tryd.prog 7 #[.slice c.a c.len c.cap] w fun e w' => ∃ x : Int, e = .returned (.int .i64 x) ∧ I64 x ∧ Below w.heap.size w w' := by
  go_enter Tryd.func7, Tryd.ntmps7
  go_wp2_with fail
  refine (l1New c _ h).mono ?_
  rintro e w1 ⟨rfl, hc1, hb1⟩
  go_wp2_with fail
  refine (l1One c _ _ hc1).mono ?_
  rintro e w2 ⟨x, rfl, H, hc2, hg2⟩
  go_wp2
  go_ret
  exact ⟨_, rfl, H, below_cur hb1 hg2⟩

theorem itoa_short {n : Int} (h : I64 n) : (Lib.itoa n).length ≤ 21 := by
  obtain ⟨h0, h1⟩ := h
  rcases Dig.itoa_cases n with ⟨u, hu, rfl, e⟩ | ⟨u, rfl, e⟩
  · rw [e, List.length_cons, Lib.decDigits_length]
    have := Lib.nDigits_le20 u (by omega)
    omega
  · rw [e, Lib.decDigits_length]
    have := Lib.nDigits_le20 u (by omega)
    omega

set_option maxHeartbeats 400000 in
theorem drawParseNum (c : Code) (w : World) (h : c.In w) :
    Calls Tryd.prog 8 #[.slice c.a c.len c.cap] w fun e w' => ∃ l : List UInt8, e = .returned (.string ⟨l.toArray⟩) ∧ l.length ≤ 21 ∧ Below w.heap.size w w' := by
  go_enter Tryd.func8, Tryd.ntmps8
  go_wp2_with fail
  refine (l1New c _ h).mono ?_
  rintro e w1 ⟨rfl, hc1, hb1⟩
  go_wp2_with fail
  refine (l1Once c _ _ _ hc1).mono ?_
  rintro e w2 ⟨b, rfl, hc2, hg2⟩
  have hb2 := below_cur hb1 hg2
  cases b with
  | true =>
    go_wp2_with fail
    refine (l1StrLit c _ [[], [48], [48, 48], [45, 48], [45], [48, 49], [55], [45, 55], [49, 48, 48, 48, 48, 48, 48, 48, 48, 48], [49, 48, 48, 48, 48, 48, 48, 48, 48, 49], [45, 49, 48, 48, 48, 48, 48, 48, 48, 48, 48], [57, 57, 57, 57, 57, 57, 57, 57, 57, 57, 57], [49, 120], [32, 49], [43, 49], [45, 45, 49]] 16 w2 rfl (by omega) (by omega) hc2 _ rfl).mono ?_
    rintro e w3 ⟨l, hl, rfl, hc3, hg3⟩
    have HL := Lib.hid ((by decide : ∀ x ∈ ([[], [48], [48, 48], [45, 48], [45], [48, 49], [55], [45, 55], [49, 48, 48, 48, 48, 48, 48, 48, 48, 48], [49, 48, 48, 48, 48, 48, 48, 48, 48, 49], [45, 49, 48, 48, 48, 48, 48, 48, 48, 48, 48], [57, 57, 57, 57, 57, 57, 57, 57, 57, 57, 57], [49, 120], [32, 49], [43, 49], [45, 45, 49]] : List (List UInt8)), x.length ≤ 21) l hl)
    clear hl
    go_wp2
    go_ret
    exact ⟨_, rfl, HL.out, below_cur hb1 (hg2.trans hg3)⟩
  | false =>
    go_wp2_with fail
    refine (l1Num c _ _ hc2).mono ?_
    rintro e w3 ⟨x, rfl, H, hc3, hg3⟩
    have HL := Lib.hid (itoa_short H)
    have hb3 := below_cur hb1 (hg2.trans hg3)
    go_wp2_with fail
    refine (sNumText x _ H.lo H.hi).mono ?_
    rintro e w4 ⟨rfl, b4⟩
    have b5 := below_then hb3 b4 hb3.size
    go_wp2
    go_ret
    exact ⟨_, rfl, HL.out, b5⟩

end Go.Proofs.YthbnnjajgfgnoaaDoor
