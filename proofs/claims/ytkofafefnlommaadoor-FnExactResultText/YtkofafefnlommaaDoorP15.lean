/- Texts of this claim, one behind the other: VSpec, VOk, R4, EqV, M7, Z10, M10, T11, M11, R4S, S4, S4b, M12, IVal, S10. -/
import Derived.Test.YtkofafefnlommaaDoorP14
import Derived.Test.YtkofafefnlommaaDoorP4
import Derived.Laws.StructEq
import Derived.ChangeKeysEq
import Derived.Test.YtkofafefnlommaaDoorP5
import Derived.Deep.RegionHeld3

/- The contracts of the model's chapter 3 that do no text: LessVal, SameVals, NumsOf, TextsOf, ValOk. -/
namespace Go.Proofs.YtkofafefnlommaaDoor
open Go.RowKit

theorem Tryd.elemStrs : ElemT Tryd.prog 64 9 (.string ⟨#[]⟩) 1 16 := ⟨Tryd.underlying64, info_parts (by kernel_rfl), rfl, by decide⟩

/-- LessVal. -/
def lessV (a b : V) : Bool := if (a.ty != b.ty) = true then decide (a.ty < b.ty) else if (a.n != b.n) = true then decide (a.n < b.n) else Op.bytesLess a.s.toList b.s.toList
theorem sLessVal (a b : V) (w : World) : Calls Tryd.prog 78 #[a.agg, b.agg] w fun e w' => e = .returned (.bool (lessV a b)) ∧ Below w.heap.size w w' := by
  obtain ⟨t1, n1, s1⟩ := a
  obtain ⟨t2, n2, s2⟩ := b
  have HE := Lib.hid (show lessV ⟨t1, n1, s1⟩ ⟨t2, n2, s2⟩ = if (t1 != t2) = true then decide (t1 < t2) else if (n1 != n2) = true then decide (n1 < n2) else Op.bytesLess s1.toList s2.toList from rfl)
  cases h1 : (t1 != t2) with
  | true =>
    rw [if_pos h1] at HE
    go_enter Tryd.func78, Tryd.ntmps78
    go_wp2
    go_ret
    exact ⟨ret_bool HE.out.symm, below_alloc2 _ _ _⟩
  | false =>
    rw [if_neg (by rw [h1]; simp)] at HE
    cases h2 : (n1 != n2) with
    | true =>
      rw [if_pos h2] at HE
      go_enter Tryd.func78, Tryd.ntmps78
      go_wp2
      go_ret
      exact ⟨ret_bool HE.out.symm, below_alloc2 _ _ _⟩
    | false =>
      rw [if_neg (by rw [h2]; simp)] at HE
      go_enter Tryd.func78, Tryd.ntmps78
      go_wp2
      go_ret
      exact ⟨ret_bool HE.out.symm, below_alloc2 _ _ _⟩

theorem list3 {α : Type} {l : List α} (h : l.length = 3) : ∃ a b c, l = [a, b, c] := by
  match l, h with
  | [a, b, c], _ => exact ⟨a, b, c, rfl⟩
/-- a == b. -/
def V.eqB (a b : V) : Bool := (a.ty == b.ty) && ((a.n == b.n) && (a.s.toList == b.s.toList))
theorem run_eq_val (a b : V) (w : World) : (Op.equalIn 10000 29 a.agg b.agg).run Tryd.prog w = .ok (a.eqB b) w := by
  obtain ⟨t1, n1, s1⟩ := a
  obtain ⟨t2, n2, s2⟩ := b
  rw [show V.agg ⟨t1, n1, s1⟩ = .agg #[.int .i64 t1, .int .i64 n1, .string s1] from rfl, show V.agg ⟨t2, n2, s2⟩ = .agg #[.int .i64 t2, .int .i64 n2, .string s2] from rfl]
  rw [run_equalIn_struct w 9999 29 _ _ (by kernel_rfl) (by kernel_rfl)]
  have hf : ((Tryd.prog.fieldsOf 29).toList.map fun f => (f.name, f.type, f.offset)) = [("Ty", 3, 0), ("N", 3, 1), ("S", 9, 2)] := by kernel_rfl
  generalize (Tryd.prog.fieldsOf 29).toList = fs at hf ⊢
  obtain ⟨f0, f1, f2, rfl⟩ := list3 (by simpa using congrArg List.length hf)
  simp only [List.map_cons, List.map_nil, List.cons.injEq, Prod.mk.injEq, and_true] at hf
  obtain ⟨⟨a0, a1, a2⟩, ⟨b0, b1, b2⟩, c0, c1, c2⟩ := hf
  have hp3 : Tryd.prog.plainKey 3 = true := by kernel_rfl
  have hp9 : Tryd.prog.plainKey 9 = true := by kernel_rfl
  have P0 := fun (W : World) (x y z : Value) => run_part_plain (P := Tryd.prog) W hp3 (xs := #[x, y, z]) (off := 0) (v := x) rfl
  have P1 := fun (W : World) (x y z : Value) => run_part_plain (P := Tryd.prog) W hp3 (xs := #[x, y, z]) (off := 1) (v := y) rfl
  have P2 := fun (W : World) (x y z : Value) => run_part_plain (P := Tryd.prog) W hp9 (xs := #[x, y, z]) (off := 2) (v := z) rfl
  have E0 := fun (W : World) (x y : Int) => run_equalIn_int (P := Tryd.prog) W 9998 3 .i64 .i64 x y Tryd.underlying3
  have E2 := fun (W : World) (x y : ByteArray) => run_equalIn_string (P := Tryd.prog) W 9998 9 x y Tryd.underlying9
  simp only [Nat.reduceAdd] at E0 E2
  simp only [Op.eqFields, a0, a1, a2, b0, b1, b2, c0, c1, c2, ne_eq, show ¬ "Ty" = "_" by decide, show ¬ "N" = "_" by decide, show ¬ "S" = "_" by decide, not_false_eq_true, if_true, Sem.run_bind, P0, P1, P2, E0, E2, Result.andThen_ok, Sem.run_ite, Sem.run_pure]
  unfold V.eqB
  simp only
  cases (t1 == t2) <;> cases (n1 == n2) <;> cases (s1.toList == s2.toList) <;> rfl
theorem run_neq_val (a b : V) (w : World) : (binOp .neq 29 a.agg b.agg).run Tryd.prog w = .ok (.bool (!(a.eqB b))) w := by
  rw [run_neq_struct, run_eq_val]
  rfl
theorem run_eql_val (a b : V) (w : World) : (binOp .eql 29 a.agg b.agg).run Tryd.prog w = .ok (.bool (a.eqB b)) w := by
  rw [run_eql_struct, run_eq_val]
  rfl

/-- SameVals. -/
def sameV : List V → List V → Bool
  | [], [] => true
  | a :: l, b :: r => a.eqB b && sameV l r
  | _, _ => false
theorem sameV_len {l r : List V} (h : l.length ≠ r.length) : sameV l r = false := by
  induction l generalizing r with
  | nil => cases r with
    | nil => simp at h
    | cons => rfl
  | cons a l ih => cases r with
    | nil => rfl
    | cons b r => rw [sameV, ih (by simpa using h), Bool.and_false]
theorem sameV_all {l r : List V} (hn : l.length = r.length) (h : ∀ k, k < l.length → (l.getD k V.zero).eqB (r.getD k V.zero) = true) : sameV l r = true := by
  induction l generalizing r with
  | nil => cases r with
    | nil => rfl
    | cons => simp at hn
  | cons a l ih => cases r with
    | nil => simp at hn
    | cons b r =>
      rw [sameV, ih (by simpa using hn) (fun k hk => by simpa using h (k + 1) (by simpa using hk)), Bool.and_true]
      simpa using h 0 (by simp)
theorem sameV_no {l r : List V} {k : Nat} (hk : k < l.length) (hn : l.length = r.length) (h : (l.getD k V.zero).eqB (r.getD k V.zero) = false) : sameV l r = false := by
  induction l generalizing r k with
  | nil => simp at hk
  | cons a l ih => cases r with
    | nil => simp at hn
    | cons b r =>
      cases k with
      | zero =>
        simp only [List.getD_cons_zero] at h
        rw [sameV, h, Bool.false_and]
      | succ k => rw [sameV, ih (k := k) (by simpa using hk) (by simpa using hn) (by simpa using h), Bool.and_false]

end Go.Proofs.YtkofafefnlommaaDoor

/- The contract of the model's ValOk. -/
namespace Go.Proofs.YtkofafefnlommaaDoor
open Go.RowKit

/-- A character that a string may hold. -/
def chrB (c : UInt8) : Bool := Num.inB c.toNat 97 122 || Num.inB c.toNat 48 57
/-- A string that a value may hold. -/
def txtB (s : ByteArray) : Bool := decide (s.size ≤ 6) && s.data.toList.all chrB
/-- ValOk. -/
def okV (v : V) : Bool := if v.ty = 1 then Num.okB v.n && (v.s.size == 0) else v.ty == 2 && (v.n == 0 && txtB v.s)

theorem size_of_toList {s : ByteArray} (e : s.toList = []) : s.size = 0 := by
  rw [ByteArray.toList_eq] at e
  have := congrArg List.length e
  rw [Array.length_toList] at this
  exact this
theorem txtB_bad {s : ByteArray} {k : Nat} (h : k < s.size) (hc : chrB s[k] = false) : txtB s = false := by
  unfold txtB
  rw [Bool.and_eq_false_iff]
  right
  rw [List.all_eq_false]
  refine ⟨s[k], ?_, by rw [hc]; simp⟩
  rw [show s[k] = s.data.toList[k]'(by simpa using h) by rfl]
  exact List.getElem_mem _
theorem txtB_all {s : ByteArray} (h : s.size ≤ 6) (hc : ∀ k (hk : k < s.size), chrB s[k] = true) : txtB s = true := by
  unfold txtB
  rw [Bool.and_eq_true, List.all_eq_true]
  refine ⟨decide_eq_true h, fun c hm => ?_⟩
  obtain ⟨i, hi, rfl⟩ := List.getElem_of_mem hm
  exact hc i (by simpa using hi)

set_option maxHeartbeats 1000000 in
theorem sValOk (v : V) (w : World) (hs : v.s.size ≤ maxLen) : Calls Tryd.prog 52 #[v.agg] w fun e w' => e = .returned (.bool (okV v)) ∧ Below w.heap.size w w' := by
  obtain ⟨t, n, s⟩ := v
  simp only at hs
  unfold maxLen at hs
  by_cases ht : t = 1
  · subst ht
    have HE : Hid (okV ⟨1, n, s⟩ = (Num.okB n && (s.size == 0))) := if_pos rfl
    cases hok : Num.okB n with
    | false =>
      rw [hok, Bool.false_and] at HE
      have HR := Lib.hid (fun W => l1Right n W)
      rw [hok] at HR
      clear hok
      go_enter Tryd.func52, Tryd.ntmps52
      go_wp2_with (go_at_call 82; refine (HR.out _).mono ?_; rintro e w' ⟨rfl, rfl⟩)
      go_ret
      exact ⟨ret_bool HE.out.symm, below_alloc _ _⟩
    | true =>
      rw [hok, Bool.true_and] at HE
      have HR := Lib.hid (fun W => l1Right n W)
      rw [hok] at HR
      clear hok
      by_cases h0 : s.size = 0
      · obtain rfl : s = ⟨#[]⟩ := by
          apply ByteArray.ext
          exact Array.eq_empty_of_size_eq_zero h0
        go_enter Tryd.func52, Tryd.ntmps52
        go_wp2_with (go_at_call 82; refine (HR.out _).mono ?_; rintro e w' ⟨rfl, rfl⟩)
        go_ret
        exact ⟨ret_bool HE.out.symm, below_alloc _ _⟩
      · have hb : (s.size == 0) = false := by simpa using h0
        rw [hb] at HE
        have hl : ¬ s.toList = [] := fun e => h0 (size_of_toList e)
        have hl2 : (s.toList == []) = false := by simpa using hl
        go_enter Tryd.func52, Tryd.ntmps52
        go_wp2_with (go_at_call 82; refine (HR.out _).mono ?_; rintro e w' ⟨rfl, rfl⟩)
        go_ret
        exact ⟨ret_bool (by rw [HE.out]; try rfl), below_alloc _ _⟩
  · have HE : Hid (okV ⟨t, n, s⟩ = (t == 2 && (n == 0 && txtB s))) := if_neg ht
    have ht1 : (t == 1) = false := by simpa using ht
    clear ht
    go_enter Tryd.func52, Tryd.ntmps52
    go_wp2
    go_loop [3] (fun i => ∃ k : Nat, k ≤ s.size ∧ k ≤ 7 ∧ i = .int .i64 k ∧ ∀ j (hj : j < s.size), j < k → chrB s[j] = true) (fun i => 8 - (intOf i).toNat)
    case atStart => exact ⟨0, Nat.zero_le _, by omega, rfl, fun j _ hj => by omega⟩
    case round =>
      obtain ⟨k, hk, hk7, rfl, hok⟩ := hrel
      have HOK := Lib.hid hok
      clear hok
      by_cases hlt : k < s.size
      · by_cases h6 : k ≤ 6
        · have HS : Hid (chrB s[k] = true → ∀ j (hj : j < s.size), j < k + 1 → chrB s[j] = true) := fun h j hj hjk => by
            by_cases e : j = k
            · subst e; exact h
            · exact HOK.out j hj (by omega)
          have HN : Hid (chrB s[k] = false → okV ⟨t, n, s⟩ = false) := fun h => by rw [HE.out, txtB_bad hlt h, Bool.and_false, Bool.and_false]
          have hcw : wrap64 (s[k].toNat : Int) = (s[k].toNat : Int) := by
            have := s[k].toNat_lt
            unfold wrap64
            omega
          cases h1 : Num.inB s[k].toNat 97 122 with
          | true =>
            have HS2 := Lib.hid (HS.out (by unfold chrB; rw [h1]; rfl))
            clear HS HN
            go_wp2_with (go_at_call 29; refine (l1In _ _ _ _).mono ?_; rintro e w' ⟨rfl, rfl⟩)
            go_round
            case rel => exact ⟨k + 1, by omega, by omega, by go_num, HS2.out⟩
            case measure => simp [intOf]; omega
          | false =>
            cases h2 : Num.inB s[k].toNat 48 57 with
            | true =>
              have HS2 := Lib.hid (HS.out (by unfold chrB; rw [h2, Bool.or_true]))
              clear HS HN
              go_wp2_with (go_at_call 29; refine (l1In _ _ _ _).mono ?_; rintro e w' ⟨rfl, rfl⟩)
              go_round
              case rel => exact ⟨k + 1, by omega, by omega, by go_num, HS2.out⟩
              case measure => simp [intOf]; omega
            | false =>
              have HN2 := Lib.hid (HN.out (by unfold chrB; rw [h1, h2]; rfl))
              clear HS HN
              go_wp2_with (go_at_call 29; refine (l1In _ _ _ _).mono ?_; rintro e w' ⟨rfl, rfl⟩)
              go_ret
              exact ⟨ret_bool HN2.out.symm, below_alloc _ _⟩
        · have HN : Hid (okV ⟨t, n, s⟩ = false) := by
            show okV _ = false
            rw [HE.out]
            unfold txtB
            rw [decide_eq_false (by omega)]
            simp
          by_cases ht : t = 2
          · subst ht
            by_cases hn : n = 0
            · subst hn
              go_wp2
              go_ret
              exact ⟨ret_bool (by rw [HN.out]; simp; omega), below_alloc _ _⟩
            · have hnb : (n == 0) = false := by simpa using hn
              go_wp2
              go_ret
              exact ⟨ret_bool HN.out.symm, below_alloc _ _⟩
          · have htb : (t == 2) = false := by simpa using ht
            go_wp2
            go_ret
            exact ⟨ret_bool HN.out.symm, below_alloc _ _⟩
      · obtain rfl : k = s.size := by omega
        by_cases ht : t = 2
        · subst ht
          by_cases hn : n = 0
          · subst hn
            have HN : Hid (okV ⟨2, 0, s⟩ = decide (s.size ≤ 6)) := by
              show okV _ = decide (s.size ≤ 6)
              rw [HE.out]
              by_cases h6 : s.size ≤ 6
              · rw [txtB_all h6 (fun j hj => HOK.out j hj hj), decide_eq_true h6]
                rfl
              · unfold txtB
                rw [decide_eq_false h6]
                rfl
            go_wp2
            go_ret
            exact ⟨ret_bool (by rw [HN.out]; exact decide_eq_decide.2 (by omega)), below_alloc _ _⟩
          · have hnb : (n == 0) = false := by simpa using hn
            rw [hnb] at HE
            go_wp2
            go_ret
            exact ⟨ret_bool HE.out.symm, below_alloc _ _⟩
        · have htb : (t == 2) = false := by simpa using ht
          rw [htb] at HE
          go_wp2
          go_ret
          exact ⟨ret_bool HE.out.symm, below_alloc _ _⟩

end Go.Proofs.YtkofafefnlommaaDoor

/- Rows: what they are, and the laws' own helpers over one Row: szRow, toRow, eqRow. -/
namespace Go.Proofs.YtkofafefnlommaaDoor
open Go.RowKit

/-- A Row. -/
structure R where
  id : Int
  l : List V
/-- A Row as the machine holds it: its number and the slice of its values. -/
abbrev R.agg (r : R) (u : Value) : Value := .agg #[.int .i64 r.id, u]
/-- The slice of a Row reads as its values. -/
def R.rd (w : World) (r : R) (u : Value) : Prop := Rd 3 w u r.l.length (vals r.l)
theorem R.rd.below {w w' : World} {r : R} {u : Value} (h : r.rd w u) (hb : Below w.heap.size w w') : r.rd w' u := Rd.below h hb

theorem szRow (r : R) (u : Value) (left : Int) (w : World) (h0 : 0 ≤ left) (h1 : left ≤ 1048576) (hss : ∀ v ∈ r.l, v.s.size ≤ maxLen) (h : r.rd w u) :
    Calls Tryd.prog 59 #[r.agg u, .int .i64 left] w fun e w' => ∃ z : Int, e = .returned (.int .i64 z) ∧ (z < 0 ∨ (0 ≤ z ∧ (r.l.length : Int) + bulk r.l ≤ left - z)) ∧ Below w.heap.size w w' := by
  have B0 := below_alloc w (.cells #[.int .i64 r.id, u] 131)
  have h' := h.below B0
  obtain ⟨a, cap, rfl, hn, hx⟩ := h'
  have HZ := Lib.hid (szValS a r.l.length cap r.l left (w.alloc (.cells #[.int .i64 r.id, .slice a r.l.length cap] 131)) h0 h1 hn hss rfl hx)
  obtain ⟨i, l⟩ := r
  simp only at HZ B0
  generalize l.length = m at *
  generalize bulk l = k at *
  clear h hx hss
  go_enter Tryd.func59, Tryd.ntmps59
  go_wp2_with fail
  refine HZ.out.mono ?_
  rintro e w1 ⟨z, rfl, hz, b1⟩
  have B1 := below_then B0 b1 B0.size
  clear b1 HZ
  by_cases hneg : z < 0
  · go_wp2
    go_ret
    exact ⟨_, rfl, .inl (by omega), B1⟩
  · go_wp2
    go_ret
    exact ⟨_, rfl, hz, B1⟩

/-- Two cells of a block that may be written. -/
def Two (W : World) (b : Nat) (x y : Value) : Prop :=
  (W.cell? ⟨b, 0, none⟩ = some x ∧ W.cell? ⟨b, 1, none⟩ = some y) ∧ W.frozen? ⟨b, 0, none⟩ = false ∧ W.frozen? ⟨b, 1, none⟩ = false
theorem Two.below {W W' : World} {b : Nat} {x y : Value} (h : Two W b x y) (hb : Below W.heap.size W W') : Two W' b x y := by
  have hlt := lt_of_cell h.1.1
  exact ⟨⟨(hb.cell (p := ⟨b, 0, none⟩) hlt).trans h.1.1, (hb.cell (p := ⟨b, 1, none⟩) hlt).trans h.1.2⟩, (hb.frozen (p := ⟨b, 0, none⟩) hlt).trans h.2.1, (hb.frozen (p := ⟨b, 1, none⟩) hlt).trans h.2.2⟩
theorem two_new (w : World) (x y : Value) (e : TypeId) : Two (w.alloc (.cells #[x, y] e)) w.heap.size x y := ⟨⟨by simp, by simp⟩, by simp, by simp⟩

theorem Own.setBelow {e size lo hi w v n xs} (h : Own e size lo hi w v n xs) {a : Addr} (ha : a.block < lo) (u : Value) : Own e size lo hi (w.setCell a u) v n xs := by
  obtain ⟨g, cap, rfl, h1, h2, h3⟩ := h
  exact ⟨g, cap, rfl, h1, h2, ownsRow_setCell_below h3 ha u⟩
theorem Own.size {e size lo hi w v n xs} (h : Own e size lo hi w v n xs) (hi' : Nat) (hh : hi ≤ hi') : Own e size lo hi' w v n xs := by
  obtain ⟨g, cap, rfl, h1, h2, h3⟩ := h
  exact ⟨g, cap, rfl, h1, by omega, h3⟩

set_option maxHeartbeats 400000 in
theorem toRow (r : R) (u : Value) (w : World) (hle : r.l.length ≤ 1073741824) (h : r.rd w u) :
    Calls Tryd.prog 60 #[r.agg u] w fun e w' => ∃ v, e = .returned (r.agg v) ∧ Own 29 3 w.heap.size w'.heap.size w' v r.l.length (vals r.l) ∧ Below w.heap.size w w' := by
  have B0 := below_alloc3 w (.cells #[.int .i64 r.id, u] 131) (.cells #[.int .i64 0, .slice none 0 0] 91) (.cells #[.int .i64 r.id, .slice none 0 0] 91)
  have h' := h.below B0
  obtain ⟨a, cap, rfl, hn, hx⟩ := h'
  have Z1 := (two_new (w.alloc (.cells #[.int .i64 r.id, .slice a r.l.length cap] 131)) (.int .i64 0) (.slice none 0 0) 91).below (below_alloc _ (.cells #[.int .i64 r.id, .slice none 0 0] 91))
  have Z2 := two_new ((w.alloc (.cells #[.int .i64 r.id, .slice a r.l.length cap] 131)).alloc (.cells #[.int .i64 0, .slice none 0 0] 91)) (.int .i64 r.id) (.slice none 0 0) 91
  have HT := Lib.hid (toValS a r.l.length cap r.l (((w.alloc (.cells #[.int .i64 r.id, .slice a r.l.length cap] 131)).alloc (.cells #[.int .i64 0, .slice none 0 0] 91)).alloc (.cells #[.int .i64 r.id, .slice none 0 0] 91)) hle rfl hx)
  rw [World.size_alloc] at Z1
  rw [World.size_alloc, World.size_alloc] at Z2
  obtain ⟨i, l⟩ := r
  simp only at HT B0 Z1 Z2 hle hn
  generalize vals l = xs at *
  generalize l.length = m at *
  clear h hx
  go_enter Tryd.func60, Tryd.ntmps60
  go_wp2_with fail
  refine HT.out.mono ?_
  rintro e w1 ⟨v, rfl, o1, b1⟩
  have B1 := below_then B0 b1 B0.size
  obtain ⟨⟨p0, p1⟩, p2, p3⟩ := Z1.below b1
  obtain ⟨⟨q0, q1⟩, q2, q3⟩ := Z2.below b1
  have O1 := Lib.hid o1
  obtain ⟨g, cp, rfl⟩ : ∃ g cp, v = .slice (some ⟨g, 0, none⟩) m cp := by
    obtain ⟨g, cp, e, _⟩ := o1
    exact ⟨g, cp, e⟩
  clear Z1 Z2 b1 B0 HT o1
  go_wp2
  refine bodyPost_ret (v := .agg #[.int .i64 i, .slice (some ⟨g, 0, none⟩) m cp]) (by simp [results, Tryd.results60, go_sem, *]) rfl ⟨_, rfl, ?_, ?_⟩
  · have := ((O1.out.setBelow (a := ⟨w.heap.size + 1 + 1, 1, none⟩) (by simp) (.slice (some ⟨g, 0, none⟩) m cp)).setBelow (a := ⟨w.heap.size + 1, 0, none⟩) (by simp) (.int .i64 i)).setBelow (a := ⟨w.heap.size + 1, 1, none⟩) (by simp) (.slice (some ⟨g, 0, none⟩) m cp)
    simp only [World.size_alloc] at this
    exact (this.lower (by omega)).wide (by simp)
  · exact ((B1.setCell (by simp; omega) _).setCell (by simp) _).setCell (by simp) _

theorem eqRow (r : R) (u v : Value) (w : World) (hu : r.rd w u) (hv : r.rd w v) :
    Calls Tryd.prog 76 #[r.agg u, r.agg v] w fun e w' => e = .returned (.bool true) ∧ Below w.heap.size w w' := by
  have B0 := below_alloc2 w (.cells #[.int .i64 r.id, u] 91) (.cells #[.int .i64 r.id, v] 91)
  have HT := Lib.hid (eqValR u v r.l.length r.l _ rfl (hu.below B0) (hv.below B0))
  obtain ⟨a1, c1, rfl, _, _⟩ := hu
  obtain ⟨a2, c2, rfl, _, _⟩ := hv
  obtain ⟨i, l⟩ := r
  simp only at HT B0
  have hne : (i != i) = false := by simp
  generalize l.length = m at *
  go_enter Tryd.func76, Tryd.ntmps76
  go_wp2_with fail
  refine HT.out.mono ?_
  rintro e w1 ⟨rfl, b1⟩
  have B1 := below_then B0 b1 B0.size
  clear b1
  go_wp2
  go_ret
  exact ⟨rfl, B1⟩

end Go.Proofs.YtkofafefnlommaaDoor

/- Two Vals are equal where the machine says so. -/
namespace Go.Proofs.YtkofafefnlommaaDoor
open Go.RowKit

theorem eqB_true {x y : V} : x.eqB y = true ↔ x = y := by
  obtain ⟨t1, n1, s1⟩ := x
  obtain ⟨t2, n2, s2⟩ := y
  simp only [V.eqB, Bool.and_eq_true, beq_iff_eq, V.mk.injEq]
  constructor
  · rintro ⟨h1, h2, h3⟩
    refine ⟨h1, h2, ?_⟩
    rw [ByteArray.toList_eq, ByteArray.toList_eq] at h3
    apply ByteArray.ext
    exact Array.toList_inj.1 h3
  · rintro ⟨rfl, rfl, rfl⟩
    exact ⟨rfl, rfl, rfl⟩
theorem eqB_false {x y : V} : x.eqB y = false ↔ x ≠ y := by
  constructor
  · intro h e
    rw [eqB_true.2 e] at h
    cases h
  · intro h
    cases hb : x.eqB y with
    | false => rfl
    | true => exact absurd (eqB_true.1 hb) h

end Go.Proofs.YtkofafefnlommaaDoor

/- Plain mathematics of chapter 7: the order of Vals, the dictionary of a list, the places of values. -/
namespace Go.Proofs.YtkofafefnlommaaDoor
open Go.RowKit

theorem getDe {α : Type} (l : List α) (d : α) {i : Nat} (h : i < l.length) : l.getD i d = l[i] := by simp [h]
theorem bl_irrefl : ∀ x : List UInt8, Op.bytesLess x x = false
  | [] => rfl
  | a :: x => by simp [Op.bytesLess, bl_irrefl x]
theorem bl_trans : ∀ x y z : List UInt8, Op.bytesLess x y = true → Op.bytesLess y z = true → Op.bytesLess x z = true
  | _, _, [], _, h => by simp [Op.bytesLess] at h
  | [], _, _ :: _, _, _ => rfl
  | _ :: _, [], _ :: _, h, _ => by simp [Op.bytesLess] at h
  | a :: x, b :: y, c :: z, h, k => by
    simp only [Op.bytesLess, Bool.or_eq_true, decide_eq_true_eq, Bool.and_eq_true, beq_iff_eq] at h k ⊢
    rcases h with h | ⟨rfl, h⟩
    · rcases k with k | ⟨rfl, k⟩
      · exact .inl (UInt8.lt_trans h k)
      · exact .inl h
    · rcases k with k | ⟨rfl, k⟩
      · exact .inl k
      · exact .inr ⟨rfl, bl_trans x y z h k⟩
theorem bl_tri : ∀ x y : List UInt8, Op.bytesLess x y = false → Op.bytesLess y x = false → x = y
  | [], [], _, _ => rfl
  | [], _ :: _, h, _ => by simp [Op.bytesLess] at h
  | _ :: _, [], _, h => by simp [Op.bytesLess] at h
  | a :: x, b :: y, h, k => by
    simp only [Op.bytesLess, Bool.or_eq_false_iff, decide_eq_false_iff_not, Bool.and_eq_false_iff, beq_eq_false_iff_ne] at h k
    have e : a = b := UInt8.le_antisymm (UInt8.not_lt.1 k.1) (UInt8.not_lt.1 h.1)
    subst e
    rw [bl_tri x y (h.2.resolve_left (fun f => f rfl)) (k.2.resolve_left (fun f => f rfl))]

theorem lessV_iff (a b : V) : lessV a b = true ↔ a.ty < b.ty ∨ (a.ty = b.ty ∧ (a.n < b.n ∨ (a.n = b.n ∧ Op.bytesLess a.s.toList b.s.toList = true))) := by
  unfold lessV
  by_cases h1 : a.ty = b.ty
  · by_cases h2 : a.n = b.n
    · simp [h1, h2]
    · simp [h1, h2]
  · simp [h1]
theorem lessV_irrefl (a : V) : lessV a a = false := by
  cases h : lessV a a with
  | false => rfl
  | true =>
    rw [lessV_iff, bl_irrefl] at h
    rcases h with h | ⟨_, h | ⟨_, h⟩⟩
    · omega
    · omega
    · cases h
theorem lessV_trans {a b c : V} (h : lessV a b = true) (k : lessV b c = true) : lessV a c = true := by
  rw [lessV_iff] at h k ⊢
  rcases h with h | ⟨h1, h | ⟨h2, h⟩⟩
  · rcases k with k | ⟨k1, k⟩
    · exact .inl (by omega)
    · exact .inl (by omega)
  · rcases k with k | ⟨k1, k | ⟨k2, k⟩⟩
    · exact .inl (by omega)
    · exact .inr ⟨by omega, .inl (by omega)⟩
    · exact .inr ⟨by omega, .inl (by omega)⟩
  · rcases k with k | ⟨k1, k | ⟨k2, k⟩⟩
    · exact .inl (by omega)
    · exact .inr ⟨by omega, .inl (by omega)⟩
    · exact .inr ⟨by omega, .inr ⟨by omega, bl_trans _ _ _ h k⟩⟩
theorem lessV_tri {a b : V} (h : lessV a b = false) (k : lessV b a = false) : a = b := by
  have h' : ¬ lessV a b = true := by rw [h]; simp
  have k' : ¬ lessV b a = true := by rw [k]; simp
  rw [lessV_iff] at h' k'
  have e1 : a.ty = b.ty := by omega
  have e2 : a.n = b.n := by
    have p1 : ¬ a.n < b.n := fun f => h' (.inr ⟨e1, .inl f⟩)
    have p2 : ¬ b.n < a.n := fun f => k' (.inr ⟨e1.symm, .inl f⟩)
    omega
  have b1 : Op.bytesLess a.s.toList b.s.toList = false := by
    cases hb : Op.bytesLess a.s.toList b.s.toList with
    | false => rfl
    | true => exact absurd (.inr ⟨e1, .inr ⟨e2, hb⟩⟩) h'
  have b2 : Op.bytesLess b.s.toList a.s.toList = false := by
    cases hb : Op.bytesLess b.s.toList a.s.toList with
    | false => rfl
    | true => exact absurd (.inr ⟨e1.symm, .inr ⟨e2.symm, hb⟩⟩) k'
  have e3 := bl_tri _ _ b1 b2
  obtain ⟨t1, n1, s1⟩ := a
  obtain ⟨t2, n2, s2⟩ := b
  simp only at e1 e2 e3
  subst e1 e2
  rw [ByteArray.toList_eq, ByteArray.toList_eq] at e3
  rw [ByteArray.ext (Array.toList_inj.1 e3)]
theorem lessV_asymm {a b : V} (h : lessV a b = true) : lessV b a = false := by
  cases k : lessV b a with
  | false => rfl
  | true =>
    have := lessV_trans h k
    rw [lessV_irrefl] at this
    cases this
theorem lessV_ntrans {a b c : V} (h : lessV a b = false) (k : lessV b c = false) : lessV a c = false := by
  cases hc : lessV a c with
  | false => rfl
  | true =>
    cases h2 : lessV b a with
    | true => rw [lessV_trans h2 hc] at k; cases k
    | false =>
      rw [lessV_tri h h2] at hc
      rw [hc] at k
      cases k

/-- Ascending, and no two alike. -/
def Asc (d : List V) : Prop := d.Pairwise fun a b => lessV a b = true
theorem asc_unique : ∀ {a b : List V}, Asc a → Asc b → (∀ x, x ∈ a ↔ x ∈ b) → a = b
  | [], [], _, _, _ => rfl
  | [], y :: b, _, _, h => by have := (h y).2 List.mem_cons_self; cases this
  | x :: a, [], _, _, h => by have := (h x).1 List.mem_cons_self; cases this
  | x :: a, y :: b, ha, hb, h => by
    obtain ⟨ha1, ha2⟩ := List.pairwise_cons.1 ha
    obtain ⟨hb1, hb2⟩ := List.pairwise_cons.1 hb
    have e : x = y := by
      rcases List.mem_cons.1 ((h x).1 List.mem_cons_self) with e | e
      · exact e
      · rcases List.mem_cons.1 ((h y).2 List.mem_cons_self) with e' | e'
        · exact e'.symm
        · have := lessV_asymm (hb1 x e)
          rw [ha1 y e'] at this
          cases this
    subst e
    rw [asc_unique ha2 hb2 (fun z => ?_)]
    constructor
    · intro hz
      rcases List.mem_cons.1 ((h z).1 (List.mem_cons_of_mem _ hz)) with e | e
      · subst e
        have := ha1 z hz
        rw [lessV_irrefl] at this
        cases this
      · exact e
    · intro hz
      rcases List.mem_cons.1 ((h z).2 (List.mem_cons_of_mem _ hz)) with e | e
      · subst e
        have := hb1 z hz
        rw [lessV_irrefl] at this
        cases this
      · exact e

/-- Where v belongs in d. -/
def cutV : List V → V → Nat
  | [], _ => 0
  | x :: r, v => if lessV x v = true then cutV r v + 1 else 0
theorem cutV_le : ∀ (d : List V) (v : V), cutV d v ≤ d.length
  | [], _ => Nat.le_refl _
  | x :: r, v => by
    unfold cutV
    split
    · have := cutV_le r v
      simp only [List.length_cons]
      omega
    · exact Nat.zero_le _
theorem cutV_step : ∀ {d : List V} {v : V} {j : Nat}, j ≤ cutV d v → j < d.length → lessV (d.getD j V.zero) v = true → j + 1 ≤ cutV d v
  | [], _, j, _, h, _ => by simp at h
  | x :: r, v, 0, _, _, h => by
    have h' : lessV x v = true := h
    unfold cutV
    rw [if_pos h']
    omega
  | x :: r, v, j + 1, h1, h2, h3 => by
    unfold cutV at h1 ⊢
    split
    · rename_i hx
      rw [if_pos hx] at h1
      have := cutV_step (d := r) (v := v) (j := j) (by omega) (by simpa using h2) (by simpa using h3)
      omega
    · rename_i hx
      rw [if_neg hx] at h1
      omega
theorem cutV_stop : ∀ {d : List V} {v : V} {j : Nat}, j ≤ cutV d v → (j = d.length ∨ lessV (d.getD j V.zero) v = false) → j = cutV d v
  | [], _, j, h, _ => by simp only [cutV] at h ⊢; omega
  | x :: r, v, 0, _, h => by
    have h' : ¬ lessV x v = true := by
      rcases h with h | h
      · simp at h
      · rw [show (x :: r).getD 0 V.zero = x from rfl] at h
        rw [h]
        simp
    unfold cutV
    rw [if_neg h']
  | x :: r, v, j + 1, h1, h2 => by
    unfold cutV at h1 ⊢
    split
    · rename_i hx
      rw [if_pos hx] at h1
      rw [← cutV_stop (d := r) (v := v) (j := j) (by omega) (h2.imp (fun h => by simpa using h) (fun h => by simpa using h))]
    · rename_i hx
      rw [if_neg hx] at h1
      omega

/-- A value laid into a dictionary. -/
def insV : List V → V → List V
  | [], v => [v]
  | x :: r, v => if lessV x v = true then x :: insV r v else if x.eqB v = true then x :: r else v :: x :: r
theorem insV_new : ∀ {d : List V} {v : V}, (cutV d v = d.length ∨ (d.getD (cutV d v) V.zero).eqB v = false) → insV d v = (d.take (cutV d v) ++ [v]) ++ d.drop (cutV d v)
  | [], v, _ => rfl
  | x :: r, v, h => by
    unfold insV
    by_cases hx : lessV x v = true
    · have hc : cutV (x :: r) v = cutV r v + 1 := by rw [cutV, if_pos hx]
      rw [hc] at h ⊢
      rw [if_pos hx, insV_new (h.imp (fun h => by simpa using h) (fun h => by simpa using h))]
      simp
    · have hc : cutV (x :: r) v = 0 := by rw [cutV, if_neg hx]
      rw [hc] at h ⊢
      have he : x.eqB v = false := by
        rcases h with h | h
        · simp at h
        · exact h
      rw [if_neg hx, he]
      rfl
theorem insV_old : ∀ {d : List V} {v : V}, cutV d v < d.length → (d.getD (cutV d v) V.zero).eqB v = true → insV d v = d
  | [], _, h, _ => by simp at h
  | x :: r, v, h1, h2 => by
    unfold insV
    by_cases hx : lessV x v = true
    · have hc : cutV (x :: r) v = cutV r v + 1 := by rw [cutV, if_pos hx]
      rw [hc] at h1 h2
      rw [if_pos hx, insV_old (by simpa using h1) (by simpa using h2)]
    · have hc : cutV (x :: r) v = 0 := by rw [cutV, if_neg hx]
      rw [hc] at h2
      have he : x.eqB v = true := h2
      rw [if_neg hx, if_pos he]
theorem mem_ins : ∀ {d : List V} {v x : V}, x ∈ insV d v ↔ x ∈ d ∨ x = v
  | [], v, x => by simp [insV]
  | y :: r, v, x => by
    unfold insV
    split
    · rw [List.mem_cons, mem_ins (d := r), List.mem_cons, or_assoc]
    · split
      · rename_i he
        have he' := eqB_true.1 he
        subst he'
        constructor
        · exact .inl
        · rintro (h | rfl)
          · exact h
          · exact List.mem_cons_self
      · simp only [List.mem_cons]
        constructor
        · rintro (h | h | h)
          · exact .inr h
          · exact .inl (.inl h)
          · exact .inl (.inr h)
        · rintro ((h | h) | h)
          · exact .inr (.inl h)
          · exact .inr (.inr h)
          · exact .inl h
theorem asc_ins : ∀ {d : List V} {v : V}, Asc d → Asc (insV d v)
  | [], v, _ => List.pairwise_singleton _ _
  | x :: r, v, h => by
    obtain ⟨h1, h2⟩ := List.pairwise_cons.1 h
    unfold insV
    split
    · rename_i hx
      refine List.pairwise_cons.2 ⟨fun y hy => ?_, asc_ins h2⟩
      rcases mem_ins.1 hy with hy | rfl
      · exact h1 y hy
      · exact hx
    · rename_i hx
      split
      · exact h
      · rename_i he
        have hxv : lessV v x = true := by
          cases k : lessV v x with
          | true => rfl
          | false => exact absurd (eqB_true.2 (lessV_tri (by simpa using hx) k)) he
        refine List.pairwise_cons.2 ⟨fun y hy => ?_, h⟩
        rcases List.mem_cons.1 hy with rfl | hy
        · exact hxv
        · exact lessV_trans hxv (h1 y hy)
theorem ins_len (d : List V) (v : V) : (insV d v).length ≤ d.length + 1 := by
  induction d with
  | nil => simp [insV]
  | cons x r ih =>
    unfold insV
    split
    · simp only [List.length_cons]; omega
    · split <;> simp

/-- Dict. -/
def dictL (l : List V) : List V := l.foldl insV []
theorem dict_snoc (l : List V) (v : V) : dictL (l ++ [v]) = insV (dictL l) v := by simp [dictL]
theorem dict_fold : ∀ (l d : List V), Asc d → Asc (l.foldl insV d) ∧ (∀ x, x ∈ l.foldl insV d ↔ x ∈ d ∨ x ∈ l) ∧ (l.foldl insV d).length ≤ d.length + l.length
  | [], d, h => ⟨h, by simp, by simp⟩
  | v :: l, d, h => by
    obtain ⟨h1, h2, h3⟩ := dict_fold l (insV d v) (asc_ins h)
    refine ⟨h1, fun x => ?_, ?_⟩
    · rw [List.foldl_cons, h2, mem_ins, List.mem_cons, or_assoc]
    · have := ins_len d v
      simp only [List.foldl_cons, List.length_cons]
      omega
theorem asc_dict (l : List V) : Asc (dictL l) := (dict_fold l [] List.Pairwise.nil).1
theorem mem_dict {l : List V} {x : V} : x ∈ dictL l ↔ x ∈ l := by
  have := (dict_fold l [] List.Pairwise.nil).2.1 x
  simpa [dictL] using this
theorem dict_len (l : List V) : (dictL l).length ≤ l.length := by
  have := (dict_fold l [] List.Pairwise.nil).2.2
  simpa [dictL] using this

/-- What is left of the first j elements when each that equals the one ahead of it goes. -/
def compK (l : List V) : Nat → List V
  | 0 => []
  | j + 1 => if j = 0 ∨ (l.getD j V.zero).eqB (l.getD (j - 1) V.zero) = false then compK l j ++ [l.getD j V.zero] else compK l j
theorem compK_len (l : List V) (j : Nat) : (compK l j).length ≤ j := by
  induction j with
  | zero => exact Nat.le_refl _
  | succ j ih =>
    unfold compK
    split
    · simp; omega
    · omega
theorem compK_pos (l : List V) {j : Nat} (h : 0 < j) : 0 < (compK l j).length := by
  induction j with
  | zero => omega
  | succ j ih =>
    unfold compK
    split
    · simp
    · rename_i hn
      have : j ≠ 0 := fun e => hn (.inl e)
      exact ih (by omega)
theorem compK_mem (l : List V) {j : Nat} (hj : j ≤ l.length) (x : V) : x ∈ compK l j ↔ ∃ i, i < j ∧ l.getD i V.zero = x := by
  induction j with
  | zero => simp [compK]
  | succ j ih =>
    have ih := ih (by omega)
    unfold compK
    split
    · rw [List.mem_append, ih, List.mem_singleton]
      constructor
      · rintro (⟨i, hi, e⟩ | e)
        · exact ⟨i, by omega, e⟩
        · exact ⟨j, by omega, e.symm⟩
      · rintro ⟨i, hi, e⟩
        by_cases hij : i = j
        · subst hij; exact .inr e.symm
        · exact .inl ⟨i, by omega, e⟩
    · rename_i hn
      have hj0 : j ≠ 0 := fun e => hn (.inl e)
      have he : (l.getD j V.zero).eqB (l.getD (j - 1) V.zero) = true := by
        cases hb : (l.getD j V.zero).eqB (l.getD (j - 1) V.zero) with
        | true => rfl
        | false => exact absurd (.inr hb) hn
      have he' := eqB_true.1 he
      rw [ih]
      constructor
      · rintro ⟨i, hi, e⟩
        exact ⟨i, by omega, e⟩
      · rintro ⟨i, hi, e⟩
        by_cases hij : i = j
        · subst hij; exact ⟨i - 1, by omega, he'.symm.trans e⟩
        · exact ⟨i, by omega, e⟩
/-- No later one is less than an earlier one. -/
def Rising (l : List V) : Prop := ∀ i j, i < j → j < l.length → lessV (l.getD j V.zero) (l.getD i V.zero) = false
theorem compK_asc {l : List V} (h : Rising l) : ∀ {j : Nat}, j ≤ l.length → Asc (compK l j)
  | 0, _ => List.Pairwise.nil
  | j + 1, hj => by
    have ih := compK_asc h (j := j) (by omega)
    unfold compK
    split
    · rename_i hc
      refine List.pairwise_append.2 ⟨ih, List.pairwise_singleton _ _, fun x hx y hy => ?_⟩
      rw [List.mem_singleton.1 hy]
      obtain ⟨i, hi, rfl⟩ := (compK_mem l (by omega) x).1 hx
      have hne : (l.getD j V.zero).eqB (l.getD (j - 1) V.zero) = false := by
        rcases hc with hc | hc
        · omega
        · exact hc
      cases k : lessV (l.getD i V.zero) (l.getD j V.zero) with
      | true => rfl
      | false =>
        exfalso
        have e1 := lessV_tri k (h i j hi (by omega))
        apply eqB_false.1 hne
        by_cases hij : i = j - 1
        · rw [← hij]; exact e1.symm
        · have k1 := h (j - 1) j (by omega) (by omega)
          have k2 := h i (j - 1) (by omega) (by omega)
          rw [e1] at k2
          exact lessV_tri k1 k2
    · exact ih
/-- The values of l, sorted, with each that equals the one ahead of it gone: the dictionary. -/
theorem comp_dict {l s : List V} (hp : s.Perm l) (h : Rising s) : compK s s.length = dictL l := by
  refine asc_unique (compK_asc h (Nat.le_refl _)) (asc_dict l) (fun x => ?_)
  rw [compK_mem s (Nat.le_refl _), mem_dict, ← hp.mem_iff]
  constructor
  · rintro ⟨i, hi, rfl⟩
    rw [getDe _ _ hi]
    exact List.getElem_mem hi
  · intro hx
    obtain ⟨i, hi, e⟩ := List.getElem_of_mem hx
    exact ⟨i, hi, by rw [getDe _ _ hi, e]⟩
theorem compK_all {l : List V} : ∀ {j : Nat}, j ≤ l.length → (∀ i, 0 < i → i < j → (l.getD i V.zero).eqB (l.getD (i - 1) V.zero) = false) → compK l j = l.take j
  | 0, _, _ => rfl
  | j + 1, hj, h => by
    have ih := compK_all (l := l) (j := j) (by omega) (fun i h0 h1 => h i h0 (by omega))
    have hlt : j < l.length := by omega
    rw [compK, if_pos, ih, List.take_succ_eq_append_getElem hlt, getDe _ _ hlt]
    by_cases h0 : j = 0
    · exact .inl h0
    · exact .inr (h j (by omega) (by omega))

/-- InDict. -/
def inD : List V → V → Option Nat
  | [], _ => none
  | x :: r, v => if x.eqB v = true then some 0 else (inD r v).map (· + 1)
def inI (d : List V) (v : V) : Int := match inD d v with | some i => i | none => -1
theorem inD_some : ∀ {d : List V} {v : V} {i : Nat}, inD d v = some i → i < d.length ∧ d.getD i V.zero = v ∧ ∀ j, j < i → (d.getD j V.zero).eqB v = false
  | [], v, i, h => by simp [inD] at h
  | x :: r, v, i, h => by
    unfold inD at h
    split at h
    · rename_i he
      cases h
      exact ⟨by simp, eqB_true.1 he, fun j hj => by omega⟩
    · rename_i he
      obtain ⟨k, hk, rfl⟩ := Option.map_eq_some_iff.1 h
      obtain ⟨h1, h2, h3⟩ := inD_some hk
      refine ⟨by simpa using h1, by simpa using h2, fun j hj => ?_⟩
      cases j with
      | zero => simpa using he
      | succ j => simpa using h3 j (by omega)
theorem inD_none : ∀ {d : List V} {v : V}, inD d v = none ↔ ∀ j, j < d.length → (d.getD j V.zero).eqB v = false
  | [], v => by simp [inD]
  | x :: r, v => by
    unfold inD
    split
    · rename_i he
      constructor
      · intro h; cases h
      · intro h
        have := h 0 (by simp)
        rw [show (x :: r).getD 0 V.zero = x from rfl, he] at this
        cases this
    · rename_i he
      rw [Option.map_eq_none_iff, inD_none]
      constructor
      · intro h j hj
        cases j with
        | zero => simpa using he
        | succ j => simpa using h j (by simpa using hj)
      · intro h j hj
        have := h (j + 1) (by simpa using hj)
        simpa using this
theorem inD_first {d : List V} {v : V} {i : Nat} (h1 : i < d.length) (h2 : (d.getD i V.zero).eqB v = true) (h3 : ∀ j, j < i → (d.getD j V.zero).eqB v = false) : inD d v = some i := by
  cases h : inD d v with
  | none => rw [inD_none.1 h i h1] at h2; cases h2
  | some k =>
    obtain ⟨k1, k2, k3⟩ := inD_some h
    by_cases hik : i < k
    · rw [k3 i hik] at h2; cases h2
    · by_cases hki : k < i
      · have := h3 k hki
        rw [k2] at this
        rw [eqB_true.2 rfl] at this
        cases this
      · rw [show k = i by omega]
theorem inD_mem {d : List V} {v : V} (h : v ∈ d) : ∃ i, inD d v = some i := by
  cases e : inD d v with
  | some i => exact ⟨i, rfl⟩
  | none =>
    obtain ⟨i, hi, he⟩ := List.getElem_of_mem h
    have := inD_none.1 e i hi
    rw [getDe _ _ hi, he, eqB_true.2 rfl] at this
    cases this

/-- Places. -/
def placesL (d l : List V) : List Int × Bool := if l.all (fun v => (inD d v).isSome) = true then (l.map (inI d), true) else ([], false)
/-- Picked. -/
def pickB (d : List V) (x : Int) : Bool := decide (0 ≤ x ∧ x < (d.length : Int))
def pickedL (d : List V) (p : List Int) : List V × Bool := if p.all (pickB d) = true then (p.map (fun x => d.getD x.toNat V.zero), true) else ([], false)
theorem places_len (d l : List V) : (placesL d l).1.length ≤ l.length := by
  unfold placesL
  split <;> simp
theorem picked_len (d : List V) (p : List Int) : (pickedL d p).1.length ≤ p.length := by
  unfold pickedL
  split <;> simp
theorem places_no {d l : List V} {k : Nat} (hk : k < l.length) (h : inD d (l.getD k V.zero) = none) : placesL d l = ([], false) := by
  refine if_neg fun ha => ?_
  have := List.all_eq_true.1 ha l[k] (List.getElem_mem hk)
  rw [getDe _ _ hk] at h
  rw [h] at this
  cases this
theorem places_yes {d l : List V} (h : ∀ k, k < l.length → (inD d (l.getD k V.zero)).isSome = true) : placesL d l = (l.map (inI d), true) := by
  refine if_pos (List.all_eq_true.2 fun v hv => ?_)
  obtain ⟨i, hi, rfl⟩ := List.getElem_of_mem hv
  have := h i hi
  rwa [getDe _ _ hi] at this
theorem picked_no {d : List V} {p : List Int} {k : Nat} (hk : k < p.length) (h : pickB d (p.getD k 0) = false) : pickedL d p = ([], false) := by
  refine if_neg fun ha => ?_
  have := List.all_eq_true.1 ha p[k] (List.getElem_mem hk)
  rw [getDe _ _ hk] at h
  rw [h] at this
  cases this
theorem picked_yes {d : List V} {p : List Int} (h : ∀ k, k < p.length → pickB d (p.getD k 0) = true) : pickedL d p = (p.map (fun x => d.getD x.toNat V.zero), true) := by
  refine if_pos (List.all_eq_true.2 fun v hv => ?_)
  obtain ⟨i, hi, rfl⟩ := List.getElem_of_mem hv
  have := h i hi
  rwa [getDe _ _ hi] at this
theorem places_mem {d l : List V} (h : ∀ v ∈ l, v ∈ d) : placesL d l = (l.map (inI d), true) :=
  places_yes fun k hk => by
    obtain ⟨i, hi⟩ := inD_mem (h (l.getD k V.zero) (by rw [getDe _ _ hk]; exact List.getElem_mem hk))
    rw [hi]
    rfl
theorem inI_some {d : List V} {v : V} {i : Nat} (h : inD d v = some i) : inI d v = i := by unfold inI; rw [h]
theorem inI_none {d : List V} {v : V} (h : inD d v = none) : inI d v = -1 := by unfold inI; rw [h]
/-- What is picked at the places of l is l. -/
theorem picked_places {d l : List V} (h : ∀ v ∈ l, v ∈ d) : pickedL d (l.map (inI d)) = (l, true) := by
  have key : ∀ v ∈ l, ∃ i, inI d v = (i : Nat) ∧ i < d.length ∧ d.getD i V.zero = v := fun v hv => by
    obtain ⟨i, hi⟩ := inD_mem (h v hv)
    exact ⟨i, inI_some hi, (inD_some hi).1, (inD_some hi).2.1⟩
  unfold pickedL
  rw [if_pos]
  · refine Prod.ext ?_ rfl
    show (l.map (inI d)).map _ = l
    rw [List.map_map]
    conv => rhs; rw [← List.map_id l]
    refine List.map_congr_left fun v hv => ?_
    obtain ⟨i, h1, h2, h3⟩ := key v hv
    show d.getD (inI d v).toNat V.zero = v
    rw [h1, Int.toNat_natCast, h3]
  · refine List.all_eq_true.2 fun x hx => ?_
    obtain ⟨v, hv, rfl⟩ := List.mem_map.1 hx
    obtain ⟨i, h1, h2, h3⟩ := key v hv
    rw [h1]
    exact decide_eq_true ⟨by omega, by omega⟩

end Go.Proofs.YtkofafefnlommaaDoor

/- Zones: what they are, and the laws' own helpers over one Zone; == on Zones and on arrays of two Vals. -/
namespace Go.Proofs.YtkofafefnlommaaDoor
open Go.RowKit

/-- A Zone: the least value and the greatest. -/
structure Zn where
  lo : V
  hi : V
abbrev Zn.agg (z : Zn) : Value := .agg #[.int .i64 z.lo.ty, .int .i64 z.lo.n, .string z.lo.s, .int .i64 z.hi.ty, .int .i64 z.hi.n, .string z.hi.s]
def Zn.cs (z : Zn) : List Value := [.int .i64 z.lo.ty, .int .i64 z.lo.n, .string z.lo.s, .int .i64 z.hi.ty, .int .i64 z.hi.n, .string z.hi.s]
def Zn.zero : Zn := ⟨V.zero, V.zero⟩

/-- Six cells that read as a Zone. -/
def Cells6 (W : World) (b : Nat) (z : Zn) : Prop := W.cell? ⟨b, 0, none⟩ = some (.int .i64 z.lo.ty) ∧ W.cell? ⟨b, 1, none⟩ = some (.int .i64 z.lo.n) ∧ W.cell? ⟨b, 2, none⟩ = some (.string z.lo.s) ∧ W.cell? ⟨b, 3, none⟩ = some (.int .i64 z.hi.ty) ∧ W.cell? ⟨b, 4, none⟩ = some (.int .i64 z.hi.n) ∧ W.cell? ⟨b, 5, none⟩ = some (.string z.hi.s)
/-- Six cells of a block that may be written. -/
def Six (W : World) (b : Nat) (z : Zn) : Prop := Cells6 W b z ∧ W.frozen? ⟨b, 0, none⟩ = false ∧ W.frozen? ⟨b, 1, none⟩ = false ∧ W.frozen? ⟨b, 2, none⟩ = false ∧ W.frozen? ⟨b, 3, none⟩ = false ∧ W.frozen? ⟨b, 4, none⟩ = false ∧ W.frozen? ⟨b, 5, none⟩ = false
theorem Six.below {W W' : World} {b : Nat} {z : Zn} (h : Six W b z) (hb : Below W.heap.size W W') : Six W' b z := by
  have hlt := lt_of_cell h.1.1
  exact ⟨⟨(hb.cell (p := ⟨b, 0, none⟩) hlt).trans h.1.1, (hb.cell (p := ⟨b, 1, none⟩) hlt).trans h.1.2.1, (hb.cell (p := ⟨b, 2, none⟩) hlt).trans h.1.2.2.1, (hb.cell (p := ⟨b, 3, none⟩) hlt).trans h.1.2.2.2.1, (hb.cell (p := ⟨b, 4, none⟩) hlt).trans h.1.2.2.2.2.1, (hb.cell (p := ⟨b, 5, none⟩) hlt).trans h.1.2.2.2.2.2⟩, (hb.frozen (p := ⟨b, 0, none⟩) hlt).trans h.2.1, (hb.frozen (p := ⟨b, 1, none⟩) hlt).trans h.2.2.1, (hb.frozen (p := ⟨b, 2, none⟩) hlt).trans h.2.2.2.1, (hb.frozen (p := ⟨b, 3, none⟩) hlt).trans h.2.2.2.2.1, (hb.frozen (p := ⟨b, 4, none⟩) hlt).trans h.2.2.2.2.2.1, (hb.frozen (p := ⟨b, 5, none⟩) hlt).trans h.2.2.2.2.2.2⟩
theorem Cells6.below {W W' : World} {b : Nat} {z : Zn} (h : Cells6 W b z) (hb : Below W.heap.size W W') : Cells6 W' b z := by
  have hlt := lt_of_cell h.1
  exact ⟨(hb.cell (p := ⟨b, 0, none⟩) hlt).trans h.1, (hb.cell (p := ⟨b, 1, none⟩) hlt).trans h.2.1, (hb.cell (p := ⟨b, 2, none⟩) hlt).trans h.2.2.1, (hb.cell (p := ⟨b, 3, none⟩) hlt).trans h.2.2.2.1, (hb.cell (p := ⟨b, 4, none⟩) hlt).trans h.2.2.2.2.1, (hb.cell (p := ⟨b, 5, none⟩) hlt).trans h.2.2.2.2.2⟩
theorem six_new (w : World) (z : Zn) (e : TypeId) : Six (w.alloc (.cells #[.int .i64 z.lo.ty, .int .i64 z.lo.n, .string z.lo.s, .int .i64 z.hi.ty, .int .i64 z.hi.n, .string z.hi.s] e)) w.heap.size z :=
  ⟨⟨by simp, by simp, by simp, by simp, by simp, by simp⟩, by simp, by simp, by simp, by simp, by simp, by simp⟩

/-- What szZone leaves. -/
def szZ (z : Zn) (left : Int) : Int := if szV z.lo left < 0 then -1 else if szV z.hi (szV z.lo left) < 0 then -1 else szV z.hi (szV z.lo left)
theorem szV_le {v : V} {left : Int} (h : 0 ≤ left) : szV v left ≤ left := by
  unfold szV
  split <;> omega
theorem szZ_le {z : Zn} {left : Int} (h : 0 ≤ left) : szZ z left ≤ left := by
  unfold szZ
  split
  · omega
  · split
    · omega
    · rename_i h1 _
      have := szV_le (v := z.hi) (left := szV z.lo left) (by omega)
      have := szV_le (v := z.lo) h
      omega

/-- Three cells of a Zone, stored anew: the first (k = 0) or the second (k = 3). -/
theorem Six.other {W : World} {b : Nat} {z : Zn} (h : Six W b z) {p : Addr} (hp : p.block ≠ b) (u : Value) : Six (W.setCell p u) b z := by
  have hne : ∀ o, p ≠ ⟨b, o, none⟩ := fun o e => hp (by rw [e])
  refine ⟨⟨?_, ?_, ?_, ?_, ?_, ?_⟩, ?_, ?_, ?_, ?_, ?_, ?_⟩
  · rw [World.cell?_setCell_other _ _ _ _ (hne 0)]; exact h.1.1
  · rw [World.cell?_setCell_other _ _ _ _ (hne 1)]; exact h.1.2.1
  · rw [World.cell?_setCell_other _ _ _ _ (hne 2)]; exact h.1.2.2.1
  · rw [World.cell?_setCell_other _ _ _ _ (hne 3)]; exact h.1.2.2.2.1
  · rw [World.cell?_setCell_other _ _ _ _ (hne 4)]; exact h.1.2.2.2.2.1
  · rw [World.cell?_setCell_other _ _ _ _ (hne 5)]; exact h.1.2.2.2.2.2
  · rw [World.frozen?_setCell]; exact h.2.1
  · rw [World.frozen?_setCell]; exact h.2.2.1
  · rw [World.frozen?_setCell]; exact h.2.2.2.1
  · rw [World.frozen?_setCell]; exact h.2.2.2.2.1
  · rw [World.frozen?_setCell]; exact h.2.2.2.2.2.1
  · rw [World.frozen?_setCell]; exact h.2.2.2.2.2.2
theorem Six.setLo {W : World} {b : Nat} {z : Zn} (h : Six W b z) (v : V) : Six (((W.setCell ⟨b, 0, none⟩ (.int .i64 v.ty)).setCell ⟨b, 1, none⟩ (.int .i64 v.n)).setCell ⟨b, 2, none⟩ (.string v.s)) b ⟨v, z.hi⟩ := by
  refine ⟨⟨?_, ?_, ?_, ?_, ?_, ?_⟩, ?_, ?_, ?_, ?_, ?_, ?_⟩
  · rw [World.cell?_setCell_other _ _ _ _ (by simp)]; rw [World.cell?_setCell_other _ _ _ _ (by simp)]; exact World.cell?_setCell_same _ _ _ h.1.1
  · rw [World.cell?_setCell_other _ _ _ _ (by simp)]; exact World.cell?_setCell_same _ _ _ ((World.cell?_setCell_other _ _ _ _ (by simp)).trans (h.1.2.1))
  · exact World.cell?_setCell_same _ _ _ ((World.cell?_setCell_other _ _ _ _ (by simp)).trans (((World.cell?_setCell_other _ _ _ _ (by simp)).trans (h.1.2.2.1))))
  · rw [World.cell?_setCell_other _ _ _ _ (by simp), World.cell?_setCell_other _ _ _ _ (by simp), World.cell?_setCell_other _ _ _ _ (by simp)]; exact h.1.2.2.2.1
  · rw [World.cell?_setCell_other _ _ _ _ (by simp), World.cell?_setCell_other _ _ _ _ (by simp), World.cell?_setCell_other _ _ _ _ (by simp)]; exact h.1.2.2.2.2.1
  · rw [World.cell?_setCell_other _ _ _ _ (by simp), World.cell?_setCell_other _ _ _ _ (by simp), World.cell?_setCell_other _ _ _ _ (by simp)]; exact h.1.2.2.2.2.2
  · rw [World.frozen?_setCell, World.frozen?_setCell, World.frozen?_setCell]; exact h.2.1
  · rw [World.frozen?_setCell, World.frozen?_setCell, World.frozen?_setCell]; exact h.2.2.1
  · rw [World.frozen?_setCell, World.frozen?_setCell, World.frozen?_setCell]; exact h.2.2.2.1
  · rw [World.frozen?_setCell, World.frozen?_setCell, World.frozen?_setCell]; exact h.2.2.2.2.1
  · rw [World.frozen?_setCell, World.frozen?_setCell, World.frozen?_setCell]; exact h.2.2.2.2.2.1
  · rw [World.frozen?_setCell, World.frozen?_setCell, World.frozen?_setCell]; exact h.2.2.2.2.2.2
theorem Six.setHi {W : World} {b : Nat} {z : Zn} (h : Six W b z) (v : V) : Six (((W.setCell ⟨b, 3, none⟩ (.int .i64 v.ty)).setCell ⟨b, 4, none⟩ (.int .i64 v.n)).setCell ⟨b, 5, none⟩ (.string v.s)) b ⟨z.lo, v⟩ := by
  refine ⟨⟨?_, ?_, ?_, ?_, ?_, ?_⟩, ?_, ?_, ?_, ?_, ?_, ?_⟩
  · rw [World.cell?_setCell_other _ _ _ _ (by simp), World.cell?_setCell_other _ _ _ _ (by simp), World.cell?_setCell_other _ _ _ _ (by simp)]; exact h.1.1
  · rw [World.cell?_setCell_other _ _ _ _ (by simp), World.cell?_setCell_other _ _ _ _ (by simp), World.cell?_setCell_other _ _ _ _ (by simp)]; exact h.1.2.1
  · rw [World.cell?_setCell_other _ _ _ _ (by simp), World.cell?_setCell_other _ _ _ _ (by simp), World.cell?_setCell_other _ _ _ _ (by simp)]; exact h.1.2.2.1
  · rw [World.cell?_setCell_other _ _ _ _ (by simp)]; rw [World.cell?_setCell_other _ _ _ _ (by simp)]; exact World.cell?_setCell_same _ _ _ h.1.2.2.2.1
  · rw [World.cell?_setCell_other _ _ _ _ (by simp)]; exact World.cell?_setCell_same _ _ _ ((World.cell?_setCell_other _ _ _ _ (by simp)).trans (h.1.2.2.2.2.1))
  · exact World.cell?_setCell_same _ _ _ ((World.cell?_setCell_other _ _ _ _ (by simp)).trans (((World.cell?_setCell_other _ _ _ _ (by simp)).trans (h.1.2.2.2.2.2))))
  · rw [World.frozen?_setCell, World.frozen?_setCell, World.frozen?_setCell]; exact h.2.1
  · rw [World.frozen?_setCell, World.frozen?_setCell, World.frozen?_setCell]; exact h.2.2.1
  · rw [World.frozen?_setCell, World.frozen?_setCell, World.frozen?_setCell]; exact h.2.2.2.1
  · rw [World.frozen?_setCell, World.frozen?_setCell, World.frozen?_setCell]; exact h.2.2.2.2.1
  · rw [World.frozen?_setCell, World.frozen?_setCell, World.frozen?_setCell]; exact h.2.2.2.2.2.1
  · rw [World.frozen?_setCell, World.frozen?_setCell, World.frozen?_setCell]; exact h.2.2.2.2.2.2

/-- a == b, of Zones. -/
def Zn.eqB (x y : Zn) : Bool := x.lo.eqB y.lo && x.hi.eqB y.hi
theorem list2 {α : Type} {l : List α} (h : l.length = 2) : ∃ a b, l = [a, b] := by
  match l, h with
  | [a, b], _ => exact ⟨a, b, rfl⟩
theorem run_eq_val_at (d : Nat) (x y : V) (w : World) : (Op.equalIn (d + 2) 29 x.agg y.agg).run Tryd.prog w = .ok (x.eqB y) w := by
  obtain ⟨t1, n1, s1⟩ := x
  obtain ⟨t2, n2, s2⟩ := y
  rw [show V.agg ⟨t1, n1, s1⟩ = .agg #[.int .i64 t1, .int .i64 n1, .string s1] from rfl, show V.agg ⟨t2, n2, s2⟩ = .agg #[.int .i64 t2, .int .i64 n2, .string s2] from rfl]
  rw [run_equalIn_struct w (d + 1) 29 _ _ (by kernel_rfl) (by kernel_rfl)]
  have hf : ((Tryd.prog.fieldsOf 29).toList.map fun f => (f.name, f.type, f.offset)) = [("Ty", 3, 0), ("N", 3, 1), ("S", 9, 2)] := by kernel_rfl
  generalize (Tryd.prog.fieldsOf 29).toList = fs at hf ⊢
  obtain ⟨f0, f1, f2, rfl⟩ := list3 (by simpa using congrArg List.length hf)
  simp only [List.map_cons, List.map_nil, List.cons.injEq, Prod.mk.injEq, and_true] at hf
  obtain ⟨⟨a0, a1, a2⟩, ⟨b0, b1, b2⟩, c0, c1, c2⟩ := hf
  have hp3 : Tryd.prog.plainKey 3 = true := by kernel_rfl
  have hp9 : Tryd.prog.plainKey 9 = true := by kernel_rfl
  have P0 := fun (W : World) (x y z : Value) => run_part_plain (P := Tryd.prog) W hp3 (xs := #[x, y, z]) (off := 0) (v := x) rfl
  have P1 := fun (W : World) (x y z : Value) => run_part_plain (P := Tryd.prog) W hp3 (xs := #[x, y, z]) (off := 1) (v := y) rfl
  have P2 := fun (W : World) (x y z : Value) => run_part_plain (P := Tryd.prog) W hp9 (xs := #[x, y, z]) (off := 2) (v := z) rfl
  have E0 := fun (W : World) (x y : Int) => run_equalIn_int (P := Tryd.prog) W d 3 .i64 .i64 x y Tryd.underlying3
  have E2 := fun (W : World) (x y : ByteArray) => run_equalIn_string (P := Tryd.prog) W d 9 x y Tryd.underlying9
  simp only [Op.eqFields, a0, a1, a2, b0, b1, b2, c0, c1, c2, ne_eq, show ¬ "Ty" = "_" by decide, show ¬ "N" = "_" by decide, show ¬ "S" = "_" by decide, not_false_eq_true, if_true, Sem.run_bind, P0, P1, P2, E0, E2, Result.andThen_ok, Sem.run_ite, Sem.run_pure]
  unfold V.eqB
  simp only
  cases (t1 == t2) <;> cases (n1 == n2) <;> cases (s1.toList == s2.toList) <;> rfl
theorem run_part_lo (x y : V) (w : World) : (part 29 (Zn.cs ⟨x, y⟩).toArray 0).run Tryd.prog w = .ok x.agg w := by
  obtain ⟨a, b, s⟩ := x
  obtain ⟨c, d, t⟩ := y
  kernel_rfl
theorem run_part_hi (x y : V) (w : World) : (part 29 (Zn.cs ⟨x, y⟩).toArray 3).run Tryd.prog w = .ok y.agg w := by
  obtain ⟨a, b, s⟩ := x
  obtain ⟨c, d, t⟩ := y
  kernel_rfl
theorem Zn.agg_cs (z : Zn) : z.agg = .agg z.cs.toArray := rfl
theorem run_eq_zone (x y : Zn) (w : World) : (Op.equalIn 10000 106 x.agg y.agg).run Tryd.prog w = .ok (x.eqB y) w := by
  obtain ⟨xl, xh⟩ := x
  obtain ⟨yl, yh⟩ := y
  rw [Zn.agg_cs, Zn.agg_cs, run_equalIn_struct w 9999 106 _ _ (by kernel_rfl) (by kernel_rfl)]
  have hf : ((Tryd.prog.fieldsOf 106).toList.map fun f => (f.name, f.type, f.offset)) = [("Lo", 29, 0), ("Hi", 29, 3)] := by kernel_rfl
  generalize (Tryd.prog.fieldsOf 106).toList = fs at hf ⊢
  obtain ⟨f0, f1, rfl⟩ := list2 (by simpa using congrArg List.length hf)
  simp only [List.map_cons, List.map_nil, List.cons.injEq, Prod.mk.injEq, and_true] at hf
  obtain ⟨⟨a0, a1, a2⟩, b0, b1, b2⟩ := hf
  have E := fun (W : World) (x y : V) => run_eq_val_at 9997 x y W
  simp only [Nat.reduceAdd] at E
  simp only [Op.eqFields, a0, a1, a2, b0, b1, b2, ne_eq, show ¬ "Lo" = "_" by decide, show ¬ "Hi" = "_" by decide, not_false_eq_true, if_true, Sem.run_bind, run_part_lo, run_part_hi, E, Result.andThen_ok, Sem.run_ite, Sem.run_pure]
  unfold Zn.eqB
  simp only
  cases xl.eqB yl <;> cases xh.eqB yh <;> rfl
theorem run_neq_zone (x y : Zn) (w : World) : (binOp .neq 106 x.agg y.agg).run Tryd.prog w = .ok (.bool (!(x.eqB y))) w := by
  rw [run_neq_struct, run_eq_zone]
  rfl

end Go.Proofs.YtkofafefnlommaaDoor

/- Plain mathematics of chapter 10: the zone of a list, what holds of a value, what may hold in a zone. -/
namespace Go.Proofs.YtkofafefnlommaaDoor
open Go.RowKit

/-- One more value. -/
def stepZ (z : Zn) (v : V) : Zn := ⟨if lessV v z.lo = true then v else z.lo, if lessV z.hi v = true then v else z.hi⟩
/-- ZoneOf. -/
def zoneL : List V → Zn
  | [] => Zn.zero
  | x :: l => l.foldl stepZ ⟨x, x⟩
theorem zoneL_step (l : List V) (v : V) (h : l ≠ []) : zoneL (l ++ [v]) = stepZ (zoneL l) v := by
  cases l with
  | nil => exact absurd rfl h
  | cons x l =>
    show (l ++ [v]).foldl stepZ _ = _
    rw [List.foldl_append]
    rfl
theorem zoneL_take {l : List V} {k : Nat} (hk : k < l.length) (h0 : 0 < k) : zoneL (l.take (k + 1)) = stepZ (zoneL (l.take k)) (l.getD k V.zero) := by
  have e : l.getD k V.zero = l[k] := by simp [hk]
  rw [e, List.take_succ_eq_append_getElem hk]
  exact zoneL_step _ _ (by
    intro e
    have := congrArg List.length e
    rw [List.length_take, List.length_nil] at this
    omega)
theorem zoneL_one {l : List V} (h : 0 < l.length) : zoneL (l.take 1) = ⟨l.getD 0 V.zero, l.getD 0 V.zero⟩ := by
  cases l with
  | nil => simp at h
  | cons x l => rfl
theorem stepZ_self (v : V) : stepZ ⟨v, v⟩ v = ⟨v, v⟩ := by
  unfold stepZ
  simp

/-- Holds1. -/
def holdsB (op : Int) (a b : V) : Bool :=
  if op = 1 then lessV a b else if op = 2 then !(lessV b a) else if op = 3 then a.eqB b else if op = 4 then !(a.eqB b) else if op = 5 then !(lessV a b) else if op = 6 then lessV b a else false
/-- InZone. -/
def inZB (z : Zn) (v : V) : Bool := !(lessV v z.lo) && !(lessV z.hi v)
/-- MayHold1. -/
def mayB (op : Int) (z : Zn) (v : V) : Bool :=
  if op = 1 then lessV z.lo v else if op = 2 then !(lessV v z.lo) else if op = 3 then inZB z v else if op = 4 then !(z.lo.eqB v) || !(z.hi.eqB v) else if op = 5 then !(lessV z.hi v) else if op = 6 then lessV v z.hi else false
/-- Opposite. -/
def oppI (op : Int) : Int := if op = 1 then 5 else if op = 2 then 6 else if op = 3 then 4 else if op = 4 then 3 else if op = 5 then 1 else if op = 6 then 2 else 0
/-- OpText. -/
def opT (op : Int) : ByteArray := if op = 1 then ⟨#[60]⟩ else if op = 2 then ⟨#[60, 61]⟩ else if op = 3 then ⟨#[61]⟩ else if op = 4 then ⟨#[33, 61]⟩ else if op = 5 then ⟨#[62, 61]⟩ else if op = 6 then ⟨#[62]⟩ else ⟨#[]⟩
theorem op_no {op : Int} (h : ¬ (1 ≤ op ∧ op ≤ 6)) : oppI op = 0 ∧ opT op = ⟨#[]⟩ ∧ (∀ a b, holdsB op a b = false) ∧ ∀ z v, mayB op z v = false := by
  have h1 : ¬ op = 1 := by omega
  have h2 : ¬ op = 2 := by omega
  have h3 : ¬ op = 3 := by omega
  have h4 : ¬ op = 4 := by omega
  have h5 : ¬ op = 5 := by omega
  have h6 : ¬ op = 6 := by omega
  refine ⟨?_, ?_, fun a b => ?_, fun z v => ?_⟩
  · unfold oppI; simp only [if_neg h1, if_neg h2, if_neg h3, if_neg h4, if_neg h5, if_neg h6]
  · unfold opT; simp only [if_neg h1, if_neg h2, if_neg h3, if_neg h4, if_neg h5, if_neg h6]
  · unfold holdsB; simp only [if_neg h1, if_neg h2, if_neg h3, if_neg h4, if_neg h5, if_neg h6]
  · unfold mayB; simp only [if_neg h1, if_neg h2, if_neg h3, if_neg h4, if_neg h5, if_neg h6]
theorem op_cases {op : Int} (h : 1 ≤ op ∧ op ≤ 6) : op = 1 ∨ op = 2 ∨ op = 3 ∨ op = 4 ∨ op = 5 ∨ op = 6 := by omega
theorem opp_opp {op : Int} (h : 1 ≤ op ∧ op ≤ 6) : oppI (oppI op) = op := by
  rcases op_cases h with rfl | rfl | rfl | rfl | rfl | rfl <;> rfl
theorem opp_in {op : Int} (h : 1 ≤ op ∧ op ≤ 6) : 1 ≤ oppI op ∧ oppI op ≤ 6 := by
  rcases op_cases h with rfl | rfl | rfl | rfl | rfl | rfl <;> exact ⟨by decide, by decide⟩
theorem holds_opp {op : Int} (h : 1 ≤ op ∧ op ≤ 6) (a b : V) : holdsB (oppI op) a b = !(holdsB op a b) := by
  rcases op_cases h with rfl | rfl | rfl | rfl | rfl | rfl
  · rfl
  · show lessV b a = !(!(lessV b a))
    rw [Bool.not_not]
  · rfl
  · show a.eqB b = !(!(a.eqB b))
    rw [Bool.not_not]
  · show lessV a b = !(!(lessV a b))
    rw [Bool.not_not]
  · rfl

theorem Zn.eqB_true {x y : Zn} : x.eqB y = true ↔ x = y := by
  obtain ⟨a, b⟩ := x
  obtain ⟨c, d⟩ := y
  unfold Zn.eqB
  simp only [Bool.and_eq_true, Go.Proofs.YtkofafefnlommaaDoor.eqB_true, Zn.mk.injEq]

/-- Every value of l lies in z, and its ends are among them. -/
structure Spans (z : Zn) (l : List V) : Prop where
  lo : z.lo ∈ l
  hi : z.hi ∈ l
  low : ∀ v ∈ l, lessV v z.lo = false
  high : ∀ v ∈ l, lessV z.hi v = false
theorem spans_step {z : Zn} {l : List V} (h : Spans z l) (v : V) : Spans (stepZ z v) (l ++ [v]) := by
  have hv : v ∈ l ++ [v] := by simp
  have hold : ∀ x ∈ l, x ∈ l ++ [v] := fun x hx => List.mem_append_left _ hx
  unfold stepZ
  refine ⟨?_, ?_, fun x hx => ?_, fun x hx => ?_⟩
  · show (if lessV v z.lo = true then v else z.lo) ∈ _
    split
    · exact hv
    · exact hold _ h.lo
  · show (if lessV z.hi v = true then v else z.hi) ∈ _
    split
    · exact hv
    · exact hold _ h.hi
  · show lessV x (if lessV v z.lo = true then v else z.lo) = false
    rcases List.mem_append.1 hx with hx | hx
    · split
      · rename_i h1
        exact lessV_ntrans (h.low x hx) (lessV_asymm h1)
      · exact h.low x hx
    · rw [List.mem_singleton.1 hx]
      split
      · exact lessV_irrefl v
      · rename_i h1
        exact Bool.eq_false_iff.2 h1
  · show lessV (if lessV z.hi v = true then v else z.hi) x = false
    rcases List.mem_append.1 hx with hx | hx
    · split
      · rename_i h1
        exact lessV_ntrans (lessV_asymm h1) (h.high x hx)
      · exact h.high x hx
    · rw [List.mem_singleton.1 hx]
      split
      · exact lessV_irrefl v
      · rename_i h1
        exact Bool.eq_false_iff.2 h1
theorem spans_fold : ∀ (r l : List V) (z : Zn), Spans z l → Spans (r.foldl stepZ z) (l ++ r)
  | [], l, z, h => by simpa using h
  | v :: r, l, z, h => by
    have := spans_fold r (l ++ [v]) (stepZ z v) (spans_step h v)
    rw [List.append_assoc] at this
    exact this
theorem zone_spans {l : List V} (h : l ≠ []) : Spans (zoneL l) l := by
  cases l with
  | nil => exact absurd rfl h
  | cons x l =>
    refine spans_fold l [x] ⟨x, x⟩ ⟨by simp, by simp, fun v hv => ?_, fun v hv => ?_⟩ <;> rw [List.mem_singleton.1 hv] <;> exact lessV_irrefl x
theorem inZ_of {z : Zn} {l : List V} (h : Spans z l) {v : V} (hv : v ∈ l) : inZB z v = true := by
  unfold inZB
  rw [h.low v hv, h.high v hv]
  rfl
theorem may_of {z : Zn} {l : List V} (h : Spans z l) {x v : V} (hx : x ∈ l) {op : Int} (hh : holdsB op x v = true) : mayB op z v = true := by
  have hl := h.low x hx
  have hg := h.high x hx
  by_cases ho : 1 ≤ op ∧ op ≤ 6
  · rcases op_cases ho with rfl | rfl | rfl | rfl | rfl | rfl
    · replace hh : lessV x v = true := hh
      show lessV z.lo v = true
      cases hc : lessV z.lo v with
      | true => rfl
      | false =>
        rw [lessV_ntrans hl hc] at hh
        exact hh
    · replace hh : (!(lessV v x)) = true := hh
      show (!(lessV v z.lo)) = true
      cases hc : lessV v z.lo with
      | false => rfl
      | true =>
        have h2 : lessV v x = false := by simpa using hh
        have := lessV_ntrans h2 hl
        rw [hc] at this
        cases this
    · replace hh : x.eqB v = true := hh
      rw [← eqB_true.1 hh]
      exact inZ_of h hx
    · replace hh : (!(x.eqB v)) = true := hh
      show (!(z.lo.eqB v) || !(z.hi.eqB v)) = true
      cases h1 : z.lo.eqB v with
      | false => rfl
      | true =>
        cases h2 : z.hi.eqB v with
        | false => rfl
        | true =>
          rw [eqB_true.1 h1] at hl
          rw [eqB_true.1 h2] at hg
          rw [lessV_tri hl hg, eqB_true.2 rfl] at hh
          exact hh
    · replace hh : (!(lessV x v)) = true := hh
      show (!(lessV z.hi v)) = true
      cases hc : lessV z.hi v with
      | false => rfl
      | true =>
        have h2 : lessV x v = false := by simpa using hh
        have := lessV_ntrans hg h2
        rw [hc] at this
        cases this
    · replace hh : lessV v x = true := hh
      show lessV v z.hi = true
      cases hc : lessV v z.hi with
      | true => rfl
      | false =>
        rw [lessV_ntrans hc hg] at hh
        exact hh
  · rw [(op_no ho).2.2.1] at hh
    cases hh
theorem zoneL_sizes {l : List V} (h : ∀ v ∈ l, v.s.size ≤ maxLen) : (zoneL l).lo.s.size ≤ maxLen ∧ (zoneL l).hi.s.size ≤ maxLen := by
  cases hl : l with
  | nil => exact ⟨Nat.zero_le _, Nat.zero_le _⟩
  | cons x r =>
    have hs := zone_spans (l := l) (by rw [hl]; simp)
    rw [hl] at hs
    rw [hl] at h
    exact ⟨h _ hs.lo, h _ hs.hi⟩

end Go.Proofs.YtkofafefnlommaaDoor

/- Preds as trees: what they are, how memory reads as one. -/
namespace Go.Proofs.YtkofafefnlommaaDoor
open Go.RowKit

/-- A Pred. -/
inductive T where
  | mk (kind col op : Int) (v : V) (l : List T)
def T.kind : T → Int | .mk k _ _ _ _ => k
def T.col : T → Int | .mk _ c _ _ _ => c
def T.op : T → Int | .mk _ _ o _ _ => o
def T.v : T → V | .mk _ _ _ v _ => v
def T.l : T → List T | .mk _ _ _ _ l => l
def T.zero : T := .mk 0 0 0 V.zero []
/-- The seven cells of a Pred whose operands lie in the slice u. -/
def T.cs (t : T) (u : Value) : List Value := [.int .i64 t.kind, .int .i64 t.col, .int .i64 t.op, .int .i64 t.v.ty, .int .i64 t.v.n, .string t.v.s, u]
abbrev T.agg (t : T) (u : Value) : Value := .agg #[.int .i64 t.kind, .int .i64 t.col, .int .i64 t.op, .int .i64 t.v.ty, .int .i64 t.v.n, .string t.v.s, u]

mutual
/-- How many nodes a tree has, and how long its texts are together. -/
def T.bulk : T → Nat | .mk _ _ _ v l => v.s.size + 1 + T.bulks l
def T.bulks : List T → Nat | [] => 0 | t :: r => T.bulk t + T.bulks r
end
theorem T.bulk_pos (t : T) : 0 < t.bulk := by
  obtain ⟨k, c, o, v, l⟩ := t
  rw [T.bulk]
  omega
theorem T.bulks_append : ∀ a b : List T, T.bulks (a ++ b) = T.bulks a + T.bulks b
  | [], b => by simp [T.bulks]
  | t :: a, b => by
    show T.bulk t + T.bulks (a ++ b) = T.bulk t + T.bulks a + T.bulks b
    rw [T.bulks_append a b]
    omega
theorem T.bulk_mem {l : List T} {t : T} (h : t ∈ l) : t.bulk ≤ T.bulks l := by
  induction l with
  | nil => cases h
  | cons x l ih =>
    unfold T.bulks
    rcases List.mem_cons.1 h with rfl | h
    · omega
    · have := ih h
      omega
theorem T.bulk_child {t x : T} (h : x ∈ t.l) : x.bulk < t.bulk := by
  obtain ⟨k, c, o, v, l⟩ := t
  have := T.bulk_mem (l := l) h
  rw [T.bulk]
  omega
theorem T.bulks_length (l : List T) : l.length ≤ T.bulks l := by
  induction l with
  | nil => exact Nat.zero_le _
  | cons t l ih =>
    have := t.bulk_pos
    unfold T.bulks
    rw [List.length_cons]
    omega
/-- An induction on a tree: its operands first. -/
theorem T.induct {P : T → Prop} (h : ∀ t, (∀ x ∈ t.l, P x) → P t) : ∀ t, P t := by
  have key : ∀ n t, T.bulk t < n → P t := by
    intro n
    induction n with
    | zero => intro t ht; omega
    | succ n ih => exact fun t ht => h t (fun x hx => ih x (by have := T.bulk_child hx; omega))
  exact fun t => key _ t (Nat.lt_succ_self _)

mutual
/-- In blocks with Q, the slice u reads as the operands of t, and so on below them. -/
def RdT (Q : Nat → Prop) (w : World) : T → Value → Prop
  | .mk _ _ _ _ l, u => ∃ a cap, u = .slice a l.length cap ∧ l.length ≤ maxLen ∧ (l.length = 0 ∨ ∃ b off, a = some ⟨b, off, none⟩ ∧ Q b ∧ RdTs Q w l b off)
/-- At ⟨b, off⟩ lie the trees of l. -/
def RdTs (Q : Nat → Prop) (w : World) : List T → Nat → Nat → Prop
  | [], _, _ => True
  | t :: r, b, off => (∃ u, (∀ i x, (t.cs u)[i]? = some x → w.cell? ⟨b, off + i, none⟩ = some x) ∧ RdT Q w t u) ∧ RdTs Q w r b (off + 7)
end
theorem RdT_def {Q : Nat → Prop} {w : World} {t : T} {u : Value} : RdT Q w t u ↔ ∃ a cap, u = .slice a t.l.length cap ∧ t.l.length ≤ maxLen ∧ (t.l.length = 0 ∨ ∃ b off, a = some ⟨b, off, none⟩ ∧ Q b ∧ RdTs Q w t.l b off) := by
  obtain ⟨k, c, o, v, l⟩ := t
  rw [RdT]
  exact Iff.rfl
theorem RdTs_iff {Q : Nat → Prop} {w : World} {b : Nat} : ∀ {l : List T} {off : Nat}, RdTs Q w l b off ↔ ∀ k, k < l.length → ∃ u, (∀ i x, ((l.getD k T.zero).cs u)[i]? = some x → w.cell? ⟨b, off + k * 7 + i, none⟩ = some x) ∧ RdT Q w (l.getD k T.zero) u
  | [], off => by
    rw [RdTs]
    exact ⟨fun _ k hk => by simp at hk, fun _ => trivial⟩
  | t :: l, off => by
    rw [RdTs, RdTs_iff]
    constructor
    · rintro ⟨h0, h1⟩ k hk
      cases k with
      | zero => simpa using h0
      | succ k =>
        obtain ⟨u, hc, hr⟩ := h1 k (by simpa using hk)
        refine ⟨u, fun i x hx => ?_, by simpa using hr⟩
        have := hc i x (by simpa using hx)
        rw [show off + 7 + k * 7 + i = off + (k + 1) * 7 + i by omega] at this
        exact this
    · intro h
      refine ⟨by simpa using h 0 (by simp), fun k hk => ?_⟩
      obtain ⟨u, hc, hr⟩ := h (k + 1) (by simpa using hk)
      refine ⟨u, fun i x hx => ?_, by simpa using hr⟩
      have := hc i x (by simpa using hx)
      rw [show off + (k + 1) * 7 + i = off + 7 + k * 7 + i by omega] at this
      exact this
/-- The same in a world that has the same blocks where Q. -/
theorem RdT.keep {Q Q' : Nat → Prop} {w w' : World} (hQ : ∀ b, Q b → Q' b) (hw : ∀ b, Q b → ∀ o x, w.cell? ⟨b, o, none⟩ = some x → w'.cell? ⟨b, o, none⟩ = some x) : ∀ (t : T) (u : Value), RdT Q w t u → RdT Q' w' t u := by
  refine T.induct (fun t ih u h => ?_)
  rw [RdT_def] at h ⊢
  obtain ⟨a, cap, rfl, hn, h⟩ := h
  refine ⟨a, cap, rfl, hn, h.imp id ?_⟩
  rintro ⟨b, off, rfl, hq, h⟩
  refine ⟨b, off, rfl, hQ b hq, ?_⟩
  rw [RdTs_iff] at h ⊢
  intro k hk
  obtain ⟨u, hc, hr⟩ := h k hk
  refine ⟨u, fun i x hx => hw b hq _ x (hc i x hx), ih _ ?_ u hr⟩
  have e : t.l.getD k T.zero = t.l[k] := by simp [hk]
  rw [e]
  exact List.getElem_mem hk
theorem RdT.below {Q : Nat → Prop} {w w' : World} {t : T} {u : Value} (h : RdT Q w t u) (hb : Below w.heap.size w w') : RdT Q w' t u :=
  RdT.keep (fun _ h => h) (fun b _ o _ hx => (hb.cell (p := ⟨b, o, none⟩) (lt_of_cell hx)).trans hx) t u h
theorem RdT.mono {Q Q' : Nat → Prop} {w : World} {t : T} {u : Value} (h : RdT Q w t u) (hQ : ∀ b, Q b → Q' b) : RdT Q' w t u := RdT.keep hQ (fun _ _ _ _ h => h) t u h

/-- The operands of a Pred, for a walk: the k-th one, in every later world. -/
theorem RdT.kids {Q : Nat → Prop} {w : World} {t : T} {u : Value} {n : Nat} (h : RdT Q w t u) (hl : t.l.length = n) :
    ∃ a cap, u = .slice a n cap ∧ n ≤ maxLen ∧ Hid (∀ k, k < n → ∀ W, Below w.heap.size w W → ∃ b off u', a = some ⟨b, off, none⟩ ∧ RdT Q W (t.l.getD k T.zero) u' ∧
      W.cell? ⟨b, off + k * 7, none⟩ = some (.int .i64 (t.l.getD k T.zero).kind) ∧ W.cell? ⟨b, off + k * 7 + 1, none⟩ = some (.int .i64 (t.l.getD k T.zero).col) ∧ W.cell? ⟨b, off + k * 7 + 2, none⟩ = some (.int .i64 (t.l.getD k T.zero).op) ∧
      W.cell? ⟨b, off + k * 7 + 3, none⟩ = some (.int .i64 (t.l.getD k T.zero).v.ty) ∧ W.cell? ⟨b, off + k * 7 + 4, none⟩ = some (.int .i64 (t.l.getD k T.zero).v.n) ∧ W.cell? ⟨b, off + k * 7 + 5, none⟩ = some (.string (t.l.getD k T.zero).v.s) ∧ W.cell? ⟨b, off + k * 7 + 6, none⟩ = some u') := by
  rw [RdT_def, hl] at h
  obtain ⟨a, cap, rfl, hn, h⟩ := h
  refine ⟨a, cap, rfl, hn, fun k hk W hW => ?_⟩
  rcases h with h | ⟨b, off, rfl, _, h⟩
  · omega
  · rw [RdTs_iff] at h
    obtain ⟨u, hc, hr⟩ := h k (by omega)
    have hk := fun i x hx => (hW.cell (p := ⟨b, off + k * 7 + i, none⟩) (lt_of_cell (hc i x hx))).trans (hc i x hx)
    exact ⟨b, off, u, rfl, hr.below hW, hk 0 _ rfl, hk 1 _ rfl, hk 2 _ rfl, hk 3 _ rfl, hk 4 _ rfl, hk 5 _ rfl, hk 6 _ rfl⟩
theorem kid_mem {t : T} {k : Nat} (hk : k < t.l.length) : t.l.getD k T.zero ∈ t.l := by
  have e : t.l.getD k T.zero = t.l[k] := by simp [hk]
  rw [e]
  exact List.getElem_mem hk

end Go.Proofs.YtkofafefnlommaaDoor

/- Plain mathematics of chapter 11: what a predicate says of a row and of zones; which are right. -/
namespace Go.Proofs.YtkofafefnlommaaDoor
open Go.RowKit

mutual
/-- Holds. -/
def T.holds (vs : List V) : T → Bool
  | .mk k c o v l => if k = 1 then true else if k = 2 then (Num.inB c 0 ((vs.length : Int) - 1) && holdsB o (vs.getD c.toNat V.zero) v) else if k = 3 then T.holdsAll vs l else if k = 4 then T.holdsAny vs l else if k = 5 then T.holdsNot vs l else false
def T.holdsAll (vs : List V) : List T → Bool
  | [] => true
  | t :: r => T.holds vs t && T.holdsAll vs r
def T.holdsAny (vs : List V) : List T → Bool
  | [] => false
  | t :: r => T.holds vs t || T.holdsAny vs r
def T.holdsNot (vs : List V) : List T → Bool
  | [] => true
  | t :: _ => !(T.holds vs t)
end
mutual
/-- MayHold. -/
def T.may (zs : List Zn) : T → Bool
  | .mk k c o v l => if k = 1 then true else if k = 2 then (Num.inB c 0 ((zs.length : Int) - 1) && mayB o (zs.getD c.toNat Zn.zero) v) else if k = 3 then T.mayAll zs l else if k = 4 then T.mayAny zs l else if k = 5 then T.mayNot zs l else false
def T.mayAll (zs : List Zn) : List T → Bool
  | [] => true
  | t :: r => T.may zs t && T.mayAll zs r
def T.mayAny (zs : List Zn) : List T → Bool
  | [] => false
  | t :: r => T.may zs t || T.mayAny zs r
def T.mayNot (zs : List Zn) : List T → Bool
  | [] => true
  | t :: _ => T.nmay zs t
/-- May it not hold? -/
def T.nmay (zs : List Zn) : T → Bool
  | .mk k c o v l => if k = 1 then false else if k = 2 then (!(Num.inB c 0 ((zs.length : Int) - 1)) || mayB (oppI o) (zs.getD c.toNat Zn.zero) v) else if k = 3 then T.nmayAny zs l else if k = 4 then T.nmayAll zs l else if k = 5 then T.nmayNot zs l else true
def T.nmayAny (zs : List Zn) : List T → Bool
  | [] => false
  | t :: r => T.nmay zs t || T.nmayAny zs r
def T.nmayAll (zs : List Zn) : List T → Bool
  | [] => true
  | t :: r => T.nmay zs t && T.nmayAll zs r
def T.nmayNot (zs : List Zn) : List T → Bool
  | [] => true
  | t :: _ => T.may zs t
end
mutual
/-- How many predicates. -/
def T.count : T → Nat | .mk _ _ _ _ l => 1 + T.counts l
def T.counts : List T → Nat | [] => 0 | t :: r => T.count t + T.counts r
end
/-- Do the unused fields hold nothing? -/
def T.bare (t : T) : Bool := t.col == 0 && (t.op == 0 && t.v.eqB V.zero)
/-- Is a predicate right by itself? -/
def T.own (cols : List Int) (t : T) : Bool :=
  if t.kind = 1 then t.bare && t.l.length == 0
  else if t.kind = 2 then Num.inB t.col 0 ((cols.length : Int) - 1) && (okV t.v && (t.v.ty == cols.getD t.col.toNat 0 && (Num.inB t.op 1 6 && t.l.length == 0)))
  else if t.kind = 3 ∨ t.kind = 4 then t.bare && Num.inB t.l.length 1 4
  else t.kind == 5 && (t.bare && t.l.length == 1)
mutual
/-- Is each right by itself, and none too deep? -/
def T.deep (cols : List Int) : T → Int → Bool | .mk k c o v l, d => decide (d ≤ 4) && (T.deeps cols l (d + 1) && T.own cols (.mk k c o v l))
def T.deeps (cols : List Int) : List T → Int → Bool
  | [], _ => true
  | t :: r, d => T.deep cols t d && T.deeps cols r d
end
theorem T.holdsAll_eq (vs : List V) : ∀ l : List T, T.holdsAll vs l = l.all (T.holds vs)
  | [] => by rw [T.holdsAll]; rfl
  | t :: r => by rw [T.holdsAll, T.holdsAll_eq vs r]; rfl
theorem T.holdsAny_eq (vs : List V) : ∀ l : List T, T.holdsAny vs l = l.any (T.holds vs)
  | [] => by rw [T.holdsAny]; rfl
  | t :: r => by rw [T.holdsAny, T.holdsAny_eq vs r]; rfl
theorem T.mayAll_eq (zs : List Zn) : ∀ l : List T, T.mayAll zs l = l.all (T.may zs)
  | [] => by rw [T.mayAll]; rfl
  | t :: r => by rw [T.mayAll, T.mayAll_eq zs r]; rfl
theorem T.mayAny_eq (zs : List Zn) : ∀ l : List T, T.mayAny zs l = l.any (T.may zs)
  | [] => by rw [T.mayAny]; rfl
  | t :: r => by rw [T.mayAny, T.mayAny_eq zs r]; rfl
theorem T.nmayAll_eq (zs : List Zn) : ∀ l : List T, T.nmayAll zs l = l.all (T.nmay zs)
  | [] => by rw [T.nmayAll]; rfl
  | t :: r => by rw [T.nmayAll, T.nmayAll_eq zs r]; rfl
theorem T.nmayAny_eq (zs : List Zn) : ∀ l : List T, T.nmayAny zs l = l.any (T.nmay zs)
  | [] => by rw [T.nmayAny]; rfl
  | t :: r => by rw [T.nmayAny, T.nmayAny_eq zs r]; rfl
theorem T.deeps_eq (cols : List Int) (d : Int) : ∀ l : List T, T.deeps cols l d = l.all fun t => T.deep cols t d
  | [] => by rw [T.deeps]; rfl
  | t :: r => by rw [T.deeps, T.deeps_eq cols d r]; rfl
/-- A list's all and any by its elements, one by one. -/
theorem all_of {l : List T} {f : T → Bool} (h : ∀ k, k < l.length → f (l.getD k T.zero) = true) : l.all f = true := by
  rw [List.all_eq_true]
  intro x hx
  obtain ⟨k, hk, rfl⟩ := List.getElem_of_mem hx
  have := h k hk
  simpa [hk] using this
theorem all_not {l : List T} {f : T → Bool} {k : Nat} (hk : k < l.length) (h : f (l.getD k T.zero) = false) : l.all f = false := by
  rw [List.all_eq_false]
  refine ⟨l[k], List.getElem_mem hk, ?_⟩
  have e : l.getD k T.zero = l[k] := by simp [hk]
  rw [e] at h
  rw [h]
  exact Bool.false_ne_true
theorem any_of {l : List T} {f : T → Bool} {k : Nat} (hk : k < l.length) (h : f (l.getD k T.zero) = true) : l.any f = true := by
  rw [List.any_eq_true]
  refine ⟨l[k], List.getElem_mem hk, ?_⟩
  have e : l.getD k T.zero = l[k] := by simp [hk]
  rw [e] at h
  exact h
theorem any_not {l : List T} {f : T → Bool} (h : ∀ k, k < l.length → f (l.getD k T.zero) = false) : l.any f = false := by
  rw [List.any_eq_false]
  intro x hx
  obtain ⟨k, hk, rfl⟩ := List.getElem_of_mem hx
  have := h k hk
  have e : l.getD k T.zero = l[k] := by simp [hk]
  rw [e] at this
  rw [this]
  exact Bool.false_ne_true

theorem T.holds_def (vs : List V) (t : T) : t.holds vs = if t.kind = 1 then true else if t.kind = 2 then (Num.inB t.col 0 ((vs.length : Int) - 1) && holdsB t.op (vs.getD t.col.toNat V.zero) t.v) else if t.kind = 3 then t.l.all (T.holds vs) else if t.kind = 4 then t.l.any (T.holds vs) else if t.kind = 5 then (t.l.length == 0 || !((t.l.getD 0 T.zero).holds vs)) else false := by
  obtain ⟨k, c, o, v, l⟩ := t
  rw [T.holds, T.holdsAll_eq, T.holdsAny_eq]
  have : T.holdsNot vs l = (l.length == 0 || !((l.getD 0 T.zero).holds vs)) := by
    cases l with
    | nil => rw [T.holdsNot]; rfl
    | cons t r => rw [T.holdsNot]; rfl
  rw [this]
  rfl
theorem T.may_def (zs : List Zn) (t : T) : t.may zs = if t.kind = 1 then true else if t.kind = 2 then (Num.inB t.col 0 ((zs.length : Int) - 1) && mayB t.op (zs.getD t.col.toNat Zn.zero) t.v) else if t.kind = 3 then t.l.all (T.may zs) else if t.kind = 4 then t.l.any (T.may zs) else if t.kind = 5 then (t.l.length == 0 || (t.l.getD 0 T.zero).nmay zs) else false := by
  obtain ⟨k, c, o, v, l⟩ := t
  rw [T.may, T.mayAll_eq, T.mayAny_eq]
  have : T.mayNot zs l = (l.length == 0 || (l.getD 0 T.zero).nmay zs) := by
    cases l with
    | nil => rw [T.mayNot]; rfl
    | cons t r => rw [T.mayNot]; rfl
  rw [this]
  rfl
theorem T.nmay_def (zs : List Zn) (t : T) : t.nmay zs = if t.kind = 1 then false else if t.kind = 2 then (!(Num.inB t.col 0 ((zs.length : Int) - 1)) || mayB (oppI t.op) (zs.getD t.col.toNat Zn.zero) t.v) else if t.kind = 3 then t.l.any (T.nmay zs) else if t.kind = 4 then t.l.all (T.nmay zs) else if t.kind = 5 then (t.l.length == 0 || (t.l.getD 0 T.zero).may zs) else true := by
  obtain ⟨k, c, o, v, l⟩ := t
  rw [T.nmay, T.nmayAll_eq, T.nmayAny_eq]
  have : T.nmayNot zs l = (l.length == 0 || (l.getD 0 T.zero).may zs) := by
    cases l with
    | nil => rw [T.nmayNot]; rfl
    | cons t r => rw [T.nmayNot]; rfl
  rw [this]
  rfl
theorem T.holds_1 {vs : List V} {t : T} (h : t.kind = 1) : t.holds vs = true := by
  rw [T.holds_def]
  rw [if_pos h]
theorem T.holds_2 {vs : List V} {t : T} (h : t.kind = 2) : t.holds vs = (Num.inB t.col 0 ((vs.length : Int) - 1) && holdsB t.op (vs.getD t.col.toNat V.zero) t.v) := by
  rw [T.holds_def]
  rw [if_neg (by omega)]
  rw [if_pos h]
theorem T.holds_3 {vs : List V} {t : T} (h : t.kind = 3) : t.holds vs = t.l.all (T.holds vs) := by
  rw [T.holds_def]
  rw [if_neg (by omega)]
  rw [if_neg (by omega)]
  rw [if_pos h]
theorem T.holds_4 {vs : List V} {t : T} (h : t.kind = 4) : t.holds vs = t.l.any (T.holds vs) := by
  rw [T.holds_def]
  rw [if_neg (by omega)]
  rw [if_neg (by omega)]
  rw [if_neg (by omega)]
  rw [if_pos h]
theorem T.holds_5 {vs : List V} {t : T} (h : t.kind = 5) : t.holds vs = (t.l.length == 0 || !((t.l.getD 0 T.zero).holds vs)) := by
  rw [T.holds_def]
  rw [if_neg (by omega)]
  rw [if_neg (by omega)]
  rw [if_neg (by omega)]
  rw [if_neg (by omega)]
  rw [if_pos h]
theorem T.holds_no {vs : List V} {t : T} (h1 : ¬ t.kind = 1) (h2 : ¬ t.kind = 2) (h3 : ¬ t.kind = 3) (h4 : ¬ t.kind = 4) (h5 : ¬ t.kind = 5) : t.holds vs = false := by
  rw [T.holds_def, if_neg h1, if_neg h2, if_neg h3, if_neg h4, if_neg h5]
theorem T.may_1 {zs : List Zn} {t : T} (h : t.kind = 1) : t.may zs = true := by
  rw [T.may_def]
  rw [if_pos h]
theorem T.may_2 {zs : List Zn} {t : T} (h : t.kind = 2) : t.may zs = (Num.inB t.col 0 ((zs.length : Int) - 1) && mayB t.op (zs.getD t.col.toNat Zn.zero) t.v) := by
  rw [T.may_def]
  rw [if_neg (by omega)]
  rw [if_pos h]
theorem T.may_3 {zs : List Zn} {t : T} (h : t.kind = 3) : t.may zs = t.l.all (T.may zs) := by
  rw [T.may_def]
  rw [if_neg (by omega)]
  rw [if_neg (by omega)]
  rw [if_pos h]
theorem T.may_4 {zs : List Zn} {t : T} (h : t.kind = 4) : t.may zs = t.l.any (T.may zs) := by
  rw [T.may_def]
  rw [if_neg (by omega)]
  rw [if_neg (by omega)]
  rw [if_neg (by omega)]
  rw [if_pos h]
theorem T.may_5 {zs : List Zn} {t : T} (h : t.kind = 5) : t.may zs = (t.l.length == 0 || (t.l.getD 0 T.zero).nmay zs) := by
  rw [T.may_def]
  rw [if_neg (by omega)]
  rw [if_neg (by omega)]
  rw [if_neg (by omega)]
  rw [if_neg (by omega)]
  rw [if_pos h]
theorem T.may_no {zs : List Zn} {t : T} (h1 : ¬ t.kind = 1) (h2 : ¬ t.kind = 2) (h3 : ¬ t.kind = 3) (h4 : ¬ t.kind = 4) (h5 : ¬ t.kind = 5) : t.may zs = false := by
  rw [T.may_def, if_neg h1, if_neg h2, if_neg h3, if_neg h4, if_neg h5]
theorem T.nmay_1 {zs : List Zn} {t : T} (h : t.kind = 1) : t.nmay zs = false := by
  rw [T.nmay_def]
  rw [if_pos h]
theorem T.nmay_2 {zs : List Zn} {t : T} (h : t.kind = 2) : t.nmay zs = (!(Num.inB t.col 0 ((zs.length : Int) - 1)) || mayB (oppI t.op) (zs.getD t.col.toNat Zn.zero) t.v) := by
  rw [T.nmay_def]
  rw [if_neg (by omega)]
  rw [if_pos h]
theorem T.nmay_3 {zs : List Zn} {t : T} (h : t.kind = 3) : t.nmay zs = t.l.any (T.nmay zs) := by
  rw [T.nmay_def]
  rw [if_neg (by omega)]
  rw [if_neg (by omega)]
  rw [if_pos h]
theorem T.nmay_4 {zs : List Zn} {t : T} (h : t.kind = 4) : t.nmay zs = t.l.all (T.nmay zs) := by
  rw [T.nmay_def]
  rw [if_neg (by omega)]
  rw [if_neg (by omega)]
  rw [if_neg (by omega)]
  rw [if_pos h]
theorem T.nmay_5 {zs : List Zn} {t : T} (h : t.kind = 5) : t.nmay zs = (t.l.length == 0 || (t.l.getD 0 T.zero).may zs) := by
  rw [T.nmay_def]
  rw [if_neg (by omega)]
  rw [if_neg (by omega)]
  rw [if_neg (by omega)]
  rw [if_neg (by omega)]
  rw [if_pos h]
theorem T.nmay_no {zs : List Zn} {t : T} (h1 : ¬ t.kind = 1) (h2 : ¬ t.kind = 2) (h3 : ¬ t.kind = 3) (h4 : ¬ t.kind = 4) (h5 : ¬ t.kind = 5) : t.nmay zs = true := by
  rw [T.nmay_def, if_neg h1, if_neg h2, if_neg h3, if_neg h4, if_neg h5]
theorem T.deep_def (cols : List Int) (t : T) (d : Int) : t.deep cols d = (decide (d ≤ 4) && (t.l.all (fun x => x.deep cols (d + 1)) && t.own cols)) := by
  obtain ⟨k, c, o, v, l⟩ := t
  rw [T.deep, T.deeps_eq]
  rfl
theorem T.count_def (t : T) : t.count = 1 + T.counts t.l := by
  obtain ⟨k, c, o, v, l⟩ := t
  rw [T.count]
  rfl
theorem T.counts_append : ∀ a b : List T, T.counts (a ++ b) = T.counts a + T.counts b
  | [], b => by simp [T.counts]
  | t :: a, b => by
    show T.counts (t :: (a ++ b)) = _
    rw [T.counts, T.counts, T.counts_append a b]
    omega
theorem T.counts_take {l : List T} {k : Nat} (hk : k < l.length) : T.counts (l.take (k + 1)) = T.counts (l.take k) + (l.getD k T.zero).count := by
  induction l generalizing k with
  | nil => simp at hk
  | cons t l ih =>
    cases k with
    | zero =>
      simp only [List.take_succ_cons, List.take_zero, List.getD_cons_zero]
      simp only [T.counts]
      omega
    | succ k =>
      have := ih (k := k) (by simpa using hk)
      simp only [List.take_succ_cons, List.getD_cons_succ]
      rw [T.counts, T.counts, this]
      omega
theorem T.count_le_bulk (t : T) : t.count ≤ t.bulk := by
  refine T.induct (P := fun t => t.count ≤ t.bulk) (fun t ih => ?_) t
  obtain ⟨k, c, o, v, l⟩ := t
  rw [T.count, T.bulk]
  replace ih : ∀ x ∈ l, x.count ≤ x.bulk := ih
  have : T.counts l ≤ T.bulks l := by
    induction l with
    | nil =>
      rw [T.counts]
      exact Nat.zero_le _
    | cons t r ihl =>
      rw [T.counts, T.bulks]
      have h1 := ih t List.mem_cons_self
      have h2 := ihl (fun x hx => ih x (List.mem_cons_of_mem _ hx))
      omega
  omega

/-- PredOk, but for cols themselves. -/
def T.ok (cols : List Int) (t : T) : Bool := t.deep cols 1 && decide (t.count ≤ 8)

end Go.Proofs.YtkofafefnlommaaDoor

/- The laws' own helpers over slices of Rows: szRowS, toRowS, eqRowS. -/
namespace Go.Proofs.YtkofafefnlommaaDoor
open Go.RowKit

/-- A Row and the slice value that holds its values. -/
abbrev P := R × Value
def P.cs (p : P) : List Value := [.int .i64 p.1.id, p.2]
def P.zero : P := (⟨0, []⟩, .slice none 0 0)
/-- The cells of a list of Rows. -/
def prs (ps : List P) : List Value := ps.flatMap P.cs
theorem prs_len (ps : List P) : (prs ps).length = ps.length * 2 := flat_len P.cs 2 (fun _ => rfl) ps
theorem prs_get {ps : List P} {k j : Nat} (hk : k < ps.length) (hj : j < 2) : (prs ps)[k * 2 + j]? = (P.cs ps[k])[j]? := flat_get P.cs 2 (fun _ => rfl) ps k j hk hj
/-- v is a slice of Rows. -/
def RdRs (w : World) (v : Value) (ps : List P) : Prop := Rd 2 w v ps.length (prs ps) ∧ ∀ p ∈ ps, p.1.rd w p.2
theorem RdRs.below {w w' : World} {v : Value} {ps : List P} (h : RdRs w v ps) (hb : Below w.heap.size w w') : RdRs w' v ps := ⟨h.1.below hb, fun p hp => (h.2 p hp).below hb⟩
theorem cells2 {w : World} {b off : Nat} {ps : List P} (hc : ∀ j u, (prs ps)[j]? = some u → w.cell? ⟨b, off + j, none⟩ = some u) {k : Nat} (hk : k < ps.length) :
    w.cell? ⟨b, off + k * 2, none⟩ = some (.int .i64 ps[k].1.id) ∧ w.cell? ⟨b, off + k * 2 + 1, none⟩ = some ps[k].2 :=
  ⟨hc (k * 2) _ (prs_get (j := 0) hk (by omega)), hc (k * 2 + 1) _ (prs_get (j := 1) hk (by omega))⟩
/-- For a walk: the k-th Row, in every later world. -/
theorem RdRs.walk {w : World} {v : Value} {ps : List P} (h : RdRs w v ps) {n : Nat} (hl : ps.length = n) :
    ∃ a cap, v = .slice a n cap ∧ n ≤ maxLen ∧ Hid (∀ k, k < n → ∀ W, Below w.heap.size w W → ∃ b off, a = some ⟨b, off, none⟩ ∧ W.cell? ⟨b, off + k * 2, none⟩ = some (.int .i64 (ps.getD k P.zero).1.id) ∧ W.cell? ⟨b, off + k * 2 + 1, none⟩ = some (ps.getD k P.zero).2 ∧ (ps.getD k P.zero).1.rd W (ps.getD k P.zero).2) := by
  obtain ⟨⟨a, cap, rfl, hn, _, hx⟩, hi⟩ := h
  subst hl
  refine ⟨a, cap, rfl, hn, fun k hk W hW => ?_⟩
  rcases hx with h0 | ⟨b, off, rfl, hc⟩
  · omega
  · have e : ps.getD k P.zero = ps[k] := by simp [hk]
    rw [e]
    have c2 := cells2 hc hk
    exact ⟨b, off, rfl, (hW.cell (p := ⟨b, off + k * 2, none⟩) (lt_of_cell c2.1)).trans c2.1, (hW.cell (p := ⟨b, off + k * 2 + 1, none⟩) (lt_of_cell c2.2)).trans c2.2, (hi _ (List.getElem_mem hk)).below hW⟩

/-- What the sizes of a list of Rows come to. -/
def bulkR (ps : List P) : Nat := (ps.map fun p => p.1.l.length + bulk p.1.l).sum
theorem bulkR_take_succ (ps : List P) (k : Nat) (h : k < ps.length) : bulkR (ps.take (k + 1)) = bulkR (ps.take k) + ((ps.getD k P.zero).1.l.length + bulk (ps.getD k P.zero).1.l) := by
  have e : ps.getD k P.zero = ps[k] := by simp [h]
  unfold bulkR
  rw [e, List.take_succ_eq_append_getElem h, List.map_append, List.sum_append]
  simp

set_option maxHeartbeats 400000 in
theorem szRowS (v : Value) (ps : List P) (left : Int) (w : World) (h0 : 0 ≤ left) (h1 : left ≤ 1048576) (hss : ∀ p ∈ ps, ∀ v ∈ p.1.l, v.s.size ≤ maxLen) (h : RdRs w v ps) :
    Calls Tryd.prog 39 #[v, .int .i64 left] w fun e w' => ∃ r : Int, e = .returned (.int .i64 r) ∧ (r < 0 ∨ (0 ≤ r ∧ (ps.length : Int) + bulkR ps ≤ left - r)) ∧ Below w.heap.size w w' := by
  generalize hl : ps.length = n
  obtain ⟨a, cap, rfl, hle, HC⟩ := h.walk hl
  unfold maxLen at hle
  have HL := Lib.hid hl
  have HS : Hid (∀ k, k < n → ∀ v ∈ (ps.getD k P.zero).1.l, v.s.size ≤ maxLen) := fun k hk => by
    have hk' : k < ps.length := by omega
    have e : ps.getD k P.zero = ps[k] := by simp [hk']
    rw [e]
    exact hss _ (List.getElem_mem hk')
  clear hl hss h
  by_cases hbig : left - (n : Int) < 0
  · go_enter Tryd.func39, Tryd.ntmps39
    go_wp2
    go_ret
    exact ⟨_, rfl, .inl (by omega), Below.refl _ _⟩
  · go_enter Tryd.func39, Tryd.ntmps39
    go_wp2
    go_loopw [1, 5] (fun r i wr => ∃ (k : Nat) (z : Int), k ≤ n ∧ 0 ≤ z ∧ z ≤ left ∧ (n : Int) + bulkR (ps.take k) ≤ left - z ∧ r = .int .i64 z ∧ i = .int .i64 k ∧ Below w.heap.size w wr) (fun _ i _ => n - (intOf i).toNat)
    case atStart => exact ⟨0, _, Nat.zero_le _, by omega, by omega, by simp [bulkR]; omega, rfl, rfl, Below.refl _ _⟩
    case round =>
      obtain ⟨k, z, hk, hz0, hz1, hzb, rfl, rfl, hbr⟩ := hrel
      by_cases hkl : k < n
      · obtain ⟨b, off, rfl, c0, c1, hr⟩ := HC.out k hkl wr hbr
        have HB := Lib.hid (bulkR_take_succ ps k (by rw [HL.out]; exact hkl))
        have HZ := Lib.hid (szRow (ps.getD k P.zero).1 (ps.getD k P.zero).2 z wr hz0 (by omega) (HS.out k hkl) hr)
        generalize ps.getD k P.zero = p at c0 c1 hr HB HZ
        obtain ⟨⟨i, l⟩, u⟩ := p
        obtain ⟨a', cap', hu, _, _⟩ := hr
        simp only at hu
        subst hu
        simp only at c0 c1 HB HZ
        generalize l.length = m at *
        go_wp2_with fail
        refine HZ.out.mono ?_
        rintro e w2 ⟨y, rfl, hy, hb2⟩
        clear HZ c0 c1
        by_cases hneg : y < 0
        · go_wp2
          go_ret
          exact ⟨_, rfl, .inl (by omega), below_then hbr hb2 hbr.size⟩
        · go_wp2
          go_roundw
          case rel => exact ⟨k + 1, y, by omega, by omega, by omega, by rw [HB.out]; omega, rfl, by go_num, below_then hbr hb2 hbr.size⟩
          case measure => simp [intOf]; omega
      · obtain rfl : k = n := by omega
        go_wp2
        go_ret
        refine ⟨_, rfl, .inr ⟨hz0, ?_⟩, hbr⟩
        rw [← HL.out, List.take_length] at hzb
        rw [← HL.out]
        omega


theorem Tryd.elemRows : ElemT Tryd.prog 48 91 (.agg #[.int .i64 0, .slice none 0 0]) 2 32 := ⟨Tryd.underlying48, info_parts (by kernel_rfl), rfl, by decide⟩
theorem prs_set (l : List P) (k : Nat) (p : P) (hk : k < l.length) : prs (l.set k p) = ((prs l).set (k * 2) (.int .i64 p.1.id)).set (k * 2 + 1) p.2 := by
  have hl := prs_len l
  apply List.ext_getElem?
  intro i
  unfold prs at hl ⊢
  rw [flat_set P.cs 2 (fun _ => rfl) l k p hk i]
  simp only [List.getElem?_set, List.length_set]
  by_cases h1 : k * 2 + 1 = i
  · subst h1
    rw [if_pos (by omega), if_pos rfl, if_pos (by omega), show k * 2 + 1 - k * 2 = 1 by omega]
    rfl
  · by_cases h0 : k * 2 = i
    · subst h0
      rw [if_pos (by omega), if_neg (by omega), if_pos rfl, if_pos (by omega), Nat.sub_self]
      rfl
    · rw [if_neg (by omega), if_neg h1, if_neg h0]
/-- The cells of Row k of an owned slice, stored anew. -/
theorem stored2 {w : World} {lo : Nat} {e : TypeId} {g n cap : Nat} {l : List P} (h : w.ownsRow lo e 2 (.slice (some ⟨g, 0, none⟩) n cap) n (prs l)) (k : Nat) (p : P) (hk : k < l.length) :
    ((w.setCell ⟨g, k * 2, none⟩ (.int .i64 p.1.id)).setCell ⟨g, k * 2 + 1, none⟩ p.2).ownsRow lo e 2 (.slice (some ⟨g, 0, none⟩) n cap) n (prs (l.set k p)) ∧
      w.grownBy ((w.setCell ⟨g, k * 2, none⟩ (.int .i64 p.1.id)).setCell ⟨g, k * 2 + 1, none⟩ p.2) (some g) := by
  have s1 := h.stored (k * 2) (.int .i64 p.1.id)
  have s2 := s1.1.stored (k * 2 + 1) p.2
  rw [prs_set l k p hk]
  exact ⟨s2.1, s1.2.trans s2.2⟩
/-- v is a slice of Rows of the call's own, blocks lo to hi. -/
def OwnRs (lo hi : Nat) (w : World) (v : Value) (ps : List P) : Prop :=
  Own 91 2 lo hi w v ps.length (prs ps) ∧ (∀ p ∈ ps, Own 29 3 lo hi w p.2 p.1.l.length (vals p.1.l)) ∧ (ps.map fun p => p.2.ownBlock).Nodup
theorem OwnRs.rd {lo hi : Nat} {w : World} {v : Value} {ps : List P} (h : OwnRs lo hi w v ps) : RdRs w v ps := ⟨h.1.rd, fun p hp => (h.2.1 p hp).rd⟩
theorem OwnRs.below {lo hi B : Nat} {w w' : World} {v : Value} {ps : List P} (h : OwnRs lo hi w v ps) (hb : Below B w w') (hB : hi ≤ B) : OwnRs lo hi w' v ps := ⟨h.1.below hb hB, fun p hp => (h.2.1 p hp).below hb hB, h.2.2⟩
theorem fill_set {α : Type} (qs : List α) (x z : α) (n k : Nat) (hq : qs.length = k) (hk : k < n) : (qs ++ List.replicate (n - k) z).set k x = (qs ++ [x]) ++ List.replicate (n - (k + 1)) z := by
  rw [List.set_append_right _ _ (by omega), hq, Nat.sub_self, show n - k = (n - (k + 1)) + 1 by omega, List.replicate_succ, List.set_cons_zero, List.append_assoc]
  rfl

set_option maxHeartbeats 1000000 in
theorem toRowS (v : Value) (ps : List P) (w : World) (hle : ps.length ≤ 1048576) (hli : ∀ p ∈ ps, p.1.l.length ≤ 1048576) (h : RdRs w v ps) :
    Calls Tryd.prog 42 #[v] w fun e w' => ∃ v' qs, e = .returned v' ∧ qs.map (·.1) = ps.map (·.1) ∧ OwnRs w.heap.size w'.heap.size w' v' qs ∧ Below w.heap.size w w' := by
  generalize hl : ps.length = n at hle
  obtain ⟨a, cap, rfl, _, HC⟩ := h.walk hl
  have HL := Lib.hid hl
  have HS : Hid (∀ k, k < n → (ps.getD k P.zero).1.l.length ≤ 1073741824) := fun k hk => by
    have hk' : k < ps.length := by omega
    have e : ps.getD k P.zero = ps[k] := by simp [hk']
    rw [e]
    exact Nat.le_trans (hli _ (List.getElem_mem hk')) (by decide)
  have HM : Hid (∀ k, k < n → (ps.take (k + 1)).map (·.1) = (ps.take k).map (·.1) ++ [(ps.getD k P.zero).1]) := fun k hk => by
    have hk' : k < ps.length := by omega
    have e : ps.getD k P.zero = ps[k] := by simp [hk']
    rw [e, List.take_succ_eq_append_getElem hk', List.map_append]
    rfl
  clear hl h hli
  go_enter Tryd.func42, Tryd.ntmps42
  go_wp2_with (at_make; refine make_law Tryd.elemRows rfl _ _ rfl .i64 .i64 _ _ n rfl rfl rfl rfl (by omega) (by unfold maxLen; omega) ?_)
  intro w1 hown1 hb1
  have hown0 : w1.ownsRow w.heap.size 91 2 (.slice (some ⟨w.heap.size, 0, none⟩) n n) n (prs ([] ++ List.replicate (n - 0) P.zero)) := by
    have e : prs ([] ++ List.replicate (n - 0) P.zero) = (madeCells (P.cs P.zero).toArray (n * 2)).toList := by
      rw [made_flat P.cs P.zero 2 n (by omega) (fun _ => rfl)]
      simp [prs]
    rw [e]
    exact hown1.row
  clear hown1
  go_wp2
  go_loopw [4] (fun i wr => ∃ (k : Nat) (qs : List P), k ≤ n ∧ i = .int .i64 k ∧ qs.length = k ∧ qs.map (·.1) = (ps.take k).map (·.1) ∧ wr.ownsRow w.heap.size 91 2 (.slice (some ⟨w.heap.size, 0, none⟩) n n) n (prs (qs ++ List.replicate (n - k) P.zero))
    ∧ (∀ p ∈ qs, Own 29 3 (w.heap.size + 1) wr.heap.size wr p.2 p.1.l.length (vals p.1.l)) ∧ (qs.map fun p => p.2.ownBlock).Nodup ∧ Below w.heap.size w wr) (fun i _ => n - (intOf i).toNat)
  case atStart => exact ⟨0, [], Nat.zero_le _, rfl, rfl, rfl, hown0, by simp, by simp, hb1⟩
  case round =>
    obtain ⟨k, qs, hk, rfl, hq, hqm, hownr, hin, hnd, hbr⟩ := hrel
    by_cases hkl : k < n
    · obtain ⟨b, off, rfl, c0, c1, hr⟩ := HC.out k hkl wr hbr
      have HT := Lib.hid (toRow (ps.getD k P.zero).1 (ps.getD k P.zero).2 wr (HS.out k hkl) hr)
      have HMK := Lib.hid (HM.out k hkl)
      rw [← hqm] at HMK
      generalize ps.getD k P.zero = p at c0 c1 hr HT HMK
      obtain ⟨r, u⟩ := p
      obtain ⟨a', cap', hu, _, _⟩ := hr
      simp only at hu c0 c1 HT HMK
      subst hu
      have HI := Lib.hid hin
      have HN := Lib.hid hnd
      have HQ := Lib.hid hq
      clear hin hnd hq hqm
      go_wp2_with fail
      refine HT.out.mono ?_
      rintro e w2 ⟨v2, rfl, o2, hb2⟩
      have O2 := Lib.hid o2
      obtain ⟨g2, cp2, rfl⟩ : ∃ g cp, v2 = .slice (some ⟨g, 0, none⟩) r.l.length cp := by
        obtain ⟨g, cp, e, _⟩ := o2
        exact ⟨g, cp, e⟩
      have r2 := ((own_of_row hownr (Nat.le_refl _)).below hb2 (Nat.le_refl _)).row
      have hb3 := below_then hbr hb2 hbr.size
      have R := Lib.hid (stored2 r2 k (r, .slice (some ⟨g2, 0, none⟩) r.l.length cp2) (by simp [HQ.out]; omega))
      rw [fill_set qs _ P.zero n k HQ.out hkl] at R
      have HW : Hid (wr.heap.size ≤ w2.heap.size) := hb2.size
      have HW0 : Hid (w.heap.size < wr.heap.size) := (hownr.lt _ rfl).2
      have HI2 : Hid (∀ p ∈ qs, Own 29 3 (w.heap.size + 1) wr.heap.size w2 p.2 p.1.l.length (vals p.1.l)) := fun p hp => (HI.out p hp).below hb2 (Nat.le_refl _)
      obtain ⟨x0, s0⟩ := cellAt_some r2 (k * 2) (by omega)
      obtain ⟨x1, s1⟩ := cellAt_some r2 (k * 2 + 1) (by omega)
      have f0 := r2.frozenAt (k * 2)
      have f1 := r2.frozenAt (k * 2 + 1)
      clear hownr hbr r2 hb2 o2 c0 c1 HT HI
      obtain ⟨i, l⟩ := r
      simp only at R O2 HMK
      go_wp2
      go_roundw
      case rel =>
        refine ⟨k + 1, qs ++ [(⟨i, l⟩, .slice (some ⟨g2, 0, none⟩) l.length cp2)], by omega, by go_num, by simp [HQ.out], by rw [HMK.out]; simp, R.out.1, ?_, ?_, hb3.trans ⟨R.out.2.os, R.out.2.tape, R.out.2.output, R.out.2.size, fun j hj => R.out.2.block j (by have := hb3.size; omega) (by simp; omega)⟩⟩
        · intro p hp
          rcases List.mem_append.1 hp with hp | hp
          · exact ((HI2.out p hp).grown R.out.2 (fun g hg => by simp at hg; omega)).wide (Nat.le_trans HW.out R.out.2.size)
          · rw [List.mem_singleton.1 hp]
            exact ((O2.out.grown R.out.2 (fun g hg => by have := HW0.out; simp at hg; omega)).lower HW0.out).wide R.out.2.size
        · rw [List.map_append, List.nodup_append]
          refine ⟨HN.out, by simp, fun x hx y hy => ?_⟩
          obtain ⟨p, hp, rfl⟩ := List.mem_map.1 hx
          simp only [List.map_cons, List.map_nil, List.mem_singleton] at hy
          subst hy
          intro he
          obtain ⟨g, cp, e1, e2, e3, _⟩ := HI2.out p hp
          obtain ⟨g', cp', e4, e5, e6, _⟩ := O2.out
          rw [e1] at he
          simp only [Value.slice.injEq, Option.some.injEq, Addr.mk.injEq, true_and, and_true] at e4
          simp [Value.ownBlock] at he
          omega
      case measure => simp [intOf]; omega
    · obtain rfl : k = n := by omega
      rw [Nat.sub_self, List.replicate_zero, List.append_nil] at hownr
      rw [← HL.out, List.take_length] at hqm
      go_wp2
      go_ret
      have hz := (hownr.lt _ rfl).2
      refine ⟨_, rfl, qs, hqm, ⟨?_, fun p hp => (hin p hp).lower (by omega), hnd⟩, hbr⟩
      rw [hq]
      exact ⟨_, _, rfl, Nat.le_refl _, hz, hownr⟩

theorem getD_fst (ps : List P) (k : Nat) : (ps.getD k P.zero).1 = (ps.map (·.1)).getD k P.zero.1 := by
  by_cases h : k < ps.length
  · simp [h]
  · simp [h]

set_option maxHeartbeats 1000000 in
theorem eqRowS (u v : Value) (ps qs : List P) (w : World) (he : qs.map (·.1) = ps.map (·.1)) (hu : RdRs w u ps) (hv : RdRs w v qs) :
    Calls Tryd.prog 45 #[u, v] w fun e w' => e = .returned (.bool true) ∧ Below w.heap.size w w' := by
  have hlq : qs.length = ps.length := by simpa using congrArg List.length he
  generalize hl : ps.length = n at hlq
  obtain ⟨a1, c1, rfl, hm1, HC1⟩ := hu.walk hl
  obtain ⟨a2, c2, rfl, hm2, HC2⟩ := hv.walk hlq
  have HE : Hid (∀ k, (qs.getD k P.zero).1 = (ps.getD k P.zero).1) := fun k => by rw [getD_fst, getD_fst, he]
  clear hl hlq hu hv hm2 he
  unfold maxLen at hm1
  have hne : ((n : Int) != (n : Int)) = false := by simp
  go_enter Tryd.func45, Tryd.ntmps45
  go_wp2
  go_loopw [5] (fun i wr => ∃ k : Nat, k ≤ n ∧ i = .int .i64 k ∧ Below w.heap.size w wr) (fun i _ => n - (intOf i).toNat)
  case atStart => exact ⟨0, Nat.zero_le _, rfl, Below.refl _ _⟩
  case round =>
    obtain ⟨k, hk, rfl, hbr⟩ := hrel
    by_cases hlt : k < n
    · obtain ⟨b1, o1, rfl, p0, p1, pr⟩ := HC1.out k hlt wr hbr
      obtain ⟨b2, o2, rfl, q0, q1, qr⟩ := HC2.out k hlt wr hbr
      have HEK := Lib.hid (HE.out k)
      rw [HEK.out] at q0 qr
      generalize (ps.getD k P.zero).1 = r at p0 pr q0 qr HEK
      generalize (ps.getD k P.zero).2 = x at p1 pr
      generalize (qs.getD k P.zero).2 = y at q1 qr
      have HX := Lib.hid (fun W (hW : Below wr.heap.size wr W) => eqRow r x y W (pr.below hW) (qr.below hW))
      have HK : Hid (∀ W, Below wr.heap.size wr W → W.cell? ⟨b1, o1 + k * 2, none⟩ = some (.int .i64 r.id) ∧ W.cell? ⟨b1, o1 + k * 2 + 1, none⟩ = some x ∧ W.cell? ⟨b2, o2 + k * 2, none⟩ = some (.int .i64 r.id) ∧ W.cell? ⟨b2, o2 + k * 2 + 1, none⟩ = some y) := fun W h =>
        ⟨(h.cell (p := ⟨b1, o1 + k * 2, none⟩) (lt_of_cell p0)).trans p0, (h.cell (p := ⟨b1, o1 + k * 2 + 1, none⟩) (lt_of_cell p1)).trans p1, (h.cell (p := ⟨b2, o2 + k * 2, none⟩) (lt_of_cell q0)).trans q0, (h.cell (p := ⟨b2, o2 + k * 2 + 1, none⟩) (lt_of_cell q1)).trans q1⟩
      have hB' := (Below.refl wr.heap.size wr).drew
      obtain ⟨ri, rl⟩ := r
      simp only at p0 p1 q0 q1 HK
      clear pr qr HEK
      go_wp2
      go_region_held3 (fun W => W.cell? ⟨b1, o1 + k * 2, none⟩ = some (.int .i64 ri) ∧ W.cell? ⟨b1, o1 + k * 2 + 1, none⟩ = some x ∧ W.cell? ⟨b2, o2 + k * 2, none⟩ = some (.int .i64 ri) ∧ W.cell? ⟨b2, o2 + k * 2 + 1, none⟩ = some y) (exact HK.out _ hB') ((go_at_call 76; (with_reducible refine (HX.out _ hB').mono ?_); rintro e w2 ⟨rfl, hb2⟩; replace hB' := below_then hB' hb2 hB'.size))
      go_wp2
      go_roundw
      case rel => exact ⟨k + 1, by omega, by go_num, below_then hbr hB' hbr.size⟩
      case measure => simp [intOf]; omega
    · go_wp2
      go_ret
      exact ⟨rfl, hbr⟩

end Go.Proofs.YtkofafefnlommaaDoor

/- The contracts of the model's chapter 4 that do no text: ColsOk, FitsCols, RowOk, SameRow, SameRows, Column. -/
namespace Go.Proofs.YtkofafefnlommaaDoor
open Go.RowKit

/-- ColsOk. -/
def colsB (zs : List Int) : Bool := zs.all (fun z => Num.inB z 1 2) && Num.inB zs.length 1 3
theorem colsB_no {zs : List Int} {k : Nat} (hk : k < zs.length) (h : Num.inB (zs.getD k 0) 1 2 = false) : colsB zs = false := by
  have e : zs.getD k 0 = zs[k] := by simp [hk]
  rw [e] at h
  unfold colsB
  rw [Bool.and_eq_false_iff]
  left
  rw [List.all_eq_false]
  exact ⟨_, List.getElem_mem hk, by rw [h]; simp⟩
theorem colsB_all {zs : List Int} (h : ∀ k, k < zs.length → Num.inB (zs.getD k 0) 1 2 = true) : colsB zs = Num.inB zs.length 1 3 := by
  unfold colsB
  rw [List.all_eq_true.2, Bool.true_and]
  intro z hz
  obtain ⟨k, hk, rfl⟩ := List.getElem_of_mem hz
  have := h k hk
  simpa [hk] using this

-- FITSCOLS
/-- A value that fits its column. -/
def fitB (z : Int) (v : V) : Bool := okV v && v.ty == z
/-- FitsCols. -/
def fitsB (zs : List Int) (l : List V) : Bool := all2 fitB zs l

-- FITSCOLS

end Go.Proofs.YtkofafefnlommaaDoor

/- The contracts of the model's chapter 4, more: RowOk, SameRow, SameRows, Column. -/
namespace Go.Proofs.YtkofafefnlommaaDoor
open Go.RowKit

/-- RowOk. -/
def rowB (zs : List Int) (r : R) : Bool := decide (0 ≤ r.id) && fitsB zs r.l
/-- SameRow. -/
def R.eqB (a b : R) : Bool := a.id == b.id && sameV a.l b.l
/-- SameRows. -/
def sameR (l r : List R) : Bool := all2 R.eqB l r
def R.zero : R := ⟨0, []⟩

/-- Column. -/
def colR (l : List R) (k : Int) : List V := l.filterMap fun r => if Num.inB k 0 ((r.l.length : Int) - 1) = true then r.l[k.toNat]? else none
theorem colR_le (l : List R) (k : Int) : (colR l k).length ≤ l.length := List.length_filterMap_le _ _
theorem colR_snoc (l : List R) (r : R) (k : Int) : colR (l ++ [r]) k = colR l k ++ (if Num.inB k 0 ((r.l.length : Int) - 1) = true then r.l[k.toNat]? else none).toList := by
  unfold colR
  rw [List.filterMap_append]
  congr 1

end Go.Proofs.YtkofafefnlommaaDoor

/- Plain mathematics of chapter 12: queries and their results. -/
namespace Go.Proofs.YtkofafefnlommaaDoor
open Go.RowKit

/-- A Query. -/
structure Qu where
  kind : Int
  t : T
  col : Int
  out : List Int
/-- A Result. -/
structure Rs where
  rows : List R
  n : Int
  has : Bool
  v : V
def Rs.zero : Rs := ⟨[], 0, false, V.zero⟩
abbrev Qu.agg (q : Qu) (u o : Value) : Value := .agg #[.int .i64 q.kind, .int .i64 q.t.kind, .int .i64 q.t.col, .int .i64 q.t.op, .int .i64 q.t.v.ty, .int .i64 q.t.v.n, .string q.t.v.s, u, .int .i64 q.col, o]
abbrev Rs.agg (r : Rs) (u : Value) : Value := .agg #[u, .int .i64 r.n, .bool r.has, .int .i64 r.v.ty, .int .i64 r.v.n, .string r.v.s]
def Qu.cs (q : Qu) (u o : Value) : List Value := [.int .i64 q.kind, .int .i64 q.t.kind, .int .i64 q.t.col, .int .i64 q.t.op, .int .i64 q.t.v.ty, .int .i64 q.t.v.n, .string q.t.v.s, u, .int .i64 q.col, o]
def Rs.cs (r : Rs) (u : Value) : List Value := [u, .int .i64 r.n, .bool r.has, .int .i64 r.v.ty, .int .i64 r.v.n, .string r.v.s]

/-- Meant. -/
def meantL (t : T) (l : List R) : List R := l.filter fun r => t.holds r.l
theorem meantL_snoc (t : T) (l : List R) (r : R) : meantL t (l ++ [r]) = if t.holds r.l = true then meantL t l ++ [r] else meantL t l := by
  unfold meantL
  rw [List.filter_append]
  cases h : t.holds r.l with
  | true => simp [h]
  | false => simp [h]
theorem meantL_len (t : T) (l : List R) : (meantL t l).length ≤ l.length := List.length_filter_le _ _
theorem meantL_mem {t : T} {l : List R} {r : R} (h : r ∈ meantL t l) : r ∈ l ∧ t.holds r.l = true := by
  unfold meantL at h
  simpa using h
theorem meantL_self (t : T) (l : List R) : meantL t (meantL t l) = meantL t l := by
  unfold meantL
  rw [List.filter_filter]
  simp
/-- The value at a place, if there is one. -/
def atL (l : List V) (k : Int) : Option V := if Num.inB k 0 ((l.length : Int) - 1) = true then l[k.toNat]? else none
theorem atL_yes {l : List V} {k : Int} (h : 0 ≤ k ∧ k < l.length) : atL l k = some (l.getD k.toNat V.zero) := by
  unfold atL
  rw [if_pos (Num.inB_true.2 (by omega)), List.getElem?_eq_getElem (by omega), getDe l V.zero (by omega)]
theorem atL_no {l : List V} {k : Int} (h : ¬ (0 ≤ k ∧ k < l.length)) : atL l k = none := by
  unfold atL
  rw [if_neg (by rw [Num.inB_true]; omega)]
/-- The values of a row that a query returns. -/
def cutL (l : List V) (cols : List Int) : List V := cols.filterMap (atL l)
theorem cutL_snoc (l : List V) (cols : List Int) (k : Int) : cutL l (cols ++ [k]) = cutL l cols ++ (atL l k).toList := by
  unfold cutL
  rw [List.filterMap_append]
  congr 1
theorem cutL_len (l : List V) (cols : List Int) : (cutL l cols).length ≤ cols.length := List.length_filterMap_le _ _
def cutR (r : R) (cols : List Int) : R := ⟨r.id, cutL r.l cols⟩
theorem colR_snoc' (l : List R) (r : R) (k : Int) : colR (l ++ [r]) k = colR l k ++ (atL r.l k).toList := colR_snoc l r k
def wr64 (x : Int) : Int := IntKind.i64.wrap x
/-- The sum of numbers, as 64 bits hold it. -/
def sumL (l : List V) : Int := l.foldl (fun a v => wr64 (a + v.n)) 0
theorem sumL_snoc (l : List V) (v : V) : sumL (l ++ [v]) = wr64 (sumL l + v.n) := by
  unfold sumL
  rw [List.foldl_append]
  rfl
theorem wr64_in {x : Int} (h : -9223372036854775808 ≤ x ∧ x ≤ 9223372036854775807) : wr64 x = x := IntWalk.i64_in _ (by omega)
theorem wr64_bd (x : Int) : -9223372036854775808 ≤ wr64 x ∧ wr64 x ≤ 9223372036854775807 := by
  unfold wr64
  rw [IntKind.wrap_i64]
  omega
theorem sumL_bd (l : List V) : -9223372036854775808 ≤ sumL l ∧ sumL l ≤ 9223372036854775807 := by
  rcases List.eq_nil_or_concat l with rfl | ⟨l', v, rfl⟩
  · decide
  · rw [List.concat_eq_append, sumL_snoc]
    exact wr64_bd _

/-- Answer. -/
def ansL (q : Qu) (l : List R) : Rs :=
  if q.kind = 1 then ⟨(meantL q.t l).map (fun r => cutR r q.out), 0, false, V.zero⟩
  else if q.kind = 2 then ⟨[], ((meantL q.t l).length : Int), false, V.zero⟩
  else if q.kind = 3 then ⟨[], sumL (colR (meantL q.t l) q.col), false, V.zero⟩
  else if q.kind = 4 then ⟨[], 0, decide (0 < (colR (meantL q.t l) q.col).length), (zoneL (colR (meantL q.t l) q.col)).lo⟩
  else if q.kind = 5 then ⟨[], 0, decide (0 < (colR (meantL q.t l) q.col).length), (zoneL (colR (meantL q.t l) q.col)).hi⟩
  else Rs.zero
/-- What a single row gives. -/
def ofL (q : Qu) (r : R) : Rs :=
  if q.kind = 1 then ⟨[cutR r q.out], 0, false, V.zero⟩
  else if q.kind = 2 then ⟨[], 1, false, V.zero⟩
  else if q.kind = 3 then ⟨[], ((atL r.l q.col).getD V.zero).n, false, V.zero⟩
  else ⟨[], 0, (atL r.l q.col).isSome, (atL r.l q.col).getD V.zero⟩
/-- One result extended by another. -/
def addL (k : Int) (a b : Rs) : Rs :=
  if k = 1 then ⟨a.rows ++ b.rows, a.n, a.has, a.v⟩
  else if k = 2 ∨ k = 3 then ⟨a.rows, wr64 (a.n + b.n), a.has, a.v⟩
  else if k = 4 then (if (b.has && (!a.has || lessV b.v a.v)) = true then ⟨a.rows, a.n, true, b.v⟩ else a)
  else (if (b.has && (!a.has || lessV a.v b.v)) = true then ⟨a.rows, a.n, true, b.v⟩ else a)
theorem zone_lo_snoc (l : List V) (v : V) : (zoneL (l ++ [v])).lo = if decide (0 < l.length) = false ∨ lessV v (zoneL l).lo = true then v else (zoneL l).lo := by
  cases l with
  | nil => rfl
  | cons x l =>
    rw [zoneL_step _ _ (by simp)]
    show (if lessV v (zoneL (x :: l)).lo = true then v else (zoneL (x :: l)).lo) = _
    simp
theorem zone_hi_snoc (l : List V) (v : V) : (zoneL (l ++ [v])).hi = if decide (0 < l.length) = false ∨ lessV (zoneL l).hi v = true then v else (zoneL l).hi := by
  cases l with
  | nil => rfl
  | cons x l =>
    rw [zoneL_step _ _ (by simp)]
    show (if lessV (zoneL (x :: l)).hi v = true then v else (zoneL (x :: l)).hi) = _
    simp
theorem ansL_no {q : Qu} {l : List R} (h : ¬ (1 ≤ q.kind ∧ q.kind ≤ 5)) : ansL q l = Rs.zero := by
  unfold ansL
  rw [if_neg (by omega), if_neg (by omega), if_neg (by omega), if_neg (by omega), if_neg (by omega)]
theorem kinds5 {k : Int} (h : 1 ≤ k ∧ k ≤ 5) : k = 1 ∨ k = 2 ∨ k = 3 ∨ k = 4 ∨ k = 5 := by omega
theorem ansL_nil {q : Qu} : ansL q [] = Rs.zero := by
  unfold ansL
  split
  · rfl
  split
  · rfl
  split
  · rfl
  split
  · rfl
  split <;> rfl
theorem ansL_skip {q : Qu} {l : List R} {r : R} (h : q.t.holds r.l = false) : ansL q (l ++ [r]) = ansL q l := by
  have e : meantL q.t (l ++ [r]) = meantL q.t l := by rw [meantL_snoc, if_neg (by simp [h])]
  unfold ansL
  rw [e]
theorem ansL_take {q : Qu} {l : List R} {r : R} (hk : 1 ≤ q.kind ∧ q.kind ≤ 5) (hl : l.length < 4611686018427387904) (h : q.t.holds r.l = true) : ansL q (l ++ [r]) = addL q.kind (ansL q l) (ofL q r) := by
  have e : meantL q.t (l ++ [r]) = meantL q.t l ++ [r] := by rw [meantL_snoc, if_pos h]
  have hm := meantL_len q.t l
  rcases kinds5 hk with k | k | k | k | k
  · simp [ansL, addL, ofL, k, e]
  · simp only [ansL, addL, ofL, k, e]
    simp
    rw [wr64_in (by omega)]
  · simp only [ansL, addL, ofL, k, e, colR_snoc']
    cases ha : atL r.l q.col with
    | none =>
      have := sumL_bd (colR (meantL q.t l) q.col)
      simp [V.zero, wr64_in this]
    | some v => simp [sumL_snoc]
  · simp only [ansL, addL, ofL, k, e, colR_snoc']
    cases ha : atL r.l q.col with
    | none => simp
    | some v =>
      simp [zone_lo_snoc]
      by_cases h0 : colR (meantL q.t l) q.col = []
      · simp [h0]
      · simp [h0]
        split <;> simp_all [List.length_pos_iff]
  · simp only [ansL, addL, ofL, k, e, colR_snoc']
    cases ha : atL r.l q.col with
    | none => simp
    | some v =>
      simp [zone_hi_snoc]
      by_cases h0 : colR (meantL q.t l) q.col = []
      · simp [h0]
      · simp [h0]
        split <;> simp_all [List.length_pos_iff]

/-- Joined, as the document has it. -/
def hasL (r : Rs) : List V := if r.has = true then [r.v] else []
def joinL (k : Int) (a b : Rs) : Rs :=
  if k = 1 then ⟨a.rows ++ b.rows, 0, false, V.zero⟩
  else if k = 2 ∨ k = 3 then ⟨[], wr64 (a.n + b.n), false, V.zero⟩
  else if k = 4 then ⟨[], 0, a.has || b.has, (zoneL (hasL a ++ hasL b)).lo⟩
  else if k = 5 then ⟨[], 0, a.has || b.has, (zoneL (hasL a ++ hasL b)).hi⟩
  else Rs.zero
theorem joinL_add {k : Int} {a b : Rs} (hk : 1 ≤ k ∧ k ≤ 5) (ha : -9223372036854775808 ≤ a.n ∧ a.n ≤ 9223372036854775807) : joinL k a b = addL k (addL k Rs.zero a) b := by
  rcases kinds5 hk with rfl | rfl | rfl | rfl | rfl
  · simp [joinL, addL, Rs.zero]
  · simp [joinL, addL, Rs.zero, wr64_in ha]
  · simp [joinL, addL, Rs.zero, wr64_in ha]
  · cases h1 : a.has <;> cases h2 : b.has <;> simp [joinL, addL, Rs.zero, hasL, h1, h2, zoneL, stepZ] <;> first | rfl | (split <;> simp_all)
  · cases h1 : a.has <;> cases h2 : b.has <;> simp [joinL, addL, Rs.zero, hasL, h1, h2, zoneL, stepZ] <;> first | rfl | (split <;> simp_all)

end Go.Proofs.YtkofafefnlommaaDoor

/- The contracts of impl's intVal, textVal, textByte, textOk, ValOk. -/
namespace Go.Proofs.YtkofafefnlommaaDoor
open Go.RowKit

theorem iIntVal (n : Int) (w : World) : Calls Tryd.prog 97 #[.int .i64 n] w fun e w' => e = .returned (V.agg ⟨1, n, ⟨#[]⟩⟩) ∧ Below w.heap.size w w' := by
  go_enter Tryd.func97, Tryd.ntmps97
  go_wp2
  exact bodyPost_ret (v := .agg #[.int .i64 1, .int .i64 n, .string ⟨#[]⟩]) (by simp [results, Tryd.results97, go_sem]) rfl ⟨rfl, below_alloc _ _⟩
theorem iTextVal (s : ByteArray) (w : World) : Calls Tryd.prog 99 #[.string s] w fun e w' => e = .returned (V.agg ⟨2, 0, s⟩) ∧ Below w.heap.size w w' := by
  go_enter Tryd.func99, Tryd.ntmps99
  go_wp2
  exact bodyPost_ret (v := .agg #[.int .i64 2, .int .i64 0, .string s]) (by simp [results, Tryd.results99, go_sem]) rfl ⟨rfl, below_alloc _ _⟩

theorem iTextByte (c : Nat) (w : World) : Calls Tryd.prog 105 #[.int .u8 c] w fun e w' => e = .returned (.bool (Num.inB c 97 122 || Num.inB c 48 57)) ∧ w = w' := by
  by_cases h1 : 97 ≤ c
  · by_cases h2 : c ≤ 122
    · go_enter Tryd.func105, Tryd.ntmps105
      go_wp2
      go_ret
      exact ⟨ret_bool (by unfold Num.inB; rw [Bool.eq_iff_iff]; simp; omega), rfl⟩
    · go_enter Tryd.func105, Tryd.ntmps105
      go_wp2
      go_ret
      exact ⟨ret_bool (by unfold Num.inB; rw [Bool.eq_iff_iff]; simp; omega), rfl⟩
  · by_cases h3 : 48 ≤ c
    · go_enter Tryd.func105, Tryd.ntmps105
      go_wp2
      go_ret
      exact ⟨ret_bool (by unfold Num.inB; rw [Bool.eq_iff_iff]; simp; omega), rfl⟩
    · go_enter Tryd.func105, Tryd.ntmps105
      go_wp2
      go_ret
      exact ⟨ret_bool (by unfold Num.inB; rw [Bool.eq_iff_iff]; simp; omega), rfl⟩

theorem iTextOk (s : ByteArray) (w : World) (hs : s.size ≤ maxLen) : Calls Tryd.prog 100 #[.string s] w fun e w' => e = .returned (.bool (txtB s)) ∧ w = w' := by
  unfold maxLen at hs
  by_cases h6 : s.size ≤ 6
  · go_enter Tryd.func100, Tryd.ntmps100
    go_wp2
    go_loop [9] (fun i => ∃ k : Nat, k ≤ s.size ∧ i = .int .i64 k ∧ ∀ j (hj : j < s.size), j < k → chrB s[j] = true) (fun i => s.size - (intOf i).toNat)
    case atStart => exact ⟨0, Nat.zero_le _, rfl, fun j _ hj => by omega⟩
    case round =>
      obtain ⟨k, hk, rfl, hok⟩ := hrel
      have HOK := Lib.hid hok
      clear hok
      by_cases hlt : k < s.size
      · have HS : Hid (chrB s[k] = true → ∀ j (hj : j < s.size), j < k + 1 → chrB s[j] = true) := fun h j hj hjk => by
          by_cases e : j = k
          · subst e; exact h
          · exact HOK.out j hj (by omega)
        have HN : Hid (chrB s[k] = false → txtB s = false) := txtB_bad hlt
        have HT := Lib.hid (fun W => iTextByte s[k].toNat W)
        have HD : Hid ((Num.inB s[k].toNat 97 122 || Num.inB s[k].toNat 48 57) = chrB s[k]) := rfl
        rw [HD.out] at HT
        cases hc : chrB s[k] with
        | true =>
          have HS2 := Lib.hid (HS.out hc)
          rw [hc] at HT
          clear hc HS HN HD
          go_wp2_with (go_at_call 105; refine (HT.out _).mono ?_; rintro e w' ⟨rfl, rfl⟩)
          go_round
          case rel => exact ⟨k + 1, by omega, by go_num, HS2.out⟩
          case measure => simp [intOf]; omega
        | false =>
          have HN2 := Lib.hid (HN.out hc)
          rw [hc] at HT
          clear hc HS HN HD
          go_wp2_with (go_at_call 105; refine (HT.out _).mono ?_; rintro e w' ⟨rfl, rfl⟩)
          go_ret
          exact ⟨ret_bool HN2.out.symm, rfl⟩
      · obtain rfl : k = s.size := by omega
        have HA : Hid (txtB s = true) := txtB_all h6 (fun j hj => HOK.out j hj hj)
        go_wp2
        go_ret
        exact ⟨ret_bool HA.out.symm, rfl⟩
  · have HA : Hid (txtB s = false) := by
      show txtB s = false
      unfold txtB
      rw [decide_eq_false h6]
      rfl
    go_enter Tryd.func100, Tryd.ntmps100
    go_wp2
    go_ret
    exact ⟨ret_bool HA.out.symm, rfl⟩

end Go.Proofs.YtkofafefnlommaaDoor

/- The contracts of the model's Holds1, InZone, MayHold1, Opposite, OpText (written by mk_S10.py). -/
namespace Go.Proofs.YtkofafefnlommaaDoor
open Go.RowKit

set_option maxHeartbeats 1000000 in
theorem sOpText (op : Int) (w : World) : Calls Tryd.prog 27 #[.int .i64 op] w fun e w' => e = .returned (.string (opT op)) ∧ Below w.heap.size w w' := by
  have HI := Lib.hid (fun W => l1In op 1 6 W)
  cases hk : Num.inB op 1 6 with
  | false =>
    rw [hk] at HI
    have HK := Lib.hid ((op_no (Num.inB_false.1 hk)).2.1)
    generalize opT op = r at HK ⊢
    clear hk
    go_enter Tryd.func27, Tryd.ntmps27
    go_wp2_with (go_at_call 29; refine (HI.out _).mono ?_; clear HI; rintro e w' ⟨rfl, rfl⟩)
    go_ret
    exact ⟨by rw [HK.out]; rfl, Below.refl _ _⟩
  | true =>
    have hb := Num.inB_true.1 hk
    rw [hk] at HI
    clear hk
    have B := below_alloc w (.cells #[.string ⟨#[]⟩, .string ⟨#[60]⟩, .string ⟨#[60, 61]⟩, .string ⟨#[61]⟩, .string ⟨#[33, 61]⟩, .string ⟨#[62, 61]⟩, .string ⟨#[62]⟩] 9)
    rcases op_cases hb with rfl | rfl | rfl | rfl | rfl | rfl
    all_goals
      clear hb
      go_enter Tryd.func27, Tryd.ntmps27
      go_wp2_with (go_at_call 29; refine (HI.out _).mono ?_; clear HI; rintro e w' ⟨rfl, rfl⟩)
      go_ret
      exact ⟨rfl, B⟩

end Go.Proofs.YtkofafefnlommaaDoor
