/- Texts of this claim, one behind the other: VSpec, VOk, S5, R4, R4S, R4M, S4, S4b, M13, M13r, SameV, SameR, Law4, RowsH, IVals, I4, IVal, IValOk, Law4b, EqV. -/
import Derived.Test.YtkofafefnlommaaP11
import Derived.Test.YtkofafefnlommaaP4
import Derived.Laws.StructEq
import Derived.ChangeKeysEq
import Derived.Test.YtkofafefnlommaaP5
import Derived.Test.YtkofafefnlommaaP3
import Derived.BigQuiet
import Derived.Deep.RegionHeld3

/- The contracts of the model's chapter 3 that do no text: LessVal, SameVals, NumsOf, TextsOf, ValOk. -/
namespace Go.Proofs.Ytkofafefnlommaa
open Go.RowKit

theorem Try.elemStrs : ElemT Try.prog 99 9 (.string ⟨#[]⟩) 1 16 := ⟨Try.underlying99, info_parts (by kernel_rfl), rfl, by decide⟩

/-- LessVal. -/
def lessV (a b : V) : Bool := if (a.ty != b.ty) = true then decide (a.ty < b.ty) else if (a.n != b.n) = true then decide (a.n < b.n) else Op.bytesLess a.s.toList b.s.toList
theorem list3 {α : Type} {l : List α} (h : l.length = 3) : ∃ a b c, l = [a, b, c] := by
  match l, h with
  | [a, b, c], _ => exact ⟨a, b, c, rfl⟩
/-- a == b. -/
def V.eqB (a b : V) : Bool := (a.ty == b.ty) && ((a.n == b.n) && (a.s.toList == b.s.toList))
theorem run_eq_val (a b : V) (w : World) : (Op.equalIn 10000 76 a.agg b.agg).run Try.prog w = .ok (a.eqB b) w := by
  obtain ⟨t1, n1, s1⟩ := a
  obtain ⟨t2, n2, s2⟩ := b
  rw [show V.agg ⟨t1, n1, s1⟩ = .agg #[.int .i64 t1, .int .i64 n1, .string s1] from rfl, show V.agg ⟨t2, n2, s2⟩ = .agg #[.int .i64 t2, .int .i64 n2, .string s2] from rfl]
  rw [run_equalIn_struct w 9999 76 _ _ (by kernel_rfl) (by kernel_rfl)]
  have hf : ((Try.prog.fieldsOf 76).toList.map fun f => (f.name, f.type, f.offset)) = [("Ty", 3, 0), ("N", 3, 1), ("S", 9, 2)] := by kernel_rfl
  generalize (Try.prog.fieldsOf 76).toList = fs at hf ⊢
  obtain ⟨f0, f1, f2, rfl⟩ := list3 (by simpa using congrArg List.length hf)
  simp only [List.map_cons, List.map_nil, List.cons.injEq, Prod.mk.injEq, and_true] at hf
  obtain ⟨⟨a0, a1, a2⟩, ⟨b0, b1, b2⟩, c0, c1, c2⟩ := hf
  have hp3 : Try.prog.plainKey 3 = true := by kernel_rfl
  have hp9 : Try.prog.plainKey 9 = true := by kernel_rfl
  have P0 := fun (W : World) (x y z : Value) => run_part_plain (P := Try.prog) W hp3 (xs := #[x, y, z]) (off := 0) (v := x) rfl
  have P1 := fun (W : World) (x y z : Value) => run_part_plain (P := Try.prog) W hp3 (xs := #[x, y, z]) (off := 1) (v := y) rfl
  have P2 := fun (W : World) (x y z : Value) => run_part_plain (P := Try.prog) W hp9 (xs := #[x, y, z]) (off := 2) (v := z) rfl
  have E0 := fun (W : World) (x y : Int) => run_equalIn_int (P := Try.prog) W 9998 3 .i64 .i64 x y Try.underlying3
  have E2 := fun (W : World) (x y : ByteArray) => run_equalIn_string (P := Try.prog) W 9998 9 x y Try.underlying9
  simp only [Nat.reduceAdd] at E0 E2
  simp only [Op.eqFields, a0, a1, a2, b0, b1, b2, c0, c1, c2, ne_eq, show ¬ "Ty" = "_" by decide, show ¬ "N" = "_" by decide, show ¬ "S" = "_" by decide, not_false_eq_true, if_true, Sem.run_bind, P0, P1, P2, E0, E2, Result.andThen_ok, Sem.run_ite, Sem.run_pure]
  unfold V.eqB
  simp only
  cases (t1 == t2) <;> cases (n1 == n2) <;> cases (s1.toList == s2.toList) <;> rfl
theorem run_neq_val (a b : V) (w : World) : (binOp .neq 76 a.agg b.agg).run Try.prog w = .ok (.bool (!(a.eqB b))) w := by
  rw [run_neq_struct, run_eq_val]
  rfl
theorem run_eql_val (a b : V) (w : World) : (binOp .eql 76 a.agg b.agg).run Try.prog w = .ok (.bool (a.eqB b)) w := by
  rw [run_eql_struct, run_eq_val]
  rfl

/-- SameVals. -/
def sameV : List V → List V → Bool
  | [], [] => true
  | a :: l, b :: r => a.eqB b && sameV l r
  | _, _ => false
theorem sameV_len {l r : List V} (h : l.length ≠ r.length) : sameV l r = false := by
  induction l generalizing r with
  | nil => cases r with
    | nil => simp at h
    | cons => rfl
  | cons a l ih => cases r with
    | nil => rfl
    | cons b r => rw [sameV, ih (by simpa using h), Bool.and_false]
theorem sameV_all {l r : List V} (hn : l.length = r.length) (h : ∀ k, k < l.length → (l.getD k V.zero).eqB (r.getD k V.zero) = true) : sameV l r = true := by
  induction l generalizing r with
  | nil => cases r with
    | nil => rfl
    | cons => simp at hn
  | cons a l ih => cases r with
    | nil => simp at hn
    | cons b r =>
      rw [sameV, ih (by simpa using hn) (fun k hk => by simpa using h (k + 1) (by simpa using hk)), Bool.and_true]
      simpa using h 0 (by simp)
theorem sameV_no {l r : List V} {k : Nat} (hk : k < l.length) (hn : l.length = r.length) (h : (l.getD k V.zero).eqB (r.getD k V.zero) = false) : sameV l r = false := by
  induction l generalizing r k with
  | nil => simp at hk
  | cons a l ih => cases r with
    | nil => simp at hn
    | cons b r =>
      cases k with
      | zero =>
        simp only [List.getD_cons_zero] at h
        rw [sameV, h, Bool.false_and]
      | succ k => rw [sameV, ih (k := k) (by simpa using hk) (by simpa using hn) (by simpa using h), Bool.and_false]

end Go.Proofs.Ytkofafefnlommaa

/- The contract of the model's ValOk. -/
namespace Go.Proofs.Ytkofafefnlommaa
open Go.RowKit

/-- A character that a string may hold. -/
def chrB (c : UInt8) : Bool := Num.inB c.toNat 97 122 || Num.inB c.toNat 48 57
/-- A string that a value may hold. -/
def txtB (s : ByteArray) : Bool := decide (s.size ≤ 6) && s.data.toList.all chrB
/-- ValOk. -/
def okV (v : V) : Bool := if v.ty = 1 then Num.okB v.n && (v.s.size == 0) else v.ty == 2 && (v.n == 0 && txtB v.s)

theorem size_of_toList {s : ByteArray} (e : s.toList = []) : s.size = 0 := by
  rw [ByteArray.toList_eq] at e
  have := congrArg List.length e
  rw [Array.length_toList] at this
  exact this
theorem txtB_bad {s : ByteArray} {k : Nat} (h : k < s.size) (hc : chrB s[k] = false) : txtB s = false := by
  unfold txtB
  rw [Bool.and_eq_false_iff]
  right
  rw [List.all_eq_false]
  refine ⟨s[k], ?_, by rw [hc]; simp⟩
  rw [show s[k] = s.data.toList[k]'(by simpa using h) by rfl]
  exact List.getElem_mem _
theorem txtB_all {s : ByteArray} (h : s.size ≤ 6) (hc : ∀ k (hk : k < s.size), chrB s[k] = true) : txtB s = true := by
  unfold txtB
  rw [Bool.and_eq_true, List.all_eq_true]
  refine ⟨decide_eq_true h, fun c hm => ?_⟩
  obtain ⟨i, hi, rfl⟩ := List.getElem_of_mem hm
  exact hc i (by simpa using hi)

set_option maxHeartbeats 1000000 in
theorem sValOk (v : V) (w : World) (hs : v.s.size ≤ maxLen) : Calls Try.prog 81 #[v.agg] w fun e w' => e = .returned (.bool (okV v)) ∧ Below w.heap.size w w' := by
  obtain ⟨t, n, s⟩ := v
  simp only at hs
  unfold maxLen at hs
  by_cases ht : t = 1
  · subst ht
    have HE : Hid (okV ⟨1, n, s⟩ = (Num.okB n && (s.size == 0))) := if_pos rfl
    cases hok : Num.okB n with
    | false =>
      rw [hok, Bool.false_and] at HE
      have HR := Lib.hid (fun W => l1Right n W)
      rw [hok] at HR
      clear hok
      go_enter Try.func81, Try.ntmps81
      go_wp2_with (go_at_call 87; refine (HR.out _).mono ?_; rintro e w' ⟨rfl, rfl⟩)
      go_ret
      exact ⟨ret_bool HE.out.symm, below_alloc _ _⟩
    | true =>
      rw [hok, Bool.true_and] at HE
      have HR := Lib.hid (fun W => l1Right n W)
      rw [hok] at HR
      clear hok
      by_cases h0 : s.size = 0
      · obtain rfl : s = ⟨#[]⟩ := by
          apply ByteArray.ext
          exact Array.eq_empty_of_size_eq_zero h0
        go_enter Try.func81, Try.ntmps81
        go_wp2_with (go_at_call 87; refine (HR.out _).mono ?_; rintro e w' ⟨rfl, rfl⟩)
        go_ret
        exact ⟨ret_bool HE.out.symm, below_alloc _ _⟩
      · have hb : (s.size == 0) = false := by simpa using h0
        rw [hb] at HE
        have hl : ¬ s.toList = [] := fun e => h0 (size_of_toList e)
        have hl2 : (s.toList == []) = false := by simpa using hl
        go_enter Try.func81, Try.ntmps81
        go_wp2_with (go_at_call 87; refine (HR.out _).mono ?_; rintro e w' ⟨rfl, rfl⟩)
        go_ret
        exact ⟨ret_bool (by rw [HE.out]; try rfl), below_alloc _ _⟩
  · have HE : Hid (okV ⟨t, n, s⟩ = (t == 2 && (n == 0 && txtB s))) := if_neg ht
    have ht1 : (t == 1) = false := by simpa using ht
    clear ht
    go_enter Try.func81, Try.ntmps81
    go_wp2
    go_loop [3] (fun i => ∃ k : Nat, k ≤ s.size ∧ k ≤ 7 ∧ i = .int .i64 k ∧ ∀ j (hj : j < s.size), j < k → chrB s[j] = true) (fun i => 8 - (intOf i).toNat)
    case atStart => exact ⟨0, Nat.zero_le _, by omega, rfl, fun j _ hj => by omega⟩
    case round =>
      obtain ⟨k, hk, hk7, rfl, hok⟩ := hrel
      have HOK := Lib.hid hok
      clear hok
      by_cases hlt : k < s.size
      · by_cases h6 : k ≤ 6
        · have HS : Hid (chrB s[k] = true → ∀ j (hj : j < s.size), j < k + 1 → chrB s[j] = true) := fun h j hj hjk => by
            by_cases e : j = k
            · subst e; exact h
            · exact HOK.out j hj (by omega)
          have HN : Hid (chrB s[k] = false → okV ⟨t, n, s⟩ = false) := fun h => by rw [HE.out, txtB_bad hlt h, Bool.and_false, Bool.and_false]
          have hcw : wrap64 (s[k].toNat : Int) = (s[k].toNat : Int) := by
            have := s[k].toNat_lt
            unfold wrap64
            omega
          cases h1 : Num.inB s[k].toNat 97 122 with
          | true =>
            have HS2 := Lib.hid (HS.out (by unfold chrB; rw [h1]; rfl))
            clear HS HN
            go_wp2_with (go_at_call 71; refine (l1In _ _ _ _).mono ?_; rintro e w' ⟨rfl, rfl⟩)
            go_round
            case rel => exact ⟨k + 1, by omega, by omega, by go_num, HS2.out⟩
            case measure => simp [intOf]; omega
          | false =>
            cases h2 : Num.inB s[k].toNat 48 57 with
            | true =>
              have HS2 := Lib.hid (HS.out (by unfold chrB; rw [h2, Bool.or_true]))
              clear HS HN
              go_wp2_with (go_at_call 71; refine (l1In _ _ _ _).mono ?_; rintro e w' ⟨rfl, rfl⟩)
              go_round
              case rel => exact ⟨k + 1, by omega, by omega, by go_num, HS2.out⟩
              case measure => simp [intOf]; omega
            | false =>
              have HN2 := Lib.hid (HN.out (by unfold chrB; rw [h1, h2]; rfl))
              clear HS HN
              go_wp2_with (go_at_call 71; refine (l1In _ _ _ _).mono ?_; rintro e w' ⟨rfl, rfl⟩)
              go_ret
              exact ⟨ret_bool HN2.out.symm, below_alloc _ _⟩
        · have HN : Hid (okV ⟨t, n, s⟩ = false) := by
            show okV _ = false
            rw [HE.out]
            unfold txtB
            rw [decide_eq_false (by omega)]
            simp
          by_cases ht : t = 2
          · subst ht
            by_cases hn : n = 0
            · subst hn
              go_wp2
              go_ret
              exact ⟨ret_bool (by rw [HN.out]; simp; omega), below_alloc _ _⟩
            · have hnb : (n == 0) = false := by simpa using hn
              go_wp2
              go_ret
              exact ⟨ret_bool HN.out.symm, below_alloc _ _⟩
          · have htb : (t == 2) = false := by simpa using ht
            go_wp2
            go_ret
            exact ⟨ret_bool HN.out.symm, below_alloc _ _⟩
      · obtain rfl : k = s.size := by omega
        by_cases ht : t = 2
        · subst ht
          by_cases hn : n = 0
          · subst hn
            have HN : Hid (okV ⟨2, 0, s⟩ = decide (s.size ≤ 6)) := by
              show okV _ = decide (s.size ≤ 6)
              rw [HE.out]
              by_cases h6 : s.size ≤ 6
              · rw [txtB_all h6 (fun j hj => HOK.out j hj hj), decide_eq_true h6]
                rfl
              · unfold txtB
                rw [decide_eq_false h6]
                rfl
            go_wp2
            go_ret
            exact ⟨ret_bool (by rw [HN.out]; exact decide_eq_decide.2 (by omega)), below_alloc _ _⟩
          · have hnb : (n == 0) = false := by simpa using hn
            rw [hnb] at HE
            go_wp2
            go_ret
            exact ⟨ret_bool HE.out.symm, below_alloc _ _⟩
        · have htb : (t == 2) = false := by simpa using ht
          rw [htb] at HE
          go_wp2
          go_ret
          exact ⟨ret_bool HE.out.symm, below_alloc _ _⟩

end Go.Proofs.Ytkofafefnlommaa

/- The model's Least, Most and TypeOf, and the walks of their laws; the program's own contracts come as hypotheses. -/
namespace Go.Proofs.Ytkofafefnlommaa
open Go.RowKit

/-- A value of the type z. -/
def ofB (z : Int) (v : V) : Bool := okV v && v.ty == z
/-- TypeOf. -/
def typeV (l : List V) : Int := if Num.inB l.length 1 64 = true ∧ l.all (ofB (l.getD 0 V.zero).ty) = true then (l.getD 0 V.zero).ty else 0
theorem typeV_no {l : List V} {k : Nat} (hk : k < l.length) (h : ofB (l.getD 0 V.zero).ty (l.getD k V.zero) = false) : typeV l = 0 := by
  unfold typeV
  rw [if_neg]
  rintro ⟨_, h2⟩
  have e : l.getD k V.zero = l[k] := by simp [hk]
  rw [e] at h
  have := List.all_eq_true.1 h2 _ (List.getElem_mem hk)
  rw [h] at this
  cases this
theorem typeV_all {l : List V} (h0 : Num.inB l.length 1 64 = true) (h : ∀ k, k < l.length → ofB (l.getD 0 V.zero).ty (l.getD k V.zero) = true) : typeV l = (l.getD 0 V.zero).ty := by
  have ha : l.all (ofB (l.getD 0 V.zero).ty) = true := by
    rw [List.all_eq_true]
    intro v hv
    obtain ⟨k, hk, rfl⟩ := List.getElem_of_mem hv
    have := h k hk
    simpa [hk] using this
  unfold typeV
  rw [if_pos ⟨h0, ha⟩]

end Go.Proofs.Ytkofafefnlommaa

/- Rows: what they are, and the laws' own helpers over one Row: szRow, toRow, eqRow. -/
namespace Go.Proofs.Ytkofafefnlommaa
open Go.RowKit

/-- A Row. -/
structure R where
  id : Int
  l : List V
/-- A Row as the machine holds it: its number and the slice of its values. -/
abbrev R.agg (r : R) (u : Value) : Value := .agg #[.int .i64 r.id, u]
/-- The slice of a Row reads as its values. -/
def R.rd (w : World) (r : R) (u : Value) : Prop := Rd 3 w u r.l.length (vals r.l)
theorem R.rd.below {w w' : World} {r : R} {u : Value} (h : r.rd w u) (hb : Below w.heap.size w w') : r.rd w' u := Rd.below h hb

theorem szRow (r : R) (u : Value) (left : Int) (w : World) (h0 : 0 ≤ left) (h1 : left ≤ 1048576) (hss : ∀ v ∈ r.l, v.s.size ≤ maxLen) (h : r.rd w u) :
    Calls Try.prog 34 #[r.agg u, .int .i64 left] w fun e w' => ∃ z : Int, e = .returned (.int .i64 z) ∧ (z < 0 ∨ (0 ≤ z ∧ (r.l.length : Int) + bulk r.l ≤ left - z)) ∧ Below w.heap.size w w' := by
  have B0 := below_alloc w (.cells #[.int .i64 r.id, u] 57)
  have h' := h.below B0
  obtain ⟨a, cap, rfl, hn, hx⟩ := h'
  have HZ := Lib.hid (szValS a r.l.length cap r.l left (w.alloc (.cells #[.int .i64 r.id, .slice a r.l.length cap] 57)) h0 h1 hn hss rfl hx)
  obtain ⟨i, l⟩ := r
  simp only at HZ B0
  generalize l.length = m at *
  generalize bulk l = k at *
  clear h hx hss
  go_enter Try.func34, Try.ntmps34
  go_wp2_with fail
  refine HZ.out.mono ?_
  rintro e w1 ⟨z, rfl, hz, b1⟩
  have B1 := below_then B0 b1 B0.size
  clear b1 HZ
  by_cases hneg : z < 0
  · go_wp2
    go_ret
    exact ⟨_, rfl, .inl (by omega), B1⟩
  · go_wp2
    go_ret
    exact ⟨_, rfl, hz, B1⟩

/-- Two cells of a block that may be written. -/
def Two (W : World) (b : Nat) (x y : Value) : Prop :=
  (W.cell? ⟨b, 0, none⟩ = some x ∧ W.cell? ⟨b, 1, none⟩ = some y) ∧ W.frozen? ⟨b, 0, none⟩ = false ∧ W.frozen? ⟨b, 1, none⟩ = false
theorem Two.below {W W' : World} {b : Nat} {x y : Value} (h : Two W b x y) (hb : Below W.heap.size W W') : Two W' b x y := by
  have hlt := lt_of_cell h.1.1
  exact ⟨⟨(hb.cell (p := ⟨b, 0, none⟩) hlt).trans h.1.1, (hb.cell (p := ⟨b, 1, none⟩) hlt).trans h.1.2⟩, (hb.frozen (p := ⟨b, 0, none⟩) hlt).trans h.2.1, (hb.frozen (p := ⟨b, 1, none⟩) hlt).trans h.2.2⟩
theorem two_new (w : World) (x y : Value) (e : TypeId) : Two (w.alloc (.cells #[x, y] e)) w.heap.size x y := ⟨⟨by simp, by simp⟩, by simp, by simp⟩

theorem Own.setBelow {e size lo hi w v n xs} (h : Own e size lo hi w v n xs) {a : Addr} (ha : a.block < lo) (u : Value) : Own e size lo hi (w.setCell a u) v n xs := by
  obtain ⟨g, cap, rfl, h1, h2, h3⟩ := h
  exact ⟨g, cap, rfl, h1, h2, ownsRow_setCell_below h3 ha u⟩
theorem Own.size {e size lo hi w v n xs} (h : Own e size lo hi w v n xs) (hi' : Nat) (hh : hi ≤ hi') : Own e size lo hi' w v n xs := by
  obtain ⟨g, cap, rfl, h1, h2, h3⟩ := h
  exact ⟨g, cap, rfl, h1, by omega, h3⟩

set_option maxHeartbeats 400000 in
theorem toRow (r : R) (u : Value) (w : World) (hle : r.l.length ≤ 1073741824) (h : r.rd w u) :
    Calls Try.prog 35 #[r.agg u] w fun e w' => ∃ v, e = .returned (r.agg v) ∧ Own 76 3 w.heap.size w'.heap.size w' v r.l.length (vals r.l) ∧ Below w.heap.size w w' := by
  have B0 := below_alloc3 w (.cells #[.int .i64 r.id, u] 57) (.cells #[.int .i64 0, .slice none 0 0] 27) (.cells #[.int .i64 r.id, .slice none 0 0] 27)
  have h' := h.below B0
  obtain ⟨a, cap, rfl, hn, hx⟩ := h'
  have Z1 := (two_new (w.alloc (.cells #[.int .i64 r.id, .slice a r.l.length cap] 57)) (.int .i64 0) (.slice none 0 0) 27).below (below_alloc _ (.cells #[.int .i64 r.id, .slice none 0 0] 27))
  have Z2 := two_new ((w.alloc (.cells #[.int .i64 r.id, .slice a r.l.length cap] 57)).alloc (.cells #[.int .i64 0, .slice none 0 0] 27)) (.int .i64 r.id) (.slice none 0 0) 27
  have HT := Lib.hid (toValS a r.l.length cap r.l (((w.alloc (.cells #[.int .i64 r.id, .slice a r.l.length cap] 57)).alloc (.cells #[.int .i64 0, .slice none 0 0] 27)).alloc (.cells #[.int .i64 r.id, .slice none 0 0] 27)) hle rfl hx)
  rw [World.size_alloc] at Z1
  rw [World.size_alloc, World.size_alloc] at Z2
  obtain ⟨i, l⟩ := r
  simp only at HT B0 Z1 Z2 hle hn
  generalize vals l = xs at *
  generalize l.length = m at *
  clear h hx
  go_enter Try.func35, Try.ntmps35
  go_wp2_with fail
  refine HT.out.mono ?_
  rintro e w1 ⟨v, rfl, o1, b1⟩
  have B1 := below_then B0 b1 B0.size
  obtain ⟨⟨p0, p1⟩, p2, p3⟩ := Z1.below b1
  obtain ⟨⟨q0, q1⟩, q2, q3⟩ := Z2.below b1
  have O1 := Lib.hid o1
  obtain ⟨g, cp, rfl⟩ : ∃ g cp, v = .slice (some ⟨g, 0, none⟩) m cp := by
    obtain ⟨g, cp, e, _⟩ := o1
    exact ⟨g, cp, e⟩
  clear Z1 Z2 b1 B0 HT o1
  go_wp2
  refine bodyPost_ret (v := .agg #[.int .i64 i, .slice (some ⟨g, 0, none⟩) m cp]) (by simp [results, Try.results35, go_sem, *]) rfl ⟨_, rfl, ?_, ?_⟩
  · have := ((O1.out.setBelow (a := ⟨w.heap.size + 1 + 1, 1, none⟩) (by simp) (.slice (some ⟨g, 0, none⟩) m cp)).setBelow (a := ⟨w.heap.size + 1, 0, none⟩) (by simp) (.int .i64 i)).setBelow (a := ⟨w.heap.size + 1, 1, none⟩) (by simp) (.slice (some ⟨g, 0, none⟩) m cp)
    simp only [World.size_alloc] at this
    exact (this.lower (by omega)).wide (by simp)
  · exact ((B1.setCell (by simp; omega) _).setCell (by simp) _).setCell (by simp) _

theorem eqRow (r : R) (u v : Value) (w : World) (hu : r.rd w u) (hv : r.rd w v) :
    Calls Try.prog 28 #[r.agg u, r.agg v] w fun e w' => e = .returned (.bool true) ∧ Below w.heap.size w w' := by
  have B0 := below_alloc2 w (.cells #[.int .i64 r.id, u] 27) (.cells #[.int .i64 r.id, v] 27)
  have HT := Lib.hid (eqValR u v r.l.length r.l _ rfl (hu.below B0) (hv.below B0))
  obtain ⟨a1, c1, rfl, _, _⟩ := hu
  obtain ⟨a2, c2, rfl, _, _⟩ := hv
  obtain ⟨i, l⟩ := r
  simp only at HT B0
  have hne : (i != i) = false := by simp
  generalize l.length = m at *
  go_enter Try.func28, Try.ntmps28
  go_wp2_with fail
  refine HT.out.mono ?_
  rintro e w1 ⟨rfl, b1⟩
  have B1 := below_then B0 b1 B0.size
  clear b1
  go_wp2
  go_ret
  exact ⟨rfl, B1⟩

end Go.Proofs.Ytkofafefnlommaa

/- The laws' own helpers over slices of Rows: szRowS, toRowS, eqRowS. -/
namespace Go.Proofs.Ytkofafefnlommaa
open Go.RowKit

/-- A Row and the slice value that holds its values. -/
abbrev P := R × Value
def P.cs (p : P) : List Value := [.int .i64 p.1.id, p.2]
def P.zero : P := (⟨0, []⟩, .slice none 0 0)
/-- The cells of a list of Rows. -/
def prs (ps : List P) : List Value := ps.flatMap P.cs
theorem prs_len (ps : List P) : (prs ps).length = ps.length * 2 := flat_len P.cs 2 (fun _ => rfl) ps
theorem prs_get {ps : List P} {k j : Nat} (hk : k < ps.length) (hj : j < 2) : (prs ps)[k * 2 + j]? = (P.cs ps[k])[j]? := flat_get P.cs 2 (fun _ => rfl) ps k j hk hj
/-- v is a slice of Rows. -/
def RdRs (w : World) (v : Value) (ps : List P) : Prop := Rd 2 w v ps.length (prs ps) ∧ ∀ p ∈ ps, p.1.rd w p.2
theorem RdRs.below {w w' : World} {v : Value} {ps : List P} (h : RdRs w v ps) (hb : Below w.heap.size w w') : RdRs w' v ps := ⟨h.1.below hb, fun p hp => (h.2 p hp).below hb⟩
theorem cells2 {w : World} {b off : Nat} {ps : List P} (hc : ∀ j u, (prs ps)[j]? = some u → w.cell? ⟨b, off + j, none⟩ = some u) {k : Nat} (hk : k < ps.length) :
    w.cell? ⟨b, off + k * 2, none⟩ = some (.int .i64 ps[k].1.id) ∧ w.cell? ⟨b, off + k * 2 + 1, none⟩ = some ps[k].2 :=
  ⟨hc (k * 2) _ (prs_get (j := 0) hk (by omega)), hc (k * 2 + 1) _ (prs_get (j := 1) hk (by omega))⟩
/-- For a walk: the k-th Row, in every later world. -/
theorem RdRs.walk {w : World} {v : Value} {ps : List P} (h : RdRs w v ps) {n : Nat} (hl : ps.length = n) :
    ∃ a cap, v = .slice a n cap ∧ n ≤ maxLen ∧ Hid (∀ k, k < n → ∀ W, Below w.heap.size w W → ∃ b off, a = some ⟨b, off, none⟩ ∧ W.cell? ⟨b, off + k * 2, none⟩ = some (.int .i64 (ps.getD k P.zero).1.id) ∧ W.cell? ⟨b, off + k * 2 + 1, none⟩ = some (ps.getD k P.zero).2 ∧ (ps.getD k P.zero).1.rd W (ps.getD k P.zero).2) := by
  obtain ⟨⟨a, cap, rfl, hn, _, hx⟩, hi⟩ := h
  subst hl
  refine ⟨a, cap, rfl, hn, fun k hk W hW => ?_⟩
  rcases hx with h0 | ⟨b, off, rfl, hc⟩
  · omega
  · have e : ps.getD k P.zero = ps[k] := by simp [hk]
    rw [e]
    have c2 := cells2 hc hk
    exact ⟨b, off, rfl, (hW.cell (p := ⟨b, off + k * 2, none⟩) (lt_of_cell c2.1)).trans c2.1, (hW.cell (p := ⟨b, off + k * 2 + 1, none⟩) (lt_of_cell c2.2)).trans c2.2, (hi _ (List.getElem_mem hk)).below hW⟩

/-- What the sizes of a list of Rows come to. -/
def bulkR (ps : List P) : Nat := (ps.map fun p => p.1.l.length + bulk p.1.l).sum
theorem bulkR_take_succ (ps : List P) (k : Nat) (h : k < ps.length) : bulkR (ps.take (k + 1)) = bulkR (ps.take k) + ((ps.getD k P.zero).1.l.length + bulk (ps.getD k P.zero).1.l) := by
  have e : ps.getD k P.zero = ps[k] := by simp [h]
  unfold bulkR
  rw [e, List.take_succ_eq_append_getElem h, List.map_append, List.sum_append]
  simp

set_option maxHeartbeats 400000 in
theorem szRowS (v : Value) (ps : List P) (left : Int) (w : World) (h0 : 0 ≤ left) (h1 : left ≤ 1048576) (hss : ∀ p ∈ ps, ∀ v ∈ p.1.l, v.s.size ≤ maxLen) (h : RdRs w v ps) :
    Calls Try.prog 21 #[v, .int .i64 left] w fun e w' => ∃ r : Int, e = .returned (.int .i64 r) ∧ (r < 0 ∨ (0 ≤ r ∧ (ps.length : Int) + bulkR ps ≤ left - r)) ∧ Below w.heap.size w w' := by
  generalize hl : ps.length = n
  obtain ⟨a, cap, rfl, hle, HC⟩ := h.walk hl
  unfold maxLen at hle
  have HL := Lib.hid hl
  have HS : Hid (∀ k, k < n → ∀ v ∈ (ps.getD k P.zero).1.l, v.s.size ≤ maxLen) := fun k hk => by
    have hk' : k < ps.length := by omega
    have e : ps.getD k P.zero = ps[k] := by simp [hk']
    rw [e]
    exact hss _ (List.getElem_mem hk')
  clear hl hss h
  by_cases hbig : left - (n : Int) < 0
  · go_enter Try.func21, Try.ntmps21
    go_wp2
    go_ret
    exact ⟨_, rfl, .inl (by omega), Below.refl _ _⟩
  · go_enter Try.func21, Try.ntmps21
    go_wp2
    go_loopw [1, 5] (fun r i wr => ∃ (k : Nat) (z : Int), k ≤ n ∧ 0 ≤ z ∧ z ≤ left ∧ (n : Int) + bulkR (ps.take k) ≤ left - z ∧ r = .int .i64 z ∧ i = .int .i64 k ∧ Below w.heap.size w wr) (fun _ i _ => n - (intOf i).toNat)
    case atStart => exact ⟨0, _, Nat.zero_le _, by omega, by omega, by simp [bulkR]; omega, rfl, rfl, Below.refl _ _⟩
    case round =>
      obtain ⟨k, z, hk, hz0, hz1, hzb, rfl, rfl, hbr⟩ := hrel
      by_cases hkl : k < n
      · obtain ⟨b, off, rfl, c0, c1, hr⟩ := HC.out k hkl wr hbr
        have HB := Lib.hid (bulkR_take_succ ps k (by rw [HL.out]; exact hkl))
        have HZ := Lib.hid (szRow (ps.getD k P.zero).1 (ps.getD k P.zero).2 z wr hz0 (by omega) (HS.out k hkl) hr)
        generalize ps.getD k P.zero = p at c0 c1 hr HB HZ
        obtain ⟨⟨i, l⟩, u⟩ := p
        obtain ⟨a', cap', hu, _, _⟩ := hr
        simp only at hu
        subst hu
        simp only at c0 c1 HB HZ
        generalize l.length = m at *
        go_wp2_with fail
        refine HZ.out.mono ?_
        rintro e w2 ⟨y, rfl, hy, hb2⟩
        clear HZ c0 c1
        by_cases hneg : y < 0
        · go_wp2
          go_ret
          exact ⟨_, rfl, .inl (by omega), below_then hbr hb2 hbr.size⟩
        · go_wp2
          go_roundw
          case rel => exact ⟨k + 1, y, by omega, by omega, by omega, by rw [HB.out]; omega, rfl, by go_num, below_then hbr hb2 hbr.size⟩
          case measure => simp [intOf]; omega
      · obtain rfl : k = n := by omega
        go_wp2
        go_ret
        refine ⟨_, rfl, .inr ⟨hz0, ?_⟩, hbr⟩
        rw [← HL.out, List.take_length] at hzb
        rw [← HL.out]
        omega


theorem Try.elemRows : ElemT Try.prog 24 27 (.agg #[.int .i64 0, .slice none 0 0]) 2 32 := ⟨Try.underlying24, info_parts (by kernel_rfl), rfl, by decide⟩
theorem prs_set (l : List P) (k : Nat) (p : P) (hk : k < l.length) : prs (l.set k p) = ((prs l).set (k * 2) (.int .i64 p.1.id)).set (k * 2 + 1) p.2 := by
  have hl := prs_len l
  apply List.ext_getElem?
  intro i
  unfold prs at hl ⊢
  rw [flat_set P.cs 2 (fun _ => rfl) l k p hk i]
  simp only [List.getElem?_set, List.length_set]
  by_cases h1 : k * 2 + 1 = i
  · subst h1
    rw [if_pos (by omega), if_pos rfl, if_pos (by omega), show k * 2 + 1 - k * 2 = 1 by omega]
    rfl
  · by_cases h0 : k * 2 = i
    · subst h0
      rw [if_pos (by omega), if_neg (by omega), if_pos rfl, if_pos (by omega), Nat.sub_self]
      rfl
    · rw [if_neg (by omega), if_neg h1, if_neg h0]
/-- The cells of Row k of an owned slice, stored anew. -/
theorem stored2 {w : World} {lo : Nat} {e : TypeId} {g n cap : Nat} {l : List P} (h : w.ownsRow lo e 2 (.slice (some ⟨g, 0, none⟩) n cap) n (prs l)) (k : Nat) (p : P) (hk : k < l.length) :
    ((w.setCell ⟨g, k * 2, none⟩ (.int .i64 p.1.id)).setCell ⟨g, k * 2 + 1, none⟩ p.2).ownsRow lo e 2 (.slice (some ⟨g, 0, none⟩) n cap) n (prs (l.set k p)) ∧
      w.grownBy ((w.setCell ⟨g, k * 2, none⟩ (.int .i64 p.1.id)).setCell ⟨g, k * 2 + 1, none⟩ p.2) (some g) := by
  have s1 := h.stored (k * 2) (.int .i64 p.1.id)
  have s2 := s1.1.stored (k * 2 + 1) p.2
  rw [prs_set l k p hk]
  exact ⟨s2.1, s1.2.trans s2.2⟩
/-- v is a slice of Rows of the call's own, blocks lo to hi. -/
def OwnRs (lo hi : Nat) (w : World) (v : Value) (ps : List P) : Prop :=
  Own 27 2 lo hi w v ps.length (prs ps) ∧ (∀ p ∈ ps, Own 76 3 lo hi w p.2 p.1.l.length (vals p.1.l)) ∧ (ps.map fun p => p.2.ownBlock).Nodup
theorem OwnRs.rd {lo hi : Nat} {w : World} {v : Value} {ps : List P} (h : OwnRs lo hi w v ps) : RdRs w v ps := ⟨h.1.rd, fun p hp => (h.2.1 p hp).rd⟩
theorem OwnRs.below {lo hi B : Nat} {w w' : World} {v : Value} {ps : List P} (h : OwnRs lo hi w v ps) (hb : Below B w w') (hB : hi ≤ B) : OwnRs lo hi w' v ps := ⟨h.1.below hb hB, fun p hp => (h.2.1 p hp).below hb hB, h.2.2⟩
theorem fill_set {α : Type} (qs : List α) (x z : α) (n k : Nat) (hq : qs.length = k) (hk : k < n) : (qs ++ List.replicate (n - k) z).set k x = (qs ++ [x]) ++ List.replicate (n - (k + 1)) z := by
  rw [List.set_append_right _ _ (by omega), hq, Nat.sub_self, show n - k = (n - (k + 1)) + 1 by omega, List.replicate_succ, List.set_cons_zero, List.append_assoc]
  rfl

set_option maxHeartbeats 1000000 in
theorem toRowS (v : Value) (ps : List P) (w : World) (hle : ps.length ≤ 1048576) (hli : ∀ p ∈ ps, p.1.l.length ≤ 1048576) (h : RdRs w v ps) :
    Calls Try.prog 24 #[v] w fun e w' => ∃ v' qs, e = .returned v' ∧ qs.map (·.1) = ps.map (·.1) ∧ OwnRs w.heap.size w'.heap.size w' v' qs ∧ Below w.heap.size w w' := by
  generalize hl : ps.length = n at hle
  obtain ⟨a, cap, rfl, _, HC⟩ := h.walk hl
  have HL := Lib.hid hl
  have HS : Hid (∀ k, k < n → (ps.getD k P.zero).1.l.length ≤ 1073741824) := fun k hk => by
    have hk' : k < ps.length := by omega
    have e : ps.getD k P.zero = ps[k] := by simp [hk']
    rw [e]
    exact Nat.le_trans (hli _ (List.getElem_mem hk')) (by decide)
  have HM : Hid (∀ k, k < n → (ps.take (k + 1)).map (·.1) = (ps.take k).map (·.1) ++ [(ps.getD k P.zero).1]) := fun k hk => by
    have hk' : k < ps.length := by omega
    have e : ps.getD k P.zero = ps[k] := by simp [hk']
    rw [e, List.take_succ_eq_append_getElem hk', List.map_append]
    rfl
  clear hl h hli
  go_enter Try.func24, Try.ntmps24
  go_wp2_with (at_make; refine make_law Try.elemRows rfl _ _ rfl .i64 .i64 _ _ n rfl rfl rfl rfl (by omega) (by unfold maxLen; omega) ?_)
  intro w1 hown1 hb1
  have hown0 : w1.ownsRow w.heap.size 27 2 (.slice (some ⟨w.heap.size, 0, none⟩) n n) n (prs ([] ++ List.replicate (n - 0) P.zero)) := by
    have e : prs ([] ++ List.replicate (n - 0) P.zero) = (madeCells (P.cs P.zero).toArray (n * 2)).toList := by
      rw [made_flat P.cs P.zero 2 n (by omega) (fun _ => rfl)]
      simp [prs]
    rw [e]
    exact hown1.row
  clear hown1
  go_wp2
  go_loopw [4] (fun i wr => ∃ (k : Nat) (qs : List P), k ≤ n ∧ i = .int .i64 k ∧ qs.length = k ∧ qs.map (·.1) = (ps.take k).map (·.1) ∧ wr.ownsRow w.heap.size 27 2 (.slice (some ⟨w.heap.size, 0, none⟩) n n) n (prs (qs ++ List.replicate (n - k) P.zero))
    ∧ (∀ p ∈ qs, Own 76 3 (w.heap.size + 1) wr.heap.size wr p.2 p.1.l.length (vals p.1.l)) ∧ (qs.map fun p => p.2.ownBlock).Nodup ∧ Below w.heap.size w wr) (fun i _ => n - (intOf i).toNat)
  case atStart => exact ⟨0, [], Nat.zero_le _, rfl, rfl, rfl, hown0, by simp, by simp, hb1⟩
  case round =>
    obtain ⟨k, qs, hk, rfl, hq, hqm, hownr, hin, hnd, hbr⟩ := hrel
    by_cases hkl : k < n
    · obtain ⟨b, off, rfl, c0, c1, hr⟩ := HC.out k hkl wr hbr
      have HT := Lib.hid (toRow (ps.getD k P.zero).1 (ps.getD k P.zero).2 wr (HS.out k hkl) hr)
      have HMK := Lib.hid (HM.out k hkl)
      rw [← hqm] at HMK
      generalize ps.getD k P.zero = p at c0 c1 hr HT HMK
      obtain ⟨r, u⟩ := p
      obtain ⟨a', cap', hu, _, _⟩ := hr
      simp only at hu c0 c1 HT HMK
      subst hu
      have HI := Lib.hid hin
      have HN := Lib.hid hnd
      have HQ := Lib.hid hq
      clear hin hnd hq hqm
      go_wp2_with fail
      refine HT.out.mono ?_
      rintro e w2 ⟨v2, rfl, o2, hb2⟩
      have O2 := Lib.hid o2
      obtain ⟨g2, cp2, rfl⟩ : ∃ g cp, v2 = .slice (some ⟨g, 0, none⟩) r.l.length cp := by
        obtain ⟨g, cp, e, _⟩ := o2
        exact ⟨g, cp, e⟩
      have r2 := ((own_of_row hownr (Nat.le_refl _)).below hb2 (Nat.le_refl _)).row
      have hb3 := below_then hbr hb2 hbr.size
      have R := Lib.hid (stored2 r2 k (r, .slice (some ⟨g2, 0, none⟩) r.l.length cp2) (by simp [HQ.out]; omega))
      rw [fill_set qs _ P.zero n k HQ.out hkl] at R
      have HW : Hid (wr.heap.size ≤ w2.heap.size) := hb2.size
      have HW0 : Hid (w.heap.size < wr.heap.size) := (hownr.lt _ rfl).2
      have HI2 : Hid (∀ p ∈ qs, Own 76 3 (w.heap.size + 1) wr.heap.size w2 p.2 p.1.l.length (vals p.1.l)) := fun p hp => (HI.out p hp).below hb2 (Nat.le_refl _)
      obtain ⟨x0, s0⟩ := cellAt_some r2 (k * 2) (by omega)
      obtain ⟨x1, s1⟩ := cellAt_some r2 (k * 2 + 1) (by omega)
      have f0 := r2.frozenAt (k * 2)
      have f1 := r2.frozenAt (k * 2 + 1)
      clear hownr hbr r2 hb2 o2 c0 c1 HT HI
      obtain ⟨i, l⟩ := r
      simp only at R O2 HMK
      go_wp2
      go_roundw
      case rel =>
        refine ⟨k + 1, qs ++ [(⟨i, l⟩, .slice (some ⟨g2, 0, none⟩) l.length cp2)], by omega, by go_num, by simp [HQ.out], by rw [HMK.out]; simp, R.out.1, ?_, ?_, hb3.trans ⟨R.out.2.os, R.out.2.tape, R.out.2.output, R.out.2.size, fun j hj => R.out.2.block j (by have := hb3.size; omega) (by simp; omega)⟩⟩
        · intro p hp
          rcases List.mem_append.1 hp with hp | hp
          · exact ((HI2.out p hp).grown R.out.2 (fun g hg => by simp at hg; omega)).wide (Nat.le_trans HW.out R.out.2.size)
          · rw [List.mem_singleton.1 hp]
            exact ((O2.out.grown R.out.2 (fun g hg => by have := HW0.out; simp at hg; omega)).lower HW0.out).wide R.out.2.size
        · rw [List.map_append, List.nodup_append]
          refine ⟨HN.out, by simp, fun x hx y hy => ?_⟩
          obtain ⟨p, hp, rfl⟩ := List.mem_map.1 hx
          simp only [List.map_cons, List.map_nil, List.mem_singleton] at hy
          subst hy
          intro he
          obtain ⟨g, cp, e1, e2, e3, _⟩ := HI2.out p hp
          obtain ⟨g', cp', e4, e5, e6, _⟩ := O2.out
          rw [e1] at he
          simp only [Value.slice.injEq, Option.some.injEq, Addr.mk.injEq, true_and, and_true] at e4
          simp [Value.ownBlock] at he
          omega
      case measure => simp [intOf]; omega
    · obtain rfl : k = n := by omega
      rw [Nat.sub_self, List.replicate_zero, List.append_nil] at hownr
      rw [← HL.out, List.take_length] at hqm
      go_wp2
      go_ret
      have hz := (hownr.lt _ rfl).2
      refine ⟨_, rfl, qs, hqm, ⟨?_, fun p hp => (hin p hp).lower (by omega), hnd⟩, hbr⟩
      rw [hq]
      exact ⟨_, _, rfl, Nat.le_refl _, hz, hownr⟩

theorem getD_fst (ps : List P) (k : Nat) : (ps.getD k P.zero).1 = (ps.map (·.1)).getD k P.zero.1 := by
  by_cases h : k < ps.length
  · simp [h]
  · simp [h]

set_option maxHeartbeats 1000000 in
theorem eqRowS (u v : Value) (ps qs : List P) (w : World) (he : qs.map (·.1) = ps.map (·.1)) (hu : RdRs w u ps) (hv : RdRs w v qs) :
    Calls Try.prog 27 #[u, v] w fun e w' => e = .returned (.bool true) ∧ Below w.heap.size w w' := by
  have hlq : qs.length = ps.length := by simpa using congrArg List.length he
  generalize hl : ps.length = n at hlq
  obtain ⟨a1, c1, rfl, hm1, HC1⟩ := hu.walk hl
  obtain ⟨a2, c2, rfl, hm2, HC2⟩ := hv.walk hlq
  have HE : Hid (∀ k, (qs.getD k P.zero).1 = (ps.getD k P.zero).1) := fun k => by rw [getD_fst, getD_fst, he]
  clear hl hlq hu hv hm2 he
  unfold maxLen at hm1
  have hne : ((n : Int) != (n : Int)) = false := by simp
  go_enter Try.func27, Try.ntmps27
  go_wp2
  go_loopw [5] (fun i wr => ∃ k : Nat, k ≤ n ∧ i = .int .i64 k ∧ Below w.heap.size w wr) (fun i _ => n - (intOf i).toNat)
  case atStart => exact ⟨0, Nat.zero_le _, rfl, Below.refl _ _⟩
  case round =>
    obtain ⟨k, hk, rfl, hbr⟩ := hrel
    by_cases hlt : k < n
    · obtain ⟨b1, o1, rfl, p0, p1, pr⟩ := HC1.out k hlt wr hbr
      obtain ⟨b2, o2, rfl, q0, q1, qr⟩ := HC2.out k hlt wr hbr
      have HEK := Lib.hid (HE.out k)
      rw [HEK.out] at q0 qr
      generalize (ps.getD k P.zero).1 = r at p0 pr q0 qr HEK
      generalize (ps.getD k P.zero).2 = x at p1 pr
      generalize (qs.getD k P.zero).2 = y at q1 qr
      have HX := Lib.hid (fun W (hW : Below wr.heap.size wr W) => eqRow r x y W (pr.below hW) (qr.below hW))
      have HK : Hid (∀ W, Below wr.heap.size wr W → W.cell? ⟨b1, o1 + k * 2, none⟩ = some (.int .i64 r.id) ∧ W.cell? ⟨b1, o1 + k * 2 + 1, none⟩ = some x ∧ W.cell? ⟨b2, o2 + k * 2, none⟩ = some (.int .i64 r.id) ∧ W.cell? ⟨b2, o2 + k * 2 + 1, none⟩ = some y) := fun W h =>
        ⟨(h.cell (p := ⟨b1, o1 + k * 2, none⟩) (lt_of_cell p0)).trans p0, (h.cell (p := ⟨b1, o1 + k * 2 + 1, none⟩) (lt_of_cell p1)).trans p1, (h.cell (p := ⟨b2, o2 + k * 2, none⟩) (lt_of_cell q0)).trans q0, (h.cell (p := ⟨b2, o2 + k * 2 + 1, none⟩) (lt_of_cell q1)).trans q1⟩
      have hB' := (Below.refl wr.heap.size wr).drew
      obtain ⟨ri, rl⟩ := r
      simp only at p0 p1 q0 q1 HK
      clear pr qr HEK
      go_wp2
      go_region_held3 (fun W => W.cell? ⟨b1, o1 + k * 2, none⟩ = some (.int .i64 ri) ∧ W.cell? ⟨b1, o1 + k * 2 + 1, none⟩ = some x ∧ W.cell? ⟨b2, o2 + k * 2, none⟩ = some (.int .i64 ri) ∧ W.cell? ⟨b2, o2 + k * 2 + 1, none⟩ = some y) (exact HK.out _ hB') ((go_at_call 28; (with_reducible refine (HX.out _ hB').mono ?_); rintro e w2 ⟨rfl, hb2⟩; replace hB' := below_then hB' hb2 hB'.size))
      go_wp2
      go_roundw
      case rel => exact ⟨k + 1, by omega, by go_num, below_then hbr hB' hbr.size⟩
      case measure => simp [intOf]; omega
    · go_wp2
      go_ret
      exact ⟨rfl, hbr⟩

end Go.Proofs.Ytkofafefnlommaa

/- The laws' own markRowS. -/
namespace Go.Proofs.Ytkofafefnlommaa
open Go.RowKit

theorem prs_id {l : List P} {k : Nat} (h : k < l.length) : (prs l)[k * 2]? = some (.int .i64 (l.getD k P.zero).1.id) := by
  have e : l.getD k P.zero = l[k] := by simp [h]
  rw [e]
  exact prs_get (j := 0) h (by omega)
theorem prs_sl {l : List P} {k : Nat} (h : k < l.length) : (prs l)[k * 2 + 1]? = some (l.getD k P.zero).2 := by
  have e : l.getD k P.zero = l[k] := by simp [h]
  rw [e]
  exact prs_get (j := 1) h (by omega)
theorem set_self {α : Type} {l : List α} {i : Nat} {x : α} (h : l[i]? = some x) : l.set i x = l := by
  obtain ⟨hi, rfl⟩ := List.getElem?_eq_some_iff.1 h
  exact List.set_getElem_self hi
/-- A new number for Row k, its slice as it was. -/
theorem prs_set_id {l : List P} {k : Nat} {p : P} (hk : k < l.length) (hp : p.2 = (l.getD k P.zero).2) : prs (l.set k p) = (prs l).set (k * 2) (.int .i64 p.1.id) := by
  rw [prs_set l k p hk, set_self]
  rw [List.getElem?_set_ne (by omega), prs_sl hk, hp]
theorem getD_set_ne {α : Type} {l : List α} {k j : Nat} {x d : α} (h : k ≠ j) : (l.set k x).getD j d = l.getD j d := by
  rw [List.getD_eq_getElem?_getD, List.getD_eq_getElem?_getD, List.getElem?_set_ne h]
theorem getD_set_eq {α : Type} {l : List α} {k : Nat} {x d : α} (h : k < l.length) : (l.set k x).getD k d = x := by
  rw [List.getD_eq_getElem?_getD, List.getElem?_set_self h]
  rfl
theorem all_of_mem {α : Type} {l : List α} {d : α} {q : α → Prop} (h : ∀ x ∈ l, q x) : ∀ k, k < l.length → q (l.getD k d) := fun k hk => by
  have e : l.getD k d = l[k] := by simp [hk]
  rw [e]
  exact h _ (List.getElem_mem hk)
theorem mem_of_all {α : Type} {l : List α} {d : α} {q : α → Prop} (h : ∀ k, k < l.length → q (l.getD k d)) : ∀ x ∈ l, q x := fun x hx => by
  obtain ⟨k, hk, rfl⟩ := List.getElem_of_mem hx
  have := h k hk
  simpa [hk] using this
theorem nodup_ne {l : List P} (h : (l.map fun p => p.2.ownBlock).Nodup) {i j : Nat} (hi : i < l.length) (hj : j < l.length) (hne : i ≠ j) : (l.getD i P.zero).2.ownBlock ≠ (l.getD j P.zero).2.ownBlock := by
  have key : ∀ i j, i < j → j < l.length → (l.getD i P.zero).2.ownBlock ≠ (l.getD j P.zero).2.ownBlock := fun i j hij hj => by
    have hi : i < l.length := by omega
    have := List.pairwise_iff_getElem.1 h i j (by simpa using hi) (by simpa using hj) hij
    simpa [hi, hj] using this
  rcases Nat.lt_or_gt_of_ne hne with h1 | h1
  · exact key i j h1 hj
  · exact fun e => key j i h1 hi e.symm

/-- How far markRowS counts. -/
def rlen : List P → Nat
  | [] => 0
  | p :: ps => 1 + 3 * p.1.l.length + rlen ps
/-- What markRowS leaves. -/
def rmarks : Nat → List P → List P
  | _, [] => []
  | s, p :: ps => (⟨s, vmarks (s + 1) p.1.l.length⟩, p.2) :: rmarks (s + 1 + 3 * p.1.l.length) ps
theorem rmarks_len (s : Nat) (ps : List P) : (rmarks s ps).length = ps.length := by
  induction ps generalizing s with
  | nil => rfl
  | cons p ps ih => simp [rmarks, ih]
theorem rlen_append (ps qs : List P) : rlen (ps ++ qs) = rlen ps + rlen qs := by
  induction ps with
  | nil => simp [rlen]
  | cons p ps ih => simp only [List.cons_append, rlen, ih]; omega
theorem rmarks_append (s : Nat) (ps qs : List P) : rmarks s (ps ++ qs) = rmarks s ps ++ rmarks (s + rlen ps) qs := by
  induction ps generalizing s with
  | nil => simp [rmarks, rlen]
  | cons p ps ih => simp only [List.cons_append, rmarks, ih, rlen]; rw [show s + 1 + 3 * p.1.l.length + rlen ps = s + (1 + 3 * p.1.l.length + rlen ps) by omega]
/-- After k rounds. -/
def rhalf (s : Nat) (ps : List P) (k : Nat) : List P := rmarks s (ps.take k) ++ ps.drop k
theorem rhalf_len {s : Nat} {ps : List P} {k : Nat} : (rhalf s ps k).length = ps.length := by
  unfold rhalf
  rw [List.length_append, rmarks_len, ← List.length_append, List.take_append_drop]
theorem rhalf_get {s : Nat} {ps : List P} {k : Nat} (h : k < ps.length) : (rhalf s ps k).getD k P.zero = ps.getD k P.zero := by
  unfold rhalf
  have hl : (rmarks s (ps.take k)).length = k := by rw [rmarks_len]; simp; omega
  rw [List.getD_eq_getElem?_getD, List.getElem?_append_right (by omega), hl, Nat.sub_self, List.drop_eq_getElem_cons h]
  simp [h]
theorem rhalf_set {s : Nat} {ps : List P} {k : Nat} (h : k < ps.length) : (rhalf s ps k).set k (⟨(s + rlen (ps.take k) : Nat), vmarks (s + rlen (ps.take k) + 1) (ps.getD k P.zero).1.l.length⟩, (ps.getD k P.zero).2) = rhalf s ps (k + 1) := by
  have hl : (rmarks s (ps.take k)).length = k := by rw [rmarks_len]; simp; omega
  have e : ps.getD k P.zero = ps[k] := by simp [h]
  unfold rhalf
  rw [e, List.set_append_right _ _ (by omega), hl, Nat.sub_self, List.drop_eq_getElem_cons h, List.set_cons_zero, List.take_succ_eq_append_getElem h, rmarks_append, List.append_assoc]
  rfl
theorem rlen_take_succ {ps : List P} {k : Nat} (h : k < ps.length) : rlen (ps.take (k + 1)) = rlen (ps.take k) + (1 + 3 * (ps.getD k P.zero).1.l.length) := by
  have e : ps.getD k P.zero = ps[k] := by simp [h]
  rw [e, List.take_succ_eq_append_getElem h, rlen_append]
  simp [rlen]
theorem rlen_take_le (ps : List P) (k : Nat) : rlen (ps.take k) ≤ rlen ps := by
  conv => rhs; rw [← List.take_append_drop k ps, rlen_append]
  omega
theorem rmarks_blocks (s : Nat) (ps : List P) : (rmarks s ps).map (fun p => p.2.ownBlock) = ps.map fun p => p.2.ownBlock := by
  induction ps generalizing s with
  | nil => rfl
  | cons p ps ih => simp [rmarks, ih]
theorem rhalf_blocks (s : Nat) (ps : List P) (k : Nat) : (rhalf s ps k).map (fun p => p.2.ownBlock) = ps.map fun p => p.2.ownBlock := by
  unfold rhalf
  rw [List.map_append, rmarks_blocks, ← List.map_append, List.take_append_drop]

set_option maxHeartbeats 1000000 in
theorem markRowS (v : Value) (ps : List P) (lo hi s : Nat) (w : World) (h0 : 0 < s) (hs : s ≤ 1048576) (hn : ps.length ≤ 1048576) (hr : rlen ps ≤ 16777216) (h : OwnRs lo hi w v ps) :
    Calls Try.prog 29 #[v, .int .i64 s] w fun e w' => e = .returned (.int .i64 (s + rlen ps : Nat)) ∧ OwnRs lo hi w' v (rmarks s ps) ∧ Within lo hi w w' := by
  generalize hl : ps.length = n at hn
  obtain ⟨ho, hin, hnd⟩ := h
  rw [hl] at ho
  obtain ⟨g, cap, rfl, hlo, hhi, hown⟩ := ho
  have HL := Lib.hid hl
  have HND := Lib.hid hnd
  have HRL : Hid (∀ k, rlen (ps.take k) ≤ 16777216) := fun k => Nat.le_trans (rlen_take_le ps k) hr
  have hin0 : ∀ j, j < n → Own 76 3 lo hi w ((rhalf s ps 0).getD j P.zero).2 ((rhalf s ps 0).getD j P.zero).1.l.length (vals ((rhalf s ps 0).getD j P.zero).1.l) := by
    have e : rhalf s ps 0 = ps := by simp [rhalf, rmarks]
    rw [e, ← hl]
    exact all_of_mem (q := fun p : P => Own 76 3 lo hi w p.2 p.1.l.length (vals p.1.l)) hin
  clear hl hnd hr hin
  go_enter Try.func29, Try.ntmps29
  go_wp2
  go_loopw [1, 5] (fun q i wr => ∃ k : Nat, k ≤ n ∧ i = .int .i64 k ∧ q = .int .i64 (s + rlen (ps.take k) : Nat) ∧ wr.ownsRow lo 27 2 (.slice (some ⟨g, 0, none⟩) n cap) n (prs (rhalf s ps k))
    ∧ (∀ j, j < n → Own 76 3 lo hi wr ((rhalf s ps k).getD j P.zero).2 ((rhalf s ps k).getD j P.zero).1.l.length (vals ((rhalf s ps k).getD j P.zero).1.l)) ∧ Within lo hi w wr) (fun _ i _ => n - (intOf i).toNat)
  case atStart => exact ⟨0, Nat.zero_le _, rfl, by simp [rlen], by simpa [rhalf, rmarks] using hown, hin0, Within.refl _ _ _⟩
  case round =>
    obtain ⟨k, hk, rfl, rfl, hownr, hir, hwr⟩ := hrel
    by_cases hkl : k < n
    · have hkp : k < ps.length := by rw [HL.out]; exact hkl
      have HST := Lib.hid (rhalf_set (s := s) hkp)
      have HTK := Lib.hid (rlen_take_succ hkp)
      have hr1 := HRL.out k
      have hr2 := HRL.out (k + 1)
      have HLN : Hid ((rhalf s ps k).length = n) := rhalf_len.trans HL.out
      have hik := hir k hkl
      have hc1 : wr.cell? ⟨g, k * 2 + 1, none⟩ = some (ps.getD k P.zero).2 := by
        rw [← rhalf_get (s := s) hkp]
        exact (hownr.cellAt (k * 2 + 1) (by omega)).trans (prs_sl (by rw [HLN.out]; exact hkl))
      have HNB : Hid (∀ j, j < n → j ≠ k → (ps.getD k P.zero).2.ownBlock ≠ ((rhalf s ps k).getD j P.zero).2.ownBlock) := fun j hj hjk => by
        rw [← rhalf_get (s := s) hkp]
        exact nodup_ne (by rw [rhalf_blocks]; exact HND.out) (by rw [HLN.out]; exact hkl) (by rw [HLN.out]; exact hj) (fun e => hjk e.symm)
      have HGK := Lib.hid (rhalf_get (s := s) hkp)
      rw [HGK.out] at hik
      generalize ps.getD k P.zero = p at hik hc1 HST HTK HNB HGK
      obtain ⟨r, u⟩ := p
      simp only at hik hc1 HST HTK HNB
      have hb0 := Own.blocks_ne (own_of_row hownr hlo) hik (by decide)
      have A1 := hownr.stored (k * 2) (.int .i64 (s + rlen (ps.take k) : Nat))
      obtain ⟨x0, s0⟩ := cellAt_some hownr (k * 2) (by omega)
      have f0 := hownr.frozenAt (k * 2)
      have hik1 := hik.other A1.2 (fun e => hb0 e)
      have HMV : Hid (Calls Try.prog 57 #[u, .int .i64 (((s + rlen (ps.take k) : Nat) : Int) + 1)] (wr.setCell ⟨g, k * 2, none⟩ (.int .i64 (s + rlen (ps.take k) : Nat))) fun e w' => e = .returned (.int .i64 (s + rlen (ps.take k) + 1 + 3 * r.l.length : Nat)) ∧ Own 76 3 lo hi w' u r.l.length (vals (vmarks (s + rlen (ps.take k) + 1) r.l.length)) ∧ (wr.setCell ⟨g, k * 2, none⟩ (.int .i64 (s + rlen (ps.take k) : Nat))).grownBy w' u.ownBlock) := by
        have := markValM u r.l.length lo hi r.l (s + rlen (ps.take k) + 1) (wr.setCell ⟨g, k * 2, none⟩ (.int .i64 (s + rlen (ps.take k) : Nat))) (by omega) (by omega) (by rw [HTK.out] at hr2; omega) rfl hik1
        rw [show (((s + rlen (ps.take k) : Nat) : Int) + 1) = ((s + rlen (ps.take k) + 1 : Nat) : Int) by omega]
        exact this
      have HA := Lib.hid A1
      have HI := Lib.hid hir
      have HO := Lib.hid hownr
      have HLEN : Hid (r.l.length ≤ 16777216) := by show r.l.length ≤ 16777216; rw [HTK.out] at hr2; omega
      clear A1 hir hik hik1 hownr hr2
      generalize hm : s + rlen (ps.take k) = m at *
      have HM := Lib.hid hm
      have hm2 : m ≤ 1099511627 := by omega
      clear hm hr1
      go_wp2_with fail
      refine HMV.out.mono ?_
      rintro e w2 ⟨rfl, om, gm⟩
      have hlen := HLEN.out
      have HOM := Lib.hid om
      have HGM := Lib.hid gm
      clear om gm s0 f0 hc1 HMV
      go_wp2
      go_roundw
      case rel =>
        refine ⟨k + 1, by omega, by go_num, by rw [HTK.out]; have := HM.out; go_num, ?_, fun j hj => ?_, ?_⟩
        · rw [← HST.out, prs_set_id (by rw [HLN.out]; exact hkl) (by rw [HGK.out])]
          exact ((own_of_row HA.out.1 hlo).other HGM.out (fun e => hb0 e.symm)).row
        · rw [← HST.out]
          by_cases hjk : j = k
          · subst hjk
            rw [getD_set_eq (by rw [HLN.out]; exact hkl)]
            simp only [vmarks_len]
            exact HOM.out
          · rw [getD_set_ne (fun e => hjk e.symm)]
            have o1 := HI.out j hj
            have b1 := Own.blocks_ne (own_of_row HO.out hlo) o1 (by decide)
            exact (o1.other HA.out.2 (fun e => b1 e)).other HGM.out (HNB.out j hj hjk)
        · refine (hwr.trans (Within.of_grown HA.out.2 (fun x hx => ?_))).trans (Within.of_grown HGM.out (fun x hx => ?_))
          · simp only [Option.some.injEq] at hx
            omega
          · obtain ⟨g2, cp2, e2, l2, l3, _⟩ := HOM.out
            rw [e2] at hx
            simp [Value.ownBlock] at hx
            omega
      case measure => simp [intOf]; omega
    · obtain rfl : k = n := by omega
      have e : rhalf s ps k = rmarks s ps := by
        unfold rhalf
        rw [← HL.out, List.take_length, List.drop_length, List.append_nil]
      rw [e] at hownr hir
      have HZ : Hid (rlen (ps.take k) = rlen ps) := by
        show rlen (ps.take k) = rlen ps
        rw [← HL.out, List.take_length]
      have HI : Hid (∀ p ∈ rmarks s ps, Own 76 3 lo hi wr p.2 p.1.l.length (vals p.1.l)) := mem_of_all (d := P.zero) (q := fun p : P => Own 76 3 lo hi wr p.2 p.1.l.length (vals p.1.l)) (fun j hj => hir j (by rw [rmarks_len, HL.out] at hj; exact hj))
      rw [HZ.out]
      clear hir
      go_wp2
      go_ret
      refine ⟨rfl, ⟨?_, HI.out, by rw [rmarks_blocks]; exact HND.out⟩, hwr⟩
      rw [rmarks_len, HL.out]
      exact ⟨_, _, rfl, hlo, hhi, hownr⟩

end Go.Proofs.Ytkofafefnlommaa

/- The contracts of the model's chapter 4 that do no text: ColsOk, FitsCols, RowOk, SameRow, SameRows, Column. -/
namespace Go.Proofs.Ytkofafefnlommaa
open Go.RowKit

/-- ColsOk. -/
def colsB (zs : List Int) : Bool := zs.all (fun z => Num.inB z 1 2) && Num.inB zs.length 1 3
theorem colsB_no {zs : List Int} {k : Nat} (hk : k < zs.length) (h : Num.inB (zs.getD k 0) 1 2 = false) : colsB zs = false := by
  have e : zs.getD k 0 = zs[k] := by simp [hk]
  rw [e] at h
  unfold colsB
  rw [Bool.and_eq_false_iff]
  left
  rw [List.all_eq_false]
  exact ⟨_, List.getElem_mem hk, by rw [h]; simp⟩
theorem colsB_all {zs : List Int} (h : ∀ k, k < zs.length → Num.inB (zs.getD k 0) 1 2 = true) : colsB zs = Num.inB zs.length 1 3 := by
  unfold colsB
  rw [List.all_eq_true.2, Bool.true_and]
  intro z hz
  obtain ⟨k, hk, rfl⟩ := List.getElem_of_mem hz
  have := h k hk
  simpa [hk] using this

set_option maxHeartbeats 400000 in
theorem sColsOk (u : Value) (zs : List Int) (w : World) (h : Rd 1 w u zs.length (ints .i64 zs)) :
    Calls Try.prog 53 #[u] w fun e w' => e = .returned (.bool (colsB zs)) ∧ w = w' := by
  generalize hl : zs.length = n at h
  obtain ⟨a, cap, rfl, hm, HC⟩ := h.ints hl
  unfold maxLen at hm
  have HL := Lib.hid hl
  clear h hl
  go_enter Try.func53, Try.ntmps53
  go_wp2
  go_loop [3] (fun i => ∃ k : Nat, k ≤ n ∧ i = .int .i64 k ∧ ∀ j, j < k → Num.inB (zs.getD j 0) 1 2 = true) (fun i => n - (intOf i).toNat)
  case atStart => exact ⟨0, Nat.zero_le _, rfl, fun j hj => by omega⟩
  case round =>
    obtain ⟨k, hk, rfl, hok⟩ := hrel
    have HOK := Lib.hid hok
    clear hok
    by_cases hlt : k < n
    · obtain ⟨b, off, rfl, hc⟩ := HC.out k hlt
      have HS : Hid (Num.inB (zs.getD k 0) 1 2 = true → ∀ j, j < k + 1 → Num.inB (zs.getD j 0) 1 2 = true) := fun h j hj => by
        by_cases e : j = k
        · subst e; exact h
        · exact HOK.out j (by omega)
      have HN : Hid (Num.inB (zs.getD k 0) 1 2 = false → colsB zs = false) := colsB_no (by rw [HL.out]; exact hlt)
      generalize zs.getD k 0 = z at hc HS HN
      have HI := Lib.hid (fun W => l1In z 1 2 W)
      cases hz : Num.inB z 1 2 with
      | true =>
        have HS2 := Lib.hid (HS.out hz)
        rw [hz] at HI
        clear hz HS HN
        go_wp2_with (go_at_call 71; refine (HI.out _).mono ?_; rintro e w' ⟨rfl, rfl⟩)
        go_round
        case rel => exact ⟨k + 1, by omega, by go_num, HS2.out⟩
        case measure => simp [intOf]; omega
      | false =>
        have HN2 := Lib.hid (HN.out hz)
        rw [hz] at HI
        clear hz HS HN
        go_wp2_with (go_at_call 71; refine (HI.out _).mono ?_; rintro e w' ⟨rfl, rfl⟩)
        go_ret
        exact ⟨ret_bool HN2.out.symm, rfl⟩
    · obtain rfl : k = n := by omega
      have HA : Hid (colsB zs = Num.inB k 1 3) := by
        show colsB zs = _
        rw [colsB_all (fun j hj => HOK.out j (by rw [← HL.out]; exact hj)), HL.out]
      have HI := Lib.hid (fun W => l1In k 1 3 W)
      go_wp2_with (go_at_call 71; refine (HI.out _).mono ?_; rintro e w' ⟨rfl, rfl⟩)
      go_ret
      exact ⟨ret_bool HA.out.symm, rfl⟩

-- FITSCOLS
/-- A value that fits its column. -/
def fitB (z : Int) (v : V) : Bool := okV v && v.ty == z
/-- FitsCols. -/
def fitsB (zs : List Int) (l : List V) : Bool := all2 fitB zs l

set_option maxHeartbeats 1000000 in
theorem sFitsCols (u v : Value) (zs : List Int) (l : List V) (w : World) (hss : ∀ v ∈ l, v.s.size ≤ maxLen) (h : Rd 1 w u zs.length (ints .i64 zs)) (h2 : Rd 3 w v l.length (vals l)) :
    Calls Try.prog 70 #[u, v] w fun e w' => e = .returned (.bool (fitsB zs l)) ∧ Below w.heap.size w w' := by
  generalize hl : zs.length = n at h
  generalize hr : l.length = m at h2
  obtain ⟨a1, c1, rfl, hm1, HC1⟩ := h.ints hl
  obtain ⟨a2, c2, rfl, hm2, HC2⟩ := h2.vals hr
  unfold maxLen at hm1 hm2
  have HSS : Hid (∀ k, k < m → (l.getD k V.zero).s.size ≤ maxLen) := by
    intro k hk
    have hk' : k < l.length := by omega
    have e : l.getD k V.zero = l[k] := by simp [hk']
    rw [e]
    exact hss _ (List.getElem_mem hk')
  clear h h2 hss
  by_cases hnm : n = m
  · subst hnm
    have hne : ((n : Int) != (n : Int)) = false := by simp
    have HL := Lib.hid hl
    have HR := Lib.hid hr
    clear hl hr
    go_enter Try.func70, Try.ntmps70
    go_wp2
    go_loopw [5] (fun i wr => ∃ k : Nat, k ≤ n ∧ i = .int .i64 k ∧ (∀ j, j < k → fitB (zs.getD j 0) (l.getD j V.zero) = true) ∧ Below w.heap.size w wr) (fun i _ => n - (intOf i).toNat)
    case atStart => exact ⟨0, Nat.zero_le _, rfl, fun j hj => by omega, Below.refl _ _⟩
    case round =>
      obtain ⟨k, hk, rfl, hok, hbr⟩ := hrel
      have HOK := Lib.hid hok
      clear hok
      by_cases hlt : k < n
      · obtain ⟨b1, o1, rfl, p0⟩ := HC1.out k hlt
        obtain ⟨b2, o2, rfl, q0, q1, q2⟩ := HC2.out k hlt
        have HS : Hid (fitB (zs.getD k 0) (l.getD k V.zero) = true → ∀ j, j < k + 1 → fitB (zs.getD j 0) (l.getD j V.zero) = true) := fun h j hj => by
          by_cases e : j = k
          · subst e; exact h
          · exact HOK.out j (by omega)
        have HN : Hid (fitB (zs.getD k 0) (l.getD k V.zero) = false → fitsB zs l = false) := all2_no 0 V.zero (by rw [HL.out]; exact hlt) (by rw [HL.out, HR.out])
        have HO := Lib.hid (fun W => sValOk (l.getD k V.zero) W (HSS.out k hlt))
        generalize zs.getD k 0 = z at p0 HS HN
        generalize l.getD k V.zero = x at q0 q1 q2 HS HN HO
        have HF : Hid (fitB z x = (okV x && x.ty == z)) := rfl
        obtain ⟨t2, n2, s2⟩ := x
        simp only at q0 q1 q2
        replace p0 := (hbr.cell (p := ⟨b1, o1 + k, none⟩) (lt_of_cell p0)).trans p0
        replace q0 := (hbr.cell (p := ⟨b2, o2 + k * 3, none⟩) (lt_of_cell q0)).trans q0
        replace q1 := (hbr.cell (p := ⟨b2, o2 + k * 3 + 1, none⟩) (lt_of_cell q1)).trans q1
        replace q2 := (hbr.cell (p := ⟨b2, o2 + k * 3 + 2, none⟩) (lt_of_cell q2)).trans q2
        have HKV : Hid (∀ W, Below wr.heap.size wr W → W.cell? ⟨b2, o2 + k * 3, none⟩ = some (.int .i64 t2) ∧ W.cell? ⟨b2, o2 + k * 3 + 1, none⟩ = some (.int .i64 n2) ∧ W.cell? ⟨b2, o2 + k * 3 + 2, none⟩ = some (.string s2)) := fun W h =>
          ⟨(h.cell (p := ⟨b2, o2 + k * 3, none⟩) (lt_of_cell q0)).trans q0, (h.cell (p := ⟨b2, o2 + k * 3 + 1, none⟩) (lt_of_cell q1)).trans q1, (h.cell (p := ⟨b2, o2 + k * 3 + 2, none⟩) (lt_of_cell q2)).trans q2⟩
        have HK : Hid (∀ W, Below wr.heap.size wr W → W.cell? ⟨b2, o2 + k * 3, none⟩ = some (.int .i64 t2) ∧ W.cell? ⟨b2, o2 + k * 3 + 1, none⟩ = some (.int .i64 n2) ∧ W.cell? ⟨b2, o2 + k * 3 + 2, none⟩ = some (.string s2) ∧ W.cell? ⟨b1, o1 + k, none⟩ = some (.int .i64 z)) := fun W h =>
          ⟨(HKV.out W h).1, (HKV.out W h).2.1, (HKV.out W h).2.2, (h.cell (p := ⟨b1, o1 + k, none⟩) (lt_of_cell p0)).trans p0⟩
        have hB' := (Below.refl wr.heap.size wr).drew
        clear p0 q0 q1 q2
        cases hv : okV ⟨t2, n2, s2⟩ with
        | false =>
          have HN2 : Hid (fitsB zs l = false) := HN.out (by rw [HF.out, hv, Bool.false_and])
          rw [hv] at HO
          clear hv HS HN HF
          go_wp2
          refine wp_region_held_drew (S := fun W => W.cell? ⟨b2, o2 + k * 3, none⟩ = some (.int .i64 t2) ∧ W.cell? ⟨b2, o2 + k * 3 + 1, none⟩ = some (.int .i64 n2) ∧ W.cell? ⟨b2, o2 + k * 3 + 2, none⟩ = some (.string s2)) (by kernel_rfl) (HKV.out _ hB') (fun hHeld => ?_)
          refine takeH (i := 0) (d := some 17) (v := .slice (some ⟨b2, o2, none⟩) n c2) rfl rfl (by kernel_rfl) (by kernel_rfl) (by kernel_rfl) (fun _ _ _ h => h) (Or.inl ⟨by rfl, fun W hSw => by obtain ⟨d0, d1, d2⟩ := hSw; go_simp⟩) hHeld ?_
          simp only [put_some, List.set_cons_zero, List.set_cons_succ]
          refine takeH (i := 1) (d := some 18) (v := .int .i64 k) rfl rfl (by kernel_rfl) (by kernel_rfl) (by kernel_rfl) (fun _ _ _ h => h) (Or.inl ⟨by rfl, fun W hSw => by obtain ⟨d0, d1, d2⟩ := hSw; go_simp⟩) hHeld ?_
          simp only [put_some, List.set_cons_zero, List.set_cons_succ]
          refine takeH (i := 2) (d := some 19) (v := .pointer (some ⟨b2, o2 + k * 3, none⟩)) rfl rfl (by kernel_rfl) (by kernel_rfl) (by kernel_rfl) (fun _ _ _ h => h) (Or.inl ⟨by rfl, fun W hSw => by obtain ⟨d0, d1, d2⟩ := hSw; go_simp⟩) hHeld ?_
          simp only [put_some, List.set_cons_zero, List.set_cons_succ]
          refine takeH (i := 3) (d := some 20) (v := .agg #[.int .i64 t2, .int .i64 n2, .string s2]) rfl rfl (by kernel_rfl) (by kernel_rfl) (by kernel_rfl) (fun _ _ _ h => h) (Or.inl ⟨by rfl, fun W hSw => by obtain ⟨d0, d1, d2⟩ := hSw; go_simp⟩) hHeld ?_
          simp only [put_some, List.set_cons_zero, List.set_cons_succ]
          refine wpAnyH_ready (rs := [4]) (by kernel_rfl) (by simp) ?_
          refine AllReadyH.cons rfl (fun K hK => ?_) AllReadyH.nil
          go_simp
          go_at_call 81
          refine (HO.out _).mono ?_
          rintro e w2 ⟨rfl, hb2⟩
          replace hB' := below_then hB' hb2 hB'.size
          go_wp2_with fail
          refine hK.out _ _ (HKV.out _ hB') (fun hHeld => ?_)
          clear hK K
          refine takeH (i := 5) (d := some 22) (v := .bool true) rfl rfl (by kernel_rfl) (by kernel_rfl) (by kernel_rfl) (fun _ _ _ h => h) (Or.inl ⟨by rfl, fun W hSw => by obtain ⟨d0, d1, d2⟩ := hSw; go_simp⟩) hHeld ?_
          simp only [put_some, List.set_cons_zero, List.set_cons_succ]
          refine takeH (i := 6) (d := some 23) (v := .bool true) rfl rfl (by kernel_rfl) (by kernel_rfl) (by kernel_rfl) (fun _ _ _ h => h) (Or.inl ⟨by rfl, fun W hSw => by obtain ⟨d0, d1, d2⟩ := hSw; go_simp⟩) hHeld ?_
          simp only [put_some, List.set_cons_zero, List.set_cons_succ]
          refine takeH (i := 7) (d := some 24) (v := undef) rfl rfl (by kernel_rfl) (by kernel_rfl) (by kernel_rfl) (fun _ _ _ h => h) (Or.inr ⟨by rfl, rfl⟩) hHeld ?_
          simp only [put_some, List.set_cons_zero, List.set_cons_succ]
          refine takeH (i := 8) (d := some 25) (v := undef) rfl rfl (by kernel_rfl) (by kernel_rfl) (by kernel_rfl) (fun _ _ _ h => h) (Or.inr ⟨by rfl, rfl⟩) hHeld ?_
          simp only [put_some, List.set_cons_zero, List.set_cons_succ]
          refine takeH (i := 9) (d := some 26) (v := undef) rfl rfl (by kernel_rfl) (by kernel_rfl) (by kernel_rfl) (fun _ _ _ h => h) (Or.inr ⟨by rfl, rfl⟩) hHeld ?_
          simp only [put_some, List.set_cons_zero, List.set_cons_succ]
          refine takeH (i := 10) (d := some 27) (v := undef) rfl rfl (by kernel_rfl) (by kernel_rfl) (by kernel_rfl) (fun _ _ _ h => h) (Or.inr ⟨by rfl, rfl⟩) hHeld ?_
          simp only [put_some, List.set_cons_zero, List.set_cons_succ]
          refine takeH (i := 11) (d := some 28) (v := undef) rfl rfl (by kernel_rfl) (by kernel_rfl) (by kernel_rfl) (fun _ _ _ h => h) (Or.inr ⟨by rfl, rfl⟩) hHeld ?_
          simp only [put_some, List.set_cons_zero, List.set_cons_succ]
          refine takeH (i := 12) (d := some 29) (v := undef) rfl rfl (by kernel_rfl) (by kernel_rfl) (by kernel_rfl) (fun _ _ _ h => h) (Or.inr ⟨by rfl, rfl⟩) hHeld ?_
          simp only [put_some, List.set_cons_zero, List.set_cons_succ]
          refine takeH (i := 13) (d := some 30) (v := undef) rfl rfl (by kernel_rfl) (by kernel_rfl) (by kernel_rfl) (fun _ _ _ h => h) (Or.inr ⟨by rfl, rfl⟩) hHeld ?_
          simp only [put_some, List.set_cons_zero, List.set_cons_succ]
          refine takeH (i := 14) (d := some 31) (v := undef) rfl rfl (by kernel_rfl) (by kernel_rfl) (by kernel_rfl) (fun _ _ _ h => h) (Or.inr ⟨by rfl, rfl⟩) hHeld ?_
          simp only [put_some, List.set_cons_zero, List.set_cons_succ]
          refine takeH (i := 15) (d := some 32) (v := undef) rfl rfl (by kernel_rfl) (by kernel_rfl) (by kernel_rfl) (fun _ _ _ h => h) (Or.inr ⟨by rfl, rfl⟩) hHeld ?_
          simp only [put_some, List.set_cons_zero, List.set_cons_succ]
          refine takeH (i := 16) (d := some 33) (v := undef) rfl rfl (by kernel_rfl) (by kernel_rfl) (by kernel_rfl) (fun _ _ _ h => h) (Or.inr ⟨by rfl, rfl⟩) hHeld ?_
          simp only [put_some, List.set_cons_zero, List.set_cons_succ]
          refine takeH (i := 17) (d := some 34) (v := .bool true) rfl rfl (by kernel_rfl) (by kernel_rfl) (by kernel_rfl) (fun _ _ _ h => h) (Or.inl ⟨by rfl, fun W hSw => by obtain ⟨d0, d1, d2⟩ := hSw; go_simp⟩) hHeld ?_
          simp only [put_some, List.set_cons_zero, List.set_cons_succ]
          refine wpAnyH_done (by kernel_rfl) ?_ _
          go_wp2
          go_ret
          exact ⟨ret_bool HN2.out.symm, below_then hbr hB' hbr.size⟩
        | true =>
          rw [hv] at HO
          rw [hv, Bool.true_and] at HF
          simp only at HF
          cases ht : (t2 == z) with
          | true =>
            have HS2 := Lib.hid (HS.out (by rw [HF.out, ht]))
            have hzz : (t2 != z) = false := by simpa using ht
            clear hv HS HN HF ht
            go_wp2
            go_region_held3 (fun W => W.cell? ⟨b2, o2 + k * 3, none⟩ = some (.int .i64 t2) ∧ W.cell? ⟨b2, o2 + k * 3 + 1, none⟩ = some (.int .i64 n2) ∧ W.cell? ⟨b2, o2 + k * 3 + 2, none⟩ = some (.string s2) ∧ W.cell? ⟨b1, o1 + k, none⟩ = some (.int .i64 z)) (exact HK.out _ hB') ((go_at_call 81; (with_reducible refine (HO.out _).mono ?_); rintro e w2 ⟨rfl, hb2⟩; replace hB' := below_then hB' hb2 hB'.size))
            go_wp2
            go_roundw
            case rel => exact ⟨k + 1, by omega, by go_num, HS2.out, below_then hbr hB' hbr.size⟩
            case measure => simp [intOf]; omega
          | false =>
            have HN2 := Lib.hid (HN.out (by rw [HF.out, ht]))
            have hzz : (t2 != z) = true := by simpa using ht
            clear hv HS HN HF ht
            go_wp2
            go_region_held3 (fun W => W.cell? ⟨b2, o2 + k * 3, none⟩ = some (.int .i64 t2) ∧ W.cell? ⟨b2, o2 + k * 3 + 1, none⟩ = some (.int .i64 n2) ∧ W.cell? ⟨b2, o2 + k * 3 + 2, none⟩ = some (.string s2) ∧ W.cell? ⟨b1, o1 + k, none⟩ = some (.int .i64 z)) (exact HK.out _ hB') ((go_at_call 81; (with_reducible refine (HO.out _).mono ?_); rintro e w2 ⟨rfl, hb2⟩; replace hB' := below_then hB' hb2 hB'.size))
            go_wp2
            go_ret
            exact ⟨ret_bool HN2.out.symm, below_then hbr hB' hbr.size⟩
      · obtain rfl : k = n := by omega
        have HA : Hid (fitsB zs l = true) := all2_all 0 V.zero (by rw [HL.out, HR.out]) (fun j hj => HOK.out j (by rw [← HL.out]; exact hj))
        go_wp2
        go_ret
        exact ⟨ret_bool HA.out.symm, hbr⟩
  · have hne : ((n : Int) != (m : Int)) = true := by simp; omega
    have HA : Hid (fitsB zs l = false) := all2_len (by omega)
    clear hl hr
    go_enter Try.func70, Try.ntmps70
    go_wp2
    go_ret
    exact ⟨ret_bool HA.out.symm, Below.refl _ _⟩
-- FITSCOLS

end Go.Proofs.Ytkofafefnlommaa

/- The contracts of the model's chapter 4, more: RowOk, SameRow, SameRows, Column. -/
namespace Go.Proofs.Ytkofafefnlommaa
open Go.RowKit

/-- RowOk. -/
def rowB (zs : List Int) (r : R) : Bool := decide (0 ≤ r.id) && fitsB zs r.l
theorem sRowOk (u v : Value) (zs : List Int) (r : R) (w : World) (hss : ∀ v ∈ r.l, v.s.size ≤ maxLen) (h : Rd 1 w u zs.length (ints .i64 zs)) (h2 : r.rd w v) :
    Calls Try.prog 52 #[u, r.agg v] w fun e w' => e = .returned (.bool (rowB zs r)) ∧ Below w.heap.size w w' := by
  have B0 := below_alloc w (.cells #[.int .i64 r.id, v] 27)
  have HF := Lib.hid (sFitsCols u v zs r.l _ hss (h.below B0) (h2.below B0))
  have HE : Hid (rowB zs r = (decide (0 ≤ r.id) && fitsB zs r.l)) := rfl
  obtain ⟨a1, c1, rfl, _, _⟩ := h
  obtain ⟨a2, c2, rfl, _, _⟩ := h2
  obtain ⟨i, l⟩ := r
  simp only at HF HE B0
  generalize fitsB zs l = q at HF HE
  generalize rowB zs ⟨i, l⟩ = p at HE ⊢
  generalize l.length = m at *
  generalize zs.length = n at *
  by_cases hi : 0 ≤ i
  · rw [decide_eq_true hi, Bool.true_and] at HE
    go_enter Try.func52, Try.ntmps52
    go_wp2_with fail
    refine HF.out.mono ?_
    rintro e w1 ⟨rfl, b1⟩
    have B1 := below_then B0 b1 B0.size
    clear b1
    go_wp2
    go_ret
    exact ⟨ret_bool HE.out.symm, B1⟩
  · rw [decide_eq_false hi, Bool.false_and] at HE
    go_enter Try.func52, Try.ntmps52
    go_wp2
    go_ret
    exact ⟨ret_bool HE.out.symm, B0⟩

/-- SameRow. -/
def R.eqB (a b : R) : Bool := a.id == b.id && sameV a.l b.l
/-- SameRows. -/
def sameR (l r : List R) : Bool := all2 R.eqB l r
def R.zero : R := ⟨0, []⟩

/-- Column. -/
def colR (l : List R) (k : Int) : List V := l.filterMap fun r => if Num.inB k 0 ((r.l.length : Int) - 1) = true then r.l[k.toNat]? else none
theorem colR_le (l : List R) (k : Int) : (colR l k).length ≤ l.length := List.length_filterMap_le _ _
theorem colR_snoc (l : List R) (r : R) (k : Int) : colR (l ++ [r]) k = colR l k ++ (if Num.inB k 0 ((r.l.length : Int) - 1) = true then r.l[k.toNat]? else none).toList := by
  unfold colR
  rw [List.filterMap_append]
  congr 1

end Go.Proofs.Ytkofafefnlommaa

/- Row groups: plain mathematics (RowsOk, FindRow, DropRows, PutRow). -/
namespace Go.Proofs.Ytkofafefnlommaa
open Go.RowKit

theorem getD_fstR (ps : List P) (k : Nat) : (ps.map (·.1)).getD k R.zero = (ps.getD k P.zero).1 := (getD_fst ps k).symm

/-- What RowsOk asks of row j. -/
def goodB (zs : List Int) (l : List R) (j : Nat) : Bool := rowB zs (l.getD j R.zero) && (decide ((l.getD j R.zero).id ≤ 1000000000) && (decide (j = 0) || decide ((l.getD (j - 1) R.zero).id < (l.getD j R.zero).id)))
def rowsOkL (zs : List Int) (l : List R) : Bool := colsB zs && (decide (l.length ≤ 12) && (List.range l.length).all (goodB zs l))
theorem rowsOk_no {zs : List Int} {l : List R} {j : Nat} (hj : j < l.length) (h : goodB zs l j = false) : rowsOkL zs l = false := by
  have e : (List.range l.length).all (goodB zs l) = false := by
    rw [List.all_eq_false]
    exact ⟨j, List.mem_range.2 hj, by simp [h]⟩
  unfold rowsOkL
  rw [e, Bool.and_false, Bool.and_false]
theorem rowsOk_end {zs : List Int} {l : List R} (h : ∀ j, j < l.length → goodB zs l j = true) : rowsOkL zs l = (colsB zs && decide (l.length ≤ 12)) := by
  have e : (List.range l.length).all (goodB zs l) = true := by
    rw [List.all_eq_true]
    intro j hj
    exact h j (List.mem_range.1 hj)
  unfold rowsOkL
  rw [e, Bool.and_true]
theorem rowsOk_cols {zs : List Int} {l : List R} (h : colsB zs = false) : rowsOkL zs l = false := by
  unfold rowsOkL
  rw [h, Bool.false_and]
theorem rowsOk_long {zs : List Int} {l : List R} (h : ¬ l.length ≤ 12) : rowsOkL zs l = false := by
  unfold rowsOkL
  rw [decide_eq_false h, Bool.false_and, Bool.and_false]
theorem rowsOk_true {zs : List Int} {l : List R} (h : rowsOkL zs l = true) : colsB zs = true ∧ l.length ≤ 12 ∧ ∀ j, j < l.length → goodB zs l j = true := by
  unfold rowsOkL at h
  simp only [Bool.and_eq_true, decide_eq_true_eq, List.all_eq_true, List.mem_range] at h
  exact h

/-- FindRow. -/
def findL (l : List R) (n : Int) : Option R := l.find? fun r => r.id == n
theorem find_hit {l : List R} {n : Int} {j : Nat} (hj : j < l.length) (hn : ∀ k, k < j → (l.getD k R.zero).id ≠ n) (h : (l.getD j R.zero).id = n) : findL l n = some (l.getD j R.zero) := by
  have e : l.getD j R.zero = l[j] := by simp [hj]
  rw [e] at h
  unfold findL
  rw [e, List.find?_eq_some_iff_getElem]
  refine ⟨by simp [h], j, hj, rfl, fun k hk => ?_⟩
  have hk' : k < l.length := by omega
  have e2 : l.getD k R.zero = l[k] := by simp [hk']
  have := hn k hk
  rw [e2] at this
  simp [this]
theorem find_none {l : List R} {n : Int} (hn : ∀ k, k < l.length → (l.getD k R.zero).id ≠ n) : findL l n = none := by
  unfold findL
  rw [List.find?_eq_none]
  intro x hx
  obtain ⟨k, hk, rfl⟩ := List.getElem_of_mem hx
  have := hn k hk
  simpa [hk] using this

/-- Is n one of them? -/
def hasI (ids : List Int) (n : Int) : Bool := ids.contains n
/-- DropRows. -/
def dropL (l : List R) (ids : List Int) : List R := l.filter fun r => !hasI ids r.id
theorem dropL_take {l : List R} {ids : List Int} {r : R} {j : Nat} (hj : j < l.length) (e : l.getD j R.zero = r) : dropL (l.take (j + 1)) ids = if hasI ids r.id = true then dropL (l.take j) ids else dropL (l.take j) ids ++ [r] := by
  have e' : l[j] = r := by rw [← e]; simp [hj]
  unfold dropL
  rw [List.take_succ_eq_append_getElem hj, List.filter_append, e']
  cases h : hasI ids r.id with
  | true => simp only [List.filter_cons, List.filter_nil, h, Bool.not_true, Bool.false_eq_true, if_false, if_true, List.append_nil]
  | false => simp only [List.filter_cons, List.filter_nil, h, Bool.not_false, Bool.false_eq_true, if_false, if_true]
theorem dropL_len (l : List R) (ids : List Int) : (dropL l ids).length ≤ l.length := List.length_filter_le _ _
theorem contains_hit {ids : List Int} {n : Int} {j : Nat} (hj : j < ids.length) (h : ids.getD j 0 = n) : hasI ids n = true := by
  unfold hasI
  have e : ids.getD j 0 = ids[j] := by simp [hj]
  rw [List.contains_iff_mem, ← h, e]
  exact List.getElem_mem hj
theorem contains_no {ids : List Int} {n : Int} (h : ∀ j, j < ids.length → ids.getD j 0 ≠ n) : hasI ids n = false := by
  unfold hasI
  rw [Bool.eq_false_iff]
  intro hc
  rw [List.contains_iff_mem] at hc
  obtain ⟨j, hj, e⟩ := List.getElem_of_mem hc
  refine h j hj ?_
  rw [← e]
  simp [hj]

/-- PutRow: where the row goes. -/
def putK (l : List R) (n : Int) : Nat := (l.takeWhile fun r => decide (r.id < n)).length
def putL (l : List R) (r : R) : List R := l.take (putK l r.id) ++ r :: l.drop (putK l r.id)
theorem putK_of {l : List R} {n : Int} {k : Nat} (hk : k ≤ l.length) (hl : ∀ j, j < k → (l.getD j R.zero).id < n) (he : k < l.length → ¬ (l.getD k R.zero).id < n) : putK l n = k := by
  induction l generalizing k with
  | nil => simp at hk; subst hk; rfl
  | cons r l ih =>
    cases k with
    | zero =>
      have := he (by simp)
      simp only [List.getD_cons_zero] at this
      unfold putK
      rw [List.takeWhile_cons_of_neg (by simpa using this)]
      rfl
    | succ k =>
      have h0 := hl 0 (by omega)
      simp only [List.getD_cons_zero] at h0
      have := ih (k := k) (by simpa using hk) (fun j hj => by have := hl (j + 1) (by omega); simpa using this) (fun h => by have := he (by simpa using h); simpa using this)
      unfold putK at this ⊢
      rw [List.takeWhile_cons_of_pos (by simpa using h0), List.length_cons, this]
theorem putK_le (l : List R) (n : Int) : putK l n ≤ l.length := (List.takeWhile_sublist _).length_le
theorem putL_len (l : List R) (r : R) : (putL l r).length = l.length + 1 := by
  have := putK_le l r.id
  unfold putL
  rw [List.length_append, List.length_cons, List.length_take, List.length_drop]
  omega

end Go.Proofs.Ytkofafefnlommaa

/- Plain mathematics for FnPutRows; laws.in where the number is not there. -/
namespace Go.Proofs.Ytkofafefnlommaa
open Go.RowKit

theorem findL_put (l : List R) (r : R) : (findL (putL l r) r.id).isSome = true := by
  unfold findL
  rw [List.find?_isSome]
  exact ⟨r, by unfold putL; simp, by simp⟩
theorem dropL_no {l : List R} {ids : List Int} : ∀ q ∈ dropL l ids, hasI ids q.id = false := fun q hq => by
  unfold dropL at hq
  have := (List.mem_filter.1 hq).2
  simpa using this
theorem dropL_drop (l : List R) (ids : List Int) : dropL (dropL l ids) ids = dropL l ids := by
  unfold dropL
  rw [List.filter_filter]
  simp

set_option maxHeartbeats 800000 in
theorem inNo (v : Value) (m : Nat) (l : List Int) (x : Int) (w : World) (hm : l.length = m) (h : Rd 1 w v m (ints .i64 l)) (hx : hasI l x = false) :
    Calls Try.prog 20 #[v, .int .i64 x] w fun e w' => e = .returned (.bool false) ∧ w = w' := by
  have HN : Hid (∀ k, k < m → (l.getD k 0 == x) = false) := fun k hk => by
    have hk' : k < l.length := by omega
    have e : l.getD k 0 = l[k] := by simp [hk']
    rw [e]
    unfold hasI at hx
    have h2 : x ∉ l := by simpa using hx
    simp only [beq_eq_false_iff_ne]
    exact fun e => h2 (e ▸ List.getElem_mem hk')
  obtain ⟨a, cap, rfl, hmx, HC⟩ := h.ints hm
  unfold maxLen at hmx
  clear h hm hx
  go_enter Try.func20, Try.ntmps20
  go_wp2
  go_loop [5] (fun i => ∃ k : Nat, k ≤ m ∧ i = .int .i64 k) (fun i => m - (intOf i).toNat)
  case atStart => exact ⟨0, Nat.zero_le _, rfl⟩
  case round =>
    obtain ⟨k, hk, rfl⟩ := hrel
    by_cases hlt : k < m
    · obtain ⟨b, off, rfl, p0⟩ := HC.out k hlt
      have hb := HN.out k hlt
      generalize l.getD k 0 = y at p0 hb
      go_wp2
      go_round
      case rel => exact ⟨k + 1, by omega, by go_num⟩
      case measure => simp [intOf]; omega
    · obtain rfl : k = m := by omega
      go_wp2
      go_ret
      exact ⟨rfl, rfl⟩

end Go.Proofs.Ytkofafefnlommaa

/- The contract of laws.sameVals: two slices of values that read alike. -/
namespace Go.Proofs.Ytkofafefnlommaa
open Go.RowKit

theorem eqB_self (v : V) : v.eqB v = true := by simp [V.eqB]

set_option maxHeartbeats 1000000 in
theorem sameVals (a b : Value) (n : Nat) (l : List V) (w : World) (hz : l.length = n) (ha : Rd 3 w a n (vals l)) (hb : Rd 3 w b n (vals l)) :
    Calls Try.prog 19 #[a, b] w fun e w' => e = .returned (.bool true) ∧ Below w.heap.size w w' := by
  obtain ⟨a1, c1, rfl, hm, HC1⟩ := ha.vals hz
  obtain ⟨a2, c2, rfl, _, HC2⟩ := hb.vals hz
  unfold maxLen at hm
  have hne : ((n : Int) != (n : Int)) = false := by simp
  clear hz ha hb
  go_enter Try.func19, Try.ntmps19
  go_wp2
  go_loopw [5] (fun i wr => ∃ k : Nat, k ≤ n ∧ i = .int .i64 k ∧ Below w.heap.size w wr) (fun i _ => n - (intOf i).toNat)
  case atStart => exact ⟨0, Nat.zero_le _, rfl, Below.refl _ _⟩
  case round =>
    obtain ⟨k, hk, rfl, hbr⟩ := hrel
    by_cases hlt : k < n
    · obtain ⟨b1, o1, e1, p0, p1, p2⟩ := HC1.out k hlt
      obtain ⟨b2, o2, e2, q0, q1, q2⟩ := HC2.out k hlt
      subst e1 e2
      have hq := fun W => run_neq_val (l.getD k V.zero) (l.getD k V.zero) W
      rw [eqB_self] at hq
      generalize l.getD k V.zero = x at p0 p1 p2 q0 q1 q2 hq
      replace p0 := (hbr.cell (p := ⟨b1, o1 + k * 3, none⟩) (lt_of_cell p0)).trans p0
      replace p1 := (hbr.cell (p := ⟨b1, o1 + k * 3 + 1, none⟩) (lt_of_cell p1)).trans p1
      replace p2 := (hbr.cell (p := ⟨b1, o1 + k * 3 + 2, none⟩) (lt_of_cell p2)).trans p2
      replace q0 := (hbr.cell (p := ⟨b2, o2 + k * 3, none⟩) (lt_of_cell q0)).trans q0
      replace q1 := (hbr.cell (p := ⟨b2, o2 + k * 3 + 1, none⟩) (lt_of_cell q1)).trans q1
      replace q2 := (hbr.cell (p := ⟨b2, o2 + k * 3 + 2, none⟩) (lt_of_cell q2)).trans q2
      obtain ⟨t1, n1, s1⟩ := x
      simp only at p0 p1 p2 q0 q1 q2
      go_wp2
      go_quiet (fail)
      go_wp2
      go_roundw
      case rel => exact ⟨k + 1, by omega, by go_num, hbr.trans (below_drewN _ _ _)⟩
      case measure => simp [intOf]; omega
    · go_wp2
      go_ret
      exact ⟨rfl, hbr⟩

end Go.Proofs.Ytkofafefnlommaa

/- The contract of laws.sameRows: two slices of rows that read alike. -/
namespace Go.Proofs.Ytkofafefnlommaa
open Go.RowKit

set_option maxRecDepth 100000 in
set_option maxHeartbeats 1600000 in
theorem sameRows (a b : Value) (n : Nat) (ps qs : List P) (w : World) (hp : ps.length = n) (e : ps.map (·.1) = qs.map (·.1)) (ha : RdRs w a ps) (hb : RdRs w b qs) :
    Calls Try.prog 16 #[a, b] w fun e w' => e = .returned (.bool true) ∧ Below w.heap.size w w' := by
  have hq : qs.length = n := by have := congrArg List.length e; rw [List.length_map, List.length_map] at this; omega
  obtain ⟨a1, c1, rfl, hm, HC1⟩ := ha.walk hp
  obtain ⟨a2, c2, rfl, _, HC2⟩ := hb.walk hq
  unfold maxLen at hm
  have HE : Hid (∀ k, (qs.getD k P.zero).1 = (ps.getD k P.zero).1) := fun k => by
    have h1 : (ps.map (·.1))[k]? = (qs.map (·.1))[k]? := by rw [e]
    rw [List.getElem?_map, List.getElem?_map] at h1
    rw [List.getD_eq_getElem?_getD, List.getD_eq_getElem?_getD]
    cases h2 : ps[k]? <;> cases h3 : qs[k]? <;> rw [h2, h3] at h1 <;> simp at h1 ⊢
    exact h1.symm
  have hne : ((n : Int) != (n : Int)) = false := by simp
  clear hp hq ha hb e
  go_enter Try.func16, Try.ntmps16
  go_wp2
  go_loopw [5] (fun i wr => ∃ k : Nat, k ≤ n ∧ i = .int .i64 k ∧ Below w.heap.size w wr) (fun i _ => n - (intOf i).toNat)
  case atStart => exact ⟨0, Nat.zero_le _, rfl, Below.refl _ _⟩
  case round =>
    obtain ⟨k, hk, rfl, hbr⟩ := hrel
    by_cases hlt : k < n
    · obtain ⟨b1, o1, rfl, p0, p1, hr1⟩ := HC1.out k hlt wr hbr
      obtain ⟨b2, o2, rfl, q0, q1, hr2⟩ := HC2.out k hlt wr hbr
      have he := HE.out k
      obtain ⟨x1, d1, hx1, _⟩ := id hr1
      obtain ⟨x2, d2, hx2, _⟩ := id hr2
      rw [he] at hr2 q0 hx2
      generalize (ps.getD k P.zero).2 = u1 at p1 hr1 hx1
      generalize (qs.getD k P.zero).2 = u2 at q1 hr2 hx2
      generalize (ps.getD k P.zero).1 = r at p0 q0 hr1 hr2 hx1 hx2
      obtain ⟨ri, rl⟩ := r
      simp only at p0 q0
      have HSV := Lib.hid (fun W (hW : Below wr.heap.size wr W) => sameVals u1 u2 rl.length rl W rfl (hr1.below hW) (hr2.below hW))
      subst hx1 hx2
      have hii : (ri != ri) = false := by simp
      have HKB : Hid (∀ W, Below wr.heap.size wr W → W.cell? ⟨b1, o1 + k * 2, none⟩ = some (.int .i64 ri) ∧ W.cell? ⟨b1, o1 + k * 2 + 1, none⟩ = some (.slice x1 rl.length d1) ∧ W.cell? ⟨b2, o2 + k * 2, none⟩ = some (.int .i64 ri) ∧ W.cell? ⟨b2, o2 + k * 2 + 1, none⟩ = some (.slice x2 rl.length d2)) := fun W hW =>
        ⟨(hW.cell (p := ⟨b1, o1 + k * 2, none⟩) (lt_of_cell p0)).trans p0, (hW.cell (p := ⟨b1, o1 + k * 2 + 1, none⟩) (lt_of_cell p1)).trans p1, (hW.cell (p := ⟨b2, o2 + k * 2, none⟩) (lt_of_cell q0)).trans q0, (hW.cell (p := ⟨b2, o2 + k * 2 + 1, none⟩) (lt_of_cell q1)).trans q1⟩
      have hB' := (Below.refl wr.heap.size wr).drew
      clear p0 p1 q0 q1 hr1 hr2 he
      go_wp2_with fail
      go_region_held3 (fun W => W.cell? ⟨b1, o1 + k * 2, none⟩ = some (.int .i64 ri) ∧ W.cell? ⟨b1, o1 + k * 2 + 1, none⟩ = some (.slice x1 rl.length d1) ∧ W.cell? ⟨b2, o2 + k * 2, none⟩ = some (.int .i64 ri) ∧ W.cell? ⟨b2, o2 + k * 2 + 1, none⟩ = some (.slice x2 rl.length d2)) (exact HKB.out _ hB') (first | (go_at_call 19; (with_reducible refine (HSV.out _ hB').mono ?_); rintro e wB ⟨rfl, hb⟩; replace hB' := below_then hB' hb hB'.size))
      all_goals
        have hb2 := below_then hbr hB' hbr.size
        clear HSV HKB hB'
        go_wp2
        go_roundw
        case rel => exact ⟨k + 1, by omega, by go_num, hb2⟩
        case measure => simp [intOf]; omega
    · go_wp2
      go_ret
      exact ⟨rfl, hbr⟩

end Go.Proofs.Ytkofafefnlommaa

/- The exact laws of chapter 4 that do no text, walked; the program's own contracts come as hypotheses. -/
namespace Go.Proofs.Ytkofafefnlommaa
open Go.RowKit

def CColsOk : Prop := ∀ (u : Value) (zs : List Int) (w : World), zs.length ≤ 1048576 → Rd 1 w u zs.length (ints .i64 zs) → Calls Try.prog 54 #[u] w fun e w' => e = .returned (.bool (colsB zs)) ∧ Below w.heap.size w w'
def CFitsCols : Prop := ∀ (u v : Value) (zs : List Int) (l : List V) (w : World), zs.length ≤ 1048576 → l.length ≤ 1048576 → (∀ v ∈ l, v.s.size ≤ maxLen) → Rd 1 w u zs.length (ints .i64 zs) → Rd 3 w v l.length (vals l) → Calls Try.prog 72 #[u, v] w fun e w' => e = .returned (.bool (fitsB zs l)) ∧ Below w.heap.size w w'
def CRowOk : Prop := ∀ (u v : Value) (zs : List Int) (r : R) (w : World), zs.length ≤ 1048576 → r.l.length ≤ 1048576 → (∀ v ∈ r.l, v.s.size ≤ maxLen) → Rd 1 w u zs.length (ints .i64 zs) → r.rd w v → Calls Try.prog 55 #[u, r.agg v] w fun e w' => e = .returned (.bool (rowB zs r)) ∧ Below w.heap.size w w'
theorem bulkR_mem {ps : List P} {p : P} (h : p ∈ ps) : p.1.l.length ≤ bulkR ps := by
  induction ps with
  | nil => cases h
  | cons q ps ih =>
    have e : bulkR (q :: ps) = q.1.l.length + bulk q.1.l + bulkR ps := by simp [bulkR]
    rcases List.mem_cons.1 h with rfl | h
    · omega
    · have := ih h
      omega
theorem rlen_le (ps : List P) : rlen ps ≤ 3 * (ps.length + bulkR ps) := by
  induction ps with
  | nil => simp [rlen]
  | cons q ps ih =>
    have e : bulkR (q :: ps) = q.1.l.length + bulk q.1.l + bulkR ps := by simp [bulkR]
    simp only [rlen, List.length_cons]
    omega
theorem rlen_fst {ps qs : List P} (h : qs.map (·.1) = ps.map (·.1)) : rlen qs = rlen ps := by
  induction qs generalizing ps with
  | nil => cases ps with
    | nil => rfl
    | cons => cases h
  | cons q qs ih => cases ps with
    | nil => cases h
    | cons p ps =>
      simp only [List.map_cons, List.cons.injEq] at h
      rw [rlen, rlen, h.1, ih h.2]
theorem len_fst {ps qs : List P} (h : qs.map (·.1) = ps.map (·.1)) : qs.length = ps.length := by simpa using congrArg List.length h
theorem small_fst {ps qs : List P} {N : Nat} (h : qs.map (·.1) = ps.map (·.1)) (hp : ∀ p ∈ ps, p.1.l.length ≤ N) : ∀ q ∈ qs, q.1.l.length ≤ N := by
  intro q hq
  have : q.1 ∈ ps.map (·.1) := by
    rw [← h]
    exact List.mem_map.2 ⟨q, hq, rfl⟩
  obtain ⟨p, hp', e⟩ := List.mem_map.1 this
  rw [← e]
  exact hp p hp'

end Go.Proofs.Ytkofafefnlommaa

/- Small facts about lists of Rows, for exact laws. -/
namespace Go.Proofs.Ytkofafefnlommaa
open Go.RowKit

theorem rows_small {ps qs : List P} (h : qs.map (·.1) = ps.map (·.1)) (hp : ∀ p ∈ ps, ∀ v ∈ p.1.l, v.s.size ≤ maxLen) : ∀ q ∈ qs, ∀ v ∈ q.1.l, v.s.size ≤ maxLen := by
  intro q hq
  have : q.1 ∈ ps.map (·.1) := by
    rw [← h]
    exact List.mem_map.2 ⟨q, hq, rfl⟩
  obtain ⟨p, hp', e⟩ := List.mem_map.1 this
  rw [← e]
  exact hp p hp'
def rlenR (l : List R) : Nat := (l.map fun r => 1 + 3 * r.l.length).sum
theorem rlen_R (ps : List P) : rlen ps = rlenR (ps.map (·.1)) := by
  induction ps with
  | nil => rfl
  | cons p ps ih =>
    rw [rlen, ih]
    simp [rlenR]
theorem rlenR_filter (f : R → Bool) (l : List R) : rlenR (l.filter f) ≤ rlenR l := by
  induction l with
  | nil => simp
  | cons r l ih =>
    rw [List.filter_cons]
    have e : rlenR (r :: l) = 1 + 3 * r.l.length + rlenR l := by simp [rlenR]
    split
    · have e2 : rlenR (r :: l.filter f) = 1 + 3 * r.l.length + rlenR (l.filter f) := by simp [rlenR]
      omega
    · omega
theorem Blk.within {lo hi : Nat} {W W' : World} {b : Nat} {cs : List Value} (h : Blk W b cs) (hw : Within lo hi W W') (hb : b < lo ∨ hi ≤ b) : Blk W' b cs := fun i x hx =>
  have hk := hw.2.2.2.2 b (lt_of_cell (h i x hx).1) hb
  ⟨(World.cell?_of_block hk).trans (h i x hx).1, (World.frozen?_of_block hk).trans (h i x hx).2⟩


end Go.Proofs.Ytkofafefnlommaa

/- The contracts of impl's LessVal, SameVals, NumsOf, TextsOf. -/
namespace Go.Proofs.Ytkofafefnlommaa
open Go.RowKit

theorem made_one (x : Value) (n : Nat) : (madeCells #[x] n).toList = List.replicate n x := by
  apply List.ext_getElem?
  intro i
  unfold madeCells
  by_cases hi : i < n
  · simp [hi, Nat.mod_one]
  · simp [hi]

/-- A list of zeros, filled up to k. -/
def halfNumsOf (l : List V) (k : Nat) : List Value := ints .i64 ((l.map V.n).take k) ++ List.replicate (l.length - k) (.int .i64 0)
theorem halfNumsOf_set {l : List V} {k : Nat} (h : k < l.length) : (halfNumsOf l k).set k (.int .i64 (l.getD k V.zero).n) = halfNumsOf l (k + 1) := by
  have hl : (ints .i64 ((l.map V.n).take k)).length = k := by simp [ints]; omega
  unfold halfNumsOf
  rw [List.set_append_right _ _ (by omega), hl, Nat.sub_self, show l.length - k = (l.length - (k + 1)) + 1 by omega, List.replicate_succ, List.set_cons_zero, List.take_succ_eq_append_getElem (by simpa using h)]
  simp [ints, h]
theorem halfNumsOf_all (l : List V) : halfNumsOf l l.length = ints .i64 (l.map V.n) := by
  unfold halfNumsOf
  rw [List.take_of_length_le (by simp), Nat.sub_self, List.replicate_zero, List.append_nil]

/-- A list of zeros, filled up to k. -/
def halfTextsOf (l : List V) (k : Nat) : List Value := strs ((l.map V.s).take k) ++ List.replicate (l.length - k) (.string ⟨#[]⟩)
theorem halfTextsOf_set {l : List V} {k : Nat} (h : k < l.length) : (halfTextsOf l k).set k (.string (l.getD k V.zero).s) = halfTextsOf l (k + 1) := by
  have hl : (strs ((l.map V.s).take k)).length = k := by simp [strs]; omega
  unfold halfTextsOf
  rw [List.set_append_right _ _ (by omega), hl, Nat.sub_self, show l.length - k = (l.length - (k + 1)) + 1 by omega, List.replicate_succ, List.set_cons_zero, List.take_succ_eq_append_getElem (by simpa using h)]
  simp [strs, h]
theorem halfTextsOf_all (l : List V) : halfTextsOf l l.length = strs (l.map V.s) := by
  unfold halfTextsOf
  rw [List.take_of_length_le (by simp), Nat.sub_self, List.replicate_zero, List.append_nil]

end Go.Proofs.Ytkofafefnlommaa

/- The contracts of impl's ColsOk, SameRow, SameRows, Column. -/
namespace Go.Proofs.Ytkofafefnlommaa
open Go.RowKit

theorem inB12 {z : Int} : Num.inB z 1 2 = true ↔ z = 1 ∨ z = 2 := by
  rw [Num.inB_true]
  omega
theorem colsB_len {zs : List Int} (h : zs.length < 1 ∨ 3 < zs.length) : colsB zs = false := by
  unfold colsB
  rw [Bool.and_eq_false_iff]
  right
  rw [← Bool.not_eq_true, Num.inB_true]
  omega

set_option maxHeartbeats 1000000 in
theorem iColsOk : CColsOk := by
  intro u zs w _ h
  generalize hl : zs.length = n at h
  obtain ⟨a, cap, rfl, hm, HC⟩ := h.ints hl
  unfold maxLen at hm
  have HL := Lib.hid hl
  clear h hl
  by_cases h1 : n < 1
  · have HA : Hid (colsB zs = false) := colsB_len (by rw [HL.out]; exact .inl h1)
    go_enter Try.func54, Try.ntmps54
    go_wp2
    go_ret
    exact ⟨ret_bool HA.out.symm, Below.refl _ _⟩
  by_cases h3 : 3 < n
  · have HA : Hid (colsB zs = false) := colsB_len (by rw [HL.out]; exact .inr h3)
    go_enter Try.func54, Try.ntmps54
    go_wp2
    go_ret
    exact ⟨ret_bool HA.out.symm, Below.refl _ _⟩
  go_enter Try.func54, Try.ntmps54
  go_wp2
  go_loop [15] (fun i => ∃ k : Nat, k ≤ n ∧ i = .int .i64 k ∧ ∀ j, j < k → Num.inB (zs.getD j 0) 1 2 = true) (fun i => n - (intOf i).toNat)
  case atStart => exact ⟨0, Nat.zero_le _, rfl, fun j hj => by omega⟩
  case round =>
    obtain ⟨k, hk, rfl, hok⟩ := hrel
    have HOK := Lib.hid hok
    clear hok
    by_cases hlt : k < n
    · obtain ⟨b, off, rfl, hc⟩ := HC.out k hlt
      have HS : Hid (Num.inB (zs.getD k 0) 1 2 = true → ∀ j, j < k + 1 → Num.inB (zs.getD j 0) 1 2 = true) := fun h j hj => by
        by_cases e : j = k
        · subst e; exact h
        · exact HOK.out j (by omega)
      have HN : Hid (Num.inB (zs.getD k 0) 1 2 = false → colsB zs = false) := colsB_no (by rw [HL.out]; exact hlt)
      generalize zs.getD k 0 = z at hc HS HN
      by_cases z1 : z = 1
      · have HS2 := Lib.hid (HS.out (inB12.2 (.inl z1)))
        subst z1
        clear HS HN
        go_wp2
        go_round
        case rel => exact ⟨k + 1, by omega, by go_num, HS2.out⟩
        case measure => simp [intOf]; omega
      by_cases z2 : z = 2
      · have HS2 := Lib.hid (HS.out (inB12.2 (.inr z2)))
        subst z2
        clear HS HN
        go_wp2
        go_round
        case rel => exact ⟨k + 1, by omega, by go_num, HS2.out⟩
        case measure => simp [intOf]; omega
      · have HN2 := Lib.hid (HN.out (by rw [← Bool.not_eq_true, inB12]; omega))
        have e1 : (z != 1) = true := by simpa using z1
        have e2 : (z != 2) = true := by simpa using z2
        clear HS HN z1 z2
        go_wp2
        go_ret
        exact ⟨ret_bool HN2.out.symm, Below.refl _ _⟩
    · obtain rfl : k = n := by omega
      have HA : Hid (colsB zs = true) := by
        show colsB zs = _
        rw [colsB_all (fun j hj => HOK.out j (by rw [← HL.out]; exact hj)), HL.out, Num.inB_true]
        omega
      go_wp2
      go_ret
      exact ⟨ret_bool HA.out.symm, Below.refl _ _⟩

end Go.Proofs.Ytkofafefnlommaa

/- The contracts of impl's intVal, textVal, textByte, textOk, ValOk. -/
namespace Go.Proofs.Ytkofafefnlommaa
open Go.RowKit

theorem iIntVal (n : Int) (w : World) : Calls Try.prog 89 #[.int .i64 n] w fun e w' => e = .returned (V.agg ⟨1, n, ⟨#[]⟩⟩) ∧ Below w.heap.size w w' := by
  go_enter Try.func89, Try.ntmps89
  go_wp2
  exact bodyPost_ret (v := .agg #[.int .i64 1, .int .i64 n, .string ⟨#[]⟩]) (by simp [results, Try.results89, go_sem]) rfl ⟨rfl, below_alloc _ _⟩
theorem iTextVal (s : ByteArray) (w : World) : Calls Try.prog 91 #[.string s] w fun e w' => e = .returned (V.agg ⟨2, 0, s⟩) ∧ Below w.heap.size w w' := by
  go_enter Try.func91, Try.ntmps91
  go_wp2
  exact bodyPost_ret (v := .agg #[.int .i64 2, .int .i64 0, .string s]) (by simp [results, Try.results91, go_sem]) rfl ⟨rfl, below_alloc _ _⟩

theorem iTextByte (c : Nat) (w : World) : Calls Try.prog 94 #[.int .u8 c] w fun e w' => e = .returned (.bool (Num.inB c 97 122 || Num.inB c 48 57)) ∧ w = w' := by
  by_cases h1 : 97 ≤ c
  · by_cases h2 : c ≤ 122
    · go_enter Try.func94, Try.ntmps94
      go_wp2
      go_ret
      exact ⟨ret_bool (by unfold Num.inB; rw [Bool.eq_iff_iff]; simp; omega), rfl⟩
    · go_enter Try.func94, Try.ntmps94
      go_wp2
      go_ret
      exact ⟨ret_bool (by unfold Num.inB; rw [Bool.eq_iff_iff]; simp; omega), rfl⟩
  · by_cases h3 : 48 ≤ c
    · go_enter Try.func94, Try.ntmps94
      go_wp2
      go_ret
      exact ⟨ret_bool (by unfold Num.inB; rw [Bool.eq_iff_iff]; simp; omega), rfl⟩
    · go_enter Try.func94, Try.ntmps94
      go_wp2
      go_ret
      exact ⟨ret_bool (by unfold Num.inB; rw [Bool.eq_iff_iff]; simp; omega), rfl⟩

theorem iTextOk (s : ByteArray) (w : World) (hs : s.size ≤ maxLen) : Calls Try.prog 92 #[.string s] w fun e w' => e = .returned (.bool (txtB s)) ∧ w = w' := by
  unfold maxLen at hs
  by_cases h6 : s.size ≤ 6
  · go_enter Try.func92, Try.ntmps92
    go_wp2
    go_loop [9] (fun i => ∃ k : Nat, k ≤ s.size ∧ i = .int .i64 k ∧ ∀ j (hj : j < s.size), j < k → chrB s[j] = true) (fun i => s.size - (intOf i).toNat)
    case atStart => exact ⟨0, Nat.zero_le _, rfl, fun j _ hj => by omega⟩
    case round =>
      obtain ⟨k, hk, rfl, hok⟩ := hrel
      have HOK := Lib.hid hok
      clear hok
      by_cases hlt : k < s.size
      · have HS : Hid (chrB s[k] = true → ∀ j (hj : j < s.size), j < k + 1 → chrB s[j] = true) := fun h j hj hjk => by
          by_cases e : j = k
          · subst e; exact h
          · exact HOK.out j hj (by omega)
        have HN : Hid (chrB s[k] = false → txtB s = false) := txtB_bad hlt
        have HT := Lib.hid (fun W => iTextByte s[k].toNat W)
        have HD : Hid ((Num.inB s[k].toNat 97 122 || Num.inB s[k].toNat 48 57) = chrB s[k]) := rfl
        rw [HD.out] at HT
        cases hc : chrB s[k] with
        | true =>
          have HS2 := Lib.hid (HS.out hc)
          rw [hc] at HT
          clear hc HS HN HD
          go_wp2_with (go_at_call 94; refine (HT.out _).mono ?_; rintro e w' ⟨rfl, rfl⟩)
          go_round
          case rel => exact ⟨k + 1, by omega, by go_num, HS2.out⟩
          case measure => simp [intOf]; omega
        | false =>
          have HN2 := Lib.hid (HN.out hc)
          rw [hc] at HT
          clear hc HS HN HD
          go_wp2_with (go_at_call 94; refine (HT.out _).mono ?_; rintro e w' ⟨rfl, rfl⟩)
          go_ret
          exact ⟨ret_bool HN2.out.symm, rfl⟩
      · obtain rfl : k = s.size := by omega
        have HA : Hid (txtB s = true) := txtB_all h6 (fun j hj => HOK.out j hj hj)
        go_wp2
        go_ret
        exact ⟨ret_bool HA.out.symm, rfl⟩
  · have HA : Hid (txtB s = false) := by
      show txtB s = false
      unfold txtB
      rw [decide_eq_false h6]
      rfl
    go_enter Try.func92, Try.ntmps92
    go_wp2
    go_ret
    exact ⟨ret_bool HA.out.symm, rfl⟩

end Go.Proofs.Ytkofafefnlommaa

/- The contract of impl's ValOk. -/
namespace Go.Proofs.Ytkofafefnlommaa
open Go.RowKit

theorem boxedV {w : World} {t n : Int} {s : ByteArray} {e : TypeId} {W : World} (hb : Below (w.alloc (.cells #[.int .i64 t, .int .i64 n, .string s] e)).heap.size (w.alloc (.cells #[.int .i64 t, .int .i64 n, .string s] e)) W) :
    W.cell? ⟨w.heap.size, 0, none⟩ = some (.int .i64 t) ∧ W.cell? ⟨w.heap.size, 1, none⟩ = some (.int .i64 n) ∧ W.cell? ⟨w.heap.size, 2, none⟩ = some (.string s) := by
  refine ⟨(hb.cell (p := ⟨w.heap.size, 0, none⟩) (by simp)).trans ?_, (hb.cell (p := ⟨w.heap.size, 1, none⟩) (by simp)).trans ?_, (hb.cell (p := ⟨w.heap.size, 2, none⟩) (by simp)).trans ?_⟩ <;> simp

set_option maxHeartbeats 1000000 in
theorem iValOk (v : V) (w : World) (hs : v.s.size ≤ maxLen) : Calls Try.prog 83 #[v.agg] w fun e w' => e = .returned (.bool (okV v)) ∧ Below w.heap.size w w' := by
  obtain ⟨t, n, s⟩ := v
  simp only at hs
  have B0 := below_alloc w (.cells #[.int .i64 t, .int .i64 n, .string s] 76)
  have HC := Lib.hid (fun (W : World) => boxedV (w := w) (t := t) (n := n) (s := s) (e := 76) (W := W))
  generalize hw0 : (w.alloc (.cells #[.int .i64 t, .int .i64 n, .string s] 76)) = w0 at B0 HC
  have hB := Below.refl w0.heap.size w0
  have hB' := hB.drew
  have HW := Lib.hid hw0
  clear hw0
  by_cases ht : t = 1
  · subst ht
    have HE : Hid (okV ⟨1, n, s⟩ = (Num.okB n && (s.size == 0))) := if_pos rfl
    have HA := Lib.hid (fun W => iIntVal n W)
    have HO := Lib.hid (fun W => numOk n W)
    have HQ := Lib.hid (fun W => run_eql_val ⟨1, n, s⟩ ⟨1, n, ⟨#[]⟩⟩ W)
    by_cases h0 : s.size = 0
    · have e : V.eqB ⟨1, n, s⟩ ⟨1, n, ⟨#[]⟩⟩ = true := by
        obtain rfl : s = ⟨#[]⟩ := by
          apply ByteArray.ext
          exact Array.eq_empty_of_size_eq_zero h0
        simp [V.eqB]
      rw [e] at HQ
      rw [show (s.size == 0) = true by simpa using h0, Bool.and_true] at HE
      have hq := HQ.out
      clear e h0 HQ
      generalize Num.okB n = r at HE HO
      go_enter Try.func83, Try.ntmps83
      go_wp2_with fail
      rw [HW.out]
      go_region_held3 (fun W => W.cell? ⟨w.heap.size, 0, none⟩ = some (.int .i64 1) ∧ W.cell? ⟨w.heap.size, 1, none⟩ = some (.int .i64 n) ∧ W.cell? ⟨w.heap.size, 2, none⟩ = some (.string s)) (first | exact HC.out _ hB' | exact HC.out _ hB) (first | (go_at_call 89; (with_reducible refine (HA.out _).mono ?_); rintro e w3 ⟨rfl, hb⟩; replace hB' := below_then hB' hb hB'.size) | (go_at_call 90; (with_reducible refine (HO.out _).mono ?_); rintro e w4 ⟨rfl, rfl⟩))
      all_goals
        go_wp2
        go_ret
        exact ⟨ret_bool HE.out.symm, B0.trans (hB'.mono B0.size)⟩
    · have e : V.eqB ⟨1, n, s⟩ ⟨1, n, ⟨#[]⟩⟩ = false := by
        have : ¬ s.toList = [] := fun e => h0 (size_of_toList e)
        have h1 : (s.toList == []) = false := by simpa using this
        have h2 : (⟨#[]⟩ : ByteArray).toList = [] := by rw [ByteArray.toList_eq]
        simp [V.eqB, h2, this]
      rw [e] at HQ
      rw [show (s.size == 0) = false by simpa using h0, Bool.and_false] at HE
      have hq := HQ.out
      clear e h0 HQ
      go_enter Try.func83, Try.ntmps83
      go_wp2_with fail
      rw [HW.out]
      refine wp_region_held_drew (S := (fun W => W.cell? ⟨w.heap.size, 0, none⟩ = some (.int .i64 1) ∧ W.cell? ⟨w.heap.size, 1, none⟩ = some (.int .i64 n) ∧ W.cell? ⟨w.heap.size, 2, none⟩ = some (.string s))) (by kernel_rfl) (HC.out _ hB') (fun hHeld => ?_)
      refine takeH (i := 0) (d := some 7) (v := .agg #[.int .i64 1, .int .i64 n, .string s]) rfl rfl (by kernel_rfl) (by kernel_rfl) (by kernel_rfl) (fun _ _ _ h => h) (Or.inl ⟨by rfl, fun W hSw => by obtain ⟨c0, c1, c2⟩ := hSw; go_simp⟩) hHeld ?_
      simp only [put_some, List.set_cons_zero, List.set_cons_succ]
      refine takeH (i := 1) (d := some 8) (v := .pointer (some ⟨w.heap.size, 1, none⟩)) rfl rfl (by kernel_rfl) (by kernel_rfl) (by kernel_rfl) (fun _ _ _ h => h) (Or.inl ⟨by rfl, fun W hSw => by obtain ⟨c0, c1, c2⟩ := hSw; go_simp⟩) hHeld ?_
      simp only [put_some, List.set_cons_zero, List.set_cons_succ]
      refine takeH (i := 2) (d := some 9) (v := .int .i64 n) rfl rfl (by kernel_rfl) (by kernel_rfl) (by kernel_rfl) (fun _ _ _ h => h) (Or.inl ⟨by rfl, fun W hSw => by obtain ⟨c0, c1, c2⟩ := hSw; go_simp⟩) hHeld ?_
      simp only [put_some, List.set_cons_zero, List.set_cons_succ]
      refine wpAnyH_ready (rs := [3]) (by kernel_rfl) (by simp) ?_
      refine AllReadyH.cons rfl (fun K hK => ?_) AllReadyH.nil
      go_simp
      go_at_call 89
      refine (HA.out _).mono ?_
      rintro e w3 ⟨rfl, hb⟩
      replace hB' := below_then hB' hb hB'.size
      go_wp2_with fail
      refine hK.out _ _ (HC.out _ hB') (fun hHeld => ?_)
      clear hK K
      refine takeH (i := 4) (d := some 11) (v := .bool false) rfl rfl (by kernel_rfl) (by kernel_rfl) (by kernel_rfl) (fun _ _ _ h => h) (Or.inl ⟨by rfl, fun W hSw => by obtain ⟨c0, c1, c2⟩ := hSw; go_simp⟩) hHeld ?_
      simp only [put_some, List.set_cons_zero, List.set_cons_succ]
      refine takeH (i := 5) (d := some 12) (v := .bool false) rfl rfl (by kernel_rfl) (by kernel_rfl) (by kernel_rfl) (fun _ _ _ h => h) (Or.inl ⟨by rfl, fun W hSw => by obtain ⟨c0, c1, c2⟩ := hSw; go_simp⟩) hHeld ?_
      simp only [put_some, List.set_cons_zero, List.set_cons_succ]
      refine takeH (i := 6) (d := some 13) (v := undef) rfl rfl (by kernel_rfl) (by kernel_rfl) (by kernel_rfl) (fun _ _ _ h => h) (Or.inr ⟨by rfl, rfl⟩) hHeld ?_
      simp only [put_some, List.set_cons_zero, List.set_cons_succ]
      refine takeH (i := 7) (d := some 14) (v := undef) rfl rfl (by kernel_rfl) (by kernel_rfl) (by kernel_rfl) (fun _ _ _ h => h) (Or.inr ⟨by rfl, rfl⟩) hHeld ?_
      simp only [put_some, List.set_cons_zero, List.set_cons_succ]
      refine takeH (i := 8) (d := some 15) (v := undef) rfl rfl (by kernel_rfl) (by kernel_rfl) (by kernel_rfl) (fun _ _ _ h => h) (Or.inr ⟨by rfl, rfl⟩) hHeld ?_
      simp only [put_some, List.set_cons_zero, List.set_cons_succ]
      refine takeH (i := 9) (d := some 16) (v := .bool false) rfl rfl (by kernel_rfl) (by kernel_rfl) (by kernel_rfl) (fun _ _ _ h => h) (Or.inl ⟨by rfl, fun W hSw => by obtain ⟨c0, c1, c2⟩ := hSw; go_simp⟩) hHeld ?_
      simp only [put_some, List.set_cons_zero, List.set_cons_succ]
      refine takeH (i := 10) (d := some 2) (v := .bool false) rfl rfl (by kernel_rfl) (by kernel_rfl) (by kernel_rfl) (fun _ _ _ h => h) (Or.inl ⟨by rfl, fun W hSw => by obtain ⟨c0, c1, c2⟩ := hSw; go_simp⟩) hHeld ?_
      simp only [put_some, List.set_cons_zero, List.set_cons_succ]
      refine wpAnyH_done (by kernel_rfl) ?_ _
      go_wp2
      go_ret
      exact ⟨ret_bool HE.out.symm, B0.trans (hB'.mono B0.size)⟩
  · have HE : Hid (okV ⟨t, n, s⟩ = (t == 2 && (n == 0 && txtB s))) := if_neg ht
    have ht1 : (t == 1) = false := by simpa using ht
    by_cases ht2 : t = 2
    · subst ht2
      have HA := Lib.hid (fun W => iTextVal s W)
      have HO := Lib.hid (fun W => iTextOk s W hs)
      have HQ := Lib.hid (fun W => run_eql_val ⟨2, n, s⟩ ⟨2, 0, s⟩ W)
      have e : V.eqB ⟨2, n, s⟩ ⟨2, 0, s⟩ = (n == 0) := by simp [V.eqB]
      rw [e] at HQ
      rw [show ((2 : Int) == 2) = true from rfl, Bool.true_and] at HE
      by_cases h0 : n = 0
      · rw [show (n == 0) = true by simpa using h0] at HE HQ
        rw [Bool.true_and] at HE
        have hq := HQ.out
        clear e h0 HQ ht
        generalize txtB s = r at HE HO
        go_enter Try.func83, Try.ntmps83
        go_wp2_with fail
        rw [HW.out]
        go_region_held3 (fun W => W.cell? ⟨w.heap.size, 0, none⟩ = some (.int .i64 2) ∧ W.cell? ⟨w.heap.size, 1, none⟩ = some (.int .i64 n) ∧ W.cell? ⟨w.heap.size, 2, none⟩ = some (.string s)) (first | exact HC.out _ hB' | exact HC.out _ hB) (first | (go_at_call 91; (with_reducible refine (HA.out _).mono ?_); rintro e w3 ⟨rfl, hb⟩; replace hB' := below_then hB' hb hB'.size) | (go_at_call 92; (with_reducible refine (HO.out _).mono ?_); rintro e w4 ⟨rfl, rfl⟩))
        all_goals
          go_wp2
          go_ret
          exact ⟨ret_bool HE.out.symm, B0.trans (hB'.mono B0.size)⟩
      · rw [show (n == 0) = false by simpa using h0] at HE HQ
        rw [Bool.false_and] at HE
        have hq := HQ.out
        clear e h0 HQ ht
        go_enter Try.func83, Try.ntmps83
        go_wp2_with fail
        rw [HW.out]
        refine wp_region_held_drew (S := (fun W => W.cell? ⟨w.heap.size, 0, none⟩ = some (.int .i64 2) ∧ W.cell? ⟨w.heap.size, 1, none⟩ = some (.int .i64 n) ∧ W.cell? ⟨w.heap.size, 2, none⟩ = some (.string s))) (by kernel_rfl) (HC.out _ hB') (fun hHeld => ?_)
        refine takeH (i := 0) (d := some 19) (v := .agg #[.int .i64 2, .int .i64 n, .string s]) rfl rfl (by kernel_rfl) (by kernel_rfl) (by kernel_rfl) (fun _ _ _ h => h) (Or.inl ⟨by rfl, fun W hSw => by obtain ⟨c0, c1, c2⟩ := hSw; go_simp⟩) hHeld ?_
        simp only [put_some, List.set_cons_zero, List.set_cons_succ]
        refine takeH (i := 1) (d := some 20) (v := .pointer (some ⟨w.heap.size, 2, none⟩)) rfl rfl (by kernel_rfl) (by kernel_rfl) (by kernel_rfl) (fun _ _ _ h => h) (Or.inl ⟨by rfl, fun W hSw => by obtain ⟨c0, c1, c2⟩ := hSw; go_simp⟩) hHeld ?_
        simp only [put_some, List.set_cons_zero, List.set_cons_succ]
        refine takeH (i := 2) (d := some 21) (v := .string s) rfl rfl (by kernel_rfl) (by kernel_rfl) (by kernel_rfl) (fun _ _ _ h => h) (Or.inl ⟨by rfl, fun W hSw => by obtain ⟨c0, c1, c2⟩ := hSw; go_simp⟩) hHeld ?_
        simp only [put_some, List.set_cons_zero, List.set_cons_succ]
        refine wpAnyH_ready (rs := [3]) (by kernel_rfl) (by simp) ?_
        refine AllReadyH.cons rfl (fun K hK => ?_) AllReadyH.nil
        go_simp
        go_at_call 91
        refine (HA.out _).mono ?_
        rintro e w3 ⟨rfl, hb⟩
        replace hB' := below_then hB' hb hB'.size
        go_wp2_with fail
        refine hK.out _ _ (HC.out _ hB') (fun hHeld => ?_)
        clear hK K
        refine takeH (i := 4) (d := some 23) (v := .bool false) rfl rfl (by kernel_rfl) (by kernel_rfl) (by kernel_rfl) (fun _ _ _ h => h) (Or.inl ⟨by rfl, fun W hSw => by obtain ⟨c0, c1, c2⟩ := hSw; go_simp⟩) hHeld ?_
        simp only [put_some, List.set_cons_zero, List.set_cons_succ]
        refine takeH (i := 5) (d := some 24) (v := .bool false) rfl rfl (by kernel_rfl) (by kernel_rfl) (by kernel_rfl) (fun _ _ _ h => h) (Or.inl ⟨by rfl, fun W hSw => by obtain ⟨c0, c1, c2⟩ := hSw; go_simp⟩) hHeld ?_
        simp only [put_some, List.set_cons_zero, List.set_cons_succ]
        refine takeH (i := 6) (d := some 25) (v := undef) rfl rfl (by kernel_rfl) (by kernel_rfl) (by kernel_rfl) (fun _ _ _ h => h) (Or.inr ⟨by rfl, rfl⟩) hHeld ?_
        simp only [put_some, List.set_cons_zero, List.set_cons_succ]
        refine takeH (i := 7) (d := some 26) (v := undef) rfl rfl (by kernel_rfl) (by kernel_rfl) (by kernel_rfl) (fun _ _ _ h => h) (Or.inr ⟨by rfl, rfl⟩) hHeld ?_
        simp only [put_some, List.set_cons_zero, List.set_cons_succ]
        refine takeH (i := 8) (d := some 27) (v := undef) rfl rfl (by kernel_rfl) (by kernel_rfl) (by kernel_rfl) (fun _ _ _ h => h) (Or.inr ⟨by rfl, rfl⟩) hHeld ?_
        simp only [put_some, List.set_cons_zero, List.set_cons_succ]
        refine takeH (i := 9) (d := some 28) (v := .bool false) rfl rfl (by kernel_rfl) (by kernel_rfl) (by kernel_rfl) (fun _ _ _ h => h) (Or.inl ⟨by rfl, fun W hSw => by obtain ⟨c0, c1, c2⟩ := hSw; go_simp⟩) hHeld ?_
        simp only [put_some, List.set_cons_zero, List.set_cons_succ]
        refine takeH (i := 10) (d := some 2) (v := .bool false) rfl rfl (by kernel_rfl) (by kernel_rfl) (by kernel_rfl) (fun _ _ _ h => h) (Or.inl ⟨by rfl, fun W hSw => by obtain ⟨c0, c1, c2⟩ := hSw; go_simp⟩) hHeld ?_
        simp only [put_some, List.set_cons_zero, List.set_cons_succ]
        refine wpAnyH_done (by kernel_rfl) ?_ _
        go_wp2
        go_ret
        exact ⟨ret_bool HE.out.symm, B0.trans (hB'.mono B0.size)⟩
    · have ht2b : (t == 2) = false := by simpa using ht2
      rw [ht2b, Bool.false_and] at HE
      clear ht ht2 hB hB' HC
      go_enter Try.func83, Try.ntmps83
      go_wp2
      go_ret
      rw [HW.out]
      exact ⟨ret_bool HE.out.symm, B0⟩

end Go.Proofs.Ytkofafefnlommaa

/- The exact laws of chapter 4 over single Rows, walked; the program's own contracts come as hypotheses. -/
namespace Go.Proofs.Ytkofafefnlommaa
open Go.RowKit

theorem R.of_own {e lo hi w v n} {r : R} (h : Own e 3 lo hi w v n (vals r.l)) (hn : r.l.length = n) : r.rd w v := by
  subst hn
  exact h.rd

end Go.Proofs.Ytkofafefnlommaa

/- Two Vals are equal where the machine says so. -/
namespace Go.Proofs.Ytkofafefnlommaa
open Go.RowKit

theorem eqB_true {x y : V} : x.eqB y = true ↔ x = y := by
  obtain ⟨t1, n1, s1⟩ := x
  obtain ⟨t2, n2, s2⟩ := y
  simp only [V.eqB, Bool.and_eq_true, beq_iff_eq, V.mk.injEq]
  constructor
  · rintro ⟨h1, h2, h3⟩
    refine ⟨h1, h2, ?_⟩
    rw [ByteArray.toList_eq, ByteArray.toList_eq] at h3
    apply ByteArray.ext
    exact Array.toList_inj.1 h3
  · rintro ⟨rfl, rfl, rfl⟩
    exact ⟨rfl, rfl, rfl⟩
theorem eqB_false {x y : V} : x.eqB y = false ↔ x ≠ y := by
  constructor
  · intro h e
    rw [eqB_true.2 e] at h
    cases h
  · intro h
    cases hb : x.eqB y with
    | false => rfl
    | true => exact absurd (eqB_true.1 hb) h

end Go.Proofs.Ytkofafefnlommaa
