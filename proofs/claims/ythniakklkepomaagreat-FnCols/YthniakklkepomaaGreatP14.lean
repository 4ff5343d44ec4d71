/- Texts of this claim, one behind the other: VSpec, VOk, S5, Law5, IVal, IValOk, I5, EqV, M7, IVals, SameV. -/
import Derived.Test.YthniakklkepomaaGreatP12
import Derived.Test.YthniakklkepomaaGreatP5
import Derived.Laws.StructEq
import Derived.ChangeKeysEq
import Derived.Test.YthniakklkepomaaGreatP6
import Derived.Deep.RegionHeld3
import Derived.BigQuiet

/- The contracts of the model's chapter 3 that do no text: LessVal, SameVals, NumsOf, TextsOf, ValOk. -/
namespace Go.Proofs.YthniakklkepomaaGreat
open Go.RowKit

theorem Tryz.elemStrs : ElemT Tryz.prog 66 9 (.string ⟨#[]⟩) 1 16 := ⟨Tryz.underlying66, info_parts (by kernel_rfl), rfl, by decide⟩

/-- LessVal. -/
def lessV (a b : V) : Bool := if (a.ty != b.ty) = true then decide (a.ty < b.ty) else if (a.n != b.n) = true then decide (a.n < b.n) else Op.bytesLess a.s.toList b.s.toList
theorem sLessVal (a b : V) (w : World) : Calls Tryz.prog 108 #[a.agg, b.agg] w fun e w' => e = .returned (.bool (lessV a b)) ∧ Below w.heap.size w w' := by
  obtain ⟨t1, n1, s1⟩ := a
  obtain ⟨t2, n2, s2⟩ := b
  have HE := Lib.hid (show lessV ⟨t1, n1, s1⟩ ⟨t2, n2, s2⟩ = if (t1 != t2) = true then decide (t1 < t2) else if (n1 != n2) = true then decide (n1 < n2) else Op.bytesLess s1.toList s2.toList from rfl)
  cases h1 : (t1 != t2) with
  | true =>
    rw [if_pos h1] at HE
    go_enter Tryz.func108, Tryz.ntmps108
    go_wp2
    go_ret
    exact ⟨ret_bool HE.out.symm, below_alloc2 _ _ _⟩
  | false =>
    rw [if_neg (by rw [h1]; simp)] at HE
    cases h2 : (n1 != n2) with
    | true =>
      rw [if_pos h2] at HE
      go_enter Tryz.func108, Tryz.ntmps108
      go_wp2
      go_ret
      exact ⟨ret_bool HE.out.symm, below_alloc2 _ _ _⟩
    | false =>
      rw [if_neg (by rw [h2]; simp)] at HE
      go_enter Tryz.func108, Tryz.ntmps108
      go_wp2
      go_ret
      exact ⟨ret_bool HE.out.symm, below_alloc2 _ _ _⟩

theorem list3 {α : Type} {l : List α} (h : l.length = 3) : ∃ a b c, l = [a, b, c] := by
  match l, h with
  | [a, b, c], _ => exact ⟨a, b, c, rfl⟩
/-- a == b. -/
def V.eqB (a b : V) : Bool := (a.ty == b.ty) && ((a.n == b.n) && (a.s.toList == b.s.toList))
theorem run_eq_val (a b : V) (w : World) : (Op.equalIn 10000 54 a.agg b.agg).run Tryz.prog w = .ok (a.eqB b) w := by
  obtain ⟨t1, n1, s1⟩ := a
  obtain ⟨t2, n2, s2⟩ := b
  rw [show V.agg ⟨t1, n1, s1⟩ = .agg #[.int .i64 t1, .int .i64 n1, .string s1] from rfl, show V.agg ⟨t2, n2, s2⟩ = .agg #[.int .i64 t2, .int .i64 n2, .string s2] from rfl]
  rw [run_equalIn_struct w 9999 54 _ _ (by kernel_rfl) (by kernel_rfl)]
  have hf : ((Tryz.prog.fieldsOf 54).toList.map fun f => (f.name, f.type, f.offset)) = [("Ty", 3, 0), ("N", 3, 1), ("S", 9, 2)] := by kernel_rfl
  generalize (Tryz.prog.fieldsOf 54).toList = fs at hf ⊢
  obtain ⟨f0, f1, f2, rfl⟩ := list3 (by simpa using congrArg List.length hf)
  simp only [List.map_cons, List.map_nil, List.cons.injEq, Prod.mk.injEq, and_true] at hf
  obtain ⟨⟨a0, a1, a2⟩, ⟨b0, b1, b2⟩, c0, c1, c2⟩ := hf
  have hp3 : Tryz.prog.plainKey 3 = true := by kernel_rfl
  have hp9 : Tryz.prog.plainKey 9 = true := by kernel_rfl
  have P0 := fun (W : World) (x y z : Value) => run_part_plain (P := Tryz.prog) W hp3 (xs := #[x, y, z]) (off := 0) (v := x) rfl
  have P1 := fun (W : World) (x y z : Value) => run_part_plain (P := Tryz.prog) W hp3 (xs := #[x, y, z]) (off := 1) (v := y) rfl
  have P2 := fun (W : World) (x y z : Value) => run_part_plain (P := Tryz.prog) W hp9 (xs := #[x, y, z]) (off := 2) (v := z) rfl
  have E0 := fun (W : World) (x y : Int) => run_equalIn_int (P := Tryz.prog) W 9998 3 .i64 .i64 x y Tryz.underlying3
  have E2 := fun (W : World) (x y : ByteArray) => run_equalIn_string (P := Tryz.prog) W 9998 9 x y Tryz.underlying9
  simp only [Nat.reduceAdd] at E0 E2
  simp only [Op.eqFields, a0, a1, a2, b0, b1, b2, c0, c1, c2, ne_eq, show ¬ "Ty" = "_" by decide, show ¬ "N" = "_" by decide, show ¬ "S" = "_" by decide, not_false_eq_true, if_true, Sem.run_bind, P0, P1, P2, E0, E2, Result.andThen_ok, Sem.run_ite, Sem.run_pure]
  unfold V.eqB
  simp only
  cases (t1 == t2) <;> cases (n1 == n2) <;> cases (s1.toList == s2.toList) <;> rfl
theorem run_neq_val (a b : V) (w : World) : (binOp .neq 54 a.agg b.agg).run Tryz.prog w = .ok (.bool (!(a.eqB b))) w := by
  rw [run_neq_struct, run_eq_val]
  rfl
theorem run_eql_val (a b : V) (w : World) : (binOp .eql 54 a.agg b.agg).run Tryz.prog w = .ok (.bool (a.eqB b)) w := by
  rw [run_eql_struct, run_eq_val]
  rfl

/-- SameVals. -/
def sameV : List V → List V → Bool
  | [], [] => true
  | a :: l, b :: r => a.eqB b && sameV l r
  | _, _ => false
theorem sameV_len {l r : List V} (h : l.length ≠ r.length) : sameV l r = false := by
  induction l generalizing r with
  | nil => cases r with
    | nil => simp at h
    | cons => rfl
  | cons a l ih => cases r with
    | nil => rfl
    | cons b r => rw [sameV, ih (by simpa using h), Bool.and_false]
theorem sameV_all {l r : List V} (hn : l.length = r.length) (h : ∀ k, k < l.length → (l.getD k V.zero).eqB (r.getD k V.zero) = true) : sameV l r = true := by
  induction l generalizing r with
  | nil => cases r with
    | nil => rfl
    | cons => simp at hn
  | cons a l ih => cases r with
    | nil => simp at hn
    | cons b r =>
      rw [sameV, ih (by simpa using hn) (fun k hk => by simpa using h (k + 1) (by simpa using hk)), Bool.and_true]
      simpa using h 0 (by simp)
theorem sameV_no {l r : List V} {k : Nat} (hk : k < l.length) (hn : l.length = r.length) (h : (l.getD k V.zero).eqB (r.getD k V.zero) = false) : sameV l r = false := by
  induction l generalizing r k with
  | nil => simp at hk
  | cons a l ih => cases r with
    | nil => simp at hn
    | cons b r =>
      cases k with
      | zero =>
        simp only [List.getD_cons_zero] at h
        rw [sameV, h, Bool.false_and]
      | succ k => rw [sameV, ih (k := k) (by simpa using hk) (by simpa using hn) (by simpa using h), Bool.and_false]

end Go.Proofs.YthniakklkepomaaGreat

/- The contract of the model's ValOk. -/
namespace Go.Proofs.YthniakklkepomaaGreat
open Go.RowKit

/-- A character that a string may hold. -/
def chrB (c : UInt8) : Bool := Num.inB c.toNat 97 122 || Num.inB c.toNat 48 57
/-- A string that a value may hold. -/
def txtB (s : ByteArray) : Bool := decide (s.size ≤ 6) && s.data.toList.all chrB
/-- ValOk. -/
def okV (v : V) : Bool := if v.ty = 1 then Num.okB v.n && (v.s.size == 0) else v.ty == 2 && (v.n == 0 && txtB v.s)

theorem size_of_toList {s : ByteArray} (e : s.toList = []) : s.size = 0 := by
  rw [ByteArray.toList_eq] at e
  have := congrArg List.length e
  rw [Array.length_toList] at this
  exact this
theorem txtB_bad {s : ByteArray} {k : Nat} (h : k < s.size) (hc : chrB s[k] = false) : txtB s = false := by
  unfold txtB
  rw [Bool.and_eq_false_iff]
  right
  rw [List.all_eq_false]
  refine ⟨s[k], ?_, by rw [hc]; simp⟩
  rw [show s[k] = s.data.toList[k]'(by simpa using h) by rfl]
  exact List.getElem_mem _
theorem txtB_all {s : ByteArray} (h : s.size ≤ 6) (hc : ∀ k (hk : k < s.size), chrB s[k] = true) : txtB s = true := by
  unfold txtB
  rw [Bool.and_eq_true, List.all_eq_true]
  refine ⟨decide_eq_true h, fun c hm => ?_⟩
  obtain ⟨i, hi, rfl⟩ := List.getElem_of_mem hm
  exact hc i (by simpa using hi)

set_option maxHeartbeats 1000000 in
theorem sValOk (v : V) (w : World) (hs : v.s.size ≤ maxLen) : Calls Tryz.prog 62 #[v.agg] w fun e w' => e = .returned (.bool (okV v)) ∧ Below w.heap.size w w' := by
  obtain ⟨t, n, s⟩ := v
  simp only at hs
  unfold maxLen at hs
  by_cases ht : t = 1
  · subst ht
    have HE : Hid (okV ⟨1, n, s⟩ = (Num.okB n && (s.size == 0))) := if_pos rfl
    cases hok : Num.okB n with
    | false =>
      rw [hok, Bool.false_and] at HE
      have HR := Lib.hid (fun W => l1Right n W)
      rw [hok] at HR
      clear hok
      go_enter Tryz.func62, Tryz.ntmps62
      go_wp2_with (go_at_call 98; refine (HR.out _).mono ?_; rintro e w' ⟨rfl, rfl⟩)
      go_ret
      exact ⟨ret_bool HE.out.symm, below_alloc _ _⟩
    | true =>
      rw [hok, Bool.true_and] at HE
      have HR := Lib.hid (fun W => l1Right n W)
      rw [hok] at HR
      clear hok
      by_cases h0 : s.size = 0
      · obtain rfl : s = ⟨#[]⟩ := by
          apply ByteArray.ext
          exact Array.eq_empty_of_size_eq_zero h0
        go_enter Tryz.func62, Tryz.ntmps62
        go_wp2_with (go_at_call 98; refine (HR.out _).mono ?_; rintro e w' ⟨rfl, rfl⟩)
        go_ret
        exact ⟨ret_bool HE.out.symm, below_alloc _ _⟩
      · have hb : (s.size == 0) = false := by simpa using h0
        rw [hb] at HE
        have hl : ¬ s.toList = [] := fun e => h0 (size_of_toList e)
        have hl2 : (s.toList == []) = false := by simpa using hl
        go_enter Tryz.func62, Tryz.ntmps62
        go_wp2_with (go_at_call 98; refine (HR.out _).mono ?_; rintro e w' ⟨rfl, rfl⟩)
        go_ret
        exact ⟨ret_bool (by rw [HE.out]; try rfl), below_alloc _ _⟩
  · have HE : Hid (okV ⟨t, n, s⟩ = (t == 2 && (n == 0 && txtB s))) := if_neg ht
    have ht1 : (t == 1) = false := by simpa using ht
    clear ht
    go_enter Tryz.func62, Tryz.ntmps62
    go_wp2
    go_loop [3] (fun i => ∃ k : Nat, k ≤ s.size ∧ k ≤ 7 ∧ i = .int .i64 k ∧ ∀ j (hj : j < s.size), j < k → chrB s[j] = true) (fun i => 8 - (intOf i).toNat)
    case atStart => exact ⟨0, Nat.zero_le _, by omega, rfl, fun j _ hj => by omega⟩
    case round =>
      obtain ⟨k, hk, hk7, rfl, hok⟩ := hrel
      have HOK := Lib.hid hok
      clear hok
      by_cases hlt : k < s.size
      · by_cases h6 : k ≤ 6
        · have HS : Hid (chrB s[k] = true → ∀ j (hj : j < s.size), j < k + 1 → chrB s[j] = true) := fun h j hj hjk => by
            by_cases e : j = k
            · subst e; exact h
            · exact HOK.out j hj (by omega)
          have HN : Hid (chrB s[k] = false → okV ⟨t, n, s⟩ = false) := fun h => by rw [HE.out, txtB_bad hlt h, Bool.and_false, Bool.and_false]
          have hcw : wrap64 (s[k].toNat : Int) = (s[k].toNat : Int) := by
            have := s[k].toNat_lt
            unfold wrap64
            omega
          cases h1 : Num.inB s[k].toNat 97 122 with
          | true =>
            have HS2 := Lib.hid (HS.out (by unfold chrB; rw [h1]; rfl))
            clear HS HN
            go_wp2_with (go_at_call 51; refine (l1In _ _ _ _).mono ?_; rintro e w' ⟨rfl, rfl⟩)
            go_round
            case rel => exact ⟨k + 1, by omega, by omega, by go_num, HS2.out⟩
            case measure => simp [intOf]; omega
          | false =>
            cases h2 : Num.inB s[k].toNat 48 57 with
            | true =>
              have HS2 := Lib.hid (HS.out (by unfold chrB; rw [h2, Bool.or_true]))
              clear HS HN
              go_wp2_with (go_at_call 51; refine (l1In _ _ _ _).mono ?_; rintro e w' ⟨rfl, rfl⟩)
              go_round
              case rel => exact ⟨k + 1, by omega, by omega, by go_num, HS2.out⟩
              case measure => simp [intOf]; omega
            | false =>
              have HN2 := Lib.hid (HN.out (by unfold chrB; rw [h1, h2]; rfl))
              clear HS HN
              go_wp2_with (go_at_call 51; refine (l1In _ _ _ _).mono ?_; rintro e w' ⟨rfl, rfl⟩)
              go_ret
              exact ⟨ret_bool HN2.out.symm, below_alloc _ _⟩
        · have HN : Hid (okV ⟨t, n, s⟩ = false) := by
            show okV _ = false
            rw [HE.out]
            unfold txtB
            rw [decide_eq_false (by omega)]
            simp
          by_cases ht : t = 2
          · subst ht
            by_cases hn : n = 0
            · subst hn
              go_wp2
              go_ret
              exact ⟨ret_bool (by rw [HN.out]; simp; omega), below_alloc _ _⟩
            · have hnb : (n == 0) = false := by simpa using hn
              go_wp2
              go_ret
              exact ⟨ret_bool HN.out.symm, below_alloc _ _⟩
          · have htb : (t == 2) = false := by simpa using ht
            go_wp2
            go_ret
            exact ⟨ret_bool HN.out.symm, below_alloc _ _⟩
      · obtain rfl : k = s.size := by omega
        by_cases ht : t = 2
        · subst ht
          by_cases hn : n = 0
          · subst hn
            have HN : Hid (okV ⟨2, 0, s⟩ = decide (s.size ≤ 6)) := by
              show okV _ = decide (s.size ≤ 6)
              rw [HE.out]
              by_cases h6 : s.size ≤ 6
              · rw [txtB_all h6 (fun j hj => HOK.out j hj hj), decide_eq_true h6]
                rfl
              · unfold txtB
                rw [decide_eq_false h6]
                rfl
            go_wp2
            go_ret
            exact ⟨ret_bool (by rw [HN.out]; exact decide_eq_decide.2 (by omega)), below_alloc _ _⟩
          · have hnb : (n == 0) = false := by simpa using hn
            rw [hnb] at HE
            go_wp2
            go_ret
            exact ⟨ret_bool HE.out.symm, below_alloc _ _⟩
        · have htb : (t == 2) = false := by simpa using ht
          rw [htb] at HE
          go_wp2
          go_ret
          exact ⟨ret_bool HE.out.symm, below_alloc _ _⟩

end Go.Proofs.YthniakklkepomaaGreat

/- The model's Least, Most and TypeOf, and the walks of their laws; the program's own contracts come as hypotheses. -/
namespace Go.Proofs.YthniakklkepomaaGreat
open Go.RowKit

/-- A value of the type z. -/
def ofB (z : Int) (v : V) : Bool := okV v && v.ty == z
/-- TypeOf. -/
def typeV (l : List V) : Int := if Num.inB l.length 1 64 = true ∧ l.all (ofB (l.getD 0 V.zero).ty) = true then (l.getD 0 V.zero).ty else 0
theorem typeV_no {l : List V} {k : Nat} (hk : k < l.length) (h : ofB (l.getD 0 V.zero).ty (l.getD k V.zero) = false) : typeV l = 0 := by
  unfold typeV
  rw [if_neg]
  rintro ⟨_, h2⟩
  have e : l.getD k V.zero = l[k] := by simp [hk]
  rw [e] at h
  have := List.all_eq_true.1 h2 _ (List.getElem_mem hk)
  rw [h] at this
  cases this
theorem typeV_all {l : List V} (h0 : Num.inB l.length 1 64 = true) (h : ∀ k, k < l.length → ofB (l.getD 0 V.zero).ty (l.getD k V.zero) = true) : typeV l = (l.getD 0 V.zero).ty := by
  have ha : l.all (ofB (l.getD 0 V.zero).ty) = true := by
    rw [List.all_eq_true]
    intro v hv
    obtain ⟨k, hk, rfl⟩ := List.getElem_of_mem hv
    have := h k hk
    simpa [hk] using this
  unfold typeV
  rw [if_pos ⟨h0, ha⟩]

set_option maxHeartbeats 1000000 in
theorem sTypeOf (v : Value) (l : List V) (w : World) (hss : ∀ v ∈ l, v.s.size ≤ maxLen) (h : Rd 3 w v l.length (vals l)) :
    Calls Tryz.prog 38 #[v] w fun e w' => e = .returned (.int .i64 (typeV l)) ∧ Below w.heap.size w w' := by
  have HTA := Lib.hid (typeV_all (l := l))
  have HIN : Hid (Num.inB l.length 1 64 = false → typeV l = 0) := fun h => by
    unfold typeV
    rw [if_neg]
    rintro ⟨h1, _⟩
    rw [h] at h1
    cases h1
  generalize hl : l.length = n at h HTA HIN
  obtain ⟨a2, c2, rfl, hm, HC⟩ := h.vals hl
  unfold maxLen at hm
  have HL := Lib.hid hl
  have HSS : Hid (∀ k, k < n → (l.getD k V.zero).s.size ≤ maxLen) := by
    intro k hk
    have hk' : k < l.length := by omega
    have e : l.getD k V.zero = l[k] := by simp [hk']
    rw [e]
    exact hss _ (List.getElem_mem hk')
  have HI := Lib.hid (fun W => l1In n 1 64 W)
  clear h hss hl
  cases hin : Num.inB n 1 64 with
  | false =>
    have HE := Lib.hid (HIN.out hin)
    rw [hin] at HI
    clear hin
    go_enter Tryz.func38, Tryz.ntmps38
    go_wp2_with (go_at_call 51; refine (HI.out _).mono ?_; rintro e w' ⟨rfl, rfl⟩)
    go_ret
    exact ⟨ret_int HE.out.symm, Below.refl _ _⟩
  | true =>
    obtain ⟨hn0, hn1⟩ := Num.inB_true.1 hin
    have hpos : 0 < n := by omega
    rw [hin] at HI HTA
    obtain ⟨b2, o2, rfl, z0, _, _⟩ := HC.out 0 hpos
    generalize hzz : (l.getD 0 V.zero).ty = z at z0 HTA
    simp only [Nat.zero_mul, Nat.add_zero] at z0
    have HZ := Lib.hid hzz
    have HTB := Lib.hid (HTA.out rfl)
    clear hzz hin hn0 hn1 HTA
    go_enter Tryz.func38, Tryz.ntmps38
    go_wp2_with (go_at_call 51; refine (HI.out _).mono ?_; rintro e w' ⟨rfl, rfl⟩)
    go_loopw [3] (fun i wr => ∃ k : Nat, k ≤ n ∧ i = .int .i64 k ∧ (∀ j, j < k → ofB z (l.getD j V.zero) = true) ∧ Below w.heap.size w wr) (fun i _ => n - (intOf i).toNat)
    case atStart => exact ⟨0, Nat.zero_le _, rfl, fun j hj => by omega, Below.refl _ _⟩
    case round =>
      obtain ⟨k, hk, rfl, hok, hbr⟩ := hrel
      have HOK := Lib.hid hok
      clear hok
      have p0 := (hbr.cell (p := ⟨b2, o2, none⟩) (lt_of_cell z0)).trans z0
      by_cases hlt : k < n
      · obtain ⟨b', o', hbo, q0, q1, q2⟩ := HC.out k hlt
        simp only [Option.some.injEq, Addr.mk.injEq, and_true] at hbo
        obtain ⟨rfl, rfl⟩ := hbo
        have HS : Hid (ofB z (l.getD k V.zero) = true → ∀ j, j < k + 1 → ofB z (l.getD j V.zero) = true) := fun h j hj => by
          by_cases e : j = k
          · subst e; exact h
          · exact HOK.out j (by omega)
        have HN : Hid (ofB z (l.getD k V.zero) = false → typeV l = 0) := fun h => typeV_no (by rw [HL.out]; exact hlt) (by rw [HZ.out]; exact h)
        have HO := Lib.hid (fun W => sValOk (l.getD k V.zero) W (HSS.out k hlt))
        generalize l.getD k V.zero = x at q0 q1 q2 HS HN HO
        have HF : Hid (ofB z x = (okV x && x.ty == z)) := rfl
        obtain ⟨t2, n2, s2⟩ := x
        simp only at q0 q1 q2
        replace q0 := (hbr.cell (p := ⟨b2, o2 + k * 3, none⟩) (lt_of_cell q0)).trans q0
        replace q1 := (hbr.cell (p := ⟨b2, o2 + k * 3 + 1, none⟩) (lt_of_cell q1)).trans q1
        replace q2 := (hbr.cell (p := ⟨b2, o2 + k * 3 + 2, none⟩) (lt_of_cell q2)).trans q2
        have HKV : Hid (∀ W, Below wr.heap.size wr W → W.cell? ⟨b2, o2 + k * 3, none⟩ = some (.int .i64 t2) ∧ W.cell? ⟨b2, o2 + k * 3 + 1, none⟩ = some (.int .i64 n2) ∧ W.cell? ⟨b2, o2 + k * 3 + 2, none⟩ = some (.string s2)) := fun W h =>
          ⟨(h.cell (p := ⟨b2, o2 + k * 3, none⟩) (lt_of_cell q0)).trans q0, (h.cell (p := ⟨b2, o2 + k * 3 + 1, none⟩) (lt_of_cell q1)).trans q1, (h.cell (p := ⟨b2, o2 + k * 3 + 2, none⟩) (lt_of_cell q2)).trans q2⟩
        have HK : Hid (∀ W, Below wr.heap.size wr W → W.cell? ⟨b2, o2 + k * 3, none⟩ = some (.int .i64 t2) ∧ W.cell? ⟨b2, o2 + k * 3 + 1, none⟩ = some (.int .i64 n2) ∧ W.cell? ⟨b2, o2 + k * 3 + 2, none⟩ = some (.string s2) ∧ W.cell? ⟨b2, o2, none⟩ = some (.int .i64 z)) := fun W h =>
          ⟨(HKV.out W h).1, (HKV.out W h).2.1, (HKV.out W h).2.2, (h.cell (p := ⟨b2, o2, none⟩) (lt_of_cell p0)).trans p0⟩
        have hB' := (Below.refl wr.heap.size wr).drew
        clear p0 q0 q1 q2
        cases hv : okV ⟨t2, n2, s2⟩ with
        | false =>
          have HN2 : Hid (typeV l = 0) := HN.out (by rw [HF.out, hv, Bool.false_and])
          rw [hv] at HO
          clear hv HS HN HF z0
          go_wp2
          refine wp_region_held_drew (S := fun W => W.cell? ⟨b2, o2 + k * 3, none⟩ = some (.int .i64 t2) ∧ W.cell? ⟨b2, o2 + k * 3 + 1, none⟩ = some (.int .i64 n2) ∧ W.cell? ⟨b2, o2 + k * 3 + 2, none⟩ = some (.string s2)) (by kernel_rfl) (HKV.out _ hB') (fun hHeld => ?_)
          refine takeH (i := 0) (d := some 14) (v := .slice (some ⟨b2, o2, none⟩) n c2) rfl rfl (by kernel_rfl) (by kernel_rfl) (by kernel_rfl) (fun _ _ _ h => h) (Or.inl ⟨by rfl, fun W hSw => by obtain ⟨d0, d1, d2⟩ := hSw; go_simp⟩) hHeld ?_
          simp only [put_some, List.set_cons_zero, List.set_cons_succ]
          refine takeH (i := 1) (d := some 15) (v := .int .i64 k) rfl rfl (by kernel_rfl) (by kernel_rfl) (by kernel_rfl) (fun _ _ _ h => h) (Or.inl ⟨by rfl, fun W hSw => by obtain ⟨d0, d1, d2⟩ := hSw; go_simp⟩) hHeld ?_
          simp only [put_some, List.set_cons_zero, List.set_cons_succ]
          refine takeH (i := 2) (d := some 16) (v := .pointer (some ⟨b2, o2 + k * 3, none⟩)) rfl rfl (by kernel_rfl) (by kernel_rfl) (by kernel_rfl) (fun _ _ _ h => h) (Or.inl ⟨by rfl, fun W hSw => by obtain ⟨d0, d1, d2⟩ := hSw; go_simp⟩) hHeld ?_
          simp only [put_some, List.set_cons_zero, List.set_cons_succ]
          refine takeH (i := 3) (d := some 17) (v := .agg #[.int .i64 t2, .int .i64 n2, .string s2]) rfl rfl (by kernel_rfl) (by kernel_rfl) (by kernel_rfl) (fun _ _ _ h => h) (Or.inl ⟨by rfl, fun W hSw => by obtain ⟨d0, d1, d2⟩ := hSw; go_simp⟩) hHeld ?_
          simp only [put_some, List.set_cons_zero, List.set_cons_succ]
          refine wpAnyH_ready (rs := [4]) (by kernel_rfl) (by simp) ?_
          refine AllReadyH.cons rfl (fun K hK => ?_) AllReadyH.nil
          go_simp
          go_at_call 62
          refine (HO.out _).mono ?_
          rintro e w2 ⟨rfl, hb2⟩
          replace hB' := below_then hB' hb2 hB'.size
          go_wp2_with fail
          refine hK.out _ _ (HKV.out _ hB') (fun hHeld => ?_)
          clear hK K
          refine takeH (i := 5) (d := some 19) (v := .bool true) rfl rfl (by kernel_rfl) (by kernel_rfl) (by kernel_rfl) (fun _ _ _ h => h) (Or.inl ⟨by rfl, fun W hSw => by obtain ⟨d0, d1, d2⟩ := hSw; go_simp⟩) hHeld ?_
          simp only [put_some, List.set_cons_zero, List.set_cons_succ]
          refine takeH (i := 6) (d := some 20) (v := .bool true) rfl rfl (by kernel_rfl) (by kernel_rfl) (by kernel_rfl) (fun _ _ _ h => h) (Or.inl ⟨by rfl, fun W hSw => by obtain ⟨d0, d1, d2⟩ := hSw; go_simp⟩) hHeld ?_
          simp only [put_some, List.set_cons_zero, List.set_cons_succ]
          refine takeH (i := 7) (d := some 21) (v := undef) rfl rfl (by kernel_rfl) (by kernel_rfl) (by kernel_rfl) (fun _ _ _ h => h) (Or.inr ⟨by rfl, rfl⟩) hHeld ?_
          simp only [put_some, List.set_cons_zero, List.set_cons_succ]
          refine takeH (i := 8) (d := some 22) (v := undef) rfl rfl (by kernel_rfl) (by kernel_rfl) (by kernel_rfl) (fun _ _ _ h => h) (Or.inr ⟨by rfl, rfl⟩) hHeld ?_
          simp only [put_some, List.set_cons_zero, List.set_cons_succ]
          refine takeH (i := 9) (d := some 23) (v := undef) rfl rfl (by kernel_rfl) (by kernel_rfl) (by kernel_rfl) (fun _ _ _ h => h) (Or.inr ⟨by rfl, rfl⟩) hHeld ?_
          simp only [put_some, List.set_cons_zero, List.set_cons_succ]
          refine takeH (i := 10) (d := some 24) (v := undef) rfl rfl (by kernel_rfl) (by kernel_rfl) (by kernel_rfl) (fun _ _ _ h => h) (Or.inr ⟨by rfl, rfl⟩) hHeld ?_
          simp only [put_some, List.set_cons_zero, List.set_cons_succ]
          refine takeH (i := 11) (d := some 25) (v := undef) rfl rfl (by kernel_rfl) (by kernel_rfl) (by kernel_rfl) (fun _ _ _ h => h) (Or.inr ⟨by rfl, rfl⟩) hHeld ?_
          simp only [put_some, List.set_cons_zero, List.set_cons_succ]
          refine takeH (i := 12) (d := some 26) (v := undef) rfl rfl (by kernel_rfl) (by kernel_rfl) (by kernel_rfl) (fun _ _ _ h => h) (Or.inr ⟨by rfl, rfl⟩) hHeld ?_
          simp only [put_some, List.set_cons_zero, List.set_cons_succ]
          refine takeH (i := 13) (d := some 27) (v := undef) rfl rfl (by kernel_rfl) (by kernel_rfl) (by kernel_rfl) (fun _ _ _ h => h) (Or.inr ⟨by rfl, rfl⟩) hHeld ?_
          simp only [put_some, List.set_cons_zero, List.set_cons_succ]
          refine takeH (i := 14) (d := some 28) (v := undef) rfl rfl (by kernel_rfl) (by kernel_rfl) (by kernel_rfl) (fun _ _ _ h => h) (Or.inr ⟨by rfl, rfl⟩) hHeld ?_
          simp only [put_some, List.set_cons_zero, List.set_cons_succ]
          refine takeH (i := 15) (d := some 29) (v := undef) rfl rfl (by kernel_rfl) (by kernel_rfl) (by kernel_rfl) (fun _ _ _ h => h) (Or.inr ⟨by rfl, rfl⟩) hHeld ?_
          simp only [put_some, List.set_cons_zero, List.set_cons_succ]
          refine takeH (i := 16) (d := some 30) (v := undef) rfl rfl (by kernel_rfl) (by kernel_rfl) (by kernel_rfl) (fun _ _ _ h => h) (Or.inr ⟨by rfl, rfl⟩) hHeld ?_
          simp only [put_some, List.set_cons_zero, List.set_cons_succ]
          refine takeH (i := 17) (d := some 31) (v := .bool true) rfl rfl (by kernel_rfl) (by kernel_rfl) (by kernel_rfl) (fun _ _ _ h => h) (Or.inl ⟨by rfl, fun W hSw => by obtain ⟨d0, d1, d2⟩ := hSw; go_simp⟩) hHeld ?_
          simp only [put_some, List.set_cons_zero, List.set_cons_succ]
          refine wpAnyH_done (by kernel_rfl) ?_ _
          go_wp2
          go_ret
          exact ⟨ret_int HN2.out.symm, below_then hbr hB' hbr.size⟩
        | true =>
          rw [hv] at HO
          rw [hv, Bool.true_and] at HF
          simp only at HF
          cases ht : (t2 == z) with
          | true =>
            have HS2 := Lib.hid (HS.out (by rw [HF.out, ht]))
            have hzz : (t2 != z) = false := by simpa using ht
            clear hv HS HN HF ht
            go_wp2
            go_region_held3 (fun W => W.cell? ⟨b2, o2 + k * 3, none⟩ = some (.int .i64 t2) ∧ W.cell? ⟨b2, o2 + k * 3 + 1, none⟩ = some (.int .i64 n2) ∧ W.cell? ⟨b2, o2 + k * 3 + 2, none⟩ = some (.string s2) ∧ W.cell? ⟨b2, o2, none⟩ = some (.int .i64 z)) (exact HK.out _ hB') ((go_at_call 62; (with_reducible refine (HO.out _).mono ?_); rintro e w2 ⟨rfl, hb2⟩; replace hB' := below_then hB' hb2 hB'.size))
            go_wp2
            go_roundw
            case rel => exact ⟨k + 1, by omega, by go_num, HS2.out, below_then hbr hB' hbr.size⟩
            case measure => simp [intOf]; omega
          | false =>
            have HN2 := Lib.hid (HN.out (by rw [HF.out, ht]))
            have hzz : (t2 != z) = true := by simpa using ht
            clear hv HS HN HF ht
            go_wp2
            go_region_held3 (fun W => W.cell? ⟨b2, o2 + k * 3, none⟩ = some (.int .i64 t2) ∧ W.cell? ⟨b2, o2 + k * 3 + 1, none⟩ = some (.int .i64 n2) ∧ W.cell? ⟨b2, o2 + k * 3 + 2, none⟩ = some (.string s2) ∧ W.cell? ⟨b2, o2, none⟩ = some (.int .i64 z)) (exact HK.out _ hB') ((go_at_call 62; (with_reducible refine (HO.out _).mono ?_); rintro e w2 ⟨rfl, hb2⟩; replace hB' := below_then hB' hb2 hB'.size))
            go_wp2
            go_ret
            exact ⟨ret_int HN2.out.symm, below_then hbr hB' hbr.size⟩
      · obtain rfl : k = n := by omega
        have HA : Hid (typeV l = z) := by
          exact HTB.out (fun j hj => HOK.out j hj)
        clear z0
        go_wp2
        go_ret
        exact ⟨ret_int HA.out.symm, hbr⟩

end Go.Proofs.YthniakklkepomaaGreat

/- The exact law of TypeOf, walked; the program's own contract comes as a hypothesis. -/
namespace Go.Proofs.YthniakklkepomaaGreat
open Go.RowKit

def CTypeOf : Prop := ∀ (v : Value) (l : List V) (w : World), l.length ≤ 1048576 → (∀ v ∈ l, v.s.size ≤ maxLen) → Rd 3 w v l.length (vals l) → Calls Tryz.prog 18 #[v] w fun e w' => e = .returned (.int .i64 (typeV l)) ∧ Below w.heap.size w w'

end Go.Proofs.YthniakklkepomaaGreat

/- The contracts of impl's intVal, textVal, textByte, textOk, ValOk. -/
namespace Go.Proofs.YthniakklkepomaaGreat
open Go.RowKit

theorem iIntVal (n : Int) (w : World) : Calls Tryz.prog 76 #[.int .i64 n] w fun e w' => e = .returned (V.agg ⟨1, n, ⟨#[]⟩⟩) ∧ Below w.heap.size w w' := by
  go_enter Tryz.func76, Tryz.ntmps76
  go_wp2
  exact bodyPost_ret (v := .agg #[.int .i64 1, .int .i64 n, .string ⟨#[]⟩]) (by simp [results, Tryz.results76, go_sem]) rfl ⟨rfl, below_alloc _ _⟩
theorem iTextVal (s : ByteArray) (w : World) : Calls Tryz.prog 78 #[.string s] w fun e w' => e = .returned (V.agg ⟨2, 0, s⟩) ∧ Below w.heap.size w w' := by
  go_enter Tryz.func78, Tryz.ntmps78
  go_wp2
  exact bodyPost_ret (v := .agg #[.int .i64 2, .int .i64 0, .string s]) (by simp [results, Tryz.results78, go_sem]) rfl ⟨rfl, below_alloc _ _⟩

theorem iTextByte (c : Nat) (w : World) : Calls Tryz.prog 111 #[.int .u8 c] w fun e w' => e = .returned (.bool (Num.inB c 97 122 || Num.inB c 48 57)) ∧ w = w' := by
  by_cases h1 : 97 ≤ c
  · by_cases h2 : c ≤ 122
    · go_enter Tryz.func111, Tryz.ntmps111
      go_wp2
      go_ret
      exact ⟨ret_bool (by unfold Num.inB; rw [Bool.eq_iff_iff]; simp; omega), rfl⟩
    · go_enter Tryz.func111, Tryz.ntmps111
      go_wp2
      go_ret
      exact ⟨ret_bool (by unfold Num.inB; rw [Bool.eq_iff_iff]; simp; omega), rfl⟩
  · by_cases h3 : 48 ≤ c
    · go_enter Tryz.func111, Tryz.ntmps111
      go_wp2
      go_ret
      exact ⟨ret_bool (by unfold Num.inB; rw [Bool.eq_iff_iff]; simp; omega), rfl⟩
    · go_enter Tryz.func111, Tryz.ntmps111
      go_wp2
      go_ret
      exact ⟨ret_bool (by unfold Num.inB; rw [Bool.eq_iff_iff]; simp; omega), rfl⟩

theorem iTextOk (s : ByteArray) (w : World) (hs : s.size ≤ maxLen) : Calls Tryz.prog 79 #[.string s] w fun e w' => e = .returned (.bool (txtB s)) ∧ w = w' := by
  unfold maxLen at hs
  by_cases h6 : s.size ≤ 6
  · go_enter Tryz.func79, Tryz.ntmps79
    go_wp2
    go_loop [9] (fun i => ∃ k : Nat, k ≤ s.size ∧ i = .int .i64 k ∧ ∀ j (hj : j < s.size), j < k → chrB s[j] = true) (fun i => s.size - (intOf i).toNat)
    case atStart => exact ⟨0, Nat.zero_le _, rfl, fun j _ hj => by omega⟩
    case round =>
      obtain ⟨k, hk, rfl, hok⟩ := hrel
      have HOK := Lib.hid hok
      clear hok
      by_cases hlt : k < s.size
      · have HS : Hid (chrB s[k] = true → ∀ j (hj : j < s.size), j < k + 1 → chrB s[j] = true) := fun h j hj hjk => by
          by_cases e : j = k
          · subst e; exact h
          · exact HOK.out j hj (by omega)
        have HN : Hid (chrB s[k] = false → txtB s = false) := txtB_bad hlt
        have HT := Lib.hid (fun W => iTextByte s[k].toNat W)
        have HD : Hid ((Num.inB s[k].toNat 97 122 || Num.inB s[k].toNat 48 57) = chrB s[k]) := rfl
        rw [HD.out] at HT
        cases hc : chrB s[k] with
        | true =>
          have HS2 := Lib.hid (HS.out hc)
          rw [hc] at HT
          clear hc HS HN HD
          go_wp2_with (go_at_call 111; refine (HT.out _).mono ?_; rintro e w' ⟨rfl, rfl⟩)
          go_round
          case rel => exact ⟨k + 1, by omega, by go_num, HS2.out⟩
          case measure => simp [intOf]; omega
        | false =>
          have HN2 := Lib.hid (HN.out hc)
          rw [hc] at HT
          clear hc HS HN HD
          go_wp2_with (go_at_call 111; refine (HT.out _).mono ?_; rintro e w' ⟨rfl, rfl⟩)
          go_ret
          exact ⟨ret_bool HN2.out.symm, rfl⟩
      · obtain rfl : k = s.size := by omega
        have HA : Hid (txtB s = true) := txtB_all h6 (fun j hj => HOK.out j hj hj)
        go_wp2
        go_ret
        exact ⟨ret_bool HA.out.symm, rfl⟩
  · have HA : Hid (txtB s = false) := by
      show txtB s = false
      unfold txtB
      rw [decide_eq_false h6]
      rfl
    go_enter Tryz.func79, Tryz.ntmps79
    go_wp2
    go_ret
    exact ⟨ret_bool HA.out.symm, rfl⟩

end Go.Proofs.YthniakklkepomaaGreat

/- The contract of impl's ValOk. -/
namespace Go.Proofs.YthniakklkepomaaGreat
open Go.RowKit

theorem boxedV {w : World} {t n : Int} {s : ByteArray} {e : TypeId} {W : World} (hb : Below (w.alloc (.cells #[.int .i64 t, .int .i64 n, .string s] e)).heap.size (w.alloc (.cells #[.int .i64 t, .int .i64 n, .string s] e)) W) :
    W.cell? ⟨w.heap.size, 0, none⟩ = some (.int .i64 t) ∧ W.cell? ⟨w.heap.size, 1, none⟩ = some (.int .i64 n) ∧ W.cell? ⟨w.heap.size, 2, none⟩ = some (.string s) := by
  refine ⟨(hb.cell (p := ⟨w.heap.size, 0, none⟩) (by simp)).trans ?_, (hb.cell (p := ⟨w.heap.size, 1, none⟩) (by simp)).trans ?_, (hb.cell (p := ⟨w.heap.size, 2, none⟩) (by simp)).trans ?_⟩ <;> simp

set_option maxHeartbeats 1000000 in
theorem iValOk (v : V) (w : World) (hs : v.s.size ≤ maxLen) : Calls Tryz.prog 45 #[v.agg] w fun e w' => e = .returned (.bool (okV v)) ∧ Below w.heap.size w w' := by
  obtain ⟨t, n, s⟩ := v
  simp only at hs
  have B0 := below_alloc w (.cells #[.int .i64 t, .int .i64 n, .string s] 54)
  have HC := Lib.hid (fun (W : World) => boxedV (w := w) (t := t) (n := n) (s := s) (e := 54) (W := W))
  generalize hw0 : (w.alloc (.cells #[.int .i64 t, .int .i64 n, .string s] 54)) = w0 at B0 HC
  have hB := Below.refl w0.heap.size w0
  have hB' := hB.drew
  have HW := Lib.hid hw0
  clear hw0
  by_cases ht : t = 1
  · subst ht
    have HE : Hid (okV ⟨1, n, s⟩ = (Num.okB n && (s.size == 0))) := if_pos rfl
    have HA := Lib.hid (fun W => iIntVal n W)
    have HO := Lib.hid (fun W => numOk n W)
    have HQ := Lib.hid (fun W => run_eql_val ⟨1, n, s⟩ ⟨1, n, ⟨#[]⟩⟩ W)
    by_cases h0 : s.size = 0
    · have e : V.eqB ⟨1, n, s⟩ ⟨1, n, ⟨#[]⟩⟩ = true := by
        obtain rfl : s = ⟨#[]⟩ := by
          apply ByteArray.ext
          exact Array.eq_empty_of_size_eq_zero h0
        simp [V.eqB]
      rw [e] at HQ
      rw [show (s.size == 0) = true by simpa using h0, Bool.and_true] at HE
      have hq := HQ.out
      clear e h0 HQ
      generalize Num.okB n = r at HE HO
      go_enter Tryz.func45, Tryz.ntmps45
      go_wp2_with fail
      rw [HW.out]
      go_region_held3 (fun W => W.cell? ⟨w.heap.size, 0, none⟩ = some (.int .i64 1) ∧ W.cell? ⟨w.heap.size, 1, none⟩ = some (.int .i64 n) ∧ W.cell? ⟨w.heap.size, 2, none⟩ = some (.string s)) (first | exact HC.out _ hB' | exact HC.out _ hB) (first | (go_at_call 76; (with_reducible refine (HA.out _).mono ?_); rintro e w3 ⟨rfl, hb⟩; replace hB' := below_then hB' hb hB'.size) | (go_at_call 77; (with_reducible refine (HO.out _).mono ?_); rintro e w4 ⟨rfl, rfl⟩))
      all_goals
        go_wp2
        go_ret
        exact ⟨ret_bool HE.out.symm, B0.trans (hB'.mono B0.size)⟩
    · have e : V.eqB ⟨1, n, s⟩ ⟨1, n, ⟨#[]⟩⟩ = false := by
        have : ¬ s.toList = [] := fun e => h0 (size_of_toList e)
        have h1 : (s.toList == []) = false := by simpa using this
        have h2 : (⟨#[]⟩ : ByteArray).toList = [] := by rw [ByteArray.toList_eq]
        simp [V.eqB, h2, this]
      rw [e] at HQ
      rw [show (s.size == 0) = false by simpa using h0, Bool.and_false] at HE
      have hq := HQ.out
      clear e h0 HQ
      go_enter Tryz.func45, Tryz.ntmps45
      go_wp2_with fail
      rw [HW.out]
      refine wp_region_held_drew (S := (fun W => W.cell? ⟨w.heap.size, 0, none⟩ = some (.int .i64 1) ∧ W.cell? ⟨w.heap.size, 1, none⟩ = some (.int .i64 n) ∧ W.cell? ⟨w.heap.size, 2, none⟩ = some (.string s))) (by kernel_rfl) (HC.out _ hB') (fun hHeld => ?_)
      refine takeH (i := 0) (d := some 7) (v := .agg #[.int .i64 1, .int .i64 n, .string s]) rfl rfl (by kernel_rfl) (by kernel_rfl) (by kernel_rfl) (fun _ _ _ h => h) (Or.inl ⟨by rfl, fun W hSw => by obtain ⟨c0, c1, c2⟩ := hSw; go_simp⟩) hHeld ?_
      simp only [put_some, List.set_cons_zero, List.set_cons_succ]
      refine takeH (i := 1) (d := some 8) (v := .pointer (some ⟨w.heap.size, 1, none⟩)) rfl rfl (by kernel_rfl) (by kernel_rfl) (by kernel_rfl) (fun _ _ _ h => h) (Or.inl ⟨by rfl, fun W hSw => by obtain ⟨c0, c1, c2⟩ := hSw; go_simp⟩) hHeld ?_
      simp only [put_some, List.set_cons_zero, List.set_cons_succ]
      refine takeH (i := 2) (d := some 9) (v := .int .i64 n) rfl rfl (by kernel_rfl) (by kernel_rfl) (by kernel_rfl) (fun _ _ _ h => h) (Or.inl ⟨by rfl, fun W hSw => by obtain ⟨c0, c1, c2⟩ := hSw; go_simp⟩) hHeld ?_
      simp only [put_some, List.set_cons_zero, List.set_cons_succ]
      refine wpAnyH_ready (rs := [3]) (by kernel_rfl) (by simp) ?_
      refine AllReadyH.cons rfl (fun K hK => ?_) AllReadyH.nil
      go_simp
      go_at_call 76
      refine (HA.out _).mono ?_
      rintro e w3 ⟨rfl, hb⟩
      replace hB' := below_then hB' hb hB'.size
      go_wp2_with fail
      refine hK.out _ _ (HC.out _ hB') (fun hHeld => ?_)
      clear hK K
      refine takeH (i := 4) (d := some 11) (v := .bool false) rfl rfl (by kernel_rfl) (by kernel_rfl) (by kernel_rfl) (fun _ _ _ h => h) (Or.inl ⟨by rfl, fun W hSw => by obtain ⟨c0, c1, c2⟩ := hSw; go_simp⟩) hHeld ?_
      simp only [put_some, List.set_cons_zero, List.set_cons_succ]
      refine takeH (i := 5) (d := some 12) (v := .bool false) rfl rfl (by kernel_rfl) (by kernel_rfl) (by kernel_rfl) (fun _ _ _ h => h) (Or.inl ⟨by rfl, fun W hSw => by obtain ⟨c0, c1, c2⟩ := hSw; go_simp⟩) hHeld ?_
      simp only [put_some, List.set_cons_zero, List.set_cons_succ]
      refine takeH (i := 6) (d := some 13) (v := undef) rfl rfl (by kernel_rfl) (by kernel_rfl) (by kernel_rfl) (fun _ _ _ h => h) (Or.inr ⟨by rfl, rfl⟩) hHeld ?_
      simp only [put_some, List.set_cons_zero, List.set_cons_succ]
      refine takeH (i := 7) (d := some 14) (v := undef) rfl rfl (by kernel_rfl) (by kernel_rfl) (by kernel_rfl) (fun _ _ _ h => h) (Or.inr ⟨by rfl, rfl⟩) hHeld ?_
      simp only [put_some, List.set_cons_zero, List.set_cons_succ]
      refine takeH (i := 8) (d := some 15) (v := undef) rfl rfl (by kernel_rfl) (by kernel_rfl) (by kernel_rfl) (fun _ _ _ h => h) (Or.inr ⟨by rfl, rfl⟩) hHeld ?_
      simp only [put_some, List.set_cons_zero, List.set_cons_succ]
      refine takeH (i := 9) (d := some 16) (v := .bool false) rfl rfl (by kernel_rfl) (by kernel_rfl) (by kernel_rfl) (fun _ _ _ h => h) (Or.inl ⟨by rfl, fun W hSw => by obtain ⟨c0, c1, c2⟩ := hSw; go_simp⟩) hHeld ?_
      simp only [put_some, List.set_cons_zero, List.set_cons_succ]
      refine takeH (i := 10) (d := some 2) (v := .bool false) rfl rfl (by kernel_rfl) (by kernel_rfl) (by kernel_rfl) (fun _ _ _ h => h) (Or.inl ⟨by rfl, fun W hSw => by obtain ⟨c0, c1, c2⟩ := hSw; go_simp⟩) hHeld ?_
      simp only [put_some, List.set_cons_zero, List.set_cons_succ]
      refine wpAnyH_done (by kernel_rfl) ?_ _
      go_wp2
      go_ret
      exact ⟨ret_bool HE.out.symm, B0.trans (hB'.mono B0.size)⟩
  · have HE : Hid (okV ⟨t, n, s⟩ = (t == 2 && (n == 0 && txtB s))) := if_neg ht
    have ht1 : (t == 1) = false := by simpa using ht
    by_cases ht2 : t = 2
    · subst ht2
      have HA := Lib.hid (fun W => iTextVal s W)
      have HO := Lib.hid (fun W => iTextOk s W hs)
      have HQ := Lib.hid (fun W => run_eql_val ⟨2, n, s⟩ ⟨2, 0, s⟩ W)
      have e : V.eqB ⟨2, n, s⟩ ⟨2, 0, s⟩ = (n == 0) := by simp [V.eqB]
      rw [e] at HQ
      rw [show ((2 : Int) == 2) = true from rfl, Bool.true_and] at HE
      by_cases h0 : n = 0
      · rw [show (n == 0) = true by simpa using h0] at HE HQ
        rw [Bool.true_and] at HE
        have hq := HQ.out
        clear e h0 HQ ht
        generalize txtB s = r at HE HO
        go_enter Tryz.func45, Tryz.ntmps45
        go_wp2_with fail
        rw [HW.out]
        go_region_held3 (fun W => W.cell? ⟨w.heap.size, 0, none⟩ = some (.int .i64 2) ∧ W.cell? ⟨w.heap.size, 1, none⟩ = some (.int .i64 n) ∧ W.cell? ⟨w.heap.size, 2, none⟩ = some (.string s)) (first | exact HC.out _ hB' | exact HC.out _ hB) (first | (go_at_call 78; (with_reducible refine (HA.out _).mono ?_); rintro e w3 ⟨rfl, hb⟩; replace hB' := below_then hB' hb hB'.size) | (go_at_call 79; (with_reducible refine (HO.out _).mono ?_); rintro e w4 ⟨rfl, rfl⟩))
        all_goals
          go_wp2
          go_ret
          exact ⟨ret_bool HE.out.symm, B0.trans (hB'.mono B0.size)⟩
      · rw [show (n == 0) = false by simpa using h0] at HE HQ
        rw [Bool.false_and] at HE
        have hq := HQ.out
        clear e h0 HQ ht
        go_enter Tryz.func45, Tryz.ntmps45
        go_wp2_with fail
        rw [HW.out]
        refine wp_region_held_drew (S := (fun W => W.cell? ⟨w.heap.size, 0, none⟩ = some (.int .i64 2) ∧ W.cell? ⟨w.heap.size, 1, none⟩ = some (.int .i64 n) ∧ W.cell? ⟨w.heap.size, 2, none⟩ = some (.string s))) (by kernel_rfl) (HC.out _ hB') (fun hHeld => ?_)
        refine takeH (i := 0) (d := some 19) (v := .agg #[.int .i64 2, .int .i64 n, .string s]) rfl rfl (by kernel_rfl) (by kernel_rfl) (by kernel_rfl) (fun _ _ _ h => h) (Or.inl ⟨by rfl, fun W hSw => by obtain ⟨c0, c1, c2⟩ := hSw; go_simp⟩) hHeld ?_
        simp only [put_some, List.set_cons_zero, List.set_cons_succ]
        refine takeH (i := 1) (d := some 20) (v := .pointer (some ⟨w.heap.size, 2, none⟩)) rfl rfl (by kernel_rfl) (by kernel_rfl) (by kernel_rfl) (fun _ _ _ h => h) (Or.inl ⟨by rfl, fun W hSw => by obtain ⟨c0, c1, c2⟩ := hSw; go_simp⟩) hHeld ?_
        simp only [put_some, List.set_cons_zero, List.set_cons_succ]
        refine takeH (i := 2) (d := some 21) (v := .string s) rfl rfl (by kernel_rfl) (by kernel_rfl) (by kernel_rfl) (fun _ _ _ h => h) (Or.inl ⟨by rfl, fun W hSw => by obtain ⟨c0, c1, c2⟩ := hSw; go_simp⟩) hHeld ?_
        simp only [put_some, List.set_cons_zero, List.set_cons_succ]
        refine wpAnyH_ready (rs := [3]) (by kernel_rfl) (by simp) ?_
        refine AllReadyH.cons rfl (fun K hK => ?_) AllReadyH.nil
        go_simp
        go_at_call 78
        refine (HA.out _).mono ?_
        rintro e w3 ⟨rfl, hb⟩
        replace hB' := below_then hB' hb hB'.size
        go_wp2_with fail
        refine hK.out _ _ (HC.out _ hB') (fun hHeld => ?_)
        clear hK K
        refine takeH (i := 4) (d := some 23) (v := .bool false) rfl rfl (by kernel_rfl) (by kernel_rfl) (by kernel_rfl) (fun _ _ _ h => h) (Or.inl ⟨by rfl, fun W hSw => by obtain ⟨c0, c1, c2⟩ := hSw; go_simp⟩) hHeld ?_
        simp only [put_some, List.set_cons_zero, List.set_cons_succ]
        refine takeH (i := 5) (d := some 24) (v := .bool false) rfl rfl (by kernel_rfl) (by kernel_rfl) (by kernel_rfl) (fun _ _ _ h => h) (Or.inl ⟨by rfl, fun W hSw => by obtain ⟨c0, c1, c2⟩ := hSw; go_simp⟩) hHeld ?_
        simp only [put_some, List.set_cons_zero, List.set_cons_succ]
        refine takeH (i := 6) (d := some 25) (v := undef) rfl rfl (by kernel_rfl) (by kernel_rfl) (by kernel_rfl) (fun _ _ _ h => h) (Or.inr ⟨by rfl, rfl⟩) hHeld ?_
        simp only [put_some, List.set_cons_zero, List.set_cons_succ]
        refine takeH (i := 7) (d := some 26) (v := undef) rfl rfl (by kernel_rfl) (by kernel_rfl) (by kernel_rfl) (fun _ _ _ h => h) (Or.inr ⟨by rfl, rfl⟩) hHeld ?_
        simp only [put_some, List.set_cons_zero, List.set_cons_succ]
        refine takeH (i := 8) (d := some 27) (v := undef) rfl rfl (by kernel_rfl) (by kernel_rfl) (by kernel_rfl) (fun _ _ _ h => h) (Or.inr ⟨by rfl, rfl⟩) hHeld ?_
        simp only [put_some, List.set_cons_zero, List.set_cons_succ]
        refine takeH (i := 9) (d := some 28) (v := .bool false) rfl rfl (by kernel_rfl) (by kernel_rfl) (by kernel_rfl) (fun _ _ _ h => h) (Or.inl ⟨by rfl, fun W hSw => by obtain ⟨c0, c1, c2⟩ := hSw; go_simp⟩) hHeld ?_
        simp only [put_some, List.set_cons_zero, List.set_cons_succ]
        refine takeH (i := 10) (d := some 2) (v := .bool false) rfl rfl (by kernel_rfl) (by kernel_rfl) (by kernel_rfl) (fun _ _ _ h => h) (Or.inl ⟨by rfl, fun W hSw => by obtain ⟨c0, c1, c2⟩ := hSw; go_simp⟩) hHeld ?_
        simp only [put_some, List.set_cons_zero, List.set_cons_succ]
        refine wpAnyH_done (by kernel_rfl) ?_ _
        go_wp2
        go_ret
        exact ⟨ret_bool HE.out.symm, B0.trans (hB'.mono B0.size)⟩
    · have ht2b : (t == 2) = false := by simpa using ht2
      rw [ht2b, Bool.false_and] at HE
      clear ht ht2 hB hB' HC
      go_enter Tryz.func45, Tryz.ntmps45
      go_wp2
      go_ret
      rw [HW.out]
      exact ⟨ret_bool HE.out.symm, B0⟩

end Go.Proofs.YthniakklkepomaaGreat

/- The contracts of impl's Least, Most, TypeOf. -/
namespace Go.Proofs.YthniakklkepomaaGreat
open Go.RowKit

set_option maxHeartbeats 1000000 in
theorem iTypeOf : CTypeOf := by
  intro v l w hln hss h
  have HTA := Lib.hid (typeV_all (l := l))
  have HIN : Hid (Num.inB l.length 1 64 = false → typeV l = 0) := fun h => by
    unfold typeV
    rw [if_neg]
    rintro ⟨h1, _⟩
    rw [h] at h1
    cases h1
  generalize hl : l.length = n at h HTA HIN hln
  obtain ⟨a2, c2, rfl, hm, HC⟩ := h.vals hl
  unfold maxLen at hm
  have HL := Lib.hid hl
  have HSS : Hid (∀ k, k < n → (l.getD k V.zero).s.size ≤ maxLen) := by
    intro k hk
    have hk' : k < l.length := by omega
    have e : l.getD k V.zero = l[k] := by simp [hk']
    rw [e]
    exact hss _ (List.getElem_mem hk')
  clear h hss hl
  cases hin : Num.inB n 1 64 with
  | false =>
    have HE := Lib.hid (HIN.out hin)
    by_cases h1 : n < 1
    · obtain rfl : n = 0 := by omega
      clear hin
      go_enter Tryz.func18, Tryz.ntmps18
      go_wp2
      go_ret
      exact ⟨ret_int HE.out.symm, Below.refl _ _⟩
    · have h2 : 64 < n := by
        by_cases h2 : 64 < n
        · exact h2
        · exfalso
          rw [Num.inB_true.2 ⟨by omega, by omega⟩] at hin
          cases hin
      clear hin
      go_enter Tryz.func18, Tryz.ntmps18
      go_wp2
      go_ret
      exact ⟨ret_int HE.out.symm, Below.refl _ _⟩
  | true =>
    obtain ⟨hn0, hn1⟩ := Num.inB_true.1 hin
    have hpos : 0 < n := by omega
    rw [hin] at HTA
    obtain ⟨b2, o2, rfl, z0, _, _⟩ := HC.out 0 hpos
    generalize hzz : (l.getD 0 V.zero).ty = z at z0 HTA
    simp only [Nat.zero_mul, Nat.add_zero] at z0
    have HZ := Lib.hid hzz
    have HTB := Lib.hid (HTA.out rfl)
    clear hzz hin HTA
    go_enter Tryz.func18, Tryz.ntmps18
    go_wp2
    go_loopw [20] (fun i wr => ∃ k : Nat, k ≤ n ∧ i = .int .i64 k ∧ (∀ j, j < k → ofB z (l.getD j V.zero) = true) ∧ Below w.heap.size w wr) (fun i _ => n - (intOf i).toNat)
    case atStart => exact ⟨0, Nat.zero_le _, rfl, fun j hj => by omega, Below.refl _ _⟩
    case round =>
      obtain ⟨k, hk, rfl, hok, hbr⟩ := hrel
      have HOK := Lib.hid hok
      clear hok
      by_cases hlt : k < n
      · obtain ⟨b', o', hbo, q0, q1, q2⟩ := HC.out k hlt
        simp only [Option.some.injEq, Addr.mk.injEq, and_true] at hbo
        obtain ⟨rfl, rfl⟩ := hbo
        have HS : Hid (ofB z (l.getD k V.zero) = true → ∀ j, j < k + 1 → ofB z (l.getD j V.zero) = true) := fun h j hj => by
          by_cases e : j = k
          · subst e; exact h
          · exact HOK.out j (by omega)
        have HN : Hid (ofB z (l.getD k V.zero) = false → typeV l = 0) := fun h => typeV_no (by rw [HL.out]; exact hlt) (by rw [HZ.out]; exact h)
        have HO := Lib.hid (fun W => iValOk (l.getD k V.zero) W (HSS.out k hlt))
        generalize l.getD k V.zero = x at q0 q1 q2 HS HN HO
        have HF : Hid (ofB z x = (okV x && x.ty == z)) := rfl
        obtain ⟨t2, n2, s2⟩ := x
        simp only at q0 q1 q2
        replace q0 := (hbr.cell (p := ⟨b2, o2 + k * 3, none⟩) (lt_of_cell q0)).trans q0
        replace q1 := (hbr.cell (p := ⟨b2, o2 + k * 3 + 1, none⟩) (lt_of_cell q1)).trans q1
        replace q2 := (hbr.cell (p := ⟨b2, o2 + k * 3 + 2, none⟩) (lt_of_cell q2)).trans q2
        have ba := below_alloc wr (.cells #[.int .i64 t2, .int .i64 n2, .string s2] 54)
        have bt := below_then hbr ba hbr.size
        by_cases htz : t2 = z
        · subst htz
          have hne : (t2 != t2) = false := by simp
          cases hv : okV ⟨t2, n2, s2⟩ with
          | false =>
            have HN2 : Hid (typeV l = 0) := HN.out (by rw [HF.out, hv, Bool.false_and])
            rw [hv] at HO
            clear hv HS HN HF z0 ba
            go_wp2_with (go_at_call 45; refine (HO.out _).mono ?_; rintro e w2 ⟨rfl, hb2⟩; replace bt := below_then bt hb2 bt.size)
            go_ret
            exact ⟨ret_int HN2.out.symm, bt⟩
          | true =>
            have HS2 := Lib.hid (HS.out (by rw [HF.out, hv]; simp))
            rw [hv] at HO
            clear hv HS HN HF z0 ba
            go_wp2_with (go_at_call 45; refine (HO.out _).mono ?_; rintro e w2 ⟨rfl, hb2⟩; replace bt := below_then bt hb2 bt.size)
            go_roundw
            case rel => exact ⟨k + 1, by omega, by go_num, HS2.out, bt⟩
            case measure => simp [intOf]; omega
        · have hne : (t2 != z) = true := by simpa using htz
          have HN2 : Hid (typeV l = 0) := HN.out (by rw [HF.out]; simp [htz])
          clear HS HN HF z0 ba htz
          go_wp2
          go_ret
          exact ⟨ret_int HN2.out.symm, bt⟩
      · obtain rfl : k = n := by omega
        have HTC := Lib.hid (HTB.out HOK.out)
        go_wp2
        go_ret
        exact ⟨ret_int (by rw [HTC.out]), hbr⟩

end Go.Proofs.YthniakklkepomaaGreat

/- Two Vals are equal where the machine says so. -/
namespace Go.Proofs.YthniakklkepomaaGreat
open Go.RowKit

theorem eqB_true {x y : V} : x.eqB y = true ↔ x = y := by
  obtain ⟨t1, n1, s1⟩ := x
  obtain ⟨t2, n2, s2⟩ := y
  simp only [V.eqB, Bool.and_eq_true, beq_iff_eq, V.mk.injEq]
  constructor
  · rintro ⟨h1, h2, h3⟩
    refine ⟨h1, h2, ?_⟩
    rw [ByteArray.toList_eq, ByteArray.toList_eq] at h3
    apply ByteArray.ext
    exact Array.toList_inj.1 h3
  · rintro ⟨rfl, rfl, rfl⟩
    exact ⟨rfl, rfl, rfl⟩
theorem eqB_false {x y : V} : x.eqB y = false ↔ x ≠ y := by
  constructor
  · intro h e
    rw [eqB_true.2 e] at h
    cases h
  · intro h
    cases hb : x.eqB y with
    | false => rfl
    | true => exact absurd (eqB_true.1 hb) h

end Go.Proofs.YthniakklkepomaaGreat

/- Plain mathematics of chapter 7: the order of Vals, the dictionary of a list, the places of values. -/
namespace Go.Proofs.YthniakklkepomaaGreat
open Go.RowKit

theorem getDe {α : Type} (l : List α) (d : α) {i : Nat} (h : i < l.length) : l.getD i d = l[i] := by simp [h]
theorem bl_irrefl : ∀ x : List UInt8, Op.bytesLess x x = false
  | [] => rfl
  | a :: x => by simp [Op.bytesLess, bl_irrefl x]
theorem bl_trans : ∀ x y z : List UInt8, Op.bytesLess x y = true → Op.bytesLess y z = true → Op.bytesLess x z = true
  | _, _, [], _, h => by simp [Op.bytesLess] at h
  | [], _, _ :: _, _, _ => rfl
  | _ :: _, [], _ :: _, h, _ => by simp [Op.bytesLess] at h
  | a :: x, b :: y, c :: z, h, k => by
    simp only [Op.bytesLess, Bool.or_eq_true, decide_eq_true_eq, Bool.and_eq_true, beq_iff_eq] at h k ⊢
    rcases h with h | ⟨rfl, h⟩
    · rcases k with k | ⟨rfl, k⟩
      · exact .inl (UInt8.lt_trans h k)
      · exact .inl h
    · rcases k with k | ⟨rfl, k⟩
      · exact .inl k
      · exact .inr ⟨rfl, bl_trans x y z h k⟩
theorem bl_tri : ∀ x y : List UInt8, Op.bytesLess x y = false → Op.bytesLess y x = false → x = y
  | [], [], _, _ => rfl
  | [], _ :: _, h, _ => by simp [Op.bytesLess] at h
  | _ :: _, [], _, h => by simp [Op.bytesLess] at h
  | a :: x, b :: y, h, k => by
    simp only [Op.bytesLess, Bool.or_eq_false_iff, decide_eq_false_iff_not, Bool.and_eq_false_iff, beq_eq_false_iff_ne] at h k
    have e : a = b := UInt8.le_antisymm (UInt8.not_lt.1 k.1) (UInt8.not_lt.1 h.1)
    subst e
    rw [bl_tri x y (h.2.resolve_left (fun f => f rfl)) (k.2.resolve_left (fun f => f rfl))]

theorem lessV_iff (a b : V) : lessV a b = true ↔ a.ty < b.ty ∨ (a.ty = b.ty ∧ (a.n < b.n ∨ (a.n = b.n ∧ Op.bytesLess a.s.toList b.s.toList = true))) := by
  unfold lessV
  by_cases h1 : a.ty = b.ty
  · by_cases h2 : a.n = b.n
    · simp [h1, h2]
    · simp [h1, h2]
  · simp [h1]
theorem lessV_irrefl (a : V) : lessV a a = false := by
  cases h : lessV a a with
  | false => rfl
  | true =>
    rw [lessV_iff, bl_irrefl] at h
    rcases h with h | ⟨_, h | ⟨_, h⟩⟩
    · omega
    · omega
    · cases h
theorem lessV_trans {a b c : V} (h : lessV a b = true) (k : lessV b c = true) : lessV a c = true := by
  rw [lessV_iff] at h k ⊢
  rcases h with h | ⟨h1, h | ⟨h2, h⟩⟩
  · rcases k with k | ⟨k1, k⟩
    · exact .inl (by omega)
    · exact .inl (by omega)
  · rcases k with k | ⟨k1, k | ⟨k2, k⟩⟩
    · exact .inl (by omega)
    · exact .inr ⟨by omega, .inl (by omega)⟩
    · exact .inr ⟨by omega, .inl (by omega)⟩
  · rcases k with k | ⟨k1, k | ⟨k2, k⟩⟩
    · exact .inl (by omega)
    · exact .inr ⟨by omega, .inl (by omega)⟩
    · exact .inr ⟨by omega, .inr ⟨by omega, bl_trans _ _ _ h k⟩⟩
theorem lessV_tri {a b : V} (h : lessV a b = false) (k : lessV b a = false) : a = b := by
  have h' : ¬ lessV a b = true := by rw [h]; simp
  have k' : ¬ lessV b a = true := by rw [k]; simp
  rw [lessV_iff] at h' k'
  have e1 : a.ty = b.ty := by omega
  have e2 : a.n = b.n := by
    have p1 : ¬ a.n < b.n := fun f => h' (.inr ⟨e1, .inl f⟩)
    have p2 : ¬ b.n < a.n := fun f => k' (.inr ⟨e1.symm, .inl f⟩)
    omega
  have b1 : Op.bytesLess a.s.toList b.s.toList = false := by
    cases hb : Op.bytesLess a.s.toList b.s.toList with
    | false => rfl
    | true => exact absurd (.inr ⟨e1, .inr ⟨e2, hb⟩⟩) h'
  have b2 : Op.bytesLess b.s.toList a.s.toList = false := by
    cases hb : Op.bytesLess b.s.toList a.s.toList with
    | false => rfl
    | true => exact absurd (.inr ⟨e1.symm, .inr ⟨e2.symm, hb⟩⟩) k'
  have e3 := bl_tri _ _ b1 b2
  obtain ⟨t1, n1, s1⟩ := a
  obtain ⟨t2, n2, s2⟩ := b
  simp only at e1 e2 e3
  subst e1 e2
  rw [ByteArray.toList_eq, ByteArray.toList_eq] at e3
  rw [ByteArray.ext (Array.toList_inj.1 e3)]
theorem lessV_asymm {a b : V} (h : lessV a b = true) : lessV b a = false := by
  cases k : lessV b a with
  | false => rfl
  | true =>
    have := lessV_trans h k
    rw [lessV_irrefl] at this
    cases this
theorem lessV_ntrans {a b c : V} (h : lessV a b = false) (k : lessV b c = false) : lessV a c = false := by
  cases hc : lessV a c with
  | false => rfl
  | true =>
    cases h2 : lessV b a with
    | true => rw [lessV_trans h2 hc] at k; cases k
    | false =>
      rw [lessV_tri h h2] at hc
      rw [hc] at k
      cases k

/-- Ascending, and no two alike. -/
def Asc (d : List V) : Prop := d.Pairwise fun a b => lessV a b = true
theorem asc_unique : ∀ {a b : List V}, Asc a → Asc b → (∀ x, x ∈ a ↔ x ∈ b) → a = b
  | [], [], _, _, _ => rfl
  | [], y :: b, _, _, h => by have := (h y).2 List.mem_cons_self; cases this
  | x :: a, [], _, _, h => by have := (h x).1 List.mem_cons_self; cases this
  | x :: a, y :: b, ha, hb, h => by
    obtain ⟨ha1, ha2⟩ := List.pairwise_cons.1 ha
    obtain ⟨hb1, hb2⟩ := List.pairwise_cons.1 hb
    have e : x = y := by
      rcases List.mem_cons.1 ((h x).1 List.mem_cons_self) with e | e
      · exact e
      · rcases List.mem_cons.1 ((h y).2 List.mem_cons_self) with e' | e'
        · exact e'.symm
        · have := lessV_asymm (hb1 x e)
          rw [ha1 y e'] at this
          cases this
    subst e
    rw [asc_unique ha2 hb2 (fun z => ?_)]
    constructor
    · intro hz
      rcases List.mem_cons.1 ((h z).1 (List.mem_cons_of_mem _ hz)) with e | e
      · subst e
        have := ha1 z hz
        rw [lessV_irrefl] at this
        cases this
      · exact e
    · intro hz
      rcases List.mem_cons.1 ((h z).2 (List.mem_cons_of_mem _ hz)) with e | e
      · subst e
        have := hb1 z hz
        rw [lessV_irrefl] at this
        cases this
      · exact e

/-- Where v belongs in d. -/
def cutV : List V → V → Nat
  | [], _ => 0
  | x :: r, v => if lessV x v = true then cutV r v + 1 else 0
theorem cutV_le : ∀ (d : List V) (v : V), cutV d v ≤ d.length
  | [], _ => Nat.le_refl _
  | x :: r, v => by
    unfold cutV
    split
    · have := cutV_le r v
      simp only [List.length_cons]
      omega
    · exact Nat.zero_le _
theorem cutV_step : ∀ {d : List V} {v : V} {j : Nat}, j ≤ cutV d v → j < d.length → lessV (d.getD j V.zero) v = true → j + 1 ≤ cutV d v
  | [], _, j, _, h, _ => by simp at h
  | x :: r, v, 0, _, _, h => by
    have h' : lessV x v = true := h
    unfold cutV
    rw [if_pos h']
    omega
  | x :: r, v, j + 1, h1, h2, h3 => by
    unfold cutV at h1 ⊢
    split
    · rename_i hx
      rw [if_pos hx] at h1
      have := cutV_step (d := r) (v := v) (j := j) (by omega) (by simpa using h2) (by simpa using h3)
      omega
    · rename_i hx
      rw [if_neg hx] at h1
      omega
theorem cutV_stop : ∀ {d : List V} {v : V} {j : Nat}, j ≤ cutV d v → (j = d.length ∨ lessV (d.getD j V.zero) v = false) → j = cutV d v
  | [], _, j, h, _ => by simp only [cutV] at h ⊢; omega
  | x :: r, v, 0, _, h => by
    have h' : ¬ lessV x v = true := by
      rcases h with h | h
      · simp at h
      · rw [show (x :: r).getD 0 V.zero = x from rfl] at h
        rw [h]
        simp
    unfold cutV
    rw [if_neg h']
  | x :: r, v, j + 1, h1, h2 => by
    unfold cutV at h1 ⊢
    split
    · rename_i hx
      rw [if_pos hx] at h1
      rw [← cutV_stop (d := r) (v := v) (j := j) (by omega) (h2.imp (fun h => by simpa using h) (fun h => by simpa using h))]
    · rename_i hx
      rw [if_neg hx] at h1
      omega

/-- A value laid into a dictionary. -/
def insV : List V → V → List V
  | [], v => [v]
  | x :: r, v => if lessV x v = true then x :: insV r v else if x.eqB v = true then x :: r else v :: x :: r
theorem insV_new : ∀ {d : List V} {v : V}, (cutV d v = d.length ∨ (d.getD (cutV d v) V.zero).eqB v = false) → insV d v = (d.take (cutV d v) ++ [v]) ++ d.drop (cutV d v)
  | [], v, _ => rfl
  | x :: r, v, h => by
    unfold insV
    by_cases hx : lessV x v = true
    · have hc : cutV (x :: r) v = cutV r v + 1 := by rw [cutV, if_pos hx]
      rw [hc] at h ⊢
      rw [if_pos hx, insV_new (h.imp (fun h => by simpa using h) (fun h => by simpa using h))]
      simp
    · have hc : cutV (x :: r) v = 0 := by rw [cutV, if_neg hx]
      rw [hc] at h ⊢
      have he : x.eqB v = false := by
        rcases h with h | h
        · simp at h
        · exact h
      rw [if_neg hx, he]
      rfl
theorem insV_old : ∀ {d : List V} {v : V}, cutV d v < d.length → (d.getD (cutV d v) V.zero).eqB v = true → insV d v = d
  | [], _, h, _ => by simp at h
  | x :: r, v, h1, h2 => by
    unfold insV
    by_cases hx : lessV x v = true
    · have hc : cutV (x :: r) v = cutV r v + 1 := by rw [cutV, if_pos hx]
      rw [hc] at h1 h2
      rw [if_pos hx, insV_old (by simpa using h1) (by simpa using h2)]
    · have hc : cutV (x :: r) v = 0 := by rw [cutV, if_neg hx]
      rw [hc] at h2
      have he : x.eqB v = true := h2
      rw [if_neg hx, if_pos he]
theorem mem_ins : ∀ {d : List V} {v x : V}, x ∈ insV d v ↔ x ∈ d ∨ x = v
  | [], v, x => by simp [insV]
  | y :: r, v, x => by
    unfold insV
    split
    · rw [List.mem_cons, mem_ins (d := r), List.mem_cons, or_assoc]
    · split
      · rename_i he
        have he' := eqB_true.1 he
        subst he'
        constructor
        · exact .inl
        · rintro (h | rfl)
          · exact h
          · exact List.mem_cons_self
      · simp only [List.mem_cons]
        constructor
        · rintro (h | h | h)
          · exact .inr h
          · exact .inl (.inl h)
          · exact .inl (.inr h)
        · rintro ((h | h) | h)
          · exact .inr (.inl h)
          · exact .inr (.inr h)
          · exact .inl h
theorem asc_ins : ∀ {d : List V} {v : V}, Asc d → Asc (insV d v)
  | [], v, _ => List.pairwise_singleton _ _
  | x :: r, v, h => by
    obtain ⟨h1, h2⟩ := List.pairwise_cons.1 h
    unfold insV
    split
    · rename_i hx
      refine List.pairwise_cons.2 ⟨fun y hy => ?_, asc_ins h2⟩
      rcases mem_ins.1 hy with hy | rfl
      · exact h1 y hy
      · exact hx
    · rename_i hx
      split
      · exact h
      · rename_i he
        have hxv : lessV v x = true := by
          cases k : lessV v x with
          | true => rfl
          | false => exact absurd (eqB_true.2 (lessV_tri (by simpa using hx) k)) he
        refine List.pairwise_cons.2 ⟨fun y hy => ?_, h⟩
        rcases List.mem_cons.1 hy with rfl | hy
        · exact hxv
        · exact lessV_trans hxv (h1 y hy)
theorem ins_len (d : List V) (v : V) : (insV d v).length ≤ d.length + 1 := by
  induction d with
  | nil => simp [insV]
  | cons x r ih =>
    unfold insV
    split
    · simp only [List.length_cons]; omega
    · split <;> simp

/-- Dict. -/
def dictL (l : List V) : List V := l.foldl insV []
theorem dict_snoc (l : List V) (v : V) : dictL (l ++ [v]) = insV (dictL l) v := by simp [dictL]
theorem dict_fold : ∀ (l d : List V), Asc d → Asc (l.foldl insV d) ∧ (∀ x, x ∈ l.foldl insV d ↔ x ∈ d ∨ x ∈ l) ∧ (l.foldl insV d).length ≤ d.length + l.length
  | [], d, h => ⟨h, by simp, by simp⟩
  | v :: l, d, h => by
    obtain ⟨h1, h2, h3⟩ := dict_fold l (insV d v) (asc_ins h)
    refine ⟨h1, fun x => ?_, ?_⟩
    · rw [List.foldl_cons, h2, mem_ins, List.mem_cons, or_assoc]
    · have := ins_len d v
      simp only [List.foldl_cons, List.length_cons]
      omega
theorem asc_dict (l : List V) : Asc (dictL l) := (dict_fold l [] List.Pairwise.nil).1
theorem mem_dict {l : List V} {x : V} : x ∈ dictL l ↔ x ∈ l := by
  have := (dict_fold l [] List.Pairwise.nil).2.1 x
  simpa [dictL] using this
theorem dict_len (l : List V) : (dictL l).length ≤ l.length := by
  have := (dict_fold l [] List.Pairwise.nil).2.2
  simpa [dictL] using this

/-- What is left of the first j elements when each that equals the one ahead of it goes. -/
def compK (l : List V) : Nat → List V
  | 0 => []
  | j + 1 => if j = 0 ∨ (l.getD j V.zero).eqB (l.getD (j - 1) V.zero) = false then compK l j ++ [l.getD j V.zero] else compK l j
theorem compK_len (l : List V) (j : Nat) : (compK l j).length ≤ j := by
  induction j with
  | zero => exact Nat.le_refl _
  | succ j ih =>
    unfold compK
    split
    · simp; omega
    · omega
theorem compK_pos (l : List V) {j : Nat} (h : 0 < j) : 0 < (compK l j).length := by
  induction j with
  | zero => omega
  | succ j ih =>
    unfold compK
    split
    · simp
    · rename_i hn
      have : j ≠ 0 := fun e => hn (.inl e)
      exact ih (by omega)
theorem compK_mem (l : List V) {j : Nat} (hj : j ≤ l.length) (x : V) : x ∈ compK l j ↔ ∃ i, i < j ∧ l.getD i V.zero = x := by
  induction j with
  | zero => simp [compK]
  | succ j ih =>
    have ih := ih (by omega)
    unfold compK
    split
    · rw [List.mem_append, ih, List.mem_singleton]
      constructor
      · rintro (⟨i, hi, e⟩ | e)
        · exact ⟨i, by omega, e⟩
        · exact ⟨j, by omega, e.symm⟩
      · rintro ⟨i, hi, e⟩
        by_cases hij : i = j
        · subst hij; exact .inr e.symm
        · exact .inl ⟨i, by omega, e⟩
    · rename_i hn
      have hj0 : j ≠ 0 := fun e => hn (.inl e)
      have he : (l.getD j V.zero).eqB (l.getD (j - 1) V.zero) = true := by
        cases hb : (l.getD j V.zero).eqB (l.getD (j - 1) V.zero) with
        | true => rfl
        | false => exact absurd (.inr hb) hn
      have he' := eqB_true.1 he
      rw [ih]
      constructor
      · rintro ⟨i, hi, e⟩
        exact ⟨i, by omega, e⟩
      · rintro ⟨i, hi, e⟩
        by_cases hij : i = j
        · subst hij; exact ⟨i - 1, by omega, he'.symm.trans e⟩
        · exact ⟨i, by omega, e⟩
/-- No later one is less than an earlier one. -/
def Rising (l : List V) : Prop := ∀ i j, i < j → j < l.length → lessV (l.getD j V.zero) (l.getD i V.zero) = false
theorem compK_asc {l : List V} (h : Rising l) : ∀ {j : Nat}, j ≤ l.length → Asc (compK l j)
  | 0, _ => List.Pairwise.nil
  | j + 1, hj => by
    have ih := compK_asc h (j := j) (by omega)
    unfold compK
    split
    · rename_i hc
      refine List.pairwise_append.2 ⟨ih, List.pairwise_singleton _ _, fun x hx y hy => ?_⟩
      rw [List.mem_singleton.1 hy]
      obtain ⟨i, hi, rfl⟩ := (compK_mem l (by omega) x).1 hx
      have hne : (l.getD j V.zero).eqB (l.getD (j - 1) V.zero) = false := by
        rcases hc with hc | hc
        · omega
        · exact hc
      cases k : lessV (l.getD i V.zero) (l.getD j V.zero) with
      | true => rfl
      | false =>
        exfalso
        have e1 := lessV_tri k (h i j hi (by omega))
        apply eqB_false.1 hne
        by_cases hij : i = j - 1
        · rw [← hij]; exact e1.symm
        · have k1 := h (j - 1) j (by omega) (by omega)
          have k2 := h i (j - 1) (by omega) (by omega)
          rw [e1] at k2
          exact lessV_tri k1 k2
    · exact ih
/-- The values of l, sorted, with each that equals the one ahead of it gone: the dictionary. -/
theorem comp_dict {l s : List V} (hp : s.Perm l) (h : Rising s) : compK s s.length = dictL l := by
  refine asc_unique (compK_asc h (Nat.le_refl _)) (asc_dict l) (fun x => ?_)
  rw [compK_mem s (Nat.le_refl _), mem_dict, ← hp.mem_iff]
  constructor
  · rintro ⟨i, hi, rfl⟩
    rw [getDe _ _ hi]
    exact List.getElem_mem hi
  · intro hx
    obtain ⟨i, hi, e⟩ := List.getElem_of_mem hx
    exact ⟨i, hi, by rw [getDe _ _ hi, e]⟩
theorem compK_all {l : List V} : ∀ {j : Nat}, j ≤ l.length → (∀ i, 0 < i → i < j → (l.getD i V.zero).eqB (l.getD (i - 1) V.zero) = false) → compK l j = l.take j
  | 0, _, _ => rfl
  | j + 1, hj, h => by
    have ih := compK_all (l := l) (j := j) (by omega) (fun i h0 h1 => h i h0 (by omega))
    have hlt : j < l.length := by omega
    rw [compK, if_pos, ih, List.take_succ_eq_append_getElem hlt, getDe _ _ hlt]
    by_cases h0 : j = 0
    · exact .inl h0
    · exact .inr (h j (by omega) (by omega))

/-- InDict. -/
def inD : List V → V → Option Nat
  | [], _ => none
  | x :: r, v => if x.eqB v = true then some 0 else (inD r v).map (· + 1)
def inI (d : List V) (v : V) : Int := match inD d v with | some i => i | none => -1
theorem inD_some : ∀ {d : List V} {v : V} {i : Nat}, inD d v = some i → i < d.length ∧ d.getD i V.zero = v ∧ ∀ j, j < i → (d.getD j V.zero).eqB v = false
  | [], v, i, h => by simp [inD] at h
  | x :: r, v, i, h => by
    unfold inD at h
    split at h
    · rename_i he
      cases h
      exact ⟨by simp, eqB_true.1 he, fun j hj => by omega⟩
    · rename_i he
      obtain ⟨k, hk, rfl⟩ := Option.map_eq_some_iff.1 h
      obtain ⟨h1, h2, h3⟩ := inD_some hk
      refine ⟨by simpa using h1, by simpa using h2, fun j hj => ?_⟩
      cases j with
      | zero => simpa using he
      | succ j => simpa using h3 j (by omega)
theorem inD_none : ∀ {d : List V} {v : V}, inD d v = none ↔ ∀ j, j < d.length → (d.getD j V.zero).eqB v = false
  | [], v => by simp [inD]
  | x :: r, v => by
    unfold inD
    split
    · rename_i he
      constructor
      · intro h; cases h
      · intro h
        have := h 0 (by simp)
        rw [show (x :: r).getD 0 V.zero = x from rfl, he] at this
        cases this
    · rename_i he
      rw [Option.map_eq_none_iff, inD_none]
      constructor
      · intro h j hj
        cases j with
        | zero => simpa using he
        | succ j => simpa using h j (by simpa using hj)
      · intro h j hj
        have := h (j + 1) (by simpa using hj)
        simpa using this
theorem inD_first {d : List V} {v : V} {i : Nat} (h1 : i < d.length) (h2 : (d.getD i V.zero).eqB v = true) (h3 : ∀ j, j < i → (d.getD j V.zero).eqB v = false) : inD d v = some i := by
  cases h : inD d v with
  | none => rw [inD_none.1 h i h1] at h2; cases h2
  | some k =>
    obtain ⟨k1, k2, k3⟩ := inD_some h
    by_cases hik : i < k
    · rw [k3 i hik] at h2; cases h2
    · by_cases hki : k < i
      · have := h3 k hki
        rw [k2] at this
        rw [eqB_true.2 rfl] at this
        cases this
      · rw [show k = i by omega]
theorem inD_mem {d : List V} {v : V} (h : v ∈ d) : ∃ i, inD d v = some i := by
  cases e : inD d v with
  | some i => exact ⟨i, rfl⟩
  | none =>
    obtain ⟨i, hi, he⟩ := List.getElem_of_mem h
    have := inD_none.1 e i hi
    rw [getDe _ _ hi, he, eqB_true.2 rfl] at this
    cases this

/-- Places. -/
def placesL (d l : List V) : List Int × Bool := if l.all (fun v => (inD d v).isSome) = true then (l.map (inI d), true) else ([], false)
/-- Picked. -/
def pickB (d : List V) (x : Int) : Bool := decide (0 ≤ x ∧ x < (d.length : Int))
def pickedL (d : List V) (p : List Int) : List V × Bool := if p.all (pickB d) = true then (p.map (fun x => d.getD x.toNat V.zero), true) else ([], false)
theorem places_len (d l : List V) : (placesL d l).1.length ≤ l.length := by
  unfold placesL
  split <;> simp
theorem picked_len (d : List V) (p : List Int) : (pickedL d p).1.length ≤ p.length := by
  unfold pickedL
  split <;> simp
theorem places_no {d l : List V} {k : Nat} (hk : k < l.length) (h : inD d (l.getD k V.zero) = none) : placesL d l = ([], false) := by
  refine if_neg fun ha => ?_
  have := List.all_eq_true.1 ha l[k] (List.getElem_mem hk)
  rw [getDe _ _ hk] at h
  rw [h] at this
  cases this
theorem places_yes {d l : List V} (h : ∀ k, k < l.length → (inD d (l.getD k V.zero)).isSome = true) : placesL d l = (l.map (inI d), true) := by
  refine if_pos (List.all_eq_true.2 fun v hv => ?_)
  obtain ⟨i, hi, rfl⟩ := List.getElem_of_mem hv
  have := h i hi
  rwa [getDe _ _ hi] at this
theorem picked_no {d : List V} {p : List Int} {k : Nat} (hk : k < p.length) (h : pickB d (p.getD k 0) = false) : pickedL d p = ([], false) := by
  refine if_neg fun ha => ?_
  have := List.all_eq_true.1 ha p[k] (List.getElem_mem hk)
  rw [getDe _ _ hk] at h
  rw [h] at this
  cases this
theorem picked_yes {d : List V} {p : List Int} (h : ∀ k, k < p.length → pickB d (p.getD k 0) = true) : pickedL d p = (p.map (fun x => d.getD x.toNat V.zero), true) := by
  refine if_pos (List.all_eq_true.2 fun v hv => ?_)
  obtain ⟨i, hi, rfl⟩ := List.getElem_of_mem hv
  have := h i hi
  rwa [getDe _ _ hi] at this
theorem places_mem {d l : List V} (h : ∀ v ∈ l, v ∈ d) : placesL d l = (l.map (inI d), true) :=
  places_yes fun k hk => by
    obtain ⟨i, hi⟩ := inD_mem (h (l.getD k V.zero) (by rw [getDe _ _ hk]; exact List.getElem_mem hk))
    rw [hi]
    rfl
theorem inI_some {d : List V} {v : V} {i : Nat} (h : inD d v = some i) : inI d v = i := by unfold inI; rw [h]
theorem inI_none {d : List V} {v : V} (h : inD d v = none) : inI d v = -1 := by unfold inI; rw [h]
/-- What is picked at the places of l is l. -/
theorem picked_places {d l : List V} (h : ∀ v ∈ l, v ∈ d) : pickedL d (l.map (inI d)) = (l, true) := by
  have key : ∀ v ∈ l, ∃ i, inI d v = (i : Nat) ∧ i < d.length ∧ d.getD i V.zero = v := fun v hv => by
    obtain ⟨i, hi⟩ := inD_mem (h v hv)
    exact ⟨i, inI_some hi, (inD_some hi).1, (inD_some hi).2.1⟩
  unfold pickedL
  rw [if_pos]
  · refine Prod.ext ?_ rfl
    show (l.map (inI d)).map _ = l
    rw [List.map_map]
    conv => rhs; rw [← List.map_id l]
    refine List.map_congr_left fun v hv => ?_
    obtain ⟨i, h1, h2, h3⟩ := key v hv
    show d.getD (inI d v).toNat V.zero = v
    rw [h1, Int.toNat_natCast, h3]
  · refine List.all_eq_true.2 fun x hx => ?_
    obtain ⟨v, hv, rfl⟩ := List.mem_map.1 hx
    obtain ⟨i, h1, h2, h3⟩ := key v hv
    rw [h1]
    exact decide_eq_true ⟨by omega, by omega⟩

end Go.Proofs.YthniakklkepomaaGreat

/- The contracts of impl's LessVal, SameVals, NumsOf, TextsOf. -/
namespace Go.Proofs.YthniakklkepomaaGreat
open Go.RowKit

theorem made_one (x : Value) (n : Nat) : (madeCells #[x] n).toList = List.replicate n x := by
  apply List.ext_getElem?
  intro i
  unfold madeCells
  by_cases hi : i < n
  · simp [hi, Nat.mod_one]
  · simp [hi]

theorem iLessVal (a b : V) (w : World) : Calls Tryz.prog 148 #[a.agg, b.agg] w fun e w' => e = .returned (.bool (lessV a b)) ∧ Below w.heap.size w w' := by
  obtain ⟨t1, n1, s1⟩ := a
  obtain ⟨t2, n2, s2⟩ := b
  have HE := Lib.hid (show lessV ⟨t1, n1, s1⟩ ⟨t2, n2, s2⟩ = if (t1 != t2) = true then decide (t1 < t2) else if (n1 != n2) = true then decide (n1 < n2) else Op.bytesLess s1.toList s2.toList from rfl)
  cases h1 : (t1 != t2) with
  | true =>
    rw [if_pos h1] at HE
    go_enter Tryz.func148, Tryz.ntmps148
    go_wp2
    go_ret
    exact ⟨ret_bool HE.out.symm, below_alloc2 _ _ _⟩
  | false =>
    rw [if_neg (by rw [h1]; simp)] at HE
    cases h2 : (n1 != n2) with
    | true =>
      rw [if_pos h2] at HE
      go_enter Tryz.func148, Tryz.ntmps148
      go_wp2
      go_ret
      exact ⟨ret_bool HE.out.symm, below_alloc2 _ _ _⟩
    | false =>
      rw [if_neg (by rw [h2]; simp)] at HE
      go_enter Tryz.func148, Tryz.ntmps148
      go_wp2
      go_ret
      exact ⟨ret_bool HE.out.symm, below_alloc2 _ _ _⟩

/-- A list of zeros, filled up to k. -/
def halfNumsOf (l : List V) (k : Nat) : List Value := ints .i64 ((l.map V.n).take k) ++ List.replicate (l.length - k) (.int .i64 0)
theorem halfNumsOf_set {l : List V} {k : Nat} (h : k < l.length) : (halfNumsOf l k).set k (.int .i64 (l.getD k V.zero).n) = halfNumsOf l (k + 1) := by
  have hl : (ints .i64 ((l.map V.n).take k)).length = k := by simp [ints]; omega
  unfold halfNumsOf
  rw [List.set_append_right _ _ (by omega), hl, Nat.sub_self, show l.length - k = (l.length - (k + 1)) + 1 by omega, List.replicate_succ, List.set_cons_zero, List.take_succ_eq_append_getElem (by simpa using h)]
  simp [ints, h]
theorem halfNumsOf_all (l : List V) : halfNumsOf l l.length = ints .i64 (l.map V.n) := by
  unfold halfNumsOf
  rw [List.take_of_length_le (by simp), Nat.sub_self, List.replicate_zero, List.append_nil]

/-- A list of zeros, filled up to k. -/
def halfTextsOf (l : List V) (k : Nat) : List Value := strs ((l.map V.s).take k) ++ List.replicate (l.length - k) (.string ⟨#[]⟩)
theorem halfTextsOf_set {l : List V} {k : Nat} (h : k < l.length) : (halfTextsOf l k).set k (.string (l.getD k V.zero).s) = halfTextsOf l (k + 1) := by
  have hl : (strs ((l.map V.s).take k)).length = k := by simp [strs]; omega
  unfold halfTextsOf
  rw [List.set_append_right _ _ (by omega), hl, Nat.sub_self, show l.length - k = (l.length - (k + 1)) + 1 by omega, List.replicate_succ, List.set_cons_zero, List.take_succ_eq_append_getElem (by simpa using h)]
  simp [strs, h]
theorem halfTextsOf_all (l : List V) : halfTextsOf l l.length = strs (l.map V.s) := by
  unfold halfTextsOf
  rw [List.take_of_length_le (by simp), Nat.sub_self, List.replicate_zero, List.append_nil]

end Go.Proofs.YthniakklkepomaaGreat

/- The contract of laws.sameVals: two slices of values that read alike. -/
namespace Go.Proofs.YthniakklkepomaaGreat
open Go.RowKit

theorem eqB_self (v : V) : v.eqB v = true := by simp [V.eqB]

set_option maxHeartbeats 1000000 in
theorem sameVals (a b : Value) (n : Nat) (l : List V) (w : World) (hz : l.length = n) (ha : Rd 3 w a n (vals l)) (hb : Rd 3 w b n (vals l)) :
    Calls Tryz.prog 20 #[a, b] w fun e w' => e = .returned (.bool true) ∧ Below w.heap.size w w' := by
  obtain ⟨a1, c1, rfl, hm, HC1⟩ := ha.vals hz
  obtain ⟨a2, c2, rfl, _, HC2⟩ := hb.vals hz
  unfold maxLen at hm
  have hne : ((n : Int) != (n : Int)) = false := by simp
  clear hz ha hb
  go_enter Tryz.func20, Tryz.ntmps20
  go_wp2
  go_loopw [5] (fun i wr => ∃ k : Nat, k ≤ n ∧ i = .int .i64 k ∧ Below w.heap.size w wr) (fun i _ => n - (intOf i).toNat)
  case atStart => exact ⟨0, Nat.zero_le _, rfl, Below.refl _ _⟩
  case round =>
    obtain ⟨k, hk, rfl, hbr⟩ := hrel
    by_cases hlt : k < n
    · obtain ⟨b1, o1, e1, p0, p1, p2⟩ := HC1.out k hlt
      obtain ⟨b2, o2, e2, q0, q1, q2⟩ := HC2.out k hlt
      subst e1 e2
      have hq := fun W => run_neq_val (l.getD k V.zero) (l.getD k V.zero) W
      rw [eqB_self] at hq
      generalize l.getD k V.zero = x at p0 p1 p2 q0 q1 q2 hq
      replace p0 := (hbr.cell (p := ⟨b1, o1 + k * 3, none⟩) (lt_of_cell p0)).trans p0
      replace p1 := (hbr.cell (p := ⟨b1, o1 + k * 3 + 1, none⟩) (lt_of_cell p1)).trans p1
      replace p2 := (hbr.cell (p := ⟨b1, o1 + k * 3 + 2, none⟩) (lt_of_cell p2)).trans p2
      replace q0 := (hbr.cell (p := ⟨b2, o2 + k * 3, none⟩) (lt_of_cell q0)).trans q0
      replace q1 := (hbr.cell (p := ⟨b2, o2 + k * 3 + 1, none⟩) (lt_of_cell q1)).trans q1
      replace q2 := (hbr.cell (p := ⟨b2, o2 + k * 3 + 2, none⟩) (lt_of_cell q2)).trans q2
      obtain ⟨t1, n1, s1⟩ := x
      simp only at p0 p1 p2 q0 q1 q2
      go_wp2
      go_quiet (fail)
      go_wp2
      go_roundw
      case rel => exact ⟨k + 1, by omega, by go_num, hbr.trans (below_drewN _ _ _)⟩
      case measure => simp [intOf]; omega
    · go_wp2
      go_ret
      exact ⟨rfl, hbr⟩

end Go.Proofs.YthniakklkepomaaGreat
