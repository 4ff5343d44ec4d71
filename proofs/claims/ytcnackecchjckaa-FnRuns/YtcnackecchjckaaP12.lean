/- Texts of this claim, one behind the other: VSpec, VOk, S5, Law5, IVal, IValOk, I5, SameV. -/
import Derived.Test.YtcnackecchjckaaP11
import Derived.Test.YtcnackecchjckaaP4
import Derived.Laws.StructEq
import Derived.ChangeKeysEq
import Derived.Test.YtcnackecchjckaaP5
import Derived.Deep.RegionHeld3

/- The contracts of the model's chapter 3 that do no text: LessVal, SameVals, NumsOf, TextsOf, ValOk. -/
namespace Go.Proofs.Ytcnackecchjckaa
open Go.RowKit

theorem Try.elemStrs : ElemT Try.prog 105 9 (.string ⟨#[]⟩) 1 16 := ⟨Try.underlying105, info_parts (by kernel_rfl), rfl, by decide⟩

/-- LessVal. -/
def lessV (a b : V) : Bool := if (a.ty != b.ty) = true then decide (a.ty < b.ty) else if (a.n != b.n) = true then decide (a.n < b.n) else Op.bytesLess a.s.toList b.s.toList
theorem list3 {α : Type} {l : List α} (h : l.length = 3) : ∃ a b c, l = [a, b, c] := by
  match l, h with
  | [a, b, c], _ => exact ⟨a, b, c, rfl⟩
/-- a == b. -/
def V.eqB (a b : V) : Bool := (a.ty == b.ty) && ((a.n == b.n) && (a.s.toList == b.s.toList))
theorem run_eq_val (a b : V) (w : World) : (Op.equalIn 10000 34 a.agg b.agg).run Try.prog w = .ok (a.eqB b) w := by
  obtain ⟨t1, n1, s1⟩ := a
  obtain ⟨t2, n2, s2⟩ := b
  rw [show V.agg ⟨t1, n1, s1⟩ = .agg #[.int .i64 t1, .int .i64 n1, .string s1] from rfl, show V.agg ⟨t2, n2, s2⟩ = .agg #[.int .i64 t2, .int .i64 n2, .string s2] from rfl]
  rw [run_equalIn_struct w 9999 34 _ _ (by kernel_rfl) (by kernel_rfl)]
  have hf : ((Try.prog.fieldsOf 34).toList.map fun f => (f.name, f.type, f.offset)) = [("Ty", 3, 0), ("N", 3, 1), ("S", 9, 2)] := by kernel_rfl
  generalize (Try.prog.fieldsOf 34).toList = fs at hf ⊢
  obtain ⟨f0, f1, f2, rfl⟩ := list3 (by simpa using congrArg List.length hf)
  simp only [List.map_cons, List.map_nil, List.cons.injEq, Prod.mk.injEq, and_true] at hf
  obtain ⟨⟨a0, a1, a2⟩, ⟨b0, b1, b2⟩, c0, c1, c2⟩ := hf
  have hp3 : Try.prog.plainKey 3 = true := by kernel_rfl
  have hp9 : Try.prog.plainKey 9 = true := by kernel_rfl
  have P0 := fun (W : World) (x y z : Value) => run_part_plain (P := Try.prog) W hp3 (xs := #[x, y, z]) (off := 0) (v := x) rfl
  have P1 := fun (W : World) (x y z : Value) => run_part_plain (P := Try.prog) W hp3 (xs := #[x, y, z]) (off := 1) (v := y) rfl
  have P2 := fun (W : World) (x y z : Value) => run_part_plain (P := Try.prog) W hp9 (xs := #[x, y, z]) (off := 2) (v := z) rfl
  have E0 := fun (W : World) (x y : Int) => run_equalIn_int (P := Try.prog) W 9998 3 .i64 .i64 x y Try.underlying3
  have E2 := fun (W : World) (x y : ByteArray) => run_equalIn_string (P := Try.prog) W 9998 9 x y Try.underlying9
  simp only [Nat.reduceAdd] at E0 E2
  simp only [Op.eqFields, a0, a1, a2, b0, b1, b2, c0, c1, c2, ne_eq, show ¬ "Ty" = "_" by decide, show ¬ "N" = "_" by decide, show ¬ "S" = "_" by decide, not_false_eq_true, if_true, Sem.run_bind, P0, P1, P2, E0, E2, Result.andThen_ok, Sem.run_ite, Sem.run_pure]
  unfold V.eqB
  simp only
  cases (t1 == t2) <;> cases (n1 == n2) <;> cases (s1.toList == s2.toList) <;> rfl
theorem run_neq_val (a b : V) (w : World) : (binOp .neq 34 a.agg b.agg).run Try.prog w = .ok (.bool (!(a.eqB b))) w := by
  rw [run_neq_struct, run_eq_val]
  rfl
theorem run_eql_val (a b : V) (w : World) : (binOp .eql 34 a.agg b.agg).run Try.prog w = .ok (.bool (a.eqB b)) w := by
  rw [run_eql_struct, run_eq_val]
  rfl

/-- SameVals. -/
def sameV : List V → List V → Bool
  | [], [] => true
  | a :: l, b :: r => a.eqB b && sameV l r
  | _, _ => false
theorem sameV_len {l r : List V} (h : l.length ≠ r.length) : sameV l r = false := by
  induction l generalizing r with
  | nil => cases r with
    | nil => simp at h
    | cons => rfl
  | cons a l ih => cases r with
    | nil => rfl
    | cons b r => rw [sameV, ih (by simpa using h), Bool.and_false]
theorem sameV_all {l r : List V} (hn : l.length = r.length) (h : ∀ k, k < l.length → (l.getD k V.zero).eqB (r.getD k V.zero) = true) : sameV l r = true := by
  induction l generalizing r with
  | nil => cases r with
    | nil => rfl
    | cons => simp at hn
  | cons a l ih => cases r with
    | nil => simp at hn
    | cons b r =>
      rw [sameV, ih (by simpa using hn) (fun k hk => by simpa using h (k + 1) (by simpa using hk)), Bool.and_true]
      simpa using h 0 (by simp)
theorem sameV_no {l r : List V} {k : Nat} (hk : k < l.length) (hn : l.length = r.length) (h : (l.getD k V.zero).eqB (r.getD k V.zero) = false) : sameV l r = false := by
  induction l generalizing r k with
  | nil => simp at hk
  | cons a l ih => cases r with
    | nil => simp at hn
    | cons b r =>
      cases k with
      | zero =>
        simp only [List.getD_cons_zero] at h
        rw [sameV, h, Bool.false_and]
      | succ k => rw [sameV, ih (k := k) (by simpa using hk) (by simpa using hn) (by simpa using h), Bool.and_false]

end Go.Proofs.Ytcnackecchjckaa

/- The contract of the model's ValOk. -/
namespace Go.Proofs.Ytcnackecchjckaa
open Go.RowKit

/-- A character that a string may hold. -/
def chrB (c : UInt8) : Bool := Num.inB c.toNat 97 122 || Num.inB c.toNat 48 57
/-- A string that a value may hold. -/
def txtB (s : ByteArray) : Bool := decide (s.size ≤ 6) && s.data.toList.all chrB
/-- ValOk. -/
def okV (v : V) : Bool := if v.ty = 1 then Num.okB v.n && (v.s.size == 0) else v.ty == 2 && (v.n == 0 && txtB v.s)

theorem size_of_toList {s : ByteArray} (e : s.toList = []) : s.size = 0 := by
  rw [ByteArray.toList_eq] at e
  have := congrArg List.length e
  rw [Array.length_toList] at this
  exact this
theorem txtB_bad {s : ByteArray} {k : Nat} (h : k < s.size) (hc : chrB s[k] = false) : txtB s = false := by
  unfold txtB
  rw [Bool.and_eq_false_iff]
  right
  rw [List.all_eq_false]
  refine ⟨s[k], ?_, by rw [hc]; simp⟩
  rw [show s[k] = s.data.toList[k]'(by simpa using h) by rfl]
  exact List.getElem_mem _
theorem txtB_all {s : ByteArray} (h : s.size ≤ 6) (hc : ∀ k (hk : k < s.size), chrB s[k] = true) : txtB s = true := by
  unfold txtB
  rw [Bool.and_eq_true, List.all_eq_true]
  refine ⟨decide_eq_true h, fun c hm => ?_⟩
  obtain ⟨i, hi, rfl⟩ := List.getElem_of_mem hm
  exact hc i (by simpa using hi)

set_option maxHeartbeats 1000000 in
theorem sValOk (v : V) (w : World) (hs : v.s.size ≤ maxLen) : Calls Try.prog 78 #[v.agg] w fun e w' => e = .returned (.bool (okV v)) ∧ Below w.heap.size w w' := by
  obtain ⟨t, n, s⟩ := v
  simp only at hs
  unfold maxLen at hs
  by_cases ht : t = 1
  · subst ht
    have HE : Hid (okV ⟨1, n, s⟩ = (Num.okB n && (s.size == 0))) := if_pos rfl
    cases hok : Num.okB n with
    | false =>
      rw [hok, Bool.false_and] at HE
      have HR := Lib.hid (fun W => l1Right n W)
      rw [hok] at HR
      clear hok
      go_enter Try.func78, Try.ntmps78
      go_wp2_with (go_at_call 79; refine (HR.out _).mono ?_; rintro e w' ⟨rfl, rfl⟩)
      go_ret
      exact ⟨ret_bool HE.out.symm, below_alloc _ _⟩
    | true =>
      rw [hok, Bool.true_and] at HE
      have HR := Lib.hid (fun W => l1Right n W)
      rw [hok] at HR
      clear hok
      by_cases h0 : s.size = 0
      · obtain rfl : s = ⟨#[]⟩ := by
          apply ByteArray.ext
          exact Array.eq_empty_of_size_eq_zero h0
        go_enter Try.func78, Try.ntmps78
        go_wp2_with (go_at_call 79; refine (HR.out _).mono ?_; rintro e w' ⟨rfl, rfl⟩)
        go_ret
        exact ⟨ret_bool HE.out.symm, below_alloc _ _⟩
      · have hb : (s.size == 0) = false := by simpa using h0
        rw [hb] at HE
        have hl : ¬ s.toList = [] := fun e => h0 (size_of_toList e)
        have hl2 : (s.toList == []) = false := by simpa using hl
        go_enter Try.func78, Try.ntmps78
        go_wp2_with (go_at_call 79; refine (HR.out _).mono ?_; rintro e w' ⟨rfl, rfl⟩)
        go_ret
        exact ⟨ret_bool (by rw [HE.out]; try rfl), below_alloc _ _⟩
  · have HE : Hid (okV ⟨t, n, s⟩ = (t == 2 && (n == 0 && txtB s))) := if_neg ht
    have ht1 : (t == 1) = false := by simpa using ht
    clear ht
    go_enter Try.func78, Try.ntmps78
    go_wp2
    go_loop [3] (fun i => ∃ k : Nat, k ≤ s.size ∧ k ≤ 7 ∧ i = .int .i64 k ∧ ∀ j (hj : j < s.size), j < k → chrB s[j] = true) (fun i => 8 - (intOf i).toNat)
    case atStart => exact ⟨0, Nat.zero_le _, by omega, rfl, fun j _ hj => by omega⟩
    case round =>
      obtain ⟨k, hk, hk7, rfl, hok⟩ := hrel
      have HOK := Lib.hid hok
      clear hok
      by_cases hlt : k < s.size
      · by_cases h6 : k ≤ 6
        · have HS : Hid (chrB s[k] = true → ∀ j (hj : j < s.size), j < k + 1 → chrB s[j] = true) := fun h j hj hjk => by
            by_cases e : j = k
            · subst e; exact h
            · exact HOK.out j hj (by omega)
          have HN : Hid (chrB s[k] = false → okV ⟨t, n, s⟩ = false) := fun h => by rw [HE.out, txtB_bad hlt h, Bool.and_false, Bool.and_false]
          have hcw : wrap64 (s[k].toNat : Int) = (s[k].toNat : Int) := by
            have := s[k].toNat_lt
            unfold wrap64
            omega
          cases h1 : Num.inB s[k].toNat 97 122 with
          | true =>
            have HS2 := Lib.hid (HS.out (by unfold chrB; rw [h1]; rfl))
            clear HS HN
            go_wp2_with (go_at_call 62; refine (l1In _ _ _ _).mono ?_; rintro e w' ⟨rfl, rfl⟩)
            go_round
            case rel => exact ⟨k + 1, by omega, by omega, by go_num, HS2.out⟩
            case measure => simp [intOf]; omega
          | false =>
            cases h2 : Num.inB s[k].toNat 48 57 with
            | true =>
              have HS2 := Lib.hid (HS.out (by unfold chrB; rw [h2, Bool.or_true]))
              clear HS HN
              go_wp2_with (go_at_call 62; refine (l1In _ _ _ _).mono ?_; rintro e w' ⟨rfl, rfl⟩)
              go_round
              case rel => exact ⟨k + 1, by omega, by omega, by go_num, HS2.out⟩
              case measure => simp [intOf]; omega
            | false =>
              have HN2 := Lib.hid (HN.out (by unfold chrB; rw [h1, h2]; rfl))
              clear HS HN
              go_wp2_with (go_at_call 62; refine (l1In _ _ _ _).mono ?_; rintro e w' ⟨rfl, rfl⟩)
              go_ret
              exact ⟨ret_bool HN2.out.symm, below_alloc _ _⟩
        · have HN : Hid (okV ⟨t, n, s⟩ = false) := by
            show okV _ = false
            rw [HE.out]
            unfold txtB
            rw [decide_eq_false (by omega)]
            simp
          by_cases ht : t = 2
          · subst ht
            by_cases hn : n = 0
            · subst hn
              go_wp2
              go_ret
              exact ⟨ret_bool (by rw [HN.out]; simp; omega), below_alloc _ _⟩
            · have hnb : (n == 0) = false := by simpa using hn
              go_wp2
              go_ret
              exact ⟨ret_bool HN.out.symm, below_alloc _ _⟩
          · have htb : (t == 2) = false := by simpa using ht
            go_wp2
            go_ret
            exact ⟨ret_bool HN.out.symm, below_alloc _ _⟩
      · obtain rfl : k = s.size := by omega
        by_cases ht : t = 2
        · subst ht
          by_cases hn : n = 0
          · subst hn
            have HN : Hid (okV ⟨2, 0, s⟩ = decide (s.size ≤ 6)) := by
              show okV _ = decide (s.size ≤ 6)
              rw [HE.out]
              by_cases h6 : s.size ≤ 6
              · rw [txtB_all h6 (fun j hj => HOK.out j hj hj), decide_eq_true h6]
                rfl
              · unfold txtB
                rw [decide_eq_false h6]
                rfl
            go_wp2
            go_ret
            exact ⟨ret_bool (by rw [HN.out]; exact decide_eq_decide.2 (by omega)), below_alloc _ _⟩
          · have hnb : (n == 0) = false := by simpa using hn
            rw [hnb] at HE
            go_wp2
            go_ret
            exact ⟨ret_bool HE.out.symm, below_alloc _ _⟩
        · have htb : (t == 2) = false := by simpa using ht
          rw [htb] at HE
          go_wp2
          go_ret
          exact ⟨ret_bool HE.out.symm, below_alloc _ _⟩

end Go.Proofs.Ytcnackecchjckaa

/- The model's Least, Most and TypeOf, and the walks of their laws; the program's own contracts come as hypotheses. -/
namespace Go.Proofs.Ytcnackecchjckaa
open Go.RowKit

theorem sMost (a b : Int) (w : World) : Calls Try.prog 53 #[.int .i64 a, .int .i64 b] w fun e w' => e = .returned (.int .i64 (if a < b then b else a)) ∧ w = w' := by
  by_cases h : a < b
  · rw [if_pos h]
    go_enter Try.func53, Try.ntmps53
    go_wp2
    go_ret
    exact ⟨rfl, rfl⟩
  · rw [if_neg h]
    go_enter Try.func53, Try.ntmps53
    go_wp2
    go_ret
    exact ⟨rfl, rfl⟩
/-- A value of the type z. -/
def ofB (z : Int) (v : V) : Bool := okV v && v.ty == z
/-- TypeOf. -/
def typeV (l : List V) : Int := if Num.inB l.length 1 64 = true ∧ l.all (ofB (l.getD 0 V.zero).ty) = true then (l.getD 0 V.zero).ty else 0
theorem typeV_no {l : List V} {k : Nat} (hk : k < l.length) (h : ofB (l.getD 0 V.zero).ty (l.getD k V.zero) = false) : typeV l = 0 := by
  unfold typeV
  rw [if_neg]
  rintro ⟨_, h2⟩
  have e : l.getD k V.zero = l[k] := by simp [hk]
  rw [e] at h
  have := List.all_eq_true.1 h2 _ (List.getElem_mem hk)
  rw [h] at this
  cases this
theorem typeV_all {l : List V} (h0 : Num.inB l.length 1 64 = true) (h : ∀ k, k < l.length → ofB (l.getD 0 V.zero).ty (l.getD k V.zero) = true) : typeV l = (l.getD 0 V.zero).ty := by
  have ha : l.all (ofB (l.getD 0 V.zero).ty) = true := by
    rw [List.all_eq_true]
    intro v hv
    obtain ⟨k, hk, rfl⟩ := List.getElem_of_mem hv
    have := h k hk
    simpa [hk] using this
  unfold typeV
  rw [if_pos ⟨h0, ha⟩]

set_option maxHeartbeats 1000000 in
theorem sTypeOf (v : Value) (l : List V) (w : World) (hss : ∀ v ∈ l, v.s.size ≤ maxLen) (h : Rd 3 w v l.length (vals l)) :
    Calls Try.prog 50 #[v] w fun e w' => e = .returned (.int .i64 (typeV l)) ∧ Below w.heap.size w w' := by
  have HTA := Lib.hid (typeV_all (l := l))
  have HIN : Hid (Num.inB l.length 1 64 = false → typeV l = 0) := fun h => by
    unfold typeV
    rw [if_neg]
    rintro ⟨h1, _⟩
    rw [h] at h1
    cases h1
  generalize hl : l.length = n at h HTA HIN
  obtain ⟨a2, c2, rfl, hm, HC⟩ := h.vals hl
  unfold maxLen at hm
  have HL := Lib.hid hl
  have HSS : Hid (∀ k, k < n → (l.getD k V.zero).s.size ≤ maxLen) := by
    intro k hk
    have hk' : k < l.length := by omega
    have e : l.getD k V.zero = l[k] := by simp [hk']
    rw [e]
    exact hss _ (List.getElem_mem hk')
  have HI := Lib.hid (fun W => l1In n 1 64 W)
  clear h hss hl
  cases hin : Num.inB n 1 64 with
  | false =>
    have HE := Lib.hid (HIN.out hin)
    rw [hin] at HI
    clear hin
    go_enter Try.func50, Try.ntmps50
    go_wp2_with (go_at_call 62; refine (HI.out _).mono ?_; rintro e w' ⟨rfl, rfl⟩)
    go_ret
    exact ⟨ret_int HE.out.symm, Below.refl _ _⟩
  | true =>
    obtain ⟨hn0, hn1⟩ := Num.inB_true.1 hin
    have hpos : 0 < n := by omega
    rw [hin] at HI HTA
    obtain ⟨b2, o2, rfl, z0, _, _⟩ := HC.out 0 hpos
    generalize hzz : (l.getD 0 V.zero).ty = z at z0 HTA
    simp only [Nat.zero_mul, Nat.add_zero] at z0
    have HZ := Lib.hid hzz
    have HTB := Lib.hid (HTA.out rfl)
    clear hzz hin hn0 hn1 HTA
    go_enter Try.func50, Try.ntmps50
    go_wp2_with (go_at_call 62; refine (HI.out _).mono ?_; rintro e w' ⟨rfl, rfl⟩)
    go_loopw [3] (fun i wr => ∃ k : Nat, k ≤ n ∧ i = .int .i64 k ∧ (∀ j, j < k → ofB z (l.getD j V.zero) = true) ∧ Below w.heap.size w wr) (fun i _ => n - (intOf i).toNat)
    case atStart => exact ⟨0, Nat.zero_le _, rfl, fun j hj => by omega, Below.refl _ _⟩
    case round =>
      obtain ⟨k, hk, rfl, hok, hbr⟩ := hrel
      have HOK := Lib.hid hok
      clear hok
      have p0 := (hbr.cell (p := ⟨b2, o2, none⟩) (lt_of_cell z0)).trans z0
      by_cases hlt : k < n
      · obtain ⟨b', o', hbo, q0, q1, q2⟩ := HC.out k hlt
        simp only [Option.some.injEq, Addr.mk.injEq, and_true] at hbo
        obtain ⟨rfl, rfl⟩ := hbo
        have HS : Hid (ofB z (l.getD k V.zero) = true → ∀ j, j < k + 1 → ofB z (l.getD j V.zero) = true) := fun h j hj => by
          by_cases e : j = k
          · subst e; exact h
          · exact HOK.out j (by omega)
        have HN : Hid (ofB z (l.getD k V.zero) = false → typeV l = 0) := fun h => typeV_no (by rw [HL.out]; exact hlt) (by rw [HZ.out]; exact h)
        have HO := Lib.hid (fun W => sValOk (l.getD k V.zero) W (HSS.out k hlt))
        generalize l.getD k V.zero = x at q0 q1 q2 HS HN HO
        have HF : Hid (ofB z x = (okV x && x.ty == z)) := rfl
        obtain ⟨t2, n2, s2⟩ := x
        simp only at q0 q1 q2
        replace q0 := (hbr.cell (p := ⟨b2, o2 + k * 3, none⟩) (lt_of_cell q0)).trans q0
        replace q1 := (hbr.cell (p := ⟨b2, o2 + k * 3 + 1, none⟩) (lt_of_cell q1)).trans q1
        replace q2 := (hbr.cell (p := ⟨b2, o2 + k * 3 + 2, none⟩) (lt_of_cell q2)).trans q2
        have HKV : Hid (∀ W, Below wr.heap.size wr W → W.cell? ⟨b2, o2 + k * 3, none⟩ = some (.int .i64 t2) ∧ W.cell? ⟨b2, o2 + k * 3 + 1, none⟩ = some (.int .i64 n2) ∧ W.cell? ⟨b2, o2 + k * 3 + 2, none⟩ = some (.string s2)) := fun W h =>
          ⟨(h.cell (p := ⟨b2, o2 + k * 3, none⟩) (lt_of_cell q0)).trans q0, (h.cell (p := ⟨b2, o2 + k * 3 + 1, none⟩) (lt_of_cell q1)).trans q1, (h.cell (p := ⟨b2, o2 + k * 3 + 2, none⟩) (lt_of_cell q2)).trans q2⟩
        have HK : Hid (∀ W, Below wr.heap.size wr W → W.cell? ⟨b2, o2 + k * 3, none⟩ = some (.int .i64 t2) ∧ W.cell? ⟨b2, o2 + k * 3 + 1, none⟩ = some (.int .i64 n2) ∧ W.cell? ⟨b2, o2 + k * 3 + 2, none⟩ = some (.string s2) ∧ W.cell? ⟨b2, o2, none⟩ = some (.int .i64 z)) := fun W h =>
          ⟨(HKV.out W h).1, (HKV.out W h).2.1, (HKV.out W h).2.2, (h.cell (p := ⟨b2, o2, none⟩) (lt_of_cell p0)).trans p0⟩
        have hB' := (Below.refl wr.heap.size wr).drew
        clear p0 q0 q1 q2
        cases hv : okV ⟨t2, n2, s2⟩ with
        | false =>
          have HN2 : Hid (typeV l = 0) := HN.out (by rw [HF.out, hv, Bool.false_and])
          rw [hv] at HO
          clear hv HS HN HF z0
          go_wp2
          refine wp_region_held_drew (S := fun W => W.cell? ⟨b2, o2 + k * 3, none⟩ = some (.int .i64 t2) ∧ W.cell? ⟨b2, o2 + k * 3 + 1, none⟩ = some (.int .i64 n2) ∧ W.cell? ⟨b2, o2 + k * 3 + 2, none⟩ = some (.string s2)) (by kernel_rfl) (HKV.out _ hB') (fun hHeld => ?_)
          refine takeH (i := 0) (d := some 14) (v := .slice (some ⟨b2, o2, none⟩) n c2) rfl rfl (by kernel_rfl) (by kernel_rfl) (by kernel_rfl) (fun _ _ _ h => h) (Or.inl ⟨by rfl, fun W hSw => by obtain ⟨d0, d1, d2⟩ := hSw; go_simp⟩) hHeld ?_
          simp only [put_some, List.set_cons_zero, List.set_cons_succ]
          refine takeH (i := 1) (d := some 15) (v := .int .i64 k) rfl rfl (by kernel_rfl) (by kernel_rfl) (by kernel_rfl) (fun _ _ _ h => h) (Or.inl ⟨by rfl, fun W hSw => by obtain ⟨d0, d1, d2⟩ := hSw; go_simp⟩) hHeld ?_
          simp only [put_some, List.set_cons_zero, List.set_cons_succ]
          refine takeH (i := 2) (d := some 16) (v := .pointer (some ⟨b2, o2 + k * 3, none⟩)) rfl rfl (by kernel_rfl) (by kernel_rfl) (by kernel_rfl) (fun _ _ _ h => h) (Or.inl ⟨by rfl, fun W hSw => by obtain ⟨d0, d1, d2⟩ := hSw; go_simp⟩) hHeld ?_
          simp only [put_some, List.set_cons_zero, List.set_cons_succ]
          refine takeH (i := 3) (d := some 17) (v := .agg #[.int .i64 t2, .int .i64 n2, .string s2]) rfl rfl (by kernel_rfl) (by kernel_rfl) (by kernel_rfl) (fun _ _ _ h => h) (Or.inl ⟨by rfl, fun W hSw => by obtain ⟨d0, d1, d2⟩ := hSw; go_simp⟩) hHeld ?_
          simp only [put_some, List.set_cons_zero, List.set_cons_succ]
          refine wpAnyH_ready (rs := [4]) (by kernel_rfl) (by simp) ?_
          refine AllReadyH.cons rfl (fun K hK => ?_) AllReadyH.nil
          go_simp
          go_at_call 78
          refine (HO.out _).mono ?_
          rintro e w2 ⟨rfl, hb2⟩
          replace hB' := below_then hB' hb2 hB'.size
          go_wp2_with fail
          refine hK.out _ _ (HKV.out _ hB') (fun hHeld => ?_)
          clear hK K
          refine takeH (i := 5) (d := some 19) (v := .bool true) rfl rfl (by kernel_rfl) (by kernel_rfl) (by kernel_rfl) (fun _ _ _ h => h) (Or.inl ⟨by rfl, fun W hSw => by obtain ⟨d0, d1, d2⟩ := hSw; go_simp⟩) hHeld ?_
          simp only [put_some, List.set_cons_zero, List.set_cons_succ]
          refine takeH (i := 6) (d := some 20) (v := .bool true) rfl rfl (by kernel_rfl) (by kernel_rfl) (by kernel_rfl) (fun _ _ _ h => h) (Or.inl ⟨by rfl, fun W hSw => by obtain ⟨d0, d1, d2⟩ := hSw; go_simp⟩) hHeld ?_
          simp only [put_some, List.set_cons_zero, List.set_cons_succ]
          refine takeH (i := 7) (d := some 21) (v := undef) rfl rfl (by kernel_rfl) (by kernel_rfl) (by kernel_rfl) (fun _ _ _ h => h) (Or.inr ⟨by rfl, rfl⟩) hHeld ?_
          simp only [put_some, List.set_cons_zero, List.set_cons_succ]
          refine takeH (i := 8) (d := some 22) (v := undef) rfl rfl (by kernel_rfl) (by kernel_rfl) (by kernel_rfl) (fun _ _ _ h => h) (Or.inr ⟨by rfl, rfl⟩) hHeld ?_
          simp only [put_some, List.set_cons_zero, List.set_cons_succ]
          refine takeH (i := 9) (d := some 23) (v := undef) rfl rfl (by kernel_rfl) (by kernel_rfl) (by kernel_rfl) (fun _ _ _ h => h) (Or.inr ⟨by rfl, rfl⟩) hHeld ?_
          simp only [put_some, List.set_cons_zero, List.set_cons_succ]
          refine takeH (i := 10) (d := some 24) (v := undef) rfl rfl (by kernel_rfl) (by kernel_rfl) (by kernel_rfl) (fun _ _ _ h => h) (Or.inr ⟨by rfl, rfl⟩) hHeld ?_
          simp only [put_some, List.set_cons_zero, List.set_cons_succ]
          refine takeH (i := 11) (d := some 25) (v := undef) rfl rfl (by kernel_rfl) (by kernel_rfl) (by kernel_rfl) (fun _ _ _ h => h) (Or.inr ⟨by rfl, rfl⟩) hHeld ?_
          simp only [put_some, List.set_cons_zero, List.set_cons_succ]
          refine takeH (i := 12) (d := some 26) (v := undef) rfl rfl (by kernel_rfl) (by kernel_rfl) (by kernel_rfl) (fun _ _ _ h => h) (Or.inr ⟨by rfl, rfl⟩) hHeld ?_
          simp only [put_some, List.set_cons_zero, List.set_cons_succ]
          refine takeH (i := 13) (d := some 27) (v := undef) rfl rfl (by kernel_rfl) (by kernel_rfl) (by kernel_rfl) (fun _ _ _ h => h) (Or.inr ⟨by rfl, rfl⟩) hHeld ?_
          simp only [put_some, List.set_cons_zero, List.set_cons_succ]
          refine takeH (i := 14) (d := some 28) (v := undef) rfl rfl (by kernel_rfl) (by kernel_rfl) (by kernel_rfl) (fun _ _ _ h => h) (Or.inr ⟨by rfl, rfl⟩) hHeld ?_
          simp only [put_some, List.set_cons_zero, List.set_cons_succ]
          refine takeH (i := 15) (d := some 29) (v := undef) rfl rfl (by kernel_rfl) (by kernel_rfl) (by kernel_rfl) (fun _ _ _ h => h) (Or.inr ⟨by rfl, rfl⟩) hHeld ?_
          simp only [put_some, List.set_cons_zero, List.set_cons_succ]
          refine takeH (i := 16) (d := some 30) (v := undef) rfl rfl (by kernel_rfl) (by kernel_rfl) (by kernel_rfl) (fun _ _ _ h => h) (Or.inr ⟨by rfl, rfl⟩) hHeld ?_
          simp only [put_some, List.set_cons_zero, List.set_cons_succ]
          refine takeH (i := 17) (d := some 31) (v := .bool true) rfl rfl (by kernel_rfl) (by kernel_rfl) (by kernel_rfl) (fun _ _ _ h => h) (Or.inl ⟨by rfl, fun W hSw => by obtain ⟨d0, d1, d2⟩ := hSw; go_simp⟩) hHeld ?_
          simp only [put_some, List.set_cons_zero, List.set_cons_succ]
          refine wpAnyH_done (by kernel_rfl) ?_ _
          go_wp2
          go_ret
          exact ⟨ret_int HN2.out.symm, below_then hbr hB' hbr.size⟩
        | true =>
          rw [hv] at HO
          rw [hv, Bool.true_and] at HF
          simp only at HF
          cases ht : (t2 == z) with
          | true =>
            have HS2 := Lib.hid (HS.out (by rw [HF.out, ht]))
            have hzz : (t2 != z) = false := by simpa using ht
            clear hv HS HN HF ht
            go_wp2
            go_region_held3 (fun W => W.cell? ⟨b2, o2 + k * 3, none⟩ = some (.int .i64 t2) ∧ W.cell? ⟨b2, o2 + k * 3 + 1, none⟩ = some (.int .i64 n2) ∧ W.cell? ⟨b2, o2 + k * 3 + 2, none⟩ = some (.string s2) ∧ W.cell? ⟨b2, o2, none⟩ = some (.int .i64 z)) (exact HK.out _ hB') ((go_at_call 78; (with_reducible refine (HO.out _).mono ?_); rintro e w2 ⟨rfl, hb2⟩; replace hB' := below_then hB' hb2 hB'.size))
            go_wp2
            go_roundw
            case rel => exact ⟨k + 1, by omega, by go_num, HS2.out, below_then hbr hB' hbr.size⟩
            case measure => simp [intOf]; omega
          | false =>
            have HN2 := Lib.hid (HN.out (by rw [HF.out, ht]))
            have hzz : (t2 != z) = true := by simpa using ht
            clear hv HS HN HF ht
            go_wp2
            go_region_held3 (fun W => W.cell? ⟨b2, o2 + k * 3, none⟩ = some (.int .i64 t2) ∧ W.cell? ⟨b2, o2 + k * 3 + 1, none⟩ = some (.int .i64 n2) ∧ W.cell? ⟨b2, o2 + k * 3 + 2, none⟩ = some (.string s2) ∧ W.cell? ⟨b2, o2, none⟩ = some (.int .i64 z)) (exact HK.out _ hB') ((go_at_call 78; (with_reducible refine (HO.out _).mono ?_); rintro e w2 ⟨rfl, hb2⟩; replace hB' := below_then hB' hb2 hB'.size))
            go_wp2
            go_ret
            exact ⟨ret_int HN2.out.symm, below_then hbr hB' hbr.size⟩
      · obtain rfl : k = n := by omega
        have HA : Hid (typeV l = z) := by
          exact HTB.out (fun j hj => HOK.out j hj)
        clear z0
        go_wp2
        go_ret
        exact ⟨ret_int HA.out.symm, hbr⟩

end Go.Proofs.Ytcnackecchjckaa

/- The exact law of TypeOf, walked; the program's own contract comes as a hypothesis. -/
namespace Go.Proofs.Ytcnackecchjckaa
open Go.RowKit

def CTypeOf : Prop := ∀ (v : Value) (l : List V) (w : World), l.length ≤ 1048576 → (∀ v ∈ l, v.s.size ≤ maxLen) → Rd 3 w v l.length (vals l) → Calls Try.prog 23 #[v] w fun e w' => e = .returned (.int .i64 (typeV l)) ∧ Below w.heap.size w w'

end Go.Proofs.Ytcnackecchjckaa

/- The contracts of impl's intVal, textVal, textByte, textOk, ValOk. -/
namespace Go.Proofs.Ytcnackecchjckaa
open Go.RowKit

theorem iIntVal (n : Int) (w : World) : Calls Try.prog 81 #[.int .i64 n] w fun e w' => e = .returned (V.agg ⟨1, n, ⟨#[]⟩⟩) ∧ Below w.heap.size w w' := by
  go_enter Try.func81, Try.ntmps81
  go_wp2
  exact bodyPost_ret (v := .agg #[.int .i64 1, .int .i64 n, .string ⟨#[]⟩]) (by simp [results, Try.results81, go_sem]) rfl ⟨rfl, below_alloc _ _⟩
theorem iTextVal (s : ByteArray) (w : World) : Calls Try.prog 83 #[.string s] w fun e w' => e = .returned (V.agg ⟨2, 0, s⟩) ∧ Below w.heap.size w w' := by
  go_enter Try.func83, Try.ntmps83
  go_wp2
  exact bodyPost_ret (v := .agg #[.int .i64 2, .int .i64 0, .string s]) (by simp [results, Try.results83, go_sem]) rfl ⟨rfl, below_alloc _ _⟩

theorem iTextByte (c : Nat) (w : World) : Calls Try.prog 95 #[.int .u8 c] w fun e w' => e = .returned (.bool (Num.inB c 97 122 || Num.inB c 48 57)) ∧ w = w' := by
  by_cases h1 : 97 ≤ c
  · by_cases h2 : c ≤ 122
    · go_enter Try.func95, Try.ntmps95
      go_wp2
      go_ret
      exact ⟨ret_bool (by unfold Num.inB; rw [Bool.eq_iff_iff]; simp; omega), rfl⟩
    · go_enter Try.func95, Try.ntmps95
      go_wp2
      go_ret
      exact ⟨ret_bool (by unfold Num.inB; rw [Bool.eq_iff_iff]; simp; omega), rfl⟩
  · by_cases h3 : 48 ≤ c
    · go_enter Try.func95, Try.ntmps95
      go_wp2
      go_ret
      exact ⟨ret_bool (by unfold Num.inB; rw [Bool.eq_iff_iff]; simp; omega), rfl⟩
    · go_enter Try.func95, Try.ntmps95
      go_wp2
      go_ret
      exact ⟨ret_bool (by unfold Num.inB; rw [Bool.eq_iff_iff]; simp; omega), rfl⟩

theorem iTextOk (s : ByteArray) (w : World) (hs : s.size ≤ maxLen) : Calls Try.prog 84 #[.string s] w fun e w' => e = .returned (.bool (txtB s)) ∧ w = w' := by
  unfold maxLen at hs
  by_cases h6 : s.size ≤ 6
  · go_enter Try.func84, Try.ntmps84
    go_wp2
    go_loop [9] (fun i => ∃ k : Nat, k ≤ s.size ∧ i = .int .i64 k ∧ ∀ j (hj : j < s.size), j < k → chrB s[j] = true) (fun i => s.size - (intOf i).toNat)
    case atStart => exact ⟨0, Nat.zero_le _, rfl, fun j _ hj => by omega⟩
    case round =>
      obtain ⟨k, hk, rfl, hok⟩ := hrel
      have HOK := Lib.hid hok
      clear hok
      by_cases hlt : k < s.size
      · have HS : Hid (chrB s[k] = true → ∀ j (hj : j < s.size), j < k + 1 → chrB s[j] = true) := fun h j hj hjk => by
          by_cases e : j = k
          · subst e; exact h
          · exact HOK.out j hj (by omega)
        have HN : Hid (chrB s[k] = false → txtB s = false) := txtB_bad hlt
        have HT := Lib.hid (fun W => iTextByte s[k].toNat W)
        have HD : Hid ((Num.inB s[k].toNat 97 122 || Num.inB s[k].toNat 48 57) = chrB s[k]) := rfl
        rw [HD.out] at HT
        cases hc : chrB s[k] with
        | true =>
          have HS2 := Lib.hid (HS.out hc)
          rw [hc] at HT
          clear hc HS HN HD
          go_wp2_with (go_at_call 95; refine (HT.out _).mono ?_; rintro e w' ⟨rfl, rfl⟩)
          go_round
          case rel => exact ⟨k + 1, by omega, by go_num, HS2.out⟩
          case measure => simp [intOf]; omega
        | false =>
          have HN2 := Lib.hid (HN.out hc)
          rw [hc] at HT
          clear hc HS HN HD
          go_wp2_with (go_at_call 95; refine (HT.out _).mono ?_; rintro e w' ⟨rfl, rfl⟩)
          go_ret
          exact ⟨ret_bool HN2.out.symm, rfl⟩
      · obtain rfl : k = s.size := by omega
        have HA : Hid (txtB s = true) := txtB_all h6 (fun j hj => HOK.out j hj hj)
        go_wp2
        go_ret
        exact ⟨ret_bool HA.out.symm, rfl⟩
  · have HA : Hid (txtB s = false) := by
      show txtB s = false
      unfold txtB
      rw [decide_eq_false h6]
      rfl
    go_enter Try.func84, Try.ntmps84
    go_wp2
    go_ret
    exact ⟨ret_bool HA.out.symm, rfl⟩

end Go.Proofs.Ytcnackecchjckaa

/- The contract of impl's ValOk. -/
namespace Go.Proofs.Ytcnackecchjckaa
open Go.RowKit

theorem boxedV {w : World} {t n : Int} {s : ByteArray} {e : TypeId} {W : World} (hb : Below (w.alloc (.cells #[.int .i64 t, .int .i64 n, .string s] e)).heap.size (w.alloc (.cells #[.int .i64 t, .int .i64 n, .string s] e)) W) :
    W.cell? ⟨w.heap.size, 0, none⟩ = some (.int .i64 t) ∧ W.cell? ⟨w.heap.size, 1, none⟩ = some (.int .i64 n) ∧ W.cell? ⟨w.heap.size, 2, none⟩ = some (.string s) := by
  refine ⟨(hb.cell (p := ⟨w.heap.size, 0, none⟩) (by simp)).trans ?_, (hb.cell (p := ⟨w.heap.size, 1, none⟩) (by simp)).trans ?_, (hb.cell (p := ⟨w.heap.size, 2, none⟩) (by simp)).trans ?_⟩ <;> simp

set_option maxHeartbeats 1000000 in
theorem iValOk (v : V) (w : World) (hs : v.s.size ≤ maxLen) : Calls Try.prog 55 #[v.agg] w fun e w' => e = .returned (.bool (okV v)) ∧ Below w.heap.size w w' := by
  obtain ⟨t, n, s⟩ := v
  simp only at hs
  have B0 := below_alloc w (.cells #[.int .i64 t, .int .i64 n, .string s] 34)
  have HC := Lib.hid (fun (W : World) => boxedV (w := w) (t := t) (n := n) (s := s) (e := 34) (W := W))
  generalize hw0 : (w.alloc (.cells #[.int .i64 t, .int .i64 n, .string s] 34)) = w0 at B0 HC
  have hB := Below.refl w0.heap.size w0
  have hB' := hB.drew
  have HW := Lib.hid hw0
  clear hw0
  by_cases ht : t = 1
  · subst ht
    have HE : Hid (okV ⟨1, n, s⟩ = (Num.okB n && (s.size == 0))) := if_pos rfl
    have HA := Lib.hid (fun W => iIntVal n W)
    have HO := Lib.hid (fun W => numOk n W)
    have HQ := Lib.hid (fun W => run_eql_val ⟨1, n, s⟩ ⟨1, n, ⟨#[]⟩⟩ W)
    by_cases h0 : s.size = 0
    · have e : V.eqB ⟨1, n, s⟩ ⟨1, n, ⟨#[]⟩⟩ = true := by
        obtain rfl : s = ⟨#[]⟩ := by
          apply ByteArray.ext
          exact Array.eq_empty_of_size_eq_zero h0
        simp [V.eqB]
      rw [e] at HQ
      rw [show (s.size == 0) = true by simpa using h0, Bool.and_true] at HE
      have hq := HQ.out
      clear e h0 HQ
      generalize Num.okB n = r at HE HO
      go_enter Try.func55, Try.ntmps55
      go_wp2_with fail
      rw [HW.out]
      go_region_held3 (fun W => W.cell? ⟨w.heap.size, 0, none⟩ = some (.int .i64 1) ∧ W.cell? ⟨w.heap.size, 1, none⟩ = some (.int .i64 n) ∧ W.cell? ⟨w.heap.size, 2, none⟩ = some (.string s)) (first | exact HC.out _ hB' | exact HC.out _ hB) (first | (go_at_call 81; (with_reducible refine (HA.out _).mono ?_); rintro e w3 ⟨rfl, hb⟩; replace hB' := below_then hB' hb hB'.size) | (go_at_call 82; (with_reducible refine (HO.out _).mono ?_); rintro e w4 ⟨rfl, rfl⟩))
      all_goals
        go_wp2
        go_ret
        exact ⟨ret_bool HE.out.symm, B0.trans (hB'.mono B0.size)⟩
    · have e : V.eqB ⟨1, n, s⟩ ⟨1, n, ⟨#[]⟩⟩ = false := by
        have : ¬ s.toList = [] := fun e => h0 (size_of_toList e)
        have h1 : (s.toList == []) = false := by simpa using this
        have h2 : (⟨#[]⟩ : ByteArray).toList = [] := by rw [ByteArray.toList_eq]
        simp [V.eqB, h2, this]
      rw [e] at HQ
      rw [show (s.size == 0) = false by simpa using h0, Bool.and_false] at HE
      have hq := HQ.out
      clear e h0 HQ
      go_enter Try.func55, Try.ntmps55
      go_wp2_with fail
      rw [HW.out]
      refine wp_region_held_drew (S := (fun W => W.cell? ⟨w.heap.size, 0, none⟩ = some (.int .i64 1) ∧ W.cell? ⟨w.heap.size, 1, none⟩ = some (.int .i64 n) ∧ W.cell? ⟨w.heap.size, 2, none⟩ = some (.string s))) (by kernel_rfl) (HC.out _ hB') (fun hHeld => ?_)
      refine takeH (i := 0) (d := some 7) (v := .agg #[.int .i64 1, .int .i64 n, .string s]) rfl rfl (by kernel_rfl) (by kernel_rfl) (by kernel_rfl) (fun _ _ _ h => h) (Or.inl ⟨by rfl, fun W hSw => by obtain ⟨c0, c1, c2⟩ := hSw; go_simp⟩) hHeld ?_
      simp only [put_some, List.set_cons_zero, List.set_cons_succ]
      refine takeH (i := 1) (d := some 8) (v := .pointer (some ⟨w.heap.size, 1, none⟩)) rfl rfl (by kernel_rfl) (by kernel_rfl) (by kernel_rfl) (fun _ _ _ h => h) (Or.inl ⟨by rfl, fun W hSw => by obtain ⟨c0, c1, c2⟩ := hSw; go_simp⟩) hHeld ?_
      simp only [put_some, List.set_cons_zero, List.set_cons_succ]
      refine takeH (i := 2) (d := some 9) (v := .int .i64 n) rfl rfl (by kernel_rfl) (by kernel_rfl) (by kernel_rfl) (fun _ _ _ h => h) (Or.inl ⟨by rfl, fun W hSw => by obtain ⟨c0, c1, c2⟩ := hSw; go_simp⟩) hHeld ?_
      simp only [put_some, List.set_cons_zero, List.set_cons_succ]
      refine wpAnyH_ready (rs := [3]) (by kernel_rfl) (by simp) ?_
      refine AllReadyH.cons rfl (fun K hK => ?_) AllReadyH.nil
      go_simp
      go_at_call 81
      refine (HA.out _).mono ?_
      rintro e w3 ⟨rfl, hb⟩
      replace hB' := below_then hB' hb hB'.size
      go_wp2_with fail
      refine hK.out _ _ (HC.out _ hB') (fun hHeld => ?_)
      clear hK K
      refine takeH (i := 4) (d := some 11) (v := .bool false) rfl rfl (by kernel_rfl) (by kernel_rfl) (by kernel_rfl) (fun _ _ _ h => h) (Or.inl ⟨by rfl, fun W hSw => by obtain ⟨c0, c1, c2⟩ := hSw; go_simp⟩) hHeld ?_
      simp only [put_some, List.set_cons_zero, List.set_cons_succ]
      refine takeH (i := 5) (d := some 12) (v := .bool false) rfl rfl (by kernel_rfl) (by kernel_rfl) (by kernel_rfl) (fun _ _ _ h => h) (Or.inl ⟨by rfl, fun W hSw => by obtain ⟨c0, c1, c2⟩ := hSw; go_simp⟩) hHeld ?_
      simp only [put_some, List.set_cons_zero, List.set_cons_succ]
      refine takeH (i := 6) (d := some 13) (v := undef) rfl rfl (by kernel_rfl) (by kernel_rfl) (by kernel_rfl) (fun _ _ _ h => h) (Or.inr ⟨by rfl, rfl⟩) hHeld ?_
      simp only [put_some, List.set_cons_zero, List.set_cons_succ]
      refine takeH (i := 7) (d := some 14) (v := undef) rfl rfl (by kernel_rfl) (by kernel_rfl) (by kernel_rfl) (fun _ _ _ h => h) (Or.inr ⟨by rfl, rfl⟩) hHeld ?_
      simp only [put_some, List.set_cons_zero, List.set_cons_succ]
      refine takeH (i := 8) (d := some 15) (v := undef) rfl rfl (by kernel_rfl) (by kernel_rfl) (by kernel_rfl) (fun _ _ _ h => h) (Or.inr ⟨by rfl, rfl⟩) hHeld ?_
      simp only [put_some, List.set_cons_zero, List.set_cons_succ]
      refine takeH (i := 9) (d := some 16) (v := .bool false) rfl rfl (by kernel_rfl) (by kernel_rfl) (by kernel_rfl) (fun _ _ _ h => h) (Or.inl ⟨by rfl, fun W hSw => by obtain ⟨c0, c1, c2⟩ := hSw; go_simp⟩) hHeld ?_
      simp only [put_some, List.set_cons_zero, List.set_cons_succ]
      refine takeH (i := 10) (d := some 2) (v := .bool false) rfl rfl (by kernel_rfl) (by kernel_rfl) (by kernel_rfl) (fun _ _ _ h => h) (Or.inl ⟨by rfl, fun W hSw => by obtain ⟨c0, c1, c2⟩ := hSw; go_simp⟩) hHeld ?_
      simp only [put_some, List.set_cons_zero, List.set_cons_succ]
      refine wpAnyH_done (by kernel_rfl) ?_ _
      go_wp2
      go_ret
      exact ⟨ret_bool HE.out.symm, B0.trans (hB'.mono B0.size)⟩
  · have HE : Hid (okV ⟨t, n, s⟩ = (t == 2 && (n == 0 && txtB s))) := if_neg ht
    have ht1 : (t == 1) = false := by simpa using ht
    by_cases ht2 : t = 2
    · subst ht2
      have HA := Lib.hid (fun W => iTextVal s W)
      have HO := Lib.hid (fun W => iTextOk s W hs)
      have HQ := Lib.hid (fun W => run_eql_val ⟨2, n, s⟩ ⟨2, 0, s⟩ W)
      have e : V.eqB ⟨2, n, s⟩ ⟨2, 0, s⟩ = (n == 0) := by simp [V.eqB]
      rw [e] at HQ
      rw [show ((2 : Int) == 2) = true from rfl, Bool.true_and] at HE
      by_cases h0 : n = 0
      · rw [show (n == 0) = true by simpa using h0] at HE HQ
        rw [Bool.true_and] at HE
        have hq := HQ.out
        clear e h0 HQ ht
        generalize txtB s = r at HE HO
        go_enter Try.func55, Try.ntmps55
        go_wp2_with fail
        rw [HW.out]
        go_region_held3 (fun W => W.cell? ⟨w.heap.size, 0, none⟩ = some (.int .i64 2) ∧ W.cell? ⟨w.heap.size, 1, none⟩ = some (.int .i64 n) ∧ W.cell? ⟨w.heap.size, 2, none⟩ = some (.string s)) (first | exact HC.out _ hB' | exact HC.out _ hB) (first | (go_at_call 83; (with_reducible refine (HA.out _).mono ?_); rintro e w3 ⟨rfl, hb⟩; replace hB' := below_then hB' hb hB'.size) | (go_at_call 84; (with_reducible refine (HO.out _).mono ?_); rintro e w4 ⟨rfl, rfl⟩))
        all_goals
          go_wp2
          go_ret
          exact ⟨ret_bool HE.out.symm, B0.trans (hB'.mono B0.size)⟩
      · rw [show (n == 0) = false by simpa using h0] at HE HQ
        rw [Bool.false_and] at HE
        have hq := HQ.out
        clear e h0 HQ ht
        go_enter Try.func55, Try.ntmps55
        go_wp2_with fail
        rw [HW.out]
        refine wp_region_held_drew (S := (fun W => W.cell? ⟨w.heap.size, 0, none⟩ = some (.int .i64 2) ∧ W.cell? ⟨w.heap.size, 1, none⟩ = some (.int .i64 n) ∧ W.cell? ⟨w.heap.size, 2, none⟩ = some (.string s))) (by kernel_rfl) (HC.out _ hB') (fun hHeld => ?_)
        refine takeH (i := 0) (d := some 19) (v := .agg #[.int .i64 2, .int .i64 n, .string s]) rfl rfl (by kernel_rfl) (by kernel_rfl) (by kernel_rfl) (fun _ _ _ h => h) (Or.inl ⟨by rfl, fun W hSw => by obtain ⟨c0, c1, c2⟩ := hSw; go_simp⟩) hHeld ?_
        simp only [put_some, List.set_cons_zero, List.set_cons_succ]
        refine takeH (i := 1) (d := some 20) (v := .pointer (some ⟨w.heap.size, 2, none⟩)) rfl rfl (by kernel_rfl) (by kernel_rfl) (by kernel_rfl) (fun _ _ _ h => h) (Or.inl ⟨by rfl, fun W hSw => by obtain ⟨c0, c1, c2⟩ := hSw; go_simp⟩) hHeld ?_
        simp only [put_some, List.set_cons_zero, List.set_cons_succ]
        refine takeH (i := 2) (d := some 21) (v := .string s) rfl rfl (by kernel_rfl) (by kernel_rfl) (by kernel_rfl) (fun _ _ _ h => h) (Or.inl ⟨by rfl, fun W hSw => by obtain ⟨c0, c1, c2⟩ := hSw; go_simp⟩) hHeld ?_
        simp only [put_some, List.set_cons_zero, List.set_cons_succ]
        refine wpAnyH_ready (rs := [3]) (by kernel_rfl) (by simp) ?_
        refine AllReadyH.cons rfl (fun K hK => ?_) AllReadyH.nil
        go_simp
        go_at_call 83
        refine (HA.out _).mono ?_
        rintro e w3 ⟨rfl, hb⟩
        replace hB' := below_then hB' hb hB'.size
        go_wp2_with fail
        refine hK.out _ _ (HC.out _ hB') (fun hHeld => ?_)
        clear hK K
        refine takeH (i := 4) (d := some 23) (v := .bool false) rfl rfl (by kernel_rfl) (by kernel_rfl) (by kernel_rfl) (fun _ _ _ h => h) (Or.inl ⟨by rfl, fun W hSw => by obtain ⟨c0, c1, c2⟩ := hSw; go_simp⟩) hHeld ?_
        simp only [put_some, List.set_cons_zero, List.set_cons_succ]
        refine takeH (i := 5) (d := some 24) (v := .bool false) rfl rfl (by kernel_rfl) (by kernel_rfl) (by kernel_rfl) (fun _ _ _ h => h) (Or.inl ⟨by rfl, fun W hSw => by obtain ⟨c0, c1, c2⟩ := hSw; go_simp⟩) hHeld ?_
        simp only [put_some, List.set_cons_zero, List.set_cons_succ]
        refine takeH (i := 6) (d := some 25) (v := undef) rfl rfl (by kernel_rfl) (by kernel_rfl) (by kernel_rfl) (fun _ _ _ h => h) (Or.inr ⟨by rfl, rfl⟩) hHeld ?_
        simp only [put_some, List.set_cons_zero, List.set_cons_succ]
        refine takeH (i := 7) (d := some 26) (v := undef) rfl rfl (by kernel_rfl) (by kernel_rfl) (by kernel_rfl) (fun _ _ _ h => h) (Or.inr ⟨by rfl, rfl⟩) hHeld ?_
        simp only [put_some, List.set_cons_zero, List.set_cons_succ]
        refine takeH (i := 8) (d := some 27) (v := undef) rfl rfl (by kernel_rfl) (by kernel_rfl) (by kernel_rfl) (fun _ _ _ h => h) (Or.inr ⟨by rfl, rfl⟩) hHeld ?_
        simp only [put_some, List.set_cons_zero, List.set_cons_succ]
        refine takeH (i := 9) (d := some 28) (v := .bool false) rfl rfl (by kernel_rfl) (by kernel_rfl) (by kernel_rfl) (fun _ _ _ h => h) (Or.inl ⟨by rfl, fun W hSw => by obtain ⟨c0, c1, c2⟩ := hSw; go_simp⟩) hHeld ?_
        simp only [put_some, List.set_cons_zero, List.set_cons_succ]
        refine takeH (i := 10) (d := some 2) (v := .bool false) rfl rfl (by kernel_rfl) (by kernel_rfl) (by kernel_rfl) (fun _ _ _ h => h) (Or.inl ⟨by rfl, fun W hSw => by obtain ⟨c0, c1, c2⟩ := hSw; go_simp⟩) hHeld ?_
        simp only [put_some, List.set_cons_zero, List.set_cons_succ]
        refine wpAnyH_done (by kernel_rfl) ?_ _
        go_wp2
        go_ret
        exact ⟨ret_bool HE.out.symm, B0.trans (hB'.mono B0.size)⟩
    · have ht2b : (t == 2) = false := by simpa using ht2
      rw [ht2b, Bool.false_and] at HE
      clear ht ht2 hB hB' HC
      go_enter Try.func55, Try.ntmps55
      go_wp2
      go_ret
      rw [HW.out]
      exact ⟨ret_bool HE.out.symm, B0⟩

end Go.Proofs.Ytcnackecchjckaa

/- The contracts of impl's Least, Most, TypeOf. -/
namespace Go.Proofs.Ytcnackecchjckaa
open Go.RowKit

set_option maxHeartbeats 1000000 in
theorem iTypeOf : CTypeOf := by
  intro v l w hln hss h
  have HTA := Lib.hid (typeV_all (l := l))
  have HIN : Hid (Num.inB l.length 1 64 = false → typeV l = 0) := fun h => by
    unfold typeV
    rw [if_neg]
    rintro ⟨h1, _⟩
    rw [h] at h1
    cases h1
  generalize hl : l.length = n at h HTA HIN hln
  obtain ⟨a2, c2, rfl, hm, HC⟩ := h.vals hl
  unfold maxLen at hm
  have HL := Lib.hid hl
  have HSS : Hid (∀ k, k < n → (l.getD k V.zero).s.size ≤ maxLen) := by
    intro k hk
    have hk' : k < l.length := by omega
    have e : l.getD k V.zero = l[k] := by simp [hk']
    rw [e]
    exact hss _ (List.getElem_mem hk')
  clear h hss hl
  cases hin : Num.inB n 1 64 with
  | false =>
    have HE := Lib.hid (HIN.out hin)
    by_cases h1 : n < 1
    · obtain rfl : n = 0 := by omega
      clear hin
      go_enter Try.func23, Try.ntmps23
      go_wp2
      go_ret
      exact ⟨ret_int HE.out.symm, Below.refl _ _⟩
    · have h2 : 64 < n := by
        by_cases h2 : 64 < n
        · exact h2
        · exfalso
          rw [Num.inB_true.2 ⟨by omega, by omega⟩] at hin
          cases hin
      clear hin
      go_enter Try.func23, Try.ntmps23
      go_wp2
      go_ret
      exact ⟨ret_int HE.out.symm, Below.refl _ _⟩
  | true =>
    obtain ⟨hn0, hn1⟩ := Num.inB_true.1 hin
    have hpos : 0 < n := by omega
    rw [hin] at HTA
    obtain ⟨b2, o2, rfl, z0, _, _⟩ := HC.out 0 hpos
    generalize hzz : (l.getD 0 V.zero).ty = z at z0 HTA
    simp only [Nat.zero_mul, Nat.add_zero] at z0
    have HZ := Lib.hid hzz
    have HTB := Lib.hid (HTA.out rfl)
    clear hzz hin HTA
    go_enter Try.func23, Try.ntmps23
    go_wp2
    go_loopw [20] (fun i wr => ∃ k : Nat, k ≤ n ∧ i = .int .i64 k ∧ (∀ j, j < k → ofB z (l.getD j V.zero) = true) ∧ Below w.heap.size w wr) (fun i _ => n - (intOf i).toNat)
    case atStart => exact ⟨0, Nat.zero_le _, rfl, fun j hj => by omega, Below.refl _ _⟩
    case round =>
      obtain ⟨k, hk, rfl, hok, hbr⟩ := hrel
      have HOK := Lib.hid hok
      clear hok
      by_cases hlt : k < n
      · obtain ⟨b', o', hbo, q0, q1, q2⟩ := HC.out k hlt
        simp only [Option.some.injEq, Addr.mk.injEq, and_true] at hbo
        obtain ⟨rfl, rfl⟩ := hbo
        have HS : Hid (ofB z (l.getD k V.zero) = true → ∀ j, j < k + 1 → ofB z (l.getD j V.zero) = true) := fun h j hj => by
          by_cases e : j = k
          · subst e; exact h
          · exact HOK.out j (by omega)
        have HN : Hid (ofB z (l.getD k V.zero) = false → typeV l = 0) := fun h => typeV_no (by rw [HL.out]; exact hlt) (by rw [HZ.out]; exact h)
        have HO := Lib.hid (fun W => iValOk (l.getD k V.zero) W (HSS.out k hlt))
        generalize l.getD k V.zero = x at q0 q1 q2 HS HN HO
        have HF : Hid (ofB z x = (okV x && x.ty == z)) := rfl
        obtain ⟨t2, n2, s2⟩ := x
        simp only at q0 q1 q2
        replace q0 := (hbr.cell (p := ⟨b2, o2 + k * 3, none⟩) (lt_of_cell q0)).trans q0
        replace q1 := (hbr.cell (p := ⟨b2, o2 + k * 3 + 1, none⟩) (lt_of_cell q1)).trans q1
        replace q2 := (hbr.cell (p := ⟨b2, o2 + k * 3 + 2, none⟩) (lt_of_cell q2)).trans q2
        have ba := below_alloc wr (.cells #[.int .i64 t2, .int .i64 n2, .string s2] 34)
        have bt := below_then hbr ba hbr.size
        by_cases htz : t2 = z
        · subst htz
          have hne : (t2 != t2) = false := by simp
          cases hv : okV ⟨t2, n2, s2⟩ with
          | false =>
            have HN2 : Hid (typeV l = 0) := HN.out (by rw [HF.out, hv, Bool.false_and])
            rw [hv] at HO
            clear hv HS HN HF z0 ba
            go_wp2_with (go_at_call 55; refine (HO.out _).mono ?_; rintro e w2 ⟨rfl, hb2⟩; replace bt := below_then bt hb2 bt.size)
            go_ret
            exact ⟨ret_int HN2.out.symm, bt⟩
          | true =>
            have HS2 := Lib.hid (HS.out (by rw [HF.out, hv]; simp))
            rw [hv] at HO
            clear hv HS HN HF z0 ba
            go_wp2_with (go_at_call 55; refine (HO.out _).mono ?_; rintro e w2 ⟨rfl, hb2⟩; replace bt := below_then bt hb2 bt.size)
            go_roundw
            case rel => exact ⟨k + 1, by omega, by go_num, HS2.out, bt⟩
            case measure => simp [intOf]; omega
        · have hne : (t2 != z) = true := by simpa using htz
          have HN2 : Hid (typeV l = 0) := HN.out (by rw [HF.out]; simp [htz])
          clear HS HN HF z0 ba htz
          go_wp2
          go_ret
          exact ⟨ret_int HN2.out.symm, bt⟩
      · obtain rfl : k = n := by omega
        have HTC := Lib.hid (HTB.out HOK.out)
        go_wp2
        go_ret
        exact ⟨ret_int (by rw [HTC.out]), hbr⟩

end Go.Proofs.Ytcnackecchjckaa

/- The contract of laws.sameVals: two slices of values that read alike. -/
namespace Go.Proofs.Ytcnackecchjckaa
open Go.RowKit

theorem eqB_self (v : V) : v.eqB v = true := by simp [V.eqB]

set_option maxHeartbeats 1000000 in
theorem sameVals (a b : Value) (n : Nat) (l : List V) (w : World) (hz : l.length = n) (ha : Rd 3 w a n (vals l)) (hb : Rd 3 w b n (vals l)) :
    Calls Try.prog 21 #[a, b] w fun e w' => e = .returned (.bool true) ∧ Below w.heap.size w w' := by
  obtain ⟨a1, c1, rfl, hm, HC1⟩ := ha.vals hz
  obtain ⟨a2, c2, rfl, _, HC2⟩ := hb.vals hz
  unfold maxLen at hm
  have hne : ((n : Int) != (n : Int)) = false := by simp
  clear hz ha hb
  go_enter Try.func21, Try.ntmps21
  go_wp2
  go_loopw [5] (fun i wr => ∃ k : Nat, k ≤ n ∧ i = .int .i64 k ∧ Below w.heap.size w wr) (fun i _ => n - (intOf i).toNat)
  case atStart => exact ⟨0, Nat.zero_le _, rfl, Below.refl _ _⟩
  case round =>
    obtain ⟨k, hk, rfl, hbr⟩ := hrel
    by_cases hlt : k < n
    · obtain ⟨b1, o1, e1, p0, p1, p2⟩ := HC1.out k hlt
      obtain ⟨b2, o2, e2, q0, q1, q2⟩ := HC2.out k hlt
      subst e1 e2
      have hq := fun W => run_neq_val (l.getD k V.zero) (l.getD k V.zero) W
      rw [eqB_self] at hq
      generalize l.getD k V.zero = x at p0 p1 p2 q0 q1 q2 hq
      replace p0 := (hbr.cell (p := ⟨b1, o1 + k * 3, none⟩) (lt_of_cell p0)).trans p0
      replace p1 := (hbr.cell (p := ⟨b1, o1 + k * 3 + 1, none⟩) (lt_of_cell p1)).trans p1
      replace p2 := (hbr.cell (p := ⟨b1, o1 + k * 3 + 2, none⟩) (lt_of_cell p2)).trans p2
      replace q0 := (hbr.cell (p := ⟨b2, o2 + k * 3, none⟩) (lt_of_cell q0)).trans q0
      replace q1 := (hbr.cell (p := ⟨b2, o2 + k * 3 + 1, none⟩) (lt_of_cell q1)).trans q1
      replace q2 := (hbr.cell (p := ⟨b2, o2 + k * 3 + 2, none⟩) (lt_of_cell q2)).trans q2
      obtain ⟨t1, n1, s1⟩ := x
      simp only at p0 p1 p2 q0 q1 q2
      go_wp2
      go_quiet (fail)
      go_wp2
      go_roundw
      case rel => exact ⟨k + 1, by omega, by go_num, hbr.trans (below_drewN _ _ _)⟩
      case measure => simp [intOf]; omega
    · go_wp2
      go_ret
      exact ⟨rfl, hbr⟩

end Go.Proofs.Ytcnackecchjckaa
