/- Texts of this claim, one behind the other: VSpec, VOk, S5, EqV, M7, Z10, M10, S10z, S10, IVals, I10, I10m. -/
import Derived.Test.YtcokmjdehclhkaaP10
import Derived.Test.YtcokmjdehclhkaaP4
import Derived.Laws.StructEq
import Derived.ChangeKeysEq
import Derived.Test.YtcokmjdehclhkaaP5
import Derived.Deep.RegionHeld3
import Derived.BigQuiet

/- The contracts of the model's chapter 3 that do no text: LessVal, SameVals, NumsOf, TextsOf, ValOk. -/
namespace Go.Proofs.Ytcokmjdehclhkaa
open Go.RowKit

theorem Try.elemStrs : ElemT Try.prog 72 9 (.string ⟨#[]⟩) 1 16 := ⟨Try.underlying72, info_parts (by kernel_rfl), rfl, by decide⟩

/-- LessVal. -/
def lessV (a b : V) : Bool := if (a.ty != b.ty) = true then decide (a.ty < b.ty) else if (a.n != b.n) = true then decide (a.n < b.n) else Op.bytesLess a.s.toList b.s.toList
theorem sLessVal (a b : V) (w : World) : Calls Try.prog 41 #[a.agg, b.agg] w fun e w' => e = .returned (.bool (lessV a b)) ∧ Below w.heap.size w w' := by
  obtain ⟨t1, n1, s1⟩ := a
  obtain ⟨t2, n2, s2⟩ := b
  have HE := Lib.hid (show lessV ⟨t1, n1, s1⟩ ⟨t2, n2, s2⟩ = if (t1 != t2) = true then decide (t1 < t2) else if (n1 != n2) = true then decide (n1 < n2) else Op.bytesLess s1.toList s2.toList from rfl)
  cases h1 : (t1 != t2) with
  | true =>
    rw [if_pos h1] at HE
    go_enter Try.func41, Try.ntmps41
    go_wp2
    go_ret
    exact ⟨ret_bool HE.out.symm, below_alloc2 _ _ _⟩
  | false =>
    rw [if_neg (by rw [h1]; simp)] at HE
    cases h2 : (n1 != n2) with
    | true =>
      rw [if_pos h2] at HE
      go_enter Try.func41, Try.ntmps41
      go_wp2
      go_ret
      exact ⟨ret_bool HE.out.symm, below_alloc2 _ _ _⟩
    | false =>
      rw [if_neg (by rw [h2]; simp)] at HE
      go_enter Try.func41, Try.ntmps41
      go_wp2
      go_ret
      exact ⟨ret_bool HE.out.symm, below_alloc2 _ _ _⟩

theorem list3 {α : Type} {l : List α} (h : l.length = 3) : ∃ a b c, l = [a, b, c] := by
  match l, h with
  | [a, b, c], _ => exact ⟨a, b, c, rfl⟩
/-- a == b. -/
def V.eqB (a b : V) : Bool := (a.ty == b.ty) && ((a.n == b.n) && (a.s.toList == b.s.toList))
theorem run_eq_val (a b : V) (w : World) : (Op.equalIn 10000 27 a.agg b.agg).run Try.prog w = .ok (a.eqB b) w := by
  obtain ⟨t1, n1, s1⟩ := a
  obtain ⟨t2, n2, s2⟩ := b
  rw [show V.agg ⟨t1, n1, s1⟩ = .agg #[.int .i64 t1, .int .i64 n1, .string s1] from rfl, show V.agg ⟨t2, n2, s2⟩ = .agg #[.int .i64 t2, .int .i64 n2, .string s2] from rfl]
  rw [run_equalIn_struct w 9999 27 _ _ (by kernel_rfl) (by kernel_rfl)]
  have hf : ((Try.prog.fieldsOf 27).toList.map fun f => (f.name, f.type, f.offset)) = [("Ty", 3, 0), ("N", 3, 1), ("S", 9, 2)] := by kernel_rfl
  generalize (Try.prog.fieldsOf 27).toList = fs at hf ⊢
  obtain ⟨f0, f1, f2, rfl⟩ := list3 (by simpa using congrArg List.length hf)
  simp only [List.map_cons, List.map_nil, List.cons.injEq, Prod.mk.injEq, and_true] at hf
  obtain ⟨⟨a0, a1, a2⟩, ⟨b0, b1, b2⟩, c0, c1, c2⟩ := hf
  have hp3 : Try.prog.plainKey 3 = true := by kernel_rfl
  have hp9 : Try.prog.plainKey 9 = true := by kernel_rfl
  have P0 := fun (W : World) (x y z : Value) => run_part_plain (P := Try.prog) W hp3 (xs := #[x, y, z]) (off := 0) (v := x) rfl
  have P1 := fun (W : World) (x y z : Value) => run_part_plain (P := Try.prog) W hp3 (xs := #[x, y, z]) (off := 1) (v := y) rfl
  have P2 := fun (W : World) (x y z : Value) => run_part_plain (P := Try.prog) W hp9 (xs := #[x, y, z]) (off := 2) (v := z) rfl
  have E0 := fun (W : World) (x y : Int) => run_equalIn_int (P := Try.prog) W 9998 3 .i64 .i64 x y Try.underlying3
  have E2 := fun (W : World) (x y : ByteArray) => run_equalIn_string (P := Try.prog) W 9998 9 x y Try.underlying9
  simp only [Nat.reduceAdd] at E0 E2
  simp only [Op.eqFields, a0, a1, a2, b0, b1, b2, c0, c1, c2, ne_eq, show ¬ "Ty" = "_" by decide, show ¬ "N" = "_" by decide, show ¬ "S" = "_" by decide, not_false_eq_true, if_true, Sem.run_bind, P0, P1, P2, E0, E2, Result.andThen_ok, Sem.run_ite, Sem.run_pure]
  unfold V.eqB
  simp only
  cases (t1 == t2) <;> cases (n1 == n2) <;> cases (s1.toList == s2.toList) <;> rfl
theorem run_neq_val (a b : V) (w : World) : (binOp .neq 27 a.agg b.agg).run Try.prog w = .ok (.bool (!(a.eqB b))) w := by
  rw [run_neq_struct, run_eq_val]
  rfl
theorem run_eql_val (a b : V) (w : World) : (binOp .eql 27 a.agg b.agg).run Try.prog w = .ok (.bool (a.eqB b)) w := by
  rw [run_eql_struct, run_eq_val]
  rfl

/-- SameVals. -/
def sameV : List V → List V → Bool
  | [], [] => true
  | a :: l, b :: r => a.eqB b && sameV l r
  | _, _ => false
theorem sameV_len {l r : List V} (h : l.length ≠ r.length) : sameV l r = false := by
  induction l generalizing r with
  | nil => cases r with
    | nil => simp at h
    | cons => rfl
  | cons a l ih => cases r with
    | nil => rfl
    | cons b r => rw [sameV, ih (by simpa using h), Bool.and_false]
theorem sameV_all {l r : List V} (hn : l.length = r.length) (h : ∀ k, k < l.length → (l.getD k V.zero).eqB (r.getD k V.zero) = true) : sameV l r = true := by
  induction l generalizing r with
  | nil => cases r with
    | nil => rfl
    | cons => simp at hn
  | cons a l ih => cases r with
    | nil => simp at hn
    | cons b r =>
      rw [sameV, ih (by simpa using hn) (fun k hk => by simpa using h (k + 1) (by simpa using hk)), Bool.and_true]
      simpa using h 0 (by simp)
theorem sameV_no {l r : List V} {k : Nat} (hk : k < l.length) (hn : l.length = r.length) (h : (l.getD k V.zero).eqB (r.getD k V.zero) = false) : sameV l r = false := by
  induction l generalizing r k with
  | nil => simp at hk
  | cons a l ih => cases r with
    | nil => simp at hn
    | cons b r =>
      cases k with
      | zero =>
        simp only [List.getD_cons_zero] at h
        rw [sameV, h, Bool.false_and]
      | succ k => rw [sameV, ih (k := k) (by simpa using hk) (by simpa using hn) (by simpa using h), Bool.and_false]

end Go.Proofs.Ytcokmjdehclhkaa

/- The contract of the model's ValOk. -/
namespace Go.Proofs.Ytcokmjdehclhkaa
open Go.RowKit

/-- A character that a string may hold. -/
def chrB (c : UInt8) : Bool := Num.inB c.toNat 97 122 || Num.inB c.toNat 48 57
/-- A string that a value may hold. -/
def txtB (s : ByteArray) : Bool := decide (s.size ≤ 6) && s.data.toList.all chrB
/-- ValOk. -/
def okV (v : V) : Bool := if v.ty = 1 then Num.okB v.n && (v.s.size == 0) else v.ty == 2 && (v.n == 0 && txtB v.s)

theorem size_of_toList {s : ByteArray} (e : s.toList = []) : s.size = 0 := by
  rw [ByteArray.toList_eq] at e
  have := congrArg List.length e
  rw [Array.length_toList] at this
  exact this
theorem txtB_bad {s : ByteArray} {k : Nat} (h : k < s.size) (hc : chrB s[k] = false) : txtB s = false := by
  unfold txtB
  rw [Bool.and_eq_false_iff]
  right
  rw [List.all_eq_false]
  refine ⟨s[k], ?_, by rw [hc]; simp⟩
  rw [show s[k] = s.data.toList[k]'(by simpa using h) by rfl]
  exact List.getElem_mem _
theorem txtB_all {s : ByteArray} (h : s.size ≤ 6) (hc : ∀ k (hk : k < s.size), chrB s[k] = true) : txtB s = true := by
  unfold txtB
  rw [Bool.and_eq_true, List.all_eq_true]
  refine ⟨decide_eq_true h, fun c hm => ?_⟩
  obtain ⟨i, hi, rfl⟩ := List.getElem_of_mem hm
  exact hc i (by simpa using hi)

end Go.Proofs.Ytcokmjdehclhkaa

/- The model's Least, Most and TypeOf, and the walks of their laws; the program's own contracts come as hypotheses. -/
namespace Go.Proofs.Ytcokmjdehclhkaa
open Go.RowKit

/-- A value of the type z. -/
def ofB (z : Int) (v : V) : Bool := okV v && v.ty == z
/-- TypeOf. -/
def typeV (l : List V) : Int := if Num.inB l.length 1 64 = true ∧ l.all (ofB (l.getD 0 V.zero).ty) = true then (l.getD 0 V.zero).ty else 0
theorem typeV_no {l : List V} {k : Nat} (hk : k < l.length) (h : ofB (l.getD 0 V.zero).ty (l.getD k V.zero) = false) : typeV l = 0 := by
  unfold typeV
  rw [if_neg]
  rintro ⟨_, h2⟩
  have e : l.getD k V.zero = l[k] := by simp [hk]
  rw [e] at h
  have := List.all_eq_true.1 h2 _ (List.getElem_mem hk)
  rw [h] at this
  cases this
theorem typeV_all {l : List V} (h0 : Num.inB l.length 1 64 = true) (h : ∀ k, k < l.length → ofB (l.getD 0 V.zero).ty (l.getD k V.zero) = true) : typeV l = (l.getD 0 V.zero).ty := by
  have ha : l.all (ofB (l.getD 0 V.zero).ty) = true := by
    rw [List.all_eq_true]
    intro v hv
    obtain ⟨k, hk, rfl⟩ := List.getElem_of_mem hv
    have := h k hk
    simpa [hk] using this
  unfold typeV
  rw [if_pos ⟨h0, ha⟩]

end Go.Proofs.Ytcokmjdehclhkaa

/- Two Vals are equal where the machine says so. -/
namespace Go.Proofs.Ytcokmjdehclhkaa
open Go.RowKit

theorem eqB_true {x y : V} : x.eqB y = true ↔ x = y := by
  obtain ⟨t1, n1, s1⟩ := x
  obtain ⟨t2, n2, s2⟩ := y
  simp only [V.eqB, Bool.and_eq_true, beq_iff_eq, V.mk.injEq]
  constructor
  · rintro ⟨h1, h2, h3⟩
    refine ⟨h1, h2, ?_⟩
    rw [ByteArray.toList_eq, ByteArray.toList_eq] at h3
    apply ByteArray.ext
    exact Array.toList_inj.1 h3
  · rintro ⟨rfl, rfl, rfl⟩
    exact ⟨rfl, rfl, rfl⟩
theorem eqB_false {x y : V} : x.eqB y = false ↔ x ≠ y := by
  constructor
  · intro h e
    rw [eqB_true.2 e] at h
    cases h
  · intro h
    cases hb : x.eqB y with
    | false => rfl
    | true => exact absurd (eqB_true.1 hb) h

end Go.Proofs.Ytcokmjdehclhkaa

/- Plain mathematics of chapter 7: the order of Vals, the dictionary of a list, the places of values. -/
namespace Go.Proofs.Ytcokmjdehclhkaa
open Go.RowKit

theorem getDe {α : Type} (l : List α) (d : α) {i : Nat} (h : i < l.length) : l.getD i d = l[i] := by simp [h]
theorem bl_irrefl : ∀ x : List UInt8, Op.bytesLess x x = false
  | [] => rfl
  | a :: x => by simp [Op.bytesLess, bl_irrefl x]
theorem bl_trans : ∀ x y z : List UInt8, Op.bytesLess x y = true → Op.bytesLess y z = true → Op.bytesLess x z = true
  | _, _, [], _, h => by simp [Op.bytesLess] at h
  | [], _, _ :: _, _, _ => rfl
  | _ :: _, [], _ :: _, h, _ => by simp [Op.bytesLess] at h
  | a :: x, b :: y, c :: z, h, k => by
    simp only [Op.bytesLess, Bool.or_eq_true, decide_eq_true_eq, Bool.and_eq_true, beq_iff_eq] at h k ⊢
    rcases h with h | ⟨rfl, h⟩
    · rcases k with k | ⟨rfl, k⟩
      · exact .inl (UInt8.lt_trans h k)
      · exact .inl h
    · rcases k with k | ⟨rfl, k⟩
      · exact .inl k
      · exact .inr ⟨rfl, bl_trans x y z h k⟩
theorem bl_tri : ∀ x y : List UInt8, Op.bytesLess x y = false → Op.bytesLess y x = false → x = y
  | [], [], _, _ => rfl
  | [], _ :: _, h, _ => by simp [Op.bytesLess] at h
  | _ :: _, [], _, h => by simp [Op.bytesLess] at h
  | a :: x, b :: y, h, k => by
    simp only [Op.bytesLess, Bool.or_eq_false_iff, decide_eq_false_iff_not, Bool.and_eq_false_iff, beq_eq_false_iff_ne] at h k
    have e : a = b := UInt8.le_antisymm (UInt8.not_lt.1 k.1) (UInt8.not_lt.1 h.1)
    subst e
    rw [bl_tri x y (h.2.resolve_left (fun f => f rfl)) (k.2.resolve_left (fun f => f rfl))]

theorem lessV_iff (a b : V) : lessV a b = true ↔ a.ty < b.ty ∨ (a.ty = b.ty ∧ (a.n < b.n ∨ (a.n = b.n ∧ Op.bytesLess a.s.toList b.s.toList = true))) := by
  unfold lessV
  by_cases h1 : a.ty = b.ty
  · by_cases h2 : a.n = b.n
    · simp [h1, h2]
    · simp [h1, h2]
  · simp [h1]
theorem lessV_irrefl (a : V) : lessV a a = false := by
  cases h : lessV a a with
  | false => rfl
  | true =>
    rw [lessV_iff, bl_irrefl] at h
    rcases h with h | ⟨_, h | ⟨_, h⟩⟩
    · omega
    · omega
    · cases h
theorem lessV_trans {a b c : V} (h : lessV a b = true) (k : lessV b c = true) : lessV a c = true := by
  rw [lessV_iff] at h k ⊢
  rcases h with h | ⟨h1, h | ⟨h2, h⟩⟩
  · rcases k with k | ⟨k1, k⟩
    · exact .inl (by omega)
    · exact .inl (by omega)
  · rcases k with k | ⟨k1, k | ⟨k2, k⟩⟩
    · exact .inl (by omega)
    · exact .inr ⟨by omega, .inl (by omega)⟩
    · exact .inr ⟨by omega, .inl (by omega)⟩
  · rcases k with k | ⟨k1, k | ⟨k2, k⟩⟩
    · exact .inl (by omega)
    · exact .inr ⟨by omega, .inl (by omega)⟩
    · exact .inr ⟨by omega, .inr ⟨by omega, bl_trans _ _ _ h k⟩⟩
theorem lessV_tri {a b : V} (h : lessV a b = false) (k : lessV b a = false) : a = b := by
  have h' : ¬ lessV a b = true := by rw [h]; simp
  have k' : ¬ lessV b a = true := by rw [k]; simp
  rw [lessV_iff] at h' k'
  have e1 : a.ty = b.ty := by omega
  have e2 : a.n = b.n := by
    have p1 : ¬ a.n < b.n := fun f => h' (.inr ⟨e1, .inl f⟩)
    have p2 : ¬ b.n < a.n := fun f => k' (.inr ⟨e1.symm, .inl f⟩)
    omega
  have b1 : Op.bytesLess a.s.toList b.s.toList = false := by
    cases hb : Op.bytesLess a.s.toList b.s.toList with
    | false => rfl
    | true => exact absurd (.inr ⟨e1, .inr ⟨e2, hb⟩⟩) h'
  have b2 : Op.bytesLess b.s.toList a.s.toList = false := by
    cases hb : Op.bytesLess b.s.toList a.s.toList with
    | false => rfl
    | true => exact absurd (.inr ⟨e1.symm, .inr ⟨e2.symm, hb⟩⟩) k'
  have e3 := bl_tri _ _ b1 b2
  obtain ⟨t1, n1, s1⟩ := a
  obtain ⟨t2, n2, s2⟩ := b
  simp only at e1 e2 e3
  subst e1 e2
  rw [ByteArray.toList_eq, ByteArray.toList_eq] at e3
  rw [ByteArray.ext (Array.toList_inj.1 e3)]
theorem lessV_asymm {a b : V} (h : lessV a b = true) : lessV b a = false := by
  cases k : lessV b a with
  | false => rfl
  | true =>
    have := lessV_trans h k
    rw [lessV_irrefl] at this
    cases this
theorem lessV_ntrans {a b c : V} (h : lessV a b = false) (k : lessV b c = false) : lessV a c = false := by
  cases hc : lessV a c with
  | false => rfl
  | true =>
    cases h2 : lessV b a with
    | true => rw [lessV_trans h2 hc] at k; cases k
    | false =>
      rw [lessV_tri h h2] at hc
      rw [hc] at k
      cases k

/-- Ascending, and no two alike. -/
def Asc (d : List V) : Prop := d.Pairwise fun a b => lessV a b = true
theorem asc_unique : ∀ {a b : List V}, Asc a → Asc b → (∀ x, x ∈ a ↔ x ∈ b) → a = b
  | [], [], _, _, _ => rfl
  | [], y :: b, _, _, h => by have := (h y).2 List.mem_cons_self; cases this
  | x :: a, [], _, _, h => by have := (h x).1 List.mem_cons_self; cases this
  | x :: a, y :: b, ha, hb, h => by
    obtain ⟨ha1, ha2⟩ := List.pairwise_cons.1 ha
    obtain ⟨hb1, hb2⟩ := List.pairwise_cons.1 hb
    have e : x = y := by
      rcases List.mem_cons.1 ((h x).1 List.mem_cons_self) with e | e
      · exact e
      · rcases List.mem_cons.1 ((h y).2 List.mem_cons_self) with e' | e'
        · exact e'.symm
        · have := lessV_asymm (hb1 x e)
          rw [ha1 y e'] at this
          cases this
    subst e
    rw [asc_unique ha2 hb2 (fun z => ?_)]
    constructor
    · intro hz
      rcases List.mem_cons.1 ((h z).1 (List.mem_cons_of_mem _ hz)) with e | e
      · subst e
        have := ha1 z hz
        rw [lessV_irrefl] at this
        cases this
      · exact e
    · intro hz
      rcases List.mem_cons.1 ((h z).2 (List.mem_cons_of_mem _ hz)) with e | e
      · subst e
        have := hb1 z hz
        rw [lessV_irrefl] at this
        cases this
      · exact e

/-- Where v belongs in d. -/
def cutV : List V → V → Nat
  | [], _ => 0
  | x :: r, v => if lessV x v = true then cutV r v + 1 else 0
theorem cutV_le : ∀ (d : List V) (v : V), cutV d v ≤ d.length
  | [], _ => Nat.le_refl _
  | x :: r, v => by
    unfold cutV
    split
    · have := cutV_le r v
      simp only [List.length_cons]
      omega
    · exact Nat.zero_le _
theorem cutV_step : ∀ {d : List V} {v : V} {j : Nat}, j ≤ cutV d v → j < d.length → lessV (d.getD j V.zero) v = true → j + 1 ≤ cutV d v
  | [], _, j, _, h, _ => by simp at h
  | x :: r, v, 0, _, _, h => by
    have h' : lessV x v = true := h
    unfold cutV
    rw [if_pos h']
    omega
  | x :: r, v, j + 1, h1, h2, h3 => by
    unfold cutV at h1 ⊢
    split
    · rename_i hx
      rw [if_pos hx] at h1
      have := cutV_step (d := r) (v := v) (j := j) (by omega) (by simpa using h2) (by simpa using h3)
      omega
    · rename_i hx
      rw [if_neg hx] at h1
      omega
theorem cutV_stop : ∀ {d : List V} {v : V} {j : Nat}, j ≤ cutV d v → (j = d.length ∨ lessV (d.getD j V.zero) v = false) → j = cutV d v
  | [], _, j, h, _ => by simp only [cutV] at h ⊢; omega
  | x :: r, v, 0, _, h => by
    have h' : ¬ lessV x v = true := by
      rcases h with h | h
      · simp at h
      · rw [show (x :: r).getD 0 V.zero = x from rfl] at h
        rw [h]
        simp
    unfold cutV
    rw [if_neg h']
  | x :: r, v, j + 1, h1, h2 => by
    unfold cutV at h1 ⊢
    split
    · rename_i hx
      rw [if_pos hx] at h1
      rw [← cutV_stop (d := r) (v := v) (j := j) (by omega) (h2.imp (fun h => by simpa using h) (fun h => by simpa using h))]
    · rename_i hx
      rw [if_neg hx] at h1
      omega

/-- A value laid into a dictionary. -/
def insV : List V → V → List V
  | [], v => [v]
  | x :: r, v => if lessV x v = true then x :: insV r v else if x.eqB v = true then x :: r else v :: x :: r
theorem insV_new : ∀ {d : List V} {v : V}, (cutV d v = d.length ∨ (d.getD (cutV d v) V.zero).eqB v = false) → insV d v = (d.take (cutV d v) ++ [v]) ++ d.drop (cutV d v)
  | [], v, _ => rfl
  | x :: r, v, h => by
    unfold insV
    by_cases hx : lessV x v = true
    · have hc : cutV (x :: r) v = cutV r v + 1 := by rw [cutV, if_pos hx]
      rw [hc] at h ⊢
      rw [if_pos hx, insV_new (h.imp (fun h => by simpa using h) (fun h => by simpa using h))]
      simp
    · have hc : cutV (x :: r) v = 0 := by rw [cutV, if_neg hx]
      rw [hc] at h ⊢
      have he : x.eqB v = false := by
        rcases h with h | h
        · simp at h
        · exact h
      rw [if_neg hx, he]
      rfl
theorem insV_old : ∀ {d : List V} {v : V}, cutV d v < d.length → (d.getD (cutV d v) V.zero).eqB v = true → insV d v = d
  | [], _, h, _ => by simp at h
  | x :: r, v, h1, h2 => by
    unfold insV
    by_cases hx : lessV x v = true
    · have hc : cutV (x :: r) v = cutV r v + 1 := by rw [cutV, if_pos hx]
      rw [hc] at h1 h2
      rw [if_pos hx, insV_old (by simpa using h1) (by simpa using h2)]
    · have hc : cutV (x :: r) v = 0 := by rw [cutV, if_neg hx]
      rw [hc] at h2
      have he : x.eqB v = true := h2
      rw [if_neg hx, if_pos he]
theorem mem_ins : ∀ {d : List V} {v x : V}, x ∈ insV d v ↔ x ∈ d ∨ x = v
  | [], v, x => by simp [insV]
  | y :: r, v, x => by
    unfold insV
    split
    · rw [List.mem_cons, mem_ins (d := r), List.mem_cons, or_assoc]
    · split
      · rename_i he
        have he' := eqB_true.1 he
        subst he'
        constructor
        · exact .inl
        · rintro (h | rfl)
          · exact h
          · exact List.mem_cons_self
      · simp only [List.mem_cons]
        constructor
        · rintro (h | h | h)
          · exact .inr h
          · exact .inl (.inl h)
          · exact .inl (.inr h)
        · rintro ((h | h) | h)
          · exact .inr (.inl h)
          · exact .inr (.inr h)
          · exact .inl h
theorem asc_ins : ∀ {d : List V} {v : V}, Asc d → Asc (insV d v)
  | [], v, _ => List.pairwise_singleton _ _
  | x :: r, v, h => by
    obtain ⟨h1, h2⟩ := List.pairwise_cons.1 h
    unfold insV
    split
    · rename_i hx
      refine List.pairwise_cons.2 ⟨fun y hy => ?_, asc_ins h2⟩
      rcases mem_ins.1 hy with hy | rfl
      · exact h1 y hy
      · exact hx
    · rename_i hx
      split
      · exact h
      · rename_i he
        have hxv : lessV v x = true := by
          cases k : lessV v x with
          | true => rfl
          | false => exact absurd (eqB_true.2 (lessV_tri (by simpa using hx) k)) he
        refine List.pairwise_cons.2 ⟨fun y hy => ?_, h⟩
        rcases List.mem_cons.1 hy with rfl | hy
        · exact hxv
        · exact lessV_trans hxv (h1 y hy)
theorem ins_len (d : List V) (v : V) : (insV d v).length ≤ d.length + 1 := by
  induction d with
  | nil => simp [insV]
  | cons x r ih =>
    unfold insV
    split
    · simp only [List.length_cons]; omega
    · split <;> simp

/-- Dict. -/
def dictL (l : List V) : List V := l.foldl insV []
theorem dict_snoc (l : List V) (v : V) : dictL (l ++ [v]) = insV (dictL l) v := by simp [dictL]
theorem dict_fold : ∀ (l d : List V), Asc d → Asc (l.foldl insV d) ∧ (∀ x, x ∈ l.foldl insV d ↔ x ∈ d ∨ x ∈ l) ∧ (l.foldl insV d).length ≤ d.length + l.length
  | [], d, h => ⟨h, by simp, by simp⟩
  | v :: l, d, h => by
    obtain ⟨h1, h2, h3⟩ := dict_fold l (insV d v) (asc_ins h)
    refine ⟨h1, fun x => ?_, ?_⟩
    · rw [List.foldl_cons, h2, mem_ins, List.mem_cons, or_assoc]
    · have := ins_len d v
      simp only [List.foldl_cons, List.length_cons]
      omega
theorem asc_dict (l : List V) : Asc (dictL l) := (dict_fold l [] List.Pairwise.nil).1
theorem mem_dict {l : List V} {x : V} : x ∈ dictL l ↔ x ∈ l := by
  have := (dict_fold l [] List.Pairwise.nil).2.1 x
  simpa [dictL] using this
theorem dict_len (l : List V) : (dictL l).length ≤ l.length := by
  have := (dict_fold l [] List.Pairwise.nil).2.2
  simpa [dictL] using this

/-- What is left of the first j elements when each that equals the one ahead of it goes. -/
def compK (l : List V) : Nat → List V
  | 0 => []
  | j + 1 => if j = 0 ∨ (l.getD j V.zero).eqB (l.getD (j - 1) V.zero) = false then compK l j ++ [l.getD j V.zero] else compK l j
theorem compK_len (l : List V) (j : Nat) : (compK l j).length ≤ j := by
  induction j with
  | zero => exact Nat.le_refl _
  | succ j ih =>
    unfold compK
    split
    · simp; omega
    · omega
theorem compK_pos (l : List V) {j : Nat} (h : 0 < j) : 0 < (compK l j).length := by
  induction j with
  | zero => omega
  | succ j ih =>
    unfold compK
    split
    · simp
    · rename_i hn
      have : j ≠ 0 := fun e => hn (.inl e)
      exact ih (by omega)
theorem compK_mem (l : List V) {j : Nat} (hj : j ≤ l.length) (x : V) : x ∈ compK l j ↔ ∃ i, i < j ∧ l.getD i V.zero = x := by
  induction j with
  | zero => simp [compK]
  | succ j ih =>
    have ih := ih (by omega)
    unfold compK
    split
    · rw [List.mem_append, ih, List.mem_singleton]
      constructor
      · rintro (⟨i, hi, e⟩ | e)
        · exact ⟨i, by omega, e⟩
        · exact ⟨j, by omega, e.symm⟩
      · rintro ⟨i, hi, e⟩
        by_cases hij : i = j
        · subst hij; exact .inr e.symm
        · exact .inl ⟨i, by omega, e⟩
    · rename_i hn
      have hj0 : j ≠ 0 := fun e => hn (.inl e)
      have he : (l.getD j V.zero).eqB (l.getD (j - 1) V.zero) = true := by
        cases hb : (l.getD j V.zero).eqB (l.getD (j - 1) V.zero) with
        | true => rfl
        | false => exact absurd (.inr hb) hn
      have he' := eqB_true.1 he
      rw [ih]
      constructor
      · rintro ⟨i, hi, e⟩
        exact ⟨i, by omega, e⟩
      · rintro ⟨i, hi, e⟩
        by_cases hij : i = j
        · subst hij; exact ⟨i - 1, by omega, he'.symm.trans e⟩
        · exact ⟨i, by omega, e⟩
/-- No later one is less than an earlier one. -/
def Rising (l : List V) : Prop := ∀ i j, i < j → j < l.length → lessV (l.getD j V.zero) (l.getD i V.zero) = false
theorem compK_asc {l : List V} (h : Rising l) : ∀ {j : Nat}, j ≤ l.length → Asc (compK l j)
  | 0, _ => List.Pairwise.nil
  | j + 1, hj => by
    have ih := compK_asc h (j := j) (by omega)
    unfold compK
    split
    · rename_i hc
      refine List.pairwise_append.2 ⟨ih, List.pairwise_singleton _ _, fun x hx y hy => ?_⟩
      rw [List.mem_singleton.1 hy]
      obtain ⟨i, hi, rfl⟩ := (compK_mem l (by omega) x).1 hx
      have hne : (l.getD j V.zero).eqB (l.getD (j - 1) V.zero) = false := by
        rcases hc with hc | hc
        · omega
        · exact hc
      cases k : lessV (l.getD i V.zero) (l.getD j V.zero) with
      | true => rfl
      | false =>
        exfalso
        have e1 := lessV_tri k (h i j hi (by omega))
        apply eqB_false.1 hne
        by_cases hij : i = j - 1
        · rw [← hij]; exact e1.symm
        · have k1 := h (j - 1) j (by omega) (by omega)
          have k2 := h i (j - 1) (by omega) (by omega)
          rw [e1] at k2
          exact lessV_tri k1 k2
    · exact ih
/-- The values of l, sorted, with each that equals the one ahead of it gone: the dictionary. -/
theorem comp_dict {l s : List V} (hp : s.Perm l) (h : Rising s) : compK s s.length = dictL l := by
  refine asc_unique (compK_asc h (Nat.le_refl _)) (asc_dict l) (fun x => ?_)
  rw [compK_mem s (Nat.le_refl _), mem_dict, ← hp.mem_iff]
  constructor
  · rintro ⟨i, hi, rfl⟩
    rw [getDe _ _ hi]
    exact List.getElem_mem hi
  · intro hx
    obtain ⟨i, hi, e⟩ := List.getElem_of_mem hx
    exact ⟨i, hi, by rw [getDe _ _ hi, e]⟩
theorem compK_all {l : List V} : ∀ {j : Nat}, j ≤ l.length → (∀ i, 0 < i → i < j → (l.getD i V.zero).eqB (l.getD (i - 1) V.zero) = false) → compK l j = l.take j
  | 0, _, _ => rfl
  | j + 1, hj, h => by
    have ih := compK_all (l := l) (j := j) (by omega) (fun i h0 h1 => h i h0 (by omega))
    have hlt : j < l.length := by omega
    rw [compK, if_pos, ih, List.take_succ_eq_append_getElem hlt, getDe _ _ hlt]
    by_cases h0 : j = 0
    · exact .inl h0
    · exact .inr (h j (by omega) (by omega))

/-- InDict. -/
def inD : List V → V → Option Nat
  | [], _ => none
  | x :: r, v => if x.eqB v = true then some 0 else (inD r v).map (· + 1)
def inI (d : List V) (v : V) : Int := match inD d v with | some i => i | none => -1
theorem inD_some : ∀ {d : List V} {v : V} {i : Nat}, inD d v = some i → i < d.length ∧ d.getD i V.zero = v ∧ ∀ j, j < i → (d.getD j V.zero).eqB v = false
  | [], v, i, h => by simp [inD] at h
  | x :: r, v, i, h => by
    unfold inD at h
    split at h
    · rename_i he
      cases h
      exact ⟨by simp, eqB_true.1 he, fun j hj => by omega⟩
    · rename_i he
      obtain ⟨k, hk, rfl⟩ := Option.map_eq_some_iff.1 h
      obtain ⟨h1, h2, h3⟩ := inD_some hk
      refine ⟨by simpa using h1, by simpa using h2, fun j hj => ?_⟩
      cases j with
      | zero => simpa using he
      | succ j => simpa using h3 j (by omega)
theorem inD_none : ∀ {d : List V} {v : V}, inD d v = none ↔ ∀ j, j < d.length → (d.getD j V.zero).eqB v = false
  | [], v => by simp [inD]
  | x :: r, v => by
    unfold inD
    split
    · rename_i he
      constructor
      · intro h; cases h
      · intro h
        have := h 0 (by simp)
        rw [show (x :: r).getD 0 V.zero = x from rfl, he] at this
        cases this
    · rename_i he
      rw [Option.map_eq_none_iff, inD_none]
      constructor
      · intro h j hj
        cases j with
        | zero => simpa using he
        | succ j => simpa using h j (by simpa using hj)
      · intro h j hj
        have := h (j + 1) (by simpa using hj)
        simpa using this
theorem inD_first {d : List V} {v : V} {i : Nat} (h1 : i < d.length) (h2 : (d.getD i V.zero).eqB v = true) (h3 : ∀ j, j < i → (d.getD j V.zero).eqB v = false) : inD d v = some i := by
  cases h : inD d v with
  | none => rw [inD_none.1 h i h1] at h2; cases h2
  | some k =>
    obtain ⟨k1, k2, k3⟩ := inD_some h
    by_cases hik : i < k
    · rw [k3 i hik] at h2; cases h2
    · by_cases hki : k < i
      · have := h3 k hki
        rw [k2] at this
        rw [eqB_true.2 rfl] at this
        cases this
      · rw [show k = i by omega]
theorem inD_mem {d : List V} {v : V} (h : v ∈ d) : ∃ i, inD d v = some i := by
  cases e : inD d v with
  | some i => exact ⟨i, rfl⟩
  | none =>
    obtain ⟨i, hi, he⟩ := List.getElem_of_mem h
    have := inD_none.1 e i hi
    rw [getDe _ _ hi, he, eqB_true.2 rfl] at this
    cases this

/-- Places. -/
def placesL (d l : List V) : List Int × Bool := if l.all (fun v => (inD d v).isSome) = true then (l.map (inI d), true) else ([], false)
/-- Picked. -/
def pickB (d : List V) (x : Int) : Bool := decide (0 ≤ x ∧ x < (d.length : Int))
def pickedL (d : List V) (p : List Int) : List V × Bool := if p.all (pickB d) = true then (p.map (fun x => d.getD x.toNat V.zero), true) else ([], false)
theorem places_len (d l : List V) : (placesL d l).1.length ≤ l.length := by
  unfold placesL
  split <;> simp
theorem picked_len (d : List V) (p : List Int) : (pickedL d p).1.length ≤ p.length := by
  unfold pickedL
  split <;> simp
theorem places_no {d l : List V} {k : Nat} (hk : k < l.length) (h : inD d (l.getD k V.zero) = none) : placesL d l = ([], false) := by
  refine if_neg fun ha => ?_
  have := List.all_eq_true.1 ha l[k] (List.getElem_mem hk)
  rw [getDe _ _ hk] at h
  rw [h] at this
  cases this
theorem places_yes {d l : List V} (h : ∀ k, k < l.length → (inD d (l.getD k V.zero)).isSome = true) : placesL d l = (l.map (inI d), true) := by
  refine if_pos (List.all_eq_true.2 fun v hv => ?_)
  obtain ⟨i, hi, rfl⟩ := List.getElem_of_mem hv
  have := h i hi
  rwa [getDe _ _ hi] at this
theorem picked_no {d : List V} {p : List Int} {k : Nat} (hk : k < p.length) (h : pickB d (p.getD k 0) = false) : pickedL d p = ([], false) := by
  refine if_neg fun ha => ?_
  have := List.all_eq_true.1 ha p[k] (List.getElem_mem hk)
  rw [getDe _ _ hk] at h
  rw [h] at this
  cases this
theorem picked_yes {d : List V} {p : List Int} (h : ∀ k, k < p.length → pickB d (p.getD k 0) = true) : pickedL d p = (p.map (fun x => d.getD x.toNat V.zero), true) := by
  refine if_pos (List.all_eq_true.2 fun v hv => ?_)
  obtain ⟨i, hi, rfl⟩ := List.getElem_of_mem hv
  have := h i hi
  rwa [getDe _ _ hi] at this
theorem places_mem {d l : List V} (h : ∀ v ∈ l, v ∈ d) : placesL d l = (l.map (inI d), true) :=
  places_yes fun k hk => by
    obtain ⟨i, hi⟩ := inD_mem (h (l.getD k V.zero) (by rw [getDe _ _ hk]; exact List.getElem_mem hk))
    rw [hi]
    rfl
theorem inI_some {d : List V} {v : V} {i : Nat} (h : inD d v = some i) : inI d v = i := by unfold inI; rw [h]
theorem inI_none {d : List V} {v : V} (h : inD d v = none) : inI d v = -1 := by unfold inI; rw [h]
/-- What is picked at the places of l is l. -/
theorem picked_places {d l : List V} (h : ∀ v ∈ l, v ∈ d) : pickedL d (l.map (inI d)) = (l, true) := by
  have key : ∀ v ∈ l, ∃ i, inI d v = (i : Nat) ∧ i < d.length ∧ d.getD i V.zero = v := fun v hv => by
    obtain ⟨i, hi⟩ := inD_mem (h v hv)
    exact ⟨i, inI_some hi, (inD_some hi).1, (inD_some hi).2.1⟩
  unfold pickedL
  rw [if_pos]
  · refine Prod.ext ?_ rfl
    show (l.map (inI d)).map _ = l
    rw [List.map_map]
    conv => rhs; rw [← List.map_id l]
    refine List.map_congr_left fun v hv => ?_
    obtain ⟨i, h1, h2, h3⟩ := key v hv
    show d.getD (inI d v).toNat V.zero = v
    rw [h1, Int.toNat_natCast, h3]
  · refine List.all_eq_true.2 fun x hx => ?_
    obtain ⟨v, hv, rfl⟩ := List.mem_map.1 hx
    obtain ⟨i, h1, h2, h3⟩ := key v hv
    rw [h1]
    exact decide_eq_true ⟨by omega, by omega⟩

end Go.Proofs.Ytcokmjdehclhkaa

/- Zones: what they are, and the laws' own helpers over one Zone; == on Zones and on arrays of two Vals. -/
namespace Go.Proofs.Ytcokmjdehclhkaa
open Go.RowKit

/-- A Zone: the least value and the greatest. -/
structure Zn where
  lo : V
  hi : V
abbrev Zn.agg (z : Zn) : Value := .agg #[.int .i64 z.lo.ty, .int .i64 z.lo.n, .string z.lo.s, .int .i64 z.hi.ty, .int .i64 z.hi.n, .string z.hi.s]
def Zn.cs (z : Zn) : List Value := [.int .i64 z.lo.ty, .int .i64 z.lo.n, .string z.lo.s, .int .i64 z.hi.ty, .int .i64 z.hi.n, .string z.hi.s]
def Zn.zero : Zn := ⟨V.zero, V.zero⟩

/-- Six cells that read as a Zone. -/
def Cells6 (W : World) (b : Nat) (z : Zn) : Prop := W.cell? ⟨b, 0, none⟩ = some (.int .i64 z.lo.ty) ∧ W.cell? ⟨b, 1, none⟩ = some (.int .i64 z.lo.n) ∧ W.cell? ⟨b, 2, none⟩ = some (.string z.lo.s) ∧ W.cell? ⟨b, 3, none⟩ = some (.int .i64 z.hi.ty) ∧ W.cell? ⟨b, 4, none⟩ = some (.int .i64 z.hi.n) ∧ W.cell? ⟨b, 5, none⟩ = some (.string z.hi.s)
/-- Six cells of a block that may be written. -/
def Six (W : World) (b : Nat) (z : Zn) : Prop := Cells6 W b z ∧ W.frozen? ⟨b, 0, none⟩ = false ∧ W.frozen? ⟨b, 1, none⟩ = false ∧ W.frozen? ⟨b, 2, none⟩ = false ∧ W.frozen? ⟨b, 3, none⟩ = false ∧ W.frozen? ⟨b, 4, none⟩ = false ∧ W.frozen? ⟨b, 5, none⟩ = false
theorem Six.below {W W' : World} {b : Nat} {z : Zn} (h : Six W b z) (hb : Below W.heap.size W W') : Six W' b z := by
  have hlt := lt_of_cell h.1.1
  exact ⟨⟨(hb.cell (p := ⟨b, 0, none⟩) hlt).trans h.1.1, (hb.cell (p := ⟨b, 1, none⟩) hlt).trans h.1.2.1, (hb.cell (p := ⟨b, 2, none⟩) hlt).trans h.1.2.2.1, (hb.cell (p := ⟨b, 3, none⟩) hlt).trans h.1.2.2.2.1, (hb.cell (p := ⟨b, 4, none⟩) hlt).trans h.1.2.2.2.2.1, (hb.cell (p := ⟨b, 5, none⟩) hlt).trans h.1.2.2.2.2.2⟩, (hb.frozen (p := ⟨b, 0, none⟩) hlt).trans h.2.1, (hb.frozen (p := ⟨b, 1, none⟩) hlt).trans h.2.2.1, (hb.frozen (p := ⟨b, 2, none⟩) hlt).trans h.2.2.2.1, (hb.frozen (p := ⟨b, 3, none⟩) hlt).trans h.2.2.2.2.1, (hb.frozen (p := ⟨b, 4, none⟩) hlt).trans h.2.2.2.2.2.1, (hb.frozen (p := ⟨b, 5, none⟩) hlt).trans h.2.2.2.2.2.2⟩
theorem Cells6.below {W W' : World} {b : Nat} {z : Zn} (h : Cells6 W b z) (hb : Below W.heap.size W W') : Cells6 W' b z := by
  have hlt := lt_of_cell h.1
  exact ⟨(hb.cell (p := ⟨b, 0, none⟩) hlt).trans h.1, (hb.cell (p := ⟨b, 1, none⟩) hlt).trans h.2.1, (hb.cell (p := ⟨b, 2, none⟩) hlt).trans h.2.2.1, (hb.cell (p := ⟨b, 3, none⟩) hlt).trans h.2.2.2.1, (hb.cell (p := ⟨b, 4, none⟩) hlt).trans h.2.2.2.2.1, (hb.cell (p := ⟨b, 5, none⟩) hlt).trans h.2.2.2.2.2⟩
theorem six_new (w : World) (z : Zn) (e : TypeId) : Six (w.alloc (.cells #[.int .i64 z.lo.ty, .int .i64 z.lo.n, .string z.lo.s, .int .i64 z.hi.ty, .int .i64 z.hi.n, .string z.hi.s] e)) w.heap.size z :=
  ⟨⟨by simp, by simp, by simp, by simp, by simp, by simp⟩, by simp, by simp, by simp, by simp, by simp, by simp⟩

/-- What szZone leaves. -/
def szZ (z : Zn) (left : Int) : Int := if szV z.lo left < 0 then -1 else if szV z.hi (szV z.lo left) < 0 then -1 else szV z.hi (szV z.lo left)
theorem szV_le {v : V} {left : Int} (h : 0 ≤ left) : szV v left ≤ left := by
  unfold szV
  split <;> omega
theorem szZ_le {z : Zn} {left : Int} (h : 0 ≤ left) : szZ z left ≤ left := by
  unfold szZ
  split
  · omega
  · split
    · omega
    · rename_i h1 _
      have := szV_le (v := z.hi) (left := szV z.lo left) (by omega)
      have := szV_le (v := z.lo) h
      omega

set_option maxHeartbeats 1000000 in
theorem szZone (z : Zn) (left : Int) (w : World) (h0 : 0 ≤ left) (h1 : left ≤ 1048576) (hs : z.lo.s.size ≤ maxLen) (hs2 : z.hi.s.size ≤ maxLen) :
    Calls Try.prog 34 #[z.agg, .int .i64 left] w fun e w' => e = .returned (.int .i64 (szZ z left)) ∧ Below w.heap.size w w' := by
  obtain ⟨⟨a, b, s⟩, ⟨c, d, t⟩⟩ := z
  have B0 := below_alloc w (.cells #[.int .i64 a, .int .i64 b, .string s, .int .i64 c, .int .i64 d, .string t] 53)
  have Z0 := six_new w ⟨⟨a, b, s⟩, ⟨c, d, t⟩⟩ 53
  have HA := Lib.hid (fun W => szVal ⟨a, b, s⟩ left W h0 h1 hs)
  have HB := Lib.hid (fun (x : Int) (hx : 0 ≤ x) (hy : x ≤ 1048576) W => szVal ⟨c, d, t⟩ x W hx hy hs2)
  have HE : Hid (szZ ⟨⟨a, b, s⟩, ⟨c, d, t⟩⟩ left = if szV ⟨a, b, s⟩ left < 0 then -1 else if szV ⟨c, d, t⟩ (szV ⟨a, b, s⟩ left) < 0 then -1 else szV ⟨c, d, t⟩ (szV ⟨a, b, s⟩ left)) := rfl
  have HL : Hid (szV ⟨a, b, s⟩ left ≤ 1048576) := by
    have := szV_le (v := ⟨a, b, s⟩) h0
    show _ ≤ _
    omega
  simp only at Z0
  generalize szV ⟨a, b, s⟩ left = x at HA HE HL
  clear hs hs2
  go_enter Try.func34, Try.ntmps34
  go_wp2_with fail
  refine (HA.out _).mono ?_
  rintro e w1 ⟨rfl, b1⟩
  obtain ⟨⟨p0, p1, p2, p3, p4, p5⟩, _⟩ := Z0.below b1
  simp only at p0 p1 p2 p3 p4 p5
  have B1 := below_then B0 b1 B0.size
  clear b1 HA Z0 B0
  by_cases hneg : x < 0
  · have HN : Hid (szZ ⟨⟨a, b, s⟩, ⟨c, d, t⟩⟩ left = -1) := by
      show _ = _
      rw [HE.out, if_pos hneg]
    go_wp2
    go_ret
    exact ⟨ret_int HN.out.symm, B1⟩
  · have H2 := Lib.hid (HB.out x (by omega) HL.out)
    have HE2 : Hid (szZ ⟨⟨a, b, s⟩, ⟨c, d, t⟩⟩ left = if szV ⟨c, d, t⟩ x < 0 then -1 else szV ⟨c, d, t⟩ x) := by
      show _ = _
      rw [HE.out, if_neg hneg]
    generalize szV ⟨c, d, t⟩ x = y at H2 HE2
    clear HB HE
    go_wp2_with fail
    refine (H2.out _).mono ?_
    rintro e w2 ⟨rfl, b2⟩
    have B2 := below_then B1 b2 B1.size
    clear b2 H2 p0 p1 p2 p3 p4 p5
    by_cases hneg2 : y < 0
    · have HN : Hid (szZ ⟨⟨a, b, s⟩, ⟨c, d, t⟩⟩ left = -1) := by
        show _ = _
        rw [HE2.out, if_pos hneg2]
      go_wp2
      go_ret
      exact ⟨ret_int HN.out.symm, B2⟩
    · have HN : Hid (szZ ⟨⟨a, b, s⟩, ⟨c, d, t⟩⟩ left = y) := by
        show _ = _
        rw [HE2.out, if_neg hneg2]
      go_wp2
      go_ret
      exact ⟨ret_int HN.out.symm, B2⟩

/-- Three cells of a Zone, stored anew: the first (k = 0) or the second (k = 3). -/
theorem Six.other {W : World} {b : Nat} {z : Zn} (h : Six W b z) {p : Addr} (hp : p.block ≠ b) (u : Value) : Six (W.setCell p u) b z := by
  have hne : ∀ o, p ≠ ⟨b, o, none⟩ := fun o e => hp (by rw [e])
  refine ⟨⟨?_, ?_, ?_, ?_, ?_, ?_⟩, ?_, ?_, ?_, ?_, ?_, ?_⟩
  · rw [World.cell?_setCell_other _ _ _ _ (hne 0)]; exact h.1.1
  · rw [World.cell?_setCell_other _ _ _ _ (hne 1)]; exact h.1.2.1
  · rw [World.cell?_setCell_other _ _ _ _ (hne 2)]; exact h.1.2.2.1
  · rw [World.cell?_setCell_other _ _ _ _ (hne 3)]; exact h.1.2.2.2.1
  · rw [World.cell?_setCell_other _ _ _ _ (hne 4)]; exact h.1.2.2.2.2.1
  · rw [World.cell?_setCell_other _ _ _ _ (hne 5)]; exact h.1.2.2.2.2.2
  · rw [World.frozen?_setCell]; exact h.2.1
  · rw [World.frozen?_setCell]; exact h.2.2.1
  · rw [World.frozen?_setCell]; exact h.2.2.2.1
  · rw [World.frozen?_setCell]; exact h.2.2.2.2.1
  · rw [World.frozen?_setCell]; exact h.2.2.2.2.2.1
  · rw [World.frozen?_setCell]; exact h.2.2.2.2.2.2
theorem Six.setLo {W : World} {b : Nat} {z : Zn} (h : Six W b z) (v : V) : Six (((W.setCell ⟨b, 0, none⟩ (.int .i64 v.ty)).setCell ⟨b, 1, none⟩ (.int .i64 v.n)).setCell ⟨b, 2, none⟩ (.string v.s)) b ⟨v, z.hi⟩ := by
  refine ⟨⟨?_, ?_, ?_, ?_, ?_, ?_⟩, ?_, ?_, ?_, ?_, ?_, ?_⟩
  · rw [World.cell?_setCell_other _ _ _ _ (by simp)]; rw [World.cell?_setCell_other _ _ _ _ (by simp)]; exact World.cell?_setCell_same _ _ _ h.1.1
  · rw [World.cell?_setCell_other _ _ _ _ (by simp)]; exact World.cell?_setCell_same _ _ _ ((World.cell?_setCell_other _ _ _ _ (by simp)).trans (h.1.2.1))
  · exact World.cell?_setCell_same _ _ _ ((World.cell?_setCell_other _ _ _ _ (by simp)).trans (((World.cell?_setCell_other _ _ _ _ (by simp)).trans (h.1.2.2.1))))
  · rw [World.cell?_setCell_other _ _ _ _ (by simp), World.cell?_setCell_other _ _ _ _ (by simp), World.cell?_setCell_other _ _ _ _ (by simp)]; exact h.1.2.2.2.1
  · rw [World.cell?_setCell_other _ _ _ _ (by simp), World.cell?_setCell_other _ _ _ _ (by simp), World.cell?_setCell_other _ _ _ _ (by simp)]; exact h.1.2.2.2.2.1
  · rw [World.cell?_setCell_other _ _ _ _ (by simp), World.cell?_setCell_other _ _ _ _ (by simp), World.cell?_setCell_other _ _ _ _ (by simp)]; exact h.1.2.2.2.2.2
  · rw [World.frozen?_setCell, World.frozen?_setCell, World.frozen?_setCell]; exact h.2.1
  · rw [World.frozen?_setCell, World.frozen?_setCell, World.frozen?_setCell]; exact h.2.2.1
  · rw [World.frozen?_setCell, World.frozen?_setCell, World.frozen?_setCell]; exact h.2.2.2.1
  · rw [World.frozen?_setCell, World.frozen?_setCell, World.frozen?_setCell]; exact h.2.2.2.2.1
  · rw [World.frozen?_setCell, World.frozen?_setCell, World.frozen?_setCell]; exact h.2.2.2.2.2.1
  · rw [World.frozen?_setCell, World.frozen?_setCell, World.frozen?_setCell]; exact h.2.2.2.2.2.2
theorem Six.setHi {W : World} {b : Nat} {z : Zn} (h : Six W b z) (v : V) : Six (((W.setCell ⟨b, 3, none⟩ (.int .i64 v.ty)).setCell ⟨b, 4, none⟩ (.int .i64 v.n)).setCell ⟨b, 5, none⟩ (.string v.s)) b ⟨z.lo, v⟩ := by
  refine ⟨⟨?_, ?_, ?_, ?_, ?_, ?_⟩, ?_, ?_, ?_, ?_, ?_, ?_⟩
  · rw [World.cell?_setCell_other _ _ _ _ (by simp), World.cell?_setCell_other _ _ _ _ (by simp), World.cell?_setCell_other _ _ _ _ (by simp)]; exact h.1.1
  · rw [World.cell?_setCell_other _ _ _ _ (by simp), World.cell?_setCell_other _ _ _ _ (by simp), World.cell?_setCell_other _ _ _ _ (by simp)]; exact h.1.2.1
  · rw [World.cell?_setCell_other _ _ _ _ (by simp), World.cell?_setCell_other _ _ _ _ (by simp), World.cell?_setCell_other _ _ _ _ (by simp)]; exact h.1.2.2.1
  · rw [World.cell?_setCell_other _ _ _ _ (by simp)]; rw [World.cell?_setCell_other _ _ _ _ (by simp)]; exact World.cell?_setCell_same _ _ _ h.1.2.2.2.1
  · rw [World.cell?_setCell_other _ _ _ _ (by simp)]; exact World.cell?_setCell_same _ _ _ ((World.cell?_setCell_other _ _ _ _ (by simp)).trans (h.1.2.2.2.2.1))
  · exact World.cell?_setCell_same _ _ _ ((World.cell?_setCell_other _ _ _ _ (by simp)).trans (((World.cell?_setCell_other _ _ _ _ (by simp)).trans (h.1.2.2.2.2.2))))
  · rw [World.frozen?_setCell, World.frozen?_setCell, World.frozen?_setCell]; exact h.2.1
  · rw [World.frozen?_setCell, World.frozen?_setCell, World.frozen?_setCell]; exact h.2.2.1
  · rw [World.frozen?_setCell, World.frozen?_setCell, World.frozen?_setCell]; exact h.2.2.2.1
  · rw [World.frozen?_setCell, World.frozen?_setCell, World.frozen?_setCell]; exact h.2.2.2.2.1
  · rw [World.frozen?_setCell, World.frozen?_setCell, World.frozen?_setCell]; exact h.2.2.2.2.2.1
  · rw [World.frozen?_setCell, World.frozen?_setCell, World.frozen?_setCell]; exact h.2.2.2.2.2.2

set_option maxHeartbeats 2000000 in
theorem toZone (z : Zn) (w : World) : Calls Try.prog 35 #[z.agg] w fun e w' => e = .returned z.agg ∧ Below w.heap.size w w' := by
  obtain ⟨⟨a, b, s⟩, ⟨c, d, t⟩⟩ := z
  have HT := Lib.hid (fun W => toVal ⟨a, b, s⟩ W)
  have HU := Lib.hid (fun W => toVal ⟨c, d, t⟩ W)
  have B0 := below_alloc3 w (.cells #[.int .i64 a, .int .i64 b, .string s, .int .i64 c, .int .i64 d, .string t] 53) (.cells #[.int .i64 0, .int .i64 0, .string ⟨#[]⟩, .int .i64 0, .int .i64 0, .string ⟨#[]⟩] 29) (.cells #[.int .i64 0, .int .i64 0, .string ⟨#[]⟩, .int .i64 0, .int .i64 0, .string ⟨#[]⟩] 29)
  have Z0 := ((six_new w ⟨⟨a, b, s⟩, ⟨c, d, t⟩⟩ 53).below (below_alloc _ (.cells #[.int .i64 0, .int .i64 0, .string ⟨#[]⟩, .int .i64 0, .int .i64 0, .string ⟨#[]⟩] 29))).below (below_alloc _ (.cells #[.int .i64 0, .int .i64 0, .string ⟨#[]⟩, .int .i64 0, .int .i64 0, .string ⟨#[]⟩] 29))
  have Z1 := (six_new (w.alloc (.cells #[.int .i64 a, .int .i64 b, .string s, .int .i64 c, .int .i64 d, .string t] 53)) Zn.zero 29).below (below_alloc _ (.cells #[.int .i64 0, .int .i64 0, .string ⟨#[]⟩, .int .i64 0, .int .i64 0, .string ⟨#[]⟩] 29))
  have Z2 := six_new ((w.alloc (.cells #[.int .i64 a, .int .i64 b, .string s, .int .i64 c, .int .i64 d, .string t] 53)).alloc (.cells #[.int .i64 0, .int .i64 0, .string ⟨#[]⟩, .int .i64 0, .int .i64 0, .string ⟨#[]⟩] 29)) Zn.zero 29
  simp only [Zn.zero, V.zero] at Z1 Z2
  rw [World.size_alloc] at Z1
  rw [World.size_alloc, World.size_alloc] at Z2
  generalize hw0 : (((w.alloc (.cells #[.int .i64 a, .int .i64 b, .string s, .int .i64 c, .int .i64 d, .string t] 53)).alloc (.cells #[.int .i64 0, .int .i64 0, .string ⟨#[]⟩, .int .i64 0, .int .i64 0, .string ⟨#[]⟩] 29)).alloc (.cells #[.int .i64 0, .int .i64 0, .string ⟨#[]⟩, .int .i64 0, .int .i64 0, .string ⟨#[]⟩] 29)) = w0 at B0 Z0 Z1 Z2
  have HW := Lib.hid hw0
  clear hw0
  go_enter Try.func35, Try.ntmps35
  go_wp2_with fail
  rw [HW.out]
  refine (HT.out _).mono ?_
  rintro e w1 ⟨rfl, b1⟩
  have B1 := below_then B0 b1 B0.size
  have Y0 := Z0.below b1
  have Y1 := Z1.below b1
  have Y2 := Z2.below b1
  have C1 := Y2.setLo ⟨a, b, s⟩
  have CR := ((Y1.other (p := ⟨w.heap.size + 1 + 1, 0, none⟩) (by simp) (.int .i64 a)).other (p := ⟨w.heap.size + 1 + 1, 1, none⟩) (by simp) (.int .i64 b)).other (p := ⟨w.heap.size + 1 + 1, 2, none⟩) (by simp) (.string s)
  have B1' := ((B1.setCell (p := ⟨w.heap.size + 1 + 1, 0, none⟩) (by simp; omega) (.int .i64 a)).setCell (p := ⟨w.heap.size + 1 + 1, 1, none⟩) (by simp; omega) (.int .i64 b)).setCell (p := ⟨w.heap.size + 1 + 1, 2, none⟩) (by simp; omega) (.string s)
  obtain ⟨⟨r0, r1, r2, r3, r4, r5⟩, f0, f1, f2, f3, f4, f5⟩ := Y2
  simp only at r0 r1 r2 r3 r4 r5 C1 CR
  obtain ⟨⟨_, _, _, p3, p4, p5⟩, _⟩ := Y0
  simp only at p3 p4 p5
  clear Z0 Z1 Z2 b1 B0 HT Y1 B1
  generalize hw1 : ((w1.setCell ⟨w.heap.size + 1 + 1, 0, none⟩ (.int .i64 a)).setCell ⟨w.heap.size + 1 + 1, 1, none⟩ (.int .i64 b)).setCell ⟨w.heap.size + 1 + 1, 2, none⟩ (.string s) = w2 at C1 CR B1'
  have HW1 := Lib.hid hw1
  clear hw1
  go_wp2_with fail
  rw [HW1.out]
  refine (HU.out _).mono ?_
  rintro e w3 ⟨rfl, b3⟩
  have B3 := below_then B1' b3 B1'.size
  obtain ⟨⟨m0, m1, m2, m3, m4, m5⟩, g0, g1, g2, g3, g4, g5⟩ := C1.below b3
  obtain ⟨⟨n0, n1, n2, n3, n4, n5⟩, h0, h1, h2, h3, h4, h5⟩ := CR.below b3
  simp only at m0 m1 m2 m3 m4 m5 n0 n1 n2 n3 n4 n5
  clear HU b3 B1' C1 CR r0 r1 r2 r3 r4 r5 f0 f1 f2 f3 f4 f5 p3 p4 p5
  go_wp2
  refine bodyPost_ret (v := .agg #[.int .i64 a, .int .i64 b, .string s, .int .i64 c, .int .i64 d, .string t]) (by simp [results, Try.results35, go_sem, *]) rfl ⟨rfl, ?_⟩
  exact (((((((((B3.setCell (by simp; omega) _).setCell (by simp; omega) _).setCell (by simp; omega) _).setCell (by simp) _).setCell (by simp) _).setCell (by simp) _).setCell (by simp) _).setCell (by simp) _).setCell (by simp) _)

set_option maxHeartbeats 1000000 in
theorem eqZone (z : Zn) (w : World) : Calls Try.prog 30 #[z.agg, z.agg] w fun e w' => e = .returned (.bool true) ∧ Below w.heap.size w w' := by
  obtain ⟨⟨a, b, s⟩, ⟨c, d, t⟩⟩ := z
  have HT := Lib.hid (fun W => eqVal ⟨a, b, s⟩ W)
  have HU := Lib.hid (fun W => eqVal ⟨c, d, t⟩ W)
  have B0 := below_alloc2 w (.cells #[.int .i64 a, .int .i64 b, .string s, .int .i64 c, .int .i64 d, .string t] 29) (.cells #[.int .i64 a, .int .i64 b, .string s, .int .i64 c, .int .i64 d, .string t] 29)
  have Z0 := (six_new w ⟨⟨a, b, s⟩, ⟨c, d, t⟩⟩ 29).below (below_alloc _ (.cells #[.int .i64 a, .int .i64 b, .string s, .int .i64 c, .int .i64 d, .string t] 29))
  have Z1 := six_new (w.alloc (.cells #[.int .i64 a, .int .i64 b, .string s, .int .i64 c, .int .i64 d, .string t] 29)) ⟨⟨a, b, s⟩, ⟨c, d, t⟩⟩ 29
  rw [World.size_alloc] at Z1
  go_enter Try.func30, Try.ntmps30
  go_wp2_with fail
  refine (HT.out _).mono ?_
  rintro e w1 ⟨rfl, b1⟩
  have B1 := below_then B0 b1 B0.size
  obtain ⟨⟨p0, p1, p2, p3, p4, p5⟩, _⟩ := Z0.below b1
  obtain ⟨⟨q0, q1, q2, q3, q4, q5⟩, _⟩ := Z1.below b1
  simp only at p0 p1 p2 p3 p4 p5 q0 q1 q2 q3 q4 q5
  clear Z0 Z1 b1 B0 HT
  go_wp2_with fail
  refine (HU.out _).mono ?_
  rintro e w2 ⟨rfl, b2⟩
  have B2 := below_then B1 b2 B1.size
  clear b2 B1 HU
  go_wp2
  go_ret
  exact ⟨rfl, B2⟩

/-- a == b, of Zones. -/
def Zn.eqB (x y : Zn) : Bool := x.lo.eqB y.lo && x.hi.eqB y.hi
theorem list2 {α : Type} {l : List α} (h : l.length = 2) : ∃ a b, l = [a, b] := by
  match l, h with
  | [a, b], _ => exact ⟨a, b, rfl⟩
theorem run_eq_val_at (d : Nat) (x y : V) (w : World) : (Op.equalIn (d + 2) 27 x.agg y.agg).run Try.prog w = .ok (x.eqB y) w := by
  obtain ⟨t1, n1, s1⟩ := x
  obtain ⟨t2, n2, s2⟩ := y
  rw [show V.agg ⟨t1, n1, s1⟩ = .agg #[.int .i64 t1, .int .i64 n1, .string s1] from rfl, show V.agg ⟨t2, n2, s2⟩ = .agg #[.int .i64 t2, .int .i64 n2, .string s2] from rfl]
  rw [run_equalIn_struct w (d + 1) 27 _ _ (by kernel_rfl) (by kernel_rfl)]
  have hf : ((Try.prog.fieldsOf 27).toList.map fun f => (f.name, f.type, f.offset)) = [("Ty", 3, 0), ("N", 3, 1), ("S", 9, 2)] := by kernel_rfl
  generalize (Try.prog.fieldsOf 27).toList = fs at hf ⊢
  obtain ⟨f0, f1, f2, rfl⟩ := list3 (by simpa using congrArg List.length hf)
  simp only [List.map_cons, List.map_nil, List.cons.injEq, Prod.mk.injEq, and_true] at hf
  obtain ⟨⟨a0, a1, a2⟩, ⟨b0, b1, b2⟩, c0, c1, c2⟩ := hf
  have hp3 : Try.prog.plainKey 3 = true := by kernel_rfl
  have hp9 : Try.prog.plainKey 9 = true := by kernel_rfl
  have P0 := fun (W : World) (x y z : Value) => run_part_plain (P := Try.prog) W hp3 (xs := #[x, y, z]) (off := 0) (v := x) rfl
  have P1 := fun (W : World) (x y z : Value) => run_part_plain (P := Try.prog) W hp3 (xs := #[x, y, z]) (off := 1) (v := y) rfl
  have P2 := fun (W : World) (x y z : Value) => run_part_plain (P := Try.prog) W hp9 (xs := #[x, y, z]) (off := 2) (v := z) rfl
  have E0 := fun (W : World) (x y : Int) => run_equalIn_int (P := Try.prog) W d 3 .i64 .i64 x y Try.underlying3
  have E2 := fun (W : World) (x y : ByteArray) => run_equalIn_string (P := Try.prog) W d 9 x y Try.underlying9
  simp only [Op.eqFields, a0, a1, a2, b0, b1, b2, c0, c1, c2, ne_eq, show ¬ "Ty" = "_" by decide, show ¬ "N" = "_" by decide, show ¬ "S" = "_" by decide, not_false_eq_true, if_true, Sem.run_bind, P0, P1, P2, E0, E2, Result.andThen_ok, Sem.run_ite, Sem.run_pure]
  unfold V.eqB
  simp only
  cases (t1 == t2) <;> cases (n1 == n2) <;> cases (s1.toList == s2.toList) <;> rfl
theorem run_part_lo (x y : V) (w : World) : (part 27 (Zn.cs ⟨x, y⟩).toArray 0).run Try.prog w = .ok x.agg w := by
  obtain ⟨a, b, s⟩ := x
  obtain ⟨c, d, t⟩ := y
  kernel_rfl
theorem run_part_hi (x y : V) (w : World) : (part 27 (Zn.cs ⟨x, y⟩).toArray 3).run Try.prog w = .ok y.agg w := by
  obtain ⟨a, b, s⟩ := x
  obtain ⟨c, d, t⟩ := y
  kernel_rfl
theorem Zn.agg_cs (z : Zn) : z.agg = .agg z.cs.toArray := rfl
theorem run_eq_zone (x y : Zn) (w : World) : (Op.equalIn 10000 29 x.agg y.agg).run Try.prog w = .ok (x.eqB y) w := by
  obtain ⟨xl, xh⟩ := x
  obtain ⟨yl, yh⟩ := y
  rw [Zn.agg_cs, Zn.agg_cs, run_equalIn_struct w 9999 29 _ _ (by kernel_rfl) (by kernel_rfl)]
  have hf : ((Try.prog.fieldsOf 29).toList.map fun f => (f.name, f.type, f.offset)) = [("Lo", 27, 0), ("Hi", 27, 3)] := by kernel_rfl
  generalize (Try.prog.fieldsOf 29).toList = fs at hf ⊢
  obtain ⟨f0, f1, rfl⟩ := list2 (by simpa using congrArg List.length hf)
  simp only [List.map_cons, List.map_nil, List.cons.injEq, Prod.mk.injEq, and_true] at hf
  obtain ⟨⟨a0, a1, a2⟩, b0, b1, b2⟩ := hf
  have E := fun (W : World) (x y : V) => run_eq_val_at 9997 x y W
  simp only [Nat.reduceAdd] at E
  simp only [Op.eqFields, a0, a1, a2, b0, b1, b2, ne_eq, show ¬ "Lo" = "_" by decide, show ¬ "Hi" = "_" by decide, not_false_eq_true, if_true, Sem.run_bind, run_part_lo, run_part_hi, E, Result.andThen_ok, Sem.run_ite, Sem.run_pure]
  unfold Zn.eqB
  simp only
  cases xl.eqB yl <;> cases xh.eqB yh <;> rfl
theorem run_neq_zone (x y : Zn) (w : World) : (binOp .neq 29 x.agg y.agg).run Try.prog w = .ok (.bool (!(x.eqB y))) w := by
  rw [run_neq_struct, run_eq_zone]
  rfl

end Go.Proofs.Ytcokmjdehclhkaa

/- Plain mathematics of chapter 10: the zone of a list, what holds of a value, what may hold in a zone. -/
namespace Go.Proofs.Ytcokmjdehclhkaa
open Go.RowKit

/-- One more value. -/
def stepZ (z : Zn) (v : V) : Zn := ⟨if lessV v z.lo = true then v else z.lo, if lessV z.hi v = true then v else z.hi⟩
/-- ZoneOf. -/
def zoneL : List V → Zn
  | [] => Zn.zero
  | x :: l => l.foldl stepZ ⟨x, x⟩
theorem zoneL_step (l : List V) (v : V) (h : l ≠ []) : zoneL (l ++ [v]) = stepZ (zoneL l) v := by
  cases l with
  | nil => exact absurd rfl h
  | cons x l =>
    show (l ++ [v]).foldl stepZ _ = _
    rw [List.foldl_append]
    rfl
theorem zoneL_take {l : List V} {k : Nat} (hk : k < l.length) (h0 : 0 < k) : zoneL (l.take (k + 1)) = stepZ (zoneL (l.take k)) (l.getD k V.zero) := by
  have e : l.getD k V.zero = l[k] := by simp [hk]
  rw [e, List.take_succ_eq_append_getElem hk]
  exact zoneL_step _ _ (by
    intro e
    have := congrArg List.length e
    rw [List.length_take, List.length_nil] at this
    omega)
theorem zoneL_one {l : List V} (h : 0 < l.length) : zoneL (l.take 1) = ⟨l.getD 0 V.zero, l.getD 0 V.zero⟩ := by
  cases l with
  | nil => simp at h
  | cons x l => rfl
theorem stepZ_self (v : V) : stepZ ⟨v, v⟩ v = ⟨v, v⟩ := by
  unfold stepZ
  simp

/-- Holds1. -/
def holdsB (op : Int) (a b : V) : Bool :=
  if op = 1 then lessV a b else if op = 2 then !(lessV b a) else if op = 3 then a.eqB b else if op = 4 then !(a.eqB b) else if op = 5 then !(lessV a b) else if op = 6 then lessV b a else false
/-- InZone. -/
def inZB (z : Zn) (v : V) : Bool := !(lessV v z.lo) && !(lessV z.hi v)
/-- MayHold1. -/
def mayB (op : Int) (z : Zn) (v : V) : Bool :=
  if op = 1 then lessV z.lo v else if op = 2 then !(lessV v z.lo) else if op = 3 then inZB z v else if op = 4 then !(z.lo.eqB v) || !(z.hi.eqB v) else if op = 5 then !(lessV z.hi v) else if op = 6 then lessV v z.hi else false
/-- Opposite. -/
def oppI (op : Int) : Int := if op = 1 then 5 else if op = 2 then 6 else if op = 3 then 4 else if op = 4 then 3 else if op = 5 then 1 else if op = 6 then 2 else 0
/-- OpText. -/
def opT (op : Int) : ByteArray := if op = 1 then ⟨#[60]⟩ else if op = 2 then ⟨#[60, 61]⟩ else if op = 3 then ⟨#[61]⟩ else if op = 4 then ⟨#[33, 61]⟩ else if op = 5 then ⟨#[62, 61]⟩ else if op = 6 then ⟨#[62]⟩ else ⟨#[]⟩
theorem op_no {op : Int} (h : ¬ (1 ≤ op ∧ op ≤ 6)) : oppI op = 0 ∧ opT op = ⟨#[]⟩ ∧ (∀ a b, holdsB op a b = false) ∧ ∀ z v, mayB op z v = false := by
  have h1 : ¬ op = 1 := by omega
  have h2 : ¬ op = 2 := by omega
  have h3 : ¬ op = 3 := by omega
  have h4 : ¬ op = 4 := by omega
  have h5 : ¬ op = 5 := by omega
  have h6 : ¬ op = 6 := by omega
  refine ⟨?_, ?_, fun a b => ?_, fun z v => ?_⟩
  · unfold oppI; simp only [if_neg h1, if_neg h2, if_neg h3, if_neg h4, if_neg h5, if_neg h6]
  · unfold opT; simp only [if_neg h1, if_neg h2, if_neg h3, if_neg h4, if_neg h5, if_neg h6]
  · unfold holdsB; simp only [if_neg h1, if_neg h2, if_neg h3, if_neg h4, if_neg h5, if_neg h6]
  · unfold mayB; simp only [if_neg h1, if_neg h2, if_neg h3, if_neg h4, if_neg h5, if_neg h6]
theorem op_cases {op : Int} (h : 1 ≤ op ∧ op ≤ 6) : op = 1 ∨ op = 2 ∨ op = 3 ∨ op = 4 ∨ op = 5 ∨ op = 6 := by omega
theorem opp_opp {op : Int} (h : 1 ≤ op ∧ op ≤ 6) : oppI (oppI op) = op := by
  rcases op_cases h with rfl | rfl | rfl | rfl | rfl | rfl <;> rfl
theorem opp_in {op : Int} (h : 1 ≤ op ∧ op ≤ 6) : 1 ≤ oppI op ∧ oppI op ≤ 6 := by
  rcases op_cases h with rfl | rfl | rfl | rfl | rfl | rfl <;> exact ⟨by decide, by decide⟩
theorem holds_opp {op : Int} (h : 1 ≤ op ∧ op ≤ 6) (a b : V) : holdsB (oppI op) a b = !(holdsB op a b) := by
  rcases op_cases h with rfl | rfl | rfl | rfl | rfl | rfl
  · rfl
  · show lessV b a = !(!(lessV b a))
    rw [Bool.not_not]
  · rfl
  · show a.eqB b = !(!(a.eqB b))
    rw [Bool.not_not]
  · show lessV a b = !(!(lessV a b))
    rw [Bool.not_not]
  · rfl

theorem Zn.eqB_true {x y : Zn} : x.eqB y = true ↔ x = y := by
  obtain ⟨a, b⟩ := x
  obtain ⟨c, d⟩ := y
  unfold Zn.eqB
  simp only [Bool.and_eq_true, Go.Proofs.Ytcokmjdehclhkaa.eqB_true, Zn.mk.injEq]

/-- Every value of l lies in z, and its ends are among them. -/
structure Spans (z : Zn) (l : List V) : Prop where
  lo : z.lo ∈ l
  hi : z.hi ∈ l
  low : ∀ v ∈ l, lessV v z.lo = false
  high : ∀ v ∈ l, lessV z.hi v = false
theorem spans_step {z : Zn} {l : List V} (h : Spans z l) (v : V) : Spans (stepZ z v) (l ++ [v]) := by
  have hv : v ∈ l ++ [v] := by simp
  have hold : ∀ x ∈ l, x ∈ l ++ [v] := fun x hx => List.mem_append_left _ hx
  unfold stepZ
  refine ⟨?_, ?_, fun x hx => ?_, fun x hx => ?_⟩
  · show (if lessV v z.lo = true then v else z.lo) ∈ _
    split
    · exact hv
    · exact hold _ h.lo
  · show (if lessV z.hi v = true then v else z.hi) ∈ _
    split
    · exact hv
    · exact hold _ h.hi
  · show lessV x (if lessV v z.lo = true then v else z.lo) = false
    rcases List.mem_append.1 hx with hx | hx
    · split
      · rename_i h1
        exact lessV_ntrans (h.low x hx) (lessV_asymm h1)
      · exact h.low x hx
    · rw [List.mem_singleton.1 hx]
      split
      · exact lessV_irrefl v
      · rename_i h1
        exact Bool.eq_false_iff.2 h1
  · show lessV (if lessV z.hi v = true then v else z.hi) x = false
    rcases List.mem_append.1 hx with hx | hx
    · split
      · rename_i h1
        exact lessV_ntrans (lessV_asymm h1) (h.high x hx)
      · exact h.high x hx
    · rw [List.mem_singleton.1 hx]
      split
      · exact lessV_irrefl v
      · rename_i h1
        exact Bool.eq_false_iff.2 h1
theorem spans_fold : ∀ (r l : List V) (z : Zn), Spans z l → Spans (r.foldl stepZ z) (l ++ r)
  | [], l, z, h => by simpa using h
  | v :: r, l, z, h => by
    have := spans_fold r (l ++ [v]) (stepZ z v) (spans_step h v)
    rw [List.append_assoc] at this
    exact this
theorem zone_spans {l : List V} (h : l ≠ []) : Spans (zoneL l) l := by
  cases l with
  | nil => exact absurd rfl h
  | cons x l =>
    refine spans_fold l [x] ⟨x, x⟩ ⟨by simp, by simp, fun v hv => ?_, fun v hv => ?_⟩ <;> rw [List.mem_singleton.1 hv] <;> exact lessV_irrefl x
theorem inZ_of {z : Zn} {l : List V} (h : Spans z l) {v : V} (hv : v ∈ l) : inZB z v = true := by
  unfold inZB
  rw [h.low v hv, h.high v hv]
  rfl
theorem may_of {z : Zn} {l : List V} (h : Spans z l) {x v : V} (hx : x ∈ l) {op : Int} (hh : holdsB op x v = true) : mayB op z v = true := by
  have hl := h.low x hx
  have hg := h.high x hx
  by_cases ho : 1 ≤ op ∧ op ≤ 6
  · rcases op_cases ho with rfl | rfl | rfl | rfl | rfl | rfl
    · replace hh : lessV x v = true := hh
      show lessV z.lo v = true
      cases hc : lessV z.lo v with
      | true => rfl
      | false =>
        rw [lessV_ntrans hl hc] at hh
        exact hh
    · replace hh : (!(lessV v x)) = true := hh
      show (!(lessV v z.lo)) = true
      cases hc : lessV v z.lo with
      | false => rfl
      | true =>
        have h2 : lessV v x = false := by simpa using hh
        have := lessV_ntrans h2 hl
        rw [hc] at this
        cases this
    · replace hh : x.eqB v = true := hh
      rw [← eqB_true.1 hh]
      exact inZ_of h hx
    · replace hh : (!(x.eqB v)) = true := hh
      show (!(z.lo.eqB v) || !(z.hi.eqB v)) = true
      cases h1 : z.lo.eqB v with
      | false => rfl
      | true =>
        cases h2 : z.hi.eqB v with
        | false => rfl
        | true =>
          rw [eqB_true.1 h1] at hl
          rw [eqB_true.1 h2] at hg
          rw [lessV_tri hl hg, eqB_true.2 rfl] at hh
          exact hh
    · replace hh : (!(lessV x v)) = true := hh
      show (!(lessV z.hi v)) = true
      cases hc : lessV z.hi v with
      | false => rfl
      | true =>
        have h2 : lessV x v = false := by simpa using hh
        have := lessV_ntrans hg h2
        rw [hc] at this
        cases this
    · replace hh : lessV v x = true := hh
      show lessV v z.hi = true
      cases hc : lessV v z.hi with
      | true => rfl
      | false =>
        rw [lessV_ntrans hc hg] at hh
        exact hh
  · rw [(op_no ho).2.2.1] at hh
    cases hh
theorem zoneL_sizes {l : List V} (h : ∀ v ∈ l, v.s.size ≤ maxLen) : (zoneL l).lo.s.size ≤ maxLen ∧ (zoneL l).hi.s.size ≤ maxLen := by
  cases hl : l with
  | nil => exact ⟨Nat.zero_le _, Nat.zero_le _⟩
  | cons x r =>
    have hs := zone_spans (l := l) (by rw [hl]; simp)
    rw [hl] at hs
    rw [hl] at h
    exact ⟨h _ hs.lo, h _ hs.hi⟩

end Go.Proofs.Ytcokmjdehclhkaa

/- The contract of the model's ZoneOf. -/
namespace Go.Proofs.Ytcokmjdehclhkaa
open Go.RowKit

/-- ZoneOf under way: its result's block, and that of z. -/
structure St (w W : World) (z : Zn) : Prop where
  cur : Six W (w.heap.size + 1) z
  res : Six W w.heap.size Zn.zero
  bel : Below w.heap.size w W
theorem St.below {w W W' : World} {z : Zn} (h : St w W z) (hb : Below W.heap.size W W') : St w W' z := ⟨h.cur.below hb, h.res.below hb, below_then h.bel hb h.bel.size⟩
theorem St.lo {w W : World} {z : Zn} (h : St w W z) (v : V) : St w ((((W).setCell ⟨w.heap.size + 1, 0, none⟩ (.int .i64 v.ty)).setCell ⟨w.heap.size + 1, 1, none⟩ (.int .i64 v.n)).setCell ⟨w.heap.size + 1, 2, none⟩ (.string v.s)) ⟨v, z.hi⟩ :=
  ⟨h.cur.setLo v, ((h.res.other (p := ⟨w.heap.size + 1, 0, none⟩) (by simp) (.int .i64 v.ty)).other (p := ⟨w.heap.size + 1, 1, none⟩) (by simp) (.int .i64 v.n)).other (p := ⟨w.heap.size + 1, 2, none⟩) (by simp) (.string v.s), ((h.bel.setCell (p := ⟨w.heap.size + 1, 0, none⟩) (by simp) (.int .i64 v.ty)).setCell (p := ⟨w.heap.size + 1, 1, none⟩) (by simp) (.int .i64 v.n)).setCell (p := ⟨w.heap.size + 1, 2, none⟩) (by simp) (.string v.s)⟩
theorem St.hi {w W : World} {z : Zn} (h : St w W z) (v : V) : St w ((((W).setCell ⟨w.heap.size + 1, 3, none⟩ (.int .i64 v.ty)).setCell ⟨w.heap.size + 1, 4, none⟩ (.int .i64 v.n)).setCell ⟨w.heap.size + 1, 5, none⟩ (.string v.s)) ⟨z.lo, v⟩ :=
  ⟨h.cur.setHi v, ((h.res.other (p := ⟨w.heap.size + 1, 3, none⟩) (by simp) (.int .i64 v.ty)).other (p := ⟨w.heap.size + 1, 4, none⟩) (by simp) (.int .i64 v.n)).other (p := ⟨w.heap.size + 1, 5, none⟩) (by simp) (.string v.s), ((h.bel.setCell (p := ⟨w.heap.size + 1, 3, none⟩) (by simp) (.int .i64 v.ty)).setCell (p := ⟨w.heap.size + 1, 4, none⟩) (by simp) (.int .i64 v.n)).setCell (p := ⟨w.heap.size + 1, 5, none⟩) (by simp) (.string v.s)⟩
/-- The cells of a Val at p, in each later world. -/
def Later3 (w : World) (b o : Nat) (x : V) : Prop := ∀ W, Below w.heap.size w W → W.cell? ⟨b, o, none⟩ = some (.int .i64 x.ty) ∧ W.cell? ⟨b, o + 1, none⟩ = some (.int .i64 x.n) ∧ W.cell? ⟨b, o + 2, none⟩ = some (.string x.s)
theorem later3 {w : World} {b o : Nat} {x : V} (h0 : w.cell? ⟨b, o, none⟩ = some (.int .i64 x.ty)) (h1 : w.cell? ⟨b, o + 1, none⟩ = some (.int .i64 x.n)) (h2 : w.cell? ⟨b, o + 2, none⟩ = some (.string x.s)) : Later3 w b o x :=
  fun _ hb => ⟨(hb.cell (p := ⟨b, o, none⟩) (lt_of_cell h0)).trans h0, (hb.cell (p := ⟨b, o + 1, none⟩) (lt_of_cell h1)).trans h1, (hb.cell (p := ⟨b, o + 2, none⟩) (lt_of_cell h2)).trans h2⟩
theorem zoneL_next {l : List V} {k : Nat} (hk : k < l.length) (h0 : 0 < k) : zoneL (l.take (k + 1)) = ⟨if lessV (l.getD k V.zero) (zoneL (l.take k)).lo = true then l.getD k V.zero else (zoneL (l.take k)).lo, if lessV (zoneL (l.take k)).hi (l.getD k V.zero) = true then l.getD k V.zero else (zoneL (l.take k)).hi⟩ := zoneL_take hk h0

set_option maxHeartbeats 4000000 in
theorem sZoneOf (u : Value) (l : List V) (w : World) (h : Rd 3 w u l.length (vals l)) :
    Calls Try.prog 16 #[u] w fun e w' => e = .returned (zoneL l).agg ∧ Below w.heap.size w w' := by
  have HALL : Hid (zoneL l = zoneL (l.take l.length)) := by
    show _ = _
    rw [List.take_length]
  have HSTEP := Lib.hid (fun k (hk : k < l.length) (h0 : 0 < k) => zoneL_next hk h0)
  have HONE := Lib.hid (zoneL_one (l := l))
  have HZERO : Hid (zoneL (l.take 0) = Zn.zero) := by
    show _ = _
    rw [List.take_zero]
    rfl
  generalize hl : l.length = n at h HALL HSTEP HONE
  obtain ⟨a, cap, rfl, hm, HC⟩ := h.vals hl
  unfold maxLen at hm
  rw [HALL.out]
  clear h hl HALL
  have ST : St w ((w.alloc (.cells #[.int .i64 0, .int .i64 0, .string ⟨#[]⟩, .int .i64 0, .int .i64 0, .string ⟨#[]⟩] 29)).alloc (.cells #[.int .i64 0, .int .i64 0, .string ⟨#[]⟩, .int .i64 0, .int .i64 0, .string ⟨#[]⟩] 29)) Zn.zero := by
    refine ⟨?_, (six_new w Zn.zero 29).below (below_alloc _ _), below_alloc2 _ _ _⟩
    have := six_new (w.alloc (.cells #[.int .i64 0, .int .i64 0, .string ⟨#[]⟩, .int .i64 0, .int .i64 0, .string ⟨#[]⟩] 29)) Zn.zero 29
    rw [World.size_alloc] at this
    exact this
  generalize hw0 : ((w.alloc (.cells #[.int .i64 0, .int .i64 0, .string ⟨#[]⟩, .int .i64 0, .int .i64 0, .string ⟨#[]⟩] 29)).alloc (.cells #[.int .i64 0, .int .i64 0, .string ⟨#[]⟩, .int .i64 0, .int .i64 0, .string ⟨#[]⟩] 29)) = w0 at ST
  have HW := Lib.hid hw0
  clear hw0
  go_enter Try.func16, Try.ntmps16
  go_wp2_with fail
  rw [HW.out]
  go_loopw [4] (fun i wr => ∃ k : Nat, k ≤ n ∧ i = .int .i64 k ∧ St w wr (zoneL (l.take k))) (fun i _ => n - (intOf i).toNat)
  case atStart => exact ⟨0, Nat.zero_le _, rfl, by rw [HZERO.out]; exact ST⟩
  case round =>
    obtain ⟨k, hk, rfl, hst⟩ := hrel
    clear ST HW
    by_cases hlt : k < n
    · obtain ⟨b, off, rfl, p0, p1, p2⟩ := HC.out k hlt
      have HL := Lib.hid (later3 p0 p1 p2)
      clear p0 p1 p2
      by_cases hk0 : k = 0
      · subst hk0
        have HN := Lib.hid (HONE.out (by omega))
        generalize l.getD 0 V.zero = x at HL HN
        generalize zoneL (l.take 0) = z at hst
        obtain ⟨xt, xn, xs⟩ := x
        obtain ⟨⟨a1, b1, s1⟩, ⟨c1, d1, t1⟩⟩ := z
        have S1 := hst
        clear hst HZERO
        go_wp2
        go_quiet (fail)
        have S1q := S1.below (below_drewN wr _ nq)
        generalize wr.drewN nq = w2a at S1q ⊢
        obtain ⟨p0, p1, p2⟩ := HL.out w2a S1q.bel
        have S2 := S1q.lo ⟨xt, xn, xs⟩
        obtain ⟨⟨c0, c1, c2, c3, c4, c5⟩, f0, f1, f2, f3, f4, f5⟩ := S1q.cur
        simp only [Nat.zero_mul, Nat.add_zero] at p0 p1 p2 c0 c1 c2 c3 c4 c5 S2
        generalize hw2 : (((w2a).setCell ⟨w.heap.size + 1, 0, none⟩ (.int .i64 xt)).setCell ⟨w.heap.size + 1, 1, none⟩ (.int .i64 xn)).setCell ⟨w.heap.size + 1, 2, none⟩ (.string xs) = w2 at S2
        have Hw2 := Lib.hid hw2
        clear hw2
        go_wp2
        rw [Hw2.out]
        clear p0 p1 p2 c0 c1 c2 c3 c4 c5 f0 f1 f2 f3 f4 f5
        go_quiet (fail)
        have S2q := S2.below (below_drewN w2 _ nq)
        generalize w2.drewN nq = w3a at S2q ⊢
        obtain ⟨p0, p1, p2⟩ := HL.out w3a S2q.bel
        have S3 := S2q.hi ⟨xt, xn, xs⟩
        obtain ⟨⟨c0, c1, c2, c3, c4, c5⟩, f0, f1, f2, f3, f4, f5⟩ := S2q.cur
        simp only [Nat.zero_mul, Nat.add_zero] at p0 p1 p2 c0 c1 c2 c3 c4 c5 S3
        go_wp2
        go_roundw
        case rel => exact ⟨1, by omega, by go_num, by rw [HN.out]; exact S3⟩
        case measure => simp [intOf]; omega
      · have HN := Lib.hid (HSTEP.out k hlt (by omega))
        generalize l.getD k V.zero = x at HL HN
        generalize zoneL (l.take k) = z at hst HN
        have hb0 : ((k : Int) == 0) = false := by simp; omega
        have HX := Lib.hid (fun W => sLessVal x z.lo W)
        have HY := Lib.hid (fun W => sLessVal z.hi x W)
        cases hx : lessV x z.lo with
        | true =>
          rw [hx] at HN HX
          rw [if_pos rfl] at HN
          cases hy : lessV z.hi x with
          | true =>
            rw [hy] at HN HY
            rw [if_pos rfl] at HN
            obtain ⟨xt, xn, xs⟩ := x
            obtain ⟨⟨a1, b1, s1⟩, ⟨c1, d1, t1⟩⟩ := z
            have S1 := hst
            clear hst hx hy HSTEP HONE HZERO
            simp only at HX HY
            go_wp2
            have HKlo : Hid (∀ W, Below wr.heap.size wr W → W.cell? ⟨b, off + k * 3, none⟩ = some (.int .i64 xt) ∧ W.cell? ⟨b, off + k * 3 + 1, none⟩ = some (.int .i64 xn) ∧ W.cell? ⟨b, off + k * 3 + 2, none⟩ = some (.string xs) ∧ W.cell? ⟨w.heap.size + 1, 0, none⟩ = some (.int .i64 a1) ∧ W.cell? ⟨w.heap.size + 1, 1, none⟩ = some (.int .i64 b1) ∧ W.cell? ⟨w.heap.size + 1, 2, none⟩ = some (.string s1)) := fun W hW =>
              ⟨(HL.out W (S1.below hW).bel).1, (HL.out W (S1.below hW).bel).2.1, (HL.out W (S1.below hW).bel).2.2, (S1.below hW).cur.1.1, (S1.below hW).cur.1.2.1, (S1.below hW).cur.1.2.2.1⟩
            have HSlo := Lib.hid S1
            have hB' := (Below.refl wr.heap.size wr).drew
            clear S1
            go_region_held3 (fun W => W.cell? ⟨b, off + k * 3, none⟩ = some (.int .i64 xt) ∧ W.cell? ⟨b, off + k * 3 + 1, none⟩ = some (.int .i64 xn) ∧ W.cell? ⟨b, off + k * 3 + 2, none⟩ = some (.string xs) ∧ W.cell? ⟨w.heap.size + 1, 0, none⟩ = some (.int .i64 a1) ∧ W.cell? ⟨w.heap.size + 1, 1, none⟩ = some (.int .i64 b1) ∧ W.cell? ⟨w.heap.size + 1, 2, none⟩ = some (.string s1)) (exact HKlo.out _ hB') ((go_at_call 41; (with_reducible refine (HX.out _).mono ?_); rintro e w2 ⟨rfl, hb2⟩; replace hB' := below_then hB' hb2 hB'.size))
            have S2 := HSlo.out.below hB'
            clear HKlo HSlo hB' hb2 HX
            obtain ⟨p0, p1, p2⟩ := HL.out w2 S2.bel
            have S3 := S2.lo ⟨xt, xn, xs⟩
            obtain ⟨⟨c0, c1, c2, c3, c4, c5⟩, f0, f1, f2, f3, f4, f5⟩ := S2.cur
            simp only at p0 p1 p2 c0 c1 c2 c3 c4 c5 S3
            generalize hw3 : (((w2).setCell ⟨w.heap.size + 1, 0, none⟩ (.int .i64 xt)).setCell ⟨w.heap.size + 1, 1, none⟩ (.int .i64 xn)).setCell ⟨w.heap.size + 1, 2, none⟩ (.string xs) = w3 at S3
            have Hw3 := Lib.hid hw3
            clear hw3
            go_wp2
            rw [Hw3.out]
            clear p0 p1 p2 c0 c1 c2 c3 c4 c5 f0 f1 f2 f3 f4 f5
            have HKhi : Hid (∀ W, Below w3.heap.size w3 W → W.cell? ⟨b, off + k * 3, none⟩ = some (.int .i64 xt) ∧ W.cell? ⟨b, off + k * 3 + 1, none⟩ = some (.int .i64 xn) ∧ W.cell? ⟨b, off + k * 3 + 2, none⟩ = some (.string xs) ∧ W.cell? ⟨w.heap.size + 1, 3, none⟩ = some (.int .i64 c1) ∧ W.cell? ⟨w.heap.size + 1, 4, none⟩ = some (.int .i64 d1) ∧ W.cell? ⟨w.heap.size + 1, 5, none⟩ = some (.string t1)) := fun W hW =>
              ⟨(HL.out W (S3.below hW).bel).1, (HL.out W (S3.below hW).bel).2.1, (HL.out W (S3.below hW).bel).2.2, (S3.below hW).cur.1.2.2.2.1, (S3.below hW).cur.1.2.2.2.2.1, (S3.below hW).cur.1.2.2.2.2.2⟩
            have HShi := Lib.hid S3
            have hB' := (Below.refl w3.heap.size w3).drew
            clear S3
            go_region_held3 (fun W => W.cell? ⟨b, off + k * 3, none⟩ = some (.int .i64 xt) ∧ W.cell? ⟨b, off + k * 3 + 1, none⟩ = some (.int .i64 xn) ∧ W.cell? ⟨b, off + k * 3 + 2, none⟩ = some (.string xs) ∧ W.cell? ⟨w.heap.size + 1, 3, none⟩ = some (.int .i64 c1) ∧ W.cell? ⟨w.heap.size + 1, 4, none⟩ = some (.int .i64 d1) ∧ W.cell? ⟨w.heap.size + 1, 5, none⟩ = some (.string t1)) (exact HKhi.out _ hB') ((go_at_call 41; (with_reducible refine (HY.out _).mono ?_); rintro e w4 ⟨rfl, hb2⟩; replace hB' := below_then hB' hb2 hB'.size))
            have S4 := HShi.out.below hB'
            clear HKhi HShi hB' hb2 HY
            obtain ⟨p0, p1, p2⟩ := HL.out w4 S4.bel
            have S5 := S4.hi ⟨xt, xn, xs⟩
            obtain ⟨⟨c0, c1, c2, c3, c4, c5⟩, f0, f1, f2, f3, f4, f5⟩ := S4.cur
            simp only at p0 p1 p2 c0 c1 c2 c3 c4 c5 S5
            go_wp2
            go_roundw
            case rel => exact ⟨k + 1, by omega, by go_num, by rw [HN.out]; exact S5⟩
            case measure => simp [intOf]; omega
          | false =>
            rw [hy] at HN HY
            rw [if_neg Bool.false_ne_true] at HN
            obtain ⟨xt, xn, xs⟩ := x
            obtain ⟨⟨a1, b1, s1⟩, ⟨c1, d1, t1⟩⟩ := z
            have S1 := hst
            clear hst hx hy HSTEP HONE HZERO
            simp only at HX HY
            go_wp2
            have HKlo : Hid (∀ W, Below wr.heap.size wr W → W.cell? ⟨b, off + k * 3, none⟩ = some (.int .i64 xt) ∧ W.cell? ⟨b, off + k * 3 + 1, none⟩ = some (.int .i64 xn) ∧ W.cell? ⟨b, off + k * 3 + 2, none⟩ = some (.string xs) ∧ W.cell? ⟨w.heap.size + 1, 0, none⟩ = some (.int .i64 a1) ∧ W.cell? ⟨w.heap.size + 1, 1, none⟩ = some (.int .i64 b1) ∧ W.cell? ⟨w.heap.size + 1, 2, none⟩ = some (.string s1)) := fun W hW =>
              ⟨(HL.out W (S1.below hW).bel).1, (HL.out W (S1.below hW).bel).2.1, (HL.out W (S1.below hW).bel).2.2, (S1.below hW).cur.1.1, (S1.below hW).cur.1.2.1, (S1.below hW).cur.1.2.2.1⟩
            have HSlo := Lib.hid S1
            have hB' := (Below.refl wr.heap.size wr).drew
            clear S1
            go_region_held3 (fun W => W.cell? ⟨b, off + k * 3, none⟩ = some (.int .i64 xt) ∧ W.cell? ⟨b, off + k * 3 + 1, none⟩ = some (.int .i64 xn) ∧ W.cell? ⟨b, off + k * 3 + 2, none⟩ = some (.string xs) ∧ W.cell? ⟨w.heap.size + 1, 0, none⟩ = some (.int .i64 a1) ∧ W.cell? ⟨w.heap.size + 1, 1, none⟩ = some (.int .i64 b1) ∧ W.cell? ⟨w.heap.size + 1, 2, none⟩ = some (.string s1)) (exact HKlo.out _ hB') ((go_at_call 41; (with_reducible refine (HX.out _).mono ?_); rintro e w2 ⟨rfl, hb2⟩; replace hB' := below_then hB' hb2 hB'.size))
            have S2 := HSlo.out.below hB'
            clear HKlo HSlo hB' hb2 HX
            obtain ⟨p0, p1, p2⟩ := HL.out w2 S2.bel
            have S3 := S2.lo ⟨xt, xn, xs⟩
            obtain ⟨⟨c0, c1, c2, c3, c4, c5⟩, f0, f1, f2, f3, f4, f5⟩ := S2.cur
            simp only at p0 p1 p2 c0 c1 c2 c3 c4 c5 S3
            generalize hw3 : (((w2).setCell ⟨w.heap.size + 1, 0, none⟩ (.int .i64 xt)).setCell ⟨w.heap.size + 1, 1, none⟩ (.int .i64 xn)).setCell ⟨w.heap.size + 1, 2, none⟩ (.string xs) = w3 at S3
            have Hw3 := Lib.hid hw3
            clear hw3
            go_wp2
            rw [Hw3.out]
            clear p0 p1 p2 c0 c1 c2 c3 c4 c5 f0 f1 f2 f3 f4 f5
            have HKhi : Hid (∀ W, Below w3.heap.size w3 W → W.cell? ⟨b, off + k * 3, none⟩ = some (.int .i64 xt) ∧ W.cell? ⟨b, off + k * 3 + 1, none⟩ = some (.int .i64 xn) ∧ W.cell? ⟨b, off + k * 3 + 2, none⟩ = some (.string xs) ∧ W.cell? ⟨w.heap.size + 1, 3, none⟩ = some (.int .i64 c1) ∧ W.cell? ⟨w.heap.size + 1, 4, none⟩ = some (.int .i64 d1) ∧ W.cell? ⟨w.heap.size + 1, 5, none⟩ = some (.string t1)) := fun W hW =>
              ⟨(HL.out W (S3.below hW).bel).1, (HL.out W (S3.below hW).bel).2.1, (HL.out W (S3.below hW).bel).2.2, (S3.below hW).cur.1.2.2.2.1, (S3.below hW).cur.1.2.2.2.2.1, (S3.below hW).cur.1.2.2.2.2.2⟩
            have HShi := Lib.hid S3
            have hB' := (Below.refl w3.heap.size w3).drew
            clear S3
            go_region_held3 (fun W => W.cell? ⟨b, off + k * 3, none⟩ = some (.int .i64 xt) ∧ W.cell? ⟨b, off + k * 3 + 1, none⟩ = some (.int .i64 xn) ∧ W.cell? ⟨b, off + k * 3 + 2, none⟩ = some (.string xs) ∧ W.cell? ⟨w.heap.size + 1, 3, none⟩ = some (.int .i64 c1) ∧ W.cell? ⟨w.heap.size + 1, 4, none⟩ = some (.int .i64 d1) ∧ W.cell? ⟨w.heap.size + 1, 5, none⟩ = some (.string t1)) (exact HKhi.out _ hB') ((go_at_call 41; (with_reducible refine (HY.out _).mono ?_); rintro e w4 ⟨rfl, hb2⟩; replace hB' := below_then hB' hb2 hB'.size))
            have S4 := HShi.out.below hB'
            clear HKhi HShi hB' hb2 HY
            have S5 := S4
            clear S4
            go_wp2
            go_roundw
            case rel => exact ⟨k + 1, by omega, by go_num, by rw [HN.out]; exact S5⟩
            case measure => simp [intOf]; omega
        | false =>
          rw [hx] at HN HX
          rw [if_neg Bool.false_ne_true] at HN
          cases hy : lessV z.hi x with
          | true =>
            rw [hy] at HN HY
            rw [if_pos rfl] at HN
            obtain ⟨xt, xn, xs⟩ := x
            obtain ⟨⟨a1, b1, s1⟩, ⟨c1, d1, t1⟩⟩ := z
            have S1 := hst
            clear hst hx hy HSTEP HONE HZERO
            simp only at HX HY
            go_wp2
            have HKlo : Hid (∀ W, Below wr.heap.size wr W → W.cell? ⟨b, off + k * 3, none⟩ = some (.int .i64 xt) ∧ W.cell? ⟨b, off + k * 3 + 1, none⟩ = some (.int .i64 xn) ∧ W.cell? ⟨b, off + k * 3 + 2, none⟩ = some (.string xs) ∧ W.cell? ⟨w.heap.size + 1, 0, none⟩ = some (.int .i64 a1) ∧ W.cell? ⟨w.heap.size + 1, 1, none⟩ = some (.int .i64 b1) ∧ W.cell? ⟨w.heap.size + 1, 2, none⟩ = some (.string s1)) := fun W hW =>
              ⟨(HL.out W (S1.below hW).bel).1, (HL.out W (S1.below hW).bel).2.1, (HL.out W (S1.below hW).bel).2.2, (S1.below hW).cur.1.1, (S1.below hW).cur.1.2.1, (S1.below hW).cur.1.2.2.1⟩
            have HSlo := Lib.hid S1
            have hB' := (Below.refl wr.heap.size wr).drew
            clear S1
            go_region_held3 (fun W => W.cell? ⟨b, off + k * 3, none⟩ = some (.int .i64 xt) ∧ W.cell? ⟨b, off + k * 3 + 1, none⟩ = some (.int .i64 xn) ∧ W.cell? ⟨b, off + k * 3 + 2, none⟩ = some (.string xs) ∧ W.cell? ⟨w.heap.size + 1, 0, none⟩ = some (.int .i64 a1) ∧ W.cell? ⟨w.heap.size + 1, 1, none⟩ = some (.int .i64 b1) ∧ W.cell? ⟨w.heap.size + 1, 2, none⟩ = some (.string s1)) (exact HKlo.out _ hB') ((go_at_call 41; (with_reducible refine (HX.out _).mono ?_); rintro e w2 ⟨rfl, hb2⟩; replace hB' := below_then hB' hb2 hB'.size))
            have S2 := HSlo.out.below hB'
            clear HKlo HSlo hB' hb2 HX
            have S3 := S2
            clear S2
            go_wp2
            have HKhi : Hid (∀ W, Below w2.heap.size w2 W → W.cell? ⟨b, off + k * 3, none⟩ = some (.int .i64 xt) ∧ W.cell? ⟨b, off + k * 3 + 1, none⟩ = some (.int .i64 xn) ∧ W.cell? ⟨b, off + k * 3 + 2, none⟩ = some (.string xs) ∧ W.cell? ⟨w.heap.size + 1, 3, none⟩ = some (.int .i64 c1) ∧ W.cell? ⟨w.heap.size + 1, 4, none⟩ = some (.int .i64 d1) ∧ W.cell? ⟨w.heap.size + 1, 5, none⟩ = some (.string t1)) := fun W hW =>
              ⟨(HL.out W (S3.below hW).bel).1, (HL.out W (S3.below hW).bel).2.1, (HL.out W (S3.below hW).bel).2.2, (S3.below hW).cur.1.2.2.2.1, (S3.below hW).cur.1.2.2.2.2.1, (S3.below hW).cur.1.2.2.2.2.2⟩
            have HShi := Lib.hid S3
            have hB' := (Below.refl w2.heap.size w2).drew
            clear S3
            go_region_held3 (fun W => W.cell? ⟨b, off + k * 3, none⟩ = some (.int .i64 xt) ∧ W.cell? ⟨b, off + k * 3 + 1, none⟩ = some (.int .i64 xn) ∧ W.cell? ⟨b, off + k * 3 + 2, none⟩ = some (.string xs) ∧ W.cell? ⟨w.heap.size + 1, 3, none⟩ = some (.int .i64 c1) ∧ W.cell? ⟨w.heap.size + 1, 4, none⟩ = some (.int .i64 d1) ∧ W.cell? ⟨w.heap.size + 1, 5, none⟩ = some (.string t1)) (exact HKhi.out _ hB') ((go_at_call 41; (with_reducible refine (HY.out _).mono ?_); rintro e w4 ⟨rfl, hb2⟩; replace hB' := below_then hB' hb2 hB'.size))
            have S4 := HShi.out.below hB'
            clear HKhi HShi hB' hb2 HY
            obtain ⟨p0, p1, p2⟩ := HL.out w4 S4.bel
            have S5 := S4.hi ⟨xt, xn, xs⟩
            obtain ⟨⟨c0, c1, c2, c3, c4, c5⟩, f0, f1, f2, f3, f4, f5⟩ := S4.cur
            simp only at p0 p1 p2 c0 c1 c2 c3 c4 c5 S5
            go_wp2
            go_roundw
            case rel => exact ⟨k + 1, by omega, by go_num, by rw [HN.out]; exact S5⟩
            case measure => simp [intOf]; omega
          | false =>
            rw [hy] at HN HY
            rw [if_neg Bool.false_ne_true] at HN
            obtain ⟨xt, xn, xs⟩ := x
            obtain ⟨⟨a1, b1, s1⟩, ⟨c1, d1, t1⟩⟩ := z
            have S1 := hst
            clear hst hx hy HSTEP HONE HZERO
            simp only at HX HY
            go_wp2
            have HKlo : Hid (∀ W, Below wr.heap.size wr W → W.cell? ⟨b, off + k * 3, none⟩ = some (.int .i64 xt) ∧ W.cell? ⟨b, off + k * 3 + 1, none⟩ = some (.int .i64 xn) ∧ W.cell? ⟨b, off + k * 3 + 2, none⟩ = some (.string xs) ∧ W.cell? ⟨w.heap.size + 1, 0, none⟩ = some (.int .i64 a1) ∧ W.cell? ⟨w.heap.size + 1, 1, none⟩ = some (.int .i64 b1) ∧ W.cell? ⟨w.heap.size + 1, 2, none⟩ = some (.string s1)) := fun W hW =>
              ⟨(HL.out W (S1.below hW).bel).1, (HL.out W (S1.below hW).bel).2.1, (HL.out W (S1.below hW).bel).2.2, (S1.below hW).cur.1.1, (S1.below hW).cur.1.2.1, (S1.below hW).cur.1.2.2.1⟩
            have HSlo := Lib.hid S1
            have hB' := (Below.refl wr.heap.size wr).drew
            clear S1
            go_region_held3 (fun W => W.cell? ⟨b, off + k * 3, none⟩ = some (.int .i64 xt) ∧ W.cell? ⟨b, off + k * 3 + 1, none⟩ = some (.int .i64 xn) ∧ W.cell? ⟨b, off + k * 3 + 2, none⟩ = some (.string xs) ∧ W.cell? ⟨w.heap.size + 1, 0, none⟩ = some (.int .i64 a1) ∧ W.cell? ⟨w.heap.size + 1, 1, none⟩ = some (.int .i64 b1) ∧ W.cell? ⟨w.heap.size + 1, 2, none⟩ = some (.string s1)) (exact HKlo.out _ hB') ((go_at_call 41; (with_reducible refine (HX.out _).mono ?_); rintro e w2 ⟨rfl, hb2⟩; replace hB' := below_then hB' hb2 hB'.size))
            have S2 := HSlo.out.below hB'
            clear HKlo HSlo hB' hb2 HX
            have S3 := S2
            clear S2
            go_wp2
            have HKhi : Hid (∀ W, Below w2.heap.size w2 W → W.cell? ⟨b, off + k * 3, none⟩ = some (.int .i64 xt) ∧ W.cell? ⟨b, off + k * 3 + 1, none⟩ = some (.int .i64 xn) ∧ W.cell? ⟨b, off + k * 3 + 2, none⟩ = some (.string xs) ∧ W.cell? ⟨w.heap.size + 1, 3, none⟩ = some (.int .i64 c1) ∧ W.cell? ⟨w.heap.size + 1, 4, none⟩ = some (.int .i64 d1) ∧ W.cell? ⟨w.heap.size + 1, 5, none⟩ = some (.string t1)) := fun W hW =>
              ⟨(HL.out W (S3.below hW).bel).1, (HL.out W (S3.below hW).bel).2.1, (HL.out W (S3.below hW).bel).2.2, (S3.below hW).cur.1.2.2.2.1, (S3.below hW).cur.1.2.2.2.2.1, (S3.below hW).cur.1.2.2.2.2.2⟩
            have HShi := Lib.hid S3
            have hB' := (Below.refl w2.heap.size w2).drew
            clear S3
            go_region_held3 (fun W => W.cell? ⟨b, off + k * 3, none⟩ = some (.int .i64 xt) ∧ W.cell? ⟨b, off + k * 3 + 1, none⟩ = some (.int .i64 xn) ∧ W.cell? ⟨b, off + k * 3 + 2, none⟩ = some (.string xs) ∧ W.cell? ⟨w.heap.size + 1, 3, none⟩ = some (.int .i64 c1) ∧ W.cell? ⟨w.heap.size + 1, 4, none⟩ = some (.int .i64 d1) ∧ W.cell? ⟨w.heap.size + 1, 5, none⟩ = some (.string t1)) (exact HKhi.out _ hB') ((go_at_call 41; (with_reducible refine (HY.out _).mono ?_); rintro e w4 ⟨rfl, hb2⟩; replace hB' := below_then hB' hb2 hB'.size))
            have S4 := HShi.out.below hB'
            clear HKhi HShi hB' hb2 HY
            have S5 := S4
            clear S4
            go_wp2
            go_roundw
            case rel => exact ⟨k + 1, by omega, by go_num, by rw [HN.out]; exact S5⟩
            case measure => simp [intOf]; omega
    · obtain rfl : k = n := by omega
      generalize hzz : zoneL (l.take k) = z at hst
      have HZZ := Lib.hid hzz
      clear hzz
      obtain ⟨⟨a1, b1, s1⟩, ⟨c1, d1, t1⟩⟩ := z
      obtain ⟨⟨⟨q0, q1, q2, q3, q4, q5⟩, _⟩, ⟨⟨r0, r1, r2, r3, r4, r5⟩, f0, f1, f2, f3, f4, f5⟩, B⟩ := hst
      simp only [Zn.zero, V.zero] at q0 q1 q2 q3 q4 q5 r0 r1 r2 r3 r4 r5
      go_wp2
      refine bodyPost_ret (v := .agg #[.int .i64 a1, .int .i64 b1, .string s1, .int .i64 c1, .int .i64 d1, .string t1]) (by simp [results, Try.results16, go_sem, *]) rfl ⟨by rw [HZZ.out], ?_⟩
      exact ((((((B.setCell (by simp) _).setCell (by simp) _).setCell (by simp) _).setCell (by simp) _).setCell (by simp) _).setCell (by simp) _)

end Go.Proofs.Ytcokmjdehclhkaa

/- The contracts of the model's Holds1, InZone, MayHold1, Opposite, OpText (written by mk_S10.py). -/
namespace Go.Proofs.Ytcokmjdehclhkaa
open Go.RowKit

set_option maxHeartbeats 1000000 in
theorem sHolds1 (op : Int) (x y : V) (w : World) : Calls Try.prog 27 #[.int .i64 op, x.agg, y.agg] w fun e w' => e = .returned (.bool (holdsB op x y)) ∧ Below w.heap.size w w' := by
  obtain ⟨t1, n1, s1⟩ := x
  obtain ⟨t2, n2, s2⟩ := y
  have B0 := below_alloc2 w (.cells #[.int .i64 t1, .int .i64 n1, .string s1] 27) (.cells #[.int .i64 t2, .int .i64 n2, .string s2] 27)
  have HA := Lib.hid (fun W => sLessVal ⟨t1, n1, s1⟩ ⟨t2, n2, s2⟩ W)
  have HB := Lib.hid (fun W => sLessVal ⟨t2, n2, s2⟩ ⟨t1, n1, s1⟩ W)
  by_cases h : 1 ≤ op ∧ op ≤ 6
  · rcases op_cases h with rfl | rfl | rfl | rfl | rfl | rfl
    · have HE : Hid (holdsB 1 ⟨t1, n1, s1⟩ ⟨t2, n2, s2⟩ = (lessV ⟨t1, n1, s1⟩ ⟨t2, n2, s2⟩)) := rfl
      generalize lessV ⟨t1, n1, s1⟩ ⟨t2, n2, s2⟩ = r at HA HE
      go_enter Try.func27, Try.ntmps27
      go_wp2_with fail
      refine (HA.out _).mono ?_
      rintro e w1 ⟨rfl, b1⟩
      have B1 := below_then B0 b1 B0.size
      clear b1
      go_wp2
      go_ret
      exact ⟨ret_bool HE.out.symm, B1⟩
    · have HE : Hid (holdsB 2 ⟨t1, n1, s1⟩ ⟨t2, n2, s2⟩ = (!(lessV ⟨t2, n2, s2⟩ ⟨t1, n1, s1⟩))) := rfl
      generalize lessV ⟨t2, n2, s2⟩ ⟨t1, n1, s1⟩ = r at HB HE
      go_enter Try.func27, Try.ntmps27
      go_wp2_with fail
      refine (HB.out _).mono ?_
      rintro e w1 ⟨rfl, b1⟩
      have B1 := below_then B0 b1 B0.size
      clear b1
      go_wp2
      go_ret
      exact ⟨ret_bool HE.out.symm, B1⟩
    · have HE : Hid (holdsB 3 ⟨t1, n1, s1⟩ ⟨t2, n2, s2⟩ = V.eqB ⟨t1, n1, s1⟩ ⟨t2, n2, s2⟩) := rfl
      have HQ := Lib.hid (fun W => run_eql_val ⟨t1, n1, s1⟩ ⟨t2, n2, s2⟩ W)
      generalize V.eqB ⟨t1, n1, s1⟩ ⟨t2, n2, s2⟩ = r at HQ HE
      have hq := HQ.out
      clear HA HB
      go_enter Try.func27, Try.ntmps27
      go_wp2
      go_ret
      exact ⟨ret_bool HE.out.symm, B0⟩
    · have HE : Hid (holdsB 4 ⟨t1, n1, s1⟩ ⟨t2, n2, s2⟩ = !(V.eqB ⟨t1, n1, s1⟩ ⟨t2, n2, s2⟩)) := rfl
      have HQ := Lib.hid (fun W => run_neq_val ⟨t1, n1, s1⟩ ⟨t2, n2, s2⟩ W)
      generalize V.eqB ⟨t1, n1, s1⟩ ⟨t2, n2, s2⟩ = r at HQ HE
      have hq := HQ.out
      clear HA HB
      go_enter Try.func27, Try.ntmps27
      go_wp2
      go_ret
      exact ⟨ret_bool HE.out.symm, B0⟩
    · have HE : Hid (holdsB 5 ⟨t1, n1, s1⟩ ⟨t2, n2, s2⟩ = (!(lessV ⟨t1, n1, s1⟩ ⟨t2, n2, s2⟩))) := rfl
      generalize lessV ⟨t1, n1, s1⟩ ⟨t2, n2, s2⟩ = r at HA HE
      go_enter Try.func27, Try.ntmps27
      go_wp2_with fail
      refine (HA.out _).mono ?_
      rintro e w1 ⟨rfl, b1⟩
      have B1 := below_then B0 b1 B0.size
      clear b1
      go_wp2
      go_ret
      exact ⟨ret_bool HE.out.symm, B1⟩
    · have HE : Hid (holdsB 6 ⟨t1, n1, s1⟩ ⟨t2, n2, s2⟩ = (lessV ⟨t2, n2, s2⟩ ⟨t1, n1, s1⟩)) := rfl
      generalize lessV ⟨t2, n2, s2⟩ ⟨t1, n1, s1⟩ = r at HB HE
      go_enter Try.func27, Try.ntmps27
      go_wp2_with fail
      refine (HB.out _).mono ?_
      rintro e w1 ⟨rfl, b1⟩
      have B1 := below_then B0 b1 B0.size
      clear b1
      go_wp2
      go_ret
      exact ⟨ret_bool HE.out.symm, B1⟩
  · have HE : Hid (holdsB op ⟨t1, n1, s1⟩ ⟨t2, n2, s2⟩ = false) := (op_no h).2.2.1 _ _
    have ho := op_no h
    clear ho
    have h1 : (op == 1) = false := by simp; omega
    have h2 : (op == 2) = false := by simp; omega
    have h3 : (op == 3) = false := by simp; omega
    have h4 : (op == 4) = false := by simp; omega
    have h5 : (op == 5) = false := by simp; omega
    have h6 : (op == 6) = false := by simp; omega
    clear h HA HB
    go_enter Try.func27, Try.ntmps27
    go_wp2
    go_ret
    exact ⟨ret_bool HE.out.symm, B0⟩

set_option maxHeartbeats 1000000 in
theorem sInZone (z : Zn) (v : V) (w : World) : Calls Try.prog 20 #[z.agg, v.agg] w fun e w' => e = .returned (.bool (inZB z v)) ∧ Below w.heap.size w w' := by
  obtain ⟨⟨a, b, s⟩, ⟨c, d, t⟩⟩ := z
  obtain ⟨t2, n2, s2⟩ := v
  have HE : Hid (inZB ⟨⟨a, b, s⟩, ⟨c, d, t⟩⟩ ⟨t2, n2, s2⟩ = (!(lessV ⟨t2, n2, s2⟩ ⟨a, b, s⟩) && !(lessV ⟨c, d, t⟩ ⟨t2, n2, s2⟩))) := rfl
  have B0 := below_alloc2 w (.cells #[.int .i64 a, .int .i64 b, .string s, .int .i64 c, .int .i64 d, .string t] 29) (.cells #[.int .i64 t2, .int .i64 n2, .string s2] 27)
  have C0 := (six_new w ⟨⟨a, b, s⟩, ⟨c, d, t⟩⟩ 29).below (below_alloc _ (.cells #[.int .i64 t2, .int .i64 n2, .string s2] 27))
  have D0 := held_new (w.alloc (.cells #[.int .i64 a, .int .i64 b, .string s, .int .i64 c, .int .i64 d, .string t] 29)) ⟨t2, n2, s2⟩ 27
  rw [World.size_alloc] at D0
  have HA := Lib.hid (fun W => sLessVal ⟨t2, n2, s2⟩ ⟨a, b, s⟩ W)
  have HB := Lib.hid (fun W => sLessVal ⟨c, d, t⟩ ⟨t2, n2, s2⟩ W)
  generalize lessV ⟨c, d, t⟩ ⟨t2, n2, s2⟩ = y at HE HB
  cases hx : lessV ⟨t2, n2, s2⟩ ⟨a, b, s⟩ with
  | true =>
    rw [hx] at HE HA
    clear hx C0 D0
    go_enter Try.func20, Try.ntmps20
    go_wp2_with fail
    refine (HA.out _).mono ?_
    rintro e w1 ⟨rfl, b1⟩
    have B1 := below_then B0 b1 B0.size
    clear b1
    go_wp2
    go_ret
    exact ⟨ret_bool HE.out.symm, B1⟩
  | false =>
    rw [hx] at HE HA
    clear hx
    go_enter Try.func20, Try.ntmps20
    go_wp2_with fail
    refine (HA.out _).mono ?_
    rintro e w1 ⟨rfl, b1⟩
    have B1 := below_then B0 b1 B0.size
    obtain ⟨⟨_, _, _, p3, p4, p5⟩, _⟩ := C0.below b1
    obtain ⟨⟨q0, q1, q2⟩, _⟩ := D0.below b1
    simp only at p3 p4 p5 q0 q1 q2
    clear b1 C0 D0 B0
    go_wp2_with fail
    refine (HB.out _).mono ?_
    rintro e w2 ⟨rfl, b2⟩
    have B2 := below_then B1 b2 B1.size
    clear b2
    go_wp2
    go_ret
    exact ⟨ret_bool HE.out.symm, B2⟩

set_option maxHeartbeats 2000000 in
theorem sMayHold1 (op : Int) (z : Zn) (v : V) (w : World) : Calls Try.prog 18 #[.int .i64 op, z.agg, v.agg] w fun e w' => e = .returned (.bool (mayB op z v)) ∧ Below w.heap.size w w' := by
  obtain ⟨⟨a, b, s⟩, ⟨c, d, t⟩⟩ := z
  obtain ⟨t2, n2, s2⟩ := v
  have B0 := below_alloc2 w (.cells #[.int .i64 a, .int .i64 b, .string s, .int .i64 c, .int .i64 d, .string t] 29) (.cells #[.int .i64 t2, .int .i64 n2, .string s2] 27)
  by_cases h : 1 ≤ op ∧ op ≤ 6
  · rcases op_cases h with rfl | rfl | rfl | rfl | rfl | rfl
    · have HE : Hid (mayB 1 ⟨⟨a, b, s⟩, ⟨c, d, t⟩⟩ ⟨t2, n2, s2⟩ = (lessV ⟨a, b, s⟩ ⟨t2, n2, s2⟩)) := rfl
      have HA := Lib.hid (fun W => sLessVal ⟨a, b, s⟩ ⟨t2, n2, s2⟩ W)
      generalize lessV ⟨a, b, s⟩ ⟨t2, n2, s2⟩ = r at HA HE
      go_enter Try.func18, Try.ntmps18
      go_wp2_with fail
      refine (HA.out _).mono ?_
      rintro e w1 ⟨rfl, b1⟩
      have B1 := below_then B0 b1 B0.size
      clear b1
      go_wp2
      go_ret
      exact ⟨ret_bool HE.out.symm, B1⟩
    · have HE : Hid (mayB 2 ⟨⟨a, b, s⟩, ⟨c, d, t⟩⟩ ⟨t2, n2, s2⟩ = (!(lessV ⟨t2, n2, s2⟩ ⟨a, b, s⟩))) := rfl
      have HA := Lib.hid (fun W => sLessVal ⟨t2, n2, s2⟩ ⟨a, b, s⟩ W)
      generalize lessV ⟨t2, n2, s2⟩ ⟨a, b, s⟩ = r at HA HE
      go_enter Try.func18, Try.ntmps18
      go_wp2_with fail
      refine (HA.out _).mono ?_
      rintro e w1 ⟨rfl, b1⟩
      have B1 := below_then B0 b1 B0.size
      clear b1
      go_wp2
      go_ret
      exact ⟨ret_bool HE.out.symm, B1⟩
    · have HE : Hid (mayB 3 ⟨⟨a, b, s⟩, ⟨c, d, t⟩⟩ ⟨t2, n2, s2⟩ = inZB ⟨⟨a, b, s⟩, ⟨c, d, t⟩⟩ ⟨t2, n2, s2⟩) := rfl
      have HA := Lib.hid (fun W => sInZone ⟨⟨a, b, s⟩, ⟨c, d, t⟩⟩ ⟨t2, n2, s2⟩ W)
      generalize inZB ⟨⟨a, b, s⟩, ⟨c, d, t⟩⟩ ⟨t2, n2, s2⟩ = r at HA HE
      go_enter Try.func18, Try.ntmps18
      go_wp2_with fail
      refine (HA.out _).mono ?_
      rintro e w1 ⟨rfl, b1⟩
      have B1 := below_then B0 b1 B0.size
      clear b1
      go_wp2
      go_ret
      exact ⟨ret_bool HE.out.symm, B1⟩
    · have HE : Hid (mayB 4 ⟨⟨a, b, s⟩, ⟨c, d, t⟩⟩ ⟨t2, n2, s2⟩ = (!(V.eqB ⟨a, b, s⟩ ⟨t2, n2, s2⟩) || !(V.eqB ⟨c, d, t⟩ ⟨t2, n2, s2⟩))) := rfl
      have HQ := Lib.hid (fun W => run_neq_val ⟨a, b, s⟩ ⟨t2, n2, s2⟩ W)
      have HR := Lib.hid (fun W => run_neq_val ⟨c, d, t⟩ ⟨t2, n2, s2⟩ W)
      generalize V.eqB ⟨c, d, t⟩ ⟨t2, n2, s2⟩ = y at HR HE
      have hr := HR.out
      cases hx : V.eqB ⟨a, b, s⟩ ⟨t2, n2, s2⟩ with
      | true =>
        rw [hx] at HQ HE
        have hq := HQ.out
        clear hx
        go_enter Try.func18, Try.ntmps18
        go_wp2
        go_ret
        exact ⟨ret_bool HE.out.symm, B0⟩
      | false =>
        rw [hx] at HQ HE
        have hq := HQ.out
        clear hx
        go_enter Try.func18, Try.ntmps18
        go_wp2
        go_ret
        exact ⟨ret_bool HE.out.symm, B0⟩
    · have HE : Hid (mayB 5 ⟨⟨a, b, s⟩, ⟨c, d, t⟩⟩ ⟨t2, n2, s2⟩ = (!(lessV ⟨c, d, t⟩ ⟨t2, n2, s2⟩))) := rfl
      have HA := Lib.hid (fun W => sLessVal ⟨c, d, t⟩ ⟨t2, n2, s2⟩ W)
      generalize lessV ⟨c, d, t⟩ ⟨t2, n2, s2⟩ = r at HA HE
      go_enter Try.func18, Try.ntmps18
      go_wp2_with fail
      refine (HA.out _).mono ?_
      rintro e w1 ⟨rfl, b1⟩
      have B1 := below_then B0 b1 B0.size
      clear b1
      go_wp2
      go_ret
      exact ⟨ret_bool HE.out.symm, B1⟩
    · have HE : Hid (mayB 6 ⟨⟨a, b, s⟩, ⟨c, d, t⟩⟩ ⟨t2, n2, s2⟩ = (lessV ⟨t2, n2, s2⟩ ⟨c, d, t⟩)) := rfl
      have HA := Lib.hid (fun W => sLessVal ⟨t2, n2, s2⟩ ⟨c, d, t⟩ W)
      generalize lessV ⟨t2, n2, s2⟩ ⟨c, d, t⟩ = r at HA HE
      go_enter Try.func18, Try.ntmps18
      go_wp2_with fail
      refine (HA.out _).mono ?_
      rintro e w1 ⟨rfl, b1⟩
      have B1 := below_then B0 b1 B0.size
      clear b1
      go_wp2
      go_ret
      exact ⟨ret_bool HE.out.symm, B1⟩
  · have HE : Hid (mayB op ⟨⟨a, b, s⟩, ⟨c, d, t⟩⟩ ⟨t2, n2, s2⟩ = false) := (op_no h).2.2.2 _ _
    have ho := op_no h
    clear ho
    have h1 : (op == 1) = false := by simp; omega
    have h2 : (op == 2) = false := by simp; omega
    have h3 : (op == 3) = false := by simp; omega
    have h4 : (op == 4) = false := by simp; omega
    have h5 : (op == 5) = false := by simp; omega
    have h6 : (op == 6) = false := by simp; omega
    clear h
    go_enter Try.func18, Try.ntmps18
    go_wp2
    go_ret
    exact ⟨ret_bool HE.out.symm, B0⟩

set_option maxHeartbeats 1000000 in
theorem sOpposite (op : Int) (w : World) : Calls Try.prog 24 #[.int .i64 op] w fun e w' => e = .returned (.int .i64 (oppI op)) ∧ Below w.heap.size w w' := by
  have HI := Lib.hid (fun W => l1In op 1 6 W)
  cases hk : Num.inB op 1 6 with
  | false =>
    rw [hk] at HI
    have HK := Lib.hid ((op_no (Num.inB_false.1 hk)).1)
    generalize oppI op = r at HK ⊢
    clear hk
    go_enter Try.func24, Try.ntmps24
    go_wp2_with (go_at_call 45; refine (HI.out _).mono ?_; clear HI; rintro e w' ⟨rfl, rfl⟩)
    go_ret
    exact ⟨by rw [HK.out]; rfl, Below.refl _ _⟩
  | true =>
    have hb := Num.inB_true.1 hk
    rw [hk] at HI
    clear hk
    have B := below_alloc w (.cells #[.int .i64 0, .int .i64 5, .int .i64 6, .int .i64 4, .int .i64 3, .int .i64 1, .int .i64 2] 3)
    rcases op_cases hb with rfl | rfl | rfl | rfl | rfl | rfl
    all_goals
      clear hb
      go_enter Try.func24, Try.ntmps24
      go_wp2_with (go_at_call 45; refine (HI.out _).mono ?_; clear HI; rintro e w' ⟨rfl, rfl⟩)
      go_ret
      exact ⟨rfl, B⟩

set_option maxHeartbeats 1000000 in
theorem sOpText (op : Int) (w : World) : Calls Try.prog 26 #[.int .i64 op] w fun e w' => e = .returned (.string (opT op)) ∧ Below w.heap.size w w' := by
  have HI := Lib.hid (fun W => l1In op 1 6 W)
  cases hk : Num.inB op 1 6 with
  | false =>
    rw [hk] at HI
    have HK := Lib.hid ((op_no (Num.inB_false.1 hk)).2.1)
    generalize opT op = r at HK ⊢
    clear hk
    go_enter Try.func26, Try.ntmps26
    go_wp2_with (go_at_call 45; refine (HI.out _).mono ?_; clear HI; rintro e w' ⟨rfl, rfl⟩)
    go_ret
    exact ⟨by rw [HK.out]; rfl, Below.refl _ _⟩
  | true =>
    have hb := Num.inB_true.1 hk
    rw [hk] at HI
    clear hk
    have B := below_alloc w (.cells #[.string ⟨#[]⟩, .string ⟨#[60]⟩, .string ⟨#[60, 61]⟩, .string ⟨#[61]⟩, .string ⟨#[33, 61]⟩, .string ⟨#[62, 61]⟩, .string ⟨#[62]⟩] 9)
    rcases op_cases hb with rfl | rfl | rfl | rfl | rfl | rfl
    all_goals
      clear hb
      go_enter Try.func26, Try.ntmps26
      go_wp2_with (go_at_call 45; refine (HI.out _).mono ?_; clear HI; rintro e w' ⟨rfl, rfl⟩)
      go_ret
      exact ⟨rfl, B⟩

end Go.Proofs.Ytcokmjdehclhkaa

/- The contracts of impl's LessVal, SameVals, NumsOf, TextsOf. -/
namespace Go.Proofs.Ytcokmjdehclhkaa
open Go.RowKit

theorem made_one (x : Value) (n : Nat) : (madeCells #[x] n).toList = List.replicate n x := by
  apply List.ext_getElem?
  intro i
  unfold madeCells
  by_cases hi : i < n
  · simp [hi, Nat.mod_one]
  · simp [hi]

theorem iLessVal (a b : V) (w : World) : Calls Try.prog 40 #[a.agg, b.agg] w fun e w' => e = .returned (.bool (lessV a b)) ∧ Below w.heap.size w w' := by
  obtain ⟨t1, n1, s1⟩ := a
  obtain ⟨t2, n2, s2⟩ := b
  have HE := Lib.hid (show lessV ⟨t1, n1, s1⟩ ⟨t2, n2, s2⟩ = if (t1 != t2) = true then decide (t1 < t2) else if (n1 != n2) = true then decide (n1 < n2) else Op.bytesLess s1.toList s2.toList from rfl)
  cases h1 : (t1 != t2) with
  | true =>
    rw [if_pos h1] at HE
    go_enter Try.func40, Try.ntmps40
    go_wp2
    go_ret
    exact ⟨ret_bool HE.out.symm, below_alloc2 _ _ _⟩
  | false =>
    rw [if_neg (by rw [h1]; simp)] at HE
    cases h2 : (n1 != n2) with
    | true =>
      rw [if_pos h2] at HE
      go_enter Try.func40, Try.ntmps40
      go_wp2
      go_ret
      exact ⟨ret_bool HE.out.symm, below_alloc2 _ _ _⟩
    | false =>
      rw [if_neg (by rw [h2]; simp)] at HE
      go_enter Try.func40, Try.ntmps40
      go_wp2
      go_ret
      exact ⟨ret_bool HE.out.symm, below_alloc2 _ _ _⟩

/-- A list of zeros, filled up to k. -/
def halfNumsOf (l : List V) (k : Nat) : List Value := ints .i64 ((l.map V.n).take k) ++ List.replicate (l.length - k) (.int .i64 0)
theorem halfNumsOf_set {l : List V} {k : Nat} (h : k < l.length) : (halfNumsOf l k).set k (.int .i64 (l.getD k V.zero).n) = halfNumsOf l (k + 1) := by
  have hl : (ints .i64 ((l.map V.n).take k)).length = k := by simp [ints]; omega
  unfold halfNumsOf
  rw [List.set_append_right _ _ (by omega), hl, Nat.sub_self, show l.length - k = (l.length - (k + 1)) + 1 by omega, List.replicate_succ, List.set_cons_zero, List.take_succ_eq_append_getElem (by simpa using h)]
  simp [ints, h]
theorem halfNumsOf_all (l : List V) : halfNumsOf l l.length = ints .i64 (l.map V.n) := by
  unfold halfNumsOf
  rw [List.take_of_length_le (by simp), Nat.sub_self, List.replicate_zero, List.append_nil]

/-- A list of zeros, filled up to k. -/
def halfTextsOf (l : List V) (k : Nat) : List Value := strs ((l.map V.s).take k) ++ List.replicate (l.length - k) (.string ⟨#[]⟩)
theorem halfTextsOf_set {l : List V} {k : Nat} (h : k < l.length) : (halfTextsOf l k).set k (.string (l.getD k V.zero).s) = halfTextsOf l (k + 1) := by
  have hl : (strs ((l.map V.s).take k)).length = k := by simp [strs]; omega
  unfold halfTextsOf
  rw [List.set_append_right _ _ (by omega), hl, Nat.sub_self, show l.length - k = (l.length - (k + 1)) + 1 by omega, List.replicate_succ, List.set_cons_zero, List.take_succ_eq_append_getElem (by simpa using h)]
  simp [strs, h]
theorem halfTextsOf_all (l : List V) : halfTextsOf l l.length = strs (l.map V.s) := by
  unfold halfTextsOf
  rw [List.take_of_length_le (by simp), Nat.sub_self, List.replicate_zero, List.append_nil]

end Go.Proofs.Ytcokmjdehclhkaa

/- The contracts of the program's Holds1, InZone, Opposite, OpText (written by mk_S10.py). -/
namespace Go.Proofs.Ytcokmjdehclhkaa
open Go.RowKit

set_option maxHeartbeats 1000000 in
theorem iHolds1 (op : Int) (x y : V) (w : World) : Calls Try.prog 21 #[.int .i64 op, x.agg, y.agg] w fun e w' => e = .returned (.bool (holdsB op x y)) ∧ Below w.heap.size w w' := by
  obtain ⟨t1, n1, s1⟩ := x
  obtain ⟨t2, n2, s2⟩ := y
  have B0 := below_alloc2 w (.cells #[.int .i64 t1, .int .i64 n1, .string s1] 27) (.cells #[.int .i64 t2, .int .i64 n2, .string s2] 27)
  have HA := Lib.hid (fun W => iLessVal ⟨t1, n1, s1⟩ ⟨t2, n2, s2⟩ W)
  have HB := Lib.hid (fun W => iLessVal ⟨t2, n2, s2⟩ ⟨t1, n1, s1⟩ W)
  by_cases h : 1 ≤ op ∧ op ≤ 6
  · rcases op_cases h with rfl | rfl | rfl | rfl | rfl | rfl
    · have HE : Hid (holdsB 1 ⟨t1, n1, s1⟩ ⟨t2, n2, s2⟩ = (lessV ⟨t1, n1, s1⟩ ⟨t2, n2, s2⟩)) := rfl
      generalize lessV ⟨t1, n1, s1⟩ ⟨t2, n2, s2⟩ = r at HA HE
      go_enter Try.func21, Try.ntmps21
      go_wp2_with fail
      refine (HA.out _).mono ?_
      rintro e w1 ⟨rfl, b1⟩
      have B1 := below_then B0 b1 B0.size
      clear b1
      go_wp2
      go_ret
      exact ⟨ret_bool HE.out.symm, B1⟩
    · have HE : Hid (holdsB 2 ⟨t1, n1, s1⟩ ⟨t2, n2, s2⟩ = (!(lessV ⟨t2, n2, s2⟩ ⟨t1, n1, s1⟩))) := rfl
      generalize lessV ⟨t2, n2, s2⟩ ⟨t1, n1, s1⟩ = r at HB HE
      go_enter Try.func21, Try.ntmps21
      go_wp2_with fail
      refine (HB.out _).mono ?_
      rintro e w1 ⟨rfl, b1⟩
      have B1 := below_then B0 b1 B0.size
      clear b1
      go_wp2
      go_ret
      exact ⟨ret_bool HE.out.symm, B1⟩
    · have HE : Hid (holdsB 3 ⟨t1, n1, s1⟩ ⟨t2, n2, s2⟩ = V.eqB ⟨t1, n1, s1⟩ ⟨t2, n2, s2⟩) := rfl
      have HQ := Lib.hid (fun W => run_eql_val ⟨t1, n1, s1⟩ ⟨t2, n2, s2⟩ W)
      generalize V.eqB ⟨t1, n1, s1⟩ ⟨t2, n2, s2⟩ = r at HQ HE
      have hq := HQ.out
      clear HA HB
      go_enter Try.func21, Try.ntmps21
      go_wp2
      go_ret
      exact ⟨ret_bool HE.out.symm, B0⟩
    · have HE : Hid (holdsB 4 ⟨t1, n1, s1⟩ ⟨t2, n2, s2⟩ = !(V.eqB ⟨t1, n1, s1⟩ ⟨t2, n2, s2⟩)) := rfl
      have HQ := Lib.hid (fun W => run_neq_val ⟨t1, n1, s1⟩ ⟨t2, n2, s2⟩ W)
      generalize V.eqB ⟨t1, n1, s1⟩ ⟨t2, n2, s2⟩ = r at HQ HE
      have hq := HQ.out
      clear HA HB
      go_enter Try.func21, Try.ntmps21
      go_wp2
      go_ret
      exact ⟨ret_bool HE.out.symm, B0⟩
    · have HE : Hid (holdsB 5 ⟨t1, n1, s1⟩ ⟨t2, n2, s2⟩ = (!(lessV ⟨t1, n1, s1⟩ ⟨t2, n2, s2⟩))) := rfl
      generalize lessV ⟨t1, n1, s1⟩ ⟨t2, n2, s2⟩ = r at HA HE
      go_enter Try.func21, Try.ntmps21
      go_wp2_with fail
      refine (HA.out _).mono ?_
      rintro e w1 ⟨rfl, b1⟩
      have B1 := below_then B0 b1 B0.size
      clear b1
      go_wp2
      go_ret
      exact ⟨ret_bool HE.out.symm, B1⟩
    · have HE : Hid (holdsB 6 ⟨t1, n1, s1⟩ ⟨t2, n2, s2⟩ = (lessV ⟨t2, n2, s2⟩ ⟨t1, n1, s1⟩)) := rfl
      generalize lessV ⟨t2, n2, s2⟩ ⟨t1, n1, s1⟩ = r at HB HE
      go_enter Try.func21, Try.ntmps21
      go_wp2_with fail
      refine (HB.out _).mono ?_
      rintro e w1 ⟨rfl, b1⟩
      have B1 := below_then B0 b1 B0.size
      clear b1
      go_wp2
      go_ret
      exact ⟨ret_bool HE.out.symm, B1⟩
  · have HE : Hid (holdsB op ⟨t1, n1, s1⟩ ⟨t2, n2, s2⟩ = false) := (op_no h).2.2.1 _ _
    have ho := op_no h
    clear ho
    have h1 : (op == 1) = false := by simp; omega
    have h2 : (op == 2) = false := by simp; omega
    have h3 : (op == 3) = false := by simp; omega
    have h4 : (op == 4) = false := by simp; omega
    have h5 : (op == 5) = false := by simp; omega
    have h6 : (op == 6) = false := by simp; omega
    clear h HA HB
    go_enter Try.func21, Try.ntmps21
    go_wp2
    go_ret
    exact ⟨ret_bool HE.out.symm, B0⟩

set_option maxHeartbeats 1000000 in
theorem iInZone (z : Zn) (v : V) (w : World) : Calls Try.prog 19 #[z.agg, v.agg] w fun e w' => e = .returned (.bool (inZB z v)) ∧ Below w.heap.size w w' := by
  obtain ⟨⟨a, b, s⟩, ⟨c, d, t⟩⟩ := z
  obtain ⟨t2, n2, s2⟩ := v
  have HE : Hid (inZB ⟨⟨a, b, s⟩, ⟨c, d, t⟩⟩ ⟨t2, n2, s2⟩ = (!(lessV ⟨t2, n2, s2⟩ ⟨a, b, s⟩) && !(lessV ⟨c, d, t⟩ ⟨t2, n2, s2⟩))) := rfl
  have B0 := below_alloc2 w (.cells #[.int .i64 a, .int .i64 b, .string s, .int .i64 c, .int .i64 d, .string t] 29) (.cells #[.int .i64 t2, .int .i64 n2, .string s2] 27)
  have C0 := (six_new w ⟨⟨a, b, s⟩, ⟨c, d, t⟩⟩ 29).below (below_alloc _ (.cells #[.int .i64 t2, .int .i64 n2, .string s2] 27))
  have D0 := held_new (w.alloc (.cells #[.int .i64 a, .int .i64 b, .string s, .int .i64 c, .int .i64 d, .string t] 29)) ⟨t2, n2, s2⟩ 27
  rw [World.size_alloc] at D0
  have HA := Lib.hid (fun W => iLessVal ⟨t2, n2, s2⟩ ⟨a, b, s⟩ W)
  have HB := Lib.hid (fun W => iLessVal ⟨c, d, t⟩ ⟨t2, n2, s2⟩ W)
  generalize lessV ⟨c, d, t⟩ ⟨t2, n2, s2⟩ = y at HE HB
  cases hx : lessV ⟨t2, n2, s2⟩ ⟨a, b, s⟩ with
  | true =>
    rw [hx] at HE HA
    clear hx C0 D0
    go_enter Try.func19, Try.ntmps19
    go_wp2_with fail
    refine (HA.out _).mono ?_
    rintro e w1 ⟨rfl, b1⟩
    have B1 := below_then B0 b1 B0.size
    clear b1
    go_wp2
    go_ret
    exact ⟨ret_bool HE.out.symm, B1⟩
  | false =>
    rw [hx] at HE HA
    clear hx
    go_enter Try.func19, Try.ntmps19
    go_wp2_with fail
    refine (HA.out _).mono ?_
    rintro e w1 ⟨rfl, b1⟩
    have B1 := below_then B0 b1 B0.size
    obtain ⟨⟨_, _, _, p3, p4, p5⟩, _⟩ := C0.below b1
    obtain ⟨⟨q0, q1, q2⟩, _⟩ := D0.below b1
    simp only at p3 p4 p5 q0 q1 q2
    clear b1 C0 D0 B0
    go_wp2_with fail
    refine (HB.out _).mono ?_
    rintro e w2 ⟨rfl, b2⟩
    have B2 := below_then B1 b2 B1.size
    clear b2
    go_wp2
    go_ret
    exact ⟨ret_bool HE.out.symm, B2⟩

set_option maxHeartbeats 1000000 in
theorem iOpposite (op : Int) (w : World) : Calls Try.prog 23 #[.int .i64 op] w fun e w' => e = .returned (.int .i64 (oppI op)) ∧ Below w.heap.size w w' := by
  by_cases h : 1 ≤ op ∧ op ≤ 6
  · rcases op_cases h with rfl | rfl | rfl | rfl | rfl | rfl
    all_goals
      clear h
      go_enter Try.func23, Try.ntmps23
      go_wp2
      go_ret
      exact ⟨rfl, Below.refl _ _⟩
  · have HK := Lib.hid ((op_no h).1)
    generalize hg : oppI op = r at HK ⊢
    clear hg
    have h1 : (op == 1) = false := by simp; omega
    have h2 : (op == 2) = false := by simp; omega
    have h3 : (op == 3) = false := by simp; omega
    have h4 : (op == 4) = false := by simp; omega
    have h5 : (op == 5) = false := by simp; omega
    have h6 : (op == 6) = false := by simp; omega
    clear h
    go_enter Try.func23, Try.ntmps23
    go_wp2
    go_ret
    exact ⟨by rw [HK.out]; rfl, Below.refl _ _⟩

set_option maxHeartbeats 1000000 in
theorem iOpText (op : Int) (w : World) : Calls Try.prog 25 #[.int .i64 op] w fun e w' => e = .returned (.string (opT op)) ∧ Below w.heap.size w w' := by
  by_cases h : 1 ≤ op ∧ op ≤ 6
  · rcases op_cases h with rfl | rfl | rfl | rfl | rfl | rfl
    all_goals
      clear h
      go_enter Try.func25, Try.ntmps25
      go_wp2
      go_ret
      exact ⟨rfl, Below.refl _ _⟩
  · have HK := Lib.hid ((op_no h).2.1)
    generalize hg : opT op = r at HK ⊢
    clear hg
    have h1 : (op == 1) = false := by simp; omega
    have h2 : (op == 2) = false := by simp; omega
    have h3 : (op == 3) = false := by simp; omega
    have h4 : (op == 4) = false := by simp; omega
    have h5 : (op == 5) = false := by simp; omega
    have h6 : (op == 6) = false := by simp; omega
    clear h
    go_enter Try.func25, Try.ntmps25
    go_wp2
    go_ret
    exact ⟨by rw [HK.out]; rfl, Below.refl _ _⟩

end Go.Proofs.Ytcokmjdehclhkaa

/- The contracts of the program's endsOf and MayHold1; == on arrays of two Vals (written by mk_I10z.py). -/
namespace Go.Proofs.Ytcokmjdehclhkaa
open Go.RowKit

theorem run_eq_ends (x y : Zn) (w : World) : (Op.equalIn 10000 66 x.agg y.agg).run Try.prog w = .ok (x.eqB y) w := by
  obtain ⟨xl, xh⟩ := x
  obtain ⟨yl, yh⟩ := y
  obtain ⟨i, hi⟩ := Option.isSome_iff_exists.1 (show (Try.prog.info? 27).isSome = true by kernel_rfl)
  rw [Zn.agg_cs, Zn.agg_cs, run_equalIn_array w 9999 (n := 2) (e := 27) _ _ (by kernel_rfl) hi]
  rw [show Try.prog.cellsOf 27 = 3 by kernel_rfl, show List.range 2 = [0, 1] from rfl]
  have E := fun (W : World) (x y : V) => run_eq_val_at 9997 x y W
  simp only [Nat.reduceAdd] at E
  simp only [Op.eqItems, Nat.zero_mul, Nat.one_mul, Sem.run_bind, run_part_lo, run_part_hi, E, Result.andThen_ok, Sem.run_ite, Sem.run_pure]
  unfold Zn.eqB
  simp only
  cases xl.eqB yl <;> cases xh.eqB yh <;> rfl
theorem run_neq_ends (x y : Zn) (w : World) : (binOp .neq 66 x.agg y.agg).run Try.prog w = .ok (.bool (!(x.eqB y))) w := by
  rw [run_neq_struct, run_eq_ends]
  rfl

theorem iEndsOf (z : Zn) (w : World) : Calls Try.prog 42 #[z.agg] w fun e w' => e = .returned z.agg ∧ Below w.heap.size w w' := by
  obtain ⟨⟨a, b, s⟩, ⟨c, d, t⟩⟩ := z
  go_enter Try.func42, Try.ntmps42
  go_wp2
  refine bodyPost_ret (v := .agg #[.int .i64 a, .int .i64 b, .string s, .int .i64 c, .int .i64 d, .string t]) (by simp [results, Try.results42, go_sem]) rfl ⟨rfl, below_alloc2 _ _ _⟩
theorem mayB_else (z : Zn) (v : V) : mayB 4 z v = (!(Zn.eqB z ⟨v, v⟩)) := by
  show (!(z.lo.eqB v) || !(z.hi.eqB v)) = !(z.lo.eqB v && z.hi.eqB v)
  cases z.lo.eqB v <;> cases z.hi.eqB v <;> rfl

set_option maxHeartbeats 2000000 in
theorem iMayHold1 (op : Int) (z : Zn) (v : V) (w : World) : Calls Try.prog 17 #[.int .i64 op, z.agg, v.agg] w fun e w' => e = .returned (.bool (mayB op z v)) ∧ Below w.heap.size w w' := by
  obtain ⟨⟨a, b, s⟩, ⟨c, d, t⟩⟩ := z
  obtain ⟨t2, n2, s2⟩ := v
  have B0 := below_alloc2 w (.cells #[.int .i64 a, .int .i64 b, .string s, .int .i64 c, .int .i64 d, .string t] 29) (.cells #[.int .i64 t2, .int .i64 n2, .string s2] 27)
  by_cases h : 1 ≤ op ∧ op ≤ 6
  · rcases op_cases h with rfl | rfl | rfl | rfl | rfl | rfl
    · have HE : Hid (mayB 1 ⟨⟨a, b, s⟩, ⟨c, d, t⟩⟩ ⟨t2, n2, s2⟩ = holdsB 1 ⟨a, b, s⟩ ⟨t2, n2, s2⟩) := rfl
      have HA := Lib.hid (fun W => iHolds1 1 ⟨a, b, s⟩ ⟨t2, n2, s2⟩ W)
      generalize holdsB 1 ⟨a, b, s⟩ ⟨t2, n2, s2⟩ = r at HA HE
      go_enter Try.func17, Try.ntmps17
      go_wp2_with fail
      refine (HA.out _).mono ?_
      rintro e w1 ⟨rfl, b1⟩
      have B1 := below_then B0 b1 B0.size
      clear b1
      go_wp2
      go_ret
      exact ⟨ret_bool HE.out.symm, B1⟩
    · have HE : Hid (mayB 2 ⟨⟨a, b, s⟩, ⟨c, d, t⟩⟩ ⟨t2, n2, s2⟩ = holdsB 2 ⟨a, b, s⟩ ⟨t2, n2, s2⟩) := rfl
      have HA := Lib.hid (fun W => iHolds1 2 ⟨a, b, s⟩ ⟨t2, n2, s2⟩ W)
      generalize holdsB 2 ⟨a, b, s⟩ ⟨t2, n2, s2⟩ = r at HA HE
      go_enter Try.func17, Try.ntmps17
      go_wp2_with fail
      refine (HA.out _).mono ?_
      rintro e w1 ⟨rfl, b1⟩
      have B1 := below_then B0 b1 B0.size
      clear b1
      go_wp2
      go_ret
      exact ⟨ret_bool HE.out.symm, B1⟩
    · have HE : Hid (mayB 3 ⟨⟨a, b, s⟩, ⟨c, d, t⟩⟩ ⟨t2, n2, s2⟩ = inZB ⟨⟨a, b, s⟩, ⟨c, d, t⟩⟩ ⟨t2, n2, s2⟩) := rfl
      have HA := Lib.hid (fun W => iInZone ⟨⟨a, b, s⟩, ⟨c, d, t⟩⟩ ⟨t2, n2, s2⟩ W)
      generalize inZB ⟨⟨a, b, s⟩, ⟨c, d, t⟩⟩ ⟨t2, n2, s2⟩ = r at HA HE
      go_enter Try.func17, Try.ntmps17
      go_wp2_with fail
      refine (HA.out _).mono ?_
      rintro e w1 ⟨rfl, b1⟩
      have B1 := below_then B0 b1 B0.size
      clear b1
      go_wp2
      go_ret
      exact ⟨ret_bool HE.out.symm, B1⟩
    · have HE : Hid (mayB 4 ⟨⟨a, b, s⟩, ⟨c, d, t⟩⟩ ⟨t2, n2, s2⟩ = (!(Zn.eqB ⟨⟨a, b, s⟩, ⟨c, d, t⟩⟩ ⟨⟨t2, n2, s2⟩, ⟨t2, n2, s2⟩⟩))) := mayB_else _ _
      have HQ := Lib.hid (fun W => run_neq_ends ⟨⟨a, b, s⟩, ⟨c, d, t⟩⟩ ⟨⟨t2, n2, s2⟩, ⟨t2, n2, s2⟩⟩ W)
      have HA := Lib.hid (fun W => iEndsOf ⟨⟨a, b, s⟩, ⟨c, d, t⟩⟩ W)
      have C0 := (six_new w ⟨⟨a, b, s⟩, ⟨c, d, t⟩⟩ 29).below (below_alloc _ (.cells #[.int .i64 t2, .int .i64 n2, .string s2] 27))
      have D0 := held_new (w.alloc (.cells #[.int .i64 a, .int .i64 b, .string s, .int .i64 c, .int .i64 d, .string t] 29)) ⟨t2, n2, s2⟩ 27
      rw [World.size_alloc] at D0
      have HK : Hid (∀ W, Below ((w.alloc (.cells #[.int .i64 a, .int .i64 b, .string s, .int .i64 c, .int .i64 d, .string t] 29)).alloc (.cells #[.int .i64 t2, .int .i64 n2, .string s2] 27)).heap.size ((w.alloc (.cells #[.int .i64 a, .int .i64 b, .string s, .int .i64 c, .int .i64 d, .string t] 29)).alloc (.cells #[.int .i64 t2, .int .i64 n2, .string s2] 27)) W → W.cell? ⟨w.heap.size, 0, none⟩ = some (.int .i64 a) ∧ W.cell? ⟨w.heap.size, 1, none⟩ = some (.int .i64 b) ∧ W.cell? ⟨w.heap.size, 2, none⟩ = some (.string s) ∧ W.cell? ⟨w.heap.size, 3, none⟩ = some (.int .i64 c) ∧ W.cell? ⟨w.heap.size, 4, none⟩ = some (.int .i64 d) ∧ W.cell? ⟨w.heap.size, 5, none⟩ = some (.string t) ∧ W.cell? ⟨w.heap.size + 1, 0, none⟩ = some (.int .i64 t2) ∧ W.cell? ⟨w.heap.size + 1, 1, none⟩ = some (.int .i64 n2) ∧ W.cell? ⟨w.heap.size + 1, 2, none⟩ = some (.string s2)) := fun W hW =>
        ⟨(C0.below hW).1.1, (C0.below hW).1.2.1, (C0.below hW).1.2.2.1, (C0.below hW).1.2.2.2.1, (C0.below hW).1.2.2.2.2.1, (C0.below hW).1.2.2.2.2.2, (D0.below hW).1.1, (D0.below hW).1.2.1, (D0.below hW).1.2.2⟩
      generalize Zn.eqB ⟨⟨a, b, s⟩, ⟨c, d, t⟩⟩ ⟨⟨t2, n2, s2⟩, ⟨t2, n2, s2⟩⟩ = r at HQ HE
      have hq := HQ.out
      generalize hw0 : ((w.alloc (.cells #[.int .i64 a, .int .i64 b, .string s, .int .i64 c, .int .i64 d, .string t] 29)).alloc (.cells #[.int .i64 t2, .int .i64 n2, .string s2] 27)) = w0 at HK B0
      have HW := Lib.hid hw0
      clear hw0 C0 D0
      have hB' := (Below.refl w0.heap.size w0).drew
      go_enter Try.func17, Try.ntmps17
      go_wp2
      rw [HW.out]
      go_region_held3 (fun W => W.cell? ⟨w.heap.size, 0, none⟩ = some (.int .i64 a) ∧ W.cell? ⟨w.heap.size, 1, none⟩ = some (.int .i64 b) ∧ W.cell? ⟨w.heap.size, 2, none⟩ = some (.string s) ∧ W.cell? ⟨w.heap.size, 3, none⟩ = some (.int .i64 c) ∧ W.cell? ⟨w.heap.size, 4, none⟩ = some (.int .i64 d) ∧ W.cell? ⟨w.heap.size, 5, none⟩ = some (.string t) ∧ W.cell? ⟨w.heap.size + 1, 0, none⟩ = some (.int .i64 t2) ∧ W.cell? ⟨w.heap.size + 1, 1, none⟩ = some (.int .i64 n2) ∧ W.cell? ⟨w.heap.size + 1, 2, none⟩ = some (.string s2)) (exact HK.out _ hB') ((go_at_call 42; (with_reducible refine (HA.out _).mono ?_); rintro e w2 ⟨rfl, hb2⟩; replace hB' := below_then hB' hb2 hB'.size))
      all_goals
        have B1 := below_then B0 hB' B0.size
        go_wp2
        go_ret
        exact ⟨ret_bool HE.out.symm, B1⟩
    · have HE : Hid (mayB 5 ⟨⟨a, b, s⟩, ⟨c, d, t⟩⟩ ⟨t2, n2, s2⟩ = holdsB 5 ⟨c, d, t⟩ ⟨t2, n2, s2⟩) := rfl
      have HA := Lib.hid (fun W => iHolds1 5 ⟨c, d, t⟩ ⟨t2, n2, s2⟩ W)
      generalize holdsB 5 ⟨c, d, t⟩ ⟨t2, n2, s2⟩ = r at HA HE
      go_enter Try.func17, Try.ntmps17
      go_wp2_with fail
      refine (HA.out _).mono ?_
      rintro e w1 ⟨rfl, b1⟩
      have B1 := below_then B0 b1 B0.size
      clear b1
      go_wp2
      go_ret
      exact ⟨ret_bool HE.out.symm, B1⟩
    · have HE : Hid (mayB 6 ⟨⟨a, b, s⟩, ⟨c, d, t⟩⟩ ⟨t2, n2, s2⟩ = holdsB 6 ⟨c, d, t⟩ ⟨t2, n2, s2⟩) := rfl
      have HA := Lib.hid (fun W => iHolds1 6 ⟨c, d, t⟩ ⟨t2, n2, s2⟩ W)
      generalize holdsB 6 ⟨c, d, t⟩ ⟨t2, n2, s2⟩ = r at HA HE
      go_enter Try.func17, Try.ntmps17
      go_wp2_with fail
      refine (HA.out _).mono ?_
      rintro e w1 ⟨rfl, b1⟩
      have B1 := below_then B0 b1 B0.size
      clear b1
      go_wp2
      go_ret
      exact ⟨ret_bool HE.out.symm, B1⟩
  · have HE : Hid (mayB op ⟨⟨a, b, s⟩, ⟨c, d, t⟩⟩ ⟨t2, n2, s2⟩ = false) := (op_no h).2.2.2 _ _
    have ho := op_no h
    clear ho
    have h1 : (op == 1) = false := by simp; omega
    have h2 : (op == 2) = false := by simp; omega
    have h3 : (op == 3) = false := by simp; omega
    have h4 : (op == 4) = false := by simp; omega
    have h5 : (op == 5) = false := by simp; omega
    have h6 : (op == 6) = false := by simp; omega
    clear h
    go_enter Try.func17, Try.ntmps17
    go_wp2
    go_ret
    exact ⟨ret_bool HE.out.symm, B0⟩

end Go.Proofs.Ytcokmjdehclhkaa
