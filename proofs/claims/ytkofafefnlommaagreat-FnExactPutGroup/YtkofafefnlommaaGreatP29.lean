/- Texts of this claim, one behind the other: IMap. -/
import Derived.Test.YtkofafefnlommaaGreatP25
import Derived.RangeFuncRecord

/- Maps whose keys are Vals and whose values are ints: looking up and storing. -/
namespace Go.Proofs.YtkofafefnlommaaGreat
open Go.RowKit

theorem run_check_val (e : Bool) (v : V) (w : World) : (Instr.checkKey e 10000 77 v.agg).run Tryz.prog w = .ok () w := by
  obtain ⟨t, n, s⟩ := v
  have u1 := Tryz.underlying3
  have u2 := Tryz.underlying9
  have hp3 : Tryz.prog.plainKey 3 = true := by kernel_rfl
  have hp9 : Tryz.prog.plainKey 9 = true := by kernel_rfl
  have P0 := fun (W : World) (x y z : Value) => run_part_plain (P := Tryz.prog) W hp3 (xs := #[x, y, z]) (off := 0) (v := x) rfl
  have P1 := fun (W : World) (x y z : Value) => run_part_plain (P := Tryz.prog) W hp3 (xs := #[x, y, z]) (off := 1) (v := y) rfl
  have P2 := fun (W : World) (x y z : Value) => run_part_plain (P := Tryz.prog) W hp9 (xs := #[x, y, z]) (off := 2) (v := z) rfl
  have C0 : ∀ (W : World) (x : Int), (Instr.checkKey e 9999 3 (.int .i64 x)).run Tryz.prog W = .ok () W := fun W x => by
    rw [show (9999 : Nat) = 9998 + 1 from rfl, Instr.checkKey]
    simp [run_underlying u1]
  have C1 : ∀ (W : World) (x : ByteArray), (Instr.checkKey e 9999 9 (.string x)).run Tryz.prog W = .ok () W := fun W x => by
    rw [show (9999 : Nat) = 9998 + 1 from rfl, Instr.checkKey]
    simp [run_underlying u2]
  rw [show (10000 : Nat) = 9999 + 1 from rfl, Instr.checkKey]
  simp [P0, P1, P2, C0, C1]

/-- What a map holds, in the order in which its keys came. -/
abbrev VMap := List (V × Int)
def lookL : VMap → V → Option Int
  | [], _ => none
  | p :: r, v => if v.eqB p.1 = true then some p.2 else lookL r v
def posL : VMap → V → Option Nat
  | [], _ => none
  | p :: r, v => if v.eqB p.1 = true then some 0 else (posL r v).map (· + 1)
def updL : VMap → V → Int → VMap
  | [], v, x => [(v, x)]
  | p :: r, v, x => if v.eqB p.1 = true then (v, x) :: r else p :: updL r v x
theorem upd_none : ∀ {L : VMap} {v : V} {x : Int}, posL L v = none → updL L v x = L ++ [(v, x)] ∧ lookL L v = none
  | [], _, _, _ => ⟨rfl, rfl⟩
  | p :: r, v, x, h => by
    unfold posL at h
    split at h
    · cases h
    · rename_i he
      have := upd_none (L := r) (v := v) (x := x) (by simpa using h)
      exact ⟨by rw [updL, if_neg he, this.1]; rfl, by rw [lookL, if_neg he]; exact this.2⟩
theorem upd_some : ∀ {L : VMap} {v : V} {x : Int} {j : Nat}, posL L v = some j → updL L v x = L.set j (v, x) ∧ ∃ p, L[j]? = some p ∧ p.1 = v ∧ lookL L v = some p.2
  | [], _, _, _, h => by cases h
  | p :: r, v, x, j, h => by
    unfold posL at h
    split at h
    · rename_i he
      cases h
      exact ⟨by rw [updL, if_pos he]; rfl, p, rfl, (eqB_true.1 he).symm, by rw [lookL, if_pos he]⟩
    · rename_i he
      obtain ⟨k, hk, rfl⟩ := Option.map_eq_some_iff.1 h
      obtain ⟨h1, q, h2, h3, h4⟩ := upd_some (L := r) (v := v) (x := x) hk
      exact ⟨by rw [updL, if_neg he, h1]; rfl, q, by simpa using h2, h3, by rw [lookL, if_neg he]; exact h4⟩
theorem look_upd : ∀ (L : VMap) (v u : V) (x : Int), lookL (updL L v x) u = if u.eqB v = true then some x else lookL L u
  | [], v, u, x => rfl
  | p :: r, v, u, x => by
    unfold updL
    split
    · rename_i he
      rw [lookL]
      split
      · rfl
      · rename_i hu
        rw [lookL, if_neg]
        intro h
        rw [eqB_true.1 he] at hu
        exact hu h
    · rename_i he
      rw [lookL, look_upd r v u x, lookL]
      by_cases hp : u.eqB p.1 = true
      · rw [if_pos hp, if_neg, if_pos hp]
        intro h
        rw [← eqB_true.1 h, eqB_true.1 hp] at he
        exact he (eqB_true.2 rfl)
      · rw [if_neg hp, if_neg hp]
/-- The entries hold L. -/
def Ents (es : Array MapEntry) (L : VMap) : Prop := es.toList.map (fun e => (e.key, e.val)) = L.map (fun p => (p.1.agg, Value.int .i64 p.2))

theorem run_asking (v : V) (w : World) : ∀ (es : List MapEntry) (L : VMap) (i : Nat), es.map (fun e => (e.key, e.val)) = L.map (fun p => (p.1.agg, Value.int .i64 p.2)) →
    (Instr.findAsking 77 v.agg es i).run Tryz.prog w = .ok ((posL L v).map fun j => (i + j, Value.int .i64 ((lookL L v).getD 0))) w
  | [], [], i, _ => by simp [Instr.findAsking, posL]
  | [], _ :: _, _, h => by simp at h
  | _ :: _, [], _, h => by simp at h
  | e :: es, p :: L, i, h => by
    simp only [List.map_cons, List.cons.injEq, Prod.mk.injEq] at h
    have ih := run_asking v w es L (i + 1) h.2
    have hq : (Op.equalIn Op.maxDepth 77 v.agg p.1.agg).run Tryz.prog w = .ok (v.eqB p.1) w := run_eq_val v p.1 w
    rw [Instr.findAsking, h.1.1, h.1.2]
    cases he : v.eqB p.1 with
    | true =>
      rw [he] at hq
      simp [Op.equal, hq, posL, lookL, he]
    | false =>
      rw [he] at hq
      have e2 : ∀ j, i + 1 + j = i + (j + 1) := fun j => by omega
      rw [Sem.run_bind, show Op.equal 77 v.agg p.1.agg = Op.equalIn Op.maxDepth 77 v.agg p.1.agg from rfl, hq, Result.andThen_ok, if_neg (by simp), ih, posL, lookL, he, if_neg (by simp), if_neg (by simp)]
      cases posL L v with
      | none => rfl
      | some j =>
        show Result.ok (some (i + 1 + j, _)) w = Result.ok (some (i + (j + 1), _)) w
        rw [e2]
theorem run_find (v : V) (w : World) (es : Array MapEntry) (L : VMap) (h : Ents es L) :
    (Instr.findKey 77 v.agg es.toList).run Tryz.prog w = .ok ((posL L v).map fun j => (j, Value.int .i64 ((lookL L v).getD 0))) w := by
  have hS : Tryz.prog.underlying 77 = some (.struct (Tryz.prog.fieldsOf 77)) := by kernel_rfl
  have ha := run_asking v w es.toList L 0 h
  unfold Ents at h
  unfold Instr.findKey
  simp only [Sem.run_bind, run_underlying hS, Result.andThen_ok]
  cases hes : es.toList with
  | nil =>
    rw [hes] at h
    cases L with
    | nil => simp [Instr.findNow, posL]
    | cons => simp at h
  | cons e r =>
    rw [hes] at ha
    simp only [Instr.findNow, Instr.sameNow]
    rw [ha]
    simp

/-- v, ok := m[k]. -/
theorem run_lookup_val (v : V) (w : World) (b clock : Nat) (es : Array MapEntry) (L : VMap) (hb : w.heap[b]? = some (.map es clock)) (h : Ents es L) :
    (Instr.lookup 161 (.map (some b)) v.agg true).run Tryz.prog w = .ok (.tuple #[.int .i64 ((lookL L v).getD 0), .bool (lookL L v).isSome]) w := by
  have hf := run_find v w es L h
  have hc := fun e => run_check_val e v w
  have hz : ∀ W, (zeroValue 3).run Tryz.prog W = .ok (.int .i64 0) W := fun W => by
    have hz : Tryz.t3.zero = some (.int .i64 0) := by kernel_rfl
    simp [zeroValue, hz]
  unfold Instr.lookup
  have hg : (getObj b).run Tryz.prog w = .ok (.map es clock) w := by simp [getObj, Sem.run, hb]
  simp only [Sem.run_bind, run_underlying Tryz.underlying161, Result.andThen_ok, hg, Sem.run_pure, hc, hf]
  cases hp : posL L v with
  | none =>
    rw [(upd_none (x := 0) hp).2]
    simp [hz]
  | some j =>
    obtain ⟨_, q, h2, h3, h4⟩ := upd_some (x := 0) hp
    rw [h4]
    simp

/-- m[k] = x. -/
theorem same_val (v : V) : Instr.sameBits 10000 v.agg v.agg = true := by
  obtain ⟨t, n, s⟩ := v
  rw [show (10000 : Nat) = 9999 + 1 from rfl]
  have e : (s == s) = true := by
    show (s.data == s.data) = true
    simp
  simp [Instr.sameBits, e]
theorem run_update_val (v : V) (x : Int) (w : World) (b clock : Nat) (es : Array MapEntry) (L : VMap) (hb : w.heap[b]? = some (.map es clock)) (h : Ents es L) :
    ∃ es' clock', (Instr.mapUpdate 161 (.map (some b)) v.agg (.int .i64 x)).run Tryz.prog w = .ok () (w.putObj b (.map es' clock')) ∧ Ents es' (updL L v x) := by
  have hf := run_find v w es L h
  have hc := fun e => run_check_val e v w
  have hg : (getObj b).run Tryz.prog w = .ok (.map es clock) w := by simp [getObj, Sem.run, hb]
  have hs : ∀ o, (setObj b o).run Tryz.prog w = .ok () (w.putObj b o) := fun o => by simp [setObj, Sem.run, hb, World.putObj]
  cases hp : posL L v with
  | none =>
    refine ⟨es.push ⟨v.agg, .int .i64 x, clock⟩, clock + 1, ?_, ?_⟩
    · unfold Instr.mapUpdate
      simp only [Sem.run_bind, run_underlying Tryz.underlying161, Result.andThen_ok, hg, hc, hf, hp, Option.map_none, hs]
    · unfold Ents at h ⊢
      rw [(upd_none (x := x) hp).1, Array.toList_push, List.map_append, h, List.map_append]
      rfl
  | some j =>
    obtain ⟨h1, q, h2, h3, h4⟩ := upd_some (x := x) hp
    have hj : ∃ e, es.toList[j]? = some e ∧ e.key = v.agg := by
      have := congrArg (fun l => l[j]?) h
      simp only [List.getElem?_map, h2, Option.map_some] at this
      obtain ⟨e, he, hk⟩ := Option.map_eq_some_iff.1 this
      refine ⟨e, he, ?_⟩
      have := congrArg Prod.fst hk
      simp only [h3] at this
      exact this
    obtain ⟨e, he, hk⟩ := hj
    have he' : es[j]? = some e := by rw [← he]; simp
    have hkt : (Instr.keyThatStays v.agg v.agg).run Tryz.prog w = .ok v.agg w := by
      unfold Instr.keyThatStays
      rw [if_pos (same_val v)]
      rfl
    refine ⟨es.modify j fun e => { e with key := v.agg, val := .int .i64 x }, clock, ?_, ?_⟩
    · unfold Instr.mapUpdate
      simp only [Sem.run_bind, run_underlying Tryz.underlying161, Result.andThen_ok, hg, hc, hf, hp, Option.map_some, he', Option.getD_some, hk, hkt, hs]
    · unfold Ents at h ⊢
      have hlt : j < es.toList.length := (List.getElem?_eq_some_iff.1 he).1
      rw [h1, List.map_set, ← h]
      apply List.ext_getElem?
      intro t
      rw [List.getElem?_map, Array.getElem?_toList, Array.getElem?_modify, List.getElem?_set, List.getElem?_map]
      by_cases ht : j = t
      · subst ht
        rw [if_pos rfl, if_pos rfl, if_pos (by simpa using hlt), he']
        rfl
      · rw [if_neg ht, if_neg ht]
        simp

end Go.Proofs.YtkofafefnlommaaGreat
