/- Texts of this claim, one behind the other: IPtr. -/
import Derived.Test.YtafoldpmodipaaaDoorP10
import Derived.Test.YtafoldpmodipaaaDoorP5
import Derived.LaidEql

/- Maps whose keys are pointers to Preds and whose values are true: looking up, storing, deleting. -/
namespace Go.Proofs.YtafoldpmodipaaaDoor
open Go.RowKit

theorem run_same_ptr (a : Addr) (w : World) : (Op.equalIn Op.maxDepth 133 (.pointer (some a)) (.pointer (some a))).run Tryd.prog w = .ok true w := by
  have hi : (Tryd.prog.info? 36).map (fun i => i.size) = some 7 := by kernel_rfl
  obtain ⟨j, hj, _⟩ := Option.map_eq_some_iff.1 hi
  have h : ∀ d : Nat, (Op.equalIn (d + 1) 133 (.pointer (some a)) (.pointer (some a))).run Tryd.prog w = .ok true w := fun d => by
    simp [Op.equalIn, run_underlying Tryd.underlying133, sizeOf, typeInfo, hj, run_sameAddr_same]
  exact h 9999
theorem run_diff_ptr {a b : Addr} {w : World} (hne : a ≠ b) (ha : Plain w a.block) (hb : Plain w b.block) : (Op.equalIn Op.maxDepth 133 (.pointer (some a)) (.pointer (some b))).run Tryd.prog w = .ok false w := by
  have hi : (Tryd.prog.info? 36).map (fun i => i.size) = some 7 := by kernel_rfl
  obtain ⟨j, hj, hz⟩ := Option.map_eq_some_iff.1 hi
  obtain ⟨ca, ta, ha⟩ := ha
  obtain ⟨cb, tb, hb⟩ := hb
  have h : ∀ d : Nat, (Op.equalIn (d + 1) 133 (.pointer (some a)) (.pointer (some b))).run Tryd.prog w = .ok false w := fun d => by
    simp [Op.equalIn, run_underlying Tryd.underlying133, sizeOf, typeInfo, hj, hz, run_sameAddr_other w hne ha hb]
  exact h 9999

/-- The entries' keys are the addresses ks, in this order. -/
def Keys (es : Array MapEntry) (ks : List Addr) : Prop := es.toList.map (fun e => (e.key, e.val)) = ks.map (fun a => (Value.pointer (some a), Value.bool true))
/-- q is none of them. -/
def Fresh (w : World) (ks : List Addr) (q : Addr) : Prop := Plain w q.block ∧ ∀ k ∈ ks, k ≠ q ∧ Plain w k.block

theorem asking_no (q : Addr) (w : World) : ∀ (es : List MapEntry) (ks : List Addr) (i : Nat), es.map (fun e => (e.key, e.val)) = ks.map (fun a => (Value.pointer (some a), Value.bool true)) → Fresh w ks q →
    (Instr.findAsking 133 (.pointer (some q)) es i).run Tryd.prog w = .ok none w
  | [], [], i, _, _ => by simp [Instr.findAsking]
  | [], _ :: _, _, h, _ => by simp at h
  | _ :: _, [], _, h, _ => by simp at h
  | e :: es, p :: ks, i, h, hf => by
    simp only [List.map_cons, List.cons.injEq, Prod.mk.injEq] at h
    have ih := asking_no q w es ks (i + 1) h.2 ⟨hf.1, fun k hk => hf.2 k (List.mem_cons_of_mem _ hk)⟩
    have hp := hf.2 p List.mem_cons_self
    have hq := run_diff_ptr (fun e => hp.1 e.symm) hf.1 hp.2
    rw [Instr.findAsking, h.1.1, Sem.run_bind, show Op.equal 133 (.pointer (some q)) (.pointer (some p)) = Op.equalIn Op.maxDepth 133 (.pointer (some q)) (.pointer (some p)) from rfl, hq, Result.andThen_ok, if_neg (by simp), ih]
theorem asking_last (q : Addr) (w : World) : ∀ (es : List MapEntry) (ks : List Addr) (i : Nat), es.map (fun e => (e.key, e.val)) = (ks ++ [q]).map (fun a => (Value.pointer (some a), Value.bool true)) → Fresh w ks q →
    (Instr.findAsking 133 (.pointer (some q)) es i).run Tryd.prog w = .ok (some (i + ks.length, .bool true)) w
  | [], _, _, h, _ => by simp at h
  | e :: es, [], i, h, hf => by
    simp only [List.nil_append, List.map_cons, List.cons.injEq, Prod.mk.injEq] at h
    rw [Instr.findAsking, h.1.1, h.1.2, Sem.run_bind, show Op.equal 133 (.pointer (some q)) (.pointer (some q)) = Op.equalIn Op.maxDepth 133 (.pointer (some q)) (.pointer (some q)) from rfl, run_same_ptr, Result.andThen_ok, if_pos rfl]
    rfl
  | e :: es, p :: ks, i, h, hf => by
    simp only [List.cons_append, List.map_cons, List.cons.injEq, Prod.mk.injEq] at h
    have ih := asking_last q w es ks (i + 1) h.2 ⟨hf.1, fun k hk => hf.2 k (List.mem_cons_of_mem _ hk)⟩
    have hp := hf.2 p List.mem_cons_self
    have hq := run_diff_ptr (fun e => hp.1 e.symm) hf.1 hp.2
    rw [Instr.findAsking, h.1.1, Sem.run_bind, show Op.equal 133 (.pointer (some q)) (.pointer (some p)) = Op.equalIn Op.maxDepth 133 (.pointer (some q)) (.pointer (some p)) from rfl, hq, Result.andThen_ok, if_neg (by simp), ih, List.length_cons, show i + 1 + ks.length = i + (ks.length + 1) by omega]
theorem find_no {q : Addr} {w : World} {es : Array MapEntry} {ks : List Addr} (h : Keys es ks) (hf : Fresh w ks q) : (Instr.findKey 133 (.pointer (some q)) es.toList).run Tryd.prog w = .ok none w := by
  have ha := asking_no q w es.toList ks 0 h hf
  unfold Instr.findKey
  simp only [Sem.run_bind, run_underlying Tryd.underlying133, Result.andThen_ok]
  cases hes : es.toList with
  | nil => simp [Instr.findNow]
  | cons e r =>
    rw [hes] at ha
    simp only [Instr.findNow, Instr.sameNow]
    exact ha
theorem find_last {q : Addr} {w : World} {es : Array MapEntry} {ks : List Addr} (h : Keys es (ks ++ [q])) (hf : Fresh w ks q) : (Instr.findKey 133 (.pointer (some q)) es.toList).run Tryd.prog w = .ok (some (ks.length, .bool true)) w := by
  have ha := asking_last q w es.toList ks 0 h hf
  rw [Nat.zero_add] at ha
  unfold Instr.findKey
  simp only [Sem.run_bind, run_underlying Tryd.underlying133, Result.andThen_ok]
  cases hes : es.toList with
  | nil => unfold Keys at h; rw [hes] at h; simp at h
  | cons e r =>
    rw [hes] at ha
    simp only [Instr.findNow, Instr.sameNow]
    exact ha

theorem check_ptr (e : Bool) (q : Addr) (w : World) : (Instr.checkKey e 10000 133 (.pointer (some q))).run Tryd.prog w = .ok () w := by
  rw [show (10000 : Nat) = 9999 + 1 from rfl, Instr.checkKey]
  simp [run_underlying Tryd.underlying133]

/-- m[q], q none of the keys. -/
theorem run_look_no {q : Addr} {w : World} {b clock : Nat} {es : Array MapEntry} {ks : List Addr} (hb : w.heap[b]? = some (.map es clock)) (h : Keys es ks) (hf : Fresh w ks q) :
    (Instr.lookup 132 (.map (some b)) (.pointer (some q)) false).run Tryd.prog w = .ok (.bool false) w := by
  have hk := find_no h hf
  have hc := fun e => check_ptr e q w
  have hz : ∀ W, (zeroValue 4).run Tryd.prog W = .ok (.bool false) W := fun W => by
    have hz : Tryd.t4.zero = some (.bool false) := by kernel_rfl
    simp [zeroValue, hz]
  have hg : (getObj b).run Tryd.prog w = .ok (.map es clock) w := by simp [getObj, Sem.run, hb]
  unfold Instr.lookup
  simp only [Sem.run_bind, run_underlying Tryd.underlying132, Result.andThen_ok, hg, Sem.run_pure, hc, hk]
  simp [hz]
/-- m[q] = true, q none of the keys. -/
theorem run_put_new {q : Addr} {w : World} {b clock : Nat} {es : Array MapEntry} {ks : List Addr} (hb : w.heap[b]? = some (.map es clock)) (h : Keys es ks) (hf : Fresh w ks q) :
    (Instr.mapUpdate 132 (.map (some b)) (.pointer (some q)) (.bool true)).run Tryd.prog w = .ok () (w.putObj b (.map (es.push ⟨.pointer (some q), .bool true, clock⟩) (clock + 1))) := by
  have hk := find_no h hf
  have hc := fun e => check_ptr e q w
  have hg : (getObj b).run Tryd.prog w = .ok (.map es clock) w := by simp [getObj, Sem.run, hb]
  have hs : ∀ o, (setObj b o).run Tryd.prog w = .ok () (w.putObj b o) := fun o => by simp [setObj, Sem.run, hb, World.putObj]
  unfold Instr.mapUpdate
  simp only [Sem.run_bind, run_underlying Tryd.underlying132, Result.andThen_ok, hg, hc, hk, hs]
theorem Keys.push {es : Array MapEntry} {ks : List Addr} (h : Keys es ks) (q : Addr) (c : Nat) : Keys (es.push ⟨.pointer (some q), .bool true, c⟩) (ks ++ [q]) := by
  unfold Keys at h ⊢
  rw [Array.toList_push, List.map_append, h, List.map_append]
  rfl
/-- delete(m, q), q the last of the keys. -/
theorem run_del_last {q : Addr} {w : World} {b clock : Nat} {es : Array MapEntry} {ks : List Addr} (ty : TypeId) (hb : w.heap[b]? = some (.map es clock)) (h : Keys es (ks ++ [q])) (hf : Fresh w ks q) :
    (Builtin.delete_ #[132, 133] ty #[.map (some b), .pointer (some q)]).run Tryd.prog w = .ok (.tuple #[]) (w.putObj b (.map (es.eraseIdxIfInBounds ks.length) clock)) := by
  have hk := find_last h hf
  have hc := fun e => check_ptr e q w
  have hg : (getObj b).run Tryd.prog w = .ok (.map es clock) w := by simp [getObj, Sem.run, hb]
  have hs : ∀ o, (setObj b o).run Tryd.prog w = .ok () (w.putObj b o) := fun o => by simp [setObj, Sem.run, hb, World.putObj]
  unfold Builtin.delete_
  simp only [List.getElem?_toArray, List.getElem?_cons_zero, List.getElem?_cons_succ, Sem.run_bind, run_underlying Tryd.underlying132, Result.andThen_ok, hg, hc, hk, hs, Sem.run_pure]
theorem Keys.pop {es : Array MapEntry} {ks : List Addr} {q : Addr} (h : Keys es (ks ++ [q])) : Keys (es.eraseIdxIfInBounds ks.length) ks := by
  unfold Keys at h ⊢
  have hl : es.size = ks.length + 1 := by
    have := congrArg List.length h
    simpa using this
  have e : (es.eraseIdxIfInBounds ks.length).toList = es.toList.eraseIdx ks.length := by
    simp [Array.eraseIdxIfInBounds, hl]
  rw [e, List.eraseIdx_eq_take_drop_succ, List.map_append, List.map_take, List.map_drop, h]
  simp

end Go.Proofs.YtafoldpmodipaaaDoor
