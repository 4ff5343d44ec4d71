/- Texts of this claim, one behind the other: S5g, S5e, L5S, S6, S6b, S6e, S6d, Law6, I6, Law5b, M5, I5b, IEq, I5c, I5d, S7, Cut, M8, S8, S8r, S8d, Law8. -/
import Derived.Test.YthniakklkepomaaP14
import Derived.Test.YthniakklkepomaaP8
import Derived.Test.YthniakklkepomaaP5
import Derived.Test.YthniakklkepomaaP7
import Derived.Laws.BytesArg
import Derived.Test.YthniakklkepomaaP16
import Derived.Test.YthniakklkepomaaP12
import Derived.Test.YthniakklkepomaaP4
import Derived.Test.YthniakklkepomaaP1

/- The contract of the model's GetVal. -/
namespace Go.Proofs.Ythniakklkepomaa
open Go.RowKit

/-- GetVal. -/
def getT (zs : List Int) (i : Nat) : V × Int × Bool :=
  if (zs.getD i 0) ≤ (zs.length : Int) - i - 1 ∧ okV ⟨2, 0, strOfNums ((zs.drop (i + 1)).take (zs.getD i 0).toNat)⟩ = true then (⟨2, 0, strOfNums ((zs.drop (i + 1)).take (zs.getD i 0).toNat)⟩, (i : Int) + 1 + zs.getD i 0, true) else (V.zero, 0, false)
def getV (zs : List Int) (i ty : Int) : V × Int × Bool :=
  if ty = 1 then (if (Num.get zs i).2.2 = true then (⟨1, (Num.get zs i).1, ⟨#[]⟩⟩, (Num.get zs i).2.1, true) else (V.zero, 0, false))
  else if ty = 2 ∧ Num.inB i 0 ((zs.length : Int) - 1) = true then getT zs i.toNat else (V.zero, 0, false)
/-- What GetVal returns. -/
def rGet (r : V × Int × Bool) : Value := .tuple #[r.1.agg, .int .i64 r.2.1, .bool r.2.2]

end Go.Proofs.Ythniakklkepomaa

/- The contracts of the model's EncPlain and DecPlain. -/
namespace Go.Proofs.Ythniakklkepomaa
open Go.RowKit

/-- EncPlain. -/
def encAll (l : List V) : List Int := l.foldl putV []
def encP (l : List V) : List Int := if typeV l = 0 then [] else encAll l
theorem encAll_snoc (l : List V) (v : V) : encAll (l ++ [v]) = putV (encAll l) v := by simp [encAll]
theorem encAll_len (l : List V) : (encAll l).length ≤ 7 * l.length := by
  have : ∀ (l : List V) (b : List Int), (l.foldl putV b).length ≤ b.length + 7 * l.length := by
    intro l
    induction l with
    | nil => intro b; simp
    | cons v l ih =>
      intro b
      have h1 := ih (putV b v)
      have h2 := (putV_len b v).2
      simp only [List.foldl_cons, List.length_cons]
      omega
  have := this l []
  simpa [encAll] using this
theorem typeV_len {l : List V} (h : ¬ typeV l = 0) : l.length ≤ 64 := by
  unfold typeV at h
  split at h
  · rename_i h2
    have := Num.inB_true.1 h2.1
    omega
  · exact absurd rfl h

set_option maxHeartbeats 1000000 in
theorem sEncPlain (u : Value) (l : List V) (w : World) (hss : ∀ v ∈ l, v.s.size ≤ maxLen) (h : Rd 3 w u l.length (vals l)) :
    Calls Try.prog 26 #[u] w fun e w' => ∃ v', e = .returned v' ∧ Own 5 1 w.heap.size w'.heap.size w' v' (encP l).length (ints .u8 (encP l)) ∧ Below w.heap.size w w' := by
  have hown0 := own_lit (e := 5) (size := 1) w #[] 0 (Nat.zero_le _) rfl
  have hb0 := below_alloc w (.cells #[] 5)
  have HT := Lib.hid (sTypeOf u l _ hss (h.below hb0))
  have HE : Hid (encP l = if typeV l = 0 then [] else encAll l) := rfl
  have HTL : Hid (¬ typeV l = 0 → l.length ≤ 64) := typeV_len
  generalize hl : l.length = n at h HTL
  obtain ⟨a, cap, rfl, hm, HC⟩ := h.vals hl
  unfold maxLen at hm
  have HL := Lib.hid hl
  have HSS : Hid (∀ k, k < n → (l.getD k V.zero).s.size ≤ maxLen) := fun k hk => by
    have hk' : k < l.length := by omega
    have e : l.getD k V.zero = l[k] := by simp [hk']
    rw [e]
    exact hss _ (List.getElem_mem hk')
  have HS : Hid (∀ k, k < n → encAll (l.take (k + 1)) = putV (encAll (l.take k)) (l.getD k V.zero)) := fun k hk => by
    have hk' : k < l.length := by omega
    have e : l.getD k V.zero = l[k] := by simp [hk']
    rw [e, List.take_succ_eq_append_getElem hk', encAll_snoc]
  have HEL : Hid (∀ k, k ≤ n → (encAll (l.take k)).length ≤ 7 * k) := fun k hk => by
    have := encAll_len (l.take k)
    have e : (l.take k).length = k := by simp; omega
    rw [e] at this
    exact this
  generalize typeV l = ty at HT HE HTL
  clear h hl hss
  go_enter Try.func26, Try.ntmps26
  go_wp2_with fail
  refine HT.out.mono ?_
  rintro e w1 ⟨rfl, b1⟩
  have B1 := below_then hb0 b1 hb0.size
  have O1 := (hown0.below b1 (Nat.le_refl _)).wide b1.size
  clear b1 hb0 hown0 HT
  by_cases ht : ty = 0
  · subst ht
    rw [if_pos rfl] at HE
    go_wp2
    go_ret
    rw [HE.out]
    exact ⟨_, rfl, O1, B1⟩
  · have htb : (ty == 0) = false := by simpa using ht
    have h64 := HTL.out ht
    rw [if_neg ht] at HE
    go_wp2
    go_loopw [3, 4] (fun o i wr => ∃ k : Nat, k ≤ n ∧ i = .int .i64 k ∧ Own 5 1 w.heap.size wr.heap.size wr o (encAll (l.take k)).length (ints .u8 (encAll (l.take k))) ∧ Below w.heap.size w wr) (fun _ i _ => n - (intOf i).toNat)
    case atStart => exact ⟨0, Nat.zero_le _, rfl, O1, B1⟩
    case round =>
      obtain ⟨k, hk, rfl, hown, hbr⟩ := hrel
      by_cases hlt : k < n
      · obtain ⟨b, off, rfl, p0, p1, p2⟩ := HC.out k hlt
        have HSK := Lib.hid (HS.out k hlt)
        have hel := HEL.out k hk
        have HP := Lib.hid (sPutVal _ (encAll (l.take k)).length (encAll (l.take k)) (l.getD k V.zero) wr (by omega) (HSS.out k hlt) rfl hown.at)
        rw [← HSK.out] at HP
        replace p0 := (hbr.cell (p := ⟨b, off + k * 3, none⟩) (lt_of_cell p0)).trans p0
        replace p1 := (hbr.cell (p := ⟨b, off + k * 3 + 1, none⟩) (lt_of_cell p1)).trans p1
        replace p2 := (hbr.cell (p := ⟨b, off + k * 3 + 2, none⟩) (lt_of_cell p2)).trans p2
        generalize l.getD k V.zero = x at p0 p1 p2 HP
        obtain ⟨t1, n1, s1⟩ := x
        simp only at p0 p1 p2
        go_wp2_with fail
        refine HP.out.mono ?_
        rintro e w2 ⟨v2, rfl, o2, hb2⟩
        have B2 := below_then hbr hb2 hbr.size
        have O2 := Lib.hid (o2.lower hbr.size)
        clear o2 hb2 hbr hown HP p0 p1 p2
        go_wp2
        go_roundw
        case rel => exact ⟨k + 1, by omega, by go_num, O2.out, B2⟩
        case measure => simp [intOf]; omega
      · obtain rfl : k = n := by omega
        rw [← HL.out, List.take_length, ← HE.out] at hown
        go_wp2
        go_ret
        exact ⟨_, rfl, hown, hbr⟩

/-- DecPlain. -/
def decL (zs : List Int) (ty : Int) : Nat → Int → Option (List V × Int)
  | 0, i => some ([], i)
  | k + 1, i => if (getV zs i ty).2.2 = true then (decL zs ty k (getV zs i ty).2.1).map fun r => ((getV zs i ty).1 :: r.1, r.2) else none
def decP (zs : List Int) (ty k : Int) : List V × Bool :=
  if Num.inB k 1 64 = true then (match decL zs ty k.toNat 0 with | some r => if r.2 = zs.length then (r.1, true) else ([], false) | none => ([], false)) else ([], false)
/-- What DecPlain returns. -/
def RDs (w w' : World) (e : Ending) (r : List V × Bool) : Prop := ∃ v', e = .returned (.tuple #[v', .bool r.2]) ∧ Own 41 3 w.heap.size w'.heap.size w' v' r.1.length (vals r.1) ∧ Below w.heap.size w w'

end Go.Proofs.Ythniakklkepomaa

/- The model's l5Same (two slices of bytes are the same), and small lemmas on bytes. -/
namespace Go.Proofs.Ythniakklkepomaa
open Go.RowKit

theorem Own.drewN {e size lo hi w v n xs} (h : Own e size lo hi w v n xs) (d : Nat) : Own e size lo hi (w.drewN d) v n xs := by
  obtain ⟨g, cap, rfl, h1, h2, h3⟩ := h
  exact ⟨g, cap, rfl, h1, h2, h3.1, h3.2⟩
theorem sbytes_bytes (s : ByteArray) : Num.Bytes (sbytes s) := by
  intro x hx
  unfold sbytes at hx
  obtain ⟨b, _, rfl⟩ := List.mem_map.1 hx
  have := b.toNat_lt
  omega
theorem bytes_append {a b : List Int} (ha : Num.Bytes a) (hb : Num.Bytes b) : Num.Bytes (a ++ b) := fun x hx => (List.mem_append.1 hx).elim (ha x) (hb x)
theorem putV_bytes {zs : List Int} (h : Num.Bytes zs) (v : V) : Num.Bytes (putV zs v) := by
  unfold putV
  split
  · rename_i hok
    split
    · exact Num.put_bytes h v.n
    · rename_i ht
      have := okV_txt hok ht
      refine bytes_append h (fun x hx => ?_)
      rcases List.mem_cons.1 hx with rfl | hx
      · omega
      · exact sbytes_bytes _ x hx
  · exact h
theorem nil_bytes : Num.Bytes [] := fun x hx => by cases hx
theorem strOfNums_inj {xs ys : List Int} (hx : Num.Bytes xs) (hy : Num.Bytes ys) (h : strOfNums xs = strOfNums ys) : xs = ys := by
  have h2 : xs.map (fun n => UInt8.ofNat n.toNat) = ys.map (fun n => UInt8.ofNat n.toNat) := by
    have := congrArg (fun s : ByteArray => s.data.toList) h
    simpa [strOfNums] using this
  induction xs generalizing ys with
  | nil => cases ys with
    | nil => rfl
    | cons => simp at h2
  | cons x xs ih => cases ys with
    | nil => simp at h2
    | cons y ys =>
      simp only [List.map_cons, List.cons.injEq] at h2
      have h1 := hx x List.mem_cons_self
      have h3 := hy y List.mem_cons_self
      have e : x.toNat = y.toNat := by
        have := congrArg UInt8.toNat h2.1
        simp only [UInt8.toNat_ofNat'] at this
        omega
      have hxs : strOfNums xs = strOfNums ys := by
        unfold strOfNums
        rw [h2.2]
      rw [show x = y by omega, ih (fun z hz => hx z (List.mem_cons_of_mem _ hz)) (fun z hz => hy z (List.mem_cons_of_mem _ hz)) hxs h2.2]
theorem bstr_ne {a b : ByteArray} (h : ¬ a = b) : (a.toList == b.toList) = false := by
  have : ¬ a.toList = b.toList := fun e => h (by
    rw [ByteArray.toList_eq, ByteArray.toList_eq] at e
    apply ByteArray.ext
    exact Array.toList_inj.1 e)
  simpa using this
theorem conv_at {w : World} {v : Value} {n : Nat} {zs : List Int} (hz : zs.length = n) (h : At 1 w v n (ints .u8 zs)) : (convert 24 9 v).run Try.prog w = .ok (.string (strOfNums zs)) w := by
  obtain ⟨b, off, cap, rfl, _, _, _, hc⟩ := h
  exact run_convert_bytes_arg w 24 5 Try.underlying24 Try.underlying5 b off n cap zs hz (fun j hj => At.cell hc hz hj) 9 Try.underlying9
theorem getV_size (zs : List Int) (i ty : Int) : (getV zs i ty).1.s.size ≤ maxLen := by
  have h6 : ∀ v : V, okV v = true → ¬ v.ty = 1 → v.s.size ≤ maxLen := fun v h ht => Nat.le_trans (okV_txt h ht) (by decide)
  unfold getV
  split
  · split
    · exact Nat.zero_le _
    · exact Nat.zero_le _
  · split
    · unfold getT
      split
      · rename_i h
        exact h6 _ h.2 (fun e => by simp at e)
      · exact Nat.zero_le _
    · exact Nat.zero_le _

end Go.Proofs.Ythniakklkepomaa

/- The contracts of the model's Runs and Turns. -/
namespace Go.Proofs.Ythniakklkepomaa
open Go.RowKit

/-- append(s, x): x, a Run, has just been laid in a block of its own. -/
theorem appendU_law {P : Program} {t e : TypeId} {z : Value} {bytes : Nat} (T : ElemT P t e z 4 bytes) {w : World} {ops : Array Oper} {rest : List Oper} {o : Oper} {a : Act} {Q : Exit → Act → World → Prop} (hgd : o.guard = none) (s x : Operand)
    (ho : o.op = .call { callee := .builtin .append, args := #[s, x], argTypes := #[t, t] })
    (lo hi : Nat) (v : Value) (n : Nat) (xs : List Value) (u : U) (hs : a.eval s = v) (hown : Own e 4 lo hi w v n xs)
    (hx : a.eval x = .slice (some ⟨w.heap.size, 0, none⟩) 1 1)
    (h63 : n + 1 ≤ maxLen) (hbytes : (n + 1) * bytes ≤ 140737488355328)
    (h : ∀ v' w', Own e 4 lo w'.heap.size w' v' (n + 1) (xs ++ u.cs) → Ext w w' v v' → wpList P ops Q rest (a.put o.dst v') w') : wpList P ops Q (o :: rest) a (w.alloc (.cells #[.int .i64 u.v.ty, .int .i64 u.v.n, .string u.v.s, .int .i64 u.k] e)) := by
  refine append_law T hgd s x ho lo hi v n xs hs (hown.alloc _) w.heap.size 0 1 1 u.cs hx rfl ?_ ?_ h63 hbytes (fun v' w' h1 h2 => h v' w' h1 ((Ext.alloc v _).trans h2))
  · intro j y hj
    match j, hj with
    | 0, hj => simp [U.cs] at hj; subst hj; simp
    | 1, hj => simp [U.cs] at hj; subst hj; simp
    | 2, hj => simp [U.cs] at hj; subst hj; simp
    | 3, hj => simp [U.cs] at hj; subst hj; simp
    | j + 4, hj => simp [U.cs] at hj
  · intro y hy
    simp [U.cs] at hy
    rcases hy with rfl | rfl | rfl | rfl <;> rfl

/-- Runs: one value more. -/
def lastU (r : List U) : U := r.getD (r.length - 1) U.zero
def addRun (r : List U) (v : V) : List U := if 0 < r.length ∧ (lastU r).v.eqB v = true then r.set (r.length - 1) ⟨(lastU r).v, (lastU r).k + 1⟩ else r ++ [⟨v, 1⟩]
def runsL (l : List V) : List U := l.foldl addRun []
theorem runsL_snoc (l : List V) (v : V) : runsL (l ++ [v]) = addRun (runsL l) v := by simp [runsL]
theorem addRun_len (r : List U) (v : V) : r.length ≤ (addRun r v).length ∧ (addRun r v).length ≤ r.length + 1 := by
  unfold addRun
  split
  · simp
  · simp
theorem addRun_k {r : List U} {n : Nat} (h : ∀ u ∈ r, 1 ≤ u.k ∧ u.k ≤ n) (v : V) : ∀ u ∈ addRun r v, 1 ≤ u.k ∧ u.k ≤ (n : Int) + 1 := by
  intro u hu
  unfold addRun at hu
  split at hu
  · rename_i hc
    rcases List.mem_or_eq_of_mem_set hu with hu | rfl
    · have := h u hu
      omega
    · have hm : lastU r ∈ r := by
        unfold lastU
        have hk : r.length - 1 < r.length := by omega
        have e : r.getD (r.length - 1) U.zero = r[r.length - 1] := by simp [hk]
        rw [e]
        exact List.getElem_mem hk
      have := h _ hm
      simp only
      omega
  · rcases List.mem_append.1 hu with hu | hu
    · have := h u hu
      omega
    · rw [List.mem_singleton.1 hu]
      simp only
      omega
theorem runsL_len (l : List V) : (runsL l).length ≤ l.length := by
  have : ∀ (l : List V) (r : List U), (l.foldl addRun r).length ≤ r.length + l.length := by
    intro l
    induction l with
    | nil => intro r; simp
    | cons v l ih =>
      intro r
      have h1 := ih (addRun r v)
      have h2 := (addRun_len r v).2
      simp only [List.foldl_cons, List.length_cons]
      omega
  have := this l []
  simpa [runsL] using this
theorem runsL_k (l : List V) : ∀ u ∈ runsL l, 1 ≤ u.k ∧ u.k ≤ l.length := by
  have : ∀ (n : Nat), n ≤ l.length → ∀ u ∈ runsL (l.take n), 1 ≤ u.k ∧ u.k ≤ (n : Int) := by
    intro n
    induction n with
    | zero => intro _ u hu; simp [runsL] at hu
    | succ n ih =>
      intro hn u hu
      rw [List.take_succ_eq_append_getElem (by omega), runsL_snoc] at hu
      have := addRun_k (ih (by omega)) _ u hu
      omega
  have := this l.length (Nat.le_refl _)
  rw [List.take_length] at this
  exact this
theorem rus_setK (r : List U) (j : Nat) (k : Int) (hj : j < r.length) : rus (r.set j ⟨(r.getD j U.zero).v, k⟩) = (rus r).set (j * 4 + 3) (.int .i64 k) := by
  have e : r.getD j U.zero = r[j] := by simp [hj]
  rw [rus_set r j _ hj, e]
  simp only
  have g0 : (rus r)[j * 4]? = some (.int .i64 r[j].v.ty) := rus_get (j := 0) hj (by omega)
  have g1 : (rus r)[j * 4 + 1]? = some (.int .i64 r[j].v.n) := rus_get (j := 1) hj (by omega)
  have g2 : (rus r)[j * 4 + 2]? = some (.string r[j].v.s) := rus_get (j := 2) hj (by omega)
  have same : ∀ (xs : List Value) (i : Nat) (x : Value), xs[i]? = some x → xs.set i x = xs := by
    intro xs i x h
    obtain ⟨h1, h2⟩ := List.getElem?_eq_some_iff.1 h
    rw [← h2, List.set_getElem_self]
  rw [same _ _ _ g0, same _ _ _ g1, same _ _ _ g2]

theorem addRun_new {r : List U} {v : V} (h : r.length = 0) : addRun r v = r ++ [⟨v, 1⟩] := if_neg (fun h2 => by omega)
theorem addRun_ne {r : List U} {v : V} (h : (lastU r).v.eqB v = false) : addRun r v = r ++ [⟨v, 1⟩] := if_neg (fun h2 => by rw [h] at h2; cases h2.2)
theorem addRun_eq {r : List U} {v : V} {m : Nat} (hm : r.length = m + 1) (h : (r.getD m U.zero).v.eqB v = true) : addRun r v = r.set m ⟨(r.getD m U.zero).v, (r.getD m U.zero).k + 1⟩ := by
  have e : r.length - 1 = m := by omega
  unfold addRun lastU
  rw [e, if_pos ⟨by omega, h⟩]

set_option maxHeartbeats 2000000 in
theorem sRuns (u : Value) (l : List V) (w : World) (hn : l.length ≤ 1048576) (h : Rd 3 w u l.length (vals l)) :
    Calls Try.prog 40 #[u] w fun e w' => ∃ v', e = .returned v' ∧ Own 57 4 w.heap.size w'.heap.size w' v' (runsL l).length (rus (runsL l)) ∧ Below w.heap.size w w' := by
  have hown0 := own_lit (e := 57) (size := 4) w #[] 0 (Nat.zero_le _) rfl
  have hb0 := below_alloc w (.cells #[] 57)
  generalize hl : l.length = n at h hn
  obtain ⟨a, cap, rfl, _, HC⟩ := h.vals hl
  have HL := Lib.hid hl
  have HS : Hid (∀ k, k < n → runsL (l.take (k + 1)) = addRun (runsL (l.take k)) (l.getD k V.zero)) := fun k hk => by
    have hk' : k < l.length := by omega
    have e : l.getD k V.zero = l[k] := by simp [hk']
    rw [e, List.take_succ_eq_append_getElem hk', runsL_snoc]
  have HLEN : Hid (∀ k, k ≤ n → (runsL (l.take k)).length ≤ k ∧ ∀ u ∈ runsL (l.take k), 1 ≤ u.k ∧ u.k ≤ k) := fun k hk => by
    have e : (l.take k).length = k := by simp; omega
    have h1 := runsL_len (l.take k)
    have h2 := runsL_k (l.take k)
    rw [e] at h1 h2
    exact ⟨h1, h2⟩
  clear hl h
  go_enter Try.func40, Try.ntmps40
  go_wp2
  go_loopw [3, 4] (fun o i wr => ∃ k : Nat, k ≤ n ∧ i = .int .i64 k ∧ Own 57 4 w.heap.size wr.heap.size wr o (runsL (l.take k)).length (rus (runsL (l.take k))) ∧ Below w.heap.size w wr) (fun _ i _ => n - (intOf i).toNat)
  case atStart => exact ⟨0, Nat.zero_le _, rfl, hown0, hb0⟩
  case round =>
    obtain ⟨k, hk, rfl, hown, hbr⟩ := hrel
    by_cases hlt : k < n
    · obtain ⟨b, off, rfl, p0, p1, p2⟩ := HC.out k hlt
      have HSK := Lib.hid (HS.out k hlt)
      obtain ⟨hrl, hrk⟩ := HLEN.out k hk
      have HRK := Lib.hid hrk
      clear hrk
      replace p0 := (hbr.cell (p := ⟨b, off + k * 3, none⟩) (lt_of_cell p0)).trans p0
      replace p1 := (hbr.cell (p := ⟨b, off + k * 3 + 1, none⟩) (lt_of_cell p1)).trans p1
      replace p2 := (hbr.cell (p := ⟨b, off + k * 3 + 2, none⟩) (lt_of_cell p2)).trans p2
      generalize l.getD k V.zero = x at p0 p1 p2 HSK
      generalize runsL (l.take k) = r at hown hrl HRK HSK
      have HVA : Hid (rus r ++ U.cs ⟨x, 1⟩ = rus (r ++ [(⟨x, 1⟩ : U)])) := by
        show _ = _
        simp [rus]
      have HLN : Hid ((r ++ [(⟨x, 1⟩ : U)]).length = r.length + 1) := by
        show _ = _
        simp
      obtain ⟨g, cp, rfl, hg1, hg2, hrow⟩ := hown
      have hown : Own 57 4 w.heap.size wr.heap.size wr (.slice (some ⟨g, 0, none⟩) r.length cp) r.length (rus r) := ⟨g, cp, rfl, hg1, hg2, hrow⟩
      clear hg1 hg2 hrow
      obtain ⟨xt, xn, xs⟩ := x
      simp only at p0 p1 p2
      by_cases hr0 : r.length = 0
      · rw [addRun_new hr0] at HSK
        rw [hr0] at hown HLN
        rw [hr0]
        clear hrl hr0 HRK
        go_wp2
        go_quiet (fail)
        go_wp2_with (at_builtin; refine appendU_law Try.elemRuns rfl _ _ rfl _ _ _ _ _ ⟨⟨xt, xn, xs⟩, 1⟩ rfl (hown.drewN _) rfl (by unfold maxLen; omega) (by omega) ?_)
        intro v3 w3 o3 e3
        have b3 := (hbr.trans (below_drewN _ _ _)).trans (e3.below (hown.drewN _))
        rw [HVA.out] at o3
        have O3 := Lib.hid o3
        clear o3 e3 hown p0 p1 p2
        go_wp2
        go_roundw
        case rel => exact ⟨k + 1, by omega, by go_num, by rw [HSK.out, HLN.out]; exact O3.out, b3⟩
        case measure => simp [intOf]; omega
      · obtain ⟨m, hm⟩ : ∃ m, r.length = m + 1 := ⟨r.length - 1, by omega⟩
        have hmr : m < r.length := by omega
        obtain ⟨b', off', cp', e', _, _, _, hcs⟩ := hown.at
        simp only [Value.slice.injEq, Option.some.injEq, Addr.mk.injEq, and_true, true_and] at e'
        obtain ⟨⟨rfl, rfl⟩, rfl⟩ := e'
        obtain ⟨q0, q1, q2, q3⟩ := cells4 hcs hmr
        have hgd : r.getD m U.zero = r[m] := by simp [hmr]
        rw [← hgd] at q0 q1 q2 q3
        simp only [Nat.zero_add] at q0 q1 q2 q3
        have hmem : r.getD m U.zero ∈ r := by rw [hgd]; exact List.getElem_mem hmr
        obtain ⟨hk1, hk2⟩ := HRK.out _ hmem
        have HQ := Lib.hid (fun W => run_eql_val (r.getD m U.zero).v ⟨xt, xn, xs⟩ W)
        have HSE : Hid ((r.getD m U.zero).v.eqB ⟨xt, xn, xs⟩ = true → addRun r ⟨xt, xn, xs⟩ = r.set m ⟨(r.getD m U.zero).v, (r.getD m U.zero).k + 1⟩) := fun h => addRun_eq hm h
        have HSN : Hid ((r.getD m U.zero).v.eqB ⟨xt, xn, xs⟩ = false → addRun r ⟨xt, xn, xs⟩ = r ++ [⟨⟨xt, xn, xs⟩, 1⟩]) := fun h => addRun_ne (by unfold lastU; rw [show r.length - 1 = m by omega]; exact h)
        have HST : Hid (∀ d, ((wr.drewN d).setCell ⟨g, m * 4 + 3, none⟩ (.int .i64 ((r.getD m U.zero).k + 1))).ownsRow w.heap.size 57 4 (.slice (some ⟨g, 0, none⟩) (m + 1) cp) (m + 1) (rus (r.set m ⟨(r.getD m U.zero).v, (r.getD m U.zero).k + 1⟩)) ∧ (wr.drewN d).grownBy ((wr.drewN d).setCell ⟨g, m * 4 + 3, none⟩ (.int .i64 ((r.getD m U.zero).k + 1))) (some g)) := fun d => by
          have hrow := (hown.drewN d).row
          rw [rus_setK r m _ hmr]
          rw [hm] at hrow
          exact hrow.stored (m * 4 + 3) _
        have HFZ : Hid (∀ d, (wr.drewN d).frozen? ⟨g, m * 4 + 3, none⟩ = false) := fun d => (hown.drewN d).row.frozenAt _
        have HBK : Hid (w.heap.size ≤ g) := by
          obtain ⟨g2, c2, e2, h2, _⟩ := hown
          cases e2
          exact h2
        have HLS : Hid ((r.set m ⟨(r.getD m U.zero).v, (r.getD m U.zero).k + 1⟩).length = m + 1) := by
          show _ = _
          rw [List.length_set, hm]
        rw [hm] at hown HLN hrl
        rw [hm]
        clear hcs hgd hmem HRK hr0
        generalize r.getD m U.zero = y at q0 q1 q2 q3 hk1 hk2 HQ HSE HSN HST HLS
        obtain ⟨⟨yt, yn, ys⟩, yk⟩ := y
        simp only at q0 q1 q2 q3 hk1 hk2 HQ HSE HSN HST HLS
        cases he : V.eqB ⟨yt, yn, ys⟩ ⟨xt, xn, xs⟩ with
        | false =>
          rw [he] at HQ
          rw [HSN.out he] at HSK
          have hq := HQ.out
          clear he HSE HSN HST HLS HFZ
          go_wp2
          go_quiet (fail)
          go_wp2_with (at_builtin; refine appendU_law Try.elemRuns rfl _ _ rfl _ _ _ _ _ ⟨⟨xt, xn, xs⟩, 1⟩ rfl (hown.drewN _) rfl (by unfold maxLen; omega) (by omega) ?_)
          intro v3 w3 o3 e3
          have b3 := (hbr.trans (below_drewN _ _ _)).trans (e3.below (hown.drewN _))
          rw [HVA.out] at o3
          have O3 := Lib.hid o3
          clear o3 e3 hown p0 p1 p2
          go_wp2
          go_roundw
          case rel => exact ⟨k + 1, by omega, by go_num, by rw [HSK.out, HLN.out]; exact O3.out, b3⟩
          case measure => simp [intOf]; omega
        | true =>
          rw [he] at HQ
          rw [HSE.out he] at HSK
          have hq := HQ.out
          have z3 : ∀ d, (wr.drewN d).cell? ⟨g, m * 4 + 3, none⟩ = some (.int .i64 yk) := fun d => q3
          have f3 := HFZ.out
          clear he HSE HSN
          go_wp2
          go_quiet (fail)
          go_wp2
          go_roundw
          case rel =>
            refine ⟨k + 1, by omega, by go_num, ?_, ?_⟩
            · rw [HSK.out, HLS.out]
              exact ⟨g, cp, rfl, HBK.out, ((HST.out _).1.lt g rfl).2, (HST.out _).1⟩
            · have R := (HST.out nq).2
              have hB := hbr.trans (below_drewN wr w.heap.size nq)
              exact hB.trans ⟨R.os, R.tape, R.output, R.size, fun j hj => R.block j (by have := hB.size; omega) (by have := HBK.out; simp; omega)⟩
          case measure => simp [intOf]; omega
    · obtain rfl : k = n := by omega
      rw [← HL.out, List.take_length] at hown
      go_wp2
      go_ret
      exact ⟨_, rfl, hown, hbr⟩

end Go.Proofs.Ythniakklkepomaa

/- The contracts of the model's Turns, LongestRun and Spread. -/
namespace Go.Proofs.Ythniakklkepomaa
open Go.RowKit

/-- Turns: among the first k values. -/
def turnsK (l : List V) : Nat → Nat
  | 0 => 0
  | k + 1 => turnsK l k + (if 0 < k ∧ (l.getD k V.zero).eqB (l.getD (k - 1) V.zero) = false then 1 else 0)
def turnsL (l : List V) : Nat := turnsK l l.length
theorem turnsK_le (l : List V) : ∀ k, turnsK l k ≤ k
  | 0 => Nat.le_refl _
  | k + 1 => by
    have := turnsK_le l k
    rw [turnsK]
    split <;> omega

/-- LongestRun. -/
def longK (r : List U) : Int := r.foldl (fun n u => if n < u.k then u.k else n) 0
theorem longK_snoc (r : List U) (u : U) : longK (r ++ [u]) = if longK r < u.k then u.k else longK r := by
  unfold longK
  rw [List.foldl_append]
  rfl
def longL (l : List V) : Int := longK (runsL l)

/-- Spread. -/
def spreadF : List U → List V → Option (List V)
  | [], out => some out
  | u :: r, out => if 1 ≤ u.k ∧ u.k ≤ 64 - (out.length : Int) then spreadF r (out ++ List.replicate u.k.toNat u.v) else none
def spreadL (r : List U) : List V := (spreadF r []).getD []
theorem spreadF_len : ∀ {r : List U} {out l : List V}, out.length ≤ 64 → spreadF r out = some l → l.length ≤ 64
  | [], out, l, h, e => by
    simp only [spreadF, Option.some.injEq] at e
    subst e
    exact h
  | u :: r, out, l, h, e => by
    rw [spreadF] at e
    split at e
    · rename_i hc
      refine spreadF_len ?_ e
      simp only [List.length_append, List.length_replicate]
      omega
    · cases e
theorem spreadL_len (r : List U) : (spreadL r).length ≤ 64 := by
  unfold spreadL
  cases h : spreadF r [] with
  | none => simp
  | some l => exact spreadF_len (by simp) h

end Go.Proofs.Ythniakklkepomaa

/- The contract of the model's EncRuns, and its comparison of bytes. -/
namespace Go.Proofs.Ythniakklkepomaa
open Go.RowKit

theorem addRun_mem {r : List U} {v : V} {p : V → Prop} (h : ∀ u ∈ r, p u.v) (hv : p v) : ∀ u ∈ addRun r v, p u.v := by
  intro u hu
  unfold addRun at hu
  split at hu
  · rename_i hc
    rcases List.mem_or_eq_of_mem_set hu with hu | rfl
    · exact h u hu
    · have hk : r.length - 1 < r.length := by omega
      have e : lastU r = r[r.length - 1] := by simp [lastU, hk]
      simp only
      rw [e]
      exact h _ (List.getElem_mem hk)
  · rcases List.mem_append.1 hu with hu | hu
    · exact h u hu
    · rw [List.mem_singleton.1 hu]
      exact hv
theorem runsL_all {l : List V} {p : V → Prop} (h : ∀ v ∈ l, p v) : ∀ u ∈ runsL l, p u.v := by
  have : ∀ (l : List V) (r : List U), (∀ u ∈ r, p u.v) → (∀ v ∈ l, p v) → ∀ u ∈ l.foldl addRun r, p u.v := by
    intro l
    induction l with
    | nil => intro r hr _; exact hr
    | cons v l ih =>
      intro r hr hl
      exact ih _ (addRun_mem hr (hl v List.mem_cons_self)) (fun x hx => hl x (List.mem_cons_of_mem _ hx))
  exact this l [] (by simp) h

/-- EncRuns. -/
def encU (b : List Int) (r : List U) : List Int := r.foldl (fun b u => putV (Num.put b u.k) u.v) b
theorem encU_snoc (b : List Int) (r : List U) (u : U) : encU b (r ++ [u]) = putV (Num.put (encU b r) u.k) u.v := by simp [encU]
theorem encU_len (b : List Int) (r : List U) : (encU b r).length ≤ b.length + 12 * r.length := by
  induction r generalizing b with
  | nil => simp [encU]
  | cons u r ih =>
    have h1 := ih (putV (Num.put b u.k) u.v)
    have h2 := (putV_len (Num.put b u.k) u.v).2
    have h3 := (Num.put_len b u.k).2
    have e : encU b (u :: r) = encU (putV (Num.put b u.k) u.v) r := rfl
    rw [e]
    simp only [List.length_cons]
    omega
def encR (l : List V) : List Int := if typeV l = 0 then [] else encU (Num.put [] (runsL l).length) (runsL l)

theorem encU_bytes {b : List Int} (h : Num.Bytes b) (r : List U) : Num.Bytes (encU b r) := by
  induction r generalizing b with
  | nil => exact h
  | cons u r ih => exact ih (putV_bytes (Num.put_bytes h _) _)
theorem encR_bytes (l : List V) : Num.Bytes (encR l) := by
  unfold encR
  split
  · exact nil_bytes
  · exact encU_bytes (Num.put_bytes nil_bytes _) _
theorem encR_len (l : List V) : (encR l).length ≤ 5 + 12 * 64 := by
  unfold encR
  split
  · simp
  · rename_i h
    have h1 := typeV_len h
    have h2 := runsL_len l
    have h3 := encU_len (Num.put [] (runsL l).length) (runsL l)
    have h4 := (Num.put_len [] (runsL l).length).2
    simp only [List.length_nil] at h4
    omega

set_option maxHeartbeats 2000000 in
theorem sEncRuns (u : Value) (l : List V) (w : World) (hn : l.length ≤ 1048576) (hss : ∀ v ∈ l, v.s.size ≤ maxLen) (h : Rd 3 w u l.length (vals l)) :
    Calls Try.prog 27 #[u] w fun e w' => ∃ v', e = .returned v' ∧ Own 5 1 w.heap.size w'.heap.size w' v' (encR l).length (ints .u8 (encR l)) ∧ Below w.heap.size w w' := by
  have HT := Lib.hid (sTypeOf u l w hss h)
  have HR := Lib.hid (fun W (hW : Below w.heap.size w W) => sRuns u l W hn (h.below hW))
  have HE : Hid (encR l = if typeV l = 0 then [] else encU (Num.put [] (runsL l).length) (runsL l)) := rfl
  have HRS := Lib.hid (runsL_all (p := fun v => v.s.size ≤ maxLen) hss)
  have HRL := Lib.hid (runsL_len l)
  have HTL : Hid (¬ typeV l = 0 → l.length ≤ 64) := typeV_len
  obtain ⟨a, cap, rfl, _, _⟩ := h
  generalize typeV l = ty at HT HE HTL
  generalize runsL l = r at HR HE HRS HRL
  clear hss
  generalize hln : l.length = n at *
  go_enter Try.func27, Try.ntmps27
  go_wp2_with fail
  refine HT.out.mono ?_
  rintro e w1 ⟨rfl, b1⟩
  clear HT
  by_cases ht : ty = 0
  · subst ht
    rw [if_pos rfl] at HE
    have OL := own_lit (e := 5) (size := 1) w1 #[] 0 (Nat.zero_le _) rfl
    have BL := b1.alloc b1.size (.cells #[] 5)
    have hzz := b1.size
    go_wp2
    go_ret
    rw [HE.out]
    exact ⟨_, rfl, OL.lower hzz, BL⟩
  · have htb : (ty == 0) = false := by simpa using ht
    have h64 := HTL.out ht
    have hrl := HRL.out
    rw [if_neg ht] at HE
    go_wp2_with fail
    refine (HR.out _ b1).mono ?_
    rintro e w2 ⟨v2, rfl, o2, b2⟩
    have B2 := below_then b1 b2 b1.size
    clear HR b2
    generalize hm : r.length = m at o2 hrl HE
    obtain ⟨a2, c2, rfl, _, HC⟩ := o2.rd.runs hm
    have HM := Lib.hid hm
    have hown0 := own_lit (e := 5) (size := 1) w2 #[] 0 (Nat.zero_le _) rfl
    have hb0 := below_alloc w2 (.cells #[] 5)
    have HP0 := Lib.hid (sPutNum _ 0 [] (m : Int) (w2.alloc (.cells #[] 5)) (by omega) rfl hown0.at)
    have HS : Hid (∀ k, k < m → encU (Num.put [] (m : Int)) (r.take (k + 1)) = putV (Num.put (encU (Num.put [] (m : Int)) (r.take k)) (r.getD k U.zero).k) (r.getD k U.zero).v) := fun k hk => by
      have hk' : k < r.length := by omega
      have e : r.getD k U.zero = r[k] := by simp [hk']
      rw [e, List.take_succ_eq_append_getElem hk', encU_snoc]
    have HSS : Hid (∀ k, k < m → (r.getD k U.zero).v.s.size ≤ maxLen) := fun k hk => by
      have hk' : k < r.length := by omega
      have e : r.getD k U.zero = r[k] := by simp [hk']
      rw [e]
      exact HRS.out _ (List.getElem_mem hk')
    have HEL : Hid (∀ k, k ≤ m → (encU (Num.put [] (m : Int)) (r.take k)).length ≤ 5 + 12 * k) := fun k hk => by
      have h1 := encU_len (Num.put [] (m : Int)) (r.take k)
      have h2 := (Num.put_len [] (m : Int)).2
      have e : (r.take k).length = k := by simp; omega
      rw [e] at h1
      simp only [List.length_nil] at h2
      omega
    have HZ : Hid (encU (Num.put [] (m : Int)) (r.take 0) = Num.put [] (m : Int)) := rfl
    clear hm o2 HRS
    have hcc : ((m : Nat) : Int) = m := rfl
    clear hcc
    go_wp2_with fail
    refine HP0.out.mono ?_
    rintro e w3 ⟨v3, rfl, o3, b3⟩
    have B23 := below_then hb0 b3 hb0.size
    rw [← HZ.out] at o3
    have O3 : Own 5 1 w2.heap.size w3.heap.size w3 v3 (encU (Num.put [] (m : Int)) (r.take 0)).length (ints .u8 (encU (Num.put [] (m : Int)) (r.take 0))) := o3.lower (by simp)
    clear HP0 b3 hb0 hown0 o3
    go_wp2
    go_loopw [4, 5] (fun o i wr => ∃ k : Nat, k ≤ m ∧ i = .int .i64 k ∧ Own 5 1 w2.heap.size wr.heap.size wr o (encU (Num.put [] (m : Int)) (r.take k)).length (ints .u8 (encU (Num.put [] (m : Int)) (r.take k))) ∧ Below w2.heap.size w2 wr) (fun _ i _ => m - (intOf i).toNat)
    case atStart => exact ⟨0, Nat.zero_le _, rfl, O3, B23⟩
    case round =>
      obtain ⟨k, hk, rfl, hown, hbr⟩ := hrel
      by_cases hlt : k < m
      · obtain ⟨b, off, rfl, _⟩ := HC.out k hlt wr hbr
        have HSK := Lib.hid (HS.out k hlt)
        have hel := HEL.out k hk
        have hsz := HSS.out k hlt
        have HK : Hid (∀ W, Below wr.heap.size wr W → W.cell? ⟨b, off + k * 4, none⟩ = some (.int .i64 (r.getD k U.zero).v.ty) ∧ W.cell? ⟨b, off + k * 4 + 1, none⟩ = some (.int .i64 (r.getD k U.zero).v.n) ∧ W.cell? ⟨b, off + k * 4 + 2, none⟩ = some (.string (r.getD k U.zero).v.s) ∧ W.cell? ⟨b, off + k * 4 + 3, none⟩ = some (.int .i64 (r.getD k U.zero).k)) := fun W hW => by
          obtain ⟨_, _, e1, d1⟩ := HC.out k hlt W (below_then hbr hW hbr.size)
          cases e1
          exact d1
        generalize r.getD k U.zero = x at HSK HK hsz
        obtain ⟨⟨t1, n1, s1⟩, q⟩ := x
        simp only at HSK HK hsz
        generalize encU (Num.put [] (m : Int)) (r.take k) = zs at hown hel HSK
        have hpl := (Num.put_len zs q).2
        have HP := Lib.hid (fun W (hW : Below wr.heap.size wr W) => sPutNum _ zs.length zs q W (by omega) rfl (hown.at.below hW))
        have HPV := Lib.hid (fun v W (h : At 1 W v (Num.put zs q).length (ints .u8 (Num.put zs q))) => sPutVal v (Num.put zs q).length (Num.put zs q) ⟨t1, n1, s1⟩ W (by omega) hsz rfl h)
        obtain ⟨g, cp, rfl, _, _, _⟩ := hown
        rw [← HSK.out] at HPV
        generalize Num.put zs q = zq at HP HPV
        have hB' := (Below.refl wr.heap.size wr).drew
        generalize zs.length = c at *
        go_wp2
        go_region_held3 (fun W => W.cell? ⟨b, off + k * 4, none⟩ = some (.int .i64 t1) ∧ W.cell? ⟨b, off + k * 4 + 1, none⟩ = some (.int .i64 n1) ∧ W.cell? ⟨b, off + k * 4 + 2, none⟩ = some (.string s1) ∧ W.cell? ⟨b, off + k * 4 + 3, none⟩ = some (.int .i64 q)) (exact HK.out _ hB') (first | (go_at_call 41; (with_reducible refine (HP.out _ hB').mono ?_); rintro e w4 ⟨v4, rfl, o4, hb4⟩; replace hB' := below_then hB' hb4 hB'.size) | (go_at_call 39; (with_reducible refine (HPV.out v4 _ o4.at).mono ?_); rintro e w5 ⟨v5, rfl, o5, hb5⟩; have z5 := hB'.size; replace hB' := below_then hB' hb5 hB'.size))
        have hz := hbr.size
        have O5 := Lib.hid (o5.lower (show w2.heap.size ≤ _ by omega))
        clear o5 o4
        go_wp2
        go_roundw
        case rel => exact ⟨k + 1, by omega, by go_num, O5.out, below_then hbr hB' hbr.size⟩
        case measure => simp [intOf]; omega
      · obtain rfl : k = m := by omega
        rw [← HM.out, List.take_length, HM.out, ← HE.out] at hown
        go_wp2
        go_ret
        exact ⟨_, rfl, hown.lower B2.size, below_then B2 hbr B2.size⟩

end Go.Proofs.Ythniakklkepomaa

/- The contract of the model's DecRuns. -/
namespace Go.Proofs.Ythniakklkepomaa
open Go.RowKit




/-- DecRuns. -/
def decU (zs : List Int) (ty : Int) : Nat → Int → Option (List U)
  | 0, _ => some []
  | n + 1, i => if (Num.get zs i).2.2 = true ∧ (getV zs (Num.get zs i).2.1 ty).2.2 = true then (decU zs ty n (getV zs (Num.get zs i).2.1 ty).2.1).map fun r => ⟨(getV zs (Num.get zs i).2.1 ty).1, (Num.get zs i).1⟩ :: r else none
def decR (zs : List Int) (ty k : Int) : List V × Bool :=
  if (Num.get zs 0).2.2 = true ∧ Num.inB k 1 64 = true ∧ Num.inB (Num.get zs 0).1 1 64 = true then
    (match decU zs ty (Num.get zs 0).1.toNat (Num.get zs 0).2.1 with
      | some r => if ((spreadL r).length : Int) = k ∧ encR (spreadL r) = zs then (spreadL r, true) else ([], false)
      | none => ([], false))
  else ([], false)
theorem decR_len (zs : List Int) (ty k : Int) : (decR zs ty k).1.length ≤ 64 := by
  unfold decR
  split
  · split
    · split
      · exact spreadL_len _
      · simp
    · simp
  · simp
theorem decU_size {zs : List Int} {ty : Int} : ∀ {n : Nat} {i : Int} {r : List U}, decU zs ty n i = some r → ∀ u ∈ r, u.v.s.size ≤ maxLen := by
  intro n
  induction n with
  | zero =>
    intro i r h u hu
    simp only [decU, Option.some.injEq] at h
    subst h
    cases hu
  | succ n ih =>
    intro i r h u hu
    rw [decU] at h
    split at h
    · obtain ⟨q, hq, rfl⟩ := Option.map_eq_some_iff.1 h
      rcases List.mem_cons.1 hu with rfl | hu
      · exact getV_size _ _ _
      · exact ih hq u hu
    · cases h
theorem spreadF_all {p : V → Prop} : ∀ {r : List U} {out l : List V}, (∀ u ∈ r, p u.v) → (∀ v ∈ out, p v) → spreadF r out = some l → ∀ v ∈ l, p v
  | [], out, l, _, h2, e => by
    simp only [spreadF, Option.some.injEq] at e
    subst e
    exact h2
  | u :: r, out, l, h1, h2, e => by
    rw [spreadF] at e
    split at e
    · refine spreadF_all (fun x hx => h1 x (List.mem_cons_of_mem _ hx)) (fun v hv => ?_) e
      rcases List.mem_append.1 hv with hv | hv
      · exact h2 v hv
      · rw [List.eq_of_mem_replicate hv]
        exact h1 u List.mem_cons_self
    · cases e
theorem spreadL_all {p : V → Prop} {r : List U} (h : ∀ u ∈ r, p u.v) : ∀ v ∈ spreadL r, p v := by
  unfold spreadL
  cases e : spreadF r [] with
  | none => simp
  | some l => exact spreadF_all h (by simp) e

end Go.Proofs.Ythniakklkepomaa

/- Chapter 6's exact laws, walked; the program's own contracts come as hypotheses. -/
namespace Go.Proofs.Ythniakklkepomaa
open Go.RowKit

def CRuns : Prop := ∀ (u : Value) (l : List V) (w : World), l.length ≤ 1048576 → (∀ v ∈ l, v.s.size ≤ maxLen) → Rd 3 w u l.length (vals l) → Calls Try.prog 60 #[u] w fun e w' => ∃ v', e = .returned v' ∧ Own 57 4 w.heap.size w'.heap.size w' v' (runsL l).length (rus (runsL l)) ∧ Below w.heap.size w w'
def CEncRuns : Prop := ∀ (u : Value) (l : List V) (w : World), l.length ≤ 1048576 → (∀ v ∈ l, v.s.size ≤ maxLen) → Rd 3 w u l.length (vals l) → Calls Try.prog 49 #[u] w fun e w' => ∃ v', e = .returned v' ∧ Own 5 1 w.heap.size w'.heap.size w' v' (encR l).length (ints .u8 (encR l)) ∧ Below w.heap.size w w'
theorem encR_len' (l : List V) : (encR l).length ≤ 773 + l.length := by
  have := encR_len l
  omega

end Go.Proofs.Ythniakklkepomaa

/- The contracts of impl's Turns, Spread (with spreadLength). -/
namespace Go.Proofs.Ythniakklkepomaa
open Go.RowKit Go.Lib

theorem Four.ext {W W' : World} {b : Nat} {u : U} {v v' : Value} (h : Four W b u) (k : Ext W W' v v') (hne : some b ≠ v.ownBlock) : Four W' b u := by
  have hb := k.grown.block b (lt_of_cell h.1.1) hne
  have hc : ∀ j, W'.cell? ⟨b, j, none⟩ = W.cell? ⟨b, j, none⟩ := fun j => World.cell?_of_block hb
  have hf : ∀ j, W'.frozen? ⟨b, j, none⟩ = W.frozen? ⟨b, j, none⟩ := fun j => World.frozen?_of_block hb
  exact ⟨⟨(hc 0).trans h.1.1, (hc 1).trans h.1.2.1, (hc 2).trans h.1.2.2.1, (hc 3).trans h.1.2.2.2⟩, (hf 0).trans h.2.1, (hf 1).trans h.2.2.1, (hf 2).trans h.2.2.2.1, (hf 3).trans h.2.2.2.2⟩

/-- The sum of the lengths, if each is right. -/
def sumK : List U → Nat → Option Nat
  | [], k => some k
  | u :: r, k => if 1 ≤ u.k ∧ u.k ≤ 64 - (k : Int) then sumK r (k + u.k.toNat) else none
theorem sumK_spread : ∀ (r : List U) (out : List V), sumK r out.length = (spreadF r out).map List.length
  | [], out => rfl
  | u :: r, out => by
    rw [sumK, spreadF]
    split
    · rw [← sumK_spread r, List.length_append, List.length_replicate]
    · rfl

end Go.Proofs.Ythniakklkepomaa

/- The exact laws of PutVal, GetVal, EncPlain and DecPlain, walked; the program's own contracts come as hypotheses. -/
namespace Go.Proofs.Ythniakklkepomaa
open Go.RowKit

def CEncPlain : Prop := ∀ (u : Value) (l : List V) (w : World), l.length ≤ 1048576 → (∀ v ∈ l, v.s.size ≤ maxLen) → Rd 3 w u l.length (vals l) → Calls Try.prog 38 #[u] w fun e w' => ∃ v', e = .returned v' ∧ Own 5 1 w.heap.size w'.heap.size w' v' (encP l).length (ints .u8 (encP l)) ∧ Below w.heap.size w w'
theorem encP_len (l : List V) : (encP l).length ≤ 7 * l.length := by
  unfold encP
  split
  · simp
  · exact encAll_len l
theorem decL_len {zs : List Int} {ty : Int} : ∀ {k : Nat} {i : Int} {r : List V × Int}, decL zs ty k i = some r → r.1.length = k := by
  intro k
  induction k with
  | zero =>
    intro i r h
    simp only [decL, Option.some.injEq] at h
    subst h
    rfl
  | succ k ih =>
    intro i r h
    rw [decL] at h
    split at h
    · obtain ⟨q, hq, rfl⟩ := Option.map_eq_some_iff.1 h
      simp [ih hq]
    · cases h
theorem decP_len (zs : List Int) (ty k : Int) : (decP zs ty k).1.length ≤ 64 := by
  unfold decP
  split
  · rename_i h
    have := Num.inB_true.1 h
    split
    · rename_i r hr
      have hl := decL_len hr
      split
      · simp only
        omega
      · simp
    · simp
  · simp

theorem Held.under {W W' : World} {b B : Nat} {v : V} (h : Held W b v) (hb : Below B W W') (hlt : b < B) : Held W' b v :=
  ⟨⟨(hb.cell (p := ⟨b, 0, none⟩) hlt).trans h.1.1, (hb.cell (p := ⟨b, 1, none⟩) hlt).trans h.1.2.1, (hb.cell (p := ⟨b, 2, none⟩) hlt).trans h.1.2.2⟩,
    (hb.frozen (p := ⟨b, 0, none⟩) hlt).trans h.2.1, (hb.frozen (p := ⟨b, 1, none⟩) hlt).trans h.2.2.1, (hb.frozen (p := ⟨b, 2, none⟩) hlt).trans h.2.2.2⟩

end Go.Proofs.Ythniakklkepomaa

/- Plain mathematics of chapter 5: a Val's bytes, read again; the types of a list. -/
namespace Go.Proofs.Ythniakklkepomaa
open Go.RowKit

theorem okV_num {v : V} (h : okV v = true) (ht : v.ty = 1) : Num.ok v.n := by
  unfold okV at h
  rw [if_pos ht] at h
  simp only [Bool.and_eq_true] at h
  exact Num.okB_true.1 h.1
theorem getV_int {zs : List Int} {i : Int} : getV zs i 1 = if (Num.get zs i).2.2 = true then (⟨1, (Num.get zs i).1, ⟨#[]⟩⟩, (Num.get zs i).2.1, true) else (V.zero, 0, false) := if_pos rfl
theorem str_sbytes (s : ByteArray) : strOfNums (sbytes s) = s := by
  unfold strOfNums sbytes
  apply ByteArray.ext
  apply Array.toList_inj.1
  simp only [List.map_map]
  have : ((fun n : Int => UInt8.ofNat n.toNat) ∘ fun b : UInt8 => (b.toNat : Int)) = id := by
    funext b
    simp
  rw [this]
  simp
/-- A value's bytes. -/
def valB (v : V) : List Int := if v.ty = 1 then Num.grp 4 (Num.zig v.n) else (v.s.size : Int) :: sbytes v.s
theorem putV_val {v : V} (h : okV v = true) (zs : List Int) : putV zs v = zs ++ valB v := by
  unfold putV valB
  rw [if_pos h]
  split
  · rename_i ht
    exact Num.put_ok (okV_num h ht)
  · rfl
theorem get_grp {b rest : List Int} {n : Int} (h : Num.ok n) : Num.get (b ++ (Num.grp 4 (Num.zig n) ++ rest)) b.length = (n, ((b ++ Num.grp 4 (Num.zig n)).length : Int), true) := by
  have := Num.get_put (b := b) (rest := rest) h
  rw [Num.put_ok h, List.append_assoc] at this
  exact this
theorem getV_val {v : V} (h : okV v = true) (b rest : List Int) : getV (b ++ (valB v ++ rest)) b.length v.ty = (v, ((b ++ valB v).length : Int), true) := by
  obtain ⟨t, n, s⟩ := v
  unfold valB
  by_cases ht : t = 1
  · subst ht
    have hn := okV_num h rfl
    have hs : s = ⟨#[]⟩ := by
      unfold okV at h
      simp only [if_true, Bool.and_eq_true, beq_iff_eq] at h
      apply ByteArray.ext
      apply Array.eq_empty_of_size_eq_zero
      exact h.2
    subst hs
    simp only [if_true]
    rw [getV_int, get_grp hn]
    simp
  · have hsz := okV_txt h ht
    have h' := h
    unfold okV at h
    simp only [if_neg ht, Bool.and_eq_true, beq_iff_eq] at h
    obtain ⟨rfl, rfl, htx⟩ := h
    simp only [if_neg ht]
    unfold getV
    rw [if_neg ht, if_pos ⟨rfl, Num.inB_true.2 ⟨by omega, by simp; omega⟩⟩]
    unfold getT
    have e0 : (b ++ ((s.size : Int) :: sbytes s ++ rest)).getD (b.length : Int).toNat 0 = (s.size : Int) := by
      rw [Int.toNat_natCast]
      simp [List.getD]
    have e1 : ((b ++ ((s.size : Int) :: sbytes s ++ rest)).drop ((b.length : Int).toNat + 1)).take ((s.size : Int)).toNat = sbytes s := by
      rw [Int.toNat_natCast, Int.toNat_natCast, List.drop_append, List.drop_of_length_le (by omega), List.nil_append, Nat.add_sub_cancel_left]
      simp only [List.cons_append, List.drop_succ_cons, List.drop_zero]
      rw [← sbytes_len s, List.take_left]
    simp only [e0, e1, str_sbytes]
    rw [if_pos ⟨by
      simp only [List.length_append, List.length_cons, sbytes_len, Int.toNat_natCast]
      omega, h'⟩]
    simp only [List.length_append, List.length_cons, sbytes_len, Int.toNat_natCast]
    congr 2
    omega
theorem typeV_parts {l : List V} (h : ¬ typeV l = 0) : 1 ≤ l.length ∧ l.length ≤ 64 ∧ ∀ v ∈ l, okV v = true ∧ v.ty = typeV l := by
  unfold typeV at h ⊢
  by_cases hc : Num.inB l.length 1 64 = true ∧ l.all (ofB (l.getD 0 V.zero).ty) = true
  · rw [if_pos hc]
    have h1 := Num.inB_true.1 hc.1
    refine ⟨by omega, by omega, fun v hv => ?_⟩
    have := List.all_eq_true.1 hc.2 v hv
    unfold ofB at this
    simp only [Bool.and_eq_true, beq_iff_eq] at this
    exact this
  · rw [if_neg hc] at h
    exact absurd rfl h
theorem typeV_of {l : List V} {ty : Int} (h1 : 1 ≤ l.length) (h2 : l.length ≤ 64) (h : ∀ v ∈ l, okV v = true ∧ v.ty = ty) : typeV l = ty := by
  have e0 : l.getD 0 V.zero ∈ l := by
    have hl : 0 < l.length := by omega
    have e : l.getD 0 V.zero = l[0] := by simp [hl]
    rw [e]
    exact List.getElem_mem hl
  unfold typeV
  rw [if_pos, (h _ e0).2]
  refine ⟨Num.inB_true.2 ⟨by omega, by omega⟩, List.all_eq_true.2 (fun v hv => ?_)⟩
  unfold ofB
  rw [(h _ e0).2, (h v hv).1, (h v hv).2]
  simp
theorem getV_ok {zs : List Int} (hb : Num.Bytes zs) {i ty : Int} (h : (getV zs i ty).2.2 = true) : okV (getV zs i ty).1 = true ∧ (getV zs i ty).1.ty = ty := by
  unfold getV at h ⊢
  split
  · rename_i ht
    subst ht
    rw [if_pos rfl] at h
    split
    · rename_i hg
      have hp : Num.get zs i = ((Num.get zs i).1, (Num.get zs i).2.1, true) := by rw [← hg]
      have := (Num.put_get hb hp).2.2.2.2.1
      refine ⟨?_, rfl⟩
      unfold okV
      simp only [if_true, Bool.and_eq_true]
      exact ⟨Num.okB_true.2 this, rfl⟩
    · rename_i hg
      rw [if_neg hg] at h
      cases h
  · rename_i ht
    rw [if_neg ht] at h
    split
    · rename_i hc
      rw [if_pos hc] at h
      unfold getT at h ⊢
      split
      · rename_i hd
        exact ⟨hd.2, hc.1.symm⟩
      · rename_i hd
        rw [if_neg hd] at h
        cases h
    · rename_i hc
      rw [if_neg hc] at h
      cases h

end Go.Proofs.Ythniakklkepomaa

/- The contracts of impl's appendVal, PutVal, EncPlain. -/
namespace Go.Proofs.Ythniakklkepomaa
open Go.RowKit Go.Lib

/-- append(b, s...), s a string, as one operation: which block it may have written. -/
theorem appendS_grown {P : Program} {t u e : TypeId} (T : ElemT P t e (.int .u8 0) 1 1) (hu : P.underlying u = some .string) {w : World} {o : Oper} {a : Act} {K : Act → World → Prop} {Q : Exit → Act → World → Prop} (b x : Operand)
    (ho : o.op = .call { callee := .builtin .append, args := #[b, x], argTypes := #[t, u] })
    (lo hi : Nat) (v : Value) (n : Nat) (xs : List Value) (s : ByteArray) (hs : a.eval b = v) (hown : Own e 1 lo hi w v n xs)
    (hx : a.eval x = .string s) (h63 : n + s.size ≤ maxLen) (hbytes : n + s.size ≤ 140737488355328)
    (h : ∀ v' w', Own e 1 lo w'.heap.size w' v' (n + s.size) (xs ++ ints .u8 (sbytes s)) → w.grownBy w' v.ownBlock → K (a.put o.dst v') w') : Oper.wp P o a w K Q := by
  obtain ⟨i, hi', hz, hsz, hb⟩ := T.info
  obtain ⟨v', w', hr, h2, h3, h4⟩ := run_append_own_string (P := P) w lo t u o.type e i T.ht hu hi' hz hsz hb v n xs hown.row s h63 hbytes hown.lo
  rw [strCells_eq] at h2
  unfold Oper.wp execOp
  simp only [ho, resolve, invoke, builtin, Sem.run_bind, Sem.run_pure, Result.andThen_ok, List.map_toArray, List.map_cons, List.map_nil, hs, hx, hr]
  exact h v' w' (hown.append h2 h4) h3

theorem Ext.then_grown {w w1 w2 : World} {v v1 : Value} (h : Ext w w1 v v1) (k : w1.grownBy w2 v1.ownBlock) : w.grownBy w2 v.ownBlock := by
  have hs := h.grown.size
  refine ⟨k.os.trans h.grown.os, k.tape.trans h.grown.tape, k.output.trans h.grown.output, Nat.le_trans hs k.size, fun i hi hne => ?_⟩
  refine (k.block i (by omega) (fun e => ?_)).trans (h.grown.block i hi hne)
  rcases h.blk with hb | ⟨g, hb, hg⟩
  · exact hne (e.trans hb)
  · rw [hb] at e
    cases e
    omega

set_option maxHeartbeats 1000000 in
theorem appendValG (v : Value) (lo hi n : Nat) (zs : List Int) (x : V) (w : World) (hn : n ≤ 1073741824) (hz : zs.length = n) (hok : okV x = true) (h : Own 5 1 lo hi w v n (ints .u8 zs)) :
    Calls Try.prog 54 #[v, x.agg] w fun e w' => ∃ v', e = .returned v' ∧ Own 5 1 lo w'.heap.size w' v' (putV zs x).length (ints .u8 (putV zs x)) ∧ Below lo w w' ∧ w.grownBy w' v.ownBlock := by
  have HZ := Lib.hid hz
  have HE : Hid (putV zs x = if x.ty = 1 then Num.put zs x.n else zs ++ ((x.s.size : Int) :: sbytes x.s)) := if_pos hok
  have HSZ : Hid (¬ x.ty = 1 → x.s.size ≤ 6) := fun h2 => okV_txt hok h2
  have HON : Hid (x.ty = 1 → Num.ok x.n) := fun h2 => okV_num hok h2
  clear hz hok
  obtain ⟨t, xn, s⟩ := x
  simp only at HE HSZ HON
  obtain ⟨g, cap, rfl, g1, g2, g3⟩ := h
  have hgl := (g3.lt g rfl).2
  have h : Own 5 1 lo w.heap.size w (.slice (some ⟨g, 0, none⟩) n cap) n (ints .u8 zs) := ⟨g, cap, rfl, g1, hgl, g3⟩
  clear g1 g2 g3
  have B0 := below_alloc_own h (.cells #[.int .i64 t, .int .i64 xn, .string s] 41)
  have O0 := h.alloc (.cells #[.int .i64 t, .int .i64 xn, .string s] 41)
  have c0 : (w.alloc (.cells #[.int .i64 t, .int .i64 xn, .string s] 41)).cell? ⟨w.heap.size, 0, none⟩ = some (.int .i64 t) := by simp
  have c1 : (w.alloc (.cells #[.int .i64 t, .int .i64 xn, .string s] 41)).cell? ⟨w.heap.size, 1, none⟩ = some (.int .i64 xn) := by simp
  have c2 : (w.alloc (.cells #[.int .i64 t, .int .i64 xn, .string s] 41)).cell? ⟨w.heap.size, 2, none⟩ = some (.string s) := by simp
  have hszb : (w.alloc (.cells #[.int .i64 t, .int .i64 xn, .string s] 41)).heap.size = w.heap.size + 1 := World.size_alloc _ _
  have EX := Ext.alloc (w := w) (.slice (some ⟨g, 0, none⟩) n cap) (.cells #[.int .i64 t, .int .i64 xn, .string s] 41)
  generalize hwb : w.alloc (.cells #[.int .i64 t, .int .i64 xn, .string s] 41) = wb at B0 O0 c0 c1 c2 hszb EX
  have HW := Lib.hid hwb
  have HSB := Lib.hid hszb
  have HEX := Lib.hid EX
  clear hwb hszb h EX
  by_cases ht : t = 1
  · subst ht
    rw [if_pos rfl] at HE
    have HP : Hid (Num.put zs xn = Num.puts zs [xn]) := by
      show _ = _
      rw [Num.puts_one, Num.put_ok (HON.out rfl)]
    have hl : At 1 (wb.alloc (.cells #[.int .i64 xn] 3)) (.slice (some ⟨wb.heap.size, 0, none⟩) 1 1) 1 (ints .i64 [xn]) := (own_lit wb #[.int .i64 xn] 1 (by unfold maxLen; omega) rfl).at
    have HA := Lib.hid (appendNums (.slice (some ⟨g, 0, none⟩) n cap) _ lo _ n 1 zs [xn] _ HZ.out rfl (by omega) (by omega) (O0.alloc (.cells #[.int .i64 xn] 3)) hl (fun _ => own_ne O0 (by rw [HSB.out]; omega)))
    clear hl
    go_enter Try.func54, Try.ntmps54
    go_wp2_with fail
    rw [HW.out]
    have hsb := HSB.out
    simp only [hsb] at HA
    refine HA.out.mono ?_
    rintro e w2 ⟨v2, rfl, o2, e2⟩
    have b2 := (B0.alloc O0.lo _).trans (e2.below (O0.alloc _))
    rw [← HP.out, ← HE.out] at o2
    have O2 := Lib.hid o2
    have G2 := Lib.hid ((HEX.out.trans (Ext.alloc _ _)).trans e2).grown
    clear o2 e2 hsb HA
    go_wp2
    go_ret
    exact ⟨_, rfl, O2.out, b2, G2.out⟩
  · have htb : (t == 1) = false := by simpa using ht
    rw [if_neg ht] at HE
    have hs6 := HSZ.out ht
    have hwr : IntKind.u8.wrap (s.size : Int) = s.size := by
      simp only [IntKind.wrap, IntKind.bits, IntKind.signed, Bool.false_and, Bool.false_eq_true, if_false]
      omega
    go_enter Try.func54, Try.ntmps54
    go_wp2_with fail
    rw [HW.out]
    refine wp_region_held_drew (S := fun W => W.cell? ⟨w.heap.size, 2, none⟩ = some (.string s)) (by kernel_rfl) c2 (fun hHeld => ?_)
    refine takeH (i := 0) (d := some 13) (v := .slice (some ⟨g, 0, none⟩) n cap) rfl rfl (by kernel_rfl) (by kernel_rfl) (by kernel_rfl) (fun _ _ _ h => h) (Or.inl ⟨by rfl, fun W hSw => by go_simp⟩) hHeld ?_
    simp only [put_some, List.set_cons_zero, List.set_cons_succ]
    refine takeH (i := 1) (d := some 14) (v := .pointer (some ⟨w.heap.size, 2, none⟩)) rfl rfl (by kernel_rfl) (by kernel_rfl) (by kernel_rfl) (fun _ _ _ h => h) (Or.inl ⟨by rfl, fun W hSw => by go_simp⟩) hHeld ?_
    simp only [put_some, List.set_cons_zero, List.set_cons_succ]
    refine takeH (i := 2) (d := some 15) (v := .string s) rfl rfl (by kernel_rfl) (by kernel_rfl) (by kernel_rfl) (fun _ _ _ h => h) (Or.inl ⟨by rfl, fun W hSw => by go_simp⟩) hHeld ?_
    simp only [put_some, List.set_cons_zero, List.set_cons_succ]
    refine takeH (i := 3) (d := some 16) (v := .int .i64 (s.size : Int)) rfl rfl (by kernel_rfl) (by kernel_rfl) (by kernel_rfl) (fun _ _ _ h => h) (Or.inl ⟨by rfl, fun W hSw => by go_simp⟩) hHeld ?_
    simp only [put_some, List.set_cons_zero, List.set_cons_succ]
    refine takeH (i := 4) (d := some 17) (v := .int .u8 (s.size : Int)) rfl rfl (by kernel_rfl) (by kernel_rfl) (by kernel_rfl) (fun _ _ _ h => h) (Or.inl ⟨by rfl, fun W hSw => by go_simp⟩) hHeld ?_
    simp only [put_some, List.set_cons_zero, List.set_cons_succ]
    refine takeH (i := 7) (d := some 20) (v := .pointer (some ⟨w.heap.size, 2, none⟩)) rfl rfl (by kernel_rfl) (by kernel_rfl) (by kernel_rfl) (fun _ _ _ h => h) (Or.inl ⟨by rfl, fun W hSw => by go_simp⟩) hHeld ?_
    simp only [put_some, List.set_cons_zero, List.set_cons_succ]
    refine takeH (i := 8) (d := some 21) (v := .string s) rfl rfl (by kernel_rfl) (by kernel_rfl) (by kernel_rfl) (fun _ _ _ h => h) (Or.inl ⟨by rfl, fun W hSw => by go_simp⟩) hHeld ?_
    simp only [put_some, List.set_cons_zero, List.set_cons_succ]
    refine wpAnyH_ready (rs := [5]) (by kernel_rfl) (by simp) ?_
    refine AllReadyH.cons rfl (fun K hK => ?_) AllReadyH.nil
    go_simp
    refine hK.out _ _ ((below_alloc wb.drew _).cell (p := ⟨w.heap.size, 2, none⟩) (lt_of_cell hHeld) |>.trans hHeld) (fun hHeld => ?_)
    clear hK K
    refine wpAnyH_ready (rs := [6]) (by kernel_rfl) (by simp) ?_
    refine AllReadyH.cons rfl (fun K hK => ?_) AllReadyH.nil
    refine append1_op Try.elemBytes (.tmp 13) (.tmp 18) rfl lo w.heap.size (.slice (some ⟨g, 0, none⟩) n cap) n (ints .u8 zs) (.int .u8 (s.size : Int)) rfl rfl O0.drew rfl (by unfold maxLen; omega) (by omega) ?_
    intro v4 w4 o4 e4
    have hne4 : v4.ownBlock ≠ some w.heap.size := fun hb => by
      rcases e4.blk with h1 | ⟨g', h1, h2⟩
      · rw [hb] at h1
        simp [Value.ownBlock] at h1
        omega
      · rw [hb] at h1
        obtain rfl : w.heap.size = g' := by simpa using h1
        rw [World.size_alloc] at h2
        have := HSB.out
        have h3 : wb.drew.heap.size = wb.heap.size := rfl
        omega
    replace hHeld := (World.cell?_of_block (a := ⟨w.heap.size, 2, none⟩) (e4.grown.block w.heap.size (lt_of_cell hHeld) (by simp [Value.ownBlock]; omega))).trans hHeld
    have B4 : Below lo wb.drew w4 := ((Below.refl lo wb.drew).alloc O0.drew.lo _).trans (e4.below (O0.drew.alloc _))
    refine hK.out _ _ hHeld (fun hHeld => ?_)
    have HE4 := Lib.hid e4
    clear hK K e4
    obtain ⟨g4, cap4, rfl⟩ : ∃ g cp, v4 = .slice (some ⟨g, 0, none⟩) (n + 1) cp := by
      obtain ⟨g, cp, e, _⟩ := o4
      exact ⟨g, cp, e⟩
    refine wpAnyH_ready (rs := [9]) (by kernel_rfl) (by simp) ?_
    refine AllReadyH.cons rfl (fun K hK => ?_) AllReadyH.nil
    refine appendS_grown Try.elemBytes Try.underlying9 (.tmp 19) (.tmp 21) rfl lo w4.heap.size (.slice (some ⟨g4, 0, none⟩) (n + 1) cap4) (n + 1) (ints .u8 zs ++ [.int .u8 (s.size : Int)]) s rfl o4 rfl (by unfold maxLen; omega) (by omega) ?_
    intro v5 w5 o5 b5
    obtain ⟨g5, cap5, rfl⟩ : ∃ g cp, v5 = .slice (some ⟨g, 0, none⟩) (n + 1 + s.size) cp := by
      obtain ⟨g, cp, e, _⟩ := o5
      exact ⟨g, cp, e⟩
    have HC5 : Hid (w5.cell? ⟨w.heap.size, 2, none⟩ = some (.string s)) := (World.cell?_of_block (a := ⟨w.heap.size, 2, none⟩) (b5.block w.heap.size (lt_of_cell hHeld) (fun e => hne4 e.symm))).trans hHeld
    have B5 := Lib.hid (B0.trans (((Below.refl lo wb).drew.trans B4).trans ((Below.refl lo w4).grown b5 o4.lo o4.block)))
    have G5 := Lib.hid (((HEX.out.trans (Ext.of_below _ (below_drewN wb wb.heap.size 1))).trans ((Ext.alloc _ _).trans HE4.out)).then_grown b5)
    have O5 : Hid (Own 5 1 lo w5.heap.size w5 (.slice (some ⟨g5, 0, none⟩) (n + 1 + s.size) cap5) (putV zs ⟨t, xn, s⟩).length (ints .u8 (putV zs ⟨t, xn, s⟩))) := by
      show Own _ _ _ _ _ _ _ _
      rw [HE.out]
      have e1 : (zs ++ ((s.size : Int) :: sbytes s)).length = n + 1 + s.size := by
        simp only [List.length_append, List.length_cons, sbytes_len, HZ.out]
        omega
      have e2 : ints .u8 (zs ++ ((s.size : Int) :: sbytes s)) = ints .u8 zs ++ [.int .u8 (s.size : Int)] ++ ints .u8 (sbytes s) := by simp [ints]
      rw [e1, e2]
      exact o5
    clear o5 b5 B4 o4 hHeld
    go_simp
    refine hK.out _ _ HC5.out (fun hHeld => ?_)
    clear hK K
    refine takeH (i := 10) (d := some 4) (v := .slice (some ⟨g5, 0, none⟩) (n + 1 + s.size) cap5) rfl rfl (by kernel_rfl) (by kernel_rfl) (by kernel_rfl) (fun _ _ _ h => h) (Or.inl ⟨by rfl, fun W hSw => by go_simp⟩) hHeld ?_
    simp only [put_some, List.set_cons_zero, List.set_cons_succ]
    refine wpAnyH_done (by kernel_rfl) ?_ _
    go_wp2
    go_ret
    exact ⟨_, rfl, O5.out, B5.out, G5.out⟩
theorem appendVal (v : Value) (lo hi n : Nat) (zs : List Int) (x : V) (w : World) (hn : n ≤ 1073741824) (hz : zs.length = n) (hok : okV x = true) (h : Own 5 1 lo hi w v n (ints .u8 zs)) :
    Calls Try.prog 54 #[v, x.agg] w fun e w' => ∃ v', e = .returned v' ∧ Own 5 1 lo w'.heap.size w' v' (putV zs x).length (ints .u8 (putV zs x)) ∧ Below lo w w' :=
  (appendValG v lo hi n zs x w hn hz hok h).mono fun _ _ ⟨v', h1, h2, h3, _⟩ => ⟨v', h1, h2, h3⟩

theorem typeV_ok {l : List V} (h : ¬ typeV l = 0) {k : Nat} (hk : k < l.length) : okV (l.getD k V.zero) = true := by
  unfold typeV at h
  split at h
  · rename_i h2
    have e : l.getD k V.zero = l[k] := by simp [hk]
    have := List.all_eq_true.1 h2.2 _ (List.getElem_mem hk)
    rw [e]
    unfold ofB at this
    simp only [Bool.and_eq_true] at this
    exact this.1
  · exact absurd rfl h

set_option maxHeartbeats 1000000 in
theorem iEncPlain : CEncPlain := by
  intro u l w hln hss h
  have hown0 := own_lit (e := 5) (size := 1) w #[] 0 (Nat.zero_le _) rfl
  have hb0 := below_alloc w (.cells #[] 5)
  have HT := Lib.hid (iTypeOf u l _ hln hss (h.below hb0))
  have HE : Hid (encP l = if typeV l = 0 then [] else encAll l) := rfl
  have HTL : Hid (¬ typeV l = 0 → l.length ≤ 64) := typeV_len
  have HOK : Hid (¬ typeV l = 0 → ∀ k, k < l.length → okV (l.getD k V.zero) = true) := fun h k hk => typeV_ok h hk
  generalize hl : l.length = n at h HTL HOK hln
  obtain ⟨a, cap, rfl, hm, HC⟩ := h.vals hl
  unfold maxLen at hm
  have HL := Lib.hid hl
  have HS : Hid (∀ k, k < n → encAll (l.take (k + 1)) = putV (encAll (l.take k)) (l.getD k V.zero)) := fun k hk => by
    have hk' : k < l.length := by omega
    have e : l.getD k V.zero = l[k] := by simp [hk']
    rw [e, List.take_succ_eq_append_getElem hk', encAll_snoc]
  have HEL : Hid (∀ k, k ≤ n → (encAll (l.take k)).length ≤ 7 * k) := fun k hk => by
    have := encAll_len (l.take k)
    have e : (l.take k).length = k := by simp; omega
    rw [e] at this
    exact this
  generalize typeV l = ty at HT HE HTL HOK
  clear h hl hss
  go_enter Try.func38, Try.ntmps38
  go_wp2_with fail
  refine HT.out.mono ?_
  rintro e w1 ⟨rfl, b1⟩
  have B1 := below_then hb0 b1 hb0.size
  have O1 := (hown0.below b1 (Nat.le_refl _)).wide b1.size
  clear b1 hb0 hown0 HT
  by_cases ht : ty = 0
  · subst ht
    rw [if_pos rfl] at HE
    go_wp2
    go_ret
    rw [HE.out]
    exact ⟨_, rfl, O1, B1⟩
  · have htb : (ty == 0) = false := by simpa using ht
    have h64 := HTL.out ht
    have HOK2 := Lib.hid (HOK.out ht)
    rw [if_neg ht] at HE
    go_wp2
    go_loopw [3, 13] (fun o i wr => ∃ k : Nat, k ≤ n ∧ i = .int .i64 k ∧ Own 5 1 w.heap.size wr.heap.size wr o (encAll (l.take k)).length (ints .u8 (encAll (l.take k))) ∧ Below w.heap.size w wr) (fun _ i _ => n - (intOf i).toNat)
    case atStart => exact ⟨0, Nat.zero_le _, rfl, O1, B1⟩
    case round =>
      obtain ⟨k, hk, rfl, hown, hbr⟩ := hrel
      by_cases hlt : k < n
      · obtain ⟨b, off, rfl, p0, p1, p2⟩ := HC.out k hlt
        have HSK := Lib.hid (HS.out k hlt)
        have hel := HEL.out k hk
        replace p0 := (hbr.cell (p := ⟨b, off + k * 3, none⟩) (lt_of_cell p0)).trans p0
        replace p1 := (hbr.cell (p := ⟨b, off + k * 3 + 1, none⟩) (lt_of_cell p1)).trans p1
        replace p2 := (hbr.cell (p := ⟨b, off + k * 3 + 2, none⟩) (lt_of_cell p2)).trans p2
        have HP := Lib.hid (fun v hi W hO => appendVal v w.heap.size hi (encAll (l.take k)).length (encAll (l.take k)) (l.getD k V.zero) W (by omega) rfl (HOK2.out k hlt) hO)
        rw [← HSK.out] at HP
        generalize l.getD k V.zero = x at p0 p1 p2 HP
        obtain ⟨t1, n1, s1⟩ := x
        simp only at p0 p1 p2
        have ba := below_alloc wr (.cells #[.int .i64 t1, .int .i64 n1, .string s1] 41)
        have bt := below_then hbr ba hbr.size
        have own2 := hown.alloc (.cells #[.int .i64 t1, .int .i64 n1, .string s1] 41)
        clear hown ba
        go_wp2_with fail
        refine (HP.out _ _ _ own2).mono ?_
        rintro e w2 ⟨v2, rfl, o2, hb2⟩
        have B2 := bt.trans hb2
        have O2 := Lib.hid o2
        clear o2 hb2 bt hbr HP p0 p1 p2 own2
        go_wp2
        go_roundw
        case rel => exact ⟨k + 1, by omega, by go_num, O2.out, B2⟩
        case measure => simp [intOf]; omega
      · obtain rfl : k = n := by omega
        rw [← HL.out, List.take_length, ← HE.out] at hown
        go_wp2
        go_ret
        exact ⟨_, rfl, hown, hbr⟩

end Go.Proofs.Ythniakklkepomaa

/- The contract of bytes.Equal, as the program calls it. -/
namespace Go.Proofs.Ythniakklkepomaa
open Go.RowKit

theorem set_same {α : Type} {l : List α} {i : Nat} {x : α} (h : l[i]? = some x) : l.set i x = l := by
  apply List.ext_getElem?
  intro j
  rw [List.getElem?_set]
  split
  · rename_i e
    subst e
    rw [h]
    split
    · rfl
    · rename_i hl
      rw [List.getElem?_eq_none (by omega)] at h
      cases h
  · rfl
theorem putNum_puts {zs : List Int} {x : Int} (h : Num.ok x) : Num.put zs x = Num.puts zs [x] := by
  rw [Num.puts_one, Num.put_ok h]

end Go.Proofs.Ythniakklkepomaa

/- The contracts of impl's cutBytes, getText, GetVal. -/
namespace Go.Proofs.Ythniakklkepomaa
open Go.RowKit

/-- getText. -/
def textAt (zs : List Int) (I : Nat) : ByteArray := strOfNums ((zs.drop (I + 1)).take (zs.getD I 0).toNat)
def getS (zs : List Int) (i : Int) : ByteArray × Int × Bool :=
  if (0 ≤ i ∧ i + 1 ≤ zs.length) ∧ i + 1 + zs.getD i.toNat 0 ≤ zs.length ∧ txtB (textAt zs i.toNat) = true then (textAt zs i.toNat, i + 1 + zs.getD i.toNat 0, true) else (⟨#[]⟩, 0, false)
theorem getV_text {zs : List Int} {i : Int} : getV zs i 2 = if (getS zs i).2.2 = true then (⟨2, 0, (getS zs i).1⟩, (getS zs i).2.1, true) else (V.zero, 0, false) := by
  unfold getV
  rw [if_neg (by decide)]
  have hok : ∀ s, okV ⟨2, 0, s⟩ = txtB s := fun s => by simp [okV]
  by_cases h1 : 0 ≤ i ∧ i + 1 ≤ zs.length
  · obtain ⟨I, rfl⟩ := Int.eq_ofNat_of_zero_le h1.1
    rw [if_pos ⟨rfl, Num.inB_true.2 ⟨h1.1, by omega⟩⟩]
    have e0 : getT zs I = if zs.getD I 0 ≤ (zs.length : Int) - I - 1 ∧ txtB (textAt zs I) = true then (⟨2, 0, textAt zs I⟩, (I : Int) + 1 + zs.getD I 0, true) else (V.zero, 0, false) := by
      rw [← hok]
      rfl
    have e1 : getS zs I = if (0 ≤ (I : Int) ∧ (I : Int) + 1 ≤ zs.length) ∧ (I : Int) + 1 + zs.getD I 0 ≤ zs.length ∧ txtB (textAt zs I) = true then (textAt zs I, (I : Int) + 1 + zs.getD I 0, true) else (⟨#[]⟩, 0, false) := rfl
    rw [e1, Int.toNat_natCast, e0]
    by_cases h2 : (I : Int) + 1 + zs.getD I 0 ≤ zs.length ∧ txtB (textAt zs I) = true
    · rw [if_pos (c := _ ∧ _) ⟨by omega, h2.2⟩, if_pos (c := (0 ≤ (I : Int) ∧ (I : Int) + 1 ≤ zs.length) ∧ _) ⟨h1, h2⟩]
      rfl
    · rw [if_neg (c := zs.getD I 0 ≤ (zs.length : Int) - I - 1 ∧ _) (fun h => h2 ⟨by omega, h.2⟩), if_neg (c := (0 ≤ (I : Int) ∧ (I : Int) + 1 ≤ zs.length) ∧ _) (fun h => h2 h.2)]
      rfl
  · have e1 : getS zs i = (⟨#[]⟩, 0, false) := if_neg (fun h => h1 h.1)
    rw [e1, if_neg (fun h => h1 (by have := Num.inB_true.1 h.2; omega))]
    rfl
theorem getV_none {zs : List Int} {i ty : Int} (h1 : ¬ ty = 1) (h2 : ¬ ty = 2) : getV zs i ty = (V.zero, 0, false) := by
  unfold getV
  rw [if_neg h1, if_neg (fun h => h2 h.1)]

end Go.Proofs.Ythniakklkepomaa

/- The contracts of impl's GetVal and DecPlain. -/
namespace Go.Proofs.Ythniakklkepomaa
open Go.RowKit

/-- A list that is filled from its start on. -/
def fillV (pre : List V) (K : Nat) : List V := pre ++ List.replicate (K - pre.length) V.zero
theorem fillV_len {pre : List V} {K : Nat} (h : pre.length ≤ K) : (fillV pre K).length = K := by
  simp [fillV]
  omega
theorem fillV_set {pre : List V} {K : Nat} (x : V) (h : pre.length < K) : (fillV pre K).set pre.length x = fillV (pre ++ [x]) K := by
  unfold fillV
  rw [List.set_append_right _ _ (Nat.le_refl _), Nat.sub_self, show K - pre.length = (K - (pre ++ [x]).length) + 1 by simp; omega, List.replicate_succ, List.set_cons_zero]
  simp
theorem fillV_all {pre : List V} {K : Nat} (h : pre.length = K) : fillV pre K = pre := by simp [fillV, h]

end Go.Proofs.Ythniakklkepomaa

/- The contracts of the model's InDict, Places, Picked. -/
namespace Go.Proofs.Ythniakklkepomaa
open Go.RowKit

set_option maxHeartbeats 1000000 in
theorem sInDict (u : Value) (d : List V) (x : V) (w : World) (h : Rd 3 w u d.length (vals d)) :
    Calls Try.prog 58 #[u, x.agg] w fun e w' => e = .returned (.int .i64 (inI d x)) ∧ Below w.heap.size w w' := by
  generalize hl : d.length = n at h
  obtain ⟨a, cap, rfl, hm, HC⟩ := h.vals hl
  unfold maxLen at hm
  have HL := Lib.hid hl
  have HE : Hid (∀ i, i < n → (d.getD i V.zero).eqB x = true → (∀ j, j < i → (d.getD j V.zero).eqB x = false) → inI d x = i) := fun i hi h1 h2 => inI_some (inD_first (by omega) h1 h2)
  have HN : Hid ((∀ j, j < n → (d.getD j V.zero).eqB x = false) → inI d x = -1) := fun h1 => inI_none (inD_none.2 (fun j hj => h1 j (by omega)))
  have hx0 := held_new w x 41
  have hb0 := below_alloc w (.cells #[.int .i64 x.ty, .int .i64 x.n, .string x.s] 41)
  generalize inI d x = r at HE HN
  obtain ⟨xt, xn, xs⟩ := x
  clear h hl
  go_enter Try.func58, Try.ntmps58
  go_wp2
  generalize hW : w.alloc (.cells #[.int .i64 xt, .int .i64 xn, .string xs] 41) = W at hx0 hb0 ⊢
  have HW := Lib.hid hW
  clear hW
  go_loopw [5] (fun i wr => ∃ k : Nat, k ≤ n ∧ i = .int .i64 k ∧ (∀ j, j < k → (d.getD j V.zero).eqB ⟨xt, xn, xs⟩ = false) ∧ Below W.heap.size W wr) (fun i _ => n - (intOf i).toNat)
  case atStart => exact ⟨0, Nat.zero_le _, rfl, fun j hj => by omega, Below.refl _ _⟩
  case round =>
    obtain ⟨k, hk, rfl, hno, hbr⟩ := hrel
    have HNO := Lib.hid hno
    clear hno
    by_cases hlt : k < n
    · obtain ⟨b, off, rfl, p0, p1, p2⟩ := HC.out k hlt
      have hbr2 := hb0.trans (hbr.mono hb0.size)
      replace p0 := (hbr2.cell (p := ⟨b, off + k * 3, none⟩) (lt_of_cell p0)).trans p0
      replace p1 := (hbr2.cell (p := ⟨b, off + k * 3 + 1, none⟩) (lt_of_cell p1)).trans p1
      replace p2 := (hbr2.cell (p := ⟨b, off + k * 3 + 2, none⟩) (lt_of_cell p2)).trans p2
      obtain ⟨⟨q0, q1, q2⟩, _⟩ := hx0.below hbr
      have HEK := Lib.hid (HE.out k hlt)
      have HNK : Hid ((d.getD k V.zero).eqB ⟨xt, xn, xs⟩ = false → ∀ j, j < k + 1 → (d.getD j V.zero).eqB ⟨xt, xn, xs⟩ = false) := fun h1 j hj => by
        by_cases e : j = k
        · subst e; exact h1
        · exact HNO.out j (by omega)
      have hq := fun W => run_eql_val (d.getD k V.zero) ⟨xt, xn, xs⟩ W
      generalize d.getD k V.zero = y at p0 p1 p2 HEK HNK hq
      cases he : y.eqB ⟨xt, xn, xs⟩ with
      | true =>
        have HR := Lib.hid (HEK.out he HNO.out)
        rw [he] at hq
        obtain ⟨t1, n1, s1⟩ := y
        have HB := Lib.hid hbr2
        clear he HEK HNK hx0 hb0 hbr hbr2
        simp only at q0 q1 q2
        go_wp2
        go_quiet (fail)
        go_wp2
        go_ret
        exact ⟨ret_int HR.out.symm, HB.out.trans (below_drewN _ _ _)⟩
      | false =>
        have HS := Lib.hid (HNK.out he)
        rw [he] at hq
        obtain ⟨t1, n1, s1⟩ := y
        clear he HEK HNK hx0 hb0
        simp only at q0 q1 q2
        go_wp2
        go_quiet (fail)
        go_wp2
        go_roundw
        case rel => exact ⟨k + 1, by omega, by go_num, HS.out, hbr.trans (below_drewN _ _ _)⟩
        case measure => simp [intOf]; omega
    · obtain rfl : k = n := by omega
      have HR := Lib.hid (HN.out HNO.out)
      have hbr2 := hb0.trans (hbr.mono hb0.size)
      go_wp2
      go_ret
      exact ⟨ret_int HR.out.symm, hbr2⟩

theorem map_snoc {α β : Type} (f : α → β) (l : List α) (z : α) (k : Nat) (h : k < l.length) : (l.take (k + 1)).map f = (l.take k).map f ++ [f (l.getD k z)] := by
  rw [List.take_succ_eq_append_getElem h, List.map_append, getDe l z h]
  rfl
/-- The places of the first k values; what is picked at the first k places. -/
def plK (d l : List V) (k : Nat) : List Int := (l.take k).map (inI d)
def pkK (d : List V) (l : List Int) (k : Nat) : List V := (l.take k).map (fun x => d.getD x.toNat V.zero)
theorem inI_neg {d : List V} {v : V} (h : inI d v < 0) : inD d v = none := by
  cases e : inD d v with
  | none => rfl
  | some i => rw [inI_some e] at h; omega
theorem inI_pos {d : List V} {v : V} (h : ¬ inI d v < 0) : (inD d v).isSome = true := by
  cases e : inD d v with
  | none => rw [inI_none e] at h; omega
  | some i => rfl

set_option maxHeartbeats 1000000 in
theorem sPlaces (u v : Value) (d l : List V) (w : World) (hn : l.length ≤ 1048576) (hd : Rd 3 w u d.length (vals d)) (h : Rd 3 w v l.length (vals l)) :
    Calls Try.prog 43 #[u, v] w (Unpacked w (placesL d l)) := by
  have hown0 := own_lit (e := 3) (size := 1) w #[] 0 (Nat.zero_le _) rfl
  have hb0 := below_alloc w (.cells #[] 3)
  have HD := Lib.hid (fun x W (hW : Below w.heap.size w W) => sInDict u d x W (hd.below hW))
  generalize hl : l.length = n at h hn
  obtain ⟨a, cap, rfl, hm, HC⟩ := h.vals hl
  unfold maxLen at hm
  have HL := Lib.hid hl
  have HNO : Hid (∀ k, k < n → inI d (l.getD k V.zero) < 0 → placesL d l = ([], false)) := fun k hk h1 => places_no (by omega) (inI_neg h1)
  have HYES : Hid ((∀ k, k < n → 0 ≤ inI d (l.getD k V.zero)) → placesL d l = (l.map (inI d), true)) := fun h1 => places_yes (fun k hk => inI_pos (by have := h1 k (by omega); omega))
  have HS : Hid (∀ k, k < n → ints .i64 (plK d l (k + 1)) = ints .i64 (plK d l k) ++ [.int .i64 (inI d (l.getD k V.zero))]) := fun k hk => by
    unfold plK
    rw [map_snoc _ _ V.zero _ (by omega), ints_append]
    rfl
  have HTL : Hid (∀ k, k ≤ n → (plK d l k).length = k) := fun k hk => by simp [plK]; omega
  generalize placesL d l = R at HNO HYES
  clear h hl hd
  go_enter Try.func43, Try.ntmps43
  go_wp2
  go_loopw [6, 7] (fun o i wr => ∃ k : Nat, k ≤ n ∧ i = .int .i64 k ∧ (∀ j, j < k → 0 ≤ inI d (l.getD j V.zero)) ∧ Own 3 1 w.heap.size wr.heap.size wr o k (ints .i64 (plK d l k)) ∧ Below w.heap.size w wr) (fun _ i _ => n - (intOf i).toNat)
  case atStart => exact ⟨0, Nat.zero_le _, rfl, fun j hj => by omega, hown0, hb0⟩
  case round =>
    obtain ⟨k, hk, rfl, hno, hown, hbr⟩ := hrel
    have HK := Lib.hid hno
    clear hno
    by_cases hlt : k < n
    · obtain ⟨b, off, rfl, p0, p1, p2⟩ := HC.out k hlt
      replace p0 := (hbr.cell (p := ⟨b, off + k * 3, none⟩) (lt_of_cell p0)).trans p0
      replace p1 := (hbr.cell (p := ⟨b, off + k * 3 + 1, none⟩) (lt_of_cell p1)).trans p1
      replace p2 := (hbr.cell (p := ⟨b, off + k * 3 + 2, none⟩) (lt_of_cell p2)).trans p2
      have HX := Lib.hid (HD.out (l.getD k V.zero) wr hbr)
      have HSK := Lib.hid (HS.out k hlt)
      have HNK := Lib.hid (HNO.out k hlt)
      have HKK : Hid (0 ≤ inI d (l.getD k V.zero) → ∀ j, j < k + 1 → 0 ≤ inI d (l.getD j V.zero)) := fun h1 j hj => by
        by_cases e : j = k
        · subst e; exact h1
        · exact HK.out j (by omega)
      generalize inI d (l.getD k V.zero) = z at HX HSK HNK HKK
      generalize l.getD k V.zero = y at p0 p1 p2 HX
      obtain ⟨t1, n1, s1⟩ := y
      simp only at p0 p1 p2
      go_wp2_with fail
      refine HX.out.mono ?_
      rintro e w2 ⟨rfl, hb2⟩
      have B2 := below_then hbr hb2 hbr.size
      have z2 := hb2.size
      have O2 := hown.below hb2 (Nat.le_refl _)
      clear hb2 hown HX p0 p1 p2 hbr
      by_cases hz : z < 0
      · have HR := Lib.hid (HNK.out hz)
        have OL := own_lit (e := 3) (size := 1) w2 #[] 0 (Nat.zero_le _) rfl
        have BL := B2.alloc B2.size (.cells #[] 3)
        have hzz := B2.size
        clear O2
        go_wp2
        go_ret2
        rw [HR.out]
        exact ⟨_, rfl, OL.lower hzz, BL⟩
      · have HK2 := Lib.hid (HKK.out (by omega))
        have O3 := O2.wide z2
        clear O2
        go_wp2_with (at_builtin; refine append1_law Try.elemInts rfl _ _ rfl _ _ _ _ _ (.int .i64 z) rfl rfl O3 rfl (by unfold maxLen; omega) (by omega) ?_)
        intro v4 w4 o4 e4
        have b4 := B2.trans (e4.below O3)
        rw [← HSK.out] at o4
        have O4 := Lib.hid o4
        clear o4 e4 O3
        go_wp2
        go_roundw
        case rel => exact ⟨k + 1, by omega, by go_num, HK2.out, O4.out, b4⟩
        case measure => simp [intOf]; omega
    · obtain rfl : k = n := by omega
      have HR := Lib.hid (HYES.out HK.out)
      have OO := Lib.hid hown
      clear hown
      go_wp2
      go_ret2
      rw [HR.out]
      exact ⟨_, rfl, by have := OO.out; unfold plK at this; rw [← HL.out, List.take_length] at this; rw [List.length_map]; exact this, hbr⟩

end Go.Proofs.Ythniakklkepomaa

/- Where a number that was read ends; a slice's tail b[at:]. -/
namespace Go.Proofs.Ythniakklkepomaa
open Go.RowKit

theorem get_bound {zs : List Int} (hb : Num.Bytes zs) {i : Int} (h : (Num.get zs i).2.2 = true) : 0 ≤ (Num.get zs i).2.1 ∧ (Num.get zs i).2.1 ≤ zs.length := by
  unfold Num.get at h ⊢
  split
  · rename_i hi
    rw [if_pos hi] at h
    split
    · rename_i u k hr
      have hbd : Num.Bytes (zs.drop i.toNat) := fun x hx => hb x (List.mem_of_mem_drop hx)
      have := Num.rd_bd hr hbd (by omega)
      have hl : (zs.drop i.toNat).length = zs.length - i.toNat := List.length_drop
      split
      · simp only
        omega
      · rename_i hu
        rw [hr] at h
        simp only [if_neg hu] at h
        cases h
    · rename_i hr
      rw [hr] at h
      cases h
  · rename_i hi
    rw [if_neg hi] at h
    cases h
theorem At.from {w : World} {b off n cap A tl : Nat} {zs : List Int} (hz : zs.length = n) (h : At 1 w (.slice (some ⟨b, off, none⟩) n cap) n (ints .u8 zs)) (hA : A ≤ n) (ht : A < cap → tl = off + A) : At 1 w (.slice (some ⟨b, tl, none⟩) (n - A) (cap - A)) (n - A) (ints .u8 (zs.drop A)) := by
  obtain ⟨b', off', cap', e, h1, h2, h3, h4⟩ := h
  simp only [Value.slice.injEq, Option.some.injEq, Addr.mk.injEq, and_true, true_and] at e
  obtain ⟨⟨rfl, rfl⟩, rfl⟩ := e
  refine ⟨_, _, _, rfl, by omega, by omega, ?_, fun j u hu => ?_⟩
  · rw [ints_len, List.length_drop, hz, Nat.mul_one]
  · have hlt := (List.getElem?_eq_some_iff.1 hu).1
    rw [ints_len, List.length_drop] at hlt
    have e2 : ints .u8 (zs.drop A) = (ints .u8 zs).drop A := by unfold ints; rw [List.map_drop]
    rw [e2, List.getElem?_drop] at hu
    have := h4 (A + j) u hu
    rw [ht (by omega), Nat.add_assoc]
    exact this
theorem tail_at (cap A b off : Nat) : ∃ tl, (if cap = A then some (⟨b, off, none⟩ : Addr) else some ⟨b, off + A, none⟩) = some ⟨b, tl, none⟩ ∧ Hid (A < cap → tl = off + A) := by
  by_cases e : cap = A
  · exact ⟨off, by rw [if_pos e], fun h => by omega⟩
  · exact ⟨off + A, by rw [if_neg e], fun _ => rfl⟩

end Go.Proofs.Ythniakklkepomaa

/- Plain mathematics of chapter 8: the smallest integer, the offsets, their encoding; decoding gives back what was encoded; what decodes is what its values encode to. -/
namespace Go.Proofs.Ythniakklkepomaa
open Go.RowKit

/-- The smallest of a and the integers of l. -/
def lowL (a : Int) (l : List V) : Int := l.foldl (fun a v => if v.n < a then v.n else a) a
theorem lowL_snoc (a : Int) (l : List V) (v : V) : lowL a (l ++ [v]) = if v.n < lowL a l then v.n else lowL a l := by unfold lowL; rw [List.foldl_append]; rfl
theorem lowL_le (l : List V) (a : Int) : lowL a l ≤ a ∧ ∀ v ∈ l, lowL a l ≤ v.n := by
  induction l generalizing a with
  | nil => exact ⟨Int.le_refl _, fun v hv => by cases hv⟩
  | cons x l ih =>
    have h := ih (if x.n < a then x.n else a)
    have e : lowL a (x :: l) = lowL (if x.n < a then x.n else a) l := rfl
    rw [e]
    refine ⟨?_, fun v hv => ?_⟩
    · have := h.1
      split at this <;> split <;> omega
    · rcases List.mem_cons.1 hv with rfl | hv
      · have := h.1
        split at this <;> split <;> omega
      · exact h.2 v hv
theorem lowL_mem (l : List V) (a : Int) : lowL a l = a ∨ ∃ v ∈ l, v.n = lowL a l := by
  induction l generalizing a with
  | nil => exact .inl rfl
  | cons x l ih =>
    have e : lowL a (x :: l) = lowL (if x.n < a then x.n else a) l := rfl
    rw [e]
    rcases ih (if x.n < a then x.n else a) with h | ⟨v, hv, h⟩
    · rw [h]
      split
      · exact .inr ⟨x, List.mem_cons_self, rfl⟩
      · exact .inl rfl
    · exact .inr ⟨v, List.mem_cons_of_mem _ hv, h⟩
/-- Base. -/
def baseL (l : List V) : Int := lowL (l.getD 0 V.zero).n l
theorem base_le {l : List V} : ∀ v ∈ l, baseL l ≤ v.n := (lowL_le l _).2
theorem base_mem {l : List V} (h : 1 ≤ l.length) : ∃ v ∈ l, v.n = baseL l := by
  rcases lowL_mem l (l.getD 0 V.zero).n with e | e
  · refine ⟨l.getD 0 V.zero, ?_, e.symm⟩
    rw [getDe l V.zero h]
    exact List.getElem_mem h
  · exact e
/-- What Base holds before the k-th value. -/
def baseK (l : List V) (k : Nat) : Int := lowL (l.getD 0 V.zero).n (l.take k)
theorem baseK_step {l : List V} {k : Nat} (h : k < l.length) : baseK l (k + 1) = if (l.getD k V.zero).n < baseK l k then (l.getD k V.zero).n else baseK l k := by
  unfold baseK
  rw [getDe l V.zero h, List.take_succ_eq_append_getElem h, lowL_snoc]
theorem baseK_one {l : List V} (h : 0 < l.length) : baseK l 1 = (l.getD 0 V.zero).n := by
  rw [baseK_step h]
  have : baseK l 0 = (l.getD 0 V.zero).n := by simp [baseK, lowL]
  rw [this]
  simp
theorem baseK_zero (l : List V) : baseK l 0 = (l.getD 0 V.zero).n := by simp [baseK, lowL]
theorem baseK_end (l : List V) : baseK l l.length = baseL l := by simp [baseK, baseL]

/-- Offsets. -/
def offL (l : List V) : List Int := if typeV l = 1 then l.map (fun v => v.n - baseL l) else []
theorem off_yes {l : List V} (h : typeV l = 1) : offL l = l.map (fun v => v.n - baseL l) := if_pos h
theorem off_no {l : List V} (h : ¬ typeV l = 1) : offL l = [] := if_neg h
theorem int_parts {l : List V} (h : typeV l = 1) : 1 ≤ l.length ∧ l.length ≤ 64 ∧ ∀ v ∈ l, okV v = true ∧ v.ty = 1 := by
  have := typeV_parts (l := l) (by omega)
  rw [h] at this
  exact this
theorem int_num {l : List V} (h : typeV l = 1) : ∀ v ∈ l, -1000000000 ≤ v.n ∧ v.n ≤ 1000000000 := fun v hv => by
  have h1 := (int_parts h).2.2 v hv
  exact okV_num h1.1 h1.2
theorem base_ok {l : List V} (h : typeV l = 1) : -1000000000 ≤ baseL l ∧ baseL l ≤ 1000000000 := by
  obtain ⟨v, hv, e⟩ := base_mem (int_parts h).1
  rw [← e]
  exact int_num h v hv
theorem off_len (l : List V) : (offL l).length ≤ l.length ∧ (offL l).length ≤ 64 := by
  by_cases h : typeV l = 1
  · have := int_parts h
    rw [off_yes h, List.length_map]
    omega
  · rw [off_no h]
    simp
theorem off_in (l : List V) : ∀ x ∈ offL l, 0 ≤ x ∧ x ≤ 2000000000 := by
  by_cases h : typeV l = 1
  · rw [off_yes h]
    intro x hx
    obtain ⟨v, hv, rfl⟩ := List.mem_map.1 hx
    have h1 := int_num h v hv
    have h2 := base_ok h
    have h3 := base_le v hv
    omega
  · rw [off_no h]
    exact fun x hx => by cases hx
theorem off_zero {l : List V} (h : typeV l = 1) : 0 ∈ offL l := by
  obtain ⟨v, hv, e⟩ := base_mem (int_parts h).1
  rw [off_yes h]
  exact List.mem_map.2 ⟨v, hv, by omega⟩
/-- The greatest of a and the integers of l. -/
def topL (a : Int) (l : List Int) : Int := l.foldl (fun a x => if a < x then x else a) a
theorem topL_snoc (a : Int) (l : List Int) (x : Int) : topL a (l ++ [x]) = if topL a l < x then x else topL a l := by unfold topL; rw [List.foldl_append]; rfl
theorem topL_mem (l : List Int) (a : Int) : topL a l = a ∨ topL a l ∈ l := by
  induction l generalizing a with
  | nil => exact .inl rfl
  | cons x l ih =>
    have e : topL a (x :: l) = topL (if a < x then x else a) l := rfl
    rw [e]
    rcases ih (if a < x then x else a) with h | h
    · rw [h]
      split
      · exact .inr List.mem_cons_self
      · exact .inl rfl
    · exact .inr (List.mem_cons_of_mem _ h)
/-- Reach. -/
def reachL (l : List V) : Int := topL 0 (offL l)
theorem reach_mem {l : List V} (h : typeV l = 1) : reachL l ∈ offL l := by
  rcases topL_mem (offL l) 0 with e | e
  · unfold reachL
    rw [e]
    exact off_zero h
  · exact e
theorem width_mem {l : List Int} : ∀ x ∈ l, Bit.widthI x ≤ Bit.widthFor l := by
  have : ∀ (l : List Int) (a : Nat), a ≤ l.foldl (fun a x => max a (Bit.widthI x)) a ∧ ∀ x ∈ l, Bit.widthI x ≤ l.foldl (fun a x => max a (Bit.widthI x)) a := by
    intro l
    induction l with
    | nil => exact fun a => ⟨Nat.le_refl _, fun x hx => by cases hx⟩
    | cons y l ih =>
      intro a
      have h := ih (max a (Bit.widthI y))
      simp only [List.foldl_cons]
      refine ⟨by omega, fun x hx => ?_⟩
      rcases List.mem_cons.1 hx with rfl | hx
      · omega
      · exact h.2 x hx
  exact (this l 0).2
theorem off_fits (l : List V) : Bit.fitsB (offL l) (Bit.widthFor (offL l) : Nat) = true := by
  refine Bit.digs_fits (fun x hx => ?_) (Bit.widthFor_le31 _)
  have h1 := off_in l x hx
  have h2 := (Bit.widthI_in (by omega) (by omega) (Bit.widthFor (offL l))).1 (width_mem x hx)
  exact ⟨h1.1, Bit.lt_of_toNat h2⟩

/-- EncFrame. -/
def encF (l : List V) : List Int := if typeV l = 1 then (Num.put [] (baseL l) ++ [(Bit.widthFor (offL l) : Int)]) ++ Bit.pack (offL l) (Bit.widthFor (offL l)) else []
theorem encF_bytes (l : List V) : Num.Bytes (encF l) := by
  unfold encF
  split
  · refine bytes_append (bytes_append (Num.put_bytes nil_bytes _) (fun x hx => ?_)) (Bit.pack_bytes _ _)
    have := Bit.widthFor_le31 (offL l)
    obtain rfl := List.mem_singleton.1 hx
    omega
  · exact nil_bytes
theorem encF_len (l : List V) : (encF l).length ≤ 1024 := by
  unfold encF
  split
  · have h1 := Num.put_len [] (baseL l)
    have h2 := Bit.pack_le (offL l) (Bit.widthFor (offL l))
    have h3 := off_len l
    simp only [List.length_append, List.length_nil, List.length_cons] at *
    omega
  · simp

/-- Whether Raised takes x. -/
def upB (base x : Int) : Bool := decide (0 ≤ x ∧ x ≤ 2000000000 ∧ base + x ≤ 1000000000)
def upV (base x : Int) : V := ⟨1, base + x, ⟨#[]⟩⟩
/-- Raised. -/
def raisedL (base : Int) (l : List Int) : List V × Bool := if Num.okB base = true ∧ l.all (upB base) = true then (l.map (upV base), true) else ([], false)
theorem raised_len (base : Int) (l : List Int) : (raisedL base l).1.length ≤ l.length := by
  unfold raisedL
  split
  · simp
  · simp
theorem raised_sizes (base : Int) (l : List Int) : ∀ v ∈ (raisedL base l).1, v.s.size ≤ maxLen := by
  unfold raisedL
  split
  · intro v hv
    obtain ⟨x, _, rfl⟩ := List.mem_map.1 hv
    exact Nat.zero_le _
  · exact fun v hv => by cases hv
theorem raised_true {base : Int} {l : List Int} (h : (raisedL base l).2 = true) : (raisedL base l).1.length = l.length := by
  unfold raisedL at h ⊢
  split
  · simp
  · rename_i hc
    rw [if_neg hc] at h
    cases h
theorem raised_off {l : List V} (h : typeV l = 1) : raisedL (baseL l) (offL l) = (l, true) := by
  have hb := base_ok h
  have hu : (offL l).all (upB (baseL l)) = true := by
    rw [List.all_eq_true, off_yes h]
    intro x hx
    obtain ⟨v, hv, rfl⟩ := List.mem_map.1 hx
    have h1 := int_num h v hv
    have h3 := base_le v hv
    exact decide_eq_true (by omega)
  unfold raisedL
  rw [if_pos ⟨Num.okB_true.2 hb, hu⟩, off_yes h, List.map_map]
  congr 1
  conv => rhs; rw [← List.map_id l]
  refine List.map_congr_left (fun v hv => ?_)
  obtain ⟨ho, ht⟩ := (int_parts h).2.2 v hv
  obtain ⟨t, n, s⟩ := v
  simp only at ht
  subst ht
  have hs : s = ⟨#[]⟩ := by
    unfold okV at ho
    simp only [if_true, Bool.and_eq_true, beq_iff_eq] at ho
    apply ByteArray.ext
    apply Array.eq_empty_of_size_eq_zero
    exact ho.2
  subst hs
  simp only [Function.comp_apply, upV, id_eq]
  congr 1
  omega

/-- DecFrame, of the base and the offsets. -/
def decG (zs : List Int) (base : Int) (o : List Int × Bool) : List V × Bool :=
  if o.2 = true ∧ (raisedL base o.1).2 = true ∧ encF (raisedL base o.1).1 = zs then ((raisedL base o.1).1, true) else ([], false)
/-- DecFrame. -/
def decF (zs : List Int) (k : Int) : List V × Bool :=
  if (Num.get zs 0).2.2 = true ∧ (Num.get zs 0).2.1 < zs.length ∧ Num.inB k 1 64 = true then
    decG zs (Num.get zs 0).1 (Bit.unpack (zs.drop ((Num.get zs 0).2.1.toNat + 1)) (zs.getD (Num.get zs 0).2.1.toNat 0) k)
  else ([], false)
theorem decG_len (zs : List Int) (base : Int) (o : List Int × Bool) : (decG zs base o).1.length ≤ o.1.length := by
  unfold decG
  split
  · exact raised_len _ _
  · simp
theorem decF_len (zs : List Int) (k : Int) : (decF zs k).1.length ≤ 64 := by
  unfold decF
  split
  · exact Nat.le_trans (decG_len _ _ _) (Bit.unpack_le _ _ _)
  · simp
theorem decF_sizes (zs : List Int) (k : Int) : ∀ v ∈ (decF zs k).1, v.s.size ≤ maxLen := by
  unfold decF
  split
  · unfold decG
    split
    · exact raised_sizes _ _
    · exact fun v hv => by cases hv
  · exact fun v hv => by cases hv
theorem dec_encF {l : List V} (h : typeV l = 1) : decF (encF l) l.length = (l, true) := by
  obtain ⟨h1, h64, _⟩ := int_parts h
  have hb := base_ok h
  have hup := Bit.unpack_pack (off_fits l) (off_len l).2
  have hol : (offL l).length = l.length := by rw [off_yes h, List.length_map]
  rw [hol] at hup
  have hro := raised_off h
  have he : encF l = (Num.put [] (baseL l) ++ [(Bit.widthFor (offL l) : Int)]) ++ Bit.pack (offL l) (Bit.widthFor (offL l)) := if_pos h
  generalize Bit.pack (offL l) (Bit.widthFor (offL l) : Nat) = pk at *
  generalize (Bit.widthFor (offL l) : Int) = wd at *
  have hok : Num.ok (baseL l) := hb
  generalize hb0 : Num.grp 4 (Num.zig (baseL l)) = b0 at *
  have he2 : encF l = b0 ++ (wd :: pk) := by
    rw [he, Num.put_ok hok, hb0]
    simp
  have hg : Num.get (encF l) 0 = (baseL l, (b0.length : Int), true) := by
    have := get_grp (b := []) (rest := wd :: pk) hok
    rw [hb0] at this
    rw [he2]
    exact this
  unfold decF
  rw [hg]
  simp only
  rw [if_pos ⟨trivial, by rw [he2]; simp; omega, Num.inB_true.2 ⟨by omega, by omega⟩⟩, Int.toNat_natCast]
  have e1 : (encF l).drop (b0.length + 1) = pk := by
    rw [he2]
    simp [List.drop_append]
  have e2 : (encF l).getD b0.length 0 = wd := by
    rw [he2]
    simp [List.getD]
  rw [e1, e2, hup]
  unfold decG
  simp only
  rw [hro]
  simp
theorem dec_okF {zs : List Int} (hb : Num.Bytes zs) {k : Int} (h : (decF zs k).2 = true) : encF (decF zs k).1 = zs ∧ ((decF zs k).1.length : Int) = k := by
  unfold decF at h ⊢
  split
  · rename_i hc
    rw [if_pos hc] at h
    have hbd : Num.Bytes (zs.drop ((Num.get zs 0).2.1.toNat + 1)) := fun x hx => hb x (List.mem_of_mem_drop hx)
    generalize hu : Bit.unpack (zs.drop ((Num.get zs 0).2.1.toNat + 1)) (zs.getD (Num.get zs 0).2.1.toNat 0) k = u at h ⊢
    obtain ⟨o, is⟩ := u
    unfold decG at h ⊢
    split
    · rename_i hd
      simp only at hd
      obtain ⟨rfl, hr, he⟩ := hd
      refine ⟨he, ?_⟩
      simp only
      rw [raised_true hr]
      exact (Bit.pack_unpack hbd hu).2
    · rename_i hd
      rw [if_neg hd] at h
      cases h
  · rename_i hc
    rw [if_neg hc] at h
    cases h

end Go.Proofs.Ythniakklkepomaa

/- The contracts of the model's Base, Offsets, Reach, EncFrame. -/
namespace Go.Proofs.Ythniakklkepomaa
open Go.RowKit

set_option maxHeartbeats 1000000 in
theorem sBase (u : Value) (l : List V) (w : World) (h : Rd 3 w u l.length (vals l)) :
    Calls Try.prog 48 #[u] w fun e w' => e = .returned (.int .i64 (baseL l)) ∧ w = w' := by
  have HST : Hid (∀ k, k < l.length → baseK l (k + 1) = if (l.getD k V.zero).n < baseK l k then (l.getD k V.zero).n else baseK l k) := fun k hk => baseK_step hk
  have HON : Hid (0 < l.length → baseK l 1 = (l.getD 0 V.zero).n) := baseK_one
  have HEN : Hid (∀ x, (x = if l.length = 0 then 0 else baseK l l.length) → x = baseL l) := fun x hx => by
    rw [hx]
    split
    · rename_i h0
      obtain rfl := List.length_eq_zero_iff.1 h0
      rfl
    · exact baseK_end l
  generalize baseL l = R at HEN
  generalize hl : l.length = n at h HST HON HEN
  obtain ⟨a, cap, rfl, hm, HC⟩ := h.vals hl
  unfold maxLen at hm
  clear h hl
  go_enter Try.func48, Try.ntmps48
  go_wp2
  go_loop [3, 4] (fun x i => ∃ (k : Nat) (z : Int), k ≤ n ∧ i = .int .i64 k ∧ x = .int .i64 z ∧ z = if k = 0 then 0 else baseK l k) (fun _ i => n - (intOf i).toNat)
  case atStart => exact ⟨0, 0, Nat.zero_le _, rfl, rfl, rfl⟩
  case round =>
    obtain ⟨k, z, hk, rfl, rfl, hz⟩ := hrel
    by_cases hlt : k < n
    · obtain ⟨b, off, rfl, p0, p1, p2⟩ := HC.out k hlt
      have HSK := Lib.hid (HST.out k hlt)
      by_cases hk0 : k = 0
      · subst hk0
        have HO := Lib.hid (HON.out hlt)
        simp only [Nat.zero_mul, Nat.add_zero] at p1
        generalize (l.getD 0 V.zero).n = y at p1 HO
        clear hz HSK p0 p2
        go_wp2
        go_round
        case rel => exact ⟨1, y, by omega, by go_num, rfl, by rw [if_neg (by omega), HO.out]⟩
        case measure => simp [intOf]; omega
      · have hkb : ((k : Int) == 0) = false := by simpa using hk0
        rw [if_neg hk0] at hz
        rw [← hz] at HSK
        generalize (l.getD k V.zero).n = y at p1 HSK
        clear hz p0 p2 hk0
        by_cases hy : y < z
        · rw [if_pos hy] at HSK
          go_wp2
          go_round
          case rel => exact ⟨k + 1, y, by omega, by go_num, rfl, by rw [if_neg (by omega), HSK.out]⟩
          case measure => simp [intOf]; omega
        · rw [if_neg hy] at HSK
          go_wp2
          go_round
          case rel => exact ⟨k + 1, z, by omega, by go_num, rfl, by rw [if_neg (by omega), HSK.out]⟩
          case measure => simp [intOf]; omega
    · obtain rfl : k = n := by omega
      have HR := Lib.hid (HEN.out z hz)
      clear hz
      go_wp2
      go_ret
      exact ⟨ret_int HR.out, rfl⟩

/-- The offsets of the first k values. -/
def ofK (l : List V) (k : Nat) : List Int := (l.take k).map (fun v => v.n - baseL l)
theorem ofK_step {l : List V} {k : Nat} (h : k < l.length) : ints .i64 (ofK l (k + 1)) = ints .i64 (ofK l k) ++ [.int .i64 ((l.getD k V.zero).n - baseL l)] := by
  unfold ofK
  rw [List.take_succ_eq_append_getElem h, List.map_append, ints_append, getDe l V.zero h]
  rfl
theorem ofK_end {l : List V} (h : typeV l = 1) : ofK l l.length = offL l := by
  unfold ofK
  rw [List.take_length, off_yes h]
theorem num_at {l : List V} (h : typeV l = 1) {k : Nat} (hk : k < l.length) : -1000000000 ≤ (l.getD k V.zero).n ∧ (l.getD k V.zero).n ≤ 1000000000 := by
  rw [getDe l V.zero hk]
  exact int_num h _ (List.getElem_mem hk)

set_option maxHeartbeats 1000000 in
theorem sOffsets (u : Value) (l : List V) (w : World) (hss : ∀ v ∈ l, v.s.size ≤ maxLen) (h : Rd 3 w u l.length (vals l)) :
    Calls Try.prog 46 #[u] w fun e w' => ∃ v', e = .returned v' ∧ Own 3 1 w.heap.size w'.heap.size w' v' (offL l).length (ints .i64 (offL l)) ∧ Below w.heap.size w w' := by
  have hown0 := own_lit (e := 3) (size := 1) w #[] 0 (Nat.zero_le _) rfl
  have hb0 := below_alloc w (.cells #[] 3)
  have HT := Lib.hid (sTypeOf u l _ hss (h.below hb0))
  have HB := Lib.hid (fun W (hW : Below w.heap.size w W) => sBase u l W (h.below hW))
  have HNO : Hid (¬ typeV l = 1 → offL l = []) := off_no
  have HYES : Hid (typeV l = 1 → ofK l l.length = offL l ∧ l.length ≤ 64 ∧ (-1000000000 ≤ baseL l ∧ baseL l ≤ 1000000000) ∧ ∀ k, k < l.length → -1000000000 ≤ (l.getD k V.zero).n ∧ (l.getD k V.zero).n ≤ 1000000000) := fun h => ⟨ofK_end h, (int_parts h).2.1, base_ok h, fun k hk => num_at h hk⟩
  have HS : Hid (∀ k, k < l.length → ints .i64 (ofK l (k + 1)) = ints .i64 (ofK l k) ++ [.int .i64 ((l.getD k V.zero).n - baseL l)]) := fun k hk => ofK_step hk
  have HTL : Hid (∀ k, k ≤ l.length → (ofK l k).length = k) := fun k hk => by simp [ofK]; omega
  generalize hl : l.length = n at h HT HB HYES HS HTL
  obtain ⟨a, cap, rfl, hm, HC⟩ := h.vals hl
  unfold maxLen at hm
  generalize typeV l = ty at HT HNO HYES
  generalize baseL l = bs at HB HYES HS
  generalize offL l = R at HNO HYES
  clear h hl hss
  go_enter Try.func46, Try.ntmps46
  go_wp2_with fail
  refine HT.out.mono ?_
  rintro e w1 ⟨rfl, hb1⟩
  have b1 := below_then hb0 hb1 hb0.size
  have O1 := (hown0.below hb1 (by simp)).wide hb1.size
  clear HT hb1 hown0 hb0
  by_cases ht : ty = 1
  · subst ht
    obtain ⟨hR, h64, hbs, HNM⟩ := HYES.out rfl
    have HR := Lib.hid hR
    have HN := Lib.hid HNM
    clear hR HNM HYES HNO
    have e0 : ofK l 0 = [] := by simp [ofK]
    go_wp2_with (go_at_call 48; refine (HB.out _ b1).mono ?_; rintro e w' ⟨rfl, rfl⟩)
    go_loopw [3, 5] (fun o i wr => ∃ k : Nat, k ≤ n ∧ i = .int .i64 k ∧ Own 3 1 w.heap.size wr.heap.size wr o k (ints .i64 (ofK l k)) ∧ Below w.heap.size w wr) (fun _ i _ => n - (intOf i).toNat)
    case atStart => exact ⟨0, Nat.zero_le _, rfl, by rw [e0]; exact O1, b1⟩
    case round =>
      obtain ⟨k, hk, rfl, hown, hbr⟩ := hrel
      by_cases hlt : k < n
      · obtain ⟨b, off, rfl, p0, p1, p2⟩ := HC.out k hlt
        replace p1 := (hbr.cell (p := ⟨b, off + k * 3 + 1, none⟩) (lt_of_cell p1)).trans p1
        have HSK := Lib.hid (HS.out k hlt)
        obtain ⟨y0, y1⟩ := HN.out k hlt
        generalize (l.getD k V.zero).n = y at p1 HSK y0 y1
        clear p0 p2
        go_wp2_with (at_builtin; refine append1_law Try.elemInts rfl _ _ rfl _ _ _ _ _ (.int .i64 (y - bs)) rfl rfl hown rfl (by unfold maxLen; omega) (by omega) ?_)
        intro v4 w4 o4 e4
        have b4 := hbr.trans (e4.below hown)
        rw [← HSK.out] at o4
        have O4 := Lib.hid o4
        clear o4 e4 hown p1
        go_wp2
        go_roundw
        case rel => exact ⟨k + 1, by omega, by go_num, O4.out, b4⟩
        case measure => simp [intOf]; omega
      · obtain rfl : k = n := by omega
        have OO := Lib.hid hown
        have HL := Lib.hid (HTL.out k (Nat.le_refl _))
        clear hown
        go_wp2
        go_ret
        exact ⟨_, rfl, by have := OO.out; rw [← HR.out, HL.out]; exact this, hbr⟩
  · have htb : (ty != 1) = true := by simpa using ht
    have HR := Lib.hid (HNO.out ht)
    clear ht
    go_wp2
    go_ret
    rw [HR.out]
    exact ⟨_, rfl, O1, b1⟩

set_option maxHeartbeats 2000000 in
theorem sEncFrame (u : Value) (l : List V) (w : World) (hss : ∀ v ∈ l, v.s.size ≤ maxLen) (h : Rd 3 w u l.length (vals l)) :
    Calls Try.prog 29 #[u] w fun e w' => ∃ v', e = .returned v' ∧ Own 5 1 w.heap.size w'.heap.size w' v' (encF l).length (ints .u8 (encF l)) ∧ Below w.heap.size w w' := by
  have HE : Hid (encF l = if typeV l = 1 then (Num.put [] (baseL l) ++ [(Bit.widthFor (offL l) : Int)]) ++ Bit.pack (offL l) (Bit.widthFor (offL l)) else []) := rfl
  have HT := Lib.hid (sTypeOf u l w hss h)
  have HB := Lib.hid (fun W (hW : Below w.heap.size w W) => sBase u l W (h.below hW))
  have HO := Lib.hid (fun W (hW : Below w.heap.size w W) => sOffsets u l W hss (h.below hW))
  have hol := (off_len l).2
  generalize typeV l = ty at HE HT
  generalize baseL l = bs at HE HB
  generalize offL l = o at HE HO hol
  generalize encF l = R at HE
  clear hss h
  go_enter Try.func29, Try.ntmps29
  go_wp2_with fail
  refine HT.out.mono ?_
  rintro e w1 ⟨rfl, b1⟩
  clear HT
  by_cases ht : ty = 1
  · subst ht
    rw [if_pos rfl] at HE
    go_wp2_with fail
    refine (HO.out w1 b1).mono ?_
    rintro e w2 ⟨v2, rfl, o2, hb2⟩
    have b2 := below_then b1 hb2 b1.size
    have HW := Lib.hid (sWidthFor v2 o.length o w2 rfl (.inr o2.at))
    have hw31 := Bit.widthFor_le31 o
    have hpn := Bit.pack_le o (Bit.widthFor o)
    generalize Bit.widthFor o = wd at HE HW hw31 hpn
    have z2 := hb2.size
    clear HO hb2
    go_wp2_with fail
    refine HW.out.mono ?_
    rintro e w' ⟨rfl, rfl⟩
    clear HW
    have O3 := own_lit (e := 5) (size := 1) w2 #[] 0 (Nat.zero_le _) rfl
    have hb3 := below_alloc w2 (.cells #[] 5)
    have b3 := below_then b2 hb3 b2.size
    have HN := Lib.hid (sPutNum _ 0 [] bs _ (by omega) rfl O3.at)
    have hpl := (Num.put_len [] bs).2
    simp only [List.length_nil] at hpl
    generalize Num.put [] bs = pb at HN HE hpl
    generalize hpbn : pb.length = pbn at HN hpl
    have o3 := o2.below hb3 (Nat.le_refl _)
    clear O3
    go_wp2_with (first | (go_at_call 48; refine (HB.out _ b3).mono ?_; rintro e w' ⟨rfl, rfl⟩) | fail)
    refine HN.out.mono ?_
    rintro e w4 ⟨v4, rfl, o4, hb4⟩
    have b4 := below_then b3 hb4 b3.size
    have own4 := o4.lower (lo' := w2.heap.size) (by simp)
    have op4 := o3.below hb4 (by simp)
    have hz2 : Hid (w.heap.size ≤ w2.heap.size) := b2.size
    have hwdi : (wd : Int) ≤ 31 := by omega
    have HES : Hid (ints .u8 pb ++ .int .u8 (wd : Int) :: ints .u8 (Bit.pack o wd) = ints .u8 R ∧ pbn + 1 + (Bit.pack o wd).length = R.length) := by
      rw [HE.out, ← hpbn]
      refine ⟨?_, by simp only [List.length_append, List.length_cons, List.length_nil]⟩
      rw [ints_append, ints_append, List.append_assoc]
      rfl
    have HPK := Lib.hid (fun W hW => sPackBits v2 o.length o (wd : Int) W (by omega) rfl (.inr hW))
    generalize Bit.pack o (wd : Int) = pk at HPK HES hpn
    generalize pk.length = pn at HPK HES hpn
    generalize o.length = on at *
    obtain ⟨g2, c2, rfl⟩ : ∃ g c, v2 = .slice (some ⟨g, 0, none⟩) on c := by
      obtain ⟨g, c, e, _⟩ := o2
      exact ⟨g, c, e⟩
    clear o2 o3 o4 hb3 hb4 HN HB hpbn HE b1 b2 b3 z2
    go_wp2_with (first | (at_builtin; refine append1_law Try.elemBytes rfl _ _ rfl _ _ _ _ _ (.int .u8 (wd : Int)) rfl rfl own4 rfl (by unfold maxLen; omega) (by omega) ?_) | fail)
    intro v5 w5 o5 e5
    have hb5 := e5.below own4
    have b5 := b4.trans (hb5.mono hz2.out)
    have HPK5 := Lib.hid (HPK.out w5 (op4.below hb5 (Nat.le_refl _)).at)
    clear hb5 e5 own4 op4 b4 HPK
    go_wp2_with fail
    refine HPK5.out.mono ?_
    rintro e w6 ⟨v6, rfl, o6, hb6⟩
    have b6 := below_then b5 hb6 b5.size
    have own6 := (o5.below hb6 (Nat.le_refl _)).wide hb6.size
    obtain ⟨g6, off6, cp6, rfl, hn6, hc6, hl6, hcs6⟩ := o6.at
    have HL6 := Lib.hid hl6
    have HC6 := Lib.hid hcs6
    clear hl6 hcs6 o6 hb6 o5 HPK5 b5
    go_wp2_with (at_builtin; refine append_law Try.elemBytes rfl _ _ rfl _ _ _ _ _ rfl own6 g6 off6 pn cp6 (ints .u8 pk) rfl HL6.out HC6.out (ints_one _ _) (by unfold maxLen; omega) (by omega) ?_)
    intro v7 w7 o7 e7
    have b7 := b6.trans ((e7.below own6).mono hz2.out)
    rw [HES.out.1, HES.out.2] at o7
    have O7 := Lib.hid (o7.lower hz2.out)
    clear o7 e7 own6
    go_wp2
    go_ret
    exact ⟨_, rfl, O7.out, b7⟩
  · have htb : (ty != 1) = true := by simpa using ht
    rw [if_neg ht] at HE
    have O1 := own_lit (e := 5) (size := 1) w1 #[] 0 (Nat.zero_le _) rfl
    have B1 := b1.alloc b1.size (.cells #[] 5)
    have z1 := b1.size
    go_wp2
    go_ret
    rw [HE.out]
    exact ⟨_, rfl, O1.lower z1, B1⟩

end Go.Proofs.Ythniakklkepomaa

/- The contract of the model's Raised. -/
namespace Go.Proofs.Ythniakklkepomaa
open Go.RowKit

theorem upB_in {base x : Int} (h : upB base x = true) : (0 ≤ x ∧ x ≤ 2000000000) ∧ base + x ≤ 1000000000 := by
  have := of_decide_eq_true h
  omega
theorem raised_bad {base : Int} (l : List Int) (h : Num.okB base = false) : raisedL base l = ([], false) := if_neg (fun e => by rw [h] at e; cases e.1)
theorem raised_no {base : Int} {l : List Int} {k : Nat} (hk : k < l.length) (h : upB base (l.getD k 0) = false) : raisedL base l = ([], false) := if_neg (fun e => by
  have h2 := List.all_eq_true.1 e.2 (l[k]) (List.getElem_mem hk)
  rw [getDe l 0 hk, h2] at h
  cases h)
theorem raised_yes {base : Int} {l : List Int} (hb : Num.okB base = true) (h : ∀ k, k < l.length → upB base (l.getD k 0) = true) : raisedL base l = (l.map (upV base), true) := if_pos ⟨hb, List.all_eq_true.2 (fun x hx => by
  obtain ⟨k, hk, rfl⟩ := List.getElem_of_mem hx
  have := h k hk
  rw [getDe l 0 hk] at this
  exact this)⟩
/-- The first k values. -/
def upK (base : Int) (l : List Int) (k : Nat) : List V := (l.take k).map (upV base)
theorem upK_step {base : Int} {l : List Int} {k : Nat} (h : k < l.length) : vals (upK base l (k + 1)) = vals (upK base l k) ++ V.cs ⟨1, base + l.getD k 0, ⟨#[]⟩⟩ := by
  unfold upK
  rw [List.take_succ_eq_append_getElem h, List.map_append, getDe l 0 h]
  simp [vals, upV]

end Go.Proofs.Ythniakklkepomaa

/- The contract of the model's DecFrame. -/
namespace Go.Proofs.Ythniakklkepomaa
open Go.RowKit

end Go.Proofs.Ythniakklkepomaa

/- Chapter 8's exact laws, walked; the program's own contracts come as hypotheses. -/
namespace Go.Proofs.Ythniakklkepomaa
open Go.RowKit

def CBase : Prop := ∀ (u : Value) (l : List V) (w : World), l.length ≤ 1048576 → (∀ v ∈ l, v.s.size ≤ maxLen) → Rd 3 w u l.length (vals l) → Calls Try.prog 68 #[u] w fun e w' => e = .returned (.int .i64 (baseL l)) ∧ Below w.heap.size w w'
def COffsets : Prop := ∀ (u : Value) (l : List V) (w : World), l.length ≤ 1048576 → (∀ v ∈ l, v.s.size ≤ maxLen) → Rd 3 w u l.length (vals l) → Calls Try.prog 66 #[u] w fun e w' => ∃ v', e = .returned v' ∧ Own 3 1 w.heap.size w'.heap.size w' v' (offL l).length (ints .i64 (offL l)) ∧ Below w.heap.size w w'
def CEncFrame : Prop := ∀ (u : Value) (l : List V) (w : World), l.length ≤ 1048576 → (∀ v ∈ l, v.s.size ≤ maxLen) → Rd 3 w u l.length (vals l) → Calls Try.prog 51 #[u] w fun e w' => ∃ v', e = .returned v' ∧ Own 5 1 w.heap.size w'.heap.size w' v' (encF l).length (ints .u8 (encF l)) ∧ Below w.heap.size w w'
theorem encF_len' (l : List V) : (encF l).length ≤ 1024 + l.length := by
  have := encF_len l
  omega
theorem sBaseB (u : Value) (l : List V) (w : World) (h : Rd 3 w u l.length (vals l)) :
    Calls Try.prog 48 #[u] w fun e w' => e = .returned (.int .i64 (baseL l)) ∧ Below w.heap.size w w' := by
  refine (sBase u l w h).mono ?_
  rintro e w' ⟨rfl, rfl⟩
  exact ⟨rfl, Below.refl _ _⟩

end Go.Proofs.Ythniakklkepomaa
