/- Texts of this claim, one behind the other: S5g, M5, S5e, L5S, M8, S8, S8r, Cut, S8d, Law5b, Law8, IEq, I5b, I5c, I5d, Draw8. -/
import Derived.Test.YthdcggohibaipaaP14
import Derived.Test.YthdcggohibaipaaP7
import Derived.Test.YthdcggohibaipaaP4
import Derived.Test.YthdcggohibaipaaP6
import Derived.Laws.BytesArg
import Derived.Test.YthdcggohibaipaaP16
import Derived.Test.YthdcggohibaipaaP1
import Derived.Test.YthdcggohibaipaaP3
import Derived.Test.YthdcggohibaipaaP17
import Derived.Test.YthdcggohibaipaaP9

/- The contract of the model's GetVal. -/
namespace Go.Proofs.Ythdcggohibaipaa
open Go.RowKit

/-- GetVal. -/
def getT (zs : List Int) (i : Nat) : V × Int × Bool :=
  if (zs.getD i 0) ≤ (zs.length : Int) - i - 1 ∧ okV ⟨2, 0, strOfNums ((zs.drop (i + 1)).take (zs.getD i 0).toNat)⟩ = true then (⟨2, 0, strOfNums ((zs.drop (i + 1)).take (zs.getD i 0).toNat)⟩, (i : Int) + 1 + zs.getD i 0, true) else (V.zero, 0, false)
def getV (zs : List Int) (i ty : Int) : V × Int × Bool :=
  if ty = 1 then (if (Num.get zs i).2.2 = true then (⟨1, (Num.get zs i).1, ⟨#[]⟩⟩, (Num.get zs i).2.1, true) else (V.zero, 0, false))
  else if ty = 2 ∧ Num.inB i 0 ((zs.length : Int) - 1) = true then getT zs i.toNat else (V.zero, 0, false)
/-- What GetVal returns. -/
def rGet (r : V × Int × Bool) : Value := .tuple #[r.1.agg, .int .i64 r.2.1, .bool r.2.2]

end Go.Proofs.Ythdcggohibaipaa

/- Plain mathematics of chapter 5: a Val's bytes, read again; the types of a list. -/
namespace Go.Proofs.Ythdcggohibaipaa
open Go.RowKit

theorem okV_num {v : V} (h : okV v = true) (ht : v.ty = 1) : Num.ok v.n := by
  unfold okV at h
  rw [if_pos ht] at h
  simp only [Bool.and_eq_true] at h
  exact Num.okB_true.1 h.1
theorem getV_int {zs : List Int} {i : Int} : getV zs i 1 = if (Num.get zs i).2.2 = true then (⟨1, (Num.get zs i).1, ⟨#[]⟩⟩, (Num.get zs i).2.1, true) else (V.zero, 0, false) := if_pos rfl
theorem str_sbytes (s : ByteArray) : strOfNums (sbytes s) = s := by
  unfold strOfNums sbytes
  apply ByteArray.ext
  apply Array.toList_inj.1
  simp only [List.map_map]
  have : ((fun n : Int => UInt8.ofNat n.toNat) ∘ fun b : UInt8 => (b.toNat : Int)) = id := by
    funext b
    simp
  rw [this]
  simp
/-- A value's bytes. -/
def valB (v : V) : List Int := if v.ty = 1 then Num.grp 4 (Num.zig v.n) else (v.s.size : Int) :: sbytes v.s
theorem putV_val {v : V} (h : okV v = true) (zs : List Int) : putV zs v = zs ++ valB v := by
  unfold putV valB
  rw [if_pos h]
  split
  · rename_i ht
    exact Num.put_ok (okV_num h ht)
  · rfl
theorem get_grp {b rest : List Int} {n : Int} (h : Num.ok n) : Num.get (b ++ (Num.grp 4 (Num.zig n) ++ rest)) b.length = (n, ((b ++ Num.grp 4 (Num.zig n)).length : Int), true) := by
  have := Num.get_put (b := b) (rest := rest) h
  rw [Num.put_ok h, List.append_assoc] at this
  exact this
theorem getV_val {v : V} (h : okV v = true) (b rest : List Int) : getV (b ++ (valB v ++ rest)) b.length v.ty = (v, ((b ++ valB v).length : Int), true) := by
  obtain ⟨t, n, s⟩ := v
  unfold valB
  by_cases ht : t = 1
  · subst ht
    have hn := okV_num h rfl
    have hs : s = ⟨#[]⟩ := by
      unfold okV at h
      simp only [if_true, Bool.and_eq_true, beq_iff_eq] at h
      apply ByteArray.ext
      apply Array.eq_empty_of_size_eq_zero
      exact h.2
    subst hs
    simp only [if_true]
    rw [getV_int, get_grp hn]
    simp
  · have hsz := okV_txt h ht
    have h' := h
    unfold okV at h
    simp only [if_neg ht, Bool.and_eq_true, beq_iff_eq] at h
    obtain ⟨rfl, rfl, htx⟩ := h
    simp only [if_neg ht]
    unfold getV
    rw [if_neg ht, if_pos ⟨rfl, Num.inB_true.2 ⟨by omega, by simp; omega⟩⟩]
    unfold getT
    have e0 : (b ++ ((s.size : Int) :: sbytes s ++ rest)).getD (b.length : Int).toNat 0 = (s.size : Int) := by
      rw [Int.toNat_natCast]
      simp [List.getD]
    have e1 : ((b ++ ((s.size : Int) :: sbytes s ++ rest)).drop ((b.length : Int).toNat + 1)).take ((s.size : Int)).toNat = sbytes s := by
      rw [Int.toNat_natCast, Int.toNat_natCast, List.drop_append, List.drop_of_length_le (by omega), List.nil_append, Nat.add_sub_cancel_left]
      simp only [List.cons_append, List.drop_succ_cons, List.drop_zero]
      rw [← sbytes_len s, List.take_left]
    simp only [e0, e1, str_sbytes]
    rw [if_pos ⟨by
      simp only [List.length_append, List.length_cons, sbytes_len, Int.toNat_natCast]
      omega, h'⟩]
    simp only [List.length_append, List.length_cons, sbytes_len, Int.toNat_natCast]
    congr 2
    omega
theorem typeV_parts {l : List V} (h : ¬ typeV l = 0) : 1 ≤ l.length ∧ l.length ≤ 64 ∧ ∀ v ∈ l, okV v = true ∧ v.ty = typeV l := by
  unfold typeV at h ⊢
  by_cases hc : Num.inB l.length 1 64 = true ∧ l.all (ofB (l.getD 0 V.zero).ty) = true
  · rw [if_pos hc]
    have h1 := Num.inB_true.1 hc.1
    refine ⟨by omega, by omega, fun v hv => ?_⟩
    have := List.all_eq_true.1 hc.2 v hv
    unfold ofB at this
    simp only [Bool.and_eq_true, beq_iff_eq] at this
    exact this
  · rw [if_neg hc] at h
    exact absurd rfl h
theorem typeV_of {l : List V} {ty : Int} (h1 : 1 ≤ l.length) (h2 : l.length ≤ 64) (h : ∀ v ∈ l, okV v = true ∧ v.ty = ty) : typeV l = ty := by
  have e0 : l.getD 0 V.zero ∈ l := by
    have hl : 0 < l.length := by omega
    have e : l.getD 0 V.zero = l[0] := by simp [hl]
    rw [e]
    exact List.getElem_mem hl
  unfold typeV
  rw [if_pos, (h _ e0).2]
  refine ⟨Num.inB_true.2 ⟨by omega, by omega⟩, List.all_eq_true.2 (fun v hv => ?_)⟩
  unfold ofB
  rw [(h _ e0).2, (h v hv).1, (h v hv).2]
  simp
theorem getV_ok {zs : List Int} (hb : Num.Bytes zs) {i ty : Int} (h : (getV zs i ty).2.2 = true) : okV (getV zs i ty).1 = true ∧ (getV zs i ty).1.ty = ty := by
  unfold getV at h ⊢
  split
  · rename_i ht
    subst ht
    rw [if_pos rfl] at h
    split
    · rename_i hg
      have hp : Num.get zs i = ((Num.get zs i).1, (Num.get zs i).2.1, true) := by rw [← hg]
      have := (Num.put_get hb hp).2.2.2.2.1
      refine ⟨?_, rfl⟩
      unfold okV
      simp only [if_true, Bool.and_eq_true]
      exact ⟨Num.okB_true.2 this, rfl⟩
    · rename_i hg
      rw [if_neg hg] at h
      cases h
  · rename_i ht
    rw [if_neg ht] at h
    split
    · rename_i hc
      rw [if_pos hc] at h
      unfold getT at h ⊢
      split
      · rename_i hd
        exact ⟨hd.2, hc.1.symm⟩
      · rename_i hd
        rw [if_neg hd] at h
        cases h
    · rename_i hc
      rw [if_neg hc] at h
      cases h

end Go.Proofs.Ythdcggohibaipaa

/- The contracts of the model's EncPlain and DecPlain. -/
namespace Go.Proofs.Ythdcggohibaipaa
open Go.RowKit

/-- EncPlain. -/
def encAll (l : List V) : List Int := l.foldl putV []
def encP (l : List V) : List Int := if typeV l = 0 then [] else encAll l
theorem encAll_snoc (l : List V) (v : V) : encAll (l ++ [v]) = putV (encAll l) v := by simp [encAll]
theorem encAll_len (l : List V) : (encAll l).length ≤ 7 * l.length := by
  have : ∀ (l : List V) (b : List Int), (l.foldl putV b).length ≤ b.length + 7 * l.length := by
    intro l
    induction l with
    | nil => intro b; simp
    | cons v l ih =>
      intro b
      have h1 := ih (putV b v)
      have h2 := (putV_len b v).2
      simp only [List.foldl_cons, List.length_cons]
      omega
  have := this l []
  simpa [encAll] using this
theorem typeV_len {l : List V} (h : ¬ typeV l = 0) : l.length ≤ 64 := by
  unfold typeV at h
  split at h
  · rename_i h2
    have := Num.inB_true.1 h2.1
    omega
  · exact absurd rfl h

/-- DecPlain. -/
def decL (zs : List Int) (ty : Int) : Nat → Int → Option (List V × Int)
  | 0, i => some ([], i)
  | k + 1, i => if (getV zs i ty).2.2 = true then (decL zs ty k (getV zs i ty).2.1).map fun r => ((getV zs i ty).1 :: r.1, r.2) else none
def decP (zs : List Int) (ty k : Int) : List V × Bool :=
  if Num.inB k 1 64 = true then (match decL zs ty k.toNat 0 with | some r => if r.2 = zs.length then (r.1, true) else ([], false) | none => ([], false)) else ([], false)
/-- What DecPlain returns. -/
def RDs (w w' : World) (e : Ending) (r : List V × Bool) : Prop := ∃ v', e = .returned (.tuple #[v', .bool r.2]) ∧ Own 61 3 w.heap.size w'.heap.size w' v' r.1.length (vals r.1) ∧ Below w.heap.size w w'

end Go.Proofs.Ythdcggohibaipaa

/- The model's l5Same (two slices of bytes are the same), and small lemmas on bytes. -/
namespace Go.Proofs.Ythdcggohibaipaa
open Go.RowKit

theorem Own.drewN {e size lo hi w v n xs} (h : Own e size lo hi w v n xs) (d : Nat) : Own e size lo hi (w.drewN d) v n xs := by
  obtain ⟨g, cap, rfl, h1, h2, h3⟩ := h
  exact ⟨g, cap, rfl, h1, h2, h3.1, h3.2⟩
theorem sbytes_bytes (s : ByteArray) : Num.Bytes (sbytes s) := by
  intro x hx
  unfold sbytes at hx
  obtain ⟨b, _, rfl⟩ := List.mem_map.1 hx
  have := b.toNat_lt
  omega
theorem bytes_append {a b : List Int} (ha : Num.Bytes a) (hb : Num.Bytes b) : Num.Bytes (a ++ b) := fun x hx => (List.mem_append.1 hx).elim (ha x) (hb x)
theorem putV_bytes {zs : List Int} (h : Num.Bytes zs) (v : V) : Num.Bytes (putV zs v) := by
  unfold putV
  split
  · rename_i hok
    split
    · exact Num.put_bytes h v.n
    · rename_i ht
      have := okV_txt hok ht
      refine bytes_append h (fun x hx => ?_)
      rcases List.mem_cons.1 hx with rfl | hx
      · omega
      · exact sbytes_bytes _ x hx
  · exact h
theorem nil_bytes : Num.Bytes [] := fun x hx => by cases hx
theorem strOfNums_inj {xs ys : List Int} (hx : Num.Bytes xs) (hy : Num.Bytes ys) (h : strOfNums xs = strOfNums ys) : xs = ys := by
  have h2 : xs.map (fun n => UInt8.ofNat n.toNat) = ys.map (fun n => UInt8.ofNat n.toNat) := by
    have := congrArg (fun s : ByteArray => s.data.toList) h
    simpa [strOfNums] using this
  induction xs generalizing ys with
  | nil => cases ys with
    | nil => rfl
    | cons => simp at h2
  | cons x xs ih => cases ys with
    | nil => simp at h2
    | cons y ys =>
      simp only [List.map_cons, List.cons.injEq] at h2
      have h1 := hx x List.mem_cons_self
      have h3 := hy y List.mem_cons_self
      have e : x.toNat = y.toNat := by
        have := congrArg UInt8.toNat h2.1
        simp only [UInt8.toNat_ofNat'] at this
        omega
      have hxs : strOfNums xs = strOfNums ys := by
        unfold strOfNums
        rw [h2.2]
      rw [show x = y by omega, ih (fun z hz => hx z (List.mem_cons_of_mem _ hz)) (fun z hz => hy z (List.mem_cons_of_mem _ hz)) hxs h2.2]
theorem bstr_ne {a b : ByteArray} (h : ¬ a = b) : (a.toList == b.toList) = false := by
  have : ¬ a.toList = b.toList := fun e => h (by
    rw [ByteArray.toList_eq, ByteArray.toList_eq] at e
    apply ByteArray.ext
    exact Array.toList_inj.1 e)
  simpa using this
theorem conv_at {w : World} {v : Value} {n : Nat} {zs : List Int} (hz : zs.length = n) (h : At 1 w v n (ints .u8 zs)) : (convert 22 9 v).run Try.prog w = .ok (.string (strOfNums zs)) w := by
  obtain ⟨b, off, cap, rfl, _, _, _, hc⟩ := h
  exact run_convert_bytes_arg w 22 5 Try.underlying22 Try.underlying5 b off n cap zs hz (fun j hj => At.cell hc hz hj) 9 Try.underlying9
theorem l5Same (u v : Value) (n m : Nat) (xs ys : List Int) (w : World) (hxl : xs.length = n) (hyl : ys.length = m) (hx : Num.Bytes xs) (hy : Num.Bytes ys) (h1 : At 1 w u n (ints .u8 xs)) (h2 : At 1 w v m (ints .u8 ys)) :
    Calls Try.prog 67 #[u, v] w fun e w' => e = .returned (.bool (decide (xs = ys))) ∧ w = w' := by
  have k1 := conv_at hxl h1
  have k2 := conv_at hyl h2
  have HX : Hid (((strOfNums xs).toList == (strOfNums ys).toList) = decide (xs = ys)) := by
    show _ = _
    by_cases he : xs = ys
    · subst he
      simp
    · rw [bstr_ne (fun h => he (strOfNums_inj hx hy h)), decide_eq_false he]
  obtain ⟨b1, o1, c1, rfl, _, _, _, _⟩ := h1
  obtain ⟨b2, o2, c2, rfl, _, _, _, _⟩ := h2
  generalize strOfNums xs = s1 at k1 HX
  generalize strOfNums ys = s2 at k2 HX
  generalize decide (xs = ys) = q at HX
  clear hx hy hxl hyl
  go_enter Try.func67, Try.ntmps67
  go_wp2
  go_ret
  exact ⟨ret_bool HX.out, rfl⟩
theorem getV_size (zs : List Int) (i ty : Int) : (getV zs i ty).1.s.size ≤ maxLen := by
  have h6 : ∀ v : V, okV v = true → ¬ v.ty = 1 → v.s.size ≤ maxLen := fun v h ht => Nat.le_trans (okV_txt h ht) (by decide)
  unfold getV
  split
  · split
    · exact Nat.zero_le _
    · exact Nat.zero_le _
  · split
    · unfold getT
      split
      · rename_i h
        exact h6 _ h.2 (fun e => by simp at e)
      · exact Nat.zero_le _
    · exact Nat.zero_le _

end Go.Proofs.Ythdcggohibaipaa

/- Plain mathematics of chapter 8: the smallest integer, the offsets, their encoding; decoding gives back what was encoded; what decodes is what its values encode to. -/
namespace Go.Proofs.Ythdcggohibaipaa
open Go.RowKit

/-- The smallest of a and the integers of l. -/
def lowL (a : Int) (l : List V) : Int := l.foldl (fun a v => if v.n < a then v.n else a) a
theorem lowL_snoc (a : Int) (l : List V) (v : V) : lowL a (l ++ [v]) = if v.n < lowL a l then v.n else lowL a l := by unfold lowL; rw [List.foldl_append]; rfl
theorem lowL_le (l : List V) (a : Int) : lowL a l ≤ a ∧ ∀ v ∈ l, lowL a l ≤ v.n := by
  induction l generalizing a with
  | nil => exact ⟨Int.le_refl _, fun v hv => by cases hv⟩
  | cons x l ih =>
    have h := ih (if x.n < a then x.n else a)
    have e : lowL a (x :: l) = lowL (if x.n < a then x.n else a) l := rfl
    rw [e]
    refine ⟨?_, fun v hv => ?_⟩
    · have := h.1
      split at this <;> split <;> omega
    · rcases List.mem_cons.1 hv with rfl | hv
      · have := h.1
        split at this <;> split <;> omega
      · exact h.2 v hv
theorem lowL_mem (l : List V) (a : Int) : lowL a l = a ∨ ∃ v ∈ l, v.n = lowL a l := by
  induction l generalizing a with
  | nil => exact .inl rfl
  | cons x l ih =>
    have e : lowL a (x :: l) = lowL (if x.n < a then x.n else a) l := rfl
    rw [e]
    rcases ih (if x.n < a then x.n else a) with h | ⟨v, hv, h⟩
    · rw [h]
      split
      · exact .inr ⟨x, List.mem_cons_self, rfl⟩
      · exact .inl rfl
    · exact .inr ⟨v, List.mem_cons_of_mem _ hv, h⟩
/-- Base. -/
def baseL (l : List V) : Int := lowL (l.getD 0 V.zero).n l
theorem base_le {l : List V} : ∀ v ∈ l, baseL l ≤ v.n := (lowL_le l _).2
theorem base_mem {l : List V} (h : 1 ≤ l.length) : ∃ v ∈ l, v.n = baseL l := by
  rcases lowL_mem l (l.getD 0 V.zero).n with e | e
  · refine ⟨l.getD 0 V.zero, ?_, e.symm⟩
    rw [getDe l V.zero h]
    exact List.getElem_mem h
  · exact e
/-- What Base holds before the k-th value. -/
def baseK (l : List V) (k : Nat) : Int := lowL (l.getD 0 V.zero).n (l.take k)
theorem baseK_step {l : List V} {k : Nat} (h : k < l.length) : baseK l (k + 1) = if (l.getD k V.zero).n < baseK l k then (l.getD k V.zero).n else baseK l k := by
  unfold baseK
  rw [getDe l V.zero h, List.take_succ_eq_append_getElem h, lowL_snoc]
theorem baseK_one {l : List V} (h : 0 < l.length) : baseK l 1 = (l.getD 0 V.zero).n := by
  rw [baseK_step h]
  have : baseK l 0 = (l.getD 0 V.zero).n := by simp [baseK, lowL]
  rw [this]
  simp
theorem baseK_zero (l : List V) : baseK l 0 = (l.getD 0 V.zero).n := by simp [baseK, lowL]
theorem baseK_end (l : List V) : baseK l l.length = baseL l := by simp [baseK, baseL]

/-- Offsets. -/
def offL (l : List V) : List Int := if typeV l = 1 then l.map (fun v => v.n - baseL l) else []
theorem off_yes {l : List V} (h : typeV l = 1) : offL l = l.map (fun v => v.n - baseL l) := if_pos h
theorem off_no {l : List V} (h : ¬ typeV l = 1) : offL l = [] := if_neg h
theorem int_parts {l : List V} (h : typeV l = 1) : 1 ≤ l.length ∧ l.length ≤ 64 ∧ ∀ v ∈ l, okV v = true ∧ v.ty = 1 := by
  have := typeV_parts (l := l) (by omega)
  rw [h] at this
  exact this
theorem int_num {l : List V} (h : typeV l = 1) : ∀ v ∈ l, -1000000000 ≤ v.n ∧ v.n ≤ 1000000000 := fun v hv => by
  have h1 := (int_parts h).2.2 v hv
  exact okV_num h1.1 h1.2
theorem base_ok {l : List V} (h : typeV l = 1) : -1000000000 ≤ baseL l ∧ baseL l ≤ 1000000000 := by
  obtain ⟨v, hv, e⟩ := base_mem (int_parts h).1
  rw [← e]
  exact int_num h v hv
theorem off_len (l : List V) : (offL l).length ≤ l.length ∧ (offL l).length ≤ 64 := by
  by_cases h : typeV l = 1
  · have := int_parts h
    rw [off_yes h, List.length_map]
    omega
  · rw [off_no h]
    simp
theorem off_in (l : List V) : ∀ x ∈ offL l, 0 ≤ x ∧ x ≤ 2000000000 := by
  by_cases h : typeV l = 1
  · rw [off_yes h]
    intro x hx
    obtain ⟨v, hv, rfl⟩ := List.mem_map.1 hx
    have h1 := int_num h v hv
    have h2 := base_ok h
    have h3 := base_le v hv
    omega
  · rw [off_no h]
    exact fun x hx => by cases hx
theorem off_zero {l : List V} (h : typeV l = 1) : 0 ∈ offL l := by
  obtain ⟨v, hv, e⟩ := base_mem (int_parts h).1
  rw [off_yes h]
  exact List.mem_map.2 ⟨v, hv, by omega⟩
/-- The greatest of a and the integers of l. -/
def topL (a : Int) (l : List Int) : Int := l.foldl (fun a x => if a < x then x else a) a
theorem topL_snoc (a : Int) (l : List Int) (x : Int) : topL a (l ++ [x]) = if topL a l < x then x else topL a l := by unfold topL; rw [List.foldl_append]; rfl
theorem topL_mem (l : List Int) (a : Int) : topL a l = a ∨ topL a l ∈ l := by
  induction l generalizing a with
  | nil => exact .inl rfl
  | cons x l ih =>
    have e : topL a (x :: l) = topL (if a < x then x else a) l := rfl
    rw [e]
    rcases ih (if a < x then x else a) with h | h
    · rw [h]
      split
      · exact .inr List.mem_cons_self
      · exact .inl rfl
    · exact .inr (List.mem_cons_of_mem _ h)
/-- Reach. -/
def reachL (l : List V) : Int := topL 0 (offL l)
theorem reach_mem {l : List V} (h : typeV l = 1) : reachL l ∈ offL l := by
  rcases topL_mem (offL l) 0 with e | e
  · unfold reachL
    rw [e]
    exact off_zero h
  · exact e
theorem width_mem {l : List Int} : ∀ x ∈ l, Bit.widthI x ≤ Bit.widthFor l := by
  have : ∀ (l : List Int) (a : Nat), a ≤ l.foldl (fun a x => max a (Bit.widthI x)) a ∧ ∀ x ∈ l, Bit.widthI x ≤ l.foldl (fun a x => max a (Bit.widthI x)) a := by
    intro l
    induction l with
    | nil => exact fun a => ⟨Nat.le_refl _, fun x hx => by cases hx⟩
    | cons y l ih =>
      intro a
      have h := ih (max a (Bit.widthI y))
      simp only [List.foldl_cons]
      refine ⟨by omega, fun x hx => ?_⟩
      rcases List.mem_cons.1 hx with rfl | hx
      · omega
      · exact h.2 x hx
  exact (this l 0).2
theorem off_fits (l : List V) : Bit.fitsB (offL l) (Bit.widthFor (offL l) : Nat) = true := by
  refine Bit.digs_fits (fun x hx => ?_) (Bit.widthFor_le31 _)
  have h1 := off_in l x hx
  have h2 := (Bit.widthI_in (by omega) (by omega) (Bit.widthFor (offL l))).1 (width_mem x hx)
  exact ⟨h1.1, Bit.lt_of_toNat h2⟩

/-- EncFrame. -/
def encF (l : List V) : List Int := if typeV l = 1 then (Num.put [] (baseL l) ++ [(Bit.widthFor (offL l) : Int)]) ++ Bit.pack (offL l) (Bit.widthFor (offL l)) else []
theorem encF_bytes (l : List V) : Num.Bytes (encF l) := by
  unfold encF
  split
  · refine bytes_append (bytes_append (Num.put_bytes nil_bytes _) (fun x hx => ?_)) (Bit.pack_bytes _ _)
    have := Bit.widthFor_le31 (offL l)
    obtain rfl := List.mem_singleton.1 hx
    omega
  · exact nil_bytes
theorem encF_len (l : List V) : (encF l).length ≤ 1024 := by
  unfold encF
  split
  · have h1 := Num.put_len [] (baseL l)
    have h2 := Bit.pack_le (offL l) (Bit.widthFor (offL l))
    have h3 := off_len l
    simp only [List.length_append, List.length_nil, List.length_cons] at *
    omega
  · simp

/-- Whether Raised takes x. -/
def upB (base x : Int) : Bool := decide (0 ≤ x ∧ x ≤ 2000000000 ∧ base + x ≤ 1000000000)
def upV (base x : Int) : V := ⟨1, base + x, ⟨#[]⟩⟩
/-- Raised. -/
def raisedL (base : Int) (l : List Int) : List V × Bool := if Num.okB base = true ∧ l.all (upB base) = true then (l.map (upV base), true) else ([], false)
theorem raised_len (base : Int) (l : List Int) : (raisedL base l).1.length ≤ l.length := by
  unfold raisedL
  split
  · simp
  · simp
theorem raised_sizes (base : Int) (l : List Int) : ∀ v ∈ (raisedL base l).1, v.s.size ≤ maxLen := by
  unfold raisedL
  split
  · intro v hv
    obtain ⟨x, _, rfl⟩ := List.mem_map.1 hv
    exact Nat.zero_le _
  · exact fun v hv => by cases hv
theorem raised_true {base : Int} {l : List Int} (h : (raisedL base l).2 = true) : (raisedL base l).1.length = l.length := by
  unfold raisedL at h ⊢
  split
  · simp
  · rename_i hc
    rw [if_neg hc] at h
    cases h
theorem raised_off {l : List V} (h : typeV l = 1) : raisedL (baseL l) (offL l) = (l, true) := by
  have hb := base_ok h
  have hu : (offL l).all (upB (baseL l)) = true := by
    rw [List.all_eq_true, off_yes h]
    intro x hx
    obtain ⟨v, hv, rfl⟩ := List.mem_map.1 hx
    have h1 := int_num h v hv
    have h3 := base_le v hv
    exact decide_eq_true (by omega)
  unfold raisedL
  rw [if_pos ⟨Num.okB_true.2 hb, hu⟩, off_yes h, List.map_map]
  congr 1
  conv => rhs; rw [← List.map_id l]
  refine List.map_congr_left (fun v hv => ?_)
  obtain ⟨ho, ht⟩ := (int_parts h).2.2 v hv
  obtain ⟨t, n, s⟩ := v
  simp only at ht
  subst ht
  have hs : s = ⟨#[]⟩ := by
    unfold okV at ho
    simp only [if_true, Bool.and_eq_true, beq_iff_eq] at ho
    apply ByteArray.ext
    apply Array.eq_empty_of_size_eq_zero
    exact ho.2
  subst hs
  simp only [Function.comp_apply, upV, id_eq]
  congr 1
  omega

/-- DecFrame, of the base and the offsets. -/
def decG (zs : List Int) (base : Int) (o : List Int × Bool) : List V × Bool :=
  if o.2 = true ∧ (raisedL base o.1).2 = true ∧ encF (raisedL base o.1).1 = zs then ((raisedL base o.1).1, true) else ([], false)
/-- DecFrame. -/
def decF (zs : List Int) (k : Int) : List V × Bool :=
  if (Num.get zs 0).2.2 = true ∧ (Num.get zs 0).2.1 < zs.length ∧ Num.inB k 1 64 = true then
    decG zs (Num.get zs 0).1 (Bit.unpack (zs.drop ((Num.get zs 0).2.1.toNat + 1)) (zs.getD (Num.get zs 0).2.1.toNat 0) k)
  else ([], false)
theorem decG_len (zs : List Int) (base : Int) (o : List Int × Bool) : (decG zs base o).1.length ≤ o.1.length := by
  unfold decG
  split
  · exact raised_len _ _
  · simp
theorem decF_len (zs : List Int) (k : Int) : (decF zs k).1.length ≤ 64 := by
  unfold decF
  split
  · exact Nat.le_trans (decG_len _ _ _) (Bit.unpack_le _ _ _)
  · simp
theorem decF_sizes (zs : List Int) (k : Int) : ∀ v ∈ (decF zs k).1, v.s.size ≤ maxLen := by
  unfold decF
  split
  · unfold decG
    split
    · exact raised_sizes _ _
    · exact fun v hv => by cases hv
  · exact fun v hv => by cases hv
theorem dec_encF {l : List V} (h : typeV l = 1) : decF (encF l) l.length = (l, true) := by
  obtain ⟨h1, h64, _⟩ := int_parts h
  have hb := base_ok h
  have hup := Bit.unpack_pack (off_fits l) (off_len l).2
  have hol : (offL l).length = l.length := by rw [off_yes h, List.length_map]
  rw [hol] at hup
  have hro := raised_off h
  have he : encF l = (Num.put [] (baseL l) ++ [(Bit.widthFor (offL l) : Int)]) ++ Bit.pack (offL l) (Bit.widthFor (offL l)) := if_pos h
  generalize Bit.pack (offL l) (Bit.widthFor (offL l) : Nat) = pk at *
  generalize (Bit.widthFor (offL l) : Int) = wd at *
  have hok : Num.ok (baseL l) := hb
  generalize hb0 : Num.grp 4 (Num.zig (baseL l)) = b0 at *
  have he2 : encF l = b0 ++ (wd :: pk) := by
    rw [he, Num.put_ok hok, hb0]
    simp
  have hg : Num.get (encF l) 0 = (baseL l, (b0.length : Int), true) := by
    have := get_grp (b := []) (rest := wd :: pk) hok
    rw [hb0] at this
    rw [he2]
    exact this
  unfold decF
  rw [hg]
  simp only
  rw [if_pos ⟨trivial, by rw [he2]; simp; omega, Num.inB_true.2 ⟨by omega, by omega⟩⟩, Int.toNat_natCast]
  have e1 : (encF l).drop (b0.length + 1) = pk := by
    rw [he2]
    simp [List.drop_append]
  have e2 : (encF l).getD b0.length 0 = wd := by
    rw [he2]
    simp [List.getD]
  rw [e1, e2, hup]
  unfold decG
  simp only
  rw [hro]
  simp
theorem dec_okF {zs : List Int} (hb : Num.Bytes zs) {k : Int} (h : (decF zs k).2 = true) : encF (decF zs k).1 = zs ∧ ((decF zs k).1.length : Int) = k := by
  unfold decF at h ⊢
  split
  · rename_i hc
    rw [if_pos hc] at h
    have hbd : Num.Bytes (zs.drop ((Num.get zs 0).2.1.toNat + 1)) := fun x hx => hb x (List.mem_of_mem_drop hx)
    generalize hu : Bit.unpack (zs.drop ((Num.get zs 0).2.1.toNat + 1)) (zs.getD (Num.get zs 0).2.1.toNat 0) k = u at h ⊢
    obtain ⟨o, is⟩ := u
    unfold decG at h ⊢
    split
    · rename_i hd
      simp only at hd
      obtain ⟨rfl, hr, he⟩ := hd
      refine ⟨he, ?_⟩
      simp only
      rw [raised_true hr]
      exact (Bit.pack_unpack hbd hu).2
    · rename_i hd
      rw [if_neg hd] at h
      cases h
  · rename_i hc
    rw [if_neg hc] at h
    cases h

end Go.Proofs.Ythdcggohibaipaa

/- The contracts of the model's Base, Offsets, Reach, EncFrame. -/
namespace Go.Proofs.Ythdcggohibaipaa
open Go.RowKit

set_option maxHeartbeats 1000000 in
theorem sBase (u : Value) (l : List V) (w : World) (h : Rd 3 w u l.length (vals l)) :
    Calls Try.prog 20 #[u] w fun e w' => e = .returned (.int .i64 (baseL l)) ∧ w = w' := by
  have HST : Hid (∀ k, k < l.length → baseK l (k + 1) = if (l.getD k V.zero).n < baseK l k then (l.getD k V.zero).n else baseK l k) := fun k hk => baseK_step hk
  have HON : Hid (0 < l.length → baseK l 1 = (l.getD 0 V.zero).n) := baseK_one
  have HEN : Hid (∀ x, (x = if l.length = 0 then 0 else baseK l l.length) → x = baseL l) := fun x hx => by
    rw [hx]
    split
    · rename_i h0
      obtain rfl := List.length_eq_zero_iff.1 h0
      rfl
    · exact baseK_end l
  generalize baseL l = R at HEN
  generalize hl : l.length = n at h HST HON HEN
  obtain ⟨a, cap, rfl, hm, HC⟩ := h.vals hl
  unfold maxLen at hm
  clear h hl
  go_enter Try.func20, Try.ntmps20
  go_wp2
  go_loop [3, 4] (fun x i => ∃ (k : Nat) (z : Int), k ≤ n ∧ i = .int .i64 k ∧ x = .int .i64 z ∧ z = if k = 0 then 0 else baseK l k) (fun _ i => n - (intOf i).toNat)
  case atStart => exact ⟨0, 0, Nat.zero_le _, rfl, rfl, rfl⟩
  case round =>
    obtain ⟨k, z, hk, rfl, rfl, hz⟩ := hrel
    by_cases hlt : k < n
    · obtain ⟨b, off, rfl, p0, p1, p2⟩ := HC.out k hlt
      have HSK := Lib.hid (HST.out k hlt)
      by_cases hk0 : k = 0
      · subst hk0
        have HO := Lib.hid (HON.out hlt)
        simp only [Nat.zero_mul, Nat.add_zero] at p1
        generalize (l.getD 0 V.zero).n = y at p1 HO
        clear hz HSK p0 p2
        go_wp2
        go_round
        case rel => exact ⟨1, y, by omega, by go_num, rfl, by rw [if_neg (by omega), HO.out]⟩
        case measure => simp [intOf]; omega
      · have hkb : ((k : Int) == 0) = false := by simpa using hk0
        rw [if_neg hk0] at hz
        rw [← hz] at HSK
        generalize (l.getD k V.zero).n = y at p1 HSK
        clear hz p0 p2 hk0
        by_cases hy : y < z
        · rw [if_pos hy] at HSK
          go_wp2
          go_round
          case rel => exact ⟨k + 1, y, by omega, by go_num, rfl, by rw [if_neg (by omega), HSK.out]⟩
          case measure => simp [intOf]; omega
        · rw [if_neg hy] at HSK
          go_wp2
          go_round
          case rel => exact ⟨k + 1, z, by omega, by go_num, rfl, by rw [if_neg (by omega), HSK.out]⟩
          case measure => simp [intOf]; omega
    · obtain rfl : k = n := by omega
      have HR := Lib.hid (HEN.out z hz)
      clear hz
      go_wp2
      go_ret
      exact ⟨ret_int HR.out, rfl⟩

/-- The offsets of the first k values. -/
def ofK (l : List V) (k : Nat) : List Int := (l.take k).map (fun v => v.n - baseL l)
theorem ofK_step {l : List V} {k : Nat} (h : k < l.length) : ints .i64 (ofK l (k + 1)) = ints .i64 (ofK l k) ++ [.int .i64 ((l.getD k V.zero).n - baseL l)] := by
  unfold ofK
  rw [List.take_succ_eq_append_getElem h, List.map_append, ints_append, getDe l V.zero h]
  rfl
theorem ofK_end {l : List V} (h : typeV l = 1) : ofK l l.length = offL l := by
  unfold ofK
  rw [List.take_length, off_yes h]
theorem num_at {l : List V} (h : typeV l = 1) {k : Nat} (hk : k < l.length) : -1000000000 ≤ (l.getD k V.zero).n ∧ (l.getD k V.zero).n ≤ 1000000000 := by
  rw [getDe l V.zero hk]
  exact int_num h _ (List.getElem_mem hk)

set_option maxHeartbeats 1000000 in
theorem sOffsets (u : Value) (l : List V) (w : World) (hss : ∀ v ∈ l, v.s.size ≤ maxLen) (h : Rd 3 w u l.length (vals l)) :
    Calls Try.prog 18 #[u] w fun e w' => ∃ v', e = .returned v' ∧ Own 3 1 w.heap.size w'.heap.size w' v' (offL l).length (ints .i64 (offL l)) ∧ Below w.heap.size w w' := by
  have hown0 := own_lit (e := 3) (size := 1) w #[] 0 (Nat.zero_le _) rfl
  have hb0 := below_alloc w (.cells #[] 3)
  have HT := Lib.hid (sTypeOf u l _ hss (h.below hb0))
  have HB := Lib.hid (fun W (hW : Below w.heap.size w W) => sBase u l W (h.below hW))
  have HNO : Hid (¬ typeV l = 1 → offL l = []) := off_no
  have HYES : Hid (typeV l = 1 → ofK l l.length = offL l ∧ l.length ≤ 64 ∧ (-1000000000 ≤ baseL l ∧ baseL l ≤ 1000000000) ∧ ∀ k, k < l.length → -1000000000 ≤ (l.getD k V.zero).n ∧ (l.getD k V.zero).n ≤ 1000000000) := fun h => ⟨ofK_end h, (int_parts h).2.1, base_ok h, fun k hk => num_at h hk⟩
  have HS : Hid (∀ k, k < l.length → ints .i64 (ofK l (k + 1)) = ints .i64 (ofK l k) ++ [.int .i64 ((l.getD k V.zero).n - baseL l)]) := fun k hk => ofK_step hk
  have HTL : Hid (∀ k, k ≤ l.length → (ofK l k).length = k) := fun k hk => by simp [ofK]; omega
  generalize hl : l.length = n at h HT HB HYES HS HTL
  obtain ⟨a, cap, rfl, hm, HC⟩ := h.vals hl
  unfold maxLen at hm
  generalize typeV l = ty at HT HNO HYES
  generalize baseL l = bs at HB HYES HS
  generalize offL l = R at HNO HYES
  clear h hl hss
  go_enter Try.func18, Try.ntmps18
  go_wp2_with fail
  refine HT.out.mono ?_
  rintro e w1 ⟨rfl, hb1⟩
  have b1 := below_then hb0 hb1 hb0.size
  have O1 := (hown0.below hb1 (by simp)).wide hb1.size
  clear HT hb1 hown0 hb0
  by_cases ht : ty = 1
  · subst ht
    obtain ⟨hR, h64, hbs, HNM⟩ := HYES.out rfl
    have HR := Lib.hid hR
    have HN := Lib.hid HNM
    clear hR HNM HYES HNO
    have e0 : ofK l 0 = [] := by simp [ofK]
    go_wp2_with (go_at_call 20; refine (HB.out _ b1).mono ?_; rintro e w' ⟨rfl, rfl⟩)
    go_loopw [3, 5] (fun o i wr => ∃ k : Nat, k ≤ n ∧ i = .int .i64 k ∧ Own 3 1 w.heap.size wr.heap.size wr o k (ints .i64 (ofK l k)) ∧ Below w.heap.size w wr) (fun _ i _ => n - (intOf i).toNat)
    case atStart => exact ⟨0, Nat.zero_le _, rfl, by rw [e0]; exact O1, b1⟩
    case round =>
      obtain ⟨k, hk, rfl, hown, hbr⟩ := hrel
      by_cases hlt : k < n
      · obtain ⟨b, off, rfl, p0, p1, p2⟩ := HC.out k hlt
        replace p1 := (hbr.cell (p := ⟨b, off + k * 3 + 1, none⟩) (lt_of_cell p1)).trans p1
        have HSK := Lib.hid (HS.out k hlt)
        obtain ⟨y0, y1⟩ := HN.out k hlt
        generalize (l.getD k V.zero).n = y at p1 HSK y0 y1
        clear p0 p2
        go_wp2_with (at_builtin; refine append1_law Try.elemInts rfl _ _ rfl _ _ _ _ _ (.int .i64 (y - bs)) rfl rfl hown rfl (by unfold maxLen; omega) (by omega) ?_)
        intro v4 w4 o4 e4
        have b4 := hbr.trans (e4.below hown)
        rw [← HSK.out] at o4
        have O4 := Lib.hid o4
        clear o4 e4 hown p1
        go_wp2
        go_roundw
        case rel => exact ⟨k + 1, by omega, by go_num, O4.out, b4⟩
        case measure => simp [intOf]; omega
      · obtain rfl : k = n := by omega
        have OO := Lib.hid hown
        have HL := Lib.hid (HTL.out k (Nat.le_refl _))
        clear hown
        go_wp2
        go_ret
        exact ⟨_, rfl, by have := OO.out; rw [← HR.out, HL.out]; exact this, hbr⟩
  · have htb : (ty != 1) = true := by simpa using ht
    have HR := Lib.hid (HNO.out ht)
    clear ht
    go_wp2
    go_ret
    rw [HR.out]
    exact ⟨_, rfl, O1, b1⟩

set_option maxHeartbeats 1000000 in
theorem sReach (u : Value) (l : List V) (w : World) (hss : ∀ v ∈ l, v.s.size ≤ maxLen) (h : Rd 3 w u l.length (vals l)) :
    Calls Try.prog 22 #[u] w fun e w' => e = .returned (.int .i64 (reachL l)) ∧ Below w.heap.size w w' := by
  have HO := Lib.hid (sOffsets u l w hss h)
  have HR : Hid (reachL l = topL 0 (offL l)) := rfl
  generalize reachL l = R at HR
  generalize offL l = o at HO HR
  have HS : Hid (∀ k, k < o.length → topL 0 (o.take (k + 1)) = if topL 0 (o.take k) < o.getD k 0 then o.getD k 0 else topL 0 (o.take k)) := fun k hk => by
    rw [Bit.take_snoc o k hk, topL_snoc]
  generalize hn : o.length = n at HO HS
  have HN := Lib.hid hn
  have HE : Hid (topL 0 (o.take n) = R) := by show _ = _; rw [← hn, List.take_length, HR.out]
  generalize hg : (fun k => topL 0 (o.take k)) = g
  have HG : Hid (∀ k, topL 0 (o.take k) = g k) := fun k => by rw [← hg]
  simp only [HG.out] at HS HE
  have HG0 : Hid (g 0 = 0) := by show _ = _; rw [← HG.out]; rfl
  clear h hss hn hg HG HR
  go_enter Try.func22, Try.ntmps22
  go_wp2_with fail
  refine HO.out.mono ?_
  rintro e w1 ⟨v1, rfl, o1, b1⟩
  obtain ⟨a, cap, rfl, hm, HC⟩ := o1.rd.ints HN.out
  unfold maxLen at hm
  clear HO o1
  go_wp2
  go_loop [3, 5] (fun x i => ∃ k : Nat, k ≤ n ∧ i = .int .i64 k ∧ x = .int .i64 (g k)) (fun _ i => n - (intOf i).toNat)
  case atStart => exact ⟨0, Nat.zero_le _, rfl, by rw [HG0.out]⟩
  case round =>
    obtain ⟨k, hk, rfl, rfl⟩ := hrel
    by_cases hlt : k < n
    · obtain ⟨b, off, rfl, p0⟩ := HC.out k hlt
      have HSK := Lib.hid (HS.out k hlt)
      generalize o.getD k 0 = y at p0 HSK
      have HM := Lib.hid (fun W => sMost (g k) y W)
      rw [← HSK.out] at HM
      go_wp2_with (go_at_call 55; refine (HM.out _).mono ?_; rintro e w' ⟨rfl, rfl⟩)
      go_round
      case rel => exact ⟨k + 1, by omega, by go_num, rfl⟩
      case measure => simp [intOf]; omega
    · obtain rfl : k = n := by omega
      go_wp2
      go_ret
      exact ⟨ret_int HE.out, b1⟩

set_option maxHeartbeats 2000000 in
theorem sEncFrame (u : Value) (l : List V) (w : World) (hss : ∀ v ∈ l, v.s.size ≤ maxLen) (h : Rd 3 w u l.length (vals l)) :
    Calls Try.prog 16 #[u] w fun e w' => ∃ v', e = .returned v' ∧ Own 5 1 w.heap.size w'.heap.size w' v' (encF l).length (ints .u8 (encF l)) ∧ Below w.heap.size w w' := by
  have HE : Hid (encF l = if typeV l = 1 then (Num.put [] (baseL l) ++ [(Bit.widthFor (offL l) : Int)]) ++ Bit.pack (offL l) (Bit.widthFor (offL l)) else []) := rfl
  have HT := Lib.hid (sTypeOf u l w hss h)
  have HB := Lib.hid (fun W (hW : Below w.heap.size w W) => sBase u l W (h.below hW))
  have HO := Lib.hid (fun W (hW : Below w.heap.size w W) => sOffsets u l W hss (h.below hW))
  have hol := (off_len l).2
  generalize typeV l = ty at HE HT
  generalize baseL l = bs at HE HB
  generalize offL l = o at HE HO hol
  generalize encF l = R at HE
  clear hss h
  go_enter Try.func16, Try.ntmps16
  go_wp2_with fail
  refine HT.out.mono ?_
  rintro e w1 ⟨rfl, b1⟩
  clear HT
  by_cases ht : ty = 1
  · subst ht
    rw [if_pos rfl] at HE
    go_wp2_with fail
    refine (HO.out w1 b1).mono ?_
    rintro e w2 ⟨v2, rfl, o2, hb2⟩
    have b2 := below_then b1 hb2 b1.size
    have HW := Lib.hid (sWidthFor v2 o.length o w2 rfl (.inr o2.at))
    have hw31 := Bit.widthFor_le31 o
    have hpn := Bit.pack_le o (Bit.widthFor o)
    generalize Bit.widthFor o = wd at HE HW hw31 hpn
    have z2 := hb2.size
    clear HO hb2
    go_wp2_with fail
    refine HW.out.mono ?_
    rintro e w' ⟨rfl, rfl⟩
    clear HW
    have O3 := own_lit (e := 5) (size := 1) w2 #[] 0 (Nat.zero_le _) rfl
    have hb3 := below_alloc w2 (.cells #[] 5)
    have b3 := below_then b2 hb3 b2.size
    have HN := Lib.hid (sPutNum _ 0 [] bs _ (by omega) rfl O3.at)
    have hpl := (Num.put_len [] bs).2
    simp only [List.length_nil] at hpl
    generalize Num.put [] bs = pb at HN HE hpl
    generalize hpbn : pb.length = pbn at HN hpl
    have o3 := o2.below hb3 (Nat.le_refl _)
    clear O3
    go_wp2_with (first | (go_at_call 20; refine (HB.out _ b3).mono ?_; rintro e w' ⟨rfl, rfl⟩) | fail)
    refine HN.out.mono ?_
    rintro e w4 ⟨v4, rfl, o4, hb4⟩
    have b4 := below_then b3 hb4 b3.size
    have own4 := o4.lower (lo' := w2.heap.size) (by simp)
    have op4 := o3.below hb4 (by simp)
    have hz2 : Hid (w.heap.size ≤ w2.heap.size) := b2.size
    have hwdi : (wd : Int) ≤ 31 := by omega
    have HES : Hid (ints .u8 pb ++ .int .u8 (wd : Int) :: ints .u8 (Bit.pack o wd) = ints .u8 R ∧ pbn + 1 + (Bit.pack o wd).length = R.length) := by
      rw [HE.out, ← hpbn]
      refine ⟨?_, by simp only [List.length_append, List.length_cons, List.length_nil]⟩
      rw [ints_append, ints_append, List.append_assoc]
      rfl
    have HPK := Lib.hid (fun W hW => sPackBits v2 o.length o (wd : Int) W (by omega) rfl (.inr hW))
    generalize Bit.pack o (wd : Int) = pk at HPK HES hpn
    generalize pk.length = pn at HPK HES hpn
    generalize o.length = on at *
    obtain ⟨g2, c2, rfl⟩ : ∃ g c, v2 = .slice (some ⟨g, 0, none⟩) on c := by
      obtain ⟨g, c, e, _⟩ := o2
      exact ⟨g, c, e⟩
    clear o2 o3 o4 hb3 hb4 HN HB hpbn HE b1 b2 b3 z2
    go_wp2_with (first | (at_builtin; refine append1_law Try.elemBytes rfl _ _ rfl _ _ _ _ _ (.int .u8 (wd : Int)) rfl rfl own4 rfl (by unfold maxLen; omega) (by omega) ?_) | fail)
    intro v5 w5 o5 e5
    have hb5 := e5.below own4
    have b5 := b4.trans (hb5.mono hz2.out)
    have HPK5 := Lib.hid (HPK.out w5 (op4.below hb5 (Nat.le_refl _)).at)
    clear hb5 e5 own4 op4 b4 HPK
    go_wp2_with fail
    refine HPK5.out.mono ?_
    rintro e w6 ⟨v6, rfl, o6, hb6⟩
    have b6 := below_then b5 hb6 b5.size
    have own6 := (o5.below hb6 (Nat.le_refl _)).wide hb6.size
    obtain ⟨g6, off6, cp6, rfl, hn6, hc6, hl6, hcs6⟩ := o6.at
    have HL6 := Lib.hid hl6
    have HC6 := Lib.hid hcs6
    clear hl6 hcs6 o6 hb6 o5 HPK5 b5
    go_wp2_with (at_builtin; refine append_law Try.elemBytes rfl _ _ rfl _ _ _ _ _ rfl own6 g6 off6 pn cp6 (ints .u8 pk) rfl HL6.out HC6.out (ints_one _ _) (by unfold maxLen; omega) (by omega) ?_)
    intro v7 w7 o7 e7
    have b7 := b6.trans ((e7.below own6).mono hz2.out)
    rw [HES.out.1, HES.out.2] at o7
    have O7 := Lib.hid (o7.lower hz2.out)
    clear o7 e7 own6
    go_wp2
    go_ret
    exact ⟨_, rfl, O7.out, b7⟩
  · have htb : (ty != 1) = true := by simpa using ht
    rw [if_neg ht] at HE
    have O1 := own_lit (e := 5) (size := 1) w1 #[] 0 (Nat.zero_le _) rfl
    have B1 := b1.alloc b1.size (.cells #[] 5)
    have z1 := b1.size
    go_wp2
    go_ret
    rw [HE.out]
    exact ⟨_, rfl, O1.lower z1, B1⟩

end Go.Proofs.Ythdcggohibaipaa

/- The contract of the model's Raised. -/
namespace Go.Proofs.Ythdcggohibaipaa
open Go.RowKit

theorem upB_in {base x : Int} (h : upB base x = true) : (0 ≤ x ∧ x ≤ 2000000000) ∧ base + x ≤ 1000000000 := by
  have := of_decide_eq_true h
  omega
theorem raised_bad {base : Int} (l : List Int) (h : Num.okB base = false) : raisedL base l = ([], false) := if_neg (fun e => by rw [h] at e; cases e.1)
theorem raised_no {base : Int} {l : List Int} {k : Nat} (hk : k < l.length) (h : upB base (l.getD k 0) = false) : raisedL base l = ([], false) := if_neg (fun e => by
  have h2 := List.all_eq_true.1 e.2 (l[k]) (List.getElem_mem hk)
  rw [getDe l 0 hk, h2] at h
  cases h)
theorem raised_yes {base : Int} {l : List Int} (hb : Num.okB base = true) (h : ∀ k, k < l.length → upB base (l.getD k 0) = true) : raisedL base l = (l.map (upV base), true) := if_pos ⟨hb, List.all_eq_true.2 (fun x hx => by
  obtain ⟨k, hk, rfl⟩ := List.getElem_of_mem hx
  have := h k hk
  rw [getDe l 0 hk] at this
  exact this)⟩
/-- The first k values. -/
def upK (base : Int) (l : List Int) (k : Nat) : List V := (l.take k).map (upV base)
theorem upK_step {base : Int} {l : List Int} {k : Nat} (h : k < l.length) : vals (upK base l (k + 1)) = vals (upK base l k) ++ V.cs ⟨1, base + l.getD k 0, ⟨#[]⟩⟩ := by
  unfold upK
  rw [List.take_succ_eq_append_getElem h, List.map_append, getDe l 0 h]
  simp [vals, upV]

set_option maxHeartbeats 1000000 in
theorem sRaised (v : Value) (base : Int) (l : List Int) (w : World) (hn : l.length ≤ 1048576) (h : Rd 1 w v l.length (ints .i64 l)) :
    Calls Try.prog 31 #[.int .i64 base, v] w fun e w' => RDs w w' e (raisedL base l) := by
  have hown0 := own_lit (e := 61) (size := 3) w #[] 0 (Nat.zero_le _) rfl
  have hb0 := below_alloc w (.cells #[] 61)
  have HRT := Lib.hid (fun W => l1Right base W)
  have HIN := Lib.hid (fun x W => l1In x 0 2000000000 W)
  cases hok : Num.okB base with
  | false =>
    have HR := Lib.hid (raised_bad l hok)
    rw [hok] at HRT
    generalize raisedL base l = R at HR
    generalize hl : l.length = n at h hn
    obtain ⟨a, cap, rfl, hm, HC⟩ := h.ints hl
    unfold maxLen at hm
    clear h hl hok
    by_cases h0 : 0 < n
    · obtain ⟨b, off, rfl, p0⟩ := HC.out 0 h0
      have OL := own_lit (e := 61) (size := 3) (w.alloc (.cells #[] 61)) #[] 0 (Nat.zero_le _) rfl
      have BL := hb0.alloc hb0.size (.cells #[] 61)
      have hzz := hb0.size
      replace OL := OL.lower hzz
      rw [show (w.alloc (.cells #[] 61)).heap.size = w.heap.size + 1 by simp] at OL
      clear p0
      go_enter Try.func31, Try.ntmps31
      go_wp2
      refine wp_loop_rounds 1 ?_
      rw [rounds_succ]
      go_wp2_with (go_at_call 70; refine (HRT.out _).mono ?_; rintro e w' ⟨rfl, rfl⟩)
      go_ret2
      rw [HR.out]
      exact ⟨_, rfl, OL, BL⟩
    · obtain rfl : n = 0 := by omega
      go_enter Try.func31, Try.ntmps31
      go_wp2
      refine wp_loop_rounds 1 ?_
      rw [rounds_succ]
      go_wp2_with (go_at_call 70; refine (HRT.out _).mono ?_; rintro e w' ⟨rfl, rfl⟩)
      go_ret2
      rw [HR.out]
      exact ⟨_, rfl, hown0, hb0⟩
  | true =>
    obtain ⟨b0, b1⟩ : -1000000000 ≤ base ∧ base ≤ 1000000000 := Num.okB_true.1 hok
    have HNO : Hid (∀ k, k < l.length → upB base (l.getD k 0) = false → raisedL base l = ([], false)) := fun k hk h1 => raised_no hk h1
    have HYES : Hid ((∀ k, k < l.length → upB base (l.getD k 0) = true) → raisedL base l = (l.map (upV base), true)) := fun h1 => raised_yes hok h1
    have HS : Hid (∀ k, k < l.length → vals (upK base l (k + 1)) = vals (upK base l k) ++ V.cs ⟨1, base + l.getD k 0, ⟨#[]⟩⟩) := fun k hk => upK_step hk
    rw [hok] at HRT
    generalize raisedL base l = R at HNO HYES
    generalize hl : l.length = n at h hn HNO HYES HS
    obtain ⟨a, cap, rfl, hm, HC⟩ := h.ints hl
    unfold maxLen at hm
    have HL := Lib.hid hl
    clear h hl hok
    go_enter Try.func31, Try.ntmps31
    go_wp2
    go_loopw [6, 7] (fun o i wr => ∃ k : Nat, k ≤ n ∧ i = .int .i64 k ∧ (∀ j, j < k → upB base (l.getD j 0) = true) ∧ Own 61 3 w.heap.size wr.heap.size wr o k (vals (upK base l k)) ∧ Below w.heap.size w wr) (fun _ i _ => n - (intOf i).toNat)
    case atStart => exact ⟨0, Nat.zero_le _, rfl, fun j hj => by omega, hown0, hb0⟩
    case round =>
      obtain ⟨k, hk, rfl, hno, hown, hbr⟩ := hrel
      have HK := Lib.hid hno
      clear hno
      by_cases hlt : k < n
      · obtain ⟨b, off, rfl, p0⟩ := HC.out k hlt
        replace p0 := (hbr.cell (p := ⟨b, off + k, none⟩) (lt_of_cell p0)).trans p0
        have HSK := Lib.hid (HS.out k hlt)
        have HNK := Lib.hid (HNO.out k hlt)
        have HKK : Hid (upB base (l.getD k 0) = true → ∀ j, j < k + 1 → upB base (l.getD j 0) = true) := fun h1 j hj => by
          by_cases e : j = k
          · subst e; exact h1
          · exact HK.out j (by omega)
        have HX := Lib.hid (HIN.out (l.getD k 0))
        generalize l.getD k 0 = z at p0 HX HSK HNK HKK
        have OL := own_lit (e := 61) (size := 3) wr #[] 0 (Nat.zero_le _) rfl
        have BL := hbr.alloc hbr.size (.cells #[] 61)
        have hzz := hbr.size
        cases hz : Num.inB z 0 2000000000 with
        | false =>
          have HR : Hid (R = ([], false)) := HNK.out (decide_eq_false fun e => by
            rw [Num.inB_true.2 ⟨e.1, e.2.1⟩] at hz
            cases hz)
          rw [hz] at HX
          clear hown hz
          go_wp2_with (first | (go_at_call 70; refine (HRT.out _).mono ?_; rintro e w' ⟨rfl, rfl⟩) | (go_at_call 65; refine (HX.out _).mono ?_; rintro e w' ⟨rfl, rfl⟩))
          go_ret2
          rw [HR.out]
          exact ⟨_, rfl, OL.lower hzz, BL⟩
        | true =>
          obtain ⟨z0, z1⟩ := Num.inB_true.1 hz
          rw [hz] at HX
          by_cases hsum : base + z ≤ 1000000000
          · have HK2 := Lib.hid (HKK.out (decide_eq_true ⟨z0, z1, hsum⟩))
            have hng : ¬ (1000000000 < base + z) := by omega
            clear hz OL BL
            go_wp2_with (first | (go_at_call 70; refine (HRT.out _).mono ?_; rintro e w' ⟨rfl, rfl⟩) | (go_at_call 65; refine (HX.out _).mono ?_; rintro e w' ⟨rfl, rfl⟩) | (at_builtin; refine appendV_law Try.elemVals rfl _ _ rfl _ _ _ _ _ ⟨1, base + z, ⟨#[]⟩⟩ rfl hown rfl (by unfold maxLen; omega) (by omega) ?_))
            intro v4 w4 o4 e4
            have b4 := hbr.trans (e4.below hown)
            rw [← HSK.out] at o4
            have O4 := Lib.hid o4
            clear o4 e4 hown p0
            go_wp2
            go_roundw
            case rel => exact ⟨k + 1, by omega, by go_num, HK2.out, O4.out, b4⟩
            case measure => simp [intOf]; omega
          · have HR : Hid (R = ([], false)) := HNK.out (decide_eq_false fun e => hsum e.2.2)
            have hgt : 1000000000 < base + z := by omega
            clear hown hz
            go_wp2_with (first | (go_at_call 70; refine (HRT.out _).mono ?_; rintro e w' ⟨rfl, rfl⟩) | (go_at_call 65; refine (HX.out _).mono ?_; rintro e w' ⟨rfl, rfl⟩))
            go_ret2
            rw [HR.out]
            exact ⟨_, rfl, OL.lower hzz, BL⟩
      · obtain rfl : k = n := by omega
        have HR := Lib.hid (HYES.out HK.out)
        have OO := Lib.hid hown
        clear hown
        go_wp2_with (go_at_call 70; refine (HRT.out _).mono ?_; rintro e w' ⟨rfl, rfl⟩)
        go_ret2
        rw [HR.out]
        exact ⟨_, rfl, by have := OO.out; unfold upK at this; rw [← HL.out, List.take_length] at this; rw [List.length_map]; exact this, hbr⟩

end Go.Proofs.Ythdcggohibaipaa

/- Where a number that was read ends; a slice's tail b[at:]. -/
namespace Go.Proofs.Ythdcggohibaipaa
open Go.RowKit

theorem get_bound {zs : List Int} (hb : Num.Bytes zs) {i : Int} (h : (Num.get zs i).2.2 = true) : 0 ≤ (Num.get zs i).2.1 ∧ (Num.get zs i).2.1 ≤ zs.length := by
  unfold Num.get at h ⊢
  split
  · rename_i hi
    rw [if_pos hi] at h
    split
    · rename_i u k hr
      have hbd : Num.Bytes (zs.drop i.toNat) := fun x hx => hb x (List.mem_of_mem_drop hx)
      have := Num.rd_bd hr hbd (by omega)
      have hl : (zs.drop i.toNat).length = zs.length - i.toNat := List.length_drop
      split
      · simp only
        omega
      · rename_i hu
        rw [hr] at h
        simp only [if_neg hu] at h
        cases h
    · rename_i hr
      rw [hr] at h
      cases h
  · rename_i hi
    rw [if_neg hi] at h
    cases h
theorem At.from {w : World} {b off n cap A tl : Nat} {zs : List Int} (hz : zs.length = n) (h : At 1 w (.slice (some ⟨b, off, none⟩) n cap) n (ints .u8 zs)) (hA : A ≤ n) (ht : A < cap → tl = off + A) : At 1 w (.slice (some ⟨b, tl, none⟩) (n - A) (cap - A)) (n - A) (ints .u8 (zs.drop A)) := by
  obtain ⟨b', off', cap', e, h1, h2, h3, h4⟩ := h
  simp only [Value.slice.injEq, Option.some.injEq, Addr.mk.injEq, and_true, true_and] at e
  obtain ⟨⟨rfl, rfl⟩, rfl⟩ := e
  refine ⟨_, _, _, rfl, by omega, by omega, ?_, fun j u hu => ?_⟩
  · rw [ints_len, List.length_drop, hz, Nat.mul_one]
  · have hlt := (List.getElem?_eq_some_iff.1 hu).1
    rw [ints_len, List.length_drop] at hlt
    have e2 : ints .u8 (zs.drop A) = (ints .u8 zs).drop A := by unfold ints; rw [List.map_drop]
    rw [e2, List.getElem?_drop] at hu
    have := h4 (A + j) u hu
    rw [ht (by omega), Nat.add_assoc]
    exact this
theorem tail_at (cap A b off : Nat) : ∃ tl, (if cap = A then some (⟨b, off, none⟩ : Addr) else some ⟨b, off + A, none⟩) = some ⟨b, tl, none⟩ ∧ Hid (A < cap → tl = off + A) := by
  by_cases e : cap = A
  · exact ⟨off, by rw [if_pos e], fun h => by omega⟩
  · exact ⟨off + A, by rw [if_neg e], fun _ => rfl⟩

end Go.Proofs.Ythdcggohibaipaa

/- The contract of the model's DecFrame. -/
namespace Go.Proofs.Ythdcggohibaipaa
open Go.RowKit

set_option maxRecDepth 100000 in
set_option maxHeartbeats 4000000 in
theorem sDecFrame (u : Value) (n : Nat) (zs : List Int) (k : Int) (w : World) (hn : n ≤ 1073741824) (hz : zs.length = n) (hby : Num.Bytes zs) (h : At 1 w u n (ints .u8 zs)) :
    Calls Try.prog 29 #[u, .int .i64 k] w fun e w' => RDs w w' e (decF zs k) := by
  obtain ⟨W1, hW1⟩ : ∃ W1, w.alloc (.cells #[] 61) = W1 := ⟨_, rfl⟩
  have hN : Own 61 3 w.heap.size W1.heap.size W1 (.slice (some ⟨w.heap.size, 0, none⟩) 0 0) 0 [] := by
    rw [← hW1]
    exact own_lit (e := 61) (size := 3) w #[] 0 (Nat.zero_le _) rfl
  have hb0 : Below w.heap.size w W1 := by rw [← hW1]; exact below_alloc w _
  have hat1 := h.below hb0
  have HG0 := Lib.hid (sGetNum u n zs 0 W1 (by omega) hz hby hat1)
  have HIK := Lib.hid (fun W => l1In k 1 64 W)
  have HBD := Lib.hid (get_bound hby (i := 0))
  have HEX : Hid (decF zs k = if (Num.get zs 0).2.2 = true ∧ (Num.get zs 0).2.1 < zs.length ∧ Num.inB k 1 64 = true then decG zs (Num.get zs 0).1 (Bit.unpack (zs.drop ((Num.get zs 0).2.1.toNat + 1)) (zs.getD (Num.get zs 0).2.1.toNat 0) k) else ([], false)) := rfl
  have HFIN : Hid (∀ e w', RDs w w' e ([], false) → decF zs k = ([], false) → RDs w w' e (decF zs k)) := fun e w' h1 h2 => by rw [h2]; exact h1
  obtain ⟨b, off, cap, rfl, hcn, hcm, hlen, hcells⟩ := id h
  generalize Num.get zs 0 = g0 at HG0 HEX HBD
  obtain ⟨x0, nx0, ok0⟩ := g0
  unfold getRes at HG0
  simp only at HG0 HEX HBD
  rw [hz] at HEX HBD
  have HNO : Hid (∀ W, Below W1.heap.size W1 W → RDs w W (.returned (.tuple #[.slice (some ⟨w.heap.size, 0, none⟩) 0 0, .bool false])) ([], false)) := fun W hW => ⟨_, rfl, (hN.below hW (Nat.le_refl _)).wide hW.size, below_then hb0 hW hb0.size⟩
  generalize hres : decF zs k = res at HEX HFIN ⊢
  clear hres
  by_cases hc : ok0 = true ∧ nx0 < (n : Int) ∧ Num.inB k 1 64 = true
  · obtain ⟨rfl, hx, hk⟩ := hc
    rw [if_pos ⟨rfl, hx, hk⟩] at HEX
    rw [hk] at HIK
    obtain ⟨q0, _⟩ := HBD.out rfl
    obtain ⟨A, rfl⟩ := Int.eq_ofNat_of_zero_le q0
    rw [Int.toNat_natCast] at HEX
    have hAn : A + 1 ≤ n := by omega
    have hcn' : n ≤ cap := hcn
    obtain ⟨tl, htl, HTL⟩ := tail_at cap (A + 1) b off
    have hcell : w.cell? ⟨b, off + A, none⟩ = some (.int .u8 (zs.getD A 0)) := At.cell hcells hz (by omega)
    have hzb : 0 ≤ zs.getD A 0 ∧ zs.getD A 0 ≤ 255 := by
      have hA : A < zs.length := by omega
      rw [getDe zs 0 hA]
      have := hby _ (List.getElem_mem hA)
      omega
    have HUN := Lib.hid (fun W (hW : Below W1.heap.size W1 W) => sUnpackBits _ (n - (A + 1)) (zs.drop (A + 1)) (zs.getD A 0) k W (by omega) (by rw [List.length_drop, hz]) (fun x hx => hby x (List.mem_of_mem_drop hx)) (.inr (At.from hz (hat1.below hW) hAn HTL.out)))
    have HCL : Hid (∀ W, Below W1.heap.size W1 W → W.cell? ⟨b, off + A, none⟩ = some (.int .u8 (zs.getD A 0))) := fun W hW => by
      have hbw := hb0.trans (hW.mono hb0.size)
      exact (hbw.cell (p := ⟨b, off + A, none⟩) (lt_of_cell hcell)).trans hcell
    have hun64 := Bit.unpack_le (zs.drop (A + 1)) (zs.getD A 0) k
    generalize Bit.unpack (zs.drop (A + 1)) (zs.getD A 0) k = up at HUN HEX hun64
    obtain ⟨p, may⟩ := up
    unfold decG at HEX
    unfold Unpacked at HUN
    simp only at HEX hun64 HUN
    obtain ⟨z0, z1⟩ := hzb
    generalize zs.getD A 0 = z at HUN HCL z0 z1
    have HHA := Lib.hid hat1
    have HHZ := Lib.hid hz
    have HHB := Lib.hid hby
    have hj : ((A : Int) + 1).toNat = A + 1 := by omega
    have hA0 : 0 ≤ (A : Int) + 1 := by omega
    have hAn2 : A < n := by omega
    have hnA : ((n : Int) < (A : Int) + 1) = False := eq_false (by omega)
    have hwz : IntKind.i64.wrap z = z := IntWalk.i64_in _ (by omega)
    have hwA : IntKind.i64.wrap ((A : Int) + 1) = (A : Int) + 1 := IntWalk.i64_in _ (by omega)
    clear hcell hat1 h hcells hlen hz hby hk q0 hcn hcm HBD hN
    have hB' := (Below.refl W1.heap.size W1).drew
    have hge : ¬ ((n : Int) ≤ (A : Int)) := by omega
    go_enter Try.func29, Try.ntmps29
    go_wp2_with (first | (go_at_call 64; refine HG0.out.mono ?_; rintro e w' ⟨rfl, rfl⟩) | (go_at_call 65; refine (HIK.out _).mono ?_; clear HIK; rintro e w' ⟨rfl, rfl⟩))
    refine wp_region_held_drew (S := fun W => W.cell? ⟨b, off + A, none⟩ = some (.int .u8 z)) (by kernel_rfl) (HCL.out _ hB') (fun hH => ?_)
    refine takeH (i := 0) (d := some 36) (v := .slice (some ⟨b, off, none⟩) n cap) rfl rfl (by kernel_rfl) (by kernel_rfl) (by kernel_rfl) (fun _ _ _ h => h) (Or.inl ⟨by rfl, fun W hSw => by go_simp⟩) hH ?_
    try simp only [put_some, List.set_cons_zero, List.set_cons_succ]
    refine takeH (i := 1) (d := some 37) (v := .int .i64 (A : Int)) rfl rfl (by kernel_rfl) (by kernel_rfl) (by kernel_rfl) (fun _ _ _ h => h) (Or.inl ⟨by rfl, fun W hSw => by go_simp⟩) hH ?_
    try simp only [put_some, List.set_cons_zero, List.set_cons_succ]
    refine takeH (i := 2) (d := some 38) (v := .int .i64 ((A : Int) + 1)) rfl rfl (by kernel_rfl) (by kernel_rfl) (by kernel_rfl) (fun _ _ _ h => h) (Or.inl ⟨by rfl, fun W hSw => by go_simp⟩) hH ?_
    try simp only [put_some, List.set_cons_zero, List.set_cons_succ]
    refine takeH (i := 3) (d := some 39) (v := .slice (some ⟨b, tl, none⟩) (n - (A + 1)) (cap - (A + 1))) rfl rfl (by kernel_rfl) (by kernel_rfl) (by kernel_rfl) (fun _ _ _ h => h) (Or.inl ⟨by rfl, fun W hSw => by go_simp⟩) hH ?_
    try simp only [put_some, List.set_cons_zero, List.set_cons_succ]
    refine takeH (i := 4) (d := some 40) (v := .slice (some ⟨b, off, none⟩) n cap) rfl rfl (by kernel_rfl) (by kernel_rfl) (by kernel_rfl) (fun _ _ _ h => h) (Or.inl ⟨by rfl, fun W hSw => by go_simp⟩) hH ?_
    try simp only [put_some, List.set_cons_zero, List.set_cons_succ]
    refine takeH (i := 5) (d := some 41) (v := .int .i64 (A : Int)) rfl rfl (by kernel_rfl) (by kernel_rfl) (by kernel_rfl) (fun _ _ _ h => h) (Or.inl ⟨by rfl, fun W hSw => by go_simp⟩) hH ?_
    try simp only [put_some, List.set_cons_zero, List.set_cons_succ]
    refine takeH (i := 6) (d := some 42) (v := .pointer (some ⟨b, off + A, none⟩)) rfl rfl (by kernel_rfl) (by kernel_rfl) (by kernel_rfl) (fun _ _ _ h => h) (Or.inl ⟨by rfl, fun W hSw => by go_simp⟩) hH ?_
    try simp only [put_some, List.set_cons_zero, List.set_cons_succ]
    refine takeH (i := 7) (d := some 43) (v := .int .u8 z) rfl rfl (by kernel_rfl) (by kernel_rfl) (by kernel_rfl) (fun _ _ _ h => h) (Or.inl ⟨by rfl, fun W hSw => by go_simp⟩) hH ?_
    try simp only [put_some, List.set_cons_zero, List.set_cons_succ]
    refine takeH (i := 8) (d := some 44) (v := .int .i64 z) rfl rfl (by kernel_rfl) (by kernel_rfl) (by kernel_rfl) (fun _ _ _ h => h) (Or.inl ⟨by rfl, fun W hSw => by go_simp⟩) hH ?_
    try simp only [put_some, List.set_cons_zero, List.set_cons_succ]
    refine takeH (i := 9) (d := some 45) (v := .int .i64 k) rfl rfl (by kernel_rfl) (by kernel_rfl) (by kernel_rfl) (fun _ _ _ h => h) (Or.inl ⟨by rfl, fun W hSw => by go_simp⟩) hH ?_
    try simp only [put_some, List.set_cons_zero, List.set_cons_succ]
    refine wpAnyH_ready (rs := [10]) (by kernel_rfl) (by simp) ?_
    refine AllReadyH.cons rfl (fun K hK => ?_) AllReadyH.nil
    go_simp
    go_at_call 66
    refine (HUN.out _ hB').mono ?_
    rintro e w2 ⟨v2, rfl, o2, hb2⟩
    have b2 := below_then hB' hb2 hB'.size
    clear hb2 hB' htl hwA hj hnA hwz
    go_wp2_with fail
    refine hK.out _ _ (HCL.out _ b2) (fun hH => ?_)
    clear hK K
    refine takeH (i := 11) (d := some 35) (v := .tuple #[v2, .bool may]) rfl rfl (by kernel_rfl) (by kernel_rfl) (by kernel_rfl) (fun _ _ _ h => h) (Or.inl ⟨by rfl, fun W hSw => by go_simp⟩) hH ?_
    try simp only [put_some, List.set_cons_zero, List.set_cons_succ]
    refine takeH (i := 12) (d := some 47) (v := v2) rfl rfl (by kernel_rfl) (by kernel_rfl) (by kernel_rfl) (fun _ _ _ h => h) (Or.inl ⟨by rfl, fun W hSw => by go_simp⟩) hH ?_
    try simp only [put_some, List.set_cons_zero, List.set_cons_succ]
    refine takeH (i := 13) (d := some 48) (v := .bool may) rfl rfl (by kernel_rfl) (by kernel_rfl) (by kernel_rfl) (fun _ _ _ h => h) (Or.inl ⟨by rfl, fun W hSw => by go_simp⟩) hH ?_
    try simp only [put_some, List.set_cons_zero, List.set_cons_succ]
    refine takeH (i := 14) (d := some 10) (v := v2) rfl rfl (by kernel_rfl) (by kernel_rfl) (by kernel_rfl) (fun _ _ _ h => h) (Or.inl ⟨by rfl, fun W hSw => by go_simp⟩) hH ?_
    try simp only [put_some, List.set_cons_zero, List.set_cons_succ]
    refine takeH (i := 15) (d := some 11) (v := .bool may) rfl rfl (by kernel_rfl) (by kernel_rfl) (by kernel_rfl) (fun _ _ _ h => h) (Or.inl ⟨by rfl, fun W hSw => by go_simp⟩) hH ?_
    try simp only [put_some, List.set_cons_zero, List.set_cons_succ]
    refine wpAnyH_done (by kernel_rfl) ?_ _
    have HPK := Lib.hid (sRaised v2 x0 p w2 (by omega) o2.rd)
    have HLS := Lib.hid (raised_sizes x0 p)
    have hl64 := Nat.le_trans (raised_len x0 p) hun64
    generalize raisedL x0 p = pc at HPK HLS hl64 HEX
    obtain ⟨l, can⟩ := pc
    unfold RDs at HPK
    simp only at HPK HLS hl64 HEX
    have hzr := Nat.le_trans hb0.size b2.size
    clear o2
    go_wp2_with fail
    refine HPK.out.mono ?_
    rintro e w3 ⟨v3, rfl, o3, hb3⟩
    have b3 := below_then b2 hb3 b2.size
    have HOL := Lib.hid (o3.lower hzr)
    have HEN := Lib.hid (sEncFrame v3 l w3 HLS.out o3.rd)
    clear hb3 HPK o3
    by_cases hmc : may = true ∧ can = true
    · obtain ⟨rfl, rfl⟩ := hmc
      go_wp2_with fail
      refine HEN.out.mono ?_
      rintro e w4 ⟨v4, rfl, o4, hb4⟩
      have b4 := below_then b3 hb4 b3.size
      have OL4 := Lib.hid ((HOL.out.below hb4 (Nat.le_refl _)).wide hb4.size)
      have HSM := Lib.hid (l5Same v4 _ (encF l).length n (encF l) zs w4 rfl HHZ.out (encF_bytes l) HHB.out o4.at (HHA.out.below b4))
      clear HEN hb4 HOL o4
      by_cases hen : encF l = zs
      · rw [decide_eq_true hen] at HSM
        have HF : Hid (res = (l, true)) := by
          show _ = _
          rw [HEX.out]
          exact if_pos (by first | exact ⟨trivial, trivial, hen⟩ | exact ⟨rfl, rfl, hen⟩)
        go_wp2_with (go_at_call 67; refine HSM.out.mono ?_; rintro e w' ⟨rfl, rfl⟩)
        go_ret2
        rw [HF.out]
        exact ⟨_, rfl, OL4.out, below_then hb0 b4 hb0.size⟩
      · rw [decide_eq_false hen] at HSM
        have HF : Hid (res = ([], false)) := by
          show _ = _
          rw [HEX.out]
          exact if_neg (fun h => hen h.2.2)
        have HR := Lib.hid (HNO.out _ b4)
        go_wp2_with (go_at_call 67; refine HSM.out.mono ?_; rintro e w' ⟨rfl, rfl⟩)
        go_ret2
        exact HFIN.out _ _ HR.out HF.out
    · have HF : Hid (res = ([], false)) := by
        show _ = _
        rw [HEX.out]
        exact if_neg (fun h => hmc ⟨h.1, h.2.1⟩)
      have HR := Lib.hid (HNO.out _ b3)
      clear HEN HOL
      cases may with
      | false =>
        go_wp2
        go_ret2
        exact HFIN.out _ _ HR.out HF.out
      | true =>
        cases can with
        | true => exact absurd ⟨rfl, rfl⟩ hmc
        | false =>
          go_wp2
          go_ret2
          exact HFIN.out _ _ HR.out HF.out
  · have HF : Hid (res = ([], false)) := by
      show _ = _
      rw [HEX.out]
      exact if_neg hc
    have HR := Lib.hid (HNO.out _ (Below.refl _ _))
    have HRW : Hid (w.alloc (.cells #[] 61) = W1) := hW1
    clear hat1 hN hb0 hz hby h hcells hlen
    cases ok0 with
    | false =>
      go_enter Try.func29, Try.ntmps29
      go_wp2_with (first | (go_at_call 64; refine HG0.out.mono ?_; rintro e w' ⟨rfl, rfl⟩))
      go_ret2
      exact HFIN.out _ _ HR.out HF.out
    | true =>
      by_cases hx : nx0 < (n : Int)
      · cases hk : Num.inB k 1 64 with
        | true => exact absurd ⟨rfl, hx, hk⟩ hc
        | false =>
          have hge : ¬ ((n : Int) ≤ nx0) := by omega
          rw [hk] at HIK
          clear hk hc
          go_enter Try.func29, Try.ntmps29
          go_wp2_with (first | (go_at_call 64; refine HG0.out.mono ?_; rintro e w' ⟨rfl, rfl⟩) | (go_at_call 65; refine (HIK.out _).mono ?_; clear HIK; rintro e w' ⟨rfl, rfl⟩))
          go_ret2
          exact HFIN.out _ _ HR.out HF.out
      · have hge : (n : Int) ≤ nx0 := by omega
        clear hc
        go_enter Try.func29, Try.ntmps29
        go_wp2_with (first | (go_at_call 64; refine HG0.out.mono ?_; rintro e w' ⟨rfl, rfl⟩))
        go_ret2
        exact HFIN.out _ _ HR.out HF.out

end Go.Proofs.Ythdcggohibaipaa

/- The exact laws of PutVal, GetVal, EncPlain and DecPlain, walked; the program's own contracts come as hypotheses. -/
namespace Go.Proofs.Ythdcggohibaipaa
open Go.RowKit

theorem encP_len (l : List V) : (encP l).length ≤ 7 * l.length := by
  unfold encP
  split
  · simp
  · exact encAll_len l
theorem decL_len {zs : List Int} {ty : Int} : ∀ {k : Nat} {i : Int} {r : List V × Int}, decL zs ty k i = some r → r.1.length = k := by
  intro k
  induction k with
  | zero =>
    intro i r h
    simp only [decL, Option.some.injEq] at h
    subst h
    rfl
  | succ k ih =>
    intro i r h
    rw [decL] at h
    split at h
    · obtain ⟨q, hq, rfl⟩ := Option.map_eq_some_iff.1 h
      simp [ih hq]
    · cases h
theorem decP_len (zs : List Int) (ty k : Int) : (decP zs ty k).1.length ≤ 64 := by
  unfold decP
  split
  · rename_i h
    have := Num.inB_true.1 h
    split
    · rename_i r hr
      have hl := decL_len hr
      split
      · simp only
        omega
      · simp
    · simp
  · simp

theorem Held.under {W W' : World} {b B : Nat} {v : V} (h : Held W b v) (hb : Below B W W') (hlt : b < B) : Held W' b v :=
  ⟨⟨(hb.cell (p := ⟨b, 0, none⟩) hlt).trans h.1.1, (hb.cell (p := ⟨b, 1, none⟩) hlt).trans h.1.2.1, (hb.cell (p := ⟨b, 2, none⟩) hlt).trans h.1.2.2⟩,
    (hb.frozen (p := ⟨b, 0, none⟩) hlt).trans h.2.1, (hb.frozen (p := ⟨b, 1, none⟩) hlt).trans h.2.2.1, (hb.frozen (p := ⟨b, 2, none⟩) hlt).trans h.2.2.2⟩

end Go.Proofs.Ythdcggohibaipaa

/- Chapter 8's exact laws, walked; the program's own contracts come as hypotheses. -/
namespace Go.Proofs.Ythdcggohibaipaa
open Go.RowKit

def CBase : Prop := ∀ (u : Value) (l : List V) (w : World), l.length ≤ 1048576 → (∀ v ∈ l, v.s.size ≤ maxLen) → Rd 3 w u l.length (vals l) → Calls Try.prog 19 #[u] w fun e w' => e = .returned (.int .i64 (baseL l)) ∧ Below w.heap.size w w'
def COffsets : Prop := ∀ (u : Value) (l : List V) (w : World), l.length ≤ 1048576 → (∀ v ∈ l, v.s.size ≤ maxLen) → Rd 3 w u l.length (vals l) → Calls Try.prog 14 #[u] w fun e w' => ∃ v', e = .returned v' ∧ Own 3 1 w.heap.size w'.heap.size w' v' (offL l).length (ints .i64 (offL l)) ∧ Below w.heap.size w w'
def CReach : Prop := ∀ (u : Value) (l : List V) (w : World), l.length ≤ 1048576 → (∀ v ∈ l, v.s.size ≤ maxLen) → Rd 3 w u l.length (vals l) → Calls Try.prog 21 #[u] w fun e w' => e = .returned (.int .i64 (reachL l)) ∧ Below w.heap.size w w'
def CRaised : Prop := ∀ (v : Value) (base : Int) (l : List Int) (w : World), l.length ≤ 1048576 → Rd 1 w v l.length (ints .i64 l) → Calls Try.prog 24 #[.int .i64 base, v] w fun e w' => RDs w w' e (raisedL base l)
def CEncFrame : Prop := ∀ (u : Value) (l : List V) (w : World), l.length ≤ 1048576 → (∀ v ∈ l, v.s.size ≤ maxLen) → Rd 3 w u l.length (vals l) → Calls Try.prog 13 #[u] w fun e w' => ∃ v', e = .returned v' ∧ Own 5 1 w.heap.size w'.heap.size w' v' (encF l).length (ints .u8 (encF l)) ∧ Below w.heap.size w w'
def CDecFrame : Prop := ∀ (u : Value) (n : Nat) (zs : List Int) (k : Int) (w : World), n ≤ 1048576 → zs.length = n → Num.Bytes zs → At 1 w u n (ints .u8 zs) → Calls Try.prog 25 #[u, .int .i64 k] w fun e w' => RDs w w' e (decF zs k)
theorem encF_len' (l : List V) : (encF l).length ≤ 1024 + l.length := by
  have := encF_len l
  omega
theorem sBaseB (u : Value) (l : List V) (w : World) (h : Rd 3 w u l.length (vals l)) :
    Calls Try.prog 20 #[u] w fun e w' => e = .returned (.int .i64 (baseL l)) ∧ Below w.heap.size w w' := by
  refine (sBase u l w h).mono ?_
  rintro e w' ⟨rfl, rfl⟩
  exact ⟨rfl, Below.refl _ _⟩

set_option maxHeartbeats 1000000 in
theorem lawBase (hi : CBase) (b : Option Addr) (lenb capb : Nat) (l : List V) (w : World) (hlb : lenb ≤ maxLen) (hsb : ∀ v ∈ l, v.s.size ≤ maxLen) (hzb : l.length = lenb) (hbB : ArgS 3 w b lenb (vals l)) :
    Calls Try.prog 5 #[.slice b lenb capb] w fun e w' => e = .returned (.bool true) ∧ Below w.heap.size w w' := by
  have HL := Lib.hid hzb
  have HSS := Lib.hid hsb
  have hqq : ((baseL l : Int) != (baseL l : Int)) = false := by simp
  clear hsb hzb
  go_enter Try.func5, Try.ntmps5
  have bt := Below.refl w.heap.size w
  go_wp2_with fail
  refine (szValS b lenb capb l 1048576 w (by omega) (by omega) hlb HSS.out HL.out (hbB.below bt)).mono ?_
  rintro e w1 ⟨rb, rfl, hrb, hb⟩
  have z1 := hb.size
  replace bt := below_then bt hb (by omega)
  clear hb
  by_cases hnb : rb < 0
  · go_wp2
    go_ret
    exact ⟨rfl, bt⟩
  have hbb : lenb ≤ 1048576 := by omega
  clear hrb
  go_wp2_with fail
  refine (toValS b lenb capb l w1 (by omega) HL.out (hbB.below bt)).mono ?_
  rintro e w2 ⟨t1, rfl, o1, hb⟩
  have z2 := hb.size
  replace bt := below_then bt hb (by omega)
  clear hb
  go_wp2_with fail
  refine (sBaseB t1 l w2 (by rw [HL.out]; exact o1.rd)).mono ?_
  rintro e w3 ⟨rfl, hb⟩
  have z3 := hb.size
  replace o1 := o1.below hb (by omega)
  replace bt := below_then bt hb (by omega)
  clear hb
  clear o1
  go_wp2_with fail
  refine (toValS b lenb capb l w3 (by omega) HL.out (hbB.below bt)).mono ?_
  rintro e w4 ⟨x1, rfl, oy, hb⟩
  have z4 := hb.size
  replace bt := below_then bt hb (by omega)
  clear hb
  go_wp2_with fail
  refine (hi x1 l w4 (by rw [HL.out]; omega) HSS.out (by rw [HL.out]; exact oy.rd)).mono ?_
  rintro e w5 ⟨rfl, hb⟩
  have z5 := hb.size
  replace oy := oy.below hb (by omega)
  replace bt := below_then bt hb (by omega)
  clear hb
  go_wp2_with fail
  refine (toValS b lenb capb l w5 (by omega) HL.out (hbB.below bt)).mono ?_
  rintro e w6 ⟨t4, rfl, o4, hb⟩
  have z6 := hb.size
  replace oy := oy.below hb (by omega)
  replace bt := below_then bt hb (by omega)
  clear hb
  go_wp2_with fail
  refine (eqValS x1 t4 lenb l w6 HL.out oy.at o4.at).mono ?_
  rintro e w7 ⟨rfl, hb⟩
  have z7 := hb.size
  replace oy := oy.below hb (by omega)
  replace o4 := o4.below hb (by omega)
  replace bt := below_then bt hb (by omega)
  clear hb
  go_wp2
  go_ret
  exact ⟨rfl, bt⟩

set_option maxHeartbeats 1000000 in
theorem lawReach (hi : CReach) (b : Option Addr) (lenb capb : Nat) (l : List V) (w : World) (hlb : lenb ≤ maxLen) (hsb : ∀ v ∈ l, v.s.size ≤ maxLen) (hzb : l.length = lenb) (hbB : ArgS 3 w b lenb (vals l)) :
    Calls Try.prog 10 #[.slice b lenb capb] w fun e w' => e = .returned (.bool true) ∧ Below w.heap.size w w' := by
  have HL := Lib.hid hzb
  have HSS := Lib.hid hsb
  have hqq : ((reachL l : Int) != (reachL l : Int)) = false := by simp
  clear hsb hzb
  go_enter Try.func10, Try.ntmps10
  have bt := Below.refl w.heap.size w
  go_wp2_with fail
  refine (szValS b lenb capb l 1048576 w (by omega) (by omega) hlb HSS.out HL.out (hbB.below bt)).mono ?_
  rintro e w1 ⟨rb, rfl, hrb, hb⟩
  have z1 := hb.size
  replace bt := below_then bt hb (by omega)
  clear hb
  by_cases hnb : rb < 0
  · go_wp2
    go_ret
    exact ⟨rfl, bt⟩
  have hbb : lenb ≤ 1048576 := by omega
  clear hrb
  go_wp2_with fail
  refine (toValS b lenb capb l w1 (by omega) HL.out (hbB.below bt)).mono ?_
  rintro e w2 ⟨t1, rfl, o1, hb⟩
  have z2 := hb.size
  replace bt := below_then bt hb (by omega)
  clear hb
  go_wp2_with fail
  refine (sReach t1 l w2 HSS.out (by rw [HL.out]; exact o1.rd)).mono ?_
  rintro e w3 ⟨rfl, hb⟩
  have z3 := hb.size
  replace o1 := o1.below hb (by omega)
  replace bt := below_then bt hb (by omega)
  clear hb
  clear o1
  go_wp2_with fail
  refine (toValS b lenb capb l w3 (by omega) HL.out (hbB.below bt)).mono ?_
  rintro e w4 ⟨x1, rfl, oy, hb⟩
  have z4 := hb.size
  replace bt := below_then bt hb (by omega)
  clear hb
  go_wp2_with fail
  refine (hi x1 l w4 (by rw [HL.out]; omega) HSS.out (by rw [HL.out]; exact oy.rd)).mono ?_
  rintro e w5 ⟨rfl, hb⟩
  have z5 := hb.size
  replace oy := oy.below hb (by omega)
  replace bt := below_then bt hb (by omega)
  clear hb
  go_wp2_with fail
  refine (toValS b lenb capb l w5 (by omega) HL.out (hbB.below bt)).mono ?_
  rintro e w6 ⟨t4, rfl, o4, hb⟩
  have z6 := hb.size
  replace oy := oy.below hb (by omega)
  replace bt := below_then bt hb (by omega)
  clear hb
  go_wp2_with fail
  refine (eqValS x1 t4 lenb l w6 HL.out oy.at o4.at).mono ?_
  rintro e w7 ⟨rfl, hb⟩
  have z7 := hb.size
  replace oy := oy.below hb (by omega)
  replace o4 := o4.below hb (by omega)
  replace bt := below_then bt hb (by omega)
  clear hb
  go_wp2
  go_ret
  exact ⟨rfl, bt⟩

set_option maxHeartbeats 2000000 in
theorem lawOffsets (hi : COffsets) (b : Option Addr) (lenb capb : Nat) (l : List V) (w : World) (hlb : lenb ≤ maxLen) (hsb : ∀ v ∈ l, v.s.size ≤ maxLen) (hzb : l.length = lenb) (hbB : ArgS 3 w b lenb (vals l)) :
    Calls Try.prog 6 #[.slice b lenb capb] w fun e w' => e = .returned (.bool true) ∧ Below w.heap.size w w' := by
  have HL := Lib.hid hzb
  have HSS := Lib.hid hsb
  have hPl := (off_len l).2
  generalize hP : offL l = P at hPl
  have HP := Lib.hid hP
  clear hP
  generalize hn : P.length = n at hPl
  have HN := Lib.hid hn
  clear hn hsb hzb
  go_enter Try.func6, Try.ntmps6
  have bt := Below.refl w.heap.size w
  go_wp2_with fail
  refine (szValS b lenb capb l 1048576 w (by omega) (by omega) hlb HSS.out HL.out (hbB.below bt)).mono ?_
  rintro e w1 ⟨rb, rfl, hrb, hb⟩
  have z1 := hb.size
  replace bt := below_then bt hb (by omega)
  clear hb
  by_cases hnrb : rb < 0
  · go_wp2
    go_ret
    exact ⟨rfl, bt⟩
  have hbrb : lenb ≤ 1048576 := by omega
  have hlrb : rb ≤ 1048576 := by omega
  clear hrb
  go_wp2_with fail
  refine (toValS b lenb capb l w1 (by omega) HL.out (hbB.below bt)).mono ?_
  rintro e w2 ⟨t1, rfl, o1, hb⟩
  have z2 := hb.size
  replace bt := below_then bt hb (by omega)
  clear hb
  go_wp2_with fail
  refine (sOffsets t1 l w2 HSS.out (by rw [HL.out]; exact o1.rd)).mono ?_
  rintro e w3 ⟨v0, rfl, ov, hb⟩
  have z3 := hb.size
  replace o1 := o1.below hb (by omega)
  replace bt := below_then bt hb (by omega)
  clear hb
  rw [HP.out, HN.out] at ov
  clear o1
  go_wp2_with fail
  refine (toValS b lenb capb l w3 (by omega) HL.out (hbB.below bt)).mono ?_
  rintro e w4 ⟨x0, rfl, ox, hb⟩
  have z4 := hb.size
  replace ov := ov.below hb (by omega)
  replace bt := below_then bt hb (by omega)
  clear hb
  go_wp2_with fail
  refine (hi x0 l w4 (by rw [HL.out]; omega) HSS.out (by rw [HL.out]; exact ox.rd)).mono ?_
  rintro e w5 ⟨g0, rfl, og, hb⟩
  have z5 := hb.size
  replace ov := ov.below hb (by omega)
  replace ox := ox.below hb (by omega)
  replace bt := below_then bt hb (by omega)
  clear hb
  rw [HP.out, HN.out] at og
  go_wp2_with fail
  refine (eqIntS g0 v0 n P w5 HN.out og.at ov.at).mono ?_
  rintro e w6 ⟨rfl, hb⟩
  have z6 := hb.size
  replace ov := ov.below hb (by omega)
  replace ox := ox.below hb (by omega)
  replace og := og.below hb (by omega)
  replace bt := below_then bt hb (by omega)
  clear hb
  go_wp2_with fail
  refine (toValS b lenb capb l w6 (by omega) HL.out (hbB.below bt)).mono ?_
  rintro e w7 ⟨t2, rfl, o2, hb⟩
  have z7 := hb.size
  replace ov := ov.below hb (by omega)
  replace ox := ox.below hb (by omega)
  replace og := og.below hb (by omega)
  replace bt := below_then bt hb (by omega)
  clear hb
  go_wp2_with fail
  refine (eqValS x0 t2 lenb l w7 HL.out ox.at o2.at).mono ?_
  rintro e w8 ⟨rfl, hb⟩
  have z8 := hb.size
  replace ov := ov.below hb (by omega)
  replace ox := ox.below hb (by omega)
  replace og := og.below hb (by omega)
  replace o2 := o2.below hb (by omega)
  replace bt := below_then bt hb (by omega)
  clear hb
  clear o2
  go_wp2_with fail
  refine (markValS x0 lenb _ _ l 1 w8 (by omega) (by omega) (by omega) HL.out ox).mono ?_
  rintro e w9 ⟨rfl, ⟨l2, hl2, hnew⟩, hg⟩
  have z9 := hg.size
  replace ov := ov.apart ox (by omega) hg
  replace og := og.apart ox (by omega) hg
  have bg := below_grown_own ox hg (by omega) (by omega)
  replace bt := bt.trans (below_grown_own ox hg (by omega) (by omega))
  clear hg bg ox
  clear hnew hl2
  go_wp2_with fail
  refine (eqIntS g0 v0 n P w9 HN.out og.at ov.at).mono ?_
  rintro e w10 ⟨rfl, hb⟩
  have z10 := hb.size
  replace ov := ov.below hb (by omega)
  replace og := og.below hb (by omega)
  replace bt := below_then bt hb (by omega)
  clear hb
  go_wp2_with fail
  refine (markIntS g0 n _ _ _ 1 w10 (by omega) (by omega) (by omega) og).mono ?_
  rintro e w11 ⟨rfl, hnew, hg⟩
  have z11 := hg.size
  replace ov := ov.apart og (by omega) hg
  have bg := below_grown_own og hg (by omega) (by omega)
  replace bt := bt.trans (below_grown_own og hg (by omega) (by omega))
  clear hg bg og
  have og := hnew
  clear hnew
  go_wp2_with fail
  refine (heldIntS g0 n 1 w11 (by omega) (by omega) (by omega) og.at).mono ?_
  rintro e w' ⟨rfl, rfl⟩
  go_wp2_with fail
  refine (toValS b lenb capb l w11 (by omega) HL.out (hbB.below bt)).mono ?_
  rintro e w12 ⟨t3, rfl, o3, hb⟩
  have z12 := hb.size
  replace ov := ov.below hb (by omega)
  replace og := og.below hb (by omega)
  replace bt := below_then bt hb (by omega)
  clear hb
  go_wp2_with fail
  refine (hi t3 l w12 (by rw [HL.out]; omega) HSS.out (by rw [HL.out]; exact o3.rd)).mono ?_
  rintro e w13 ⟨h0, rfl, oh, hb⟩
  have z13 := hb.size
  replace ov := ov.below hb (by omega)
  replace og := og.below hb (by omega)
  replace o3 := o3.below hb (by omega)
  replace bt := below_then bt hb (by omega)
  clear hb
  rw [HP.out, HN.out] at oh
  clear o3
  go_wp2_with fail
  refine (eqIntS h0 v0 n P w13 HN.out oh.at ov.at).mono ?_
  rintro e w14 ⟨rfl, hb⟩
  have z14 := hb.size
  replace ov := ov.below hb (by omega)
  replace og := og.below hb (by omega)
  replace oh := oh.below hb (by omega)
  replace bt := below_then bt hb (by omega)
  clear hb
  go_wp2_with fail
  refine (heldIntS g0 n 1 w14 (by omega) (by omega) (by omega) og.at).mono ?_
  rintro e w' ⟨rfl, rfl⟩
  go_wp2
  go_ret
  exact ⟨rfl, bt⟩

set_option maxHeartbeats 4000000 in
theorem lawRaised (hi : CRaised) (bs : Int) (b : Option Addr) (len cap : Nat) (zs : List Int) (w : World) (h : Arg .i64 w b len zs) :
    Calls Try.prog 9 #[.int .i64 bs, .slice b len cap] w fun e w' => e = .returned (.bool true) ∧ Below w.heap.size w w' := by
  by_cases hbig : 1048576 < len
  · go_enter Try.func9, Try.ntmps9
    go_wp2
    go_ret
    exact ⟨rfl, Below.refl _ _⟩
  · have HZ : Hid (zs.length = len) := h.1
    have hPl := raised_len bs zs
    rw [HZ.out] at hPl
    have hqq : ((raisedL bs zs).2 != (raisedL bs zs).2) = false := by simp
    generalize hP : (raisedL bs zs).1 = P at hPl
    have HP := Lib.hid hP
    clear hP
    generalize hn : P.length = n at hPl
    have HN := Lib.hid hn
    clear hn
    go_enter Try.func9, Try.ntmps9
    have bt := Below.refl w.heap.size w
    go_wp2_with fail
    refine (toIntS b len cap zs w (by omega) (h.below bt)).mono ?_
    rintro e w1 ⟨t1, rfl, o1, hb⟩
    have z1 := hb.size
    replace bt := below_then bt hb (by omega)
    clear hb
    go_wp2_with fail
    refine (sRaised t1 bs zs w1 (by rw [HZ.out]; omega) (by rw [HZ.out]; exact o1.rd)).mono ?_
    rintro e w2 ⟨v0, rfl, ov, hb⟩
    have z2 := hb.size
    replace o1 := o1.below hb (by omega)
    replace bt := below_then bt hb (by omega)
    clear hb
    rw [HP.out, HN.out] at ov
    clear o1
    go_wp2_with fail
    refine (toIntS b len cap zs w2 (by omega) (h.below bt)).mono ?_
    rintro e w3 ⟨x1, rfl, oy, hb⟩
    have z3 := hb.size
    replace ov := ov.below hb (by omega)
    replace bt := below_then bt hb (by omega)
    clear hb
    go_wp2_with fail
    refine (hi x1 bs zs w3 (by rw [HZ.out]; omega) (by rw [HZ.out]; exact oy.rd)).mono ?_
    rintro e w4 ⟨g0, rfl, og, hb⟩
    have z4 := hb.size
    replace ov := ov.below hb (by omega)
    replace oy := oy.below hb (by omega)
    replace bt := below_then bt hb (by omega)
    clear hb
    rw [HP.out, HN.out] at og
    go_wp2_with fail
    refine (eqValS g0 v0 n P w4 HN.out og.at ov.at).mono ?_
    rintro e w5 ⟨rfl, hb⟩
    have z5 := hb.size
    replace ov := ov.below hb (by omega)
    replace oy := oy.below hb (by omega)
    replace og := og.below hb (by omega)
    replace bt := below_then bt hb (by omega)
    clear hb
    go_wp2_with fail
    refine (toIntS b len cap zs w5 (by omega) (h.below bt)).mono ?_
    rintro e w6 ⟨t3, rfl, o3, hb⟩
    have z6 := hb.size
    replace ov := ov.below hb (by omega)
    replace oy := oy.below hb (by omega)
    replace og := og.below hb (by omega)
    replace bt := below_then bt hb (by omega)
    clear hb
    go_wp2_with fail
    refine (eqIntS x1 t3 len zs w6 HZ.out oy.at o3.at).mono ?_
    rintro e w7 ⟨rfl, hb⟩
    have z7 := hb.size
    replace ov := ov.below hb (by omega)
    replace oy := oy.below hb (by omega)
    replace og := og.below hb (by omega)
    replace o3 := o3.below hb (by omega)
    replace bt := below_then bt hb (by omega)
    clear hb
    clear o3
    go_wp2_with fail
    refine (markIntS x1 len _ _ _ 1 w7 (by omega) (by omega) (by omega) oy).mono ?_
    rintro e w8 ⟨rfl, hnew, hg⟩
    have z8 := hg.size
    replace ov := ov.apart oy (by omega) hg
    replace og := og.apart oy (by omega) hg
    have bg := below_grown_own oy hg (by omega) (by omega)
    replace bt := bt.trans (below_grown_own oy hg (by omega) (by omega))
    clear hg bg oy
    clear hnew
    go_wp2_with fail
    refine (eqValS g0 v0 n P w8 HN.out og.at ov.at).mono ?_
    rintro e w9 ⟨rfl, hb⟩
    have z9 := hb.size
    replace ov := ov.below hb (by omega)
    replace og := og.below hb (by omega)
    replace bt := below_then bt hb (by omega)
    clear hb
    go_wp2_with fail
    refine (markValM g0 n _ _ P 1 w9 (by omega) (by omega) (by omega) HN.out og).mono ?_
    rintro e w10 ⟨rfl, hnew, hg⟩
    have z10 := hg.size
    replace ov := ov.apart og (by omega) hg
    have bg := below_grown_own og hg (by omega) (by omega)
    replace bt := bt.trans (below_grown_own og hg (by omega) (by omega))
    clear hg bg og
    have og := hnew
    clear hnew
    go_wp2_with fail
    refine (heldValS g0 n 1 w10 (by omega) (by omega) (by omega) og.rd).mono ?_
    rintro e w11 ⟨rfl, hb⟩
    have z11 := hb.size
    replace ov := ov.below hb (by omega)
    replace og := og.below hb (by omega)
    replace bt := below_then bt hb (by omega)
    clear hb
    go_wp2_with fail
    refine (toIntS b len cap zs w11 (by omega) (h.below bt)).mono ?_
    rintro e w12 ⟨u2, rfl, q2, hb⟩
    have z12 := hb.size
    replace ov := ov.below hb (by omega)
    replace og := og.below hb (by omega)
    replace bt := below_then bt hb (by omega)
    clear hb
    go_wp2_with fail
    refine (hi u2 bs zs w12 (by rw [HZ.out]; omega) (by rw [HZ.out]; exact q2.rd)).mono ?_
    rintro e w13 ⟨h0, rfl, oh, hb⟩
    have z13 := hb.size
    replace ov := ov.below hb (by omega)
    replace og := og.below hb (by omega)
    replace q2 := q2.below hb (by omega)
    replace bt := below_then bt hb (by omega)
    clear hb
    rw [HP.out, HN.out] at oh
    clear q2
    go_wp2_with fail
    refine (eqValS h0 v0 n P w13 HN.out oh.at ov.at).mono ?_
    rintro e w14 ⟨rfl, hb⟩
    have z14 := hb.size
    replace ov := ov.below hb (by omega)
    replace og := og.below hb (by omega)
    replace oh := oh.below hb (by omega)
    replace bt := below_then bt hb (by omega)
    clear hb
    go_wp2_with fail
    refine (heldValS g0 n 1 w14 (by omega) (by omega) (by omega) og.rd).mono ?_
    rintro e w15 ⟨rfl, hb⟩
    have z15 := hb.size
    replace ov := ov.below hb (by omega)
    replace og := og.below hb (by omega)
    replace oh := oh.below hb (by omega)
    replace bt := below_then bt hb (by omega)
    clear hb
    go_wp2
    go_ret
    exact ⟨rfl, bt⟩

set_option maxHeartbeats 2000000 in
theorem lawEncFrame (hi : CEncFrame) (b : Option Addr) (lenb capb : Nat) (l : List V) (w : World) (hlb : lenb ≤ maxLen) (hsb : ∀ v ∈ l, v.s.size ≤ maxLen) (hzb : l.length = lenb) (hbB : ArgS 3 w b lenb (vals l)) :
    Calls Try.prog 7 #[.slice b lenb capb] w fun e w' => e = .returned (.bool true) ∧ Below w.heap.size w w' := by
  have HL := Lib.hid hzb
  have HSS := Lib.hid hsb
  have hPl := encF_len' l
  rw [hzb] at hPl
  generalize hP : encF l = P at hPl
  have HP := Lib.hid hP
  clear hP
  generalize hn : P.length = n at hPl
  have HN := Lib.hid hn
  clear hn hsb hzb
  go_enter Try.func7, Try.ntmps7
  have bt := Below.refl w.heap.size w
  go_wp2_with fail
  refine (szValS b lenb capb l 1048576 w (by omega) (by omega) hlb HSS.out HL.out (hbB.below bt)).mono ?_
  rintro e w1 ⟨rb, rfl, hrb, hb⟩
  have z1 := hb.size
  replace bt := below_then bt hb (by omega)
  clear hb
  by_cases hnb : rb < 0
  · go_wp2
    go_ret
    exact ⟨rfl, bt⟩
  have hbb : lenb ≤ 1048576 := by omega
  clear hrb
  go_wp2_with fail
  refine (toValS b lenb capb l w1 (by omega) HL.out (hbB.below bt)).mono ?_
  rintro e w2 ⟨t1, rfl, o1, hb⟩
  have z2 := hb.size
  replace bt := below_then bt hb (by omega)
  clear hb
  go_wp2_with fail
  refine (sEncFrame t1 l w2 HSS.out (by rw [HL.out]; exact o1.rd)).mono ?_
  rintro e w3 ⟨v0, rfl, ov, hb⟩
  have z3 := hb.size
  replace o1 := o1.below hb (by omega)
  replace bt := below_then bt hb (by omega)
  clear hb
  rw [HP.out, HN.out] at ov
  clear o1
  go_wp2_with fail
  refine (toValS b lenb capb l w3 (by omega) HL.out (hbB.below bt)).mono ?_
  rintro e w4 ⟨x0, rfl, ox, hb⟩
  have z4 := hb.size
  replace ov := ov.below hb (by omega)
  replace bt := below_then bt hb (by omega)
  clear hb
  go_wp2_with fail
  refine (hi x0 l w4 (by rw [HL.out]; omega) HSS.out (by rw [HL.out]; exact ox.rd)).mono ?_
  rintro e w5 ⟨g0, rfl, og, hb⟩
  have z5 := hb.size
  replace ov := ov.below hb (by omega)
  replace ox := ox.below hb (by omega)
  replace bt := below_then bt hb (by omega)
  clear hb
  rw [HP.out, HN.out] at og
  go_wp2_with fail
  refine (eqByteS g0 v0 n P w5 HN.out og.at ov.at).mono ?_
  rintro e w6 ⟨rfl, hb⟩
  have z6 := hb.size
  replace ov := ov.below hb (by omega)
  replace ox := ox.below hb (by omega)
  replace og := og.below hb (by omega)
  replace bt := below_then bt hb (by omega)
  clear hb
  go_wp2_with fail
  refine (toValS b lenb capb l w6 (by omega) HL.out (hbB.below bt)).mono ?_
  rintro e w7 ⟨t2, rfl, o2, hb⟩
  have z7 := hb.size
  replace ov := ov.below hb (by omega)
  replace ox := ox.below hb (by omega)
  replace og := og.below hb (by omega)
  replace bt := below_then bt hb (by omega)
  clear hb
  go_wp2_with fail
  refine (eqValS x0 t2 lenb l w7 HL.out ox.at o2.at).mono ?_
  rintro e w8 ⟨rfl, hb⟩
  have z8 := hb.size
  replace ov := ov.below hb (by omega)
  replace ox := ox.below hb (by omega)
  replace og := og.below hb (by omega)
  replace o2 := o2.below hb (by omega)
  replace bt := below_then bt hb (by omega)
  clear hb
  clear o2
  go_wp2_with fail
  refine (markValS x0 lenb _ _ l 1 w8 (by omega) (by omega) (by omega) HL.out ox).mono ?_
  rintro e w9 ⟨rfl, ⟨l2, hl2, hnew⟩, hg⟩
  have z9 := hg.size
  replace ov := ov.apart ox (by omega) hg
  replace og := og.apart ox (by omega) hg
  have bg := below_grown_own ox hg (by omega) (by omega)
  replace bt := bt.trans (below_grown_own ox hg (by omega) (by omega))
  clear hg bg ox
  clear hnew hl2
  go_wp2_with fail
  refine (eqByteS g0 v0 n P w9 HN.out og.at ov.at).mono ?_
  rintro e w10 ⟨rfl, hb⟩
  have z10 := hb.size
  replace ov := ov.below hb (by omega)
  replace og := og.below hb (by omega)
  replace bt := below_then bt hb (by omega)
  clear hb
  go_wp2_with fail
  refine (markByteS g0 n _ _ _ _ w10 (by omega) (by omega) (by omega) og).mono ?_
  rintro e w11 ⟨rfl, hnew, hg⟩
  have z11 := hg.size
  replace ov := ov.apart og (by omega) hg
  have bg := below_grown_own og hg (by omega) (by omega)
  replace bt := bt.trans (below_grown_own og hg (by omega) (by omega))
  clear hg bg og
  have og := hnew
  clear hnew
  go_wp2_with fail
  refine (heldByteS g0 n 1 w11 (by omega) (by omega) (by omega) og.at).mono ?_
  rintro e w' ⟨rfl, rfl⟩
  go_wp2_with fail
  refine (toValS b lenb capb l w11 (by omega) HL.out (hbB.below bt)).mono ?_
  rintro e w12 ⟨t3, rfl, o3, hb⟩
  have z12 := hb.size
  replace ov := ov.below hb (by omega)
  replace og := og.below hb (by omega)
  replace bt := below_then bt hb (by omega)
  clear hb
  go_wp2_with fail
  refine (hi t3 l w12 (by rw [HL.out]; omega) HSS.out (by rw [HL.out]; exact o3.rd)).mono ?_
  rintro e w13 ⟨h0, rfl, oh, hb⟩
  have z13 := hb.size
  replace ov := ov.below hb (by omega)
  replace og := og.below hb (by omega)
  replace o3 := o3.below hb (by omega)
  replace bt := below_then bt hb (by omega)
  clear hb
  rw [HP.out, HN.out] at oh
  clear o3
  go_wp2_with fail
  refine (eqByteS h0 v0 n P w13 HN.out oh.at ov.at).mono ?_
  rintro e w14 ⟨rfl, hb⟩
  have z14 := hb.size
  replace ov := ov.below hb (by omega)
  replace og := og.below hb (by omega)
  replace oh := oh.below hb (by omega)
  replace bt := below_then bt hb (by omega)
  clear hb
  go_wp2_with fail
  refine (heldByteS g0 n 1 w14 (by omega) (by omega) (by omega) og.at).mono ?_
  rintro e w' ⟨rfl, rfl⟩
  go_wp2
  go_ret
  exact ⟨rfl, bt⟩

set_option maxHeartbeats 2000000 in
theorem lawDecFrame (hi : CDecFrame) (a : Option Addr) (len cap : Nat) (zs : List Int) (k : Int) (w : World) (h : Arg .u8 w a len zs) (hby : Num.Bytes zs) :
    Calls Try.prog 8 #[.slice a len cap, .int .i64 k] w fun e w' => e = .returned (.bool true) ∧ Below w.heap.size w w' := by
  by_cases hbig : 1048576 < len
  · go_enter Try.func8, Try.ntmps8
    go_wp2
    go_ret
    exact ⟨rfl, Below.refl _ _⟩
  · have HZ : Hid (zs.length = len) := h.1
    have hPl := decF_len zs k
    have hqq : ((decF zs k).2 != (decF zs k).2) = false := by simp
    generalize hP : (decF zs k).1 = P at hPl
    have HP := Lib.hid hP
    clear hP
    generalize hn : P.length = n at hPl
    have HN := Lib.hid hn
    clear hn
    go_enter Try.func8, Try.ntmps8
    have bt := Below.refl w.heap.size w
    go_wp2_with fail
    refine (toByteS a len cap zs w (by omega) (h.below bt)).mono ?_
    rintro e w1 ⟨t1, rfl, o1, hb⟩
    have z1 := hb.size
    replace bt := below_then bt hb (by omega)
    clear hb
    go_wp2_with fail
    refine (sDecFrame t1 len zs k w1 (by omega) HZ.out hby o1.at).mono ?_
    rintro e w2 ⟨v0, rfl, ov, hb⟩
    have z2 := hb.size
    replace o1 := o1.below hb (by omega)
    replace bt := below_then bt hb (by omega)
    clear hb
    rw [HP.out, HN.out] at ov
    clear o1
    go_wp2_with fail
    refine (toByteS a len cap zs w2 (by omega) (h.below bt)).mono ?_
    rintro e w3 ⟨x0, rfl, ox, hb⟩
    have z3 := hb.size
    replace ov := ov.below hb (by omega)
    replace bt := below_then bt hb (by omega)
    clear hb
    go_wp2_with fail
    refine (hi x0 len zs k w3 (by omega) HZ.out hby ox.at).mono ?_
    rintro e w4 ⟨g0, rfl, og, hb⟩
    have z4 := hb.size
    replace ov := ov.below hb (by omega)
    replace ox := ox.below hb (by omega)
    replace bt := below_then bt hb (by omega)
    clear hb
    rw [HP.out, HN.out] at og
    go_wp2_with fail
    refine (eqValS g0 v0 n P w4 HN.out og.at ov.at).mono ?_
    rintro e w5 ⟨rfl, hb⟩
    have z5 := hb.size
    replace ov := ov.below hb (by omega)
    replace ox := ox.below hb (by omega)
    replace og := og.below hb (by omega)
    replace bt := below_then bt hb (by omega)
    clear hb
    go_wp2_with fail
    refine (toByteS a len cap zs w5 (by omega) (h.below bt)).mono ?_
    rintro e w6 ⟨t2, rfl, o2, hb⟩
    have z6 := hb.size
    replace ov := ov.below hb (by omega)
    replace ox := ox.below hb (by omega)
    replace og := og.below hb (by omega)
    replace bt := below_then bt hb (by omega)
    clear hb
    go_wp2_with fail
    refine (eqByteS x0 t2 len zs w6 HZ.out ox.at o2.at).mono ?_
    rintro e w7 ⟨rfl, hb⟩
    have z7 := hb.size
    replace ov := ov.below hb (by omega)
    replace ox := ox.below hb (by omega)
    replace og := og.below hb (by omega)
    replace o2 := o2.below hb (by omega)
    replace bt := below_then bt hb (by omega)
    clear hb
    clear o2
    go_wp2_with fail
    refine (markByteS x0 len _ _ _ _ w7 (by omega) (by omega) (by omega) ox).mono ?_
    rintro e w8 ⟨rfl, hnew, hg⟩
    have z8 := hg.size
    replace ov := ov.apart ox (by omega) hg
    replace og := og.apart ox (by omega) hg
    have bg := below_grown_own ox hg (by omega) (by omega)
    replace bt := bt.trans (below_grown_own ox hg (by omega) (by omega))
    clear hg bg ox
    clear hnew
    go_wp2_with fail
    refine (eqValS g0 v0 n P w8 HN.out og.at ov.at).mono ?_
    rintro e w9 ⟨rfl, hb⟩
    have z9 := hb.size
    replace ov := ov.below hb (by omega)
    replace og := og.below hb (by omega)
    replace bt := below_then bt hb (by omega)
    clear hb
    go_wp2_with fail
    refine (markValM g0 n _ _ P 1 w9 (by omega) (by omega) (by omega) HN.out og).mono ?_
    rintro e w10 ⟨rfl, hnew, hg⟩
    have z10 := hg.size
    replace ov := ov.apart og (by omega) hg
    have bg := below_grown_own og hg (by omega) (by omega)
    replace bt := bt.trans (below_grown_own og hg (by omega) (by omega))
    clear hg bg og
    have og := hnew
    clear hnew
    go_wp2_with fail
    refine (heldValS g0 n 1 w10 (by omega) (by omega) (by omega) og.rd).mono ?_
    rintro e w11 ⟨rfl, hb⟩
    have z11 := hb.size
    replace ov := ov.below hb (by omega)
    replace og := og.below hb (by omega)
    replace bt := below_then bt hb (by omega)
    clear hb
    go_wp2_with fail
    refine (toByteS a len cap zs w11 (by omega) (h.below bt)).mono ?_
    rintro e w12 ⟨t3, rfl, o3, hb⟩
    have z12 := hb.size
    replace ov := ov.below hb (by omega)
    replace og := og.below hb (by omega)
    replace bt := below_then bt hb (by omega)
    clear hb
    go_wp2_with fail
    refine (hi t3 len zs k w12 (by omega) HZ.out hby o3.at).mono ?_
    rintro e w13 ⟨h0, rfl, oh, hb⟩
    have z13 := hb.size
    replace ov := ov.below hb (by omega)
    replace og := og.below hb (by omega)
    replace o3 := o3.below hb (by omega)
    replace bt := below_then bt hb (by omega)
    clear hb
    rw [HP.out, HN.out] at oh
    clear o3
    go_wp2_with fail
    refine (eqValS h0 v0 n P w13 HN.out oh.at ov.at).mono ?_
    rintro e w14 ⟨rfl, hb⟩
    have z14 := hb.size
    replace ov := ov.below hb (by omega)
    replace og := og.below hb (by omega)
    replace oh := oh.below hb (by omega)
    replace bt := below_then bt hb (by omega)
    clear hb
    go_wp2_with fail
    refine (heldValS g0 n 1 w14 (by omega) (by omega) (by omega) og.rd).mono ?_
    rintro e w15 ⟨rfl, hb⟩
    have z15 := hb.size
    replace ov := ov.below hb (by omega)
    replace og := og.below hb (by omega)
    replace oh := oh.below hb (by omega)
    replace bt := below_then bt hb (by omega)
    clear hb
    go_wp2
    go_ret
    exact ⟨rfl, bt⟩

end Go.Proofs.Ythdcggohibaipaa

/- The contract of bytes.Equal, as the program calls it. -/
namespace Go.Proofs.Ythdcggohibaipaa
open Go.RowKit

theorem set_same {α : Type} {l : List α} {i : Nat} {x : α} (h : l[i]? = some x) : l.set i x = l := by
  apply List.ext_getElem?
  intro j
  rw [List.getElem?_set]
  split
  · rename_i e
    subst e
    rw [h]
    split
    · rfl
    · rename_i hl
      rw [List.getElem?_eq_none (by omega)] at h
      cases h
  · rfl
theorem bytesEqual (u v : Value) (n m : Nat) (xs ys : List Int) (w : World) (hxl : xs.length = n) (hyl : ys.length = m) (hx : Num.Bytes xs) (hy : Num.Bytes ys) (h1 : At 1 w u n (ints .u8 xs)) (h2 : At 1 w v m (ints .u8 ys)) :
    Calls Try.prog 60 #[u, v] w fun e w' => e = .returned (.bool (decide (xs = ys))) ∧ w = w' := by
  have k1 := conv_at hxl h1
  have k2 := conv_at hyl h2
  have HX : Hid (((strOfNums xs).toList == (strOfNums ys).toList) = decide (xs = ys)) := by
    show _ = _
    by_cases he : xs = ys
    · subst he
      simp
    · rw [bstr_ne (fun h => he (strOfNums_inj hx hy h)), decide_eq_false he]
  obtain ⟨b1, o1, c1, rfl, _, _, _, _⟩ := h1
  obtain ⟨b2, o2, c2, rfl, _, _, _, _⟩ := h2
  generalize strOfNums xs = s1 at k1 HX
  generalize strOfNums ys = s2 at k2 HX
  generalize decide (xs = ys) = q at HX
  clear hx hy hxl hyl
  go_enter Try.func60, Try.ntmps60
  go_wp2
  go_ret
  exact ⟨ret_bool HX.out, rfl⟩
theorem putNum_puts {zs : List Int} {x : Int} (h : Num.ok x) : Num.put zs x = Num.puts zs [x] := by
  rw [Num.puts_one, Num.put_ok h]

end Go.Proofs.Ythdcggohibaipaa

/- The contracts of impl's appendVal, PutVal, EncPlain. -/
namespace Go.Proofs.Ythdcggohibaipaa
open Go.RowKit Go.Lib

/-- append(b, s...), s a string, as one operation: which block it may have written. -/
theorem appendS_grown {P : Program} {t u e : TypeId} (T : ElemT P t e (.int .u8 0) 1 1) (hu : P.underlying u = some .string) {w : World} {o : Oper} {a : Act} {K : Act → World → Prop} {Q : Exit → Act → World → Prop} (b x : Operand)
    (ho : o.op = .call { callee := .builtin .append, args := #[b, x], argTypes := #[t, u] })
    (lo hi : Nat) (v : Value) (n : Nat) (xs : List Value) (s : ByteArray) (hs : a.eval b = v) (hown : Own e 1 lo hi w v n xs)
    (hx : a.eval x = .string s) (h63 : n + s.size ≤ maxLen) (hbytes : n + s.size ≤ 140737488355328)
    (h : ∀ v' w', Own e 1 lo w'.heap.size w' v' (n + s.size) (xs ++ ints .u8 (sbytes s)) → w.grownBy w' v.ownBlock → K (a.put o.dst v') w') : Oper.wp P o a w K Q := by
  obtain ⟨i, hi', hz, hsz, hb⟩ := T.info
  obtain ⟨v', w', hr, h2, h3, h4⟩ := run_append_own_string (P := P) w lo t u o.type e i T.ht hu hi' hz hsz hb v n xs hown.row s h63 hbytes hown.lo
  rw [strCells_eq] at h2
  unfold Oper.wp execOp
  simp only [ho, resolve, invoke, builtin, Sem.run_bind, Sem.run_pure, Result.andThen_ok, List.map_toArray, List.map_cons, List.map_nil, hs, hx, hr]
  exact h v' w' (hown.append h2 h4) h3

theorem Ext.then_grown {w w1 w2 : World} {v v1 : Value} (h : Ext w w1 v v1) (k : w1.grownBy w2 v1.ownBlock) : w.grownBy w2 v.ownBlock := by
  have hs := h.grown.size
  refine ⟨k.os.trans h.grown.os, k.tape.trans h.grown.tape, k.output.trans h.grown.output, Nat.le_trans hs k.size, fun i hi hne => ?_⟩
  refine (k.block i (by omega) (fun e => ?_)).trans (h.grown.block i hi hne)
  rcases h.blk with hb | ⟨g, hb, hg⟩
  · exact hne (e.trans hb)
  · rw [hb] at e
    cases e
    omega

theorem typeV_ok {l : List V} (h : ¬ typeV l = 0) {k : Nat} (hk : k < l.length) : okV (l.getD k V.zero) = true := by
  unfold typeV at h
  split at h
  · rename_i h2
    have e : l.getD k V.zero = l[k] := by simp [hk]
    have := List.all_eq_true.1 h2.2 _ (List.getElem_mem hk)
    rw [e]
    unfold ofB at this
    simp only [Bool.and_eq_true] at this
    exact this.1
  · exact absurd rfl h

end Go.Proofs.Ythdcggohibaipaa

/- The contracts of impl's cutBytes, getText, GetVal. -/
namespace Go.Proofs.Ythdcggohibaipaa
open Go.RowKit

/-- cutBytes where nothing is cut. -/
theorem cutNot (a : Option Addr) (n cap k : Nat) (i q : Int) (hq : q = k) (w : World) (_ : n ≤ 1073741824) (hk : k ≤ 255) (h : ¬ (0 ≤ i ∧ i + k ≤ n)) :
    Calls Try.prog 91 #[.slice a n cap, .int .i64 i, .int .i64 q] w fun e w' => e = .returned (.tuple #[.slice none 0 0, .bool false]) ∧ w = w' := by
  subst hq
  by_cases h0 : i < 0
  · go_enter Try.func91, Try.ntmps91
    go_wp2
    go_ret2
    exact ⟨rfl, rfl⟩
  · obtain ⟨I, rfl⟩ := Int.eq_ofNat_of_zero_le (show 0 ≤ i by omega)
    by_cases h1 : n < I
    · go_enter Try.func91, Try.ntmps91
      go_wp2
      go_ret2
      exact ⟨rfl, rfl⟩
    · have h2 : (n : Int) - I < k := by omega
      clear h h0
      go_enter Try.func91, Try.ntmps91
      go_wp2
      go_ret2
      exact ⟨rfl, rfl⟩

/-- cutBytes where bytes are cut. -/
theorem cutOk (b off n cap k I : Nat) (i q : Int) (hi : i = I) (hq : q = k) (w : World) (_ : n ≤ 1073741824) (hk : k ≤ 255) (hnc : n ≤ cap) (hcm : cap ≤ maxLen) (h : I + k ≤ n) :
    Calls Try.prog 91 #[.slice (some ⟨b, off, none⟩) n cap, .int .i64 i, .int .i64 q] w fun e w' => ∃ o, e = .returned (.tuple #[.slice (some ⟨b, o, none⟩) k k, .bool true]) ∧ (0 < k → o = off + I) ∧ w = w' := by
  subst hi hq
  unfold maxLen at hcm
  have h1 : ¬ ((n : Int) - I < k) := by omega
  by_cases h0 : k = 0
  · subst h0
    go_enter Try.func91, Try.ntmps91
    go_wp2
    go_ret2
    exact ⟨⟨_, rfl⟩, rfl⟩
  · go_enter Try.func91, Try.ntmps91
    go_wp2
    go_ret2
    exact ⟨_, rfl, fun _ => rfl, rfl⟩

/-- getText. -/
def textAt (zs : List Int) (I : Nat) : ByteArray := strOfNums ((zs.drop (I + 1)).take (zs.getD I 0).toNat)
def getS (zs : List Int) (i : Int) : ByteArray × Int × Bool :=
  if (0 ≤ i ∧ i + 1 ≤ zs.length) ∧ i + 1 + zs.getD i.toNat 0 ≤ zs.length ∧ txtB (textAt zs i.toNat) = true then (textAt zs i.toNat, i + 1 + zs.getD i.toNat 0, true) else (⟨#[]⟩, 0, false)
theorem getV_text {zs : List Int} {i : Int} : getV zs i 2 = if (getS zs i).2.2 = true then (⟨2, 0, (getS zs i).1⟩, (getS zs i).2.1, true) else (V.zero, 0, false) := by
  unfold getV
  rw [if_neg (by decide)]
  have hok : ∀ s, okV ⟨2, 0, s⟩ = txtB s := fun s => by simp [okV]
  by_cases h1 : 0 ≤ i ∧ i + 1 ≤ zs.length
  · obtain ⟨I, rfl⟩ := Int.eq_ofNat_of_zero_le h1.1
    rw [if_pos ⟨rfl, Num.inB_true.2 ⟨h1.1, by omega⟩⟩]
    have e0 : getT zs I = if zs.getD I 0 ≤ (zs.length : Int) - I - 1 ∧ txtB (textAt zs I) = true then (⟨2, 0, textAt zs I⟩, (I : Int) + 1 + zs.getD I 0, true) else (V.zero, 0, false) := by
      rw [← hok]
      rfl
    have e1 : getS zs I = if (0 ≤ (I : Int) ∧ (I : Int) + 1 ≤ zs.length) ∧ (I : Int) + 1 + zs.getD I 0 ≤ zs.length ∧ txtB (textAt zs I) = true then (textAt zs I, (I : Int) + 1 + zs.getD I 0, true) else (⟨#[]⟩, 0, false) := rfl
    rw [e1, Int.toNat_natCast, e0]
    by_cases h2 : (I : Int) + 1 + zs.getD I 0 ≤ zs.length ∧ txtB (textAt zs I) = true
    · rw [if_pos (c := _ ∧ _) ⟨by omega, h2.2⟩, if_pos (c := (0 ≤ (I : Int) ∧ (I : Int) + 1 ≤ zs.length) ∧ _) ⟨h1, h2⟩]
      rfl
    · rw [if_neg (c := zs.getD I 0 ≤ (zs.length : Int) - I - 1 ∧ _) (fun h => h2 ⟨by omega, h.2⟩), if_neg (c := (0 ≤ (I : Int) ∧ (I : Int) + 1 ≤ zs.length) ∧ _) (fun h => h2 h.2)]
      rfl
  · have e1 : getS zs i = (⟨#[]⟩, 0, false) := if_neg (fun h => h1 h.1)
    rw [e1, if_neg (fun h => h1 (by have := Num.inB_true.1 h.2; omega))]
    rfl
theorem getV_none {zs : List Int} {i ty : Int} (h1 : ¬ ty = 1) (h2 : ¬ ty = 2) : getV zs i ty = (V.zero, 0, false) := by
  unfold getV
  rw [if_neg h1, if_neg (fun h => h2 h.1)]

end Go.Proofs.Ythdcggohibaipaa

/- The contracts of impl's GetVal and DecPlain. -/
namespace Go.Proofs.Ythdcggohibaipaa
open Go.RowKit

/-- A list that is filled from its start on. -/
def fillV (pre : List V) (K : Nat) : List V := pre ++ List.replicate (K - pre.length) V.zero
theorem fillV_len {pre : List V} {K : Nat} (h : pre.length ≤ K) : (fillV pre K).length = K := by
  simp [fillV]
  omega
theorem fillV_set {pre : List V} {K : Nat} (x : V) (h : pre.length < K) : (fillV pre K).set pre.length x = fillV (pre ++ [x]) K := by
  unfold fillV
  rw [List.set_append_right _ _ (Nat.le_refl _), Nat.sub_self, show K - pre.length = (K - (pre ++ [x]).length) + 1 by simp; omega, List.replicate_succ, List.set_cons_zero]
  simp
theorem fillV_all {pre : List V} {K : Nat} (h : pre.length = K) : fillV pre K = pre := by simp [fillV, h]

end Go.Proofs.Ythdcggohibaipaa

/- The contracts of DrawEncFrame, l8Ints, DrawDecFrame, DrawRaised. -/
namespace Go.Proofs.Ythdcggohibaipaa
open Go.RowKit

theorem drawEncFrame (c : Code) (w : World) (h : c.In w) :
    Calls Try.prog 12 #[.slice c.a c.len c.cap] w fun e w' => ∃ (v : Value) (l : List V), e = .returned v ∧ AnyList l ∧ Own 61 3 w.heap.size w'.heap.size w' v l.length (vals l) ∧ Below w.heap.size w w' := by
  go_enter Try.func12, Try.ntmps12
  go_wp2_with fail
  refine (l1New c _ h).mono ?_
  rintro e w1 ⟨rfl, hc1, hb1⟩
  go_wp2_with fail
  refine (l5Any c _ _ hc1).mono ?_
  rintro e w2 ⟨v, l, rfl, H, o2, hc2, hg2⟩
  have O2 := o2.lower hb1.size
  go_wp2
  go_ret
  exact ⟨_, l, rfl, H, O2, below_cur hb1 hg2⟩

/-- A list that l8Ints draws. -/
def Ints8 (l : List V) : Prop := (1 ≤ l.length ∧ l.length ≤ 8) ∧ ∀ v ∈ l, OfTy 1 v
theorem Ints8.any {l : List V} (h : Ints8 l) : AnyList l := ⟨by have := h.1.2; omega, fun v hv => (h.2 v hv).fair⟩

set_option maxHeartbeats 1000000 in
theorem l8Ints (c : Code) (g : Nat) (w : World) (h : Cur c g w) :
    Calls Try.prog 61 #[.pointer (some ⟨g, 0, none⟩)] w (DrewVals c g w Ints8) := by
  have hgl := h.lt
  go_enter Try.func61, Try.ntmps61
  go_wp2_with fail
  refine (l3List c g (ty := 1) (.inl rfl) 7 _ (by omega) h).mono ?_
  rintro e w1 ⟨v1, l, rfl, ⟨hl7, hall⟩, o1, hc1, hg1⟩
  have G1 := (Going.start h).next hc1 hg1
  have HALL := Lib.hid hall
  clear hall hc1 hg1
  generalize hlc : l.length = lc at o1 hl7
  have HLC := Lib.hid hlc
  clear hlc
  obtain ⟨b2, cp2, rfl⟩ : ∃ b cp, v1 = .slice (some ⟨b, 0, none⟩) lc cp := by
    obtain ⟨b, cp, e, _⟩ := o1
    exact ⟨b, cp, e⟩
  go_wp2_with fail
  refine (l3Int c g _ G1.cur).mono ?_
  rintro e w3 ⟨x, rfl, HX, hc3, hg3⟩
  have G3 := G1.next hc3 hg3
  have O3 := (o1.draw hg3 hgl).wide hg3.size
  obtain ⟨xt, xn, xs⟩ := x
  have HX3 := Lib.hid HX
  have HVA : Hid (vals l ++ V.cs ⟨xt, xn, xs⟩ = vals (l ++ [(⟨xt, xn, xs⟩ : V)])) := by
    show _ = _
    simp [vals]
  clear HX hc3 hg3 o1 G1
  go_wp2_with (at_builtin; refine appendV_law Try.elemVals rfl _ _ rfl _ _ _ _ _ ⟨xt, xn, xs⟩ rfl O3 rfl (by unfold maxLen; omega) (by omega) ?_)
  intro v4 w4 o4 e4
  have G4 := G3.ext O3 (Nat.le_refl _) e4
  rw [HVA.out] at o4
  have O4 := Lib.hid o4
  clear o4 e4 O3 G3
  go_wp2
  go_ret
  refine ⟨_, l ++ [⟨xt, xn, xs⟩], rfl, ⟨?_, ?_⟩, by rw [List.length_append, List.length_singleton, HLC.out]; exact O4.out, G4.cur, G4.grown⟩
  · rw [List.length_append, List.length_singleton, HLC.out]
    omega
  · intro v hv
    rcases List.mem_append.1 hv with h1 | h1
    · exact HALL.out v h1
    · obtain rfl := List.mem_singleton.1 h1
      exact HX3.out

set_option maxHeartbeats 1000000 in
theorem drawDecFrame (c : Code) (w : World) (h : c.In w) :
    Calls Try.prog 28 #[.slice c.a c.len c.cap] w fun e w' => ∃ (v : Value) (zs : List Int) (k : Int), e = .returned (.tuple #[v, .int .i64 k]) ∧ I64 k ∧ Num.Bytes zs ∧ zs.length ≤ 2000 ∧ Own 5 1 w.heap.size w'.heap.size w' v zs.length (ints .u8 zs) ∧ Below w.heap.size w w' := by
  go_enter Try.func28, Try.ntmps28
  go_wp2_with fail
  refine (l1New c _ h).mono ?_
  rintro e w1 ⟨rfl, hc1, hb1⟩
  go_wp2_with fail
  refine (l8Ints c _ _ hc1).mono ?_
  rintro e w2 ⟨v2, l, rfl, hl, o2, hc2, hg2⟩
  have G2 := (Going.start hc1).next hc2 hg2
  have HA := Lib.hid hl.any
  obtain ⟨⟨hl1, hl2⟩, _⟩ := hl
  clear hc2 hg2
  go_wp2_with fail
  refine (l5Type c _ v2 l.length l w2 rfl hl1 (by omega) HA.out.2 o2.rd G2.cur).mono ?_
  rintro e w3 ⟨ty, k, rfl, _, hk, hc3, hg3⟩
  have G3 := G2.next hc3 hg3
  have O3 := (o2.draw hg3 hc1.lt).wide hg3.size
  clear hc3 hg3 o2 G2
  have HE := Lib.hid (sEncFrame v2 l w3 HA.out.sizes O3.rd)
  have HEL := Lib.hid (encF_len l)
  obtain ⟨b2, cp2, rfl⟩ : ∃ b cp, v2 = .slice (some ⟨b, 0, none⟩) l.length cp := by
    obtain ⟨b, cp, e, _⟩ := O3
    exact ⟨b, cp, e⟩
  generalize l.length = lc at *
  go_wp2_with fail
  refine HE.out.mono ?_
  rintro e w4 ⟨v4, rfl, o4, b4⟩
  have G4 := G3.below b4
  have hel := HEL.out
  clear HE G3 O3
  go_wp2_with fail
  refine (l1Bent c _ v4 (encF l).length (encF l) w4 (by omega) rfl (encF_bytes l) o4.at G4.cur).mono ?_
  rintro e w5 ⟨v5, zs, rfl, hby, hzl, o5, hc5, hg5⟩
  have G5 := G4.next hc5 hg5
  have HB5 := Lib.hid (below_cur hb1 G5.grown)
  have O5 := Lib.hid (o5.lower (show w.heap.size ≤ w4.heap.size by
    have h1 := hb1.size
    have h2 := G4.grown.size
    omega))
  have HZ : Hid (zs.length ≤ 2000) := by
    show _ ≤ _
    omega
  have HBY := Lib.hid hby
  obtain ⟨b5, cp5, rfl⟩ : ∃ b cp, v5 = .slice (some ⟨b, 0, none⟩) zs.length cp := by
    obtain ⟨b, cp, e, _⟩ := o5
    exact ⟨b, cp, e⟩
  clear o4 o5 hc5 hg5 hzl G4 G5 b4 hby
  go_wp2
  go_ret2
  exact ⟨_, zs, k, rfl, hk, HBY.out, HZ.out, O5.out, HB5.out⟩

set_option maxHeartbeats 1000000 in
theorem drawRaised (c : Code) (w : World) (h : c.In w) :
    Calls Try.prog 30 #[.slice c.a c.len c.cap] w fun e w' => ∃ (v : Value) (base : Int) (o : List Int), e = .returned (.tuple #[.int .i64 base, v]) ∧ o.length ≤ 100 ∧ Own 3 1 w.heap.size w'.heap.size w' v o.length (ints .i64 o) ∧ Below w.heap.size w w' := by
  go_enter Try.func30, Try.ntmps30
  go_wp2_with fail
  refine (l1New c _ h).mono ?_
  rintro e w1 ⟨rfl, hc1, hb1⟩
  go_wp2_with fail
  refine (l8Ints c _ _ hc1).mono ?_
  rintro e w2 ⟨v2, l, rfl, hl, o2, hc2, hg2⟩
  have G2 := (Going.start hc1).next hc2 hg2
  have HA := Lib.hid hl.any
  have z12 : Hid (w1.heap.size ≤ w2.heap.size) := hg2.size
  have z01 : Hid (w.heap.size ≤ w1.heap.size) := hb1.size
  have hgw : Hid (w.heap.size < w1.heap.size) := hc1.lt
  clear hc2 hg2 hl
  have HO := Lib.hid (sOffsets v2 l w2 HA.out.sizes o2.rd)
  have HB := Lib.hid (fun W (hW : Below w2.heap.size w2 W) => sBase v2 l W (o2.below hW (Nat.le_refl _)).rd)
  have hol := (off_len l).2
  obtain ⟨b2, cp2, rfl⟩ : ∃ b cp, v2 = .slice (some ⟨b, 0, none⟩) l.length cp := by
    obtain ⟨b, cp, e, _⟩ := o2
    exact ⟨b, cp, e⟩
  clear o2
  generalize l.length = lc at *
  generalize baseL l = bs at HB
  generalize offL l = o at HO hol
  go_wp2_with fail
  refine HO.out.mono ?_
  rintro e w3 ⟨v3, rfl, o3, b3⟩
  have G3 := G2.below b3
  replace o3 := o3.lower z12.out
  have HB3 := Lib.hid (HB.out _ b3)
  clear HO G2 b3 HB
  generalize hoc : o.length = oc at o3 hol
  have HOC := Lib.hid hoc
  clear hoc
  obtain ⟨b3, cp3, rfl⟩ : ∃ b cp, v3 = .slice (some ⟨b, 0, none⟩) oc cp := by
    obtain ⟨b, cp, e, _⟩ := o3
    exact ⟨b, cp, e⟩
  go_wp2_with fail
  refine HB3.out.mono ?_
  rintro e w' ⟨rfl, rfl⟩
  clear HB3
  go_wp2_with fail
  refine (l1Below c _ _ _ G3.cur).mono ?_
  rintro e w4 ⟨y, rfl, hy, hc4, hg4⟩
  have G4 := G3.next hc4 hg4
  have O4 := (o3.draw hg4 hgw.out).wide hg4.size
  clear o3 G3 hc4 hg4
  by_cases e0 : y = 0
  · subst e0
    go_wp2_with fail
    refine (l1Raw c _ _ G4.cur).mono ?_
    rintro e w5 ⟨x, rfl, hx, hc5, hg5⟩
    have G5 := G4.next hc5 hg5
    have O5 := Lib.hid (((O4.draw hg5 hgw.out).wide hg5.size).lower z01.out)
    have HB5 := Lib.hid (below_cur hb1 G5.grown)
    clear O4 G4 hc5 hg5 G5 hx
    go_wp2
    go_ret2
    exact ⟨_, x, o, rfl, by rw [HOC.out]; omega, by rw [HOC.out]; exact O5.out, HB5.out⟩
  · have b0 : (y == 0) = false := by simp [e0]
    by_cases e1 : y = 1
    · subst e1
      go_wp2_with fail
      refine (l1Raw c _ _ G4.cur).mono ?_
      rintro e w5 ⟨x, rfl, hx, hc5, hg5⟩
      have G5 := G4.next hc5 hg5
      have O5 := (O4.draw hg5 hgw.out).wide hg5.size
      have HVA : Hid (ints .i64 o ++ [.int .i64 x] = ints .i64 (o ++ [x])) := by
        show _ = _
        rw [ints_append]
        rfl
      clear O4 G4 hc5 hg5 hx
      go_wp2_with (at_builtin; refine append1_law Try.elemInts rfl _ _ rfl _ _ _ _ _ (.int .i64 x) rfl rfl O5 rfl (by unfold maxLen; omega) (by omega) ?_)
      intro v6 w6 o6 e6
      have G6 := G5.ext O5 (Nat.le_refl _) e6
      rw [HVA.out] at o6
      have O6 := Lib.hid (o6.lower z01.out)
      have HB6 := Lib.hid (below_cur hb1 G6.grown)
      clear o6 e6 O5 G5 G6
      go_wp2
      go_ret2
      exact ⟨_, bs, o ++ [x], rfl, by rw [List.length_append, List.length_singleton, HOC.out]; omega, by rw [List.length_append, List.length_singleton, HOC.out]; exact O6.out, HB6.out⟩
    · have b1 : (y == 1) = false := by simp [e1]
      have O5 := Lib.hid (O4.lower z01.out)
      have HB5 := Lib.hid (below_cur hb1 G4.grown)
      clear e0 e1 hy O4 G4
      go_wp2
      go_ret2
      exact ⟨_, bs, o, rfl, by rw [HOC.out]; omega, by rw [HOC.out]; exact O5.out, HB5.out⟩

end Go.Proofs.Ythdcggohibaipaa
