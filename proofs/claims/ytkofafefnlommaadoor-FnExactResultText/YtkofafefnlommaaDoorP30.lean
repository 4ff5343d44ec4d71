/- Texts of this claim, one behind the other: VNum, S4T, S4P, Law4T, IValT. -/
import Derived.Test.YtkofafefnlommaaDoorP15
import Derived.Test.YtkofafefnlommaaDoorP29
import Derived.Test.YtkofafefnlommaaDoorP4
import Derived.Lib.ItoaLen
import Derived.Test.YtkofafefnlommaaDoorP16

/- The contracts of the model's ValText and ParseVal. -/
namespace Go.Proofs.YtkofafefnlommaaDoor
open Go.RowKit

/-- ValText. -/
def valText (v : V) : ByteArray := if okV v = true then (if v.ty = 1 then ⟨(Lib.itoa v.n).toArray⟩ else (⟨#[39]⟩ ++ v.s)) else ⟨#[]⟩
theorem ret_str {a b : ByteArray} (h : a = b) : Ending.returned (.string a) = .returned (.string b) := by rw [h]
theorem okV_size {v : V} (h : okV v = true) (ht : ¬ v.ty = 1) : v.s.size ≤ 6 := by
  unfold okV txtB at h
  rw [if_neg ht] at h
  simp only [Bool.and_eq_true, decide_eq_true_eq] at h
  exact h.2.2.1
theorem okV_num {v : V} (h : okV v = true) (ht : v.ty = 1) : -1000000000 ≤ v.n ∧ v.n ≤ 1000000000 := by
  unfold okV at h
  rw [if_pos ht] at h
  simp only [Bool.and_eq_true] at h
  exact Num.okB_true.1 h.1
theorem kept_box {w : World} {v : V} {e : TypeId} {W : World} (hb : Below (w.alloc (.cells #[.int .i64 v.ty, .int .i64 v.n, .string v.s] e)).heap.size (w.alloc (.cells #[.int .i64 v.ty, .int .i64 v.n, .string v.s] e)) W) :
    W.cell? ⟨w.heap.size, 0, none⟩ = some (.int .i64 v.ty) ∧ W.cell? ⟨w.heap.size, 1, none⟩ = some (.int .i64 v.n) ∧ W.cell? ⟨w.heap.size, 2, none⟩ = some (.string v.s) := by
  refine ⟨(hb.cell (p := ⟨w.heap.size, 0, none⟩) (by simp)).trans ?_, (hb.cell (p := ⟨w.heap.size, 1, none⟩) (by simp)).trans ?_, (hb.cell (p := ⟨w.heap.size, 2, none⟩) (by simp)).trans ?_⟩ <;> simp

set_option maxHeartbeats 400000 in
theorem sValText (v : V) (w : World) (hs : v.s.size ≤ maxLen) : Calls Tryd.prog 28 #[v.agg] w fun e w' => e = .returned (.string (valText v)) ∧ Below w.heap.size w w' := by
  have HO := Lib.hid (fun W => sValOk v W hs)
  have B0 := below_alloc w (.cells #[.int .i64 v.ty, .int .i64 v.n, .string v.s] 29)
  have HK := Lib.hid (fun (W : World) => kept_box (w := w) (v := v) (e := 29) (W := W))
  cases hok : okV v with
  | false =>
    have HE : Hid (valText v = ⟨#[]⟩) := if_neg (by rw [hok]; simp)
    rw [hok] at HO
    obtain ⟨t, n, s⟩ := v
    clear hok HK
    go_enter Tryd.func28, Tryd.ntmps28
    go_wp2_with fail
    refine (HO.out _).mono ?_
    rintro e w1 ⟨rfl, b1⟩
    have B1 := below_then B0 b1 B0.size
    clear b1
    go_wp2
    go_ret
    exact ⟨ret_str HE.out.symm, B1⟩
  | true =>
    have HE : Hid (valText v = if v.ty = 1 then ⟨(Lib.itoa v.n).toArray⟩ else (⟨#[39]⟩ ++ v.s)) := if_pos hok
    rw [hok] at HO
    by_cases ht : v.ty = 1
    · have hn := okV_num hok ht
      rw [if_pos ht] at HE
      obtain ⟨t, n, s⟩ := v
      simp only at ht hn HE HK B0
      subst ht
      have HN := Lib.hid (fun W => sNumText n W (by omega) (by omega))
      clear hok
      go_enter Tryd.func28, Tryd.ntmps28
      go_wp2_with fail
      refine (HO.out _).mono ?_
      rintro e w1 ⟨rfl, b1⟩
      have B1 := below_then B0 b1 B0.size
      obtain ⟨p0, p1, p2⟩ := HK.out _ b1
      clear b1
      go_wp2_with fail
      refine (HN.out _).mono ?_
      rintro e w2 ⟨rfl, b2⟩
      have B2 := below_then B1 b2 B1.size
      clear b2 p0 p1 p2
      go_wp2
      go_ret
      exact ⟨ret_str HE.out.symm, B2⟩
    · have hsz := okV_size hok ht
      rw [if_neg ht] at HE
      obtain ⟨t, n, s⟩ := v
      simp only at ht hsz HE HK B0
      have htb : (t == 1) = false := by simpa using ht
      have hno : ¬ 9223372036854775807 < 1 + s.size := by omega
      clear hok ht
      go_enter Tryd.func28, Tryd.ntmps28
      go_wp2_with fail
      refine (HO.out _).mono ?_
      rintro e w1 ⟨rfl, b1⟩
      have B1 := below_then B0 b1 B0.size
      obtain ⟨p0, p1, p2⟩ := HK.out _ b1
      clear b1
      go_wp2
      go_ret
      exact ⟨ret_str HE.out.symm, B1⟩

/-- What ParseVal takes a text for. -/
def guessV (s : ByteArray) : V := if 0 < s.size ∧ s.data.toList.head? = some 39 then ⟨2, 0, s.extract 1 s.size⟩ else ⟨1, (Dig.parse s.data.toList).1, ⟨#[]⟩⟩
/-- ParseVal. -/
def parseV (s : ByteArray) : V × Bool := if ¬ s.size = 0 ∧ valText (guessV s) = s then (guessV s, true) else (V.zero, false)

theorem str_ne {a b : ByteArray} (h : ¬ a = b) : (a.toList == b.toList) = false := by
  have : ¬ a.toList = b.toList := fun e => h (by
    rw [ByteArray.toList_eq, ByteArray.toList_eq] at e
    apply ByteArray.ext
    exact Array.toList_inj.1 e)
  simpa using this
end Go.Proofs.YtkofafefnlommaaDoor

/- The contracts of the model's RowText, l4Split and ParseVals. -/
namespace Go.Proofs.YtkofafefnlommaaDoor
open Go.RowKit

theorem valText_size (v : V) : (valText v).size ≤ 11 := by
  unfold valText
  split
  · rename_i hok
    split
    · rename_i ht
      have := Dig.itoa_len11 (n := v.n) (okV_num hok ht)
      simpa [ByteArray.size] using this
    · rename_i ht
      have h1 := okV_size hok ht
      have e : (⟨#[39]⟩ ++ v.s : ByteArray).size = 1 + v.s.size := by rw [ByteArray.size_append]; rfl
      omega
  · simp [ByteArray.size]
/-- RowText: the text so far, and one value more. -/
def addText (s : ByteArray) (v : V) : ByteArray := (s ++ ⟨#[32]⟩) ++ valText v
theorem addText_size (s : ByteArray) (v : V) : (addText s v).size ≤ s.size + 12 := by
  have := valText_size v
  unfold addText
  rw [ByteArray.size_append, ByteArray.size_append]
  have : (⟨#[32]⟩ : ByteArray).size = 1 := rfl
  omega
/-- RowText. -/
def rowText (r : R) : ByteArray := r.l.foldl addText (⟨#[35]⟩ ++ ⟨(Lib.itoa r.id).toArray⟩)
theorem foldText_size (l : List V) (s : ByteArray) : (l.foldl addText s).size ≤ s.size + 12 * l.length := by
  induction l generalizing s with
  | nil => simp
  | cons v l ih =>
    have h1 := ih (addText s v)
    have h2 := addText_size s v
    simp only [List.foldl_cons, List.length_cons]
    omega

set_option maxHeartbeats 1000000 in
theorem sRowText (r : R) (u : Value) (w : World) (h0 : -9223372036854775808 ≤ r.id) (h1 : r.id ≤ 9223372036854775807) (hn : r.l.length ≤ 1073741824) (hss : ∀ v ∈ r.l, v.s.size ≤ maxLen) (h : r.rd w u) :
    Calls Tryd.prog 40 #[r.agg u] w fun e w' => e = .returned (.string (rowText r)) ∧ Below w.heap.size w w' := by
  have B0 := below_alloc w (.cells #[.int .i64 r.id, u] 91)
  have T0 := two_new w (.int .i64 r.id) u 91
  obtain ⟨i, l⟩ := r
  simp only at h0 h1 hn hss B0 T0
  have HE : Hid (rowText ⟨i, l⟩ = l.foldl addText (⟨#[35]⟩ ++ ⟨(Lib.itoa i).toArray⟩)) := rfl
  have HN := Lib.hid (fun W => sNumText i W h0 h1)
  have hz : (Lib.itoa i).length ≤ 21 := Lib.itoa_length_le i h0 h1
  generalize hl : l.length = n at hn
  obtain ⟨a, cap, rfl, _, HC⟩ := Rd.vals (w := w) (u := u) (n := n) (l := l) (by have := h; unfold R.rd at this; simp only [hl] at this; exact this) hl
  have HL := Lib.hid hl
  have HSS : Hid (∀ k, k < n → (l.getD k V.zero).s.size ≤ maxLen) := fun k hk => by
    have hk' : k < l.length := by omega
    have e : l.getD k V.zero = l[k] := by simp [hk']
    rw [e]
    exact hss _ (List.getElem_mem hk')
  have hz2 : (⟨(Lib.itoa i).toArray⟩ : ByteArray).size ≤ 21 := by simpa [ByteArray.size] using hz
  generalize (⟨(Lib.itoa i).toArray⟩ : ByteArray) = d at HE HN hz2
  have hno : ¬ 9223372036854775807 < 1 + d.size := by omega
  have HT : Hid (∀ k, k < n → (l.take (k + 1)).foldl addText (⟨#[35]⟩ ++ d) = ((l.take k).foldl addText (⟨#[35]⟩ ++ d) ++ ⟨#[32]⟩) ++ valText (l.getD k V.zero)) := fun k hk => by
    have hk' : k < l.length := by omega
    have e : l.getD k V.zero = l[k] := by simp [hk']
    rw [e, List.take_succ_eq_append_getElem hk', List.foldl_append]
    rfl
  have HZ : Hid (∀ k, k ≤ n → ((l.take k).foldl addText (⟨#[35]⟩ ++ d)).size ≤ 1073741824 * 16) := fun k hk => by
    have h1 := foldText_size (l.take k) (⟨#[35]⟩ ++ d)
    have h2 : (⟨#[35]⟩ ++ d : ByteArray).size = 1 + d.size := by rw [ByteArray.size_append]; rfl
    have h3 : (l.take k).length ≤ n := by simp; omega
    omega
  clear h hl hss hz
  go_enter Tryd.func40, Tryd.ntmps40
  go_wp2_with fail
  refine (HN.out _).mono ?_
  rintro e w1 ⟨rfl, b1⟩
  have B1 := below_then B0 b1 B0.size
  replace T0 := T0.below b1
  clear b1 B0 HN
  go_wp2
  go_loopw [3, 4] (fun s i wr => ∃ k : Nat, k ≤ n ∧ i = .int .i64 k ∧ s = .string ((l.take k).foldl addText (⟨#[35]⟩ ++ d)) ∧ Below w1.heap.size w1 wr) (fun _ i _ => n - (intOf i).toNat)
  case atStart => exact ⟨0, Nat.zero_le _, rfl, rfl, Below.refl _ _⟩
  case round =>
    obtain ⟨k, hk, rfl, rfl, hbr⟩ := hrel
    obtain ⟨⟨p0, p1⟩, p2, p3⟩ := T0.below hbr
    have hzk := HZ.out k hk
    by_cases hlt : k < n
    · obtain ⟨b, off, rfl, c0, c1, c2⟩ := HC.out k hlt
      have hbw := below_then B1 hbr B1.size
      replace c0 := (hbw.cell (p := ⟨b, off + k * 3, none⟩) (lt_of_cell c0)).trans c0
      replace c1 := (hbw.cell (p := ⟨b, off + k * 3 + 1, none⟩) (lt_of_cell c1)).trans c1
      replace c2 := (hbw.cell (p := ⟨b, off + k * 3 + 2, none⟩) (lt_of_cell c2)).trans c2
      have HTK := Lib.hid (HT.out k hlt)
      have HV := Lib.hid (fun W => sValText (l.getD k V.zero) W (HSS.out k hlt))
      have hvz := valText_size (l.getD k V.zero)
      generalize (l.take k).foldl addText (⟨#[35]⟩ ++ d) = s at HTK hzk ⊢
      generalize hx : l.getD k V.zero = x at c0 c1 c2 HTK HV hvz
      clear hx
      generalize valText x = y at HTK HV hvz
      obtain ⟨xt, xn, xs⟩ := x
      simp only at c0 c1 c2
      have hn1 : ¬ 9223372036854775807 < s.size + 1 := by omega
      have hn2 : ¬ 9223372036854775807 < s.size + 1 + y.size := by omega
      go_wp2_with fail
      refine (HV.out _).mono ?_
      rintro e w2 ⟨rfl, hb2⟩
      clear p0 p1 p2 p3 c0 c1 c2 HV
      go_wp2
      go_roundw
      case rel => exact ⟨k + 1, by omega, by go_num, by rw [HTK.out], below_then hbr hb2 hbr.size⟩
      case measure => simp [intOf]; omega
    · obtain rfl : k = n := by omega
      rw [← HL.out, List.take_length, HL.out]
      go_wp2
      go_ret
      exact ⟨ret_str HE.out.symm, below_then B1 hbr B1.size⟩

end Go.Proofs.YtkofafefnlommaaDoor

/- The contracts of the model's l4Split and ParseVals. -/
namespace Go.Proofs.YtkofafefnlommaaDoor
open Go.RowKit

/-- The parts of a text between bytes. -/
def cuts (by_ : UInt8) : List UInt8 → List (List UInt8)
  | [] => [[]]
  | c :: r => if c = by_ then [] :: cuts by_ r else match cuts by_ r with
    | [] => [[c]]
    | p :: ps => (c :: p) :: ps
theorem cuts_ne (b : UInt8) (l : List UInt8) : cuts b l ≠ [] := by
  cases l with
  | nil => simp [cuts]
  | cons c r =>
    rw [cuts]
    split
    · simp
    · split <;> simp
theorem cuts_none {b : UInt8} {l : List UInt8} (h : ∀ k (hk : k < l.length), l[k] ≠ b) : cuts b l = [l] := by
  induction l with
  | nil => rfl
  | cons c r ih =>
    have h0 := h 0 (by simp)
    rw [cuts, if_neg (by simpa using h0), ih (fun k hk => h (k + 1) (by simpa using hk))]
theorem cuts_sep {b : UInt8} {l : List UInt8} {m : Nat} (hm : m < l.length) (h : ∀ k (hk : k < l.length), k < m → l[k] ≠ b) (hb : l[m] = b) : cuts b l = l.take m :: cuts b (l.drop (m + 1)) := by
  induction l generalizing m with
  | nil => simp at hm
  | cons c r ih =>
    cases m with
    | zero =>
      simp only [List.getElem_cons_zero] at hb
      rw [cuts, if_pos hb]
      simp
    | succ m =>
      have h0 := h 0 (by simp) (by omega)
      simp only [List.getElem_cons_zero] at h0
      rw [cuts, if_neg h0, ih (m := m) (by simpa using hm) (fun k hk hkm => h (k + 1) (by simpa using hk) (by omega)) (by simpa using hb)]
      simp
theorem cuts_len (b : UInt8) (l : List UInt8) : (cuts b l).length ≤ l.length + 1 := by
  induction l with
  | nil => simp [cuts]
  | cons c r ih =>
    rw [cuts]
    split
    · simp; omega
    · split
      · simp
      · rename_i p ps e
        rw [e] at ih
        simp at ih ⊢
        omega
theorem cuts_part {b : UInt8} {l : List UInt8} {p : List UInt8} (h : p ∈ cuts b l) : p.length ≤ l.length := by
  induction l generalizing p with
  | nil => simp [cuts] at h; simp [h]
  | cons c r ih =>
    rw [cuts] at h
    split at h
    · rcases List.mem_cons.1 h with rfl | h
      · simp
      · have := ih h
        simp; omega
    · split at h
      · simp at h
        simp [h]
      · rename_i q qs e
        rcases List.mem_cons.1 h with rfl | h
        · have := ih (p := q) (by rw [e]; simp)
          simp; omega
        · have := ih (p := p) (by rw [e]; exact List.mem_cons_of_mem _ h)
          simp; omega
/-- As strings. -/
def bas (l : List (List UInt8)) : List ByteArray := l.map fun p => ⟨p.toArray⟩

theorem extract_list (l : List UInt8) (f i : Nat) : (⟨l.toArray⟩ : ByteArray).extract f i = ⟨((l.drop f).take (i - f)).toArray⟩ := by
  apply ByteArray.ext
  apply Array.toList_inj.1
  simp [ByteArray.data_extract, List.take_drop]
  try (rw [List.take_drop])

/-- What l4Split has found when it stands at i, the part begun at f. -/
def SplitAt (b : UInt8) (l : List UInt8) (i f : Nat) (out : List (List UInt8)) : Prop :=
  (f ≤ i ∧ i ≤ l.length ∧ out ++ cuts b (l.drop f) = cuts b l ∧ ∀ k (hk : k < l.length), f ≤ k → k < i → l[k] ≠ b) ∨ (i = l.length + 1 ∧ out = cuts b l)
theorem SplitAt.on {b : UInt8} {l : List UInt8} {i f : Nat} {out : List (List UInt8)} (h : SplitAt b l i f out) (hi : i < l.length) (hne : l[i] ≠ b) : SplitAt b l (i + 1) f out := by
  rcases h with ⟨h1, h2, h3, h4⟩ | ⟨h1, _⟩
  · refine .inl ⟨by omega, by omega, h3, fun k hk hf hki => ?_⟩
    by_cases e : k = i
    · subst e; exact hne
    · exact h4 k hk hf (by omega)
  · omega
theorem SplitAt.cut {b : UInt8} {l : List UInt8} {i f : Nat} {out : List (List UInt8)} (h : SplitAt b l i f out) (hi : i < l.length) (he : l[i] = b) : SplitAt b l (i + 1) (i + 1) (out ++ [(l.drop f).take (i - f)]) := by
  rcases h with ⟨h1, h2, h3, h4⟩ | ⟨h1, _⟩
  · refine .inl ⟨Nat.le_refl _, by omega, ?_, fun k hk hf hki => by omega⟩
    have hs := cuts_sep (b := b) (l := l.drop f) (m := i - f) (by simp; omega) (fun k hk hkm => by
      rw [List.getElem_drop]
      exact h4 (f + k) (by simp at hk; omega) (by omega) (by omega)) (by
      rw [List.getElem_drop]
      simp only [show f + (i - f) = i by omega]
      exact he)
    rw [hs, List.drop_drop, show f + (i - f + 1) = i + 1 by omega] at h3
    rw [List.append_assoc]
    exact h3
  · omega
theorem SplitAt.last {b : UInt8} {l : List UInt8} {f : Nat} {out : List (List UInt8)} (h : SplitAt b l l.length f out) : SplitAt b l (l.length + 1) (l.length + 1) (out ++ [(l.drop f).take (l.length - f)]) := by
  rcases h with ⟨h1, h2, h3, h4⟩ | ⟨h1, _⟩
  · refine .inr ⟨rfl, ?_⟩
    rw [cuts_none (l := l.drop f) (fun k hk => by
      rw [List.getElem_drop]
      exact h4 (f + k) (by simp at hk; omega) (by omega) (by simp at hk; omega))] at h3
    rw [← h3, List.take_of_length_le (by simp)]
  · omega
theorem SplitAt.le {b : UInt8} {l : List UInt8} {i f : Nat} {out : List (List UInt8)} (h : SplitAt b l i f out) (hi : i ≤ l.length) : f ≤ i ∧ out.length ≤ l.length + 1 := by
  rcases h with ⟨h1, h2, h3, h4⟩ | ⟨h1, _⟩
  · have := congrArg List.length h3
    rw [List.length_append] at this
    have := cuts_len b l
    exact ⟨h1, by omega⟩
  · omega

/-- The values of a list of texts. -/
def parsesV (l : List (List UInt8)) : List V × Bool := if l.all (fun p => (parseV ⟨p.toArray⟩).2) = true then (l.map fun p => (parseV ⟨p.toArray⟩).1, true) else ([], false)
/-- ParseVals. -/
def parseVs (l : List UInt8) : List V × Bool := parsesV (cuts 32 l)
/-- What ParseVals returns. -/
def RVs (w w' : World) (e : Ending) (r : List V × Bool) : Prop := ∃ v', e = .returned (.tuple #[v', .bool r.2]) ∧ Own 29 3 w.heap.size w'.heap.size w' v' r.1.length (vals r.1) ∧ Below w.heap.size w w'
theorem Rd.strs {w : World} {u : Value} {n : Nat} {l : List ByteArray} (h : Rd 1 w u n (strs l)) (hl : l.length = n) :
    ∃ a cap, u = .slice a n cap ∧ n ≤ maxLen ∧ Hid (∀ k, k < n → ∃ b off, a = some ⟨b, off, none⟩ ∧ w.cell? ⟨b, off + k, none⟩ = some (.string (l.getD k ⟨#[]⟩))) := by
  obtain ⟨a, cap, rfl, hn, _, hx⟩ := h
  refine ⟨a, cap, rfl, hn, fun k hk => ?_⟩
  rcases hx with h0 | ⟨b, off, rfl, hc⟩
  · omega
  · exact ⟨b, off, rfl, hc k _ (strs_get (by omega))⟩

end Go.Proofs.YtkofafefnlommaaDoor

/- The exact laws of RowText and ParseVals, walked; the program's own contracts come as hypotheses. -/
namespace Go.Proofs.YtkofafefnlommaaDoor
open Go.RowKit

def CRowText : Prop := ∀ (r : R) (u : Value) (w : World), -9223372036854775808 ≤ r.id → r.id ≤ 9223372036854775807 → r.l.length ≤ 1048576 → (∀ v ∈ r.l, v.s.size ≤ maxLen) → r.rd w u → Tab w → Calls Tryd.prog 91 #[r.agg u] w fun e w' => e = .returned (.string (rowText r)) ∧ Below w.heap.size w w'
theorem R.of_own {e lo hi w v n} {r : R} (h : Own e 3 lo hi w v n (vals r.l)) (hn : r.l.length = n) : r.rd w v := by
  subst hn
  exact h.rd

theorem parseVs_len (l : List UInt8) : (parseVs l).1.length ≤ l.length + 1 := by
  have := cuts_len 32 l
  unfold parseVs parsesV
  split
  · simpa using this
  · simp

end Go.Proofs.YtkofafefnlommaaDoor

/- The contracts of impl's ValText and ParseVal. -/
namespace Go.Proofs.YtkofafefnlommaaDoor
open Go.RowKit

set_option maxHeartbeats 400000 in
theorem iValText (v : V) (w : World) (hs : v.s.size ≤ maxLen) (hT : Tab w) : Calls Tryd.prog 57 #[v.agg] w fun e w' => e = .returned (.string (valText v)) ∧ Below w.heap.size w w' := by
  have HO := Lib.hid (fun W => iValOk v W hs)
  have B0 := below_alloc w (.cells #[.int .i64 v.ty, .int .i64 v.n, .string v.s] 29)
  have HK := Lib.hid (fun (W : World) => kept_box (w := w) (v := v) (e := 29) (W := W))
  have HTB := Lib.hid hT
  clear hT
  cases hok : okV v with
  | false =>
    have HE : Hid (valText v = ⟨#[]⟩) := if_neg (by rw [hok]; simp)
    rw [hok] at HO
    obtain ⟨t, n, s⟩ := v
    clear hok HK
    go_enter Tryd.func57, Tryd.ntmps57
    go_wp2_with fail
    refine (HO.out _).mono ?_
    rintro e w1 ⟨rfl, b1⟩
    have B1 := below_then B0 b1 B0.size
    clear b1
    go_wp2
    go_ret
    exact ⟨ret_str HE.out.symm, B1⟩
  | true =>
    have HE : Hid (valText v = if v.ty = 1 then ⟨(Lib.itoa v.n).toArray⟩ else (⟨#[39]⟩ ++ v.s)) := if_pos hok
    rw [hok] at HO
    by_cases ht : v.ty = 1
    · have hn := okV_num hok ht
      rw [if_pos ht] at HE
      obtain ⟨t, n, s⟩ := v
      simp only at ht hn HE HK B0
      subst ht
      have HN := Lib.hid (fun W => iNumText n W (by omega) (by omega))
      clear hok
      go_enter Tryd.func57, Tryd.ntmps57
      go_wp2_with fail
      refine (HO.out _).mono ?_
      rintro e w1 ⟨rfl, b1⟩
      have B1 := below_then B0 b1 B0.size
      obtain ⟨p0, p1, p2⟩ := HK.out _ b1
      clear b1
      go_wp2_with fail
      refine (HN.out _ (HTB.out.below B1)).mono ?_
      rintro e w2 ⟨rfl, b2⟩
      have B2 := below_then B1 b2 B1.size
      clear b2 p0 p1 p2
      go_wp2
      go_ret
      exact ⟨ret_str HE.out.symm, B2⟩
    · have hsz := okV_size hok ht
      rw [if_neg ht] at HE
      obtain ⟨t, n, s⟩ := v
      simp only at ht hsz HE HK B0
      have htb : (t == 1) = false := by simpa using ht
      have hno : ¬ 9223372036854775807 < 1 + s.size := by omega
      clear hok ht
      go_enter Tryd.func57, Tryd.ntmps57
      go_wp2_with fail
      refine (HO.out _).mono ?_
      rintro e w1 ⟨rfl, b1⟩
      have B1 := below_then B0 b1 B0.size
      obtain ⟨p0, p1, p2⟩ := HK.out _ b1
      clear b1
      go_wp2
      go_ret
      exact ⟨ret_str HE.out.symm, B1⟩

theorem parseV_mark (r : List UInt8) : parseV ⟨(39 :: r).toArray⟩ = if okV ⟨2, 0, ⟨r.toArray⟩⟩ = true then (⟨2, 0, ⟨r.toArray⟩⟩, true) else (V.zero, false) := by
  have e : (⟨(39 :: r).toArray⟩ : ByteArray).extract 1 (⟨(39 :: r).toArray⟩ : ByteArray).size = ⟨r.toArray⟩ := by
    apply ByteArray.ext
    apply Array.toList_inj.1
    simp [ByteArray.size]
  have hg : guessV ⟨(39 :: r).toArray⟩ = ⟨2, 0, ⟨r.toArray⟩⟩ := by
    unfold guessV
    rw [if_pos ⟨by simp [ByteArray.size], by simp⟩, e]
  unfold parseV
  rw [hg]
  cases h : okV ⟨2, 0, ⟨r.toArray⟩⟩ with
  | true =>
    rw [if_pos rfl, if_pos]
    refine ⟨by simp [ByteArray.size], ?_⟩
    unfold valText
    rw [if_pos h, if_neg (show ¬ (2 : Int) = 1 by decide)]
    apply ByteArray.ext
    apply Array.toList_inj.1
    simp
  | false =>
    rw [if_neg (show ¬ false = true by simp), if_neg]
    rintro ⟨_, h2⟩
    unfold valText at h2
    rw [if_neg (by rw [h]; simp)] at h2
    have := congrArg ByteArray.size h2
    simp [ByteArray.size] at this
theorem parseV_num {l : List UInt8} (hh : ¬ l.head? = some 39) {n : Int} (h : Dig.parse l = (n, true)) : parseV ⟨l.toArray⟩ = (⟨1, n, ⟨#[]⟩⟩, true) ∧ okV ⟨1, n, ⟨#[]⟩⟩ = true := by
  have hg : guessV ⟨l.toArray⟩ = ⟨1, n, ⟨#[]⟩⟩ := by
    unfold guessV
    rw [if_neg (fun e => hh (by simpa using e.2))]
    show (⟨1, (Dig.parse l).1, ⟨#[]⟩⟩ : V) = _
    rw [h]
  obtain ⟨h1, h2⟩ := Dig.parse_true h
  have hok : okV ⟨1, n, ⟨#[]⟩⟩ = true := by
    unfold okV
    rw [if_pos rfl]
    simp only [Num.okB_true.2 h2]
    rfl
  refine ⟨?_, hok⟩
  unfold parseV
  rw [hg, if_pos]
  refine ⟨fun e => ?_, ?_⟩
  · have hl : l = [] := by
      apply List.eq_nil_of_length_eq_zero
      simpa [ByteArray.size] using e
    rw [hl] at h1
    rcases Dig.itoa_cases n with ⟨u, _, _, e⟩ | ⟨u, _, e⟩
    · rw [e] at h1
      cases h1
    · rw [e] at h1
      exact Dig.decDigits_ne u h1
  · unfold valText
    rw [if_pos hok, if_pos rfl, h1]
theorem parseV_no {l : List UInt8} (hh : ¬ l.head? = some 39) {n : Int} (h : Dig.parse l = (n, false)) : parseV ⟨l.toArray⟩ = (V.zero, false) := by
  have hn : n = 0 := by
    unfold Dig.parse at h
    split at h
    · split at h
      · split at h
        · simp at h
        · simpa using (congrArg Prod.fst h).symm
      · simpa using (congrArg Prod.fst h).symm
    · simpa using (congrArg Prod.fst h).symm
  subst hn
  have hg : guessV ⟨l.toArray⟩ = ⟨1, 0, ⟨#[]⟩⟩ := by
    unfold guessV
    rw [if_neg (fun e => hh (by simpa using e.2))]
    show (⟨1, (Dig.parse l).1, ⟨#[]⟩⟩ : V) = _
    rw [h]
  unfold parseV
  rw [hg, if_neg]
  rintro ⟨_, h2⟩
  unfold valText at h2
  rw [if_pos (by decide), if_pos rfl] at h2
  have e : Lib.itoa 0 = l := by
    have := congrArg (fun b : ByteArray => b.data.toList) h2
    simpa using this
  have h3 := Dig.parse_itoa_ok (n := 0) (Num.okB_true.1 (by decide))
  rw [e, h] at h3
  simp at h3

theorem okV_zero : okV V.zero = false := by decide

theorem Held.put {W : World} {b : Nat} {v : V} (h : Held W b v) (t n : Int) (s : ByteArray) : Held (((W.setCell ⟨b, 0, none⟩ (.int .i64 t)).setCell ⟨b, 1, none⟩ (.int .i64 n)).setCell ⟨b, 2, none⟩ (.string s)) b ⟨t, n, s⟩ := by
  refine ⟨⟨?_, ?_, ?_⟩, ?_, ?_, ?_⟩
  · rw [World.cell?_setCell_other _ _ _ _ (by simp), World.cell?_setCell_other _ _ _ _ (by simp)]
    exact World.cell?_setCell_same _ _ _ h.1.1
  · rw [World.cell?_setCell_other _ _ _ _ (by simp)]
    exact World.cell?_setCell_same _ _ _ (by rw [World.cell?_setCell_other _ _ _ _ (by simp)]; exact h.1.2.1)
  · exact World.cell?_setCell_same _ _ _ (by rw [World.cell?_setCell_other _ _ _ _ (by simp), World.cell?_setCell_other _ _ _ _ (by simp)]; exact h.1.2.2)
  · rw [World.frozen?_setCell, World.frozen?_setCell, World.frozen?_setCell]; exact h.2.1
  · rw [World.frozen?_setCell, World.frozen?_setCell, World.frozen?_setCell]; exact h.2.2.1
  · rw [World.frozen?_setCell, World.frozen?_setCell, World.frozen?_setCell]; exact h.2.2.2

end Go.Proofs.YtkofafefnlommaaDoor
