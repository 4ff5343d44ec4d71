/- The contracts of the model's RowText, l4Split and ParseVals. -/
import Derived.Test.YtdclbpbjdaefhaaDoorVNum
import Derived.Test.YtdclbpbjdaefhaaDoorR4
import Derived.Lib.ItoaLen
namespace Go.Proofs.YtdclbpbjdaefhaaDoor
open Go.RowKit

theorem valText_size (v : V) : (valText v).size ≤ 11 := by
  unfold valText
  split
  · rename_i hok
    split
    · rename_i ht
      have := Dig.itoa_len11 (n := v.n) (okV_num hok ht)
      simpa [ByteArray.size] using this
    · rename_i ht
      have h1 := okV_size hok ht
      have e : (⟨#[39]⟩ ++ v.s : ByteArray).size = 1 + v.s.size := by rw [ByteArray.size_append]; rfl
      omega
  · simp [ByteArray.size]
/-- RowText: the text so far, and one value more. -/
def addText (s : ByteArray) (v : V) : ByteArray := (s ++ ⟨#[32]⟩) ++ valText v
theorem addText_size (s : ByteArray) (v : V) : (addText s v).size ≤ s.size + 12 := by
  have := valText_size v
  unfold addText
  rw [ByteArray.size_append, ByteArray.size_append]
  have : (⟨#[32]⟩ : ByteArray).size = 1 := rfl
  omega
/-- RowText. -/
def rowText (r : R) : ByteArray := r.l.foldl addText (⟨#[35]⟩ ++ ⟨(Lib.itoa r.id).toArray⟩)
theorem foldText_size (l : List V) (s : ByteArray) : (l.foldl addText s).size ≤ s.size + 12 * l.length := by
  induction l generalizing s with
  | nil => simp
  | cons v l ih =>
    have h1 := ih (addText s v)
    have h2 := addText_size s v
    simp only [List.foldl_cons, List.length_cons]
    omega

set_option maxHeartbeats 1000000 in
theorem sRowText (r : R) (u : Value) (w : World) (h0 : -9223372036854775808 ≤ r.id) (h1 : r.id ≤ 9223372036854775807) (hn : r.l.length ≤ 1073741824) (hss : ∀ v ∈ r.l, v.s.size ≤ maxLen) (h : r.rd w u) :
    Calls Tryd.prog 6 #[r.agg u] w fun e w' => e = .returned (.string (rowText r)) ∧ Below w.heap.size w w' := by
  have B0 := below_alloc w (.cells #[.int .i64 r.id, u] 29)
  have T0 := two_new w (.int .i64 r.id) u 29
  obtain ⟨i, l⟩ := r
  simp only at h0 h1 hn hss B0 T0
  have HE : Hid (rowText ⟨i, l⟩ = l.foldl addText (⟨#[35]⟩ ++ ⟨(Lib.itoa i).toArray⟩)) := rfl
  have HN := Lib.hid (fun W => sNumText i W h0 h1)
  have hz : (Lib.itoa i).length ≤ 21 := Lib.itoa_length_le i h0 h1
  generalize hl : l.length = n at hn
  obtain ⟨a, cap, rfl, _, HC⟩ := Rd.vals (w := w) (u := u) (n := n) (l := l) (by have := h; unfold R.rd at this; simp only [hl] at this; exact this) hl
  have HL := Lib.hid hl
  have HSS : Hid (∀ k, k < n → (l.getD k V.zero).s.size ≤ maxLen) := fun k hk => by
    have hk' : k < l.length := by omega
    have e : l.getD k V.zero = l[k] := by simp [hk']
    rw [e]
    exact hss _ (List.getElem_mem hk')
  have hz2 : (⟨(Lib.itoa i).toArray⟩ : ByteArray).size ≤ 21 := by simpa [ByteArray.size] using hz
  generalize (⟨(Lib.itoa i).toArray⟩ : ByteArray) = d at HE HN hz2
  have hno : ¬ 9223372036854775807 < 1 + d.size := by omega
  have HT : Hid (∀ k, k < n → (l.take (k + 1)).foldl addText (⟨#[35]⟩ ++ d) = ((l.take k).foldl addText (⟨#[35]⟩ ++ d) ++ ⟨#[32]⟩) ++ valText (l.getD k V.zero)) := fun k hk => by
    have hk' : k < l.length := by omega
    have e : l.getD k V.zero = l[k] := by simp [hk']
    rw [e, List.take_succ_eq_append_getElem hk', List.foldl_append]
    rfl
  have HZ : Hid (∀ k, k ≤ n → ((l.take k).foldl addText (⟨#[35]⟩ ++ d)).size ≤ 1073741824 * 16) := fun k hk => by
    have h1 := foldText_size (l.take k) (⟨#[35]⟩ ++ d)
    have h2 : (⟨#[35]⟩ ++ d : ByteArray).size = 1 + d.size := by rw [ByteArray.size_append]; rfl
    have h3 : (l.take k).length ≤ n := by simp; omega
    omega
  clear h hl hss hz
  go_enter Tryd.func6, Tryd.ntmps6
  go_wp2_with fail
  refine (HN.out _).mono ?_
  rintro e w1 ⟨rfl, b1⟩
  have B1 := below_then B0 b1 B0.size
  replace T0 := T0.below b1
  clear b1 B0 HN
  go_wp2
  go_loopw [3, 4] (fun s i wr => ∃ k : Nat, k ≤ n ∧ i = .int .i64 k ∧ s = .string ((l.take k).foldl addText (⟨#[35]⟩ ++ d)) ∧ Below w1.heap.size w1 wr) (fun _ i _ => n - (intOf i).toNat)
  case atStart => exact ⟨0, Nat.zero_le _, rfl, rfl, Below.refl _ _⟩
  case round =>
    obtain ⟨k, hk, rfl, rfl, hbr⟩ := hrel
    obtain ⟨⟨p0, p1⟩, p2, p3⟩ := T0.below hbr
    have hzk := HZ.out k hk
    by_cases hlt : k < n
    · obtain ⟨b, off, rfl, c0, c1, c2⟩ := HC.out k hlt
      have hbw := below_then B1 hbr B1.size
      replace c0 := (hbw.cell (p := ⟨b, off + k * 3, none⟩) (lt_of_cell c0)).trans c0
      replace c1 := (hbw.cell (p := ⟨b, off + k * 3 + 1, none⟩) (lt_of_cell c1)).trans c1
      replace c2 := (hbw.cell (p := ⟨b, off + k * 3 + 2, none⟩) (lt_of_cell c2)).trans c2
      have HTK := Lib.hid (HT.out k hlt)
      have HV := Lib.hid (fun W => sValText (l.getD k V.zero) W (HSS.out k hlt))
      have hvz := valText_size (l.getD k V.zero)
      generalize (l.take k).foldl addText (⟨#[35]⟩ ++ d) = s at HTK hzk ⊢
      generalize hx : l.getD k V.zero = x at c0 c1 c2 HTK HV hvz
      clear hx
      generalize valText x = y at HTK HV hvz
      obtain ⟨xt, xn, xs⟩ := x
      simp only at c0 c1 c2
      have hn1 : ¬ 9223372036854775807 < s.size + 1 := by omega
      have hn2 : ¬ 9223372036854775807 < s.size + 1 + y.size := by omega
      go_wp2_with fail
      refine (HV.out _).mono ?_
      rintro e w2 ⟨rfl, hb2⟩
      clear p0 p1 p2 p3 c0 c1 c2 HV
      go_wp2
      go_roundw
      case rel => exact ⟨k + 1, by omega, by go_num, by rw [HTK.out], below_then hbr hb2 hbr.size⟩
      case measure => simp [intOf]; omega
    · obtain rfl : k = n := by omega
      rw [← HL.out, List.take_length, HL.out]
      go_wp2
      go_ret
      exact ⟨ret_str HE.out.symm, below_then B1 hbr B1.size⟩

end Go.Proofs.YtdclbpbjdaefhaaDoor
