/- Texts of this claim, one behind the other: VText. -/
import Derived.Test.YtkofafefnlommaaP8
import Derived.Test.YtkofafefnlommaaP9

/- The laws' markText, and their helpers over slices of strings. -/
namespace Go.Proofs.Ytkofafefnlommaa
open Go.RowKit

/-- What markText returns from 1 on. -/
def mtext (k : Nat) : ByteArray := ⟨(109 :: Lib.decDigits k).toArray⟩
theorem str_m (l : List UInt8) : ({ data := #[109] } ++ { data := l.toArray } : ByteArray) = { data := (109 :: l).toArray } := by
  rw [ByteArray.mk_append_mk]
  simp

set_option maxHeartbeats 400000 in
theorem markText (k : Nat) (w : World) (h0 : 0 < k) (h1 : k ≤ 1099511627776) :
    Calls Try.prog 74 #[.int .i64 k] w fun e w' => e = .returned (.string (mtext k)) ∧ Below w.heap.size w w' := by
  have hk2 : k < 18446744073709551616 := by omega
  go_enter Try.func74, Try.ntmps74
  go_wp2
  go_loopw [0, 3] (fun q o wr => ∃ (c : Nat) (l : List UInt8), c ≤ k ∧ q = .int .i64 c ∧ o = .string ⟨l.toArray⟩ ∧ Digs k c l ∧ Below w.heap.size w wr) (fun q _ _ => (intOf q).toNat)
  case atStart => exact ⟨k, [], Nat.le_refl _, rfl, rfl, digs_start h0, Below.refl _ _⟩
  case round =>
    obtain ⟨c, l, hc, rfl, rfl, hd, hbr⟩ := hrel
    have HD := Lib.hid hd
    clear hd
    have hl20 := digs_len HD.out hk2
    have hno : ¬ 9223372036854775807 < 1 + l.length := by omega
    by_cases hp : 0 < c
    · have kc1 := fun (W : World) => conv_int W ((c : Int) % 10) (c % 10) (by omega) (by omega)
      go_wp2
      go_roundw
      case rel => exact ⟨c / 10, UInt8.ofNat (48 + c % 10) :: l, by omega, by go_num, str_cons _ _, digs_step HD.out hp, hbr.alloc hbr.size _⟩
      case measure => simp [intOf]; omega
    · obtain rfl : c = 0 := by omega
      have HE : Hid (mtext k = ({ data := #[109] } ++ { data := l.toArray } : ByteArray)) := by
        show mtext k = _
        unfold mtext
        rw [str_m, digs_end HD.out]
      go_wp2
      go_ret
      exact ⟨congrArg (fun s => Ending.returned (.string s)) HE.out.symm, hbr⟩

theorem grown_of_below_at {w w' : World} {row : Option Nat} (h : Below w.heap.size w w') : w.grownBy w' row := ⟨h.os, h.tape, h.output, h.size, fun k hk _ => h.block k hk⟩

/-- What markValS leaves. -/
def vmarks (s n : Nat) : List V := (List.range n).map fun j => ⟨(s + 3 * j : Nat), ((s + 3 * j : Nat) : Int) + 1, mtext (s + 3 * j + 2)⟩
theorem vmarks_len (s n : Nat) : (vmarks s n).length = n := by simp [vmarks]
theorem vmarks_get {s n k : Nat} (h : k < n) : (vmarks s n).getD k V.zero = ⟨(s + 3 * k : Nat), ((s + 3 * k : Nat) : Int) + 1, mtext (s + 3 * k + 2)⟩ := by simp [vmarks, h]
theorem vmarks_set {s k m : Nat} {l : List V} (h : k < l.length) (hm : s + 3 * k = m) : (vmarks s k ++ l.drop k).set k ⟨m, (m : Int) + 1, mtext (m + 2)⟩ = vmarks s (k + 1) ++ l.drop (k + 1) := by
  subst hm
  rw [List.set_append_right _ _ (by rw [vmarks_len]; exact Nat.le_refl _), vmarks_len, Nat.sub_self, List.drop_eq_getElem_cons h, List.set_cons_zero]
  unfold vmarks
  rw [List.range_succ, List.map_append, List.append_assoc]
  rfl

set_option maxHeartbeats 1000000 in
theorem markValM (v : Value) (n lo hi : Nat) (l : List V) (s : Nat) (w : World) (h0 : 0 < s) (hs : s ≤ 1073741824) (hn : n ≤ 1073741824) (hl : l.length = n) (h : Own 76 3 lo hi w v n (vals l)) :
    Calls Try.prog 57 #[v, .int .i64 s] w fun e w' => e = .returned (.int .i64 (s + 3 * n : Nat)) ∧ Own 76 3 lo hi w' v n (vals (vmarks s n)) ∧ w.grownBy w' v.ownBlock := by
  obtain ⟨g, cap, rfl, hlo, hhi, hown⟩ := h
  have HL := Lib.hid hl
  clear hl
  go_enter Try.func57, Try.ntmps57
  go_wp2
  go_loopw [1, 5] (fun q i wr => ∃ (k : Nat) (l' : List V), k ≤ n ∧ (l'.length = n ∧ l' = vmarks s k ++ l.drop k) ∧ i = .int .i64 k ∧ q = .int .i64 (s + 3 * k : Nat) ∧ wr.ownsRow lo 76 3 (.slice (some ⟨g, 0, none⟩) n cap) n (vals l') ∧ w.grownBy wr (some g)) (fun _ i _ => n - (intOf i).toNat)
  case atStart => exact ⟨0, l, Nat.zero_le _, ⟨HL.out, by simp [vmarks]⟩, rfl, rfl, hown, grownBy_refl _ _⟩
  case round =>
    obtain ⟨k, l', hk, ⟨hl', hv'⟩, rfl, rfl, hownr, hgr⟩ := hrel
    have HV' := Lib.hid hv'
    clear hv'
    have HL' := Lib.hid hl'
    clear hl'
    by_cases hkl : k < n
    · obtain ⟨x0, s0⟩ := cellAt_some hownr (k * 3) (by omega)
      obtain ⟨x1, s1⟩ := cellAt_some hownr (k * 3 + 1) (by omega)
      have f0 := hownr.frozenAt (k * 3)
      have f1 := hownr.frozenAt (k * 3 + 1)
      generalize hm : s + 3 * k = m
      have HM := Lib.hid hm
      have hm2 : m ≤ 1099511627000 := by omega
      have hm0 : 0 < m := by omega
      clear hm
      have A1 := hownr.stored (k * 3) (.int .i64 (m : Int))
      have A2 := A1.1.stored (k * 3 + 1) (.int .i64 ((m : Int) + 1))
      have HA2 := Lib.hid A2.1
      have HG2 := Lib.hid (hgr.trans (A1.2.trans A2.2))
      have HMT : Hid (∀ W, Calls Try.prog 74 #[.int .i64 ((m : Int) + 1 + 1)] W fun e w' => e = .returned (.string (mtext (m + 2))) ∧ Below W.heap.size W w') := fun W => by
        rw [show (m : Int) + 1 + 1 = ((m + 2 : Nat) : Int) by omega]
        exact markText (m + 2) W (by omega) (by omega)
      clear A1 A2 hownr hgr
      go_wp2_with fail
      with_reducible refine (HMT.out _).mono ?_
      rintro e w2 ⟨rfl, hb2⟩
      have O2 := (own_of_row HA2.out hlo).below hb2 (Nat.le_refl _)
      have r2 := O2.row
      have G2 := HG2.out.trans (grown_of_below_at hb2)
      have A3 := r2.stored (k * 3 + 2) (.string (mtext (m + 2)))
      have G3 := G2.trans A3.2
      have HV : Hid ((((vals l').set (k * 3) (.int .i64 (m : Int))).set (k * 3 + 1) (.int .i64 ((m : Int) + 1))).set (k * 3 + 2) (.string (mtext (m + 2))) = vals (l'.set k ⟨m, (m : Int) + 1, mtext (m + 2)⟩)) := (vals_set l' k ⟨m, (m : Int) + 1, mtext (m + 2)⟩ (by rw [HL'.out]; exact hkl)).symm
      obtain ⟨x2, s2⟩ := cellAt_some r2 (k * 3 + 2) (by omega)
      have f2 := r2.frozenAt (k * 3 + 2)
      have H3 := Lib.hid A3.1
      rw [HV.out] at H3
      clear O2 r2 G2 hb2 A3 HA2 HG2 s0 s1 f0 f1
      go_wp2
      go_roundw
      case rel => exact ⟨k + 1, l'.set k ⟨m, (m : Int) + 1, mtext (m + 2)⟩, by omega, ⟨by rw [List.length_set]; exact HL'.out, by rw [HV'.out]; exact vmarks_set (by rw [HL.out]; exact hkl) HM.out⟩, by go_num, by have := HM.out; go_num, H3.out, G3⟩
      case measure => simp [intOf]; omega
    · obtain rfl : k = n := by omega
      have e : l' = vmarks s k := by rw [HV'.out, List.drop_of_length_le (by rw [HL.out]; exact Nat.le_refl _), List.append_nil]
      rw [e] at hownr
      go_wp2
      go_ret
      exact ⟨rfl, ⟨_, _, rfl, hlo, hhi, hownr⟩, hgr⟩

theorem markValS (v : Value) (n lo hi : Nat) (l : List V) (s : Nat) (w : World) (h0 : 0 < s) (hs : s ≤ 1073741824) (hn : n ≤ 1073741824) (hl : l.length = n) (h : Own 76 3 lo hi w v n (vals l)) :
    Calls Try.prog 57 #[v, .int .i64 s] w fun e w' => e = .returned (.int .i64 (s + 3 * n : Nat)) ∧ (∃ l', l'.length = n ∧ Own 76 3 lo hi w' v n (vals l')) ∧ w.grownBy w' v.ownBlock :=
  (markValM v n lo hi l s w h0 hs hn hl h).mono fun _ _ h => ⟨h.1, ⟨_, vmarks_len s n, h.2.1⟩, h.2.2⟩

set_option maxHeartbeats 1000000 in
theorem heldValS (v : Value) (n : Nat) (s : Nat) (w : World) (h0 : 0 < s) (hs : s ≤ 1073741824) (hn : n ≤ 1073741824) (h : Rd 3 w v n (vals (vmarks s n))) :
    Calls Try.prog 58 #[v, .int .i64 s] w fun e w' => e = .returned (.int .i64 (s + 3 * n : Nat)) ∧ Below w.heap.size w w' := by
  obtain ⟨a, cap, rfl, hm1, HC⟩ := h.vals (vmarks_len s n)
  clear h hm1
  go_enter Try.func58, Try.ntmps58
  go_wp2
  go_loopw [1, 5] (fun q i wr => ∃ k : Nat, k ≤ n ∧ i = .int .i64 k ∧ q = .int .i64 (s + 3 * k : Nat) ∧ Below w.heap.size w wr) (fun _ i _ => n - (intOf i).toNat)
  case atStart => exact ⟨0, Nat.zero_le _, rfl, rfl, Below.refl _ _⟩
  case round =>
    obtain ⟨k, hk, rfl, rfl, hbr⟩ := hrel
    by_cases hkl : k < n
    · obtain ⟨b, off, rfl, c0, c1, c2⟩ := HC.out k hkl
      rw [vmarks_get hkl] at c0 c1 c2
      simp only at c0 c1 c2
      have r0 := (hbr.cell (p := ⟨b, off + k * 3, none⟩) (lt_of_cell c0)).trans c0
      have r1 := (hbr.cell (p := ⟨b, off + k * 3 + 1, none⟩) (lt_of_cell c1)).trans c1
      have r2 := (hbr.cell (p := ⟨b, off + k * 3 + 2, none⟩) (lt_of_cell c2)).trans c2
      clear c0 c1 c2
      generalize hm : s + 3 * k = m at r0 r1 r2
      have HM := Lib.hid hm
      have hm2 : m ≤ 1099511627000 := by omega
      have hm0 : 0 < m := by omega
      clear hm
      have HK : Hid (∀ W, Below wr.drew.heap.size wr.drew W → W.cell? ⟨b, off + k * 3 + 2, none⟩ = some (.string (mtext (m + 2)))) := fun W h => (h.cell (p := ⟨b, off + k * 3 + 2, none⟩) (lt_of_cell r2)).trans r2
      have HMT : Hid (∀ W, Calls Try.prog 74 #[.int .i64 ((m : Int) + 1 + 1)] W fun e w' => e = .returned (.string (mtext (m + 2))) ∧ Below W.heap.size W w') := fun W => by
        rw [show (m : Int) + 1 + 1 = ((m + 2 : Nat) : Int) by omega]
        exact markText (m + 2) W (by omega) (by omega)
      generalize mtext (m + 2) = x at r2 HK HMT
      have hn0 : ((m : Int) != (m : Int)) = false := by simp
      have hn1 : ((m : Int) + 1 != (m : Int) + 1) = false := by simp
      go_wp2
      go_region_held3 (fun W => W.cell? ⟨b, off + k * 3 + 2, none⟩ = some (.string x)) (first | exact r2 | exact HK.out _ hb2) ((go_at_call 74; (with_reducible refine (HMT.out _).mono ?_); rintro e w2 ⟨rfl, hb2⟩))
      go_wp2
      go_roundw
      case rel => exact ⟨k + 1, by omega, by go_num, by have := HM.out; go_num, below_then hbr.drew hb2 (by simpa using hbr.size)⟩
      case measure => simp [intOf]; omega
    · obtain rfl : k = n := by omega
      go_wp2
      go_ret
      exact ⟨rfl, hbr⟩

/-! ### Slices of strings -/
def strs (l : List ByteArray) : List Value := l.map Value.string
theorem strs_len (l : List ByteArray) : (strs l).length = l.length := by simp [strs]
theorem strs_get {l : List ByteArray} {k : Nat} (h : k < l.length) : (strs l)[k]? = some (.string (l.getD k ⟨#[]⟩)) := by simp [strs, h]
theorem strs_set (l : List ByteArray) (k : Nat) (s : ByteArray) : strs (l.set k s) = (strs l).set k (.string s) := by simp [strs, List.map_set]
theorem At.str {w : World} {b off n : Nat} {l : List ByteArray} (hc : ∀ j u, (strs l)[j]? = some u → w.cell? ⟨b, off + j, none⟩ = some u) (hl : l.length = n) {k : Nat} (hk : k < n) :
    w.cell? ⟨b, off + k, none⟩ = some (.string (l.getD k ⟨#[]⟩)) := hc k _ (strs_get (by omega))

/-- The marks that a law writes into n strings. -/
def tmarks (s n : Nat) : List ByteArray := (List.range n).map fun i => mtext (s + i)
theorem tmarks_len (s n : Nat) : (tmarks s n).length = n := by simp [tmarks]
theorem tmarks_get {s n i : Nat} (h : i < n) : (tmarks s n).getD i ⟨#[]⟩ = mtext (s + i) := by simp [tmarks, h]
def tmarked (s : Nat) (l : List ByteArray) (k : Nat) : List ByteArray := tmarks s k ++ l.drop k
theorem tmarked_zero (s : Nat) (l : List ByteArray) : tmarked s l 0 = l := by simp [tmarked, tmarks]
theorem tmarked_all (s : Nat) (l : List ByteArray) : tmarked s l l.length = tmarks s l.length := by simp [tmarked]
theorem tmarked_set {s : Nat} {l : List ByteArray} {k : Nat} (h : k < l.length) : (tmarked s l k).set k (mtext (s + k)) = tmarked s l (k + 1) := by
  have hl : (tmarks s k).length = k := tmarks_len s k
  unfold tmarked
  rw [List.set_append_right _ _ (by omega), hl, Nat.sub_self, List.drop_eq_getElem_cons h, List.set_cons_zero]
  simp [tmarks, List.range_succ]

end Go.Proofs.Ytkofafefnlommaa
