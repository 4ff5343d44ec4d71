/- The laws' markText, and their helpers over slices of strings. -/
import Derived.Test.YtfkmbcjhkfecfaaVSlice
import Derived.Test.YtfkmbcjhkfecfaaDText
namespace Go.Proofs.Ytfkmbcjhkfecfaa
open Go.RowKit

/-- What markText returns from 1 on. -/
def mtext (k : Nat) : ByteArray := ⟨(109 :: Lib.decDigits k).toArray⟩
theorem str_m (l : List UInt8) : ({ data := #[109] } ++ { data := l.toArray } : ByteArray) = { data := (109 :: l).toArray } := by
  rw [ByteArray.mk_append_mk]
  simp

set_option maxHeartbeats 400000 in
theorem markText (k : Nat) (w : World) (h0 : 0 < k) (h1 : k ≤ 1099511627776) :
    Calls Try.prog 37 #[.int .i64 k] w fun e w' => e = .returned (.string (mtext k)) ∧ Below w.heap.size w w' := by
  have hk2 : k < 18446744073709551616 := by omega
  go_enter Try.func37, Try.ntmps37
  go_wp2
  go_loopw [0, 3] (fun q o wr => ∃ (c : Nat) (l : List UInt8), c ≤ k ∧ q = .int .i64 c ∧ o = .string ⟨l.toArray⟩ ∧ Digs k c l ∧ Below w.heap.size w wr) (fun q _ _ => (intOf q).toNat)
  case atStart => exact ⟨k, [], Nat.le_refl _, rfl, rfl, digs_start h0, Below.refl _ _⟩
  case round =>
    obtain ⟨c, l, hc, rfl, rfl, hd, hbr⟩ := hrel
    have HD := Lib.hid hd
    clear hd
    have hl20 := digs_len HD.out hk2
    have hno : ¬ 9223372036854775807 < 1 + l.length := by omega
    by_cases hp : 0 < c
    · have kc1 := fun (W : World) => conv_int W ((c : Int) % 10) (c % 10) (by omega) (by omega)
      go_wp2
      go_roundw
      case rel => exact ⟨c / 10, UInt8.ofNat (48 + c % 10) :: l, by omega, by go_num, str_cons _ _, digs_step HD.out hp, hbr.alloc hbr.size _⟩
      case measure => simp [intOf]; omega
    · obtain rfl : c = 0 := by omega
      have HE : Hid (mtext k = ({ data := #[109] } ++ { data := l.toArray } : ByteArray)) := by
        show mtext k = _
        unfold mtext
        rw [str_m, digs_end HD.out]
      go_wp2
      go_ret
      exact ⟨congrArg (fun s => Ending.returned (.string s)) HE.out.symm, hbr⟩

theorem grown_of_below_at {w w' : World} {row : Option Nat} (h : Below w.heap.size w w') : w.grownBy w' row := ⟨h.os, h.tape, h.output, h.size, fun k hk _ => h.block k hk⟩

set_option maxHeartbeats 1000000 in
theorem markValS (v : Value) (n lo hi : Nat) (l : List V) (s : Nat) (w : World) (h0 : 0 < s) (hs : s ≤ 1073741824) (hn : n ≤ 1073741824) (hl : l.length = n) (h : Own 26 3 lo hi w v n (vals l)) :
    Calls Try.prog 22 #[v, .int .i64 s] w fun e w' => e = .returned (.int .i64 (s + 3 * n : Nat)) ∧ (∃ l', l'.length = n ∧ Own 26 3 lo hi w' v n (vals l')) ∧ w.grownBy w' v.ownBlock := by
  obtain ⟨g, cap, rfl, hlo, hhi, hown⟩ := h
  have HL := Lib.hid hl
  clear hl
  go_enter Try.func22, Try.ntmps22
  go_wp2
  go_loopw [1, 5] (fun q i wr => ∃ (k : Nat) (l' : List V), k ≤ n ∧ l'.length = n ∧ i = .int .i64 k ∧ q = .int .i64 (s + 3 * k : Nat) ∧ wr.ownsRow lo 26 3 (.slice (some ⟨g, 0, none⟩) n cap) n (vals l') ∧ w.grownBy wr (some g)) (fun _ i _ => n - (intOf i).toNat)
  case atStart => exact ⟨0, l, Nat.zero_le _, HL.out, rfl, rfl, hown, grownBy_refl _ _⟩
  case round =>
    obtain ⟨k, l', hk, hl', rfl, rfl, hownr, hgr⟩ := hrel
    have HL' := Lib.hid hl'
    clear hl'
    by_cases hkl : k < n
    · obtain ⟨x0, s0⟩ := cellAt_some hownr (k * 3) (by omega)
      obtain ⟨x1, s1⟩ := cellAt_some hownr (k * 3 + 1) (by omega)
      have f0 := hownr.frozenAt (k * 3)
      have f1 := hownr.frozenAt (k * 3 + 1)
      generalize hm : s + 3 * k = m
      have HM := Lib.hid hm
      have hm2 : m ≤ 1099511627000 := by omega
      have hm0 : 0 < m := by omega
      clear hm
      have A1 := hownr.stored (k * 3) (.int .i64 (m : Int))
      have A2 := A1.1.stored (k * 3 + 1) (.int .i64 ((m : Int) + 1))
      have HA2 := Lib.hid A2.1
      have HG2 := Lib.hid (hgr.trans (A1.2.trans A2.2))
      have HMT : Hid (∀ W, Calls Try.prog 37 #[.int .i64 ((m : Int) + 1 + 1)] W fun e w' => e = .returned (.string (mtext (m + 2))) ∧ Below W.heap.size W w') := fun W => by
        rw [show (m : Int) + 1 + 1 = ((m + 2 : Nat) : Int) by omega]
        exact markText (m + 2) W (by omega) (by omega)
      clear A1 A2 hownr hgr
      go_wp2_with fail
      with_reducible refine (HMT.out _).mono ?_
      rintro e w2 ⟨rfl, hb2⟩
      have O2 := (own_of_row HA2.out hlo).below hb2 (Nat.le_refl _)
      have r2 := O2.row
      have G2 := HG2.out.trans (grown_of_below_at hb2)
      have A3 := r2.stored (k * 3 + 2) (.string (mtext (m + 2)))
      have G3 := G2.trans A3.2
      have HV : Hid ((((vals l').set (k * 3) (.int .i64 (m : Int))).set (k * 3 + 1) (.int .i64 ((m : Int) + 1))).set (k * 3 + 2) (.string (mtext (m + 2))) = vals (l'.set k ⟨m, (m : Int) + 1, mtext (m + 2)⟩)) := (vals_set l' k ⟨m, (m : Int) + 1, mtext (m + 2)⟩ (by rw [HL'.out]; exact hkl)).symm
      obtain ⟨x2, s2⟩ := cellAt_some r2 (k * 3 + 2) (by omega)
      have f2 := r2.frozenAt (k * 3 + 2)
      have H3 := Lib.hid A3.1
      rw [HV.out] at H3
      clear O2 r2 G2 hb2 A3 HA2 HG2 s0 s1 f0 f1
      go_wp2
      go_roundw
      case rel => exact ⟨k + 1, l'.set k ⟨m, (m : Int) + 1, mtext (m + 2)⟩, by omega, by rw [List.length_set]; exact HL'.out, by go_num, by have := HM.out; go_num, H3.out, G3⟩
      case measure => simp [intOf]; omega
    · obtain rfl : k = n := by omega
      go_wp2
      go_ret
      exact ⟨rfl, ⟨l', HL'.out, ⟨_, _, rfl, hlo, hhi, hownr⟩⟩, hgr⟩

/-! ### Slices of strings -/
def strs (l : List ByteArray) : List Value := l.map Value.string
theorem strs_len (l : List ByteArray) : (strs l).length = l.length := by simp [strs]
theorem strs_get {l : List ByteArray} {k : Nat} (h : k < l.length) : (strs l)[k]? = some (.string (l.getD k ⟨#[]⟩)) := by simp [strs, h]
theorem strs_set (l : List ByteArray) (k : Nat) (s : ByteArray) : strs (l.set k s) = (strs l).set k (.string s) := by simp [strs, List.map_set]
theorem At.str {w : World} {b off n : Nat} {l : List ByteArray} (hc : ∀ j u, (strs l)[j]? = some u → w.cell? ⟨b, off + j, none⟩ = some u) (hl : l.length = n) {k : Nat} (hk : k < n) :
    w.cell? ⟨b, off + k, none⟩ = some (.string (l.getD k ⟨#[]⟩)) := hc k _ (strs_get (by omega))

set_option maxHeartbeats 400000 in
theorem eqStringS (a b : Value) (n : Nat) (l : List ByteArray) (w : World) (hz : l.length = n) (ha : At 1 w a n (strs l)) (hb : At 1 w b n (strs l)) :
    Calls Try.prog 27 #[a, b] w fun e w' => e = .returned (.bool true) ∧ Below w.heap.size w w' := by
  obtain ⟨b1, o1, c1, rfl, hn1, hm1, hl1, hc1⟩ := ha
  obtain ⟨b2, o2, c2, rfl, hn2, hm2, hl2, hc2⟩ := hb
  have HZ := Lib.hid hz
  clear hz hl1 hl2
  unfold maxLen at hm1
  have hne : ((n : Int) != (n : Int)) = false := by simp
  go_enter Try.func27, Try.ntmps27
  go_wp2
  go_loopw [5] (fun i wr => ∃ k : Nat, k ≤ n ∧ i = .int .i64 k ∧ ∃ d, wr = w.drewN d) (fun i _ => n - (intOf i).toNat)
  case atStart => exact ⟨0, Nat.zero_le _, rfl, 0, rfl⟩
  case round =>
    obtain ⟨k, hk, rfl, d, rfl⟩ := hrel
    by_cases hlt : k < n
    · have h1 := At.str hc1 HZ.out hlt
      have h2 := At.str hc2 HZ.out hlt
      clear hc1 hc2
      generalize l.getD k ⟨#[]⟩ = z at h1 h2
      go_wp2
      go_quiet (fail)
      go_wp2
      go_roundw
      case rel => exact ⟨k + 1, by omega, by go_num, _, rfl⟩
      case measure => simp [intOf]; omega
    · go_wp2
      go_ret
      exact ⟨rfl, below_drewN _ _ _⟩

/-- The marks that a law writes into n strings. -/
def tmarks (s n : Nat) : List ByteArray := (List.range n).map fun i => mtext (s + i)
theorem tmarks_len (s n : Nat) : (tmarks s n).length = n := by simp [tmarks]
theorem tmarks_get {s n i : Nat} (h : i < n) : (tmarks s n).getD i ⟨#[]⟩ = mtext (s + i) := by simp [tmarks, h]
def tmarked (s : Nat) (l : List ByteArray) (k : Nat) : List ByteArray := tmarks s k ++ l.drop k
theorem tmarked_zero (s : Nat) (l : List ByteArray) : tmarked s l 0 = l := by simp [tmarked, tmarks]
theorem tmarked_all (s : Nat) (l : List ByteArray) : tmarked s l l.length = tmarks s l.length := by simp [tmarked]
theorem tmarked_set {s : Nat} {l : List ByteArray} {k : Nat} (h : k < l.length) : (tmarked s l k).set k (mtext (s + k)) = tmarked s l (k + 1) := by
  have hl : (tmarks s k).length = k := tmarks_len s k
  unfold tmarked
  rw [List.set_append_right _ _ (by omega), hl, Nat.sub_self, List.drop_eq_getElem_cons h, List.set_cons_zero]
  simp [tmarks, List.range_succ]

set_option maxHeartbeats 400000 in
theorem markStringS (v : Value) (n lo hi : Nat) (l : List ByteArray) (s : Nat) (w : World) (h0 : 0 < s) (hs : s ≤ 1073741824) (hn : n ≤ 1073741824) (hl : l.length = n) (h : Own 9 1 lo hi w v n (strs l)) :
    Calls Try.prog 28 #[v, .int .i64 s] w fun e w' => e = .returned (.int .i64 (s + n : Nat)) ∧ Own 9 1 lo hi w' v n (strs (tmarks s n)) ∧ w.grownBy w' v.ownBlock := by
  obtain ⟨g, cap, rfl, hlo, hhi, hown⟩ := h
  have HL := Lib.hid hl
  clear hl
  go_enter Try.func28, Try.ntmps28
  go_wp2
  go_loopw [1, 5] (fun q i wr => ∃ (k : Nat), k ≤ n ∧ i = .int .i64 k ∧ q = .int .i64 (s + k : Nat) ∧ wr.ownsRow lo 9 1 (.slice (some ⟨g, 0, none⟩) n cap) n (strs (tmarked s l k)) ∧ w.grownBy wr (some g)) (fun _ i _ => n - (intOf i).toNat)
  case atStart => exact ⟨0, Nat.zero_le _, rfl, rfl, by rw [tmarked_zero]; exact hown, grownBy_refl _ _⟩
  case round =>
    obtain ⟨k, hk, rfl, rfl, hownr, hgr⟩ := hrel
    by_cases hkl : k < n
    · have HST : Hid ((tmarked s l k).set k (mtext (s + k)) = tmarked s l (k + 1)) := tmarked_set (by rw [HL.out]; exact hkl)
      generalize hm : s + k = m at HST
      have HM := Lib.hid hm
      have hm2 : m ≤ 1099511627000 := by omega
      have hm0 : 0 < m := by omega
      clear hm
      go_wp2_with fail
      with_reducible refine (markText m _ hm0 (by omega)).mono ?_
      rintro e w2 ⟨rfl, hb2⟩
      have O2 := (own_of_row hownr hlo).below hb2 (Nat.le_refl _)
      have r2 := O2.row
      have A3 := r2.stored k (.string (mtext m))
      rw [← strs_set, HST.out] at A3
      have G3 := (hgr.trans (grown_of_below_at hb2)).trans A3.2
      obtain ⟨x2, s2⟩ := cellAt_some r2 k (by omega)
      have f2 := r2.frozenAt k
      have H3 := Lib.hid A3.1
      clear O2 r2 hb2 A3 hownr hgr
      go_wp2
      go_roundw
      case rel => exact ⟨k + 1, by omega, by go_num, by have := HM.out; go_num, H3.out, G3⟩
      case measure => simp [intOf]; omega
    · obtain rfl : k = n := by omega
      have e : tmarked s l k = tmarks s k := by rw [← HL.out]; exact tmarked_all _ _
      rw [e] at hownr
      go_wp2
      go_ret
      exact ⟨rfl, ⟨_, _, rfl, hlo, hhi, hownr⟩, hgr⟩

set_option maxHeartbeats 400000 in
theorem heldStringS (v : Value) (n : Nat) (s : Nat) (w : World) (h0 : 0 < s) (hs : s ≤ 1073741824) (hn : n ≤ 1073741824) (h : At 1 w v n (strs (tmarks s n))) :
    Calls Try.prog 29 #[v, .int .i64 s] w fun e w' => e = .returned (.int .i64 (s + n : Nat)) ∧ Below w.heap.size w w' := by
  obtain ⟨b, off, cap, rfl, hn1, hm1, hl1, hc⟩ := h
  have HC := Lib.hid hc
  clear hl1 hc
  go_enter Try.func29, Try.ntmps29
  go_wp2
  go_loopw [1, 5] (fun q i wr => ∃ k : Nat, k ≤ n ∧ i = .int .i64 k ∧ q = .int .i64 (s + k : Nat) ∧ Below w.heap.size w wr) (fun _ i _ => n - (intOf i).toNat)
  case atStart => exact ⟨0, Nat.zero_le _, rfl, rfl, Below.refl _ _⟩
  case round =>
    obtain ⟨k, hk, rfl, rfl, hbr⟩ := hrel
    by_cases hkl : k < n
    · have hcx := At.str HC.out (tmarks_len s n) hkl
      rw [tmarks_get hkl] at hcx
      have r0 := (hbr.cell (p := ⟨b, off + k, none⟩) (lt_of_cell hcx)).trans hcx
      clear hcx
      generalize hm : s + k = m at r0
      have HM := Lib.hid hm
      have hm2 : m ≤ 1099511627000 := by omega
      have hm0 : 0 < m := by omega
      clear hm
      have HK : Hid (∀ W, Below wr.drew.heap.size wr.drew W → W.cell? ⟨b, off + k, none⟩ = some (.string (mtext m))) := fun W h => (h.cell (p := ⟨b, off + k, none⟩) (lt_of_cell r0)).trans r0
      have HMT := Lib.hid (fun W => markText m W hm0 (by omega))
      generalize mtext m = x at r0 HK HMT
      go_wp2
      go_region_held3 (fun W => W.cell? ⟨b, off + k, none⟩ = some (.string x)) (first | exact r0 | exact HK.out _ hb2) ((go_at_call 37; (with_reducible refine (HMT.out _).mono ?_); rintro e w2 ⟨rfl, hb2⟩))
      go_wp2
      go_roundw
      case rel => exact ⟨k + 1, by omega, by go_num, by have := HM.out; go_num, below_then hbr.drew hb2 (by simpa using hbr.size)⟩
      case measure => simp [intOf]; omega
    · obtain rfl : k = n := by omega
      go_wp2
      go_ret
      exact ⟨rfl, hbr⟩

end Go.Proofs.Ytfkmbcjhkfecfaa
