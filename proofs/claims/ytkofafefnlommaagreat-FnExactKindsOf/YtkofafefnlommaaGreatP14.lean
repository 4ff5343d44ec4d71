/- Texts of this claim, one behind the other: VText, U6, U6M. -/
import Derived.Test.YtkofafefnlommaaGreatP10
import Derived.Test.YtkofafefnlommaaGreatP11

/- The laws' markText, and their helpers over slices of strings. -/
namespace Go.Proofs.YtkofafefnlommaaGreat
open Go.RowKit

/-- What markText returns from 1 on. -/
def mtext (k : Nat) : ByteArray := ⟨(109 :: Lib.decDigits k).toArray⟩
theorem str_m (l : List UInt8) : ({ data := #[109] } ++ { data := l.toArray } : ByteArray) = { data := (109 :: l).toArray } := by
  rw [ByteArray.mk_append_mk]
  simp

set_option maxHeartbeats 400000 in
theorem markText (k : Nat) (w : World) (h0 : 0 < k) (h1 : k ≤ 1099511627776) :
    Calls Tryz.prog 97 #[.int .i64 k] w fun e w' => e = .returned (.string (mtext k)) ∧ Below w.heap.size w w' := by
  have hk2 : k < 18446744073709551616 := by omega
  go_enter Tryz.func97, Tryz.ntmps97
  go_wp2
  go_loopw [0, 3] (fun q o wr => ∃ (c : Nat) (l : List UInt8), c ≤ k ∧ q = .int .i64 c ∧ o = .string ⟨l.toArray⟩ ∧ Digs k c l ∧ Below w.heap.size w wr) (fun q _ _ => (intOf q).toNat)
  case atStart => exact ⟨k, [], Nat.le_refl _, rfl, rfl, digs_start h0, Below.refl _ _⟩
  case round =>
    obtain ⟨c, l, hc, rfl, rfl, hd, hbr⟩ := hrel
    have HD := Lib.hid hd
    clear hd
    have hl20 := digs_len HD.out hk2
    have hno : ¬ 9223372036854775807 < 1 + l.length := by omega
    by_cases hp : 0 < c
    · have kc1 := fun (W : World) => conv_int W ((c : Int) % 10) (c % 10) (by omega) (by omega)
      go_wp2
      go_roundw
      case rel => exact ⟨c / 10, UInt8.ofNat (48 + c % 10) :: l, by omega, by go_num, str_cons _ _, digs_step HD.out hp, hbr.alloc hbr.size _⟩
      case measure => simp [intOf]; omega
    · obtain rfl : c = 0 := by omega
      have HE : Hid (mtext k = ({ data := #[109] } ++ { data := l.toArray } : ByteArray)) := by
        show mtext k = _
        unfold mtext
        rw [str_m, digs_end HD.out]
      go_wp2
      go_ret
      exact ⟨congrArg (fun s => Ending.returned (.string s)) HE.out.symm, hbr⟩

theorem grown_of_below_at {w w' : World} {row : Option Nat} (h : Below w.heap.size w w') : w.grownBy w' row := ⟨h.os, h.tape, h.output, h.size, fun k hk _ => h.block k hk⟩

/-- What markValS leaves. -/
def vmarks (s n : Nat) : List V := (List.range n).map fun j => ⟨(s + 3 * j : Nat), ((s + 3 * j : Nat) : Int) + 1, mtext (s + 3 * j + 2)⟩
theorem vmarks_len (s n : Nat) : (vmarks s n).length = n := by simp [vmarks]
theorem vmarks_get {s n k : Nat} (h : k < n) : (vmarks s n).getD k V.zero = ⟨(s + 3 * k : Nat), ((s + 3 * k : Nat) : Int) + 1, mtext (s + 3 * k + 2)⟩ := by simp [vmarks, h]
theorem vmarks_set {s k m : Nat} {l : List V} (h : k < l.length) (hm : s + 3 * k = m) : (vmarks s k ++ l.drop k).set k ⟨m, (m : Int) + 1, mtext (m + 2)⟩ = vmarks s (k + 1) ++ l.drop (k + 1) := by
  subst hm
  rw [List.set_append_right _ _ (by rw [vmarks_len]; exact Nat.le_refl _), vmarks_len, Nat.sub_self, List.drop_eq_getElem_cons h, List.set_cons_zero]
  unfold vmarks
  rw [List.range_succ, List.map_append, List.append_assoc]
  rfl

set_option maxHeartbeats 1000000 in
theorem markValM (v : Value) (n lo hi : Nat) (l : List V) (s : Nat) (w : World) (h0 : 0 < s) (hs : s ≤ 1073741824) (hn : n ≤ 1073741824) (hl : l.length = n) (h : Own 77 3 lo hi w v n (vals l)) :
    Calls Tryz.prog 66 #[v, .int .i64 s] w fun e w' => e = .returned (.int .i64 (s + 3 * n : Nat)) ∧ Own 77 3 lo hi w' v n (vals (vmarks s n)) ∧ w.grownBy w' v.ownBlock := by
  obtain ⟨g, cap, rfl, hlo, hhi, hown⟩ := h
  have HL := Lib.hid hl
  clear hl
  go_enter Tryz.func66, Tryz.ntmps66
  go_wp2
  go_loopw [1, 5] (fun q i wr => ∃ (k : Nat) (l' : List V), k ≤ n ∧ (l'.length = n ∧ l' = vmarks s k ++ l.drop k) ∧ i = .int .i64 k ∧ q = .int .i64 (s + 3 * k : Nat) ∧ wr.ownsRow lo 77 3 (.slice (some ⟨g, 0, none⟩) n cap) n (vals l') ∧ w.grownBy wr (some g)) (fun _ i _ => n - (intOf i).toNat)
  case atStart => exact ⟨0, l, Nat.zero_le _, ⟨HL.out, by simp [vmarks]⟩, rfl, rfl, hown, grownBy_refl _ _⟩
  case round =>
    obtain ⟨k, l', hk, ⟨hl', hv'⟩, rfl, rfl, hownr, hgr⟩ := hrel
    have HV' := Lib.hid hv'
    clear hv'
    have HL' := Lib.hid hl'
    clear hl'
    by_cases hkl : k < n
    · obtain ⟨x0, s0⟩ := cellAt_some hownr (k * 3) (by omega)
      obtain ⟨x1, s1⟩ := cellAt_some hownr (k * 3 + 1) (by omega)
      have f0 := hownr.frozenAt (k * 3)
      have f1 := hownr.frozenAt (k * 3 + 1)
      generalize hm : s + 3 * k = m
      have HM := Lib.hid hm
      have hm2 : m ≤ 1099511627000 := by omega
      have hm0 : 0 < m := by omega
      clear hm
      have A1 := hownr.stored (k * 3) (.int .i64 (m : Int))
      have A2 := A1.1.stored (k * 3 + 1) (.int .i64 ((m : Int) + 1))
      have HA2 := Lib.hid A2.1
      have HG2 := Lib.hid (hgr.trans (A1.2.trans A2.2))
      have HMT : Hid (∀ W, Calls Tryz.prog 97 #[.int .i64 ((m : Int) + 1 + 1)] W fun e w' => e = .returned (.string (mtext (m + 2))) ∧ Below W.heap.size W w') := fun W => by
        rw [show (m : Int) + 1 + 1 = ((m + 2 : Nat) : Int) by omega]
        exact markText (m + 2) W (by omega) (by omega)
      clear A1 A2 hownr hgr
      go_wp2_with fail
      with_reducible refine (HMT.out _).mono ?_
      rintro e w2 ⟨rfl, hb2⟩
      have O2 := (own_of_row HA2.out hlo).below hb2 (Nat.le_refl _)
      have r2 := O2.row
      have G2 := HG2.out.trans (grown_of_below_at hb2)
      have A3 := r2.stored (k * 3 + 2) (.string (mtext (m + 2)))
      have G3 := G2.trans A3.2
      have HV : Hid ((((vals l').set (k * 3) (.int .i64 (m : Int))).set (k * 3 + 1) (.int .i64 ((m : Int) + 1))).set (k * 3 + 2) (.string (mtext (m + 2))) = vals (l'.set k ⟨m, (m : Int) + 1, mtext (m + 2)⟩)) := (vals_set l' k ⟨m, (m : Int) + 1, mtext (m + 2)⟩ (by rw [HL'.out]; exact hkl)).symm
      obtain ⟨x2, s2⟩ := cellAt_some r2 (k * 3 + 2) (by omega)
      have f2 := r2.frozenAt (k * 3 + 2)
      have H3 := Lib.hid A3.1
      rw [HV.out] at H3
      clear O2 r2 G2 hb2 A3 HA2 HG2 s0 s1 f0 f1
      go_wp2
      go_roundw
      case rel => exact ⟨k + 1, l'.set k ⟨m, (m : Int) + 1, mtext (m + 2)⟩, by omega, ⟨by rw [List.length_set]; exact HL'.out, by rw [HV'.out]; exact vmarks_set (by rw [HL.out]; exact hkl) HM.out⟩, by go_num, by have := HM.out; go_num, H3.out, G3⟩
      case measure => simp [intOf]; omega
    · obtain rfl : k = n := by omega
      have e : l' = vmarks s k := by rw [HV'.out, List.drop_of_length_le (by rw [HL.out]; exact Nat.le_refl _), List.append_nil]
      rw [e] at hownr
      go_wp2
      go_ret
      exact ⟨rfl, ⟨_, _, rfl, hlo, hhi, hownr⟩, hgr⟩

theorem markValS (v : Value) (n lo hi : Nat) (l : List V) (s : Nat) (w : World) (h0 : 0 < s) (hs : s ≤ 1073741824) (hn : n ≤ 1073741824) (hl : l.length = n) (h : Own 77 3 lo hi w v n (vals l)) :
    Calls Tryz.prog 66 #[v, .int .i64 s] w fun e w' => e = .returned (.int .i64 (s + 3 * n : Nat)) ∧ (∃ l', l'.length = n ∧ Own 77 3 lo hi w' v n (vals l')) ∧ w.grownBy w' v.ownBlock :=
  (markValM v n lo hi l s w h0 hs hn hl h).mono fun _ _ h => ⟨h.1, ⟨_, vmarks_len s n, h.2.1⟩, h.2.2⟩

set_option maxHeartbeats 1000000 in
theorem heldValS (v : Value) (n : Nat) (s : Nat) (w : World) (h0 : 0 < s) (hs : s ≤ 1073741824) (hn : n ≤ 1073741824) (h : Rd 3 w v n (vals (vmarks s n))) :
    Calls Tryz.prog 67 #[v, .int .i64 s] w fun e w' => e = .returned (.int .i64 (s + 3 * n : Nat)) ∧ Below w.heap.size w w' := by
  obtain ⟨a, cap, rfl, hm1, HC⟩ := h.vals (vmarks_len s n)
  clear h hm1
  go_enter Tryz.func67, Tryz.ntmps67
  go_wp2
  go_loopw [1, 5] (fun q i wr => ∃ k : Nat, k ≤ n ∧ i = .int .i64 k ∧ q = .int .i64 (s + 3 * k : Nat) ∧ Below w.heap.size w wr) (fun _ i _ => n - (intOf i).toNat)
  case atStart => exact ⟨0, Nat.zero_le _, rfl, rfl, Below.refl _ _⟩
  case round =>
    obtain ⟨k, hk, rfl, rfl, hbr⟩ := hrel
    by_cases hkl : k < n
    · obtain ⟨b, off, rfl, c0, c1, c2⟩ := HC.out k hkl
      rw [vmarks_get hkl] at c0 c1 c2
      simp only at c0 c1 c2
      have r0 := (hbr.cell (p := ⟨b, off + k * 3, none⟩) (lt_of_cell c0)).trans c0
      have r1 := (hbr.cell (p := ⟨b, off + k * 3 + 1, none⟩) (lt_of_cell c1)).trans c1
      have r2 := (hbr.cell (p := ⟨b, off + k * 3 + 2, none⟩) (lt_of_cell c2)).trans c2
      clear c0 c1 c2
      generalize hm : s + 3 * k = m at r0 r1 r2
      have HM := Lib.hid hm
      have hm2 : m ≤ 1099511627000 := by omega
      have hm0 : 0 < m := by omega
      clear hm
      have HK : Hid (∀ W, Below wr.drew.heap.size wr.drew W → W.cell? ⟨b, off + k * 3 + 2, none⟩ = some (.string (mtext (m + 2)))) := fun W h => (h.cell (p := ⟨b, off + k * 3 + 2, none⟩) (lt_of_cell r2)).trans r2
      have HMT : Hid (∀ W, Calls Tryz.prog 97 #[.int .i64 ((m : Int) + 1 + 1)] W fun e w' => e = .returned (.string (mtext (m + 2))) ∧ Below W.heap.size W w') := fun W => by
        rw [show (m : Int) + 1 + 1 = ((m + 2 : Nat) : Int) by omega]
        exact markText (m + 2) W (by omega) (by omega)
      generalize mtext (m + 2) = x at r2 HK HMT
      have hn0 : ((m : Int) != (m : Int)) = false := by simp
      have hn1 : ((m : Int) + 1 != (m : Int) + 1) = false := by simp
      go_wp2
      go_region_held3 (fun W => W.cell? ⟨b, off + k * 3 + 2, none⟩ = some (.string x)) (first | exact r2 | exact HK.out _ hb2) ((go_at_call 97; (with_reducible refine (HMT.out _).mono ?_); rintro e w2 ⟨rfl, hb2⟩))
      go_wp2
      go_roundw
      case rel => exact ⟨k + 1, by omega, by go_num, by have := HM.out; go_num, below_then hbr.drew hb2 (by simpa using hbr.size)⟩
      case measure => simp [intOf]; omega
    · obtain rfl : k = n := by omega
      go_wp2
      go_ret
      exact ⟨rfl, hbr⟩

/-! ### Slices of strings -/
def strs (l : List ByteArray) : List Value := l.map Value.string
theorem strs_len (l : List ByteArray) : (strs l).length = l.length := by simp [strs]
theorem strs_get {l : List ByteArray} {k : Nat} (h : k < l.length) : (strs l)[k]? = some (.string (l.getD k ⟨#[]⟩)) := by simp [strs, h]
theorem strs_set (l : List ByteArray) (k : Nat) (s : ByteArray) : strs (l.set k s) = (strs l).set k (.string s) := by simp [strs, List.map_set]
theorem At.str {w : World} {b off n : Nat} {l : List ByteArray} (hc : ∀ j u, (strs l)[j]? = some u → w.cell? ⟨b, off + j, none⟩ = some u) (hl : l.length = n) {k : Nat} (hk : k < n) :
    w.cell? ⟨b, off + k, none⟩ = some (.string (l.getD k ⟨#[]⟩)) := hc k _ (strs_get (by omega))

/-- The marks that a law writes into n strings. -/
def tmarks (s n : Nat) : List ByteArray := (List.range n).map fun i => mtext (s + i)
theorem tmarks_len (s n : Nat) : (tmarks s n).length = n := by simp [tmarks]
theorem tmarks_get {s n i : Nat} (h : i < n) : (tmarks s n).getD i ⟨#[]⟩ = mtext (s + i) := by simp [tmarks, h]
def tmarked (s : Nat) (l : List ByteArray) (k : Nat) : List ByteArray := tmarks s k ++ l.drop k
theorem tmarked_zero (s : Nat) (l : List ByteArray) : tmarked s l 0 = l := by simp [tmarked, tmarks]
theorem tmarked_all (s : Nat) (l : List ByteArray) : tmarked s l l.length = tmarks s l.length := by simp [tmarked]
theorem tmarked_set {s : Nat} {l : List ByteArray} {k : Nat} (h : k < l.length) : (tmarked s l k).set k (mtext (s + k)) = tmarked s l (k + 1) := by
  have hl : (tmarks s k).length = k := tmarks_len s k
  unfold tmarked
  rw [List.set_append_right _ _ (by omega), hl, Nat.sub_self, List.drop_eq_getElem_cons h, List.set_cons_zero]
  simp [tmarks, List.range_succ]

end Go.Proofs.YtkofafefnlommaaGreat

/- Runs: what they are, and the laws' own helpers over one Run and over slices of them. -/
namespace Go.Proofs.YtkofafefnlommaaGreat
open Go.RowKit

/-- A Run: a value, and how often. -/
structure U where
  v : V
  k : Int
abbrev U.agg (u : U) : Value := .agg #[.int .i64 u.v.ty, .int .i64 u.v.n, .string u.v.s, .int .i64 u.k]
def U.cs (u : U) : List Value := [.int .i64 u.v.ty, .int .i64 u.v.n, .string u.v.s, .int .i64 u.k]
def U.zero : U := ⟨V.zero, 0⟩
/-- The cells of a list of Runs. -/
def rus (l : List U) : List Value := l.flatMap U.cs
theorem rus_len (l : List U) : (rus l).length = l.length * 4 := flat_len U.cs 4 (fun _ => rfl) l
theorem rus_get {l : List U} {k j : Nat} (hk : k < l.length) (hj : j < 4) : (rus l)[k * 4 + j]? = l[k].cs[j]? := flat_get U.cs 4 (fun _ => rfl) l k j hk hj
theorem cells4 {w : World} {b off : Nat} {l : List U} (hc : ∀ j u, (rus l)[j]? = some u → w.cell? ⟨b, off + j, none⟩ = some u) {k : Nat} (hk : k < l.length) :
    w.cell? ⟨b, off + k * 4, none⟩ = some (.int .i64 l[k].v.ty) ∧ w.cell? ⟨b, off + k * 4 + 1, none⟩ = some (.int .i64 l[k].v.n) ∧ w.cell? ⟨b, off + k * 4 + 2, none⟩ = some (.string l[k].v.s) ∧ w.cell? ⟨b, off + k * 4 + 3, none⟩ = some (.int .i64 l[k].k) :=
  ⟨hc (k * 4) _ (rus_get (j := 0) hk (by omega)), hc (k * 4 + 1) _ (rus_get (j := 1) hk (by omega)), hc (k * 4 + 2) _ (rus_get (j := 2) hk (by omega)), hc (k * 4 + 3) _ (rus_get (j := 3) hk (by omega))⟩
/-- The slice of Runs, for a walk: its k-th element, in every later world. -/
theorem Rd.runs {w : World} {u : Value} {n : Nat} {l : List U} (h : Rd 4 w u n (rus l)) (hl : l.length = n) :
    ∃ a cap, u = .slice a n cap ∧ n ≤ maxLen ∧ Hid (∀ k, k < n → ∀ W, Below w.heap.size w W → ∃ b off, a = some ⟨b, off, none⟩ ∧ W.cell? ⟨b, off + k * 4, none⟩ = some (.int .i64 (l.getD k U.zero).v.ty) ∧ W.cell? ⟨b, off + k * 4 + 1, none⟩ = some (.int .i64 (l.getD k U.zero).v.n) ∧ W.cell? ⟨b, off + k * 4 + 2, none⟩ = some (.string (l.getD k U.zero).v.s) ∧ W.cell? ⟨b, off + k * 4 + 3, none⟩ = some (.int .i64 (l.getD k U.zero).k)) := by
  obtain ⟨a, cap, rfl, hn, _, hx⟩ := h
  refine ⟨a, cap, rfl, hn, fun k hk W hW => ?_⟩
  rcases hx with h0 | ⟨b, off, rfl, hc⟩
  · omega
  · have hk' : k < l.length := by omega
    have e : l.getD k U.zero = l[k] := by simp [hk']
    rw [e]
    have c := cells4 hc hk'
    exact ⟨b, off, rfl, (hW.cell (p := ⟨b, off + k * 4, none⟩) (lt_of_cell c.1)).trans c.1, (hW.cell (p := ⟨b, off + k * 4 + 1, none⟩) (lt_of_cell c.2.1)).trans c.2.1, (hW.cell (p := ⟨b, off + k * 4 + 2, none⟩) (lt_of_cell c.2.2.1)).trans c.2.2.1, (hW.cell (p := ⟨b, off + k * 4 + 3, none⟩) (lt_of_cell c.2.2.2)).trans c.2.2.2⟩

theorem Tryz.elemRuns : ElemT Tryz.prog 122 124 U.zero.agg 4 40 := ⟨Tryz.underlying122, info_parts (by kernel_rfl), rfl, by decide⟩
theorem rus_set (l : List U) (k : Nat) (x : U) (hk : k < l.length) : rus (l.set k x) = ((((rus l).set (k * 4) (.int .i64 x.v.ty)).set (k * 4 + 1) (.int .i64 x.v.n)).set (k * 4 + 2) (.string x.v.s)).set (k * 4 + 3) (.int .i64 x.k) := by
  have hl := rus_len l
  apply List.ext_getElem?
  intro i
  unfold rus at hl ⊢
  rw [flat_set U.cs 4 (fun _ => rfl) l k x hk i]
  simp only [List.getElem?_set, List.length_set]
  by_cases h3 : k * 4 + 3 = i
  · subst h3
    rw [if_pos (by omega), if_pos rfl, if_pos (by omega), show k * 4 + 3 - k * 4 = 3 by omega]
    rfl
  · by_cases h2 : k * 4 + 2 = i
    · subst h2
      rw [if_pos (by omega), if_neg (by omega), if_pos rfl, if_pos (by omega), show k * 4 + 2 - k * 4 = 2 by omega]
      rfl
    · by_cases h1 : k * 4 + 1 = i
      · subst h1
        rw [if_pos (by omega), if_neg (by omega), if_neg (by omega), if_pos rfl, if_pos (by omega), show k * 4 + 1 - k * 4 = 1 by omega]
        rfl
      · by_cases h0 : k * 4 = i
        · subst h0
          rw [if_pos (by omega), if_neg (by omega), if_neg (by omega), if_neg (by omega), if_pos rfl, if_pos (by omega), Nat.sub_self]
          rfl
        · rw [if_neg (by omega), if_neg h3, if_neg h2, if_neg h1, if_neg h0]
/-- The cells of Run k of an owned slice, stored anew. -/
theorem stored4 {w : World} {lo : Nat} {e : TypeId} {g n cap : Nat} {l : List U} (h : w.ownsRow lo e 4 (.slice (some ⟨g, 0, none⟩) n cap) n (rus l)) (k : Nat) (x : U) (hk : k < l.length) :
    ((((w.setCell ⟨g, k * 4, none⟩ (.int .i64 x.v.ty)).setCell ⟨g, k * 4 + 1, none⟩ (.int .i64 x.v.n)).setCell ⟨g, k * 4 + 2, none⟩ (.string x.v.s)).setCell ⟨g, k * 4 + 3, none⟩ (.int .i64 x.k)).ownsRow lo e 4 (.slice (some ⟨g, 0, none⟩) n cap) n (rus (l.set k x)) ∧
      w.grownBy ((((w.setCell ⟨g, k * 4, none⟩ (.int .i64 x.v.ty)).setCell ⟨g, k * 4 + 1, none⟩ (.int .i64 x.v.n)).setCell ⟨g, k * 4 + 2, none⟩ (.string x.v.s)).setCell ⟨g, k * 4 + 3, none⟩ (.int .i64 x.k)) (some g) := by
  have s1 := h.stored (k * 4) (.int .i64 x.v.ty)
  have s2 := s1.1.stored (k * 4 + 1) (.int .i64 x.v.n)
  have s3 := s2.1.stored (k * 4 + 2) (.string x.v.s)
  have s4 := s3.1.stored (k * 4 + 3) (.int .i64 x.k)
  rw [rus_set l k x hk]
  exact ⟨s4.1, ((s1.2.trans s2.2).trans s3.2).trans s4.2⟩

/-- Four cells of a block that may be written. -/
def Four (W : World) (b : Nat) (u : U) : Prop :=
  (W.cell? ⟨b, 0, none⟩ = some (.int .i64 u.v.ty) ∧ W.cell? ⟨b, 1, none⟩ = some (.int .i64 u.v.n) ∧ W.cell? ⟨b, 2, none⟩ = some (.string u.v.s) ∧ W.cell? ⟨b, 3, none⟩ = some (.int .i64 u.k)) ∧
  W.frozen? ⟨b, 0, none⟩ = false ∧ W.frozen? ⟨b, 1, none⟩ = false ∧ W.frozen? ⟨b, 2, none⟩ = false ∧ W.frozen? ⟨b, 3, none⟩ = false
theorem Four.below {W W' : World} {b : Nat} {u : U} (h : Four W b u) (hb : Below W.heap.size W W') : Four W' b u := by
  have hlt := lt_of_cell h.1.1
  exact ⟨⟨(hb.cell (p := ⟨b, 0, none⟩) hlt).trans h.1.1, (hb.cell (p := ⟨b, 1, none⟩) hlt).trans h.1.2.1, (hb.cell (p := ⟨b, 2, none⟩) hlt).trans h.1.2.2.1, (hb.cell (p := ⟨b, 3, none⟩) hlt).trans h.1.2.2.2⟩,
    (hb.frozen (p := ⟨b, 0, none⟩) hlt).trans h.2.1, (hb.frozen (p := ⟨b, 1, none⟩) hlt).trans h.2.2.1, (hb.frozen (p := ⟨b, 2, none⟩) hlt).trans h.2.2.2.1, (hb.frozen (p := ⟨b, 3, none⟩) hlt).trans h.2.2.2.2⟩
theorem four_new (w : World) (u : U) (e : TypeId) : Four (w.alloc (.cells #[.int .i64 u.v.ty, .int .i64 u.v.n, .string u.v.s, .int .i64 u.k] e)) w.heap.size u :=
  ⟨⟨by simp, by simp, by simp, by simp⟩, by simp, by simp, by simp, by simp⟩

/-- What the sizes of a list of Runs come to. -/
def bulkU (l : List U) : Nat := (l.map fun u => u.v.s.size).sum
theorem bulkU_take_succ (l : List U) (k : Nat) (h : k < l.length) : bulkU (l.take (k + 1)) = bulkU (l.take k) + (l.getD k U.zero).v.s.size := by
  have e : l.getD k U.zero = l[k] := by simp [h]
  unfold bulkU
  rw [e, List.take_succ_eq_append_getElem h, List.map_append, List.sum_append]
  simp

/-- A copy of l after k rounds. -/
def halfU (l : List U) (k : Nat) : List U := l.take k ++ List.replicate (l.length - k) U.zero
theorem halfU_len {l : List U} {k : Nat} (h : k ≤ l.length) : (halfU l k).length = l.length := by simp [halfU]; omega
theorem halfU_all (l : List U) : halfU l l.length = l := by simp [halfU]
theorem halfU_set {l : List U} {k : Nat} (h : k < l.length) : (halfU l k).set k (l.getD k U.zero) = halfU l (k + 1) := by
  have e : l.getD k U.zero = l[k] := by simp [h]
  have hl : (l.take k).length = k := by simp; omega
  unfold halfU
  rw [e, List.set_append_right _ _ (by omega), hl, Nat.sub_self, show l.length - k = (l.length - (k + 1)) + 1 by omega, List.replicate_succ, List.set_cons_zero, List.take_succ_eq_append_getElem h, List.append_assoc]
  rfl

end Go.Proofs.YtkofafefnlommaaGreat

/- The laws' own helpers over slices of Runs: markRunS, heldRunS. -/
namespace Go.Proofs.YtkofafefnlommaaGreat
open Go.RowKit

/-- What markRunS leaves. -/
def umark (m : Nat) : U := ⟨⟨m, (m : Int) + 1, mtext (m + 2)⟩, (m : Int) + 3⟩
def umarks (s n : Nat) : List U := (List.range n).map fun j => umark (s + 4 * j)
theorem umarks_len (s n : Nat) : (umarks s n).length = n := by simp [umarks]
theorem umarks_get {s n k : Nat} (h : k < n) : (umarks s n).getD k U.zero = umark (s + 4 * k) := by simp [umarks, h]
theorem umarks_set {s k m : Nat} {l : List U} (h : k < l.length) (hm : s + 4 * k = m) : (umarks s k ++ l.drop k).set k (umark m) = umarks s (k + 1) ++ l.drop (k + 1) := by
  subst hm
  rw [List.set_append_right _ _ (by rw [umarks_len]; exact Nat.le_refl _), umarks_len, Nat.sub_self, List.drop_eq_getElem_cons h, List.set_cons_zero]
  unfold umarks
  rw [List.range_succ, List.map_append, List.append_assoc]
  rfl

end Go.Proofs.YtkofafefnlommaaGreat
