/- Texts of this claim, one behind the other: ZS11, S10z, S11, S11m, IVal, IValOk, R4. -/
import Derived.Test.YtpinoemckapbhaaP13
import Derived.Test.YtpinoemckapbhaaP2
import Derived.Test.YtpinoemckapbhaaP6
import Derived.Test.YtpinoemckapbhaaP3
import Derived.Deep.RegionHeld3
import Derived.Test.YtpinoemckapbhaaP5

/- Slices of Zones: what they are; the laws' own szZoneS, toZoneS, eqZoneS (written by mk_ZS11.py). -/
namespace Go.Proofs.Ytpinoemckapbhaa
open Go.RowKit

/-- The cells of a list of Zones. -/
def zns (l : List Zn) : List Value := l.flatMap Zn.cs
theorem zns_len (l : List Zn) : (zns l).length = l.length * 6 := flat_len Zn.cs 6 (fun _ => rfl) l
theorem zns_get {l : List Zn} {k j : Nat} (hk : k < l.length) (hj : j < 6) : (zns l)[k * 6 + j]? = l[k].cs[j]? := flat_get Zn.cs 6 (fun _ => rfl) l k j hk hj
/-- The slice of Zones, for a walk: its k-th element, in every later world. -/
theorem Rd.zones {w : World} {u : Value} {n : Nat} {l : List Zn} (h : Rd 6 w u n (zns l)) (hl : l.length = n) :
    ∃ a cap, u = .slice a n cap ∧ n ≤ maxLen ∧ Hid (∀ k, k < n → ∀ W, Below w.heap.size w W → ∃ b off, a = some ⟨b, off, none⟩ ∧ W.cell? ⟨b, off + k * 6, none⟩ = some (.int .i64 (l.getD k Zn.zero).lo.ty) ∧ W.cell? ⟨b, off + k * 6 + 1, none⟩ = some (.int .i64 (l.getD k Zn.zero).lo.n) ∧ W.cell? ⟨b, off + k * 6 + 2, none⟩ = some (.string (l.getD k Zn.zero).lo.s) ∧ W.cell? ⟨b, off + k * 6 + 3, none⟩ = some (.int .i64 (l.getD k Zn.zero).hi.ty) ∧ W.cell? ⟨b, off + k * 6 + 4, none⟩ = some (.int .i64 (l.getD k Zn.zero).hi.n) ∧ W.cell? ⟨b, off + k * 6 + 5, none⟩ = some (.string (l.getD k Zn.zero).hi.s)) := by
  obtain ⟨a, cap, rfl, hn, _, hx⟩ := h
  refine ⟨a, cap, rfl, hn, fun k hk W hW => ?_⟩
  rcases hx with h0 | ⟨b, off, rfl, hc⟩
  · omega
  · have hk' : k < l.length := by omega
    have e : l.getD k Zn.zero = l[k] := by simp [hk']
    rw [e]
    have key : ∀ j x, j < 6 → l[k].cs[j]? = some x → W.cell? ⟨b, off + k * 6 + j, none⟩ = some x := fun j x hj hx => by
      have := hc (k * 6 + j) x ((zns_get hk' hj).trans hx)
      rw [← Nat.add_assoc] at this
      exact (hW.cell (p := ⟨b, off + k * 6 + j, none⟩) (lt_of_cell this)).trans this
    exact ⟨b, off, rfl, key 0 _ (by omega) rfl, key 1 _ (by omega) rfl, key 2 _ (by omega) rfl, key 3 _ (by omega) rfl, key 4 _ (by omega) rfl, key 5 _ (by omega) rfl⟩

/-- What the sizes of a list of Zones come to. -/
def bulkZ (l : List Zn) : Nat := (l.map fun z => z.lo.s.size + z.hi.s.size).sum
theorem bulkZ_take_succ (l : List Zn) (k : Nat) (h : k < l.length) : bulkZ (l.take (k + 1)) = bulkZ (l.take k) + ((l.getD k Zn.zero).lo.s.size + (l.getD k Zn.zero).hi.s.size) := by
  have e : l.getD k Zn.zero = l[k] := by simp [h]
  unfold bulkZ
  rw [e, List.take_succ_eq_append_getElem h, List.map_append, List.sum_append]
  simp
theorem szV_eq {v : V} {left : Int} (h : 0 ≤ szV v left) : szV v left = left - v.s.size := by
  unfold szV at h ⊢
  split
  · rename_i h2
    rw [if_pos h2] at h
    omega
  · rfl
theorem szZ_eq {z : Zn} {left : Int} (h : 0 ≤ szZ z left) : szZ z left = left - z.lo.s.size - z.hi.s.size := by
  unfold szZ at h ⊢
  split
  · rename_i h2
    rw [if_pos h2] at h
    omega
  · rename_i h2
    rw [if_neg h2] at h
    split
    · rename_i h3
      rw [if_pos h3] at h
      omega
    · rename_i h3
      have e1 := szV_eq (v := z.lo) (left := left) (by omega)
      have e2 := szV_eq (v := z.hi) (left := szV z.lo left) (by omega)
      rw [e2, e1]

set_option maxHeartbeats 1000000 in
theorem szZoneS (u : Value) (l : List Zn) (left : Int) (w : World) (h0 : 0 ≤ left) (h1 : left ≤ 1048576) (hss : ∀ x ∈ l, x.lo.s.size ≤ maxLen ∧ x.hi.s.size ≤ maxLen) (h : Rd 6 w u l.length (zns l)) :
    Calls Try.prog 35 #[u, .int .i64 left] w fun e w' => ∃ r : Int, e = .returned (.int .i64 r) ∧ (r < 0 ∨ (0 ≤ r ∧ (l.length : Int) + bulkZ l ≤ left - r)) ∧ Below w.heap.size w w' := by
  generalize hl : l.length = n at h
  obtain ⟨a, cap, rfl, hle, HC⟩ := h.zones hl
  unfold maxLen at hle
  have HL := Lib.hid hl
  have HS : Hid (∀ k, k < n → (l.getD k Zn.zero).lo.s.size ≤ maxLen ∧ (l.getD k Zn.zero).hi.s.size ≤ maxLen) := fun k hk => by
    have hk' : k < l.length := by omega
    have e : l.getD k Zn.zero = l[k] := by simp [hk']
    rw [e]
    exact hss _ (List.getElem_mem hk')
  clear hl hss h
  by_cases hbig : left - (n : Int) < 0
  · go_enter Try.func35, Try.ntmps35
    go_wp2
    go_ret
    exact ⟨_, rfl, .inl (by omega), Below.refl _ _⟩
  · go_enter Try.func35, Try.ntmps35
    go_wp2
    go_loopw [1, 5] (fun r i wr => ∃ (k : Nat) (z : Int), k ≤ n ∧ 0 ≤ z ∧ z ≤ left ∧ (n : Int) + bulkZ (l.take k) = left - z ∧ r = .int .i64 z ∧ i = .int .i64 k ∧ Below w.heap.size w wr) (fun _ i _ => n - (intOf i).toNat)
    case atStart => exact ⟨0, _, Nat.zero_le _, by omega, by omega, by simp [bulkZ]; omega, rfl, rfl, Below.refl _ _⟩
    case round =>
      obtain ⟨k, z, hk, hz0, hz1, hzb, rfl, rfl, hbr⟩ := hrel
      by_cases hkl : k < n
      · obtain ⟨b, off, rfl, c0, c1, c2, c3, c4, c5⟩ := HC.out k hkl wr hbr
        have hsz := HS.out k hkl
        have HB := Lib.hid (bulkZ_take_succ l k (by rw [HL.out]; exact hkl))
        have HZ := Lib.hid (szZone (l.getD k Zn.zero) z wr hz0 (by omega) hsz.1 hsz.2)
        have HE := Lib.hid (szZ_eq (z := l.getD k Zn.zero) (left := z))
        have HLE : Hid (szZ (l.getD k Zn.zero) z ≤ z) := szZ_le hz0
        generalize szZ (l.getD k Zn.zero) z = y at HZ HE HLE
        generalize l.getD k Zn.zero = x at c0 c1 c2 c3 c4 c5 HB HZ HE
        obtain ⟨⟨a1, a2, a3⟩, ⟨a4, a5, a6⟩⟩ := x
        simp only at c0 c1 c2 c3 c4 c5 HB HZ HE
        clear hsz
        go_wp2_with fail
        refine HZ.out.mono ?_
        rintro e w2 ⟨rfl, b2⟩
        have B2 := below_then hbr b2 hbr.size
        clear b2 c0 c1 c2 c3 c4 c5 HZ
        by_cases hneg : y < 0
        · go_wp2
          go_ret
          exact ⟨_, rfl, .inl (by omega), B2⟩
        · have he := Lib.hid (HE.out (by omega))
          have hy := HLE.out
          go_wp2
          go_roundw
          case rel => exact ⟨k + 1, _, by omega, by omega, by omega, by rw [HB.out]; have := he.out; omega, rfl, by go_num, B2⟩
          case measure => simp [intOf]; omega
      · obtain rfl : k = n := by omega
        go_wp2
        go_ret
        refine ⟨_, rfl, .inr ⟨hz0, ?_⟩, hbr⟩
        rw [← HL.out, List.take_length] at hzb
        rw [← HL.out]
        omega

theorem Try.elemZones : ElemT Try.prog 36 79 Zn.zero.agg 6 64 := ⟨Try.underlying36, info_parts (by kernel_rfl), rfl, by decide⟩
/-- Six cells stored from place p on. -/
def put6 (xs : List Value) (p : Nat) (ys : List Value) : List Value := ((((((xs.set p (ys.getD 0 undef)).set (p + 1) (ys.getD 1 undef)).set (p + 2) (ys.getD 2 undef)).set (p + 3) (ys.getD 3 undef)).set (p + 4) (ys.getD 4 undef)).set (p + 5) (ys.getD 5 undef))
theorem put6_len (xs : List Value) (p : Nat) (ys : List Value) : (put6 xs p ys).length = xs.length := by simp [put6]
theorem put6_out {xs ys : List Value} {p q : Nat} (h : q < p ∨ p + 6 ≤ q) : (put6 xs p ys)[q]? = xs[q]? := by
  unfold put6
  simp only [List.getElem?_set]
  repeat rw [if_neg (by omega)]
theorem put6_in {xs ys : List Value} {p i : Nat} (hl : p + 6 ≤ xs.length) (hy : ys.length = 6) (hi : i < 6) : (put6 xs p ys)[p + i]? = ys[i]? := by
  have hyi : ys[i]? = some (ys.getD i undef) := by
    have : i < ys.length := by omega
    simp [this]
  rw [hyi]
  unfold put6
  simp only [List.getElem?_set, List.length_set]
  have h6 : i = 0 ∨ i = 1 ∨ i = 2 ∨ i = 3 ∨ i = 4 ∨ i = 5 := by omega
  rcases h6 with rfl | rfl | rfl | rfl | rfl | rfl
  · rw [if_neg (by omega)]; rw [if_neg (by omega)]; rw [if_neg (by omega)]; rw [if_neg (by omega)]; rw [if_neg (by omega)]; rw [if_pos (by omega), if_pos (by omega)]
  · rw [if_neg (by omega)]; rw [if_neg (by omega)]; rw [if_neg (by omega)]; rw [if_neg (by omega)]; rw [if_pos (by omega), if_pos (by omega)]
  · rw [if_neg (by omega)]; rw [if_neg (by omega)]; rw [if_neg (by omega)]; rw [if_pos (by omega), if_pos (by omega)]
  · rw [if_neg (by omega)]; rw [if_neg (by omega)]; rw [if_pos (by omega), if_pos (by omega)]
  · rw [if_neg (by omega)]; rw [if_pos (by omega), if_pos (by omega)]
  · rw [if_pos (by omega), if_pos (by omega)]

set_option maxHeartbeats 4000000 in
theorem toZoneS (u : Value) (l : List Zn) (w : World) (hln : l.length ≤ 1073741824) (h : Rd 6 w u l.length (zns l)) :
    Calls Try.prog 36 #[u] w fun e w' => ∃ v, e = .returned v ∧ Rd 6 w' v l.length (zns l) ∧ Below w.heap.size w w' := by
  generalize hl : l.length = n at hln h
  obtain ⟨a, cap, rfl, hle, HC⟩ := h.zones hl
  have HL := Lib.hid hl
  clear h hl
  go_enter Try.func36, Try.ntmps36
  go_wp2_with (at_make; refine make_law Try.elemZones rfl _ _ rfl .i64 .i64 _ _ n rfl rfl rfl rfl (by omega) (by unfold maxLen; omega) ?_)
  intro w1 hown hb1
  obtain ⟨xs0, hxl, hblk⟩ : ∃ xs : List Value, xs.length = n * 6 ∧ Blk w1 w.heap.size xs := by
    have r := hown.row
    refine ⟨_, r.1, fun i x hx => ⟨(r.cellAt i ?_).trans hx, r.frozenAt i⟩⟩
    have := (List.getElem?_eq_some_iff.1 hx).1
    rw [r.1] at this
    exact this
  have hg1 : w.heap.size < w1.heap.size := by
    obtain ⟨g, cp, e, _, h2, _⟩ := hown
    simp only [Value.slice.injEq, Option.some.injEq, Addr.mk.injEq, and_true] at e
    omega
  clear hown
  go_wp2
  go_loopw [4] (fun i wr => ∃ (k : Nat) (xs : List Value), k ≤ n ∧ i = .int .i64 k ∧ xs.length = n * 6 ∧ Blk wr w.heap.size xs ∧ w.heap.size < wr.heap.size ∧ Below w.heap.size w wr ∧
    ∀ j, j < k → ∀ i, i < 6 → xs[j * 6 + i]? = (l.getD j Zn.zero).cs[i]?) (fun i _ => n - (intOf i).toNat)
  case atStart => exact ⟨0, xs0, Nat.zero_le _, rfl, hxl, hblk, hg1, hb1, fun j hj => by omega⟩
  case round =>
    obtain ⟨k, xs, hk, rfl, hxk, hB, hgr, hbr, hpre⟩ := hrel
    have HPRE := Lib.hid hpre
    have HB := Lib.hid hB
    clear hpre hB hblk hxl hb1 hg1
    by_cases hlt : k < n
    · obtain ⟨b, off, rfl, c0, c1, c2, c3, c4, c5⟩ := HC.out k hlt wr hbr
      have HX := Lib.hid (toZone (l.getD k Zn.zero) wr)
      generalize hx : l.getD k Zn.zero = x at c0 c1 c2 c3 c4 c5 HX
      have HXX := Lib.hid hx
      clear hx
      obtain ⟨⟨a1, a2, a3⟩, ⟨a4, a5, a6⟩⟩ := x
      simp only at c0 c1 c2 c3 c4 c5 HX
      go_wp2_with fail
      refine HX.out.mono ?_
      rintro e w2 ⟨rfl, b2⟩
      have B2 := Lib.hid (below_then hbr b2 hbr.size)
      have HG2 : Hid (w.heap.size < w2.heap.size) := Nat.lt_of_lt_of_le hgr b2.size
      have Blk2 := HB.out.below b2
      have HB2 := Lib.hid Blk2
      have cc : ∀ i, i < 6 → ∃ y, xs[k * 6 + i]? = some y := fun i hi => ⟨_, List.getElem?_eq_getElem (by omega)⟩
      obtain ⟨y0, hy0⟩ := cc 0 (by omega)
      obtain ⟨y1, hy1⟩ := cc 1 (by omega)
      obtain ⟨y2, hy2⟩ := cc 2 (by omega)
      obtain ⟨y3, hy3⟩ := cc 3 (by omega)
      obtain ⟨y4, hy4⟩ := cc 4 (by omega)
      obtain ⟨y5, hy5⟩ := cc 5 (by omega)
      obtain ⟨e0, f0⟩ := Blk2 _ _ hy0
      obtain ⟨e1, f1⟩ := Blk2 _ _ hy1
      obtain ⟨e2, f2⟩ := Blk2 _ _ hy2
      obtain ⟨e3, f3⟩ := Blk2 _ _ hy3
      obtain ⟨e4, f4⟩ := Blk2 _ _ hy4
      obtain ⟨e5, f5⟩ := Blk2 _ _ hy5
      simp only [Nat.add_zero] at e0 f0
      clear Blk2 cc b2 HX c0 c1 c2 c3 c4 c5 hy0 hy1 hy2 hy3 hy4 hy5
      have FIN : Hid (∃ xs2 : List Value, xs2.length = n * 6 ∧ Blk ((((((w2.setCell ⟨w.heap.size, k * 6, none⟩ (.int .i64 a1)).setCell ⟨w.heap.size, k * 6 + 1, none⟩ (.int .i64 a2)).setCell ⟨w.heap.size, k * 6 + 2, none⟩ (.string a3)).setCell ⟨w.heap.size, k * 6 + 3, none⟩ (.int .i64 a4)).setCell ⟨w.heap.size, k * 6 + 4, none⟩ (.int .i64 a5)).setCell ⟨w.heap.size, k * 6 + 5, none⟩ (.string a6)) w.heap.size xs2 ∧ ∀ j, j < k + 1 → ∀ i, i < 6 → xs2[j * 6 + i]? = (l.getD j Zn.zero).cs[i]?) := by
        refine ⟨put6 xs (k * 6) (Zn.cs ⟨⟨a1, a2, a3⟩, ⟨a4, a5, a6⟩⟩), (put6_len _ _ _).trans hxk, (((((HB2.out.set _ _).set _ _).set _ _).set _ _).set _ _).set _ _, fun j hj i hi => ?_⟩
        by_cases hjk : j = k
        · subst hjk
          rw [HXX.out, put6_in (by omega) rfl hi]
        · rw [put6_out (by omega)]
          exact HPRE.out j (by omega) i hi
      go_wp2
      go_roundw
      case rel =>
        obtain ⟨xs2, h1, h2, h3⟩ := FIN.out
        exact ⟨k + 1, xs2, by omega, by go_num, h1, h2, by simpa using HG2.out, (((((B2.out.setCell (by simp) _).setCell (by simp) _).setCell (by simp) _).setCell (by simp) _).setCell (by simp) _).setCell (by simp) _, h3⟩
      case measure => simp [intOf]; omega
    · obtain rfl : k = n := by omega
      go_wp2
      go_ret
      refine ⟨_, rfl, ⟨_, _, rfl, by unfold maxLen; omega, by rw [zns_len, HL.out], .inr ⟨_, _, rfl, fun q x hx => ?_⟩⟩, hbr⟩
      rw [Nat.zero_add]
      have hq : q < l.length * 6 := by
        have := (List.getElem?_eq_some_iff.1 hx).1
        rwa [zns_len] at this
      have h1 : q / 6 < l.length := by omega
      have h2 : q % 6 < 6 := Nat.mod_lt _ (by omega)
      have h3 := Nat.div_add_mod' q 6
      have h4 := HPRE.out (q / 6) (by rw [← HL.out]; exact h1) (q % 6) h2
      have h5 := zns_get h1 h2
      rw [h3] at h4 h5
      have e : l.getD (q / 6) Zn.zero = l[q / 6] := by simp [h1]
      rw [e, ← h5, hx] at h4
      exact (HB.out _ _ h4).1

set_option maxHeartbeats 1000000 in
theorem eqZoneS (u v : Value) (l : List Zn) (w : World) (hu : Rd 6 w u l.length (zns l)) (hv : Rd 6 w v l.length (zns l)) :
    Calls Try.prog 30 #[u, v] w fun e w' => e = .returned (.bool true) ∧ Below w.heap.size w w' := by
  generalize hl : l.length = n at hu hv
  obtain ⟨a1, cap1, rfl, hle, HC1⟩ := hu.zones hl
  obtain ⟨a2, cap2, rfl, _, HC2⟩ := hv.zones hl
  unfold maxLen at hle
  have hne : ((n : Int) != (n : Int)) = false := by simp
  clear hu hv hl
  go_enter Try.func30, Try.ntmps30
  go_wp2
  go_loopw [5] (fun i wr => ∃ k : Nat, k ≤ n ∧ i = .int .i64 k ∧ Below w.heap.size w wr) (fun i _ => n - (intOf i).toNat)
  case atStart => exact ⟨0, Nat.zero_le _, rfl, Below.refl _ _⟩
  case round =>
    obtain ⟨k, hk, rfl, hbr⟩ := hrel
    by_cases hlt : k < n
    · obtain ⟨b1, o1, rfl, p0, p1, p2, p3, p4, p5⟩ := HC1.out k hlt wr hbr
      obtain ⟨b2, o2, rfl, q0, q1, q2, q3, q4, q5⟩ := HC2.out k hlt wr hbr
      have HE := Lib.hid (fun W => eqZone (l.getD k Zn.zero) W)
      generalize l.getD k Zn.zero = x at p0 p1 p2 p3 p4 p5 q0 q1 q2 q3 q4 q5 HE
      obtain ⟨⟨a1, a2, a3⟩, ⟨a4, a5, a6⟩⟩ := x
      simp only at p0 p1 p2 p3 p4 p5 q0 q1 q2 q3 q4 q5
      have HK : Hid (∀ W, Below wr.heap.size wr W → W.cell? ⟨b1, o1 + k * 6, none⟩ = some (.int .i64 a1) ∧ W.cell? ⟨b1, o1 + k * 6 + 1, none⟩ = some (.int .i64 a2) ∧ W.cell? ⟨b1, o1 + k * 6 + 2, none⟩ = some (.string a3) ∧ W.cell? ⟨b1, o1 + k * 6 + 3, none⟩ = some (.int .i64 a4) ∧ W.cell? ⟨b1, o1 + k * 6 + 4, none⟩ = some (.int .i64 a5) ∧ W.cell? ⟨b1, o1 + k * 6 + 5, none⟩ = some (.string a6) ∧ W.cell? ⟨b2, o2 + k * 6, none⟩ = some (.int .i64 a1) ∧ W.cell? ⟨b2, o2 + k * 6 + 1, none⟩ = some (.int .i64 a2) ∧ W.cell? ⟨b2, o2 + k * 6 + 2, none⟩ = some (.string a3) ∧ W.cell? ⟨b2, o2 + k * 6 + 3, none⟩ = some (.int .i64 a4) ∧ W.cell? ⟨b2, o2 + k * 6 + 4, none⟩ = some (.int .i64 a5) ∧ W.cell? ⟨b2, o2 + k * 6 + 5, none⟩ = some (.string a6)) := fun W h =>
        ⟨(h.cell (p := ⟨b1, o1 + k * 6, none⟩) (lt_of_cell p0)).trans p0, (h.cell (p := ⟨b1, o1 + k * 6 + 1, none⟩) (lt_of_cell p1)).trans p1, (h.cell (p := ⟨b1, o1 + k * 6 + 2, none⟩) (lt_of_cell p2)).trans p2, (h.cell (p := ⟨b1, o1 + k * 6 + 3, none⟩) (lt_of_cell p3)).trans p3, (h.cell (p := ⟨b1, o1 + k * 6 + 4, none⟩) (lt_of_cell p4)).trans p4, (h.cell (p := ⟨b1, o1 + k * 6 + 5, none⟩) (lt_of_cell p5)).trans p5, (h.cell (p := ⟨b2, o2 + k * 6, none⟩) (lt_of_cell q0)).trans q0, (h.cell (p := ⟨b2, o2 + k * 6 + 1, none⟩) (lt_of_cell q1)).trans q1, (h.cell (p := ⟨b2, o2 + k * 6 + 2, none⟩) (lt_of_cell q2)).trans q2, (h.cell (p := ⟨b2, o2 + k * 6 + 3, none⟩) (lt_of_cell q3)).trans q3, (h.cell (p := ⟨b2, o2 + k * 6 + 4, none⟩) (lt_of_cell q4)).trans q4, (h.cell (p := ⟨b2, o2 + k * 6 + 5, none⟩) (lt_of_cell q5)).trans q5⟩
      have hB' := (Below.refl wr.heap.size wr).drew
      clear p0 p1 p2 p3 p4 p5 q0 q1 q2 q3 q4 q5
      go_wp2
      go_region_held3 (fun W => W.cell? ⟨b1, o1 + k * 6, none⟩ = some (.int .i64 a1) ∧ W.cell? ⟨b1, o1 + k * 6 + 1, none⟩ = some (.int .i64 a2) ∧ W.cell? ⟨b1, o1 + k * 6 + 2, none⟩ = some (.string a3) ∧ W.cell? ⟨b1, o1 + k * 6 + 3, none⟩ = some (.int .i64 a4) ∧ W.cell? ⟨b1, o1 + k * 6 + 4, none⟩ = some (.int .i64 a5) ∧ W.cell? ⟨b1, o1 + k * 6 + 5, none⟩ = some (.string a6) ∧ W.cell? ⟨b2, o2 + k * 6, none⟩ = some (.int .i64 a1) ∧ W.cell? ⟨b2, o2 + k * 6 + 1, none⟩ = some (.int .i64 a2) ∧ W.cell? ⟨b2, o2 + k * 6 + 2, none⟩ = some (.string a3) ∧ W.cell? ⟨b2, o2 + k * 6 + 3, none⟩ = some (.int .i64 a4) ∧ W.cell? ⟨b2, o2 + k * 6 + 4, none⟩ = some (.int .i64 a5) ∧ W.cell? ⟨b2, o2 + k * 6 + 5, none⟩ = some (.string a6)) (exact HK.out _ hB') ((go_at_call 71; (with_reducible refine (HE.out _).mono ?_); rintro e w2 ⟨rfl, hb2⟩; replace hB' := below_then hB' hb2 hB'.size))
      all_goals
        go_wp2
        go_roundw
        case rel => exact ⟨k + 1, by omega, by go_num, below_then hbr hB' hbr.size⟩
        case measure => simp [intOf]; omega
    · go_wp2
      go_ret
      exact ⟨rfl, hbr⟩

end Go.Proofs.Ytpinoemckapbhaa

/- The contract of the model's ZoneOf. -/
namespace Go.Proofs.Ytpinoemckapbhaa
open Go.RowKit

/-- ZoneOf under way: its result's block, and that of z. -/
structure St (w W : World) (z : Zn) : Prop where
  cur : Six W (w.heap.size + 1) z
  res : Six W w.heap.size Zn.zero
  bel : Below w.heap.size w W
theorem St.below {w W W' : World} {z : Zn} (h : St w W z) (hb : Below W.heap.size W W') : St w W' z := ⟨h.cur.below hb, h.res.below hb, below_then h.bel hb h.bel.size⟩
theorem St.lo {w W : World} {z : Zn} (h : St w W z) (v : V) : St w ((((W).setCell ⟨w.heap.size + 1, 0, none⟩ (.int .i64 v.ty)).setCell ⟨w.heap.size + 1, 1, none⟩ (.int .i64 v.n)).setCell ⟨w.heap.size + 1, 2, none⟩ (.string v.s)) ⟨v, z.hi⟩ :=
  ⟨h.cur.setLo v, ((h.res.other (p := ⟨w.heap.size + 1, 0, none⟩) (by simp) (.int .i64 v.ty)).other (p := ⟨w.heap.size + 1, 1, none⟩) (by simp) (.int .i64 v.n)).other (p := ⟨w.heap.size + 1, 2, none⟩) (by simp) (.string v.s), ((h.bel.setCell (p := ⟨w.heap.size + 1, 0, none⟩) (by simp) (.int .i64 v.ty)).setCell (p := ⟨w.heap.size + 1, 1, none⟩) (by simp) (.int .i64 v.n)).setCell (p := ⟨w.heap.size + 1, 2, none⟩) (by simp) (.string v.s)⟩
theorem St.hi {w W : World} {z : Zn} (h : St w W z) (v : V) : St w ((((W).setCell ⟨w.heap.size + 1, 3, none⟩ (.int .i64 v.ty)).setCell ⟨w.heap.size + 1, 4, none⟩ (.int .i64 v.n)).setCell ⟨w.heap.size + 1, 5, none⟩ (.string v.s)) ⟨z.lo, v⟩ :=
  ⟨h.cur.setHi v, ((h.res.other (p := ⟨w.heap.size + 1, 3, none⟩) (by simp) (.int .i64 v.ty)).other (p := ⟨w.heap.size + 1, 4, none⟩) (by simp) (.int .i64 v.n)).other (p := ⟨w.heap.size + 1, 5, none⟩) (by simp) (.string v.s), ((h.bel.setCell (p := ⟨w.heap.size + 1, 3, none⟩) (by simp) (.int .i64 v.ty)).setCell (p := ⟨w.heap.size + 1, 4, none⟩) (by simp) (.int .i64 v.n)).setCell (p := ⟨w.heap.size + 1, 5, none⟩) (by simp) (.string v.s)⟩
/-- The cells of a Val at p, in each later world. -/
def Later3 (w : World) (b o : Nat) (x : V) : Prop := ∀ W, Below w.heap.size w W → W.cell? ⟨b, o, none⟩ = some (.int .i64 x.ty) ∧ W.cell? ⟨b, o + 1, none⟩ = some (.int .i64 x.n) ∧ W.cell? ⟨b, o + 2, none⟩ = some (.string x.s)
theorem later3 {w : World} {b o : Nat} {x : V} (h0 : w.cell? ⟨b, o, none⟩ = some (.int .i64 x.ty)) (h1 : w.cell? ⟨b, o + 1, none⟩ = some (.int .i64 x.n)) (h2 : w.cell? ⟨b, o + 2, none⟩ = some (.string x.s)) : Later3 w b o x :=
  fun _ hb => ⟨(hb.cell (p := ⟨b, o, none⟩) (lt_of_cell h0)).trans h0, (hb.cell (p := ⟨b, o + 1, none⟩) (lt_of_cell h1)).trans h1, (hb.cell (p := ⟨b, o + 2, none⟩) (lt_of_cell h2)).trans h2⟩
theorem zoneL_next {l : List V} {k : Nat} (hk : k < l.length) (h0 : 0 < k) : zoneL (l.take (k + 1)) = ⟨if lessV (l.getD k V.zero) (zoneL (l.take k)).lo = true then l.getD k V.zero else (zoneL (l.take k)).lo, if lessV (zoneL (l.take k)).hi (l.getD k V.zero) = true then l.getD k V.zero else (zoneL (l.take k)).hi⟩ := zoneL_take hk h0

set_option maxHeartbeats 4000000 in
theorem sZoneOf (u : Value) (l : List V) (w : World) (h : Rd 3 w u l.length (vals l)) :
    Calls Try.prog 58 #[u] w fun e w' => e = .returned (zoneL l).agg ∧ Below w.heap.size w w' := by
  have HALL : Hid (zoneL l = zoneL (l.take l.length)) := by
    show _ = _
    rw [List.take_length]
  have HSTEP := Lib.hid (fun k (hk : k < l.length) (h0 : 0 < k) => zoneL_next hk h0)
  have HONE := Lib.hid (zoneL_one (l := l))
  have HZERO : Hid (zoneL (l.take 0) = Zn.zero) := by
    show _ = _
    rw [List.take_zero]
    rfl
  generalize hl : l.length = n at h HALL HSTEP HONE
  obtain ⟨a, cap, rfl, hm, HC⟩ := h.vals hl
  unfold maxLen at hm
  rw [HALL.out]
  clear h hl HALL
  have ST : St w ((w.alloc (.cells #[.int .i64 0, .int .i64 0, .string ⟨#[]⟩, .int .i64 0, .int .i64 0, .string ⟨#[]⟩] 79)).alloc (.cells #[.int .i64 0, .int .i64 0, .string ⟨#[]⟩, .int .i64 0, .int .i64 0, .string ⟨#[]⟩] 79)) Zn.zero := by
    refine ⟨?_, (six_new w Zn.zero 79).below (below_alloc _ _), below_alloc2 _ _ _⟩
    have := six_new (w.alloc (.cells #[.int .i64 0, .int .i64 0, .string ⟨#[]⟩, .int .i64 0, .int .i64 0, .string ⟨#[]⟩] 79)) Zn.zero 79
    rw [World.size_alloc] at this
    exact this
  generalize hw0 : ((w.alloc (.cells #[.int .i64 0, .int .i64 0, .string ⟨#[]⟩, .int .i64 0, .int .i64 0, .string ⟨#[]⟩] 79)).alloc (.cells #[.int .i64 0, .int .i64 0, .string ⟨#[]⟩, .int .i64 0, .int .i64 0, .string ⟨#[]⟩] 79)) = w0 at ST
  have HW := Lib.hid hw0
  clear hw0
  go_enter Try.func58, Try.ntmps58
  go_wp2_with fail
  rw [HW.out]
  go_loopw [4] (fun i wr => ∃ k : Nat, k ≤ n ∧ i = .int .i64 k ∧ St w wr (zoneL (l.take k))) (fun i _ => n - (intOf i).toNat)
  case atStart => exact ⟨0, Nat.zero_le _, rfl, by rw [HZERO.out]; exact ST⟩
  case round =>
    obtain ⟨k, hk, rfl, hst⟩ := hrel
    clear ST HW
    by_cases hlt : k < n
    · obtain ⟨b, off, rfl, p0, p1, p2⟩ := HC.out k hlt
      have HL := Lib.hid (later3 p0 p1 p2)
      clear p0 p1 p2
      by_cases hk0 : k = 0
      · subst hk0
        have HN := Lib.hid (HONE.out (by omega))
        generalize l.getD 0 V.zero = x at HL HN
        generalize zoneL (l.take 0) = z at hst
        obtain ⟨xt, xn, xs⟩ := x
        obtain ⟨⟨a1, b1, s1⟩, ⟨c1, d1, t1⟩⟩ := z
        have S1 := hst
        clear hst HZERO
        go_wp2
        go_quiet (fail)
        have S1q := S1.below (below_drewN wr _ nq)
        generalize wr.drewN nq = w2a at S1q ⊢
        obtain ⟨p0, p1, p2⟩ := HL.out w2a S1q.bel
        have S2 := S1q.lo ⟨xt, xn, xs⟩
        obtain ⟨⟨c0, c1, c2, c3, c4, c5⟩, f0, f1, f2, f3, f4, f5⟩ := S1q.cur
        simp only [Nat.zero_mul, Nat.add_zero] at p0 p1 p2 c0 c1 c2 c3 c4 c5 S2
        generalize hw2 : (((w2a).setCell ⟨w.heap.size + 1, 0, none⟩ (.int .i64 xt)).setCell ⟨w.heap.size + 1, 1, none⟩ (.int .i64 xn)).setCell ⟨w.heap.size + 1, 2, none⟩ (.string xs) = w2 at S2
        have Hw2 := Lib.hid hw2
        clear hw2
        go_wp2
        rw [Hw2.out]
        clear p0 p1 p2 c0 c1 c2 c3 c4 c5 f0 f1 f2 f3 f4 f5
        go_quiet (fail)
        have S2q := S2.below (below_drewN w2 _ nq)
        generalize w2.drewN nq = w3a at S2q ⊢
        obtain ⟨p0, p1, p2⟩ := HL.out w3a S2q.bel
        have S3 := S2q.hi ⟨xt, xn, xs⟩
        obtain ⟨⟨c0, c1, c2, c3, c4, c5⟩, f0, f1, f2, f3, f4, f5⟩ := S2q.cur
        simp only [Nat.zero_mul, Nat.add_zero] at p0 p1 p2 c0 c1 c2 c3 c4 c5 S3
        go_wp2
        go_roundw
        case rel => exact ⟨1, by omega, by go_num, by rw [HN.out]; exact S3⟩
        case measure => simp [intOf]; omega
      · have HN := Lib.hid (HSTEP.out k hlt (by omega))
        generalize l.getD k V.zero = x at HL HN
        generalize zoneL (l.take k) = z at hst HN
        have hb0 : ((k : Int) == 0) = false := by simp; omega
        have HX := Lib.hid (fun W => sLessVal x z.lo W)
        have HY := Lib.hid (fun W => sLessVal z.hi x W)
        cases hx : lessV x z.lo with
        | true =>
          rw [hx] at HN HX
          rw [if_pos rfl] at HN
          cases hy : lessV z.hi x with
          | true =>
            rw [hy] at HN HY
            rw [if_pos rfl] at HN
            obtain ⟨xt, xn, xs⟩ := x
            obtain ⟨⟨a1, b1, s1⟩, ⟨c1, d1, t1⟩⟩ := z
            have S1 := hst
            clear hst hx hy HSTEP HONE HZERO
            simp only at HX HY
            go_wp2
            have HKlo : Hid (∀ W, Below wr.heap.size wr W → W.cell? ⟨b, off + k * 3, none⟩ = some (.int .i64 xt) ∧ W.cell? ⟨b, off + k * 3 + 1, none⟩ = some (.int .i64 xn) ∧ W.cell? ⟨b, off + k * 3 + 2, none⟩ = some (.string xs) ∧ W.cell? ⟨w.heap.size + 1, 0, none⟩ = some (.int .i64 a1) ∧ W.cell? ⟨w.heap.size + 1, 1, none⟩ = some (.int .i64 b1) ∧ W.cell? ⟨w.heap.size + 1, 2, none⟩ = some (.string s1)) := fun W hW =>
              ⟨(HL.out W (S1.below hW).bel).1, (HL.out W (S1.below hW).bel).2.1, (HL.out W (S1.below hW).bel).2.2, (S1.below hW).cur.1.1, (S1.below hW).cur.1.2.1, (S1.below hW).cur.1.2.2.1⟩
            have HSlo := Lib.hid S1
            have hB' := (Below.refl wr.heap.size wr).drew
            clear S1
            go_region_held3 (fun W => W.cell? ⟨b, off + k * 3, none⟩ = some (.int .i64 xt) ∧ W.cell? ⟨b, off + k * 3 + 1, none⟩ = some (.int .i64 xn) ∧ W.cell? ⟨b, off + k * 3 + 2, none⟩ = some (.string xs) ∧ W.cell? ⟨w.heap.size + 1, 0, none⟩ = some (.int .i64 a1) ∧ W.cell? ⟨w.heap.size + 1, 1, none⟩ = some (.int .i64 b1) ∧ W.cell? ⟨w.heap.size + 1, 2, none⟩ = some (.string s1)) (exact HKlo.out _ hB') ((go_at_call 91; (with_reducible refine (HX.out _).mono ?_); rintro e w2 ⟨rfl, hb2⟩; replace hB' := below_then hB' hb2 hB'.size))
            have S2 := HSlo.out.below hB'
            clear HKlo HSlo hB' hb2 HX
            obtain ⟨p0, p1, p2⟩ := HL.out w2 S2.bel
            have S3 := S2.lo ⟨xt, xn, xs⟩
            obtain ⟨⟨c0, c1, c2, c3, c4, c5⟩, f0, f1, f2, f3, f4, f5⟩ := S2.cur
            simp only at p0 p1 p2 c0 c1 c2 c3 c4 c5 S3
            generalize hw3 : (((w2).setCell ⟨w.heap.size + 1, 0, none⟩ (.int .i64 xt)).setCell ⟨w.heap.size + 1, 1, none⟩ (.int .i64 xn)).setCell ⟨w.heap.size + 1, 2, none⟩ (.string xs) = w3 at S3
            have Hw3 := Lib.hid hw3
            clear hw3
            go_wp2
            rw [Hw3.out]
            clear p0 p1 p2 c0 c1 c2 c3 c4 c5 f0 f1 f2 f3 f4 f5
            have HKhi : Hid (∀ W, Below w3.heap.size w3 W → W.cell? ⟨b, off + k * 3, none⟩ = some (.int .i64 xt) ∧ W.cell? ⟨b, off + k * 3 + 1, none⟩ = some (.int .i64 xn) ∧ W.cell? ⟨b, off + k * 3 + 2, none⟩ = some (.string xs) ∧ W.cell? ⟨w.heap.size + 1, 3, none⟩ = some (.int .i64 c1) ∧ W.cell? ⟨w.heap.size + 1, 4, none⟩ = some (.int .i64 d1) ∧ W.cell? ⟨w.heap.size + 1, 5, none⟩ = some (.string t1)) := fun W hW =>
              ⟨(HL.out W (S3.below hW).bel).1, (HL.out W (S3.below hW).bel).2.1, (HL.out W (S3.below hW).bel).2.2, (S3.below hW).cur.1.2.2.2.1, (S3.below hW).cur.1.2.2.2.2.1, (S3.below hW).cur.1.2.2.2.2.2⟩
            have HShi := Lib.hid S3
            have hB' := (Below.refl w3.heap.size w3).drew
            clear S3
            go_region_held3 (fun W => W.cell? ⟨b, off + k * 3, none⟩ = some (.int .i64 xt) ∧ W.cell? ⟨b, off + k * 3 + 1, none⟩ = some (.int .i64 xn) ∧ W.cell? ⟨b, off + k * 3 + 2, none⟩ = some (.string xs) ∧ W.cell? ⟨w.heap.size + 1, 3, none⟩ = some (.int .i64 c1) ∧ W.cell? ⟨w.heap.size + 1, 4, none⟩ = some (.int .i64 d1) ∧ W.cell? ⟨w.heap.size + 1, 5, none⟩ = some (.string t1)) (exact HKhi.out _ hB') ((go_at_call 91; (with_reducible refine (HY.out _).mono ?_); rintro e w4 ⟨rfl, hb2⟩; replace hB' := below_then hB' hb2 hB'.size))
            have S4 := HShi.out.below hB'
            clear HKhi HShi hB' hb2 HY
            obtain ⟨p0, p1, p2⟩ := HL.out w4 S4.bel
            have S5 := S4.hi ⟨xt, xn, xs⟩
            obtain ⟨⟨c0, c1, c2, c3, c4, c5⟩, f0, f1, f2, f3, f4, f5⟩ := S4.cur
            simp only at p0 p1 p2 c0 c1 c2 c3 c4 c5 S5
            go_wp2
            go_roundw
            case rel => exact ⟨k + 1, by omega, by go_num, by rw [HN.out]; exact S5⟩
            case measure => simp [intOf]; omega
          | false =>
            rw [hy] at HN HY
            rw [if_neg Bool.false_ne_true] at HN
            obtain ⟨xt, xn, xs⟩ := x
            obtain ⟨⟨a1, b1, s1⟩, ⟨c1, d1, t1⟩⟩ := z
            have S1 := hst
            clear hst hx hy HSTEP HONE HZERO
            simp only at HX HY
            go_wp2
            have HKlo : Hid (∀ W, Below wr.heap.size wr W → W.cell? ⟨b, off + k * 3, none⟩ = some (.int .i64 xt) ∧ W.cell? ⟨b, off + k * 3 + 1, none⟩ = some (.int .i64 xn) ∧ W.cell? ⟨b, off + k * 3 + 2, none⟩ = some (.string xs) ∧ W.cell? ⟨w.heap.size + 1, 0, none⟩ = some (.int .i64 a1) ∧ W.cell? ⟨w.heap.size + 1, 1, none⟩ = some (.int .i64 b1) ∧ W.cell? ⟨w.heap.size + 1, 2, none⟩ = some (.string s1)) := fun W hW =>
              ⟨(HL.out W (S1.below hW).bel).1, (HL.out W (S1.below hW).bel).2.1, (HL.out W (S1.below hW).bel).2.2, (S1.below hW).cur.1.1, (S1.below hW).cur.1.2.1, (S1.below hW).cur.1.2.2.1⟩
            have HSlo := Lib.hid S1
            have hB' := (Below.refl wr.heap.size wr).drew
            clear S1
            go_region_held3 (fun W => W.cell? ⟨b, off + k * 3, none⟩ = some (.int .i64 xt) ∧ W.cell? ⟨b, off + k * 3 + 1, none⟩ = some (.int .i64 xn) ∧ W.cell? ⟨b, off + k * 3 + 2, none⟩ = some (.string xs) ∧ W.cell? ⟨w.heap.size + 1, 0, none⟩ = some (.int .i64 a1) ∧ W.cell? ⟨w.heap.size + 1, 1, none⟩ = some (.int .i64 b1) ∧ W.cell? ⟨w.heap.size + 1, 2, none⟩ = some (.string s1)) (exact HKlo.out _ hB') ((go_at_call 91; (with_reducible refine (HX.out _).mono ?_); rintro e w2 ⟨rfl, hb2⟩; replace hB' := below_then hB' hb2 hB'.size))
            have S2 := HSlo.out.below hB'
            clear HKlo HSlo hB' hb2 HX
            obtain ⟨p0, p1, p2⟩ := HL.out w2 S2.bel
            have S3 := S2.lo ⟨xt, xn, xs⟩
            obtain ⟨⟨c0, c1, c2, c3, c4, c5⟩, f0, f1, f2, f3, f4, f5⟩ := S2.cur
            simp only at p0 p1 p2 c0 c1 c2 c3 c4 c5 S3
            generalize hw3 : (((w2).setCell ⟨w.heap.size + 1, 0, none⟩ (.int .i64 xt)).setCell ⟨w.heap.size + 1, 1, none⟩ (.int .i64 xn)).setCell ⟨w.heap.size + 1, 2, none⟩ (.string xs) = w3 at S3
            have Hw3 := Lib.hid hw3
            clear hw3
            go_wp2
            rw [Hw3.out]
            clear p0 p1 p2 c0 c1 c2 c3 c4 c5 f0 f1 f2 f3 f4 f5
            have HKhi : Hid (∀ W, Below w3.heap.size w3 W → W.cell? ⟨b, off + k * 3, none⟩ = some (.int .i64 xt) ∧ W.cell? ⟨b, off + k * 3 + 1, none⟩ = some (.int .i64 xn) ∧ W.cell? ⟨b, off + k * 3 + 2, none⟩ = some (.string xs) ∧ W.cell? ⟨w.heap.size + 1, 3, none⟩ = some (.int .i64 c1) ∧ W.cell? ⟨w.heap.size + 1, 4, none⟩ = some (.int .i64 d1) ∧ W.cell? ⟨w.heap.size + 1, 5, none⟩ = some (.string t1)) := fun W hW =>
              ⟨(HL.out W (S3.below hW).bel).1, (HL.out W (S3.below hW).bel).2.1, (HL.out W (S3.below hW).bel).2.2, (S3.below hW).cur.1.2.2.2.1, (S3.below hW).cur.1.2.2.2.2.1, (S3.below hW).cur.1.2.2.2.2.2⟩
            have HShi := Lib.hid S3
            have hB' := (Below.refl w3.heap.size w3).drew
            clear S3
            go_region_held3 (fun W => W.cell? ⟨b, off + k * 3, none⟩ = some (.int .i64 xt) ∧ W.cell? ⟨b, off + k * 3 + 1, none⟩ = some (.int .i64 xn) ∧ W.cell? ⟨b, off + k * 3 + 2, none⟩ = some (.string xs) ∧ W.cell? ⟨w.heap.size + 1, 3, none⟩ = some (.int .i64 c1) ∧ W.cell? ⟨w.heap.size + 1, 4, none⟩ = some (.int .i64 d1) ∧ W.cell? ⟨w.heap.size + 1, 5, none⟩ = some (.string t1)) (exact HKhi.out _ hB') ((go_at_call 91; (with_reducible refine (HY.out _).mono ?_); rintro e w4 ⟨rfl, hb2⟩; replace hB' := below_then hB' hb2 hB'.size))
            have S4 := HShi.out.below hB'
            clear HKhi HShi hB' hb2 HY
            have S5 := S4
            clear S4
            go_wp2
            go_roundw
            case rel => exact ⟨k + 1, by omega, by go_num, by rw [HN.out]; exact S5⟩
            case measure => simp [intOf]; omega
        | false =>
          rw [hx] at HN HX
          rw [if_neg Bool.false_ne_true] at HN
          cases hy : lessV z.hi x with
          | true =>
            rw [hy] at HN HY
            rw [if_pos rfl] at HN
            obtain ⟨xt, xn, xs⟩ := x
            obtain ⟨⟨a1, b1, s1⟩, ⟨c1, d1, t1⟩⟩ := z
            have S1 := hst
            clear hst hx hy HSTEP HONE HZERO
            simp only at HX HY
            go_wp2
            have HKlo : Hid (∀ W, Below wr.heap.size wr W → W.cell? ⟨b, off + k * 3, none⟩ = some (.int .i64 xt) ∧ W.cell? ⟨b, off + k * 3 + 1, none⟩ = some (.int .i64 xn) ∧ W.cell? ⟨b, off + k * 3 + 2, none⟩ = some (.string xs) ∧ W.cell? ⟨w.heap.size + 1, 0, none⟩ = some (.int .i64 a1) ∧ W.cell? ⟨w.heap.size + 1, 1, none⟩ = some (.int .i64 b1) ∧ W.cell? ⟨w.heap.size + 1, 2, none⟩ = some (.string s1)) := fun W hW =>
              ⟨(HL.out W (S1.below hW).bel).1, (HL.out W (S1.below hW).bel).2.1, (HL.out W (S1.below hW).bel).2.2, (S1.below hW).cur.1.1, (S1.below hW).cur.1.2.1, (S1.below hW).cur.1.2.2.1⟩
            have HSlo := Lib.hid S1
            have hB' := (Below.refl wr.heap.size wr).drew
            clear S1
            go_region_held3 (fun W => W.cell? ⟨b, off + k * 3, none⟩ = some (.int .i64 xt) ∧ W.cell? ⟨b, off + k * 3 + 1, none⟩ = some (.int .i64 xn) ∧ W.cell? ⟨b, off + k * 3 + 2, none⟩ = some (.string xs) ∧ W.cell? ⟨w.heap.size + 1, 0, none⟩ = some (.int .i64 a1) ∧ W.cell? ⟨w.heap.size + 1, 1, none⟩ = some (.int .i64 b1) ∧ W.cell? ⟨w.heap.size + 1, 2, none⟩ = some (.string s1)) (exact HKlo.out _ hB') ((go_at_call 91; (with_reducible refine (HX.out _).mono ?_); rintro e w2 ⟨rfl, hb2⟩; replace hB' := below_then hB' hb2 hB'.size))
            have S2 := HSlo.out.below hB'
            clear HKlo HSlo hB' hb2 HX
            have S3 := S2
            clear S2
            go_wp2
            have HKhi : Hid (∀ W, Below w2.heap.size w2 W → W.cell? ⟨b, off + k * 3, none⟩ = some (.int .i64 xt) ∧ W.cell? ⟨b, off + k * 3 + 1, none⟩ = some (.int .i64 xn) ∧ W.cell? ⟨b, off + k * 3 + 2, none⟩ = some (.string xs) ∧ W.cell? ⟨w.heap.size + 1, 3, none⟩ = some (.int .i64 c1) ∧ W.cell? ⟨w.heap.size + 1, 4, none⟩ = some (.int .i64 d1) ∧ W.cell? ⟨w.heap.size + 1, 5, none⟩ = some (.string t1)) := fun W hW =>
              ⟨(HL.out W (S3.below hW).bel).1, (HL.out W (S3.below hW).bel).2.1, (HL.out W (S3.below hW).bel).2.2, (S3.below hW).cur.1.2.2.2.1, (S3.below hW).cur.1.2.2.2.2.1, (S3.below hW).cur.1.2.2.2.2.2⟩
            have HShi := Lib.hid S3
            have hB' := (Below.refl w2.heap.size w2).drew
            clear S3
            go_region_held3 (fun W => W.cell? ⟨b, off + k * 3, none⟩ = some (.int .i64 xt) ∧ W.cell? ⟨b, off + k * 3 + 1, none⟩ = some (.int .i64 xn) ∧ W.cell? ⟨b, off + k * 3 + 2, none⟩ = some (.string xs) ∧ W.cell? ⟨w.heap.size + 1, 3, none⟩ = some (.int .i64 c1) ∧ W.cell? ⟨w.heap.size + 1, 4, none⟩ = some (.int .i64 d1) ∧ W.cell? ⟨w.heap.size + 1, 5, none⟩ = some (.string t1)) (exact HKhi.out _ hB') ((go_at_call 91; (with_reducible refine (HY.out _).mono ?_); rintro e w4 ⟨rfl, hb2⟩; replace hB' := below_then hB' hb2 hB'.size))
            have S4 := HShi.out.below hB'
            clear HKhi HShi hB' hb2 HY
            obtain ⟨p0, p1, p2⟩ := HL.out w4 S4.bel
            have S5 := S4.hi ⟨xt, xn, xs⟩
            obtain ⟨⟨c0, c1, c2, c3, c4, c5⟩, f0, f1, f2, f3, f4, f5⟩ := S4.cur
            simp only at p0 p1 p2 c0 c1 c2 c3 c4 c5 S5
            go_wp2
            go_roundw
            case rel => exact ⟨k + 1, by omega, by go_num, by rw [HN.out]; exact S5⟩
            case measure => simp [intOf]; omega
          | false =>
            rw [hy] at HN HY
            rw [if_neg Bool.false_ne_true] at HN
            obtain ⟨xt, xn, xs⟩ := x
            obtain ⟨⟨a1, b1, s1⟩, ⟨c1, d1, t1⟩⟩ := z
            have S1 := hst
            clear hst hx hy HSTEP HONE HZERO
            simp only at HX HY
            go_wp2
            have HKlo : Hid (∀ W, Below wr.heap.size wr W → W.cell? ⟨b, off + k * 3, none⟩ = some (.int .i64 xt) ∧ W.cell? ⟨b, off + k * 3 + 1, none⟩ = some (.int .i64 xn) ∧ W.cell? ⟨b, off + k * 3 + 2, none⟩ = some (.string xs) ∧ W.cell? ⟨w.heap.size + 1, 0, none⟩ = some (.int .i64 a1) ∧ W.cell? ⟨w.heap.size + 1, 1, none⟩ = some (.int .i64 b1) ∧ W.cell? ⟨w.heap.size + 1, 2, none⟩ = some (.string s1)) := fun W hW =>
              ⟨(HL.out W (S1.below hW).bel).1, (HL.out W (S1.below hW).bel).2.1, (HL.out W (S1.below hW).bel).2.2, (S1.below hW).cur.1.1, (S1.below hW).cur.1.2.1, (S1.below hW).cur.1.2.2.1⟩
            have HSlo := Lib.hid S1
            have hB' := (Below.refl wr.heap.size wr).drew
            clear S1
            go_region_held3 (fun W => W.cell? ⟨b, off + k * 3, none⟩ = some (.int .i64 xt) ∧ W.cell? ⟨b, off + k * 3 + 1, none⟩ = some (.int .i64 xn) ∧ W.cell? ⟨b, off + k * 3 + 2, none⟩ = some (.string xs) ∧ W.cell? ⟨w.heap.size + 1, 0, none⟩ = some (.int .i64 a1) ∧ W.cell? ⟨w.heap.size + 1, 1, none⟩ = some (.int .i64 b1) ∧ W.cell? ⟨w.heap.size + 1, 2, none⟩ = some (.string s1)) (exact HKlo.out _ hB') ((go_at_call 91; (with_reducible refine (HX.out _).mono ?_); rintro e w2 ⟨rfl, hb2⟩; replace hB' := below_then hB' hb2 hB'.size))
            have S2 := HSlo.out.below hB'
            clear HKlo HSlo hB' hb2 HX
            have S3 := S2
            clear S2
            go_wp2
            have HKhi : Hid (∀ W, Below w2.heap.size w2 W → W.cell? ⟨b, off + k * 3, none⟩ = some (.int .i64 xt) ∧ W.cell? ⟨b, off + k * 3 + 1, none⟩ = some (.int .i64 xn) ∧ W.cell? ⟨b, off + k * 3 + 2, none⟩ = some (.string xs) ∧ W.cell? ⟨w.heap.size + 1, 3, none⟩ = some (.int .i64 c1) ∧ W.cell? ⟨w.heap.size + 1, 4, none⟩ = some (.int .i64 d1) ∧ W.cell? ⟨w.heap.size + 1, 5, none⟩ = some (.string t1)) := fun W hW =>
              ⟨(HL.out W (S3.below hW).bel).1, (HL.out W (S3.below hW).bel).2.1, (HL.out W (S3.below hW).bel).2.2, (S3.below hW).cur.1.2.2.2.1, (S3.below hW).cur.1.2.2.2.2.1, (S3.below hW).cur.1.2.2.2.2.2⟩
            have HShi := Lib.hid S3
            have hB' := (Below.refl w2.heap.size w2).drew
            clear S3
            go_region_held3 (fun W => W.cell? ⟨b, off + k * 3, none⟩ = some (.int .i64 xt) ∧ W.cell? ⟨b, off + k * 3 + 1, none⟩ = some (.int .i64 xn) ∧ W.cell? ⟨b, off + k * 3 + 2, none⟩ = some (.string xs) ∧ W.cell? ⟨w.heap.size + 1, 3, none⟩ = some (.int .i64 c1) ∧ W.cell? ⟨w.heap.size + 1, 4, none⟩ = some (.int .i64 d1) ∧ W.cell? ⟨w.heap.size + 1, 5, none⟩ = some (.string t1)) (exact HKhi.out _ hB') ((go_at_call 91; (with_reducible refine (HY.out _).mono ?_); rintro e w4 ⟨rfl, hb2⟩; replace hB' := below_then hB' hb2 hB'.size))
            have S4 := HShi.out.below hB'
            clear HKhi HShi hB' hb2 HY
            have S5 := S4
            clear S4
            go_wp2
            go_roundw
            case rel => exact ⟨k + 1, by omega, by go_num, by rw [HN.out]; exact S5⟩
            case measure => simp [intOf]; omega
    · obtain rfl : k = n := by omega
      generalize hzz : zoneL (l.take k) = z at hst
      have HZZ := Lib.hid hzz
      clear hzz
      obtain ⟨⟨a1, b1, s1⟩, ⟨c1, d1, t1⟩⟩ := z
      obtain ⟨⟨⟨q0, q1, q2, q3, q4, q5⟩, _⟩, ⟨⟨r0, r1, r2, r3, r4, r5⟩, f0, f1, f2, f3, f4, f5⟩, B⟩ := hst
      simp only [Zn.zero, V.zero] at q0 q1 q2 q3 q4 q5 r0 r1 r2 r3 r4 r5
      go_wp2
      refine bodyPost_ret (v := .agg #[.int .i64 a1, .int .i64 b1, .string s1, .int .i64 c1, .int .i64 d1, .string t1]) (by simp [results, Try.results58, go_sem, *]) rfl ⟨by rw [HZZ.out], ?_⟩
      exact ((((((B.setCell (by simp) _).setCell (by simp) _).setCell (by simp) _).setCell (by simp) _).setCell (by simp) _).setCell (by simp) _)

end Go.Proofs.Ytpinoemckapbhaa

/- The model's Holds (written by mk_S11.py). -/
namespace Go.Proofs.Ytpinoemckapbhaa
open Go.RowKit

set_option maxHeartbeats 8000000 in
theorem sHolds (rs : List V) : ∀ (t : T) (Q : Nat → Prop) (u vu : Value) (w : World), RdT Q w t u → Rd 3 w vu rs.length (vals rs) →
    Calls Try.prog 15 #[t.agg u, vu] w fun e w' => e = .returned (.bool (t.holds rs)) ∧ Below w.heap.size w w' := by
  refine T.induct (fun t ih => ?_)
  intro Q u vu w h hv
  have HD1 := Lib.hid (T.holds_1 (vs := rs) (t := t))
  have HD2 := Lib.hid (T.holds_2 (vs := rs) (t := t))
  have HD3 := Lib.hid (T.holds_3 (vs := rs) (t := t))
  have HD4 := Lib.hid (T.holds_4 (vs := rs) (t := t))
  have HD5 := Lib.hid (T.holds_5 (vs := rs) (t := t))
  have HD0 := Lib.hid (T.holds_no (vs := rs) (t := t))
  have HI := Lib.hid (fun q (hq : q < t.l.length) Q' u' W (hr : RdT Q' W (t.l.getD q T.zero) u') (hW : Below w.heap.size w W) => ih _ (kid_mem hq) Q' u' vu W hr (hv.below hW))
  have HAT := Lib.hid (fun (h : ∀ q, q < t.l.length → (t.l.getD q T.zero).holds rs = true) => all_of h)
  have HAF := Lib.hid (fun q (hq : q < t.l.length) (h : (t.l.getD q T.zero).holds rs = false) => all_not hq h)
  have HYT := Lib.hid (fun q (hq : q < t.l.length) (h : (t.l.getD q T.zero).holds rs = true) => any_of hq h)
  have HYF := Lib.hid (fun (h : ∀ q, q < t.l.length → (t.l.getD q T.zero).holds rs = false) => any_not h)
  generalize hl : t.l.length = n at HD5 HI HAT HAF HYT HYF
  obtain ⟨a, cap, rfl, hle, HC⟩ := h.kids hl
  generalize hm : rs.length = m at hv HD2
  obtain ⟨va, vcap, rfl, hvm, HVC⟩ := hv.vals hm
  unfold maxLen at hle hvm
  generalize t.holds rs = res at HD1 HD2 HD3 HD4 HD5 HD0 ⊢
  clear h hl ih hm hv
  obtain ⟨k, c, o, ⟨vt, vn, vs⟩, l⟩ := t
  simp only [T.agg, T.kind, T.col, T.op, T.v, T.l] at HD1 HD2 HD3 HD4 HD5 HD0 HI HAT HAF HYT HYF HC ⊢
  have B0 := below_alloc w (.cells #[.int .i64 k, .int .i64 c, .int .i64 o, .int .i64 vt, .int .i64 vn, .string vs, .slice a n cap] 29)
  have C0 := blk_new w [.int .i64 k, .int .i64 c, .int .i64 o, .int .i64 vt, .int .i64 vn, .string vs, .slice a n cap] 29
  generalize hw0 : w.alloc (.cells #[.int .i64 k, .int .i64 c, .int .i64 o, .int .i64 vt, .int .i64 vn, .string vs, .slice a n cap] 29) = w0 at B0 C0
  have HW0 := Lib.hid hw0
  clear hw0
  have HK : Hid (∀ W, Below w0.heap.size w0 W → W.cell? ⟨w.heap.size, 0, none⟩ = some (.int .i64 k) ∧ W.cell? ⟨w.heap.size, 1, none⟩ = some (.int .i64 c) ∧ W.cell? ⟨w.heap.size, 2, none⟩ = some (.int .i64 o) ∧ W.cell? ⟨w.heap.size, 3, none⟩ = some (.int .i64 vt) ∧ W.cell? ⟨w.heap.size, 4, none⟩ = some (.int .i64 vn) ∧ W.cell? ⟨w.heap.size, 5, none⟩ = some (.string vs) ∧ W.cell? ⟨w.heap.size, 6, none⟩ = some (.slice a n cap)) := fun W hW => ⟨(C0.below hW 0 _ rfl).1, (C0.below hW 1 _ rfl).1, (C0.below hW 2 _ rfl).1, (C0.below hW 3 _ rfl).1, (C0.below hW 4 _ rfl).1, (C0.below hW 5 _ rfl).1, (C0.below hW 6 _ rfl).1⟩
  have HB0 := Lib.hid (Below.refl w0.heap.size w0)
  obtain ⟨p0, p1, p2, p3, p4, p5, p6⟩ := HK.out w0 HB0.out
  clear C0
  by_cases k1 : k = 1
  · have HE := Lib.hid (HD1.out k1)
    subst k1
    clear HD1 HD2 HD3 HD4 HD5 HD0 HI HAT HAF HYT HYF HC HVC p0 p1 p2 p3 p4 p5 p6 HK HB0
    go_enter Try.func15, Try.ntmps15
    go_wp2
    rw [HW0.out]
    go_ret
    exact ⟨ret_bool HE.out.symm, B0⟩
  by_cases k2 : k = 2
  · have HE := Lib.hid (HD2.out k2)
    subst k2
    clear HD1 HD2 HD3 HD4 HD5 HD0 HI HAT HAF HYT HYF HC p0 p1 p2 p3 p4 p5 p6 k1
    have HIN : Hid (∀ W, Calls Try.prog 51 #[.int .i64 c, .int .i64 0, .int .i64 ((m : Int) - 1)] W fun e w' => e = .returned (.bool (Num.inB c 0 ((m : Int) - 1))) ∧ w' = W) := fun W => (l1In c 0 _ W).mono (fun _ _ h => ⟨h.1, h.2.symm⟩)
    cases hin : Num.inB c 0 ((m : Int) - 1) with
    | false =>
      rw [hin] at HE HIN
      clear hin HVC
      go_enter Try.func15, Try.ntmps15
      go_wp2
      rw [HW0.out]
      obtain ⟨p0, p1, p2, p3, p4, p5, p6⟩ := HK.out w0 HB0.out
      go_quiet ((go_at_call 51; exact Calls.quiet_of_same (HIN.out _)))
      go_wp2
      go_ret
      exact ⟨ret_bool (by rw [HE.out]; rfl), B0.trans (below_drewN _ _ _)⟩
    | true =>
      obtain ⟨hc0, hc1⟩ := Num.inB_true.1 hin
      rw [hin] at HE HIN
      obtain ⟨X, rfl⟩ := Int.eq_ofNat_of_zero_le hc0
      have hX : X < m := by omega
      rw [Int.toNat_natCast] at HE
      obtain ⟨vb, voff, rfl, e0, e1, e2⟩ := HVC.out X hX
      have HEL := Lib.hid (later3 e0 e1 e2)
      clear e0 e1 e2 HVC hin hc0 hc1
      have HH := Lib.hid (fun W => sHolds1 o (rs.getD X V.zero) ⟨vt, vn, vs⟩ W)
      generalize holdsB o (rs.getD X V.zero) ⟨vt, vn, vs⟩ = r at HE HH
      generalize rs.getD X V.zero = x at HEL HH
      obtain ⟨xt, xn, xs⟩ := x
      have HKK : Hid (∀ W, Below w0.heap.size w0 W → W.cell? ⟨w.heap.size, 0, none⟩ = some (.int .i64 2) ∧ W.cell? ⟨w.heap.size, 1, none⟩ = some (.int .i64 (X : Int)) ∧ W.cell? ⟨w.heap.size, 2, none⟩ = some (.int .i64 o) ∧ W.cell? ⟨w.heap.size, 3, none⟩ = some (.int .i64 vt) ∧ W.cell? ⟨w.heap.size, 4, none⟩ = some (.int .i64 vn) ∧ W.cell? ⟨w.heap.size, 5, none⟩ = some (.string vs) ∧ W.cell? ⟨w.heap.size, 6, none⟩ = some (.slice a n cap) ∧ W.cell? ⟨vb, voff + X * 3, none⟩ = some (.int .i64 xt) ∧ W.cell? ⟨vb, voff + X * 3 + 1, none⟩ = some (.int .i64 xn) ∧ W.cell? ⟨vb, voff + X * 3 + 2, none⟩ = some (.string xs)) := fun W hW => by
        have h1 := HK.out W hW
        exact ⟨h1.1, h1.2.1, h1.2.2.1, h1.2.2.2.1, h1.2.2.2.2.1, h1.2.2.2.2.2.1, h1.2.2.2.2.2.2, HEL.out W (below_then B0 hW B0.size)⟩
      have hB' := HB0.out.drew
      have hXI : (X : Int) < (m : Int) := by omega
      have hwm : IntKind.i64.wrap ((m : Int) - 1) = (m : Int) - 1 := IntWalk.i64_in _ (by omega)
      clear HK HEL HB0
      go_enter Try.func15, Try.ntmps15
      go_wp2
      rw [HW0.out]
      go_region_held3 (fun W => W.cell? ⟨w.heap.size, 0, none⟩ = some (.int .i64 2) ∧ W.cell? ⟨w.heap.size, 1, none⟩ = some (.int .i64 (X : Int)) ∧ W.cell? ⟨w.heap.size, 2, none⟩ = some (.int .i64 o) ∧ W.cell? ⟨w.heap.size, 3, none⟩ = some (.int .i64 vt) ∧ W.cell? ⟨w.heap.size, 4, none⟩ = some (.int .i64 vn) ∧ W.cell? ⟨w.heap.size, 5, none⟩ = some (.string vs) ∧ W.cell? ⟨w.heap.size, 6, none⟩ = some (.slice a n cap) ∧ W.cell? ⟨vb, voff + X * 3, none⟩ = some (.int .i64 xt) ∧ W.cell? ⟨vb, voff + X * 3 + 1, none⟩ = some (.int .i64 xn) ∧ W.cell? ⟨vb, voff + X * 3 + 2, none⟩ = some (.string xs)) (exact HKK.out _ hB') (first | (go_at_call 51; (with_reducible refine (HIN.out _).mono ?_); rintro e w2 ⟨rfl, rfl⟩) | (go_at_call 52; (with_reducible refine (HH.out _).mono ?_); rintro e w2 ⟨rfl, hb2⟩; replace hB' := below_then hB' hb2 hB'.size))
      all_goals
        have B2 := below_then B0 hB' B0.size
        go_wp2
        go_ret
        exact ⟨ret_bool (by rw [HE.out]; rfl), B2⟩
  by_cases k3 : k = 3
  · have HE := Lib.hid (HD3.out k3)
    subst k3
    clear HD1 HD2 HD3 HD4 HD5 HD0 HYT HYF HVC p0 p1 p2 p3 p4 p5 p6 k1 k2
    go_enter Try.func15, Try.ntmps15
    go_wp2
    rw [HW0.out]
    go_loopw [5] (fun i wr => ∃ q : Nat, q ≤ n ∧ i = .int .i64 q ∧ (∀ j, j < q → T.holds rs (l.getD j T.zero) = true) ∧ Below w0.heap.size w0 wr) (fun i _ => n - (intOf i).toNat)
    case atStart => exact ⟨0, Nat.zero_le _, rfl, fun j hj => by omega, HB0.out⟩
    case round =>
      obtain ⟨q, hq, rfl, hpre, hbr⟩ := hrel
      have HPRE := Lib.hid hpre
      clear hpre
      obtain ⟨p0, p1, p2, p3, p4, p5, p6⟩ := HK.out wr hbr
      by_cases hlt : q < n
      · obtain ⟨b, off, u', rfl, hr, c0, c1, c2, c3, c4, c5, c6⟩ := HC.out q hlt wr (below_then B0 hbr B0.size)
        have HX := Lib.hid (HI.out q hlt _ u' wr hr (below_then B0 hbr B0.size))
        have HNX : Hid (T.holds rs (l.getD q T.zero) = false → res = false) := fun e => HE.out.trans (HAF.out q hlt e)
        have HSX : Hid (T.holds rs (l.getD q T.zero) = true → ∀ j, j < q + 1 → T.holds rs (l.getD j T.zero) = true) := fun e j hj => by
          by_cases hjq : j = q
          · subst hjq; exact e
          · exact HPRE.out j (by omega)
        generalize T.holds rs (l.getD q T.zero) = r at HX HNX HSX
        generalize l.getD q T.zero = x at c0 c1 c2 c3 c4 c5 HX
        obtain ⟨xk, xc, xo, ⟨xt, xn, xs⟩, xl⟩ := x
        simp only at c0 c1 c2 c3 c4 c5 HX
        clear hr HPRE HI
        cases r with
        | false =>
          have HN2 := Lib.hid (HNX.out rfl)
          go_wp2_with fail
          refine HX.out.mono ?_
          rintro e w2 ⟨rfl, b2⟩
          have B2 := below_then (below_then B0 hbr B0.size) b2 (by have := B0.size; have := hbr.size; omega)
          go_wp2
          go_ret
          exact ⟨ret_bool HN2.out.symm, B2⟩
        | true =>
          have HS2 := Lib.hid (HSX.out rfl)
          go_wp2_with fail
          refine HX.out.mono ?_
          rintro e w2 ⟨rfl, b2⟩
          have B2 := below_then hbr b2 hbr.size
          clear HX HNX HSX b2 hbr p0 p1 p2 p3 p4 p5 p6 c0 c1 c2 c3 c4 c5 c6
          go_wp2
          go_roundw
          case rel => exact ⟨q + 1, by omega, by go_num, HS2.out, B2⟩
          case measure => simp [intOf]; omega
      · obtain rfl : q = n := by omega
        have HE2 : Hid (res = true) := HE.out.trans (HAT.out (fun j hj => HPRE.out j hj))
        go_wp2
        go_ret
        exact ⟨ret_bool HE2.out.symm, below_then B0 hbr B0.size⟩

  by_cases k4 : k = 4
  · have HE := Lib.hid (HD4.out k4)
    subst k4
    clear HD1 HD2 HD3 HD4 HD5 HD0 HAT HAF HVC p0 p1 p2 p3 p4 p5 p6 k1 k2 k3
    go_enter Try.func15, Try.ntmps15
    go_wp2
    rw [HW0.out]
    go_loopw [6] (fun i wr => ∃ q : Nat, q ≤ n ∧ i = .int .i64 q ∧ (∀ j, j < q → T.holds rs (l.getD j T.zero) = false) ∧ Below w0.heap.size w0 wr) (fun i _ => n - (intOf i).toNat)
    case atStart => exact ⟨0, Nat.zero_le _, rfl, fun j hj => by omega, HB0.out⟩
    case round =>
      obtain ⟨q, hq, rfl, hpre, hbr⟩ := hrel
      have HPRE := Lib.hid hpre
      clear hpre
      obtain ⟨p0, p1, p2, p3, p4, p5, p6⟩ := HK.out wr hbr
      by_cases hlt : q < n
      · obtain ⟨b, off, u', rfl, hr, c0, c1, c2, c3, c4, c5, c6⟩ := HC.out q hlt wr (below_then B0 hbr B0.size)
        have HX := Lib.hid (HI.out q hlt _ u' wr hr (below_then B0 hbr B0.size))
        have HNX : Hid (T.holds rs (l.getD q T.zero) = true → res = true) := fun e => HE.out.trans (HYT.out q hlt e)
        have HSX : Hid (T.holds rs (l.getD q T.zero) = false → ∀ j, j < q + 1 → T.holds rs (l.getD j T.zero) = false) := fun e j hj => by
          by_cases hjq : j = q
          · subst hjq; exact e
          · exact HPRE.out j (by omega)
        generalize T.holds rs (l.getD q T.zero) = r at HX HNX HSX
        generalize l.getD q T.zero = x at c0 c1 c2 c3 c4 c5 HX
        obtain ⟨xk, xc, xo, ⟨xt, xn, xs⟩, xl⟩ := x
        simp only at c0 c1 c2 c3 c4 c5 HX
        clear hr HPRE HI
        cases r with
        | true =>
          have HN2 := Lib.hid (HNX.out rfl)
          go_wp2_with fail
          refine HX.out.mono ?_
          rintro e w2 ⟨rfl, b2⟩
          have B2 := below_then (below_then B0 hbr B0.size) b2 (by have := B0.size; have := hbr.size; omega)
          go_wp2
          go_ret
          exact ⟨ret_bool HN2.out.symm, B2⟩
        | false =>
          have HS2 := Lib.hid (HSX.out rfl)
          go_wp2_with fail
          refine HX.out.mono ?_
          rintro e w2 ⟨rfl, b2⟩
          have B2 := below_then hbr b2 hbr.size
          clear HX HNX HSX b2 hbr p0 p1 p2 p3 p4 p5 p6 c0 c1 c2 c3 c4 c5 c6
          go_wp2
          go_roundw
          case rel => exact ⟨q + 1, by omega, by go_num, HS2.out, B2⟩
          case measure => simp [intOf]; omega
      · obtain rfl : q = n := by omega
        have HE2 : Hid (res = false) := HE.out.trans (HYF.out (fun j hj => HPRE.out j hj))
        go_wp2
        go_ret
        exact ⟨ret_bool HE2.out.symm, below_then B0 hbr B0.size⟩

  by_cases k5 : k = 5
  · have HE := Lib.hid (HD5.out k5)
    subst k5
    clear HD1 HD2 HD3 HD4 HD5 HD0 HAT HAF HYT HYF HVC p0 p1 p2 p3 p4 p5 p6 k1 k2 k3 k4
    by_cases hn : n = 0
    · subst hn
      clear HI HC HK
      go_enter Try.func15, Try.ntmps15
      go_wp2
      rw [HW0.out]
      go_ret
      exact ⟨ret_bool (by rw [HE.out]; rfl), B0⟩
    · have hn0 : ((n : Int) == 0) = false := by simp [hn]
      have hn1 : (n == 0) = false := by simp [hn]
      have hni : (0 : Int) < (n : Int) := by omega
      rw [hn1, Bool.false_or] at HE
      clear hn1
      obtain ⟨b, off, u', rfl, hr, c0, c1, c2, c3, c4, c5, c6⟩ := HC.out 0 (by omega) (w.alloc (.cells #[.int .i64 5, .int .i64 c, .int .i64 o, .int .i64 vt, .int .i64 vn, .string vs, .slice a n cap] 29)) (below_alloc _ _)
      have HX := Lib.hid (HI.out 0 (by omega) _ u' w0 (by rw [← HW0.out]; exact hr) B0)
      generalize T.holds rs (l.getD 0 T.zero) = r at HX HE
      generalize l.getD 0 T.zero = x at c0 c1 c2 c3 c4 c5 HX
      obtain ⟨xk, xc, xo, ⟨xt, xn, xs⟩, xl⟩ := x
      simp only [Nat.zero_mul, Nat.add_zero] at c0 c1 c2 c3 c4 c5 c6 HX
      clear hr HI HC HK hn
      go_enter Try.func15, Try.ntmps15
      go_wp2_with fail
      rw [HW0.out]
      refine HX.out.mono ?_
      rintro e w2 ⟨rfl, b2⟩
      have B2 := below_then B0 b2 B0.size
      go_wp2
      go_ret
      exact ⟨ret_bool HE.out.symm, B2⟩
  have HE := Lib.hid (HD0.out k1 k2 k3 k4 k5)
  have j1 : (k == 1) = false := by simp [k1]
  have j2 : (k == 2) = false := by simp [k2]
  have j3 : (k == 3) = false := by simp [k3]
  have j4 : (k == 4) = false := by simp [k4]
  have j5 : (k == 5) = false := by simp [k5]
  clear HD1 HD2 HD3 HD4 HD5 HD0 HI HAT HAF HYT HYF HC HVC p0 p1 p2 p3 p4 p5 p6 HK HB0 k1 k2 k3 k4 k5
  go_enter Try.func15, Try.ntmps15
  go_wp2
  rw [HW0.out]
  go_ret
  exact ⟨ret_bool HE.out.symm, B0⟩

end Go.Proofs.Ytpinoemckapbhaa

/- The model's MayHold and l11MayNot (written by mk_S11m.py). -/
namespace Go.Proofs.Ytpinoemckapbhaa
open Go.RowKit

/-- What MayHold says, and l11MayNot. -/
def MaT (zs : List Zn) (t : T) : Prop := ∀ (Q : Nat → Prop) (u vu : Value) (w : World), RdT Q w t u → Rd 6 w vu zs.length (zns zs) →
    Calls Try.prog 17 #[t.agg u, vu] w fun e w' => e = .returned (.bool (T.may zs t)) ∧ Below w.heap.size w w'
def NmT (zs : List Zn) (t : T) : Prop := ∀ (Q : Nat → Prop) (u vu : Value) (w : World), RdT Q w t u → Rd 6 w vu zs.length (zns zs) →
    Calls Try.prog 57 #[t.agg u, vu] w fun e w' => e = .returned (.bool (T.nmay zs t)) ∧ Below w.heap.size w w'

set_option maxHeartbeats 8000000 in
theorem sMayStep (zs : List Zn) (t : T) (ih : ∀ x ∈ t.l, MaT zs x ∧ NmT zs x) : MaT zs t := by
  intro Q u vu w h hv
  have HD1 := Lib.hid (T.may_1 (zs := zs) (t := t))
  have HD2 := Lib.hid (T.may_2 (zs := zs) (t := t))
  have HD3 := Lib.hid (T.may_3 (zs := zs) (t := t))
  have HD4 := Lib.hid (T.may_4 (zs := zs) (t := t))
  have HD5 := Lib.hid (T.may_5 (zs := zs) (t := t))
  have HD0 := Lib.hid (T.may_no (zs := zs) (t := t))
  have HI := Lib.hid (fun q (hq : q < t.l.length) Q' u' W (hr : RdT Q' W (t.l.getD q T.zero) u') (hW : Below w.heap.size w W) => (ih _ (kid_mem hq)).1 Q' u' vu W hr (hv.below hW))
  have HJ := Lib.hid (fun q (hq : q < t.l.length) Q' u' W (hr : RdT Q' W (t.l.getD q T.zero) u') (hW : Below w.heap.size w W) => (ih _ (kid_mem hq)).2 Q' u' vu W hr (hv.below hW))
  have HAT := Lib.hid (fun (h : ∀ q, q < t.l.length → T.may zs (t.l.getD q T.zero) = true) => all_of h)
  have HAF := Lib.hid (fun q (hq : q < t.l.length) (h : T.may zs (t.l.getD q T.zero) = false) => all_not hq h)
  have HYT := Lib.hid (fun q (hq : q < t.l.length) (h : T.may zs (t.l.getD q T.zero) = true) => any_of hq h)
  have HYF := Lib.hid (fun (h : ∀ q, q < t.l.length → T.may zs (t.l.getD q T.zero) = false) => any_not h)
  generalize hl : t.l.length = n at HD5 HI HJ HAT HAF HYT HYF
  obtain ⟨a, cap, rfl, hle, HC⟩ := h.kids hl
  generalize hm : zs.length = m at hv HD2
  obtain ⟨va, vcap, rfl, hvm, HVC⟩ := hv.zones hm
  unfold maxLen at hle hvm
  generalize T.may zs t = res at HD1 HD2 HD3 HD4 HD5 HD0 ⊢
  clear h hl ih hm hv
  obtain ⟨k, c, o, ⟨vt, vn, vs⟩, l⟩ := t
  simp only [T.agg, T.kind, T.col, T.op, T.v, T.l] at HD1 HD2 HD3 HD4 HD5 HD0 HI HJ HAT HAF HYT HYF HC ⊢
  have B0 := below_alloc w (.cells #[.int .i64 k, .int .i64 c, .int .i64 o, .int .i64 vt, .int .i64 vn, .string vs, .slice a n cap] 29)
  have C0 := blk_new w [.int .i64 k, .int .i64 c, .int .i64 o, .int .i64 vt, .int .i64 vn, .string vs, .slice a n cap] 29
  generalize hw0 : w.alloc (.cells #[.int .i64 k, .int .i64 c, .int .i64 o, .int .i64 vt, .int .i64 vn, .string vs, .slice a n cap] 29) = w0 at B0 C0
  have HW0 := Lib.hid hw0
  clear hw0
  have HK : Hid (∀ W, Below w0.heap.size w0 W → W.cell? ⟨w.heap.size, 0, none⟩ = some (.int .i64 k) ∧ W.cell? ⟨w.heap.size, 1, none⟩ = some (.int .i64 c) ∧ W.cell? ⟨w.heap.size, 2, none⟩ = some (.int .i64 o) ∧ W.cell? ⟨w.heap.size, 3, none⟩ = some (.int .i64 vt) ∧ W.cell? ⟨w.heap.size, 4, none⟩ = some (.int .i64 vn) ∧ W.cell? ⟨w.heap.size, 5, none⟩ = some (.string vs) ∧ W.cell? ⟨w.heap.size, 6, none⟩ = some (.slice a n cap)) := fun W hW => ⟨(C0.below hW 0 _ rfl).1, (C0.below hW 1 _ rfl).1, (C0.below hW 2 _ rfl).1, (C0.below hW 3 _ rfl).1, (C0.below hW 4 _ rfl).1, (C0.below hW 5 _ rfl).1, (C0.below hW 6 _ rfl).1⟩
  have HB0 := Lib.hid (Below.refl w0.heap.size w0)
  clear C0
  by_cases k1 : k = 1
  · have HE := Lib.hid (HD1.out k1)
    subst k1
    clear HD1 HD2 HD3 HD4 HD5 HD0 HI HJ HAT HAF HYT HYF HC HVC HK HB0
    go_enter Try.func17, Try.ntmps17
    go_wp2
    rw [HW0.out]
    go_ret
    exact ⟨ret_bool HE.out.symm, B0⟩
  by_cases k2 : k = 2
  · have HE := Lib.hid (HD2.out k2)
    subst k2
    clear HD1 HD2 HD3 HD4 HD5 HD0 HI HJ HAT HAF HYT HYF HC k1
    have HIN : Hid (∀ W, Calls Try.prog 51 #[.int .i64 c, .int .i64 0, .int .i64 ((m : Int) - 1)] W fun e w' => e = .returned (.bool (Num.inB c 0 ((m : Int) - 1))) ∧ w' = W) := fun W => (l1In c 0 _ W).mono (fun _ _ h => ⟨h.1, h.2.symm⟩)
    cases hin : Num.inB c 0 ((m : Int) - 1) with
    | false =>
      rw [hin] at HE HIN
      clear hin HVC
      go_enter Try.func17, Try.ntmps17
      go_wp2
      rw [HW0.out]
      obtain ⟨p0, p1, p2, p3, p4, p5, p6⟩ := HK.out w0 HB0.out
      go_quiet ((go_at_call 51; exact Calls.quiet_of_same (HIN.out _)))
      go_wp2
      go_ret
      exact ⟨ret_bool (by rw [HE.out]; rfl), B0.trans (below_drewN _ _ _)⟩
    | true =>
      obtain ⟨hc0, hc1⟩ := Num.inB_true.1 hin
      rw [hin] at HE HIN
      obtain ⟨X, rfl⟩ := Int.eq_ofNat_of_zero_le hc0
      have hX : X < m := by omega
      rw [Int.toNat_natCast] at HE
      have HEL := Lib.hid (HVC.out X hX)
      obtain ⟨vb, voff, hva, _⟩ := HEL.out w (Below.refl _ _)
      subst hva
      clear HVC hin hc0 hc1
      have HH := Lib.hid (fun W => sMayHold1 o (zs.getD X Zn.zero) ⟨vt, vn, vs⟩ W)
      generalize mayB o (zs.getD X Zn.zero) ⟨vt, vn, vs⟩ = r at HE HH
      generalize zs.getD X Zn.zero = x at HEL HH
      obtain ⟨⟨a1, a2, a3⟩, ⟨a4, a5, a6⟩⟩ := x
      have HKK : Hid (∀ W, Below w0.heap.size w0 W → W.cell? ⟨w.heap.size, 0, none⟩ = some (.int .i64 2) ∧ W.cell? ⟨w.heap.size, 1, none⟩ = some (.int .i64 (X : Int)) ∧ W.cell? ⟨w.heap.size, 2, none⟩ = some (.int .i64 o) ∧ W.cell? ⟨w.heap.size, 3, none⟩ = some (.int .i64 vt) ∧ W.cell? ⟨w.heap.size, 4, none⟩ = some (.int .i64 vn) ∧ W.cell? ⟨w.heap.size, 5, none⟩ = some (.string vs) ∧ W.cell? ⟨w.heap.size, 6, none⟩ = some (.slice a n cap) ∧ W.cell? ⟨vb, voff + X * 6, none⟩ = some (.int .i64 a1) ∧ W.cell? ⟨vb, voff + X * 6 + 1, none⟩ = some (.int .i64 a2) ∧ W.cell? ⟨vb, voff + X * 6 + 2, none⟩ = some (.string a3) ∧ W.cell? ⟨vb, voff + X * 6 + 3, none⟩ = some (.int .i64 a4) ∧ W.cell? ⟨vb, voff + X * 6 + 4, none⟩ = some (.int .i64 a5) ∧ W.cell? ⟨vb, voff + X * 6 + 5, none⟩ = some (.string a6)) := fun W hW => by
        have h1 := HK.out W hW
        obtain ⟨vb', voff', e, h2⟩ := HEL.out W (below_then B0 hW B0.size)
        simp only [Option.some.injEq, Addr.mk.injEq, and_true] at e
        obtain ⟨rfl, rfl⟩ := e
        exact ⟨h1.1, h1.2.1, h1.2.2.1, h1.2.2.2.1, h1.2.2.2.2.1, h1.2.2.2.2.2.1, h1.2.2.2.2.2.2, h2⟩
      have hB' := HB0.out.drew
      have hXI : (X : Int) < (m : Int) := by omega
      have hwm : IntKind.i64.wrap ((m : Int) - 1) = (m : Int) - 1 := IntWalk.i64_in _ (by omega)
      clear HK HEL HB0
      go_enter Try.func17, Try.ntmps17
      go_wp2
      rw [HW0.out]
      go_region_held3 (fun W => W.cell? ⟨w.heap.size, 0, none⟩ = some (.int .i64 2) ∧ W.cell? ⟨w.heap.size, 1, none⟩ = some (.int .i64 (X : Int)) ∧ W.cell? ⟨w.heap.size, 2, none⟩ = some (.int .i64 o) ∧ W.cell? ⟨w.heap.size, 3, none⟩ = some (.int .i64 vt) ∧ W.cell? ⟨w.heap.size, 4, none⟩ = some (.int .i64 vn) ∧ W.cell? ⟨w.heap.size, 5, none⟩ = some (.string vs) ∧ W.cell? ⟨w.heap.size, 6, none⟩ = some (.slice a n cap) ∧ W.cell? ⟨vb, voff + X * 6, none⟩ = some (.int .i64 a1) ∧ W.cell? ⟨vb, voff + X * 6 + 1, none⟩ = some (.int .i64 a2) ∧ W.cell? ⟨vb, voff + X * 6 + 2, none⟩ = some (.string a3) ∧ W.cell? ⟨vb, voff + X * 6 + 3, none⟩ = some (.int .i64 a4) ∧ W.cell? ⟨vb, voff + X * 6 + 4, none⟩ = some (.int .i64 a5) ∧ W.cell? ⟨vb, voff + X * 6 + 5, none⟩ = some (.string a6)) (exact HKK.out _ hB') (first | (go_at_call 51; (with_reducible refine (HIN.out _).mono ?_); rintro e w2 ⟨rfl, rfl⟩) | (go_at_call 56; (with_reducible refine (HH.out _).mono ?_); rintro e w2 ⟨rfl, hb2⟩; replace hB' := below_then hB' hb2 hB'.size))
      all_goals
        have B2 := below_then B0 hB' B0.size
        go_wp2
        go_ret
        exact ⟨ret_bool (by rw [HE.out]; rfl), B2⟩
  by_cases k3 : k = 3
  · have HE := Lib.hid (HD3.out k3)
    subst k3
    clear HD1 HD2 HD3 HD4 HD5 HD0 HJ HYT HYF HVC k1 k2
    go_enter Try.func17, Try.ntmps17
    go_wp2
    rw [HW0.out]
    go_loopw [5] (fun i wr => ∃ q : Nat, q ≤ n ∧ i = .int .i64 q ∧ (∀ j, j < q → T.may zs (l.getD j T.zero) = true) ∧ Below w0.heap.size w0 wr) (fun i _ => n - (intOf i).toNat)
    case atStart => exact ⟨0, Nat.zero_le _, rfl, fun j hj => by omega, HB0.out⟩
    case round =>
      obtain ⟨q, hq, rfl, hpre, hbr⟩ := hrel
      have HPRE := Lib.hid hpre
      clear hpre
      obtain ⟨p0, p1, p2, p3, p4, p5, p6⟩ := HK.out wr hbr
      by_cases hlt : q < n
      · obtain ⟨b, off, u', rfl, hr, c0, c1, c2, c3, c4, c5, c6⟩ := HC.out q hlt wr (below_then B0 hbr B0.size)
        have HX := Lib.hid (HI.out q hlt _ u' wr hr (below_then B0 hbr B0.size))
        have HNX : Hid (T.may zs (l.getD q T.zero) = false → res = false) := fun e => HE.out.trans (HAF.out q hlt e)
        have HSX : Hid (T.may zs (l.getD q T.zero) = true → ∀ j, j < q + 1 → T.may zs (l.getD j T.zero) = true) := fun e j hj => by
          by_cases hjq : j = q
          · subst hjq; exact e
          · exact HPRE.out j (by omega)
        generalize T.may zs (l.getD q T.zero) = r at HX HNX HSX
        generalize l.getD q T.zero = x at c0 c1 c2 c3 c4 c5 HX
        obtain ⟨xk, xc, xo, ⟨xt, xn, xs⟩, xl⟩ := x
        simp only at c0 c1 c2 c3 c4 c5 HX
        clear hr HPRE HI
        cases r with
        | false =>
          have HN2 := Lib.hid (HNX.out rfl)
          go_wp2_with fail
          refine HX.out.mono ?_
          rintro e w2 ⟨rfl, b2⟩
          have B2 := below_then (below_then B0 hbr B0.size) b2 (by have := B0.size; have := hbr.size; omega)
          go_wp2
          go_ret
          exact ⟨ret_bool HN2.out.symm, B2⟩
        | true =>
          have HS2 := Lib.hid (HSX.out rfl)
          go_wp2_with fail
          refine HX.out.mono ?_
          rintro e w2 ⟨rfl, b2⟩
          have B2 := below_then hbr b2 hbr.size
          clear HX HNX HSX b2 hbr p0 p1 p2 p3 p4 p5 p6 c0 c1 c2 c3 c4 c5 c6
          go_wp2
          go_roundw
          case rel => exact ⟨q + 1, by omega, by go_num, HS2.out, B2⟩
          case measure => simp [intOf]; omega
      · obtain rfl : q = n := by omega
        have HE2 : Hid (res = true) := HE.out.trans (HAT.out (fun j hj => HPRE.out j hj))
        go_wp2
        go_ret
        exact ⟨ret_bool HE2.out.symm, below_then B0 hbr B0.size⟩

  by_cases k4 : k = 4
  · have HE := Lib.hid (HD4.out k4)
    subst k4
    clear HD1 HD2 HD3 HD4 HD5 HD0 HJ HAT HAF HVC k1 k2 k3
    go_enter Try.func17, Try.ntmps17
    go_wp2
    rw [HW0.out]
    go_loopw [6] (fun i wr => ∃ q : Nat, q ≤ n ∧ i = .int .i64 q ∧ (∀ j, j < q → T.may zs (l.getD j T.zero) = false) ∧ Below w0.heap.size w0 wr) (fun i _ => n - (intOf i).toNat)
    case atStart => exact ⟨0, Nat.zero_le _, rfl, fun j hj => by omega, HB0.out⟩
    case round =>
      obtain ⟨q, hq, rfl, hpre, hbr⟩ := hrel
      have HPRE := Lib.hid hpre
      clear hpre
      obtain ⟨p0, p1, p2, p3, p4, p5, p6⟩ := HK.out wr hbr
      by_cases hlt : q < n
      · obtain ⟨b, off, u', rfl, hr, c0, c1, c2, c3, c4, c5, c6⟩ := HC.out q hlt wr (below_then B0 hbr B0.size)
        have HX := Lib.hid (HI.out q hlt _ u' wr hr (below_then B0 hbr B0.size))
        have HNX : Hid (T.may zs (l.getD q T.zero) = true → res = true) := fun e => HE.out.trans (HYT.out q hlt e)
        have HSX : Hid (T.may zs (l.getD q T.zero) = false → ∀ j, j < q + 1 → T.may zs (l.getD j T.zero) = false) := fun e j hj => by
          by_cases hjq : j = q
          · subst hjq; exact e
          · exact HPRE.out j (by omega)
        generalize T.may zs (l.getD q T.zero) = r at HX HNX HSX
        generalize l.getD q T.zero = x at c0 c1 c2 c3 c4 c5 HX
        obtain ⟨xk, xc, xo, ⟨xt, xn, xs⟩, xl⟩ := x
        simp only at c0 c1 c2 c3 c4 c5 HX
        clear hr HPRE HI
        cases r with
        | true =>
          have HN2 := Lib.hid (HNX.out rfl)
          go_wp2_with fail
          refine HX.out.mono ?_
          rintro e w2 ⟨rfl, b2⟩
          have B2 := below_then (below_then B0 hbr B0.size) b2 (by have := B0.size; have := hbr.size; omega)
          go_wp2
          go_ret
          exact ⟨ret_bool HN2.out.symm, B2⟩
        | false =>
          have HS2 := Lib.hid (HSX.out rfl)
          go_wp2_with fail
          refine HX.out.mono ?_
          rintro e w2 ⟨rfl, b2⟩
          have B2 := below_then hbr b2 hbr.size
          clear HX HNX HSX b2 hbr p0 p1 p2 p3 p4 p5 p6 c0 c1 c2 c3 c4 c5 c6
          go_wp2
          go_roundw
          case rel => exact ⟨q + 1, by omega, by go_num, HS2.out, B2⟩
          case measure => simp [intOf]; omega
      · obtain rfl : q = n := by omega
        have HE2 : Hid (res = false) := HE.out.trans (HYF.out (fun j hj => HPRE.out j hj))
        go_wp2
        go_ret
        exact ⟨ret_bool HE2.out.symm, below_then B0 hbr B0.size⟩

  by_cases k5 : k = 5
  · have HE := Lib.hid (HD5.out k5)
    subst k5
    clear HD1 HD2 HD3 HD4 HD5 HD0 HI HAT HAF HYT HYF HVC k1 k2 k3 k4
    by_cases hn : n = 0
    · subst hn
      clear HJ HC HK
      go_enter Try.func17, Try.ntmps17
      go_wp2
      rw [HW0.out]
      go_ret
      exact ⟨ret_bool (by rw [HE.out]; rfl), B0⟩
    · have hn0 : ((n : Int) == 0) = false := by simp [hn]
      have hn1 : (n == 0) = false := by simp [hn]
      have hni : (0 : Int) < (n : Int) := by omega
      rw [hn1, Bool.false_or] at HE
      clear hn1
      obtain ⟨b, off, u', rfl, hr, c0, c1, c2, c3, c4, c5, c6⟩ := HC.out 0 (by omega) (w.alloc (.cells #[.int .i64 5, .int .i64 c, .int .i64 o, .int .i64 vt, .int .i64 vn, .string vs, .slice a n cap] 29)) (below_alloc _ _)
      have HX := Lib.hid (HJ.out 0 (by omega) _ u' w0 (by rw [← HW0.out]; exact hr) B0)
      generalize T.nmay zs (l.getD 0 T.zero) = r at HX HE
      generalize l.getD 0 T.zero = x at c0 c1 c2 c3 c4 c5 HX
      obtain ⟨xk, xc, xo, ⟨xt, xn, xs⟩, xl⟩ := x
      simp only [Nat.zero_mul, Nat.add_zero] at c0 c1 c2 c3 c4 c5 c6 HX
      clear hr HJ HC HK hn
      go_enter Try.func17, Try.ntmps17
      go_wp2_with fail
      rw [HW0.out]
      refine HX.out.mono ?_
      rintro e w2 ⟨rfl, b2⟩
      have B2 := below_then B0 b2 B0.size
      go_wp2
      go_ret
      exact ⟨ret_bool HE.out.symm, B2⟩
  have HE := Lib.hid (HD0.out k1 k2 k3 k4 k5)
  have j1 : (k == 1) = false := by simp [k1]
  have j2 : (k == 2) = false := by simp [k2]
  have j3 : (k == 3) = false := by simp [k3]
  have j4 : (k == 4) = false := by simp [k4]
  have j5 : (k == 5) = false := by simp [k5]
  clear HD1 HD2 HD3 HD4 HD5 HD0 HI HJ HAT HAF HYT HYF HC HVC HK HB0 k1 k2 k3 k4 k5
  go_enter Try.func17, Try.ntmps17
  go_wp2
  rw [HW0.out]
  go_ret
  exact ⟨ret_bool HE.out.symm, B0⟩

set_option maxHeartbeats 8000000 in
theorem sNotStep (zs : List Zn) (t : T) (ih : ∀ x ∈ t.l, MaT zs x ∧ NmT zs x) : NmT zs t := by
  intro Q u vu w h hv
  have HD1 := Lib.hid (T.nmay_1 (zs := zs) (t := t))
  have HD2 := Lib.hid (T.nmay_2 (zs := zs) (t := t))
  have HD3 := Lib.hid (T.nmay_3 (zs := zs) (t := t))
  have HD4 := Lib.hid (T.nmay_4 (zs := zs) (t := t))
  have HD5 := Lib.hid (T.nmay_5 (zs := zs) (t := t))
  have HD0 := Lib.hid (T.nmay_no (zs := zs) (t := t))
  have HI := Lib.hid (fun q (hq : q < t.l.length) Q' u' W (hr : RdT Q' W (t.l.getD q T.zero) u') (hW : Below w.heap.size w W) => (ih _ (kid_mem hq)).2 Q' u' vu W hr (hv.below hW))
  have HJ := Lib.hid (fun q (hq : q < t.l.length) Q' u' W (hr : RdT Q' W (t.l.getD q T.zero) u') (hW : Below w.heap.size w W) => (ih _ (kid_mem hq)).1 Q' u' vu W hr (hv.below hW))
  have HAT := Lib.hid (fun (h : ∀ q, q < t.l.length → T.nmay zs (t.l.getD q T.zero) = true) => all_of h)
  have HAF := Lib.hid (fun q (hq : q < t.l.length) (h : T.nmay zs (t.l.getD q T.zero) = false) => all_not hq h)
  have HYT := Lib.hid (fun q (hq : q < t.l.length) (h : T.nmay zs (t.l.getD q T.zero) = true) => any_of hq h)
  have HYF := Lib.hid (fun (h : ∀ q, q < t.l.length → T.nmay zs (t.l.getD q T.zero) = false) => any_not h)
  generalize hl : t.l.length = n at HD5 HI HJ HAT HAF HYT HYF
  obtain ⟨a, cap, rfl, hle, HC⟩ := h.kids hl
  generalize hm : zs.length = m at hv HD2
  obtain ⟨va, vcap, rfl, hvm, HVC⟩ := hv.zones hm
  unfold maxLen at hle hvm
  generalize T.nmay zs t = res at HD1 HD2 HD3 HD4 HD5 HD0 ⊢
  clear h hl ih hm hv
  obtain ⟨k, c, o, ⟨vt, vn, vs⟩, l⟩ := t
  simp only [T.agg, T.kind, T.col, T.op, T.v, T.l] at HD1 HD2 HD3 HD4 HD5 HD0 HI HJ HAT HAF HYT HYF HC ⊢
  have B0 := below_alloc w (.cells #[.int .i64 k, .int .i64 c, .int .i64 o, .int .i64 vt, .int .i64 vn, .string vs, .slice a n cap] 29)
  have C0 := blk_new w [.int .i64 k, .int .i64 c, .int .i64 o, .int .i64 vt, .int .i64 vn, .string vs, .slice a n cap] 29
  generalize hw0 : w.alloc (.cells #[.int .i64 k, .int .i64 c, .int .i64 o, .int .i64 vt, .int .i64 vn, .string vs, .slice a n cap] 29) = w0 at B0 C0
  have HW0 := Lib.hid hw0
  clear hw0
  have HK : Hid (∀ W, Below w0.heap.size w0 W → W.cell? ⟨w.heap.size, 0, none⟩ = some (.int .i64 k) ∧ W.cell? ⟨w.heap.size, 1, none⟩ = some (.int .i64 c) ∧ W.cell? ⟨w.heap.size, 2, none⟩ = some (.int .i64 o) ∧ W.cell? ⟨w.heap.size, 3, none⟩ = some (.int .i64 vt) ∧ W.cell? ⟨w.heap.size, 4, none⟩ = some (.int .i64 vn) ∧ W.cell? ⟨w.heap.size, 5, none⟩ = some (.string vs) ∧ W.cell? ⟨w.heap.size, 6, none⟩ = some (.slice a n cap)) := fun W hW => ⟨(C0.below hW 0 _ rfl).1, (C0.below hW 1 _ rfl).1, (C0.below hW 2 _ rfl).1, (C0.below hW 3 _ rfl).1, (C0.below hW 4 _ rfl).1, (C0.below hW 5 _ rfl).1, (C0.below hW 6 _ rfl).1⟩
  have HB0 := Lib.hid (Below.refl w0.heap.size w0)
  clear C0
  by_cases k1 : k = 1
  · have HE := Lib.hid (HD1.out k1)
    subst k1
    clear HD1 HD2 HD3 HD4 HD5 HD0 HI HJ HAT HAF HYT HYF HC HVC HK HB0
    go_enter Try.func57, Try.ntmps57
    go_wp2
    rw [HW0.out]
    go_ret
    exact ⟨ret_bool HE.out.symm, B0⟩
  by_cases k2 : k = 2
  · have HE := Lib.hid (HD2.out k2)
    subst k2
    clear HD1 HD2 HD3 HD4 HD5 HD0 HI HJ HAT HAF HYT HYF HC k1
    have HIN : Hid (∀ W, Calls Try.prog 51 #[.int .i64 c, .int .i64 0, .int .i64 ((m : Int) - 1)] W fun e w' => e = .returned (.bool (Num.inB c 0 ((m : Int) - 1))) ∧ w' = W) := fun W => (l1In c 0 _ W).mono (fun _ _ h => ⟨h.1, h.2.symm⟩)
    cases hin : Num.inB c 0 ((m : Int) - 1) with
    | false =>
      rw [hin] at HE HIN
      clear hin HVC
      go_enter Try.func57, Try.ntmps57
      go_wp2
      rw [HW0.out]
      obtain ⟨p0, p1, p2, p3, p4, p5, p6⟩ := HK.out w0 HB0.out
      go_quiet ((go_at_call 51; exact Calls.quiet_of_same (HIN.out _)))
      go_wp2
      go_ret
      exact ⟨ret_bool (by rw [HE.out]; rfl), B0.trans (below_drewN _ _ _)⟩
    | true =>
      obtain ⟨hc0, hc1⟩ := Num.inB_true.1 hin
      rw [hin] at HE HIN
      obtain ⟨X, rfl⟩ := Int.eq_ofNat_of_zero_le hc0
      have hX : X < m := by omega
      rw [Int.toNat_natCast] at HE
      have HEL := Lib.hid (HVC.out X hX)
      obtain ⟨vb, voff, hva, _⟩ := HEL.out w (Below.refl _ _)
      subst hva
      clear HVC hin hc0 hc1
      have HOP := Lib.hid (fun W => sOpposite o W)
      have HH := Lib.hid (fun W => sMayHold1 (oppI o) (zs.getD X Zn.zero) ⟨vt, vn, vs⟩ W)
      generalize oppI o = oo at HOP HH HE
      generalize mayB oo (zs.getD X Zn.zero) ⟨vt, vn, vs⟩ = r at HE HH
      generalize zs.getD X Zn.zero = x at HEL HH
      obtain ⟨⟨a1, a2, a3⟩, ⟨a4, a5, a6⟩⟩ := x
      have HKK : Hid (∀ W, Below w0.heap.size w0 W → W.cell? ⟨w.heap.size, 0, none⟩ = some (.int .i64 2) ∧ W.cell? ⟨w.heap.size, 1, none⟩ = some (.int .i64 (X : Int)) ∧ W.cell? ⟨w.heap.size, 2, none⟩ = some (.int .i64 o) ∧ W.cell? ⟨w.heap.size, 3, none⟩ = some (.int .i64 vt) ∧ W.cell? ⟨w.heap.size, 4, none⟩ = some (.int .i64 vn) ∧ W.cell? ⟨w.heap.size, 5, none⟩ = some (.string vs) ∧ W.cell? ⟨w.heap.size, 6, none⟩ = some (.slice a n cap) ∧ W.cell? ⟨vb, voff + X * 6, none⟩ = some (.int .i64 a1) ∧ W.cell? ⟨vb, voff + X * 6 + 1, none⟩ = some (.int .i64 a2) ∧ W.cell? ⟨vb, voff + X * 6 + 2, none⟩ = some (.string a3) ∧ W.cell? ⟨vb, voff + X * 6 + 3, none⟩ = some (.int .i64 a4) ∧ W.cell? ⟨vb, voff + X * 6 + 4, none⟩ = some (.int .i64 a5) ∧ W.cell? ⟨vb, voff + X * 6 + 5, none⟩ = some (.string a6)) := fun W hW => by
        have h1 := HK.out W hW
        obtain ⟨vb', voff', e, h2⟩ := HEL.out W (below_then B0 hW B0.size)
        simp only [Option.some.injEq, Addr.mk.injEq, and_true] at e
        obtain ⟨rfl, rfl⟩ := e
        exact ⟨h1.1, h1.2.1, h1.2.2.1, h1.2.2.2.1, h1.2.2.2.2.1, h1.2.2.2.2.2.1, h1.2.2.2.2.2.2, h2⟩
      have hB' := HB0.out.drew
      have hXI : (X : Int) < (m : Int) := by omega
      have hwm : IntKind.i64.wrap ((m : Int) - 1) = (m : Int) - 1 := IntWalk.i64_in _ (by omega)
      clear HK HEL HB0
      go_enter Try.func57, Try.ntmps57
      go_wp2
      rw [HW0.out]
      go_region_held3 (fun W => W.cell? ⟨w.heap.size, 0, none⟩ = some (.int .i64 2) ∧ W.cell? ⟨w.heap.size, 1, none⟩ = some (.int .i64 (X : Int)) ∧ W.cell? ⟨w.heap.size, 2, none⟩ = some (.int .i64 o) ∧ W.cell? ⟨w.heap.size, 3, none⟩ = some (.int .i64 vt) ∧ W.cell? ⟨w.heap.size, 4, none⟩ = some (.int .i64 vn) ∧ W.cell? ⟨w.heap.size, 5, none⟩ = some (.string vs) ∧ W.cell? ⟨w.heap.size, 6, none⟩ = some (.slice a n cap) ∧ W.cell? ⟨vb, voff + X * 6, none⟩ = some (.int .i64 a1) ∧ W.cell? ⟨vb, voff + X * 6 + 1, none⟩ = some (.int .i64 a2) ∧ W.cell? ⟨vb, voff + X * 6 + 2, none⟩ = some (.string a3) ∧ W.cell? ⟨vb, voff + X * 6 + 3, none⟩ = some (.int .i64 a4) ∧ W.cell? ⟨vb, voff + X * 6 + 4, none⟩ = some (.int .i64 a5) ∧ W.cell? ⟨vb, voff + X * 6 + 5, none⟩ = some (.string a6)) (exact HKK.out _ hB') (first | (go_at_call 51; (with_reducible refine (HIN.out _).mono ?_); rintro e w2 ⟨rfl, rfl⟩) | (go_at_call 95; (with_reducible refine (HOP.out _).mono ?_); rintro e w2 ⟨rfl, hb2⟩; replace hB' := below_then hB' hb2 hB'.size) | (go_at_call 56; (with_reducible refine (HH.out _).mono ?_); rintro e w2 ⟨rfl, hb2⟩; replace hB' := below_then hB' hb2 hB'.size))
      all_goals
        have B2 := below_then B0 hB' B0.size
        go_wp2
        go_ret
        exact ⟨ret_bool (by rw [HE.out]; rfl), B2⟩
  by_cases k3 : k = 3
  · have HE := Lib.hid (HD3.out k3)
    subst k3
    clear HD1 HD2 HD3 HD4 HD5 HD0 HJ HAT HAF HVC k1 k2
    go_enter Try.func57, Try.ntmps57
    go_wp2
    rw [HW0.out]
    go_loopw [5] (fun i wr => ∃ q : Nat, q ≤ n ∧ i = .int .i64 q ∧ (∀ j, j < q → T.nmay zs (l.getD j T.zero) = false) ∧ Below w0.heap.size w0 wr) (fun i _ => n - (intOf i).toNat)
    case atStart => exact ⟨0, Nat.zero_le _, rfl, fun j hj => by omega, HB0.out⟩
    case round =>
      obtain ⟨q, hq, rfl, hpre, hbr⟩ := hrel
      have HPRE := Lib.hid hpre
      clear hpre
      obtain ⟨p0, p1, p2, p3, p4, p5, p6⟩ := HK.out wr hbr
      by_cases hlt : q < n
      · obtain ⟨b, off, u', rfl, hr, c0, c1, c2, c3, c4, c5, c6⟩ := HC.out q hlt wr (below_then B0 hbr B0.size)
        have HX := Lib.hid (HI.out q hlt _ u' wr hr (below_then B0 hbr B0.size))
        have HNX : Hid (T.nmay zs (l.getD q T.zero) = true → res = true) := fun e => HE.out.trans (HYT.out q hlt e)
        have HSX : Hid (T.nmay zs (l.getD q T.zero) = false → ∀ j, j < q + 1 → T.nmay zs (l.getD j T.zero) = false) := fun e j hj => by
          by_cases hjq : j = q
          · subst hjq; exact e
          · exact HPRE.out j (by omega)
        generalize T.nmay zs (l.getD q T.zero) = r at HX HNX HSX
        generalize l.getD q T.zero = x at c0 c1 c2 c3 c4 c5 HX
        obtain ⟨xk, xc, xo, ⟨xt, xn, xs⟩, xl⟩ := x
        simp only at c0 c1 c2 c3 c4 c5 HX
        clear hr HPRE HI
        cases r with
        | true =>
          have HN2 := Lib.hid (HNX.out rfl)
          go_wp2_with fail
          refine HX.out.mono ?_
          rintro e w2 ⟨rfl, b2⟩
          have B2 := below_then (below_then B0 hbr B0.size) b2 (by have := B0.size; have := hbr.size; omega)
          go_wp2
          go_ret
          exact ⟨ret_bool HN2.out.symm, B2⟩
        | false =>
          have HS2 := Lib.hid (HSX.out rfl)
          go_wp2_with fail
          refine HX.out.mono ?_
          rintro e w2 ⟨rfl, b2⟩
          have B2 := below_then hbr b2 hbr.size
          clear HX HNX HSX b2 hbr p0 p1 p2 p3 p4 p5 p6 c0 c1 c2 c3 c4 c5 c6
          go_wp2
          go_roundw
          case rel => exact ⟨q + 1, by omega, by go_num, HS2.out, B2⟩
          case measure => simp [intOf]; omega
      · obtain rfl : q = n := by omega
        have HE2 : Hid (res = false) := HE.out.trans (HYF.out (fun j hj => HPRE.out j hj))
        go_wp2
        go_ret
        exact ⟨ret_bool HE2.out.symm, below_then B0 hbr B0.size⟩

  by_cases k4 : k = 4
  · have HE := Lib.hid (HD4.out k4)
    subst k4
    clear HD1 HD2 HD3 HD4 HD5 HD0 HJ HYT HYF HVC k1 k2 k3
    go_enter Try.func57, Try.ntmps57
    go_wp2
    rw [HW0.out]
    go_loopw [6] (fun i wr => ∃ q : Nat, q ≤ n ∧ i = .int .i64 q ∧ (∀ j, j < q → T.nmay zs (l.getD j T.zero) = true) ∧ Below w0.heap.size w0 wr) (fun i _ => n - (intOf i).toNat)
    case atStart => exact ⟨0, Nat.zero_le _, rfl, fun j hj => by omega, HB0.out⟩
    case round =>
      obtain ⟨q, hq, rfl, hpre, hbr⟩ := hrel
      have HPRE := Lib.hid hpre
      clear hpre
      obtain ⟨p0, p1, p2, p3, p4, p5, p6⟩ := HK.out wr hbr
      by_cases hlt : q < n
      · obtain ⟨b, off, u', rfl, hr, c0, c1, c2, c3, c4, c5, c6⟩ := HC.out q hlt wr (below_then B0 hbr B0.size)
        have HX := Lib.hid (HI.out q hlt _ u' wr hr (below_then B0 hbr B0.size))
        have HNX : Hid (T.nmay zs (l.getD q T.zero) = false → res = false) := fun e => HE.out.trans (HAF.out q hlt e)
        have HSX : Hid (T.nmay zs (l.getD q T.zero) = true → ∀ j, j < q + 1 → T.nmay zs (l.getD j T.zero) = true) := fun e j hj => by
          by_cases hjq : j = q
          · subst hjq; exact e
          · exact HPRE.out j (by omega)
        generalize T.nmay zs (l.getD q T.zero) = r at HX HNX HSX
        generalize l.getD q T.zero = x at c0 c1 c2 c3 c4 c5 HX
        obtain ⟨xk, xc, xo, ⟨xt, xn, xs⟩, xl⟩ := x
        simp only at c0 c1 c2 c3 c4 c5 HX
        clear hr HPRE HI
        cases r with
        | false =>
          have HN2 := Lib.hid (HNX.out rfl)
          go_wp2_with fail
          refine HX.out.mono ?_
          rintro e w2 ⟨rfl, b2⟩
          have B2 := below_then (below_then B0 hbr B0.size) b2 (by have := B0.size; have := hbr.size; omega)
          go_wp2
          go_ret
          exact ⟨ret_bool HN2.out.symm, B2⟩
        | true =>
          have HS2 := Lib.hid (HSX.out rfl)
          go_wp2_with fail
          refine HX.out.mono ?_
          rintro e w2 ⟨rfl, b2⟩
          have B2 := below_then hbr b2 hbr.size
          clear HX HNX HSX b2 hbr p0 p1 p2 p3 p4 p5 p6 c0 c1 c2 c3 c4 c5 c6
          go_wp2
          go_roundw
          case rel => exact ⟨q + 1, by omega, by go_num, HS2.out, B2⟩
          case measure => simp [intOf]; omega
      · obtain rfl : q = n := by omega
        have HE2 : Hid (res = true) := HE.out.trans (HAT.out (fun j hj => HPRE.out j hj))
        go_wp2
        go_ret
        exact ⟨ret_bool HE2.out.symm, below_then B0 hbr B0.size⟩

  by_cases k5 : k = 5
  · have HE := Lib.hid (HD5.out k5)
    subst k5
    clear HD1 HD2 HD3 HD4 HD5 HD0 HI HAT HAF HYT HYF HVC k1 k2 k3 k4
    by_cases hn : n = 0
    · subst hn
      clear HJ HC HK
      go_enter Try.func57, Try.ntmps57
      go_wp2
      rw [HW0.out]
      go_ret
      exact ⟨ret_bool (by rw [HE.out]; rfl), B0⟩
    · have hn0 : ((n : Int) == 0) = false := by simp [hn]
      have hn1 : (n == 0) = false := by simp [hn]
      have hni : (0 : Int) < (n : Int) := by omega
      rw [hn1, Bool.false_or] at HE
      clear hn1
      obtain ⟨b, off, u', rfl, hr, c0, c1, c2, c3, c4, c5, c6⟩ := HC.out 0 (by omega) (w.alloc (.cells #[.int .i64 5, .int .i64 c, .int .i64 o, .int .i64 vt, .int .i64 vn, .string vs, .slice a n cap] 29)) (below_alloc _ _)
      have HX := Lib.hid (HJ.out 0 (by omega) _ u' w0 (by rw [← HW0.out]; exact hr) B0)
      generalize T.may zs (l.getD 0 T.zero) = r at HX HE
      generalize l.getD 0 T.zero = x at c0 c1 c2 c3 c4 c5 HX
      obtain ⟨xk, xc, xo, ⟨xt, xn, xs⟩, xl⟩ := x
      simp only [Nat.zero_mul, Nat.add_zero] at c0 c1 c2 c3 c4 c5 c6 HX
      clear hr HJ HC HK hn
      go_enter Try.func57, Try.ntmps57
      go_wp2_with fail
      rw [HW0.out]
      refine HX.out.mono ?_
      rintro e w2 ⟨rfl, b2⟩
      have B2 := below_then B0 b2 B0.size
      go_wp2
      go_ret
      exact ⟨ret_bool HE.out.symm, B2⟩
  have HE := Lib.hid (HD0.out k1 k2 k3 k4 k5)
  have j1 : (k == 1) = false := by simp [k1]
  have j2 : (k == 2) = false := by simp [k2]
  have j3 : (k == 3) = false := by simp [k3]
  have j4 : (k == 4) = false := by simp [k4]
  have j5 : (k == 5) = false := by simp [k5]
  clear HD1 HD2 HD3 HD4 HD5 HD0 HI HJ HAT HAF HYT HYF HC HVC HK HB0 k1 k2 k3 k4 k5
  go_enter Try.func57, Try.ntmps57
  go_wp2
  rw [HW0.out]
  go_ret
  exact ⟨ret_bool HE.out.symm, B0⟩

theorem sMay (zs : List Zn) : ∀ t : T, MaT zs t ∧ NmT zs t := T.induct (fun t ih => ⟨sMayStep zs t ih, sNotStep zs t ih⟩)
theorem sMayHold (zs : List Zn) (t : T) : MaT zs t := (sMay zs t).1

end Go.Proofs.Ytpinoemckapbhaa

/- The contracts of impl's intVal, textVal, textByte, textOk, ValOk. -/
namespace Go.Proofs.Ytpinoemckapbhaa
open Go.RowKit

theorem iIntVal (n : Int) (w : World) : Calls Try.prog 111 #[.int .i64 n] w fun e w' => e = .returned (V.agg ⟨1, n, ⟨#[]⟩⟩) ∧ Below w.heap.size w w' := by
  go_enter Try.func111, Try.ntmps111
  go_wp2
  exact bodyPost_ret (v := .agg #[.int .i64 1, .int .i64 n, .string ⟨#[]⟩]) (by simp [results, Try.results111, go_sem]) rfl ⟨rfl, below_alloc _ _⟩
theorem iTextVal (s : ByteArray) (w : World) : Calls Try.prog 113 #[.string s] w fun e w' => e = .returned (V.agg ⟨2, 0, s⟩) ∧ Below w.heap.size w w' := by
  go_enter Try.func113, Try.ntmps113
  go_wp2
  exact bodyPost_ret (v := .agg #[.int .i64 2, .int .i64 0, .string s]) (by simp [results, Try.results113, go_sem]) rfl ⟨rfl, below_alloc _ _⟩

theorem iTextByte (c : Nat) (w : World) : Calls Try.prog 115 #[.int .u8 c] w fun e w' => e = .returned (.bool (Num.inB c 97 122 || Num.inB c 48 57)) ∧ w = w' := by
  by_cases h1 : 97 ≤ c
  · by_cases h2 : c ≤ 122
    · go_enter Try.func115, Try.ntmps115
      go_wp2
      go_ret
      exact ⟨ret_bool (by unfold Num.inB; rw [Bool.eq_iff_iff]; simp; omega), rfl⟩
    · go_enter Try.func115, Try.ntmps115
      go_wp2
      go_ret
      exact ⟨ret_bool (by unfold Num.inB; rw [Bool.eq_iff_iff]; simp; omega), rfl⟩
  · by_cases h3 : 48 ≤ c
    · go_enter Try.func115, Try.ntmps115
      go_wp2
      go_ret
      exact ⟨ret_bool (by unfold Num.inB; rw [Bool.eq_iff_iff]; simp; omega), rfl⟩
    · go_enter Try.func115, Try.ntmps115
      go_wp2
      go_ret
      exact ⟨ret_bool (by unfold Num.inB; rw [Bool.eq_iff_iff]; simp; omega), rfl⟩

theorem iTextOk (s : ByteArray) (w : World) (hs : s.size ≤ maxLen) : Calls Try.prog 114 #[.string s] w fun e w' => e = .returned (.bool (txtB s)) ∧ w = w' := by
  unfold maxLen at hs
  by_cases h6 : s.size ≤ 6
  · go_enter Try.func114, Try.ntmps114
    go_wp2
    go_loop [9] (fun i => ∃ k : Nat, k ≤ s.size ∧ i = .int .i64 k ∧ ∀ j (hj : j < s.size), j < k → chrB s[j] = true) (fun i => s.size - (intOf i).toNat)
    case atStart => exact ⟨0, Nat.zero_le _, rfl, fun j _ hj => by omega⟩
    case round =>
      obtain ⟨k, hk, rfl, hok⟩ := hrel
      have HOK := Lib.hid hok
      clear hok
      by_cases hlt : k < s.size
      · have HS : Hid (chrB s[k] = true → ∀ j (hj : j < s.size), j < k + 1 → chrB s[j] = true) := fun h j hj hjk => by
          by_cases e : j = k
          · subst e; exact h
          · exact HOK.out j hj (by omega)
        have HN : Hid (chrB s[k] = false → txtB s = false) := txtB_bad hlt
        have HT := Lib.hid (fun W => iTextByte s[k].toNat W)
        have HD : Hid ((Num.inB s[k].toNat 97 122 || Num.inB s[k].toNat 48 57) = chrB s[k]) := rfl
        rw [HD.out] at HT
        cases hc : chrB s[k] with
        | true =>
          have HS2 := Lib.hid (HS.out hc)
          rw [hc] at HT
          clear hc HS HN HD
          go_wp2_with (go_at_call 115; refine (HT.out _).mono ?_; rintro e w' ⟨rfl, rfl⟩)
          go_round
          case rel => exact ⟨k + 1, by omega, by go_num, HS2.out⟩
          case measure => simp [intOf]; omega
        | false =>
          have HN2 := Lib.hid (HN.out hc)
          rw [hc] at HT
          clear hc HS HN HD
          go_wp2_with (go_at_call 115; refine (HT.out _).mono ?_; rintro e w' ⟨rfl, rfl⟩)
          go_ret
          exact ⟨ret_bool HN2.out.symm, rfl⟩
      · obtain rfl : k = s.size := by omega
        have HA : Hid (txtB s = true) := txtB_all h6 (fun j hj => HOK.out j hj hj)
        go_wp2
        go_ret
        exact ⟨ret_bool HA.out.symm, rfl⟩
  · have HA : Hid (txtB s = false) := by
      show txtB s = false
      unfold txtB
      rw [decide_eq_false h6]
      rfl
    go_enter Try.func114, Try.ntmps114
    go_wp2
    go_ret
    exact ⟨ret_bool HA.out.symm, rfl⟩

end Go.Proofs.Ytpinoemckapbhaa

/- The contract of impl's ValOk. -/
namespace Go.Proofs.Ytpinoemckapbhaa
open Go.RowKit

theorem boxedV {w : World} {t n : Int} {s : ByteArray} {e : TypeId} {W : World} (hb : Below (w.alloc (.cells #[.int .i64 t, .int .i64 n, .string s] e)).heap.size (w.alloc (.cells #[.int .i64 t, .int .i64 n, .string s] e)) W) :
    W.cell? ⟨w.heap.size, 0, none⟩ = some (.int .i64 t) ∧ W.cell? ⟨w.heap.size, 1, none⟩ = some (.int .i64 n) ∧ W.cell? ⟨w.heap.size, 2, none⟩ = some (.string s) := by
  refine ⟨(hb.cell (p := ⟨w.heap.size, 0, none⟩) (by simp)).trans ?_, (hb.cell (p := ⟨w.heap.size, 1, none⟩) (by simp)).trans ?_, (hb.cell (p := ⟨w.heap.size, 2, none⟩) (by simp)).trans ?_⟩ <;> simp

set_option maxHeartbeats 1000000 in
theorem iValOk (v : V) (w : World) (hs : v.s.size ≤ maxLen) : Calls Try.prog 110 #[v.agg] w fun e w' => e = .returned (.bool (okV v)) ∧ Below w.heap.size w w' := by
  obtain ⟨t, n, s⟩ := v
  simp only at hs
  have B0 := below_alloc w (.cells #[.int .i64 t, .int .i64 n, .string s] 26)
  have HC := Lib.hid (fun (W : World) => boxedV (w := w) (t := t) (n := n) (s := s) (e := 26) (W := W))
  generalize hw0 : (w.alloc (.cells #[.int .i64 t, .int .i64 n, .string s] 26)) = w0 at B0 HC
  have hB := Below.refl w0.heap.size w0
  have hB' := hB.drew
  have HW := Lib.hid hw0
  clear hw0
  by_cases ht : t = 1
  · subst ht
    have HE : Hid (okV ⟨1, n, s⟩ = (Num.okB n && (s.size == 0))) := if_pos rfl
    have HA := Lib.hid (fun W => iIntVal n W)
    have HO := Lib.hid (fun W => numOk n W)
    have HQ := Lib.hid (fun W => run_eql_val ⟨1, n, s⟩ ⟨1, n, ⟨#[]⟩⟩ W)
    by_cases h0 : s.size = 0
    · have e : V.eqB ⟨1, n, s⟩ ⟨1, n, ⟨#[]⟩⟩ = true := by
        obtain rfl : s = ⟨#[]⟩ := by
          apply ByteArray.ext
          exact Array.eq_empty_of_size_eq_zero h0
        simp [V.eqB]
      rw [e] at HQ
      rw [show (s.size == 0) = true by simpa using h0, Bool.and_true] at HE
      have hq := HQ.out
      clear e h0 HQ
      generalize Num.okB n = r at HE HO
      go_enter Try.func110, Try.ntmps110
      go_wp2_with fail
      rw [HW.out]
      go_region_held3 (fun W => W.cell? ⟨w.heap.size, 0, none⟩ = some (.int .i64 1) ∧ W.cell? ⟨w.heap.size, 1, none⟩ = some (.int .i64 n) ∧ W.cell? ⟨w.heap.size, 2, none⟩ = some (.string s)) (first | exact HC.out _ hB' | exact HC.out _ hB) (first | (go_at_call 111; (with_reducible refine (HA.out _).mono ?_); rintro e w3 ⟨rfl, hb⟩; replace hB' := below_then hB' hb hB'.size) | (go_at_call 112; (with_reducible refine (HO.out _).mono ?_); rintro e w4 ⟨rfl, rfl⟩))
      all_goals
        go_wp2
        go_ret
        exact ⟨ret_bool HE.out.symm, B0.trans (hB'.mono B0.size)⟩
    · have e : V.eqB ⟨1, n, s⟩ ⟨1, n, ⟨#[]⟩⟩ = false := by
        have : ¬ s.toList = [] := fun e => h0 (size_of_toList e)
        have h1 : (s.toList == []) = false := by simpa using this
        have h2 : (⟨#[]⟩ : ByteArray).toList = [] := by rw [ByteArray.toList_eq]
        simp [V.eqB, h2, this]
      rw [e] at HQ
      rw [show (s.size == 0) = false by simpa using h0, Bool.and_false] at HE
      have hq := HQ.out
      clear e h0 HQ
      go_enter Try.func110, Try.ntmps110
      go_wp2_with fail
      rw [HW.out]
      refine wp_region_held_drew (S := (fun W => W.cell? ⟨w.heap.size, 0, none⟩ = some (.int .i64 1) ∧ W.cell? ⟨w.heap.size, 1, none⟩ = some (.int .i64 n) ∧ W.cell? ⟨w.heap.size, 2, none⟩ = some (.string s))) (by kernel_rfl) (HC.out _ hB') (fun hHeld => ?_)
      refine takeH (i := 0) (d := some 7) (v := .agg #[.int .i64 1, .int .i64 n, .string s]) rfl rfl (by kernel_rfl) (by kernel_rfl) (by kernel_rfl) (fun _ _ _ h => h) (Or.inl ⟨by rfl, fun W hSw => by obtain ⟨c0, c1, c2⟩ := hSw; go_simp⟩) hHeld ?_
      simp only [put_some, List.set_cons_zero, List.set_cons_succ]
      refine takeH (i := 1) (d := some 8) (v := .pointer (some ⟨w.heap.size, 1, none⟩)) rfl rfl (by kernel_rfl) (by kernel_rfl) (by kernel_rfl) (fun _ _ _ h => h) (Or.inl ⟨by rfl, fun W hSw => by obtain ⟨c0, c1, c2⟩ := hSw; go_simp⟩) hHeld ?_
      simp only [put_some, List.set_cons_zero, List.set_cons_succ]
      refine takeH (i := 2) (d := some 9) (v := .int .i64 n) rfl rfl (by kernel_rfl) (by kernel_rfl) (by kernel_rfl) (fun _ _ _ h => h) (Or.inl ⟨by rfl, fun W hSw => by obtain ⟨c0, c1, c2⟩ := hSw; go_simp⟩) hHeld ?_
      simp only [put_some, List.set_cons_zero, List.set_cons_succ]
      refine wpAnyH_ready (rs := [3]) (by kernel_rfl) (by simp) ?_
      refine AllReadyH.cons rfl (fun K hK => ?_) AllReadyH.nil
      go_simp
      go_at_call 111
      refine (HA.out _).mono ?_
      rintro e w3 ⟨rfl, hb⟩
      replace hB' := below_then hB' hb hB'.size
      go_wp2_with fail
      refine hK.out _ _ (HC.out _ hB') (fun hHeld => ?_)
      clear hK K
      refine takeH (i := 4) (d := some 11) (v := .bool false) rfl rfl (by kernel_rfl) (by kernel_rfl) (by kernel_rfl) (fun _ _ _ h => h) (Or.inl ⟨by rfl, fun W hSw => by obtain ⟨c0, c1, c2⟩ := hSw; go_simp⟩) hHeld ?_
      simp only [put_some, List.set_cons_zero, List.set_cons_succ]
      refine takeH (i := 5) (d := some 12) (v := .bool false) rfl rfl (by kernel_rfl) (by kernel_rfl) (by kernel_rfl) (fun _ _ _ h => h) (Or.inl ⟨by rfl, fun W hSw => by obtain ⟨c0, c1, c2⟩ := hSw; go_simp⟩) hHeld ?_
      simp only [put_some, List.set_cons_zero, List.set_cons_succ]
      refine takeH (i := 6) (d := some 13) (v := undef) rfl rfl (by kernel_rfl) (by kernel_rfl) (by kernel_rfl) (fun _ _ _ h => h) (Or.inr ⟨by rfl, rfl⟩) hHeld ?_
      simp only [put_some, List.set_cons_zero, List.set_cons_succ]
      refine takeH (i := 7) (d := some 14) (v := undef) rfl rfl (by kernel_rfl) (by kernel_rfl) (by kernel_rfl) (fun _ _ _ h => h) (Or.inr ⟨by rfl, rfl⟩) hHeld ?_
      simp only [put_some, List.set_cons_zero, List.set_cons_succ]
      refine takeH (i := 8) (d := some 15) (v := undef) rfl rfl (by kernel_rfl) (by kernel_rfl) (by kernel_rfl) (fun _ _ _ h => h) (Or.inr ⟨by rfl, rfl⟩) hHeld ?_
      simp only [put_some, List.set_cons_zero, List.set_cons_succ]
      refine takeH (i := 9) (d := some 16) (v := .bool false) rfl rfl (by kernel_rfl) (by kernel_rfl) (by kernel_rfl) (fun _ _ _ h => h) (Or.inl ⟨by rfl, fun W hSw => by obtain ⟨c0, c1, c2⟩ := hSw; go_simp⟩) hHeld ?_
      simp only [put_some, List.set_cons_zero, List.set_cons_succ]
      refine takeH (i := 10) (d := some 2) (v := .bool false) rfl rfl (by kernel_rfl) (by kernel_rfl) (by kernel_rfl) (fun _ _ _ h => h) (Or.inl ⟨by rfl, fun W hSw => by obtain ⟨c0, c1, c2⟩ := hSw; go_simp⟩) hHeld ?_
      simp only [put_some, List.set_cons_zero, List.set_cons_succ]
      refine wpAnyH_done (by kernel_rfl) ?_ _
      go_wp2
      go_ret
      exact ⟨ret_bool HE.out.symm, B0.trans (hB'.mono B0.size)⟩
  · have HE : Hid (okV ⟨t, n, s⟩ = (t == 2 && (n == 0 && txtB s))) := if_neg ht
    have ht1 : (t == 1) = false := by simpa using ht
    by_cases ht2 : t = 2
    · subst ht2
      have HA := Lib.hid (fun W => iTextVal s W)
      have HO := Lib.hid (fun W => iTextOk s W hs)
      have HQ := Lib.hid (fun W => run_eql_val ⟨2, n, s⟩ ⟨2, 0, s⟩ W)
      have e : V.eqB ⟨2, n, s⟩ ⟨2, 0, s⟩ = (n == 0) := by simp [V.eqB]
      rw [e] at HQ
      rw [show ((2 : Int) == 2) = true from rfl, Bool.true_and] at HE
      by_cases h0 : n = 0
      · rw [show (n == 0) = true by simpa using h0] at HE HQ
        rw [Bool.true_and] at HE
        have hq := HQ.out
        clear e h0 HQ ht
        generalize txtB s = r at HE HO
        go_enter Try.func110, Try.ntmps110
        go_wp2_with fail
        rw [HW.out]
        go_region_held3 (fun W => W.cell? ⟨w.heap.size, 0, none⟩ = some (.int .i64 2) ∧ W.cell? ⟨w.heap.size, 1, none⟩ = some (.int .i64 n) ∧ W.cell? ⟨w.heap.size, 2, none⟩ = some (.string s)) (first | exact HC.out _ hB' | exact HC.out _ hB) (first | (go_at_call 113; (with_reducible refine (HA.out _).mono ?_); rintro e w3 ⟨rfl, hb⟩; replace hB' := below_then hB' hb hB'.size) | (go_at_call 114; (with_reducible refine (HO.out _).mono ?_); rintro e w4 ⟨rfl, rfl⟩))
        all_goals
          go_wp2
          go_ret
          exact ⟨ret_bool HE.out.symm, B0.trans (hB'.mono B0.size)⟩
      · rw [show (n == 0) = false by simpa using h0] at HE HQ
        rw [Bool.false_and] at HE
        have hq := HQ.out
        clear e h0 HQ ht
        go_enter Try.func110, Try.ntmps110
        go_wp2_with fail
        rw [HW.out]
        refine wp_region_held_drew (S := (fun W => W.cell? ⟨w.heap.size, 0, none⟩ = some (.int .i64 2) ∧ W.cell? ⟨w.heap.size, 1, none⟩ = some (.int .i64 n) ∧ W.cell? ⟨w.heap.size, 2, none⟩ = some (.string s))) (by kernel_rfl) (HC.out _ hB') (fun hHeld => ?_)
        refine takeH (i := 0) (d := some 19) (v := .agg #[.int .i64 2, .int .i64 n, .string s]) rfl rfl (by kernel_rfl) (by kernel_rfl) (by kernel_rfl) (fun _ _ _ h => h) (Or.inl ⟨by rfl, fun W hSw => by obtain ⟨c0, c1, c2⟩ := hSw; go_simp⟩) hHeld ?_
        simp only [put_some, List.set_cons_zero, List.set_cons_succ]
        refine takeH (i := 1) (d := some 20) (v := .pointer (some ⟨w.heap.size, 2, none⟩)) rfl rfl (by kernel_rfl) (by kernel_rfl) (by kernel_rfl) (fun _ _ _ h => h) (Or.inl ⟨by rfl, fun W hSw => by obtain ⟨c0, c1, c2⟩ := hSw; go_simp⟩) hHeld ?_
        simp only [put_some, List.set_cons_zero, List.set_cons_succ]
        refine takeH (i := 2) (d := some 21) (v := .string s) rfl rfl (by kernel_rfl) (by kernel_rfl) (by kernel_rfl) (fun _ _ _ h => h) (Or.inl ⟨by rfl, fun W hSw => by obtain ⟨c0, c1, c2⟩ := hSw; go_simp⟩) hHeld ?_
        simp only [put_some, List.set_cons_zero, List.set_cons_succ]
        refine wpAnyH_ready (rs := [3]) (by kernel_rfl) (by simp) ?_
        refine AllReadyH.cons rfl (fun K hK => ?_) AllReadyH.nil
        go_simp
        go_at_call 113
        refine (HA.out _).mono ?_
        rintro e w3 ⟨rfl, hb⟩
        replace hB' := below_then hB' hb hB'.size
        go_wp2_with fail
        refine hK.out _ _ (HC.out _ hB') (fun hHeld => ?_)
        clear hK K
        refine takeH (i := 4) (d := some 23) (v := .bool false) rfl rfl (by kernel_rfl) (by kernel_rfl) (by kernel_rfl) (fun _ _ _ h => h) (Or.inl ⟨by rfl, fun W hSw => by obtain ⟨c0, c1, c2⟩ := hSw; go_simp⟩) hHeld ?_
        simp only [put_some, List.set_cons_zero, List.set_cons_succ]
        refine takeH (i := 5) (d := some 24) (v := .bool false) rfl rfl (by kernel_rfl) (by kernel_rfl) (by kernel_rfl) (fun _ _ _ h => h) (Or.inl ⟨by rfl, fun W hSw => by obtain ⟨c0, c1, c2⟩ := hSw; go_simp⟩) hHeld ?_
        simp only [put_some, List.set_cons_zero, List.set_cons_succ]
        refine takeH (i := 6) (d := some 25) (v := undef) rfl rfl (by kernel_rfl) (by kernel_rfl) (by kernel_rfl) (fun _ _ _ h => h) (Or.inr ⟨by rfl, rfl⟩) hHeld ?_
        simp only [put_some, List.set_cons_zero, List.set_cons_succ]
        refine takeH (i := 7) (d := some 26) (v := undef) rfl rfl (by kernel_rfl) (by kernel_rfl) (by kernel_rfl) (fun _ _ _ h => h) (Or.inr ⟨by rfl, rfl⟩) hHeld ?_
        simp only [put_some, List.set_cons_zero, List.set_cons_succ]
        refine takeH (i := 8) (d := some 27) (v := undef) rfl rfl (by kernel_rfl) (by kernel_rfl) (by kernel_rfl) (fun _ _ _ h => h) (Or.inr ⟨by rfl, rfl⟩) hHeld ?_
        simp only [put_some, List.set_cons_zero, List.set_cons_succ]
        refine takeH (i := 9) (d := some 28) (v := .bool false) rfl rfl (by kernel_rfl) (by kernel_rfl) (by kernel_rfl) (fun _ _ _ h => h) (Or.inl ⟨by rfl, fun W hSw => by obtain ⟨c0, c1, c2⟩ := hSw; go_simp⟩) hHeld ?_
        simp only [put_some, List.set_cons_zero, List.set_cons_succ]
        refine takeH (i := 10) (d := some 2) (v := .bool false) rfl rfl (by kernel_rfl) (by kernel_rfl) (by kernel_rfl) (fun _ _ _ h => h) (Or.inl ⟨by rfl, fun W hSw => by obtain ⟨c0, c1, c2⟩ := hSw; go_simp⟩) hHeld ?_
        simp only [put_some, List.set_cons_zero, List.set_cons_succ]
        refine wpAnyH_done (by kernel_rfl) ?_ _
        go_wp2
        go_ret
        exact ⟨ret_bool HE.out.symm, B0.trans (hB'.mono B0.size)⟩
    · have ht2b : (t == 2) = false := by simpa using ht2
      rw [ht2b, Bool.false_and] at HE
      clear ht ht2 hB hB' HC
      go_enter Try.func110, Try.ntmps110
      go_wp2
      go_ret
      rw [HW.out]
      exact ⟨ret_bool HE.out.symm, B0⟩

end Go.Proofs.Ytpinoemckapbhaa

/- Rows: what they are, and the laws' own helpers over one Row: szRow, toRow, eqRow. -/
namespace Go.Proofs.Ytpinoemckapbhaa
open Go.RowKit

/-- A Row. -/
structure R where
  id : Int
  l : List V
/-- A Row as the machine holds it: its number and the slice of its values. -/
abbrev R.agg (r : R) (u : Value) : Value := .agg #[.int .i64 r.id, u]
/-- The slice of a Row reads as its values. -/
def R.rd (w : World) (r : R) (u : Value) : Prop := Rd 3 w u r.l.length (vals r.l)
theorem R.rd.below {w w' : World} {r : R} {u : Value} (h : r.rd w u) (hb : Below w.heap.size w w') : r.rd w' u := Rd.below h hb

theorem szRow (r : R) (u : Value) (left : Int) (w : World) (h0 : 0 ≤ left) (h1 : left ≤ 1048576) (hss : ∀ v ∈ r.l, v.s.size ≤ maxLen) (h : r.rd w u) :
    Calls Try.prog 69 #[r.agg u, .int .i64 left] w fun e w' => ∃ z : Int, e = .returned (.int .i64 z) ∧ (z < 0 ∨ (0 ≤ z ∧ (r.l.length : Int) + bulk r.l ≤ left - z)) ∧ Below w.heap.size w w' := by
  have B0 := below_alloc w (.cells #[.int .i64 r.id, u] 105)
  have h' := h.below B0
  obtain ⟨a, cap, rfl, hn, hx⟩ := h'
  have HZ := Lib.hid (szValS a r.l.length cap r.l left (w.alloc (.cells #[.int .i64 r.id, .slice a r.l.length cap] 105)) h0 h1 hn hss rfl hx)
  obtain ⟨i, l⟩ := r
  simp only at HZ B0
  generalize l.length = m at *
  generalize bulk l = k at *
  clear h hx hss
  go_enter Try.func69, Try.ntmps69
  go_wp2_with fail
  refine HZ.out.mono ?_
  rintro e w1 ⟨z, rfl, hz, b1⟩
  have B1 := below_then B0 b1 B0.size
  clear b1 HZ
  by_cases hneg : z < 0
  · go_wp2
    go_ret
    exact ⟨_, rfl, .inl (by omega), B1⟩
  · go_wp2
    go_ret
    exact ⟨_, rfl, hz, B1⟩

/-- Two cells of a block that may be written. -/
def Two (W : World) (b : Nat) (x y : Value) : Prop :=
  (W.cell? ⟨b, 0, none⟩ = some x ∧ W.cell? ⟨b, 1, none⟩ = some y) ∧ W.frozen? ⟨b, 0, none⟩ = false ∧ W.frozen? ⟨b, 1, none⟩ = false
theorem Two.below {W W' : World} {b : Nat} {x y : Value} (h : Two W b x y) (hb : Below W.heap.size W W') : Two W' b x y := by
  have hlt := lt_of_cell h.1.1
  exact ⟨⟨(hb.cell (p := ⟨b, 0, none⟩) hlt).trans h.1.1, (hb.cell (p := ⟨b, 1, none⟩) hlt).trans h.1.2⟩, (hb.frozen (p := ⟨b, 0, none⟩) hlt).trans h.2.1, (hb.frozen (p := ⟨b, 1, none⟩) hlt).trans h.2.2⟩
theorem two_new (w : World) (x y : Value) (e : TypeId) : Two (w.alloc (.cells #[x, y] e)) w.heap.size x y := ⟨⟨by simp, by simp⟩, by simp, by simp⟩

theorem Own.setBelow {e size lo hi w v n xs} (h : Own e size lo hi w v n xs) {a : Addr} (ha : a.block < lo) (u : Value) : Own e size lo hi (w.setCell a u) v n xs := by
  obtain ⟨g, cap, rfl, h1, h2, h3⟩ := h
  exact ⟨g, cap, rfl, h1, h2, ownsRow_setCell_below h3 ha u⟩
theorem Own.size {e size lo hi w v n xs} (h : Own e size lo hi w v n xs) (hi' : Nat) (hh : hi ≤ hi') : Own e size lo hi' w v n xs := by
  obtain ⟨g, cap, rfl, h1, h2, h3⟩ := h
  exact ⟨g, cap, rfl, h1, by omega, h3⟩

set_option maxHeartbeats 400000 in
theorem toRow (r : R) (u : Value) (w : World) (hle : r.l.length ≤ 1073741824) (h : r.rd w u) :
    Calls Try.prog 70 #[r.agg u] w fun e w' => ∃ v, e = .returned (r.agg v) ∧ Own 26 3 w.heap.size w'.heap.size w' v r.l.length (vals r.l) ∧ Below w.heap.size w w' := by
  have B0 := below_alloc3 w (.cells #[.int .i64 r.id, u] 105) (.cells #[.int .i64 0, .slice none 0 0] 44) (.cells #[.int .i64 r.id, .slice none 0 0] 44)
  have h' := h.below B0
  obtain ⟨a, cap, rfl, hn, hx⟩ := h'
  have Z1 := (two_new (w.alloc (.cells #[.int .i64 r.id, .slice a r.l.length cap] 105)) (.int .i64 0) (.slice none 0 0) 44).below (below_alloc _ (.cells #[.int .i64 r.id, .slice none 0 0] 44))
  have Z2 := two_new ((w.alloc (.cells #[.int .i64 r.id, .slice a r.l.length cap] 105)).alloc (.cells #[.int .i64 0, .slice none 0 0] 44)) (.int .i64 r.id) (.slice none 0 0) 44
  have HT := Lib.hid (toValS a r.l.length cap r.l (((w.alloc (.cells #[.int .i64 r.id, .slice a r.l.length cap] 105)).alloc (.cells #[.int .i64 0, .slice none 0 0] 44)).alloc (.cells #[.int .i64 r.id, .slice none 0 0] 44)) hle rfl hx)
  rw [World.size_alloc] at Z1
  rw [World.size_alloc, World.size_alloc] at Z2
  obtain ⟨i, l⟩ := r
  simp only at HT B0 Z1 Z2 hle hn
  generalize vals l = xs at *
  generalize l.length = m at *
  clear h hx
  go_enter Try.func70, Try.ntmps70
  go_wp2_with fail
  refine HT.out.mono ?_
  rintro e w1 ⟨v, rfl, o1, b1⟩
  have B1 := below_then B0 b1 B0.size
  obtain ⟨⟨p0, p1⟩, p2, p3⟩ := Z1.below b1
  obtain ⟨⟨q0, q1⟩, q2, q3⟩ := Z2.below b1
  have O1 := Lib.hid o1
  obtain ⟨g, cp, rfl⟩ : ∃ g cp, v = .slice (some ⟨g, 0, none⟩) m cp := by
    obtain ⟨g, cp, e, _⟩ := o1
    exact ⟨g, cp, e⟩
  clear Z1 Z2 b1 B0 HT o1
  go_wp2
  refine bodyPost_ret (v := .agg #[.int .i64 i, .slice (some ⟨g, 0, none⟩) m cp]) (by simp [results, Try.results70, go_sem, *]) rfl ⟨_, rfl, ?_, ?_⟩
  · have := ((O1.out.setBelow (a := ⟨w.heap.size + 1 + 1, 1, none⟩) (by simp) (.slice (some ⟨g, 0, none⟩) m cp)).setBelow (a := ⟨w.heap.size + 1, 0, none⟩) (by simp) (.int .i64 i)).setBelow (a := ⟨w.heap.size + 1, 1, none⟩) (by simp) (.slice (some ⟨g, 0, none⟩) m cp)
    simp only [World.size_alloc] at this
    exact (this.lower (by omega)).wide (by simp)
  · exact ((B1.setCell (by simp; omega) _).setCell (by simp) _).setCell (by simp) _

theorem eqRow (r : R) (u v : Value) (w : World) (hu : r.rd w u) (hv : r.rd w v) :
    Calls Try.prog 72 #[r.agg u, r.agg v] w fun e w' => e = .returned (.bool true) ∧ Below w.heap.size w w' := by
  have B0 := below_alloc2 w (.cells #[.int .i64 r.id, u] 44) (.cells #[.int .i64 r.id, v] 44)
  have HT := Lib.hid (eqValR u v r.l.length r.l _ rfl (hu.below B0) (hv.below B0))
  obtain ⟨a1, c1, rfl, _, _⟩ := hu
  obtain ⟨a2, c2, rfl, _, _⟩ := hv
  obtain ⟨i, l⟩ := r
  simp only at HT B0
  have hne : (i != i) = false := by simp
  generalize l.length = m at *
  go_enter Try.func72, Try.ntmps72
  go_wp2_with fail
  refine HT.out.mono ?_
  rintro e w1 ⟨rfl, b1⟩
  have B1 := below_then B0 b1 B0.size
  clear b1
  go_wp2
  go_ret
  exact ⟨rfl, B1⟩

end Go.Proofs.Ytpinoemckapbhaa
