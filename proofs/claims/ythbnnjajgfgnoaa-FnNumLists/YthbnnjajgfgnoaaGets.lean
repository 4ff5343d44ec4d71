/- The contracts of the program's and the model's GetNums. -/
import Derived.Test.YthbnnjajgfgnoaaSGet
import Derived.Test.YthbnnjajgfgnoaaInts
namespace Go.Proofs.Ythbnnjajgfgnoaa
open Go.RowKit

/-- After j rounds: the numbers read so far, and where to go on. -/
def Reading (b : List Int) (c j : Nat) (next0 : Int) (pre : List Int) (nx : Int) : Prop :=
  pre.length = j ∧ (Num.gets (c - j) b nx).map (fun p => (pre ++ p.1, p.2)) = Num.gets c b next0
theorem reading_start (b : List Int) (c : Nat) (next0 : Int) : Reading b c 0 next0 [] next0 := by
  refine ⟨rfl, ?_⟩
  simp
theorem gets_step {k : Nat} {b : List Int} {nx r1 r2 : Int} (h : Num.get b nx = (r1, r2, true)) : Num.gets (k + 1) b nx = (Num.gets k b r2).map (fun p => (r1 :: p.1, p.2)) := by
  simp [Num.gets, h]
theorem gets_fail {k : Nat} {b : List Int} {nx r1 r2 : Int} (h : Num.get b nx = (r1, r2, false)) : Num.gets (k + 1) b nx = none := by
  simp [Num.gets, h]
theorem reading_step {b : List Int} {c j : Nat} {next0 nx r1 r2 : Int} {pre : List Int} (h : Reading b c j next0 pre nx) (hj : j < c) (hg : Num.get b nx = (r1, r2, true)) : Reading b c (j + 1) next0 (pre ++ [r1]) r2 := by
  refine ⟨by simp [h.1], ?_⟩
  rw [← h.2, show c - j = (c - (j + 1)) + 1 by omega, gets_step hg, Option.map_map]
  congr 1
  funext p
  simp
theorem reading_fail {b : List Int} {c j : Nat} {next0 nx r1 r2 : Int} {pre : List Int} (h : Reading b c j next0 pre nx) (hj : j < c) (hg : Num.get b nx = (r1, r2, false)) : Num.gets c b next0 = none := by
  rw [← h.2, show c - j = (c - (j + 1)) + 1 by omega, gets_fail hg]; rfl
theorem reading_end {b : List Int} {c : Nat} {next0 nx : Int} {pre : List Int} (h : Reading b c c next0 pre nx) : Num.gets c b next0 = some (pre, nx) := by
  rw [← h.2]; simp [Num.gets]
theorem getL_no {b : List Int} {i r1 r2 : Int} {r3 : Bool} (h : Num.get b i = (r1, r2, r3)) (hn : ¬ (r3 = true ∧ 0 ≤ r1 ∧ r1 ≤ 64)) : Num.getL b i = ([], 0, false) := by
  unfold Num.getL; rw [h]; exact if_neg hn
theorem getL_none {b : List Int} {i r2 : Int} {c : Nat} (h : Num.get b i = ((c : Int), r2, true)) (hc : c ≤ 64) (hg : Num.gets c b r2 = none) : Num.getL b i = ([], 0, false) := by
  unfold Num.getL; rw [h]; simp only [true_and]; rw [if_pos (by omega)]; simp only [Int.toNat_natCast]; rw [hg]
theorem getL_some {b : List Int} {i r2 : Int} {c : Nat} {l : List Int} {e : Int} (h : Num.get b i = ((c : Int), r2, true)) (hc : c ≤ 64) (hg : Num.gets c b r2 = some (l, e)) : Num.getL b i = (l, e, true) := by
  unfold Num.getL; rw [h]; simp only [true_and]; rw [if_pos (by omega)]; simp only [Int.toNat_natCast]; rw [hg]

/-- What GetNums returns: the list owned, the offset, whether. -/
def GetsRet (w : World) (r : List Int × Int × Bool) (e : Ending) (w' : World) : Prop :=
  ∃ v, e = .returned (.tuple #[v, .int .i64 r.2.1, .bool r.2.2]) ∧ Own 3 1 w.heap.size w'.heap.size w' v r.1.length (ints .i64 r.1) ∧ Below w.heap.size w w'

set_option maxHeartbeats 1000000 in
theorem sGetNums (v : Value) (n : Nat) (zs : List Int) (i : Int) (w : World) (hn : n ≤ 1073741824) (hz : zs.length = n) (hby : Num.Bytes zs) (h : At 1 w v n (ints .u8 zs)) :
    Calls Try.prog 31 #[v, .int .i64 i] w (GetsRet w (Num.getL zs i)) := by
  have HZ := Lib.hid hz
  clear hz
  obtain ⟨r1, r2, r3, hr⟩ : ∃ r1 r2 r3, Num.get zs i = (r1, r2, r3) := ⟨_, _, _, rfl⟩
  have HR := Lib.hid hr
  clear hr
  by_cases hok : r3 = true ∧ 0 ≤ r1 ∧ r1 ≤ 64
  · obtain ⟨rfl, h0, h64⟩ := hok
    obtain ⟨c, rfl⟩ := Int.eq_ofNat_of_zero_le h0
    have hin : Num.inB c 0 64 = true := Num.inB_true.2 ⟨h0, h64⟩
    have hown0 := own_lit (e := 3) (size := 1) w #[] 0 (Nat.zero_le _) rfl
    have hb0 := below_alloc w (.cells #[] 3)
    go_enter Try.func31, Try.ntmps31
    go_wp2_with (first | (go_at_call 22; refine (sGetNum _ n zs _ _ (by omega) HZ.out hby h).mono ?_; rw [HR.out]; simp only [getRes]; rintro e w' ⟨rfl, rfl⟩) | (go_at_call 55; refine (l1In _ _ _ _).mono ?_; rintro e w' ⟨rfl, rfl⟩))
    go_loopw [8, 10, 11] (fun t v1 k wr => ∃ (j : Nat) (pre : List Int) (nx : Int), j ≤ c ∧ k = .int .i64 j ∧ t = .int .i64 nx ∧ Reading zs c j r2 pre nx ∧ Own 3 1 w.heap.size wr.heap.size wr v1 pre.length (ints .i64 pre) ∧ Below w.heap.size w wr) (fun _ _ k _ => c - (intOf k).toNat)
    case atStart => exact ⟨0, [], r2, Nat.zero_le _, rfl, rfl, reading_start _ _ _, hown0, hb0⟩
    case round =>
      obtain ⟨j, pre, nx, hj, rfl, rfl, hread, hown, hbr⟩ := hrel
      have HRD := Lib.hid hread
      clear hread hown0 hb0
      have hpl : pre.length ≤ 64 := by have := HRD.out.1; omega
      have hat := h.below hbr
      by_cases hlt : j < c
      · obtain ⟨q1, q2, q3, hq⟩ : ∃ q1 q2 q3, Num.get zs nx = (q1, q2, q3) := ⟨_, _, _, rfl⟩
        cases q3 with
        | true =>
          have HS := Lib.hid (reading_step HRD.out hlt hq)
          have HQ := Lib.hid hq
          clear hq
          generalize hpn : pre.length = pn at hown hpl
          have HPN := Lib.hid hpn
          clear hpn
          go_wp2_with (first | (go_at_call 22; refine (sGetNum _ n zs _ _ (by omega) HZ.out hby hat).mono ?_; rw [HQ.out]; simp only [getRes]; rintro e w' ⟨rfl, rfl⟩) | (at_builtin; refine append1_law Try.elemInts rfl _ _ rfl _ _ _ _ _ (.int .i64 q1) rfl rfl hown rfl (by unfold maxLen; omega) (by omega) ?_))
          intro v' w1 hown' hext'
          have hb2 := hbr.trans (hext'.below hown)
          have R := Lib.hid hown'
          clear hown' hext' hown hbr hat
          go_wp2
          go_roundw
          case rel =>
            refine ⟨j + 1, pre ++ [q1], q2, by omega, by go_num, rfl, HS.out, ?_, hb2⟩
            have e : (pre ++ [q1]).length = pn + 1 := by rw [← HPN.out]; simp
            rw [e, ints_append]
            exact R.out
          case measure => simp [intOf]; omega
        | false =>
          have HG := Lib.hid (getL_none HR.out (by omega) (reading_fail HRD.out hlt hq))
          have HQ := Lib.hid hq
          clear hq
          have ho := (own_lit (e := 3) (size := 1) wr #[] 0 (Nat.zero_le _) rfl).lower hbr.size
          have hb2 := hbr.alloc hbr.size (.cells #[] 3)
          go_wp2_with (go_at_call 22; refine (sGetNum _ n zs _ _ (by omega) HZ.out hby hat).mono ?_; rw [HQ.out]; simp only [getRes]; rintro e w' ⟨rfl, rfl⟩)
          go_ret3
          rw [HG.out]
          exact ⟨_, rfl, ho, hb2⟩
      · obtain rfl : j = c := by omega
        have HG := Lib.hid (getL_some HR.out (by omega) (reading_end HRD.out))
        clear hat
        go_wp2
        go_ret3
        rw [HG.out]
        exact ⟨_, rfl, hown, hbr⟩
  · have HG := Lib.hid (getL_no HR.out hok)
    have ho := own_lit (e := 3) (size := 1) w #[] 0 (Nat.zero_le _) rfl
    have hb2 := below_alloc w (.cells #[] 3)
    cases r3 with
    | false =>
      clear hok
      go_enter Try.func31, Try.ntmps31
      go_wp2_with (go_at_call 22; refine (sGetNum _ n zs _ _ (by omega) HZ.out hby h).mono ?_; rw [HR.out]; simp only [getRes]; rintro e w' ⟨rfl, rfl⟩)
      go_ret3
      rw [HG.out]
      exact ⟨_, rfl, ho, hb2⟩
    | true =>
      have hin : Num.inB r1 0 64 = false := Num.inB_false.2 (fun h => hok ⟨rfl, h⟩)
      clear hok
      go_enter Try.func31, Try.ntmps31
      go_wp2_with (first | (go_at_call 22; refine (sGetNum _ n zs _ _ (by omega) HZ.out hby h).mono ?_; rw [HR.out]; simp only [getRes]; rintro e w' ⟨rfl, rfl⟩) | (go_at_call 55; refine (l1In _ _ _ _).mono ?_; rintro e w' ⟨rfl, rfl⟩))
      go_ret3
      rw [HG.out]
      exact ⟨_, rfl, ho, hb2⟩

set_option maxHeartbeats 1000000 in
theorem iGetNums (v : Value) (n : Nat) (zs : List Int) (i : Int) (w : World) (hn : n ≤ 1073741824) (hz : zs.length = n) (hby : Num.Bytes zs) (h : At 1 w v n (ints .u8 zs)) :
    Calls Try.prog 30 #[v, .int .i64 i] w (GetsRet w (Num.getL zs i)) := by
  have HZ := Lib.hid hz
  clear hz
  obtain ⟨r1, r2, r3, hr⟩ : ∃ r1 r2 r3, Num.get zs i = (r1, r2, r3) := ⟨_, _, _, rfl⟩
  have HR := Lib.hid hr
  clear hr
  by_cases hok : r3 = true ∧ 0 ≤ r1 ∧ r1 ≤ 64
  · obtain ⟨rfl, h0, h64⟩ := hok
    obtain ⟨c, rfl⟩ := Int.eq_ofNat_of_zero_le h0
    have hneg : decide ((c : Int) < 0) = false := by simp
    go_enter Try.func30, Try.ntmps30
    go_wp2_with (first | (go_at_call 17; refine (iGetNum _ n zs _ _ (by omega) HZ.out hby h).mono ?_; rw [HR.out]; simp only [getRes]; rintro e w' ⟨rfl, rfl⟩) | (at_make; refine make_law Try.elemInts rfl _ _ rfl .i64 .i64 _ _ c rfl rfl rfl rfl (by omega) (by unfold maxLen; omega) ?_))
    intro w1 hown0 hb0
    rw [toList_madeCells_one, ← filled_nil] at hown0
    go_wp2
    go_loopw [1, 33] (fun t k wr => ∃ (j : Nat) (pre : List Int) (nx : Int), j ≤ c ∧ k = .int .i64 j ∧ t = .int .i64 nx ∧ Reading zs c j r2 pre nx ∧ wr.ownsRow w.heap.size 3 1 (.slice (some ⟨w.heap.size, 0, none⟩) c c) c (filled .i64 pre c) ∧ Below w.heap.size w wr) (fun _ k _ => c - (intOf k).toNat)
    case atStart => exact ⟨0, [], r2, Nat.zero_le _, rfl, rfl, reading_start _ _ _, hown0.row, hb0⟩
    case round =>
      obtain ⟨j, pre, nx, hj, rfl, rfl, hread, hown, hbr⟩ := hrel
      have HRD := Lib.hid hread
      clear hread hown0 hb0
      have hat := h.below hbr
      by_cases hlt : j < c
      · have hpl : pre.length = j := HRD.out.1
        have hcw : wr.cell? ⟨w.heap.size, j, none⟩ = some (.int .i64 0) := by
          rw [hown.cellAt j (by omega), ← hpl]
          exact filled_get (by omega)
        have hfr := hown.frozenAt j
        obtain ⟨q1, q2, q3, hq⟩ : ∃ q1 q2 q3, Num.get zs nx = (q1, q2, q3) := ⟨_, _, _, rfl⟩
        have hst := (hown.stored j (.int .i64 q1)).1
        rw [← hpl, filled_set q1 (by omega), hpl] at hst
        have HST := Lib.hid hst
        have HPL := Lib.hid hpl
        clear hst hpl hown
        have hb1 := hbr.setCell (p := ⟨w.heap.size, j, none⟩) (Nat.le_refl _) (.int .i64 q1)
        cases q3 with
        | true =>
          have HS := Lib.hid (reading_step HRD.out hlt hq)
          have HQ := Lib.hid hq
          clear hq
          go_wp2_with (go_at_call 17; refine (iGetNum _ n zs _ _ (by omega) HZ.out hby hat).mono ?_; rw [HQ.out]; simp only [getRes]; rintro e w' ⟨rfl, rfl⟩)
          go_roundw
          case rel => exact ⟨j + 1, pre ++ [q1], q2, by omega, by go_num, rfl, HS.out, HST.out, hb1⟩
          case measure => simp [intOf]; omega
        | false =>
          have HG := Lib.hid (getL_none HR.out (by omega) (reading_fail HRD.out hlt hq))
          have HQ := Lib.hid hq
          clear hq
          have ho := (own_lit (e := 3) (size := 1) (wr.setCell ⟨w.heap.size, j, none⟩ (.int .i64 q1)) #[] 0 (Nat.zero_le _) rfl).lower hb1.size
          rw [show (wr.setCell ⟨w.heap.size, j, none⟩ (.int .i64 q1)).heap.size = wr.heap.size from by simp [World.setCell]] at ho
          have hb2 := hb1.alloc hb1.size (.cells #[] 3)
          go_wp2_with (go_at_call 17; refine (iGetNum _ n zs _ _ (by omega) HZ.out hby hat).mono ?_; rw [HQ.out]; simp only [getRes]; rintro e w' ⟨rfl, rfl⟩)
          go_ret3
          rw [HG.out]
          exact ⟨_, rfl, ho, hb2⟩
      · obtain rfl : j = c := by omega
        have HG := Lib.hid (getL_some HR.out (by omega) (reading_end HRD.out))
        have hpl : pre.length = j := HRD.out.1
        rw [filled_all hpl] at hown
        have hfin : Own 3 1 w.heap.size wr.heap.size wr (.slice (some ⟨w.heap.size, 0, none⟩) j j) pre.length (ints .i64 pre) := by
          rw [hpl]
          exact ⟨_, _, rfl, Nat.le_refl _, (hown.lt _ rfl).2, hown⟩
        clear hat hown hpl
        go_wp2
        go_ret3
        rw [HG.out]
        exact ⟨_, rfl, hfin, hbr⟩
  · have HG := Lib.hid (getL_no HR.out hok)
    have ho := own_lit (e := 3) (size := 1) w #[] 0 (Nat.zero_le _) rfl
    have hb2 := below_alloc w (.cells #[] 3)
    cases r3 with
    | false =>
      clear hok
      go_enter Try.func30, Try.ntmps30
      go_wp2_with (go_at_call 17; refine (iGetNum _ n zs _ _ (by omega) HZ.out hby h).mono ?_; rw [HR.out]; simp only [getRes]; rintro e w' ⟨rfl, rfl⟩)
      go_ret3
      rw [HG.out]
      exact ⟨_, rfl, ho, hb2⟩
    | true =>
      by_cases hneg : r1 < 0
      · clear hok
        go_enter Try.func30, Try.ntmps30
        go_wp2_with (go_at_call 17; refine (iGetNum _ n zs _ _ (by omega) HZ.out hby h).mono ?_; rw [HR.out]; simp only [getRes]; rintro e w' ⟨rfl, rfl⟩)
        go_ret3
        rw [HG.out]
        exact ⟨_, rfl, ho, hb2⟩
      · have h64 : 64 < r1 := by
          by_cases h' : r1 ≤ 64
          · exact absurd ⟨rfl, by omega, h'⟩ hok
          · omega
        clear hok
        go_enter Try.func30, Try.ntmps30
        go_wp2_with (go_at_call 17; refine (iGetNum _ n zs _ _ (by omega) HZ.out hby h).mono ?_; rw [HR.out]; simp only [getRes]; rintro e w' ⟨rfl, rfl⟩)
        go_ret3
        rw [HG.out]
        exact ⟨_, rfl, ho, hb2⟩

end Go.Proofs.Ythbnnjajgfgnoaa
