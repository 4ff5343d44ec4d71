/- Texts of this claim, one behind the other: I11p. -/
import Derived.Test.YtafoldpmodipaaaDoorP24
import Derived.Test.YtafoldpmodipaaaDoorP14
import Derived.Test.YtafoldpmodipaaaDoorP18

/- The contracts of impl's countPreds and PredOk. -/
namespace Go.Proofs.YtafoldpmodipaaaDoor
open Go.RowKit

theorem counts_take_le (l : List T) (k : Nat) : T.counts (l.take k) ≤ T.counts l := by
  have h := T.counts_append (l.take k) (l.drop k)
  rw [List.take_append_drop] at h
  omega
/-- What countPreds returns. -/
def cntN (cols : List Int) (t : T) (dp : Nat) : Int := if t.deep cols (5 - (dp : Int)) = true then (t.count : Int) else 0
theorem cnt_pos (cols : List Int) (t : T) (dp : Nat) (h : t.deep cols (5 - (dp : Int)) = true) : cntN cols t dp = (t.count : Int) ∧ ¬ cntN cols t dp = 0 := by
  have := t.count_def
  unfold cntN
  rw [if_pos h]
  exact ⟨rfl, by omega⟩
theorem cnt_zero (cols : List Int) (t : T) (dp : Nat) (h : t.deep cols (5 - (dp : Int)) = false) : cntN cols t dp = 0 := by
  unfold cntN
  rw [if_neg (by rw [h]; simp)]

set_option maxRecDepth 100000 in
set_option maxHeartbeats 8000000 in
theorem iCount (cols : List Int) (m cap : Nat) (a : Option Addr) (hm : cols.length = m) : ∀ (dp : Nat), dp ≤ 4 → ∀ (t : T) (Q : Nat → Prop) (u : Value) (w : World), t.Small → t.bulk ≤ 1048577 → RdT Q w t u → Rd 1 w (.slice a m cap) m (ints .i64 cols) →
    Calls Tryd.prog 75 #[.slice a m cap, t.agg u, .int .i64 (dp : Int)] w fun e w' => e = .returned (.int .i64 (cntN cols t dp)) ∧ Below w.heap.size w w' := by
  intro dp
  induction dp with
  | zero =>
    intro _ t Q u w _ _ hr hv
    obtain ⟨ua, ucap, rfl, _⟩ := RdT_def.1 hr
    have B0 := below_alloc w (.cells #[.int .i64 t.kind, .int .i64 t.col, .int .i64 t.op, .int .i64 t.v.ty, .int .i64 t.v.n, .string t.v.s, .slice ua t.l.length ucap] 36)
    rw [cnt_zero cols t 0 (by rw [T.deep_def]; rfl)]
    simp only [T.agg]
    generalize t.l.length = n at B0 ⊢
    clear hr hv hm
    go_enter Tryd.func75, Tryd.ntmps75
    go_wp2
    go_ret
    exact ⟨rfl, B0⟩
  | succ dp ih =>
    intro hdp t Q u w hs hb hr hv
    have hdd : (5 : Int) - ((dp + 1 : Nat) : Int) + 1 = 5 - (dp : Int) := by omega
    have hdef := T.deep_def cols t (5 - ((dp + 1 : Nat) : Int))
    rw [hdd, show decide ((5 : Int) - ((dp + 1 : Nat) : Int) ≤ 4) = true from decide_eq_true (by omega), Bool.true_and] at hdef
    have hs' : t.v.s.size ≤ maxLen ∧ ∀ x ∈ t.l, x.Small := T.all_iff.1 hs
    have HIH := Lib.hid (fun k (hk : k < t.l.length) Q' u' W (h : RdT Q' W (t.l.getD k T.zero) u') (hW : Below w.heap.size w W) => ih (by omega) _ Q' u' W (hs'.2 _ (kid_mem hk)) (by have := T.bulk_child (kid_mem hk); omega) h (hv.below hW))
    have HN0 : Hid (∀ k, k < t.l.length → (t.l.getD k T.zero).deep cols (5 - (dp : Int)) = false → cntN cols t (dp + 1) = 0) := fun k hk h => cnt_zero _ _ _ (by rw [hdef, all_not (f := fun x => x.deep cols (5 - (dp : Int))) hk h, Bool.false_and])
    have HNO : Hid (t.own cols = false → cntN cols t (dp + 1) = 0) := fun h => cnt_zero _ _ _ (by rw [hdef, h, Bool.and_false])
    have HYES : Hid (t.own cols = true → (∀ k, k < t.l.length → (t.l.getD k T.zero).deep cols (5 - (dp : Int)) = true) → cntN cols t (dp + 1) = 1 + (T.counts t.l : Int)) := fun h1 h2 => by
      rw [(cnt_pos _ _ _ (by rw [hdef, all_of (f := fun x => x.deep cols (5 - (dp : Int))) h2, h1]; rfl)).1, t.count_def]
      omega
    have HST : Hid (∀ k, k < t.l.length → T.counts (t.l.take (k + 1)) = T.counts (t.l.take k) + (t.l.getD k T.zero).count) := fun k hk => T.counts_take hk
    have HLE : Hid (∀ k, T.counts (t.l.take k) ≤ 1048577) := fun k => by
      have h1 := counts_take_le t.l k
      have h2 := t.count_le_bulk
      have h3 := t.count_def
      omega
    have HFULL : Hid (T.counts (t.l.take t.l.length) = T.counts t.l) := by rw [List.take_length]; rfl
    have HZ0 : Hid (T.counts (t.l.take 0) = 0) := by
      show _ = _
      rw [List.take_zero, T.counts]
    obtain ⟨ua, ucap, hu, _⟩ := RdT_def.1 hr
    generalize hn : t.l.length = n at HIH HN0 HYES HST hu HFULL
    obtain ⟨ua', ucap', hu', hle, HC⟩ := hr.kids hn
    rw [hu] at hu'
    cases hu'
    subst hu
    have HF := Lib.hid (fun W (hW : Below w.heap.size w W) => iFormOk cols m cap n ucap a ua t W hm hn hs'.1 (hv.below hW))
    unfold maxLen at hle
    have hnb : n ≤ 1048577 := by
      have h1 := T.bulks_length t.l
      have h2 : t.bulk = t.v.s.size + 1 + T.bulks t.l := by
        rcases t with ⟨k, c, o, v, l⟩
        rw [T.bulk]
        rfl
      omega
    generalize hKS : (fun k => T.counts (t.l.take k)) = KS
    have eKS : ∀ k, T.counts (t.l.take k) = KS k := fun k => by rw [← hKS]
    simp only [eKS] at HST HLE HFULL HZ0
    generalize T.counts t.l = full at HYES HFULL
    generalize cntN cols t (dp + 1) = res at HN0 HNO HYES ⊢
    generalize t.own cols = ow at HNO HYES HF
    have B0 := below_alloc w (.cells #[.int .i64 t.kind, .int .i64 t.col, .int .i64 t.op, .int .i64 t.v.ty, .int .i64 t.v.n, .string t.v.s, .slice ua n ucap] 36)
    have C0 := blk_new w [.int .i64 t.kind, .int .i64 t.col, .int .i64 t.op, .int .i64 t.v.ty, .int .i64 t.v.n, .string t.v.s, .slice ua n ucap] 36
    generalize hw0 : w.alloc (.cells #[.int .i64 t.kind, .int .i64 t.col, .int .i64 t.op, .int .i64 t.v.ty, .int .i64 t.v.n, .string t.v.s, .slice ua n ucap] 36) = w0 at B0 C0
    have HW0 := Lib.hid hw0
    have hdz : ¬ ((dp : Int) + 1 = 0) := by omega
    simp only [T.agg] at HF ⊢
    clear hw0 hr hv hs hs' hb hdef hdd hn hKS eKS ih
    go_enter Tryd.func75, Tryd.ntmps75
    go_wp2_with fail
    rw [HW0.out]
    refine (HF.out _ B0).mono ?_
    rintro e w1 ⟨rfl, b1⟩
    have B1 := below_then B0 b1 B0.size
    have c6 := (C0.below b1 6 _ rfl).1
    clear b1 HF HW0
    cases ow with
    | false =>
      have HR := Lib.hid (HNO.out rfl)
      go_wp2
      go_ret
      exact ⟨ret_int HR.out.symm, B1⟩
    | true =>
      have HY := Lib.hid (HYES.out rfl)
      clear HNO HYES
      go_wp2
      go_loopw [7, 9, 10, 22] (fun c _ _ i wr => ∃ k : Nat, k ≤ n ∧ i = .int .i64 k ∧ c = .int .i64 (1 + (KS k : Int)) ∧ (∀ j, j < k → (t.l.getD j T.zero).deep cols (5 - (dp : Int)) = true) ∧ Below w.heap.size w wr) (fun _ _ _ i _ => n - (intOf i).toNat)
      case atStart => exact ⟨0, Nat.zero_le _, rfl, by rw [HZ0.out]; rfl, fun j hj => by omega, B1⟩
      case round =>
        obtain ⟨k, hk, rfl, rfl, hal, hbr⟩ := hrel
        have HAL := Lib.hid hal
        clear hal
        by_cases hlt : k < n
        · obtain ⟨b, off, u', rfl, hrk, p0, p1, p2, p3, p4, p5, p6⟩ := HC.out k hlt wr hbr
          obtain ⟨xa, xcap, hxu, _⟩ := RdT_def.1 hrk
          have HX : Hid (∀ W, Below wr.heap.size wr W → Calls Tryd.prog 75 #[.slice a m cap, (t.l.getD k T.zero).agg u', .int .i64 (dp : Int)] W fun e w' => e = .returned (.int .i64 (cntN cols (t.l.getD k T.zero) dp)) ∧ Below W.heap.size W w') := fun W hW => HIH.out k hlt Q u' W (hrk.below hW) (below_then hbr hW hbr.size)
          have HS := Lib.hid (HST.out k hlt)
          have HB1 := Lib.hid (HLE.out k)
          have HB2 := Lib.hid (HLE.out (k + 1))
          have HNK := Lib.hid (HN0.out k hlt)
          have HALN : Hid ((t.l.getD k T.zero).deep cols (5 - (dp : Int)) = true → ∀ j, j < k + 1 → (t.l.getD j T.zero).deep cols (5 - (dp : Int)) = true) := fun h j hj => by
            by_cases hjk : j = k
            · rw [hjk]; exact h
            · exact HAL.out j (by omega)
          have HCP := Lib.hid (cnt_pos cols (t.l.getD k T.zero) dp)
          have HCZ := Lib.hid (cnt_zero cols (t.l.getD k T.zero) dp)
          generalize (t.l.getD k T.zero).deep cols (5 - (dp : Int)) = dk at HNK HALN HCP HCZ
          generalize cntN cols (t.l.getD k T.zero) dp = r at HX HCP HCZ
          generalize t.l.getD k T.zero = x at p0 p1 p2 p3 p4 p5 HX hxu HS HCP
          generalize x.l.length = xn at hxu
          subst hxu
          have A2 := below_alloc wr (.cells #[.int .i64 x.kind, .int .i64 x.col, .int .i64 x.op, .int .i64 x.v.ty, .int .i64 x.v.n, .string x.v.s, .slice xa xn xcap] 36)
          have HX2 := Lib.hid (HX.out _ A2)
          have B2 := below_then hbr A2 hbr.size
          generalize hcx : x.count = cx at HS HCP
          simp only [T.agg] at HX2
          clear hrk A2 HX hcx
          go_wp2_with fail
          refine HX2.out.mono ?_
          rintro e w3 ⟨rfl, b3⟩
          have B3 := below_then B2 b3 B2.size
          clear b3 HX2 p0 p1 p2 p3 p4 p5 p6
          cases dk with
          | false =>
            obtain rfl : r = 0 := HCZ.out rfl
            have HR := Lib.hid (HNK.out rfl)
            go_wp2
            go_ret
            exact ⟨ret_int HR.out.symm, B3⟩
          | true =>
            obtain ⟨hr1, hr2⟩ := HCP.out rfl
            have HRC := Lib.hid hr1
            have hb1 : 0 ≤ r ∧ r ≤ 1048577 := by
              have := HS.out
              have := HB2.out
              omega
            have hb2 : (KS k : Int) ≤ 1048577 := by
              have := HB1.out
              omega
            clear hr1
            obtain ⟨hb3, hb4⟩ := hb1
            go_wp2
            go_roundw
            case rel => exact ⟨_, _, _, _, _, _, _, _, _, _, _, _, _, _, _, _, _, _, _, ⟨k + 1, by omega, by go_num, by rw [HS.out, HRC.out]; congr 1; omega, HALN.out trivial, B3⟩, rfl⟩
            case measure => simp [intOf]; omega
        · obtain rfl : k = n := by omega
          have HR := Lib.hid (HY.out HAL.out)
          have HF2 := HFULL.out
          go_wp2
          go_ret
          exact ⟨ret_int (by rw [HR.out, ← HFULL.out]), hbr⟩

set_option maxRecDepth 100000 in
set_option maxHeartbeats 4000000 in
theorem iPredOk : CPredOk := by
  intro cols t Q u vu w hs hb hlc hr hv
  have HCO := Lib.hid (fun W (hW : Below w.heap.size w W) => iColsOk vu cols W hlc (hv.below hW))
  obtain ⟨a, cap, rfl, hvn⟩ := hv
  have hv' : Rd 1 w (.slice a cols.length cap) cols.length (ints .i64 cols) := ⟨a, cap, rfl, hvn⟩
  obtain ⟨ua, ucap, rfl, _⟩ := RdT_def.1 hr
  have HCN := Lib.hid (fun W (hW : Below w.heap.size w W) => iCount cols cols.length cap a rfl 4 (Nat.le_refl _) t Q (.slice ua t.l.length ucap) W hs hb (hr.below hW) (hv'.below hW))
  have hE : t.predOk cols = (colsB cols && (decide (0 < cntN cols t 4) && decide (cntN cols t 4 ≤ 8))) := by
    unfold T.predOk T.ok
    have hd : (5 : Int) - ((4 : Nat) : Int) = 1 := by omega
    cases hdp : t.deep cols 1 with
    | true =>
      rw [(cnt_pos cols t 4 (by rw [hd]; exact hdp)).1]
      have h1 := t.count_def
      have h2 : decide (0 < (t.count : Int)) = true := decide_eq_true (by omega)
      rw [h2, Bool.true_and, Bool.true_and]
      congr 1
      rw [decide_eq_decide]
      omega
    | false =>
      rw [cnt_zero cols t 4 (by rw [hd]; exact hdp)]
      simp
  have hbd : 0 ≤ cntN cols t 4 ∧ cntN cols t 4 ≤ 1048577 := by
    have := t.count_le_bulk
    unfold cntN
    split <;> omega
  rw [hE]
  clear hE
  simp only [T.agg] at HCN ⊢
  have B0 := below_alloc w (.cells #[.int .i64 t.kind, .int .i64 t.col, .int .i64 t.op, .int .i64 t.v.ty, .int .i64 t.v.n, .string t.v.s, .slice ua t.l.length ucap] 36)
  generalize t.l.length = tn at HCN B0 ⊢
  generalize cntN cols t 4 = r at HCN hbd ⊢
  generalize colsB cols = cb at HCO ⊢
  generalize cols.length = m at HCN HCO ⊢
  obtain ⟨hb0, hb1⟩ := hbd
  generalize hres : (cb && (decide (0 < r) && decide (r ≤ 8))) = res
  have HRES := Lib.hid hres
  clear hres hr hv' hvn hs hb hlc
  go_enter Tryd.func33, Tryd.ntmps33
  go_wp2_with fail
  refine (HCN.out _ B0).mono ?_
  rintro e w1 ⟨rfl, b1⟩
  have B1 := below_then B0 b1 B0.size
  clear b1 HCN
  go_wp2_with fail
  refine (HCO.out _ B1).mono ?_
  rintro e w2 ⟨rfl, b2⟩
  have B2 := below_then B1 b2 B1.size
  clear b2 HCO B1
  cases cb with
  | false =>
    go_wp2
    go_ret
    exact ⟨ret_bool HRES.out, B2⟩
  | true =>
    by_cases h0 : 0 < r
    · have E0 := Lib.hid (decide_eq_true h0)
      by_cases h8 : r ≤ 8
      · have E8 := Lib.hid (decide_eq_true h8)
        go_wp2
        go_ret
        exact ⟨ret_bool (by rw [← HRES.out, E0.out, E8.out]; rfl), B2⟩
      · have E8 := Lib.hid (decide_eq_false h8)
        go_wp2
        go_ret
        exact ⟨ret_bool (by rw [← HRES.out, E0.out, E8.out]; rfl), B2⟩
    · have E0 := Lib.hid (decide_eq_false h0)
      go_wp2
      go_ret
      exact ⟨ret_bool (by rw [← HRES.out, E0.out]; rfl), B2⟩

end Go.Proofs.YtafoldpmodipaaaDoor
