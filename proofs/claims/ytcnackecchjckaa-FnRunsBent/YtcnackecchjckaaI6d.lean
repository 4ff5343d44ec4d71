/- The contracts of impl's getRuns, DecRuns. -/
import Derived.Test.YtcnackecchjckaaI6e
import Derived.Test.YtcnackecchjckaaI5d
namespace Go.Proofs.Ytcnackecchjckaa
open Go.RowKit Go.Lib

/-- The runs at the start of some bytes. -/
def getU (zs : List Int) (ty : Int) : Option (List U) :=
  if (Num.get zs 0).2.2 = true ∧ 0 ≤ (Num.get zs 0).1 ∧ (Num.get zs 0).1 ≤ 64 then decU zs ty (Num.get zs 0).1.toNat (Num.get zs 0).2.1 else none
def RUs (w w' : World) (e : Ending) (r : Option (List U)) : Prop :=
  (r = none → e = .returned (.tuple #[.slice none 0 0, .bool false])) ∧ (∀ l, r = some l → ∃ v', e = .returned (.tuple #[v', .bool true]) ∧ Own 36 4 w.heap.size w'.heap.size w' v' l.length (rus l)) ∧ Below w.heap.size w w'
theorem rus_none {w w' : World} (h : Below w.heap.size w w') : RUs w w' (.returned (.tuple #[.slice none 0 0, .bool false])) none := ⟨fun _ => rfl, fun _ h' => (by cases h'), h⟩
def fillU (pre : List U) (n : Nat) : List U := pre ++ List.replicate (n - pre.length) U.zero
theorem fillU_len {pre : List U} {n : Nat} (h : pre.length ≤ n) : (fillU pre n).length = n := by simp [fillU]; omega
theorem fillU_set {pre : List U} {n : Nat} (x : U) (h : pre.length < n) : (fillU pre n).set pre.length x = fillU (pre ++ [x]) n := by
  unfold fillU
  rw [List.set_append_right _ _ (Nat.le_refl _), Nat.sub_self, show n - pre.length = (n - (pre ++ [x]).length) + 1 by simp; omega, List.replicate_succ, List.set_cons_zero]
  simp
theorem fillU_full {pre : List U} {n : Nat} (h : pre.length = n) : fillU pre n = pre := by simp [fillU, h]

theorem set_same {α : Type} {l : List α} {i : Nat} {x : α} (h : l[i]? = some x) : l.set i x = l := by
  apply List.ext_getElem?
  intro j
  rw [List.getElem?_set]
  split
  · rename_i e
    subst e
    rw [h]
    split
    · rfl
    · rename_i hl
      rw [List.getElem?_eq_none (by omega)] at h
      cases h
  · rfl
theorem rus_setV (l : List U) (k : Nat) (x : U) (hk : k < l.length) (hx : (l.getD k U.zero).k = x.k) : rus (l.set k x) = (((rus l).set (k * 4) (.int .i64 x.v.ty)).set (k * 4 + 1) (.int .i64 x.v.n)).set (k * 4 + 2) (.string x.v.s) := by
  rw [rus_set l k x hk]
  apply set_same
  have h1 := rus_get (j := 3) hk (by omega)
  have e : l.getD k U.zero = l[k] := by simp [hk]
  rw [e] at hx
  rw [List.getElem?_set_ne (by omega), List.getElem?_set_ne (by omega), List.getElem?_set_ne (by omega), h1]
  simp [U.cs, hx]
/-- The first three cells of Run k of an owned slice, stored anew. -/
theorem stored43 {w : World} {lo : Nat} {e : TypeId} {g n cap : Nat} {l : List U} (h : w.ownsRow lo e 4 (.slice (some ⟨g, 0, none⟩) n cap) n (rus l)) (k : Nat) (x : U) (hk : k < l.length) (hx : (l.getD k U.zero).k = x.k) :
    (((w.setCell ⟨g, k * 4, none⟩ (.int .i64 x.v.ty)).setCell ⟨g, k * 4 + 1, none⟩ (.int .i64 x.v.n)).setCell ⟨g, k * 4 + 2, none⟩ (.string x.v.s)).ownsRow lo e 4 (.slice (some ⟨g, 0, none⟩) n cap) n (rus (l.set k x)) ∧
      w.grownBy (((w.setCell ⟨g, k * 4, none⟩ (.int .i64 x.v.ty)).setCell ⟨g, k * 4 + 1, none⟩ (.int .i64 x.v.n)).setCell ⟨g, k * 4 + 2, none⟩ (.string x.v.s)) (some g) := by
  have s1 := h.stored (k * 4) (.int .i64 x.v.ty)
  have s2 := s1.1.stored (k * 4 + 1) (.int .i64 x.v.n)
  have s3 := s2.1.stored (k * 4 + 2) (.string x.v.s)
  rw [rus_setV l k x hk hx]
  exact ⟨s3.1, (s1.2.trans s2.2).trans s3.2⟩
theorem fillU_setK {pre : List U} {n : Nat} (h : pre.length < n) (m : Int) (x : U) (hx : x.k = m) : ((fillU pre n).set pre.length ⟨((fillU pre n).getD pre.length U.zero).v, m⟩).set pre.length x = fillU (pre ++ [x]) n ∧ (((fillU pre n).set pre.length ⟨((fillU pre n).getD pre.length U.zero).v, m⟩).getD pre.length U.zero).k = x.k := by
  have hl : pre.length < (fillU pre n).length := by rw [fillU_len (by omega)]; exact h
  refine ⟨by rw [List.set_set, fillU_set x h], ?_⟩
  simp [hl, hx]

set_option maxHeartbeats 2000000 in
theorem getRuns (u : Value) (n : Nat) (zs : List Int) (ty : Int) (w : World) (hn : n ≤ 1048576) (hz : zs.length = n) (hby : Num.Bytes zs) (h : At 1 w u n (ints .u8 zs)) :
    Calls Try.prog 56 #[u, .int .i64 ty] w fun e w' => RUs w w' e (getU zs ty) := by
  have HG := Lib.hid (fun i W (hW : Below w.heap.size w W) => iGetNum u n zs i W (by omega) hz hby (h.below hW))
  have HV := Lib.hid (fun i W (hW : Below w.heap.size w W) => iGetVal u n zs i ty W hn hz hby (h.below hW))
  have HE : Hid (getU zs ty = if (Num.get zs 0).2.2 = true ∧ 0 ≤ (Num.get zs 0).1 ∧ (Num.get zs 0).1 ≤ 64 then decU zs ty (Num.get zs 0).1.toNat (Num.get zs 0).2.1 else none) := rfl
  have HD : Hid (∀ m i, decU zs ty (m + 1) i = if (Num.get zs i).2.2 = true ∧ (getV zs (Num.get zs i).2.1 ty).2.2 = true then (decU zs ty m (getV zs (Num.get zs i).2.1 ty).2.1).map fun r => ⟨(getV zs (Num.get zs i).2.1 ty).1, (Num.get zs i).1⟩ :: r else none) := fun m i => rfl
  have HG0 := Lib.hid (HG.out 0 w (Below.refl _ _))
  generalize getU zs ty = X at HE
  obtain ⟨b, off, cap, rfl, _, _, _, _⟩ := h
  clear hz hby
  generalize hg : Num.get zs 0 = r0 at HE HG0
  obtain ⟨c, at0, ok⟩ := r0
  simp only [getRes] at HE HG0
  clear hg
  have HX : Hid (X = none → ∀ w', Below w.heap.size w w' → RUs w w' (.returned (.tuple #[.slice none 0 0, .bool false])) X) := fun h w' hw => by
    rw [h]
    exact rus_none hw
  cases ok with
  | false =>
    have HN := Lib.hid (HX.out (HE.out.trans (if_neg (by simp))))
    clear HX HE HD HV HG
    go_enter Try.func56, Try.ntmps56
    go_wp2_with fail
    refine HG0.out.mono ?_
    rintro e w1 ⟨rfl, rfl⟩
    go_wp2
    go_ret2
    exact HN.out _ (Below.refl _ _)
  | true =>
    by_cases h0 : c < 0
    · have HN := Lib.hid (HX.out (HE.out.trans (if_neg (by omega))))
      clear HX HE HD HV HG
      go_enter Try.func56, Try.ntmps56
      go_wp2_with fail
      refine HG0.out.mono ?_
      rintro e w1 ⟨rfl, rfl⟩
      go_wp2
      go_ret2
      exact HN.out _ (Below.refl _ _)
    · by_cases h1 : 64 < c
      · have HN := Lib.hid (HX.out (HE.out.trans (if_neg (by omega))))
        clear HX HE HD HV HG
        go_enter Try.func56, Try.ntmps56
        go_wp2_with fail
        refine HG0.out.mono ?_
        rintro e w1 ⟨rfl, rfl⟩
        go_wp2
        go_ret2
        exact HN.out _ (Below.refl _ _)
      · obtain ⟨C, rfl⟩ := Int.eq_ofNat_of_zero_le (show 0 ≤ c by omega)
        rw [if_pos ⟨rfl, by omega, by omega⟩, Int.toNat_natCast] at HE
        go_enter Try.func56, Try.ntmps56
        go_wp2_with fail
        refine HG0.out.mono ?_
        rintro e w1 ⟨rfl, rfl⟩
        clear HG0
        go_wp2_with (at_make; refine make_law Try.elemRuns rfl _ _ rfl .i64 .i64 _ _ C rfl rfl rfl rfl (by omega) (by unfold maxLen; omega) ?_)
        intro w1 hown1 hb1
        have hown0 : Own 36 4 w.heap.size w1.heap.size w1 (.slice (some ⟨w.heap.size, 0, none⟩) C C) C (rus (fillU [] C)) := by
          have e : rus (fillU [] C) = (madeCells U.zero.cs.toArray (C * 4)).toList := by
            rw [made_flat U.cs U.zero 4 C (by omega) (fun _ => rfl)]
            simp [fillU, rus]
          rw [e]
          exact hown1
        clear hown1
        go_wp2
        go_loopw [7, 31] (fun p i wr => ∃ (j : Nat) (q : Int) (pre : List U), j ≤ C ∧ i = .int .i64 j ∧ p = .int .i64 q ∧ pre.length = j ∧ X = (decU zs ty (C - j) q).map (fun r => pre ++ r) ∧ Own 36 4 w.heap.size wr.heap.size wr (.slice (some ⟨w.heap.size, 0, none⟩) C C) C (rus (fillU pre C)) ∧ Below w.heap.size w wr) (fun _ i _ => C - (intOf i).toNat)
        case atStart => exact ⟨0, at0, [], Nat.zero_le _, rfl, rfl, rfl, by rw [HE.out]; simp, hown0, hb1⟩
        case round =>
          obtain ⟨j, q, pre, hj, rfl, rfl, hpl, hX, hown, hbr⟩ := hrel
          by_cases hlt : j < C
          · have HGj := Lib.hid (HG.out q wr hbr)
            have HXj : Hid (X = (decU zs ty (C - (j + 1) + 1) q).map (fun r => pre ++ r)) := by
              show _ = _
              rw [hX, show C - (j + 1) + 1 = C - j by omega]
            rw [HD.out] at HXj
            have HVj := Lib.hid (fun W hW => HV.out (Num.get zs q).2.1 W hW)
            generalize hr1 : Num.get zs q = r1 at HGj HXj HVj
            obtain ⟨m, nx, is⟩ := r1
            simp only [getRes] at HGj HXj HVj
            have HSETK := Lib.hid (fillU_setK (pre := pre) (n := C) (by omega) m)
            have hfl : pre.length < (fillU pre C).length := by rw [fillU_len (by omega)]; omega
            rw [hpl] at HSETK hfl
            have HPL := Lib.hid hpl
            have r1 := hown.row
            obtain ⟨x3, s3⟩ := cellAt_some r1 (j * 4 + 3) (by omega)
            have f3 := r1.frozenAt (j * 4 + 3)
            have R1 := r1.stored (j * 4 + 3) (.int .i64 m)
            rw [← rus_setK _ j m hfl] at R1
            generalize hL1 : (fillU pre C).set j ⟨((fillU pre C).getD j U.zero).v, m⟩ = L1 at R1 HSETK
            have HLL : Hid (j < L1.length) := by
              show _ < _
              rw [← hL1, List.length_set]
              exact hfl
            have HB1 := Lib.hid (hbr.trans (B := w.heap.size) ⟨R1.2.os, R1.2.tape, R1.2.output, R1.2.size, fun i hi => R1.2.block i (by have := hbr.size; omega) (by simp; omega)⟩)
            have HR1 := Lib.hid R1.1
            clear hr1 hX hfl hpl r1 R1 hL1 hown
            cases is with
            | false =>
              have HN := Lib.hid (HX.out (HXj.out.trans (by rw [if_neg (by simp)]; rfl)))
              clear HSETK HVj HXj
              go_wp2_with fail
              refine HGj.out.mono ?_
              rintro e w2 ⟨rfl, rfl⟩
              clear HGj
              go_wp2
              go_ret2
              exact HN.out _ HB1.out
            | true =>
              generalize hwk : wr.setCell ⟨w.heap.size, j * 4 + 3, none⟩ (.int .i64 m) = wk at HB1 HR1
              have HWK := Lib.hid hwk
              have HV2 := Lib.hid (HVj.out wk HB1.out)
              generalize hr2 : getV zs nx ty = r2 at HXj HV2
              obtain ⟨⟨t2, n2, s2⟩, to, may⟩ := r2
              simp only [rGet] at HXj HV2
              clear hr2 hwk HVj
              go_wp2_with fail
              refine HGj.out.mono ?_
              rintro e w2 ⟨rfl, rfl⟩
              clear HGj
              go_wp2_with fail
              rw [HWK.out]
              refine HV2.out.mono ?_
              rintro e w3 ⟨rfl, hb3⟩
              have O3 := (own_of_row HR1.out (Nat.le_refl _)).below hb3 (Nat.le_refl _)
              have r3 := O3.row
              have HB3 := Lib.hid (below_then HB1.out hb3 HB1.out.size)
              have HSK2 := Lib.hid (HSETK.out ⟨⟨t2, n2, s2⟩, m⟩ rfl)
              have R := Lib.hid (stored43 r3 j ⟨⟨t2, n2, s2⟩, m⟩ HLL.out HSK2.out.2)
              rw [HSK2.out.1] at R
              obtain ⟨y0, z0⟩ := cellAt_some r3 (j * 4) (by omega)
              obtain ⟨y1, z1⟩ := cellAt_some r3 (j * 4 + 1) (by omega)
              obtain ⟨y2, z2⟩ := cellAt_some r3 (j * 4 + 2) (by omega)
              have f0 := r3.frozenAt (j * 4)
              have f1 := r3.frozenAt (j * 4 + 1)
              have f2 := r3.frozenAt (j * 4 + 2)
              simp only at R
              have HB4 := Lib.hid (HB3.out.trans (B := w.heap.size) ⟨R.out.2.os, R.out.2.tape, R.out.2.output, R.out.2.size, fun i hi => R.out.2.block i (by have := HB3.out.size; omega) (by simp; omega)⟩)
              clear HV2 hb3 O3 r3 HSETK HSK2 HLL HR1 s3 f3
              cases may with
              | false =>
                have HN := Lib.hid (HX.out (HXj.out.trans (by rw [if_neg (by simp)]; rfl)))
                go_wp2
                go_ret2
                exact HN.out _ HB4.out
              | true =>
                rw [if_pos (by simp)] at HXj
                go_wp2
                go_roundw
                case rel => exact ⟨j + 1, to, pre ++ [⟨⟨t2, n2, s2⟩, m⟩], by omega, by go_num, rfl, by simp [HPL.out], by rw [HXj.out, Option.map_map]; congr 1; funext r; simp, ⟨_, _, rfl, Nat.le_refl _, (R.out.1.lt _ rfl).2, R.out.1⟩, HB4.out⟩
                case measure => simp [intOf]; omega
          · obtain rfl : j = C := by omega
            rw [fillU_full hpl] at hown
            have hX2 : X = some pre := by
              rw [hX, Nat.sub_self]
              simp [decU]
            have HX2 := Lib.hid hX2
            have HFIN : Hid (RUs w wr (.returned (.tuple #[.slice (some ⟨w.heap.size, 0, none⟩) j j, .bool true])) (some pre)) :=
              ⟨fun h => (by cases h), fun l hl => (by cases hl; exact ⟨_, rfl, by rw [hpl]; exact hown⟩), hbr⟩
            clear hX2 hX hpl HE HX
            go_wp2
            go_ret2
            rw [HX2.out]
            exact HFIN.out

theorem bytesEqual (u v : Value) (n m : Nat) (xs ys : List Int) (w : World) (hxl : xs.length = n) (hyl : ys.length = m) (hx : Num.Bytes xs) (hy : Num.Bytes ys) (h1 : At 1 w u n (ints .u8 xs)) (h2 : At 1 w v m (ints .u8 ys)) :
    Calls Try.prog 57 #[u, v] w fun e w' => e = .returned (.bool (decide (xs = ys))) ∧ w = w' := by
  have k1 := conv_at hxl h1
  have k2 := conv_at hyl h2
  have HX : Hid (((strOfNums xs).toList == (strOfNums ys).toList) = decide (xs = ys)) := by
    show _ = _
    by_cases he : xs = ys
    · subst he
      simp
    · rw [bstr_ne (fun h => he (strOfNums_inj hx hy h)), decide_eq_false he]
  obtain ⟨b1, o1, c1, rfl, _, _, _, _⟩ := h1
  obtain ⟨b2, o2, c2, rfl, _, _, _, _⟩ := h2
  generalize strOfNums xs = s1 at k1 HX
  generalize strOfNums ys = s2 at k2 HX
  generalize decide (xs = ys) = q at HX
  clear hx hy hxl hyl
  go_enter Try.func57, Try.ntmps57
  go_wp2
  go_ret
  exact ⟨ret_bool HX.out, rfl⟩

theorem decU_zero (zs : List Int) (ty i : Int) : decU zs ty 0 i = some [] := rfl
theorem decR_none {zs : List Int} {ty k : Int} (hk : Num.inB k 1 64 = false) : decR zs ty k = ([], false) := by
  unfold decR
  rw [if_neg (by rw [hk]; simp)]
theorem decR_get {zs : List Int} {ty k : Int} (hk : Num.inB k 1 64 = true) : decR zs ty k = match getU zs ty with
    | some r => if ((spreadL r).length : Int) = k ∧ encR (spreadL r) = zs then (spreadL r, true) else ([], false)
    | none => ([], false) := by
  unfold decR getU
  obtain ⟨k0, k1⟩ := Num.inB_true.1 hk
  by_cases hok : (Num.get zs 0).2.2 = true
  · by_cases h0 : 0 ≤ (Num.get zs 0).1 ∧ (Num.get zs 0).1 ≤ 64
    · by_cases h1 : (Num.get zs 0).1 = 0
      · have hz : Num.inB (Num.get zs 0).1 1 64 = false := by
          rw [h1]
          rfl
        rw [if_neg (by rw [hz]; simp), if_pos ⟨hok, h0.1, h0.2⟩, h1]
        have e : (spreadL ([] : List U)).length = 0 := rfl
        simp only [Int.toNat_zero, decU_zero, e]
        rw [if_neg (by omega)]
      · rw [if_pos ⟨hok, hk, Num.inB_true.2 ⟨by omega, h0.2⟩⟩, if_pos ⟨hok, h0.1, h0.2⟩]
        cases decU zs ty (Num.get zs 0).1.toNat (Num.get zs 0).2.1 <;> rfl
    · rw [if_neg, if_neg (fun h => h0 h.2)]
      rintro ⟨_, _, h2⟩
      have := Num.inB_true.1 h2
      omega
  · rw [if_neg (fun h => hok h.1), if_neg (fun h => hok h.1)]
theorem decU_sizes {zs : List Int} {ty : Int} : ∀ {n : Nat} {i : Int} {r : List U}, decU zs ty n i = some r → r.length = n ∧ ∀ u ∈ r, u.v.s.size ≤ maxLen
  | 0, i, r, h => by
    simp only [decU, Option.some.injEq] at h
    subst h
    exact ⟨rfl, fun _ h => by cases h⟩
  | n + 1, i, r, h => by
    rw [decU] at h
    split at h
    · cases hd : decU zs ty n (getV zs (Num.get zs i).2.1 ty).2.1 with
      | none => rw [hd] at h; cases h
      | some r' =>
        rw [hd] at h
        simp only [Option.map_some, Option.some.injEq] at h
        subst h
        have ih := decU_sizes hd
        refine ⟨by simp [ih.1], fun u hu => ?_⟩
        rcases List.mem_cons.1 hu with rfl | hu
        · exact getV_size _ _ _
        · exact ih.2 u hu
    · cases h

set_option maxHeartbeats 2000000 in
theorem iDecRuns : CDecRuns := by
  intro u n zs ty k w hn hz hby h
  cases hk : Num.inB k 1 64 with
  | false =>
    rw [decR_none hk]
    have OL := own_lit (e := 34) (size := 3) w #[] 0 (Nat.zero_le _) rfl
    have BL := below_alloc w (.cells #[] 34)
    have HFIN : Hid (RDs w (w.alloc (.cells #[] 34)) (.returned (.tuple #[.slice (some ⟨w.heap.size, 0, none⟩) 0 0, .bool false])) ([], false)) := ⟨_, rfl, OL, BL⟩
    obtain ⟨b, off, cap, rfl, _, _, _, _⟩ := h
    clear hz hby
    by_cases h1 : k < 1
    · clear hk
      go_enter Try.func24, Try.ntmps24
      go_wp2
      go_ret2
      exact HFIN.out
    · have h2 : 64 < k := by
        by_cases h2 : 64 < k
        · exact h2
        · exfalso
          rw [Num.inB_true.2 ⟨by omega, by omega⟩] at hk
          cases hk
      clear hk
      go_enter Try.func24, Try.ntmps24
      go_wp2
      go_ret2
      exact HFIN.out
  | true =>
    rw [decR_get hk]
    obtain ⟨k0, k1⟩ := Num.inB_true.1 hk
    have HG := Lib.hid (getRuns u n zs ty w hn hz hby h)
    have HSZ : Hid (∀ r, getU zs ty = some r → r.length ≤ 1048576 ∧ ∀ u ∈ r, u.v.s.size ≤ maxLen) := fun r hr => by
      unfold getU at hr
      split at hr
      · rename_i hc
        have := decU_sizes hr
        exact ⟨by omega, this.2⟩
      · cases hr
    generalize getU zs ty = G at HG HSZ
    cases G with
    | none =>
      have HFIN : Hid (∀ w1, Below w.heap.size w w1 → RDs w (w1.alloc (.cells #[] 34)) (.returned (.tuple #[.slice (some ⟨w1.heap.size, 0, none⟩) 0 0, .bool false])) ([], false)) := fun w1 b1 =>
        ⟨_, rfl, (own_lit (e := 34) (size := 3) w1 #[] 0 (Nat.zero_le _) rfl).lower b1.size, b1.alloc b1.size _⟩
      obtain ⟨b, off, cap, rfl, _, _, _, _⟩ := h
      clear hz hby hk HSZ
      go_enter Try.func24, Try.ntmps24
      go_wp2_with fail
      refine HG.out.mono ?_
      rintro e w1 ⟨h1, _, b1⟩
      obtain rfl := h1 rfl
      have HF1 := Lib.hid (HFIN.out w1 b1)
      clear h1 HG HFIN
      go_wp2
      go_ret2
      exact HF1.out
    | some r =>
      obtain ⟨hrl, hrs⟩ := HSZ.out r rfl
      have HFIN : Hid (∀ w1, Below w.heap.size w w1 → RDs w (w1.alloc (.cells #[] 34)) (.returned (.tuple #[.slice (some ⟨w1.heap.size, 0, none⟩) 0 0, .bool false])) ([], false)) := fun w1 b1 =>
        ⟨_, rfl, (own_lit (e := 34) (size := 3) w1 #[] 0 (Nat.zero_le _) rfl).lower b1.size, b1.alloc b1.size _⟩
      have HSL := Lib.hid (spreadL_len r)
      have HA := Lib.hid h
      have HZ := Lib.hid hz
      have HBY := Lib.hid hby
      have HRS := Lib.hid hrs
      obtain ⟨b, off, cap, rfl, _, _, _, _⟩ := h
      clear hz hby hk HSZ hrs
      simp only
      have HRES : Hid ((if ((spreadL r).length : Int) = k ∧ encR (spreadL r) = zs then (spreadL r, true) else (([] : List V), false)) = if ((spreadL r).length : Int) = k ∧ encR (spreadL r) = zs then (spreadL r, true) else (([] : List V), false)) := rfl
      generalize hrs : (if ((spreadL r).length : Int) = k ∧ encR (spreadL r) = zs then (spreadL r, true) else (([] : List V), false)) = res at HRES ⊢
      replace HRES := Lib.hid hrs.symm
      clear hrs
      go_enter Try.func24, Try.ntmps24
      go_wp2_with fail
      refine HG.out.mono ?_
      rintro e w1 ⟨_, h1, b1⟩
      obtain ⟨v1, rfl, o1⟩ := h1 r rfl
      have HSP := Lib.hid (iSpread v1 r w1 hrl HRS.out o1.rd)
      have B1 := Lib.hid b1
      obtain ⟨g1, c1, hv1⟩ : ∃ g c, v1 = .slice (some ⟨g, 0, none⟩) r.length c := by
        obtain ⟨g, c, e, _⟩ := o1
        exact ⟨g, c, e⟩
      subst hv1
      clear h1 HG o1
      generalize r.length = rl at *
      go_wp2_with fail
      refine HSP.out.mono ?_
      rintro e w2 ⟨v2, rfl, o2, b2⟩
      have B2 := below_then b1 b2 b1.size
      have O2 := Lib.hid (o2.lower b1.size)
      have hsl := HSL.out
      have HSV : Hid (∀ v ∈ spreadL r, v.s.size ≤ maxLen) := by
        exact spreadL_all HRS.out
      have HEN := Lib.hid (iEncRuns v2 (spreadL r) w2 (by omega) HSV.out o2.rd)
      generalize hsp : spreadL r = S at *
      have HSP2 := Lib.hid hsp
      generalize hsn : S.length = sn at *
      obtain ⟨g2, c2, hv2⟩ : ∃ g c, v2 = .slice (some ⟨g, 0, none⟩) sn c := by
        obtain ⟨g, c, e, _⟩ := o2
        exact ⟨g, c, e⟩
      subst hv2
      clear o2 b2 HSP
      by_cases hkk : (sn : Int) = k
      · subst hkk
        have hkb : ((sn : Int) != (sn : Int)) = false := by simp
        have HFALSE : Hid (¬ encR S = zs → (if (sn : Int) = sn ∧ encR S = zs then (S, true) else (([] : List V), false)) = ([], false)) := fun h => if_neg (fun h2 => h h2.2)
        have HTRUE : Hid (encR S = zs → (if (sn : Int) = sn ∧ encR S = zs then (S, true) else (([] : List V), false)) = (S, true)) := fun h => if_pos ⟨rfl, h⟩
        have HSN := Lib.hid hsn
        clear hsn hsp
        go_wp2_with fail
        refine HEN.out.mono ?_
        rintro e w3 ⟨v3, rfl, o3, b3⟩
        have B3 := Lib.hid (below_then B2 b3 B2.size)
        have O3 := Lib.hid ((O2.out.below b3 (Nat.le_refl _)).wide b3.size)
        have HQ := Lib.hid (bytesEqual v3 _ _ n (encR S) zs w3 rfl HZ.out (encR_bytes S) HBY.out o3.at (HA.out.below B3.out))
        obtain ⟨g3, c3, hv3⟩ : ∃ g c, v3 = .slice (some ⟨g, 0, none⟩) (encR S).length c := by
          obtain ⟨g, c, e, _⟩ := o3
          exact ⟨g, c, e⟩
        subst hv3
        clear o3 b3 HEN
        generalize (encR S).length = ec at *
        by_cases hes : encR S = zs
        · have HT := Lib.hid (HTRUE.out hes)
          rw [decide_eq_true hes] at HQ
          clear hes HTRUE HFALSE
          go_wp2_with fail
          refine HQ.out.mono ?_
          rintro e w4 ⟨rfl, rfl⟩
          go_wp2
          go_ret2
          rw [HRES.out, HT.out]
          exact ⟨_, rfl, by rw [HSN.out]; exact O3.out, B3.out⟩
        · have HT := Lib.hid (HFALSE.out hes)
          have HF1 := Lib.hid (HFIN.out w3 B3.out)
          rw [decide_eq_false hes] at HQ
          clear hes HTRUE HFALSE
          go_wp2_with fail
          refine HQ.out.mono ?_
          rintro e w4 ⟨rfl, rfl⟩
          go_wp2
          go_ret2
          rw [HRES.out, HT.out]
          exact HF1.out
      · have hkb : ((sn : Int) != k) = true := by simpa using hkk
        have HN : Hid ((if (sn : Int) = k ∧ encR S = zs then (S, true) else (([] : List V), false)) = ([], false)) := if_neg (fun h => hkk h.1)
        have HF1 := Lib.hid (HFIN.out w2 B2)
        have HSN := Lib.hid hsn
        clear hsn hsp
        go_wp2_with fail
        go_ret2
        rw [HRES.out, HN.out]
        exact HF1.out

end Go.Proofs.Ytcnackecchjckaa
