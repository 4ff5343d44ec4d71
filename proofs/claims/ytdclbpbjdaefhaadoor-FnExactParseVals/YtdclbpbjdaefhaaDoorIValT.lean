/- The contracts of impl's ValText and ParseVal. -/
import Derived.Test.YtdclbpbjdaefhaaDoorVNum
import Derived.Test.YtdclbpbjdaefhaaDoorIValOk
namespace Go.Proofs.YtdclbpbjdaefhaaDoor
open Go.RowKit

set_option maxHeartbeats 400000 in
theorem iValText (v : V) (w : World) (hs : v.s.size ≤ maxLen) (hT : Tab w) : Calls Tryd.prog 21 #[v.agg] w fun e w' => e = .returned (.string (valText v)) ∧ Below w.heap.size w w' := by
  have HO := Lib.hid (fun W => iValOk v W hs)
  have B0 := below_alloc w (.cells #[.int .i64 v.ty, .int .i64 v.n, .string v.s] 42)
  have HK := Lib.hid (fun (W : World) => kept_box (w := w) (v := v) (e := 42) (W := W))
  have HTB := Lib.hid hT
  clear hT
  cases hok : okV v with
  | false =>
    have HE : Hid (valText v = ⟨#[]⟩) := if_neg (by rw [hok]; simp)
    rw [hok] at HO
    obtain ⟨t, n, s⟩ := v
    clear hok HK
    go_enter Tryd.func21, Tryd.ntmps21
    go_wp2_with fail
    refine (HO.out _).mono ?_
    rintro e w1 ⟨rfl, b1⟩
    have B1 := below_then B0 b1 B0.size
    clear b1
    go_wp2
    go_ret
    exact ⟨ret_str HE.out.symm, B1⟩
  | true =>
    have HE : Hid (valText v = if v.ty = 1 then ⟨(Lib.itoa v.n).toArray⟩ else (⟨#[39]⟩ ++ v.s)) := if_pos hok
    rw [hok] at HO
    by_cases ht : v.ty = 1
    · have hn := okV_num hok ht
      rw [if_pos ht] at HE
      obtain ⟨t, n, s⟩ := v
      simp only at ht hn HE HK B0
      subst ht
      have HN := Lib.hid (fun W => iNumText n W (by omega) (by omega))
      clear hok
      go_enter Tryd.func21, Tryd.ntmps21
      go_wp2_with fail
      refine (HO.out _).mono ?_
      rintro e w1 ⟨rfl, b1⟩
      have B1 := below_then B0 b1 B0.size
      obtain ⟨p0, p1, p2⟩ := HK.out _ b1
      clear b1
      go_wp2_with fail
      refine (HN.out _ (HTB.out.below B1)).mono ?_
      rintro e w2 ⟨rfl, b2⟩
      have B2 := below_then B1 b2 B1.size
      clear b2 p0 p1 p2
      go_wp2
      go_ret
      exact ⟨ret_str HE.out.symm, B2⟩
    · have hsz := okV_size hok ht
      rw [if_neg ht] at HE
      obtain ⟨t, n, s⟩ := v
      simp only at ht hsz HE HK B0
      have htb : (t == 1) = false := by simpa using ht
      have hno : ¬ 9223372036854775807 < 1 + s.size := by omega
      clear hok ht
      go_enter Tryd.func21, Tryd.ntmps21
      go_wp2_with fail
      refine (HO.out _).mono ?_
      rintro e w1 ⟨rfl, b1⟩
      have B1 := below_then B0 b1 B0.size
      obtain ⟨p0, p1, p2⟩ := HK.out _ b1
      clear b1
      go_wp2
      go_ret
      exact ⟨ret_str HE.out.symm, B1⟩

theorem parseV_mark (r : List UInt8) : parseV ⟨(39 :: r).toArray⟩ = if okV ⟨2, 0, ⟨r.toArray⟩⟩ = true then (⟨2, 0, ⟨r.toArray⟩⟩, true) else (V.zero, false) := by
  have e : (⟨(39 :: r).toArray⟩ : ByteArray).extract 1 (⟨(39 :: r).toArray⟩ : ByteArray).size = ⟨r.toArray⟩ := by
    apply ByteArray.ext
    apply Array.toList_inj.1
    simp [ByteArray.size]
  have hg : guessV ⟨(39 :: r).toArray⟩ = ⟨2, 0, ⟨r.toArray⟩⟩ := by
    unfold guessV
    rw [if_pos ⟨by simp [ByteArray.size], by simp⟩, e]
  unfold parseV
  rw [hg]
  cases h : okV ⟨2, 0, ⟨r.toArray⟩⟩ with
  | true =>
    rw [if_pos rfl, if_pos]
    refine ⟨by simp [ByteArray.size], ?_⟩
    unfold valText
    rw [if_pos h, if_neg (show ¬ (2 : Int) = 1 by decide)]
    apply ByteArray.ext
    apply Array.toList_inj.1
    simp
  | false =>
    rw [if_neg (show ¬ false = true by simp), if_neg]
    rintro ⟨_, h2⟩
    unfold valText at h2
    rw [if_neg (by rw [h]; simp)] at h2
    have := congrArg ByteArray.size h2
    simp [ByteArray.size] at this
theorem parseV_num {l : List UInt8} (hh : ¬ l.head? = some 39) {n : Int} (h : Dig.parse l = (n, true)) : parseV ⟨l.toArray⟩ = (⟨1, n, ⟨#[]⟩⟩, true) ∧ okV ⟨1, n, ⟨#[]⟩⟩ = true := by
  have hg : guessV ⟨l.toArray⟩ = ⟨1, n, ⟨#[]⟩⟩ := by
    unfold guessV
    rw [if_neg (fun e => hh (by simpa using e.2))]
    show (⟨1, (Dig.parse l).1, ⟨#[]⟩⟩ : V) = _
    rw [h]
  obtain ⟨h1, h2⟩ := Dig.parse_true h
  have hok : okV ⟨1, n, ⟨#[]⟩⟩ = true := by
    unfold okV
    rw [if_pos rfl]
    simp only [Num.okB_true.2 h2]
    rfl
  refine ⟨?_, hok⟩
  unfold parseV
  rw [hg, if_pos]
  refine ⟨fun e => ?_, ?_⟩
  · have hl : l = [] := by
      apply List.eq_nil_of_length_eq_zero
      simpa [ByteArray.size] using e
    rw [hl] at h1
    rcases Dig.itoa_cases n with ⟨u, _, _, e⟩ | ⟨u, _, e⟩
    · rw [e] at h1
      cases h1
    · rw [e] at h1
      exact Dig.decDigits_ne u h1
  · unfold valText
    rw [if_pos hok, if_pos rfl, h1]
theorem parseV_no {l : List UInt8} (hh : ¬ l.head? = some 39) {n : Int} (h : Dig.parse l = (n, false)) : parseV ⟨l.toArray⟩ = (V.zero, false) := by
  have hn : n = 0 := by
    unfold Dig.parse at h
    split at h
    · split at h
      · split at h
        · simp at h
        · simpa using (congrArg Prod.fst h).symm
      · simpa using (congrArg Prod.fst h).symm
    · simpa using (congrArg Prod.fst h).symm
  subst hn
  have hg : guessV ⟨l.toArray⟩ = ⟨1, 0, ⟨#[]⟩⟩ := by
    unfold guessV
    rw [if_neg (fun e => hh (by simpa using e.2))]
    show (⟨1, (Dig.parse l).1, ⟨#[]⟩⟩ : V) = _
    rw [h]
  unfold parseV
  rw [hg, if_neg]
  rintro ⟨_, h2⟩
  unfold valText at h2
  rw [if_pos (by decide), if_pos rfl] at h2
  have e : Lib.itoa 0 = l := by
    have := congrArg (fun b : ByteArray => b.data.toList) h2
    simpa using this
  have h3 := Dig.parse_itoa_ok (n := 0) (Num.okB_true.1 (by decide))
  rw [e, h] at h3
  simp at h3

theorem okV_zero : okV V.zero = false := by decide

/-- What CutPrefix(s, the mark) returns. -/
theorem iCut (l : List UInt8) (W : World) : Calls Tryd.prog 40 #[.string ⟨l.toArray⟩, .string ⟨#[39]⟩] W fun e w' => e = .returned (.tuple #[.string ⟨(if l.head? = some 39 then l.drop 1 else l).toArray⟩, .bool (decide (l.head? = some 39))]) ∧ W = w' := by
  have e1 : Lib.hasPrefix l [39] = decide (l.head? = some 39) := by
    unfold Lib.hasPrefix
    cases l with
    | nil => rfl
    | cons c r =>
      rw [Bool.eq_iff_iff]
      simp [List.isPrefixOf]
      exact eq_comm
  have e2 : Lib.trimPrefix l [39] = if l.head? = some 39 then l.drop 1 else l := by
    unfold Lib.trimPrefix
    rw [e1]
    by_cases h : l.head? = some 39 <;> simp [h]
  refine (Tryd.strings_CutPrefix ⟨l.toArray⟩ ⟨#[39]⟩ W).mono ?_
  rintro e w' ⟨rfl, rfl⟩
  refine ⟨?_, rfl⟩
  rw [← e1, ← e2]

theorem Held.put {W : World} {b : Nat} {v : V} (h : Held W b v) (t n : Int) (s : ByteArray) : Held (((W.setCell ⟨b, 0, none⟩ (.int .i64 t)).setCell ⟨b, 1, none⟩ (.int .i64 n)).setCell ⟨b, 2, none⟩ (.string s)) b ⟨t, n, s⟩ := by
  refine ⟨⟨?_, ?_, ?_⟩, ?_, ?_, ?_⟩
  · rw [World.cell?_setCell_other _ _ _ _ (by simp), World.cell?_setCell_other _ _ _ _ (by simp)]
    exact World.cell?_setCell_same _ _ _ h.1.1
  · rw [World.cell?_setCell_other _ _ _ _ (by simp)]
    exact World.cell?_setCell_same _ _ _ (by rw [World.cell?_setCell_other _ _ _ _ (by simp)]; exact h.1.2.1)
  · exact World.cell?_setCell_same _ _ _ (by rw [World.cell?_setCell_other _ _ _ _ (by simp), World.cell?_setCell_other _ _ _ _ (by simp)]; exact h.1.2.2)
  · rw [World.frozen?_setCell, World.frozen?_setCell, World.frozen?_setCell]; exact h.2.1
  · rw [World.frozen?_setCell, World.frozen?_setCell, World.frozen?_setCell]; exact h.2.2.1
  · rw [World.frozen?_setCell, World.frozen?_setCell, World.frozen?_setCell]; exact h.2.2.2

set_option maxHeartbeats 1000000 in
theorem iParseVal (s : ByteArray) (w : World) (hs : s.size ≤ maxLen) (hT : Tab w) (hY : Syn w) :
    Calls Tryd.prog 26 #[.string s] w fun e w' => e = .returned (.tuple #[(parseV s).1.agg, .bool (parseV s).2]) ∧ Below w.heap.size w w' := by
  obtain ⟨⟨l⟩⟩ := s
  have hl : l.length ≤ maxLen := by simpa [ByteArray.size] using hs
  have hl2 : l.length ≤ 9223372036854775807 := Nat.le_trans hl (by decide)
  clear hs
  have Z1 := (held_new w V.zero 42).below (below_alloc _ (.cells #[.int .i64 0, .int .i64 0, .string ⟨#[]⟩] 42))
  have Z2 := held_new (w.alloc (.cells #[.int .i64 0, .int .i64 0, .string ⟨#[]⟩] 42)) V.zero 42
  have B0 := below_alloc2 w (.cells #[.int .i64 0, .int .i64 0, .string ⟨#[]⟩] 42) (.cells #[.int .i64 0, .int .i64 0, .string ⟨#[]⟩] 42)
  simp only [V.zero] at Z1 Z2
  rw [World.size_alloc] at Z2
  have HCP := Lib.hid (fun W => iCut l W)
  by_cases hq : l.head? = some 39
  · rw [if_pos hq, decide_eq_true hq] at HCP
    obtain ⟨r, rfl⟩ : ∃ r, l = 39 :: r := by
      cases l with
      | nil => cases hq
      | cons c r => exact ⟨r, by rw [Option.some.inj hq]⟩
    rw [List.drop_succ_cons, List.drop_zero] at HCP
    have HE := Lib.hid (parseV_mark r)
    have hz : (⟨r.toArray⟩ : ByteArray).size ≤ maxLen := by
      have : r.length ≤ maxLen := by simp at hl; omega
      simpa [ByteArray.size] using this
    have HO := Lib.hid (fun W => iValOk ⟨2, 0, ⟨r.toArray⟩⟩ W hz)
    generalize (⟨(39 :: r).toArray⟩ : ByteArray) = s at HCP HE ⊢
    generalize (⟨r.toArray⟩ : ByteArray) = z at HCP HE HO
    have HA := Lib.hid (fun W => iTextVal z W)
    clear hq hl hl2 hz hT hY
    cases hok : okV ⟨2, 0, z⟩ with
    | true =>
      rw [hok, if_pos rfl] at HE
      rw [hok] at HO
      rw [HE.out]
      clear hok
      go_enter Tryd.func26, Tryd.ntmps26
      go_wp2_with (go_at_call 40; refine (HCP.out _).mono ?_; rintro e w' ⟨rfl, rfl⟩)
      refine (HA.out _).mono ?_
      rintro e w1 ⟨rfl, b1⟩
      have B1 := below_then B0 b1 B0.size
      have Y1 := Z1.below b1
      have Y2 := Z2.below b1
      have X1 := ((Y1.other (p := ⟨w.heap.size + 1, 0, none⟩) (by simp) (.int .i64 2)).other (p := ⟨w.heap.size + 1, 1, none⟩) (by simp) (.int .i64 0)).other (p := ⟨w.heap.size + 1, 2, none⟩) (by simp) (.string z)
      have X2 := Y2.put 2 0 z
      have B2 := ((B1.setCell (p := ⟨w.heap.size + 1, 0, none⟩) (by simp) (.int .i64 2)).setCell (p := ⟨w.heap.size + 1, 1, none⟩) (by simp) (.int .i64 0)).setCell (p := ⟨w.heap.size + 1, 2, none⟩) (by simp) (.string z)
      obtain ⟨⟨q0, q1, q2⟩, q3, q4, q5⟩ := Y2
      simp only at q0 q1 q2 X2
      clear b1 Z1 Z2 B0 Y1 B1
      go_wp2_with fail
      refine (HO.out _).mono ?_
      rintro e w2 ⟨rfl, b2⟩
      have B3 := below_then B2 b2 B2.size
      obtain ⟨⟨p0, p1, p2⟩, p3, p4, p5⟩ := X1.below b2
      obtain ⟨⟨r0, r1, r2⟩, r3, r4, r5⟩ := X2.below b2
      simp only at p0 p1 p2 r0 r1 r2
      clear b2 X1 X2 B2 q0 q1 q2 q3 q4 q5
      go_wp2
      exact bodyPost_ret (v := .tuple #[.agg #[.int .i64 2, .int .i64 0, .string z], .bool true]) (by simp [results, Tryd.results26, go_sem, *]) rfl ⟨rfl, ((B3.setCell (by simp) _).setCell (by simp) _).setCell (by simp) _⟩
    | false =>
      rw [hok, if_neg (by simp)] at HE
      rw [hok] at HO
      rw [HE.out]
      clear hok
      go_enter Tryd.func26, Tryd.ntmps26
      go_wp2_with (go_at_call 40; refine (HCP.out _).mono ?_; rintro e w' ⟨rfl, rfl⟩)
      refine (HA.out _).mono ?_
      rintro e w1 ⟨rfl, b1⟩
      have B1 := below_then B0 b1 B0.size
      have Y1 := Z1.below b1
      have Y2 := Z2.below b1
      have X1 := ((Y1.other (p := ⟨w.heap.size + 1, 0, none⟩) (by simp) (.int .i64 2)).other (p := ⟨w.heap.size + 1, 1, none⟩) (by simp) (.int .i64 0)).other (p := ⟨w.heap.size + 1, 2, none⟩) (by simp) (.string z)
      have X2 := Y2.put 2 0 z
      have B2 := ((B1.setCell (p := ⟨w.heap.size + 1, 0, none⟩) (by simp) (.int .i64 2)).setCell (p := ⟨w.heap.size + 1, 1, none⟩) (by simp) (.int .i64 0)).setCell (p := ⟨w.heap.size + 1, 2, none⟩) (by simp) (.string z)
      obtain ⟨⟨q0, q1, q2⟩, q3, q4, q5⟩ := Y2
      simp only at q0 q1 q2 X2
      clear b1 Z1 Z2 B0 Y1 B1
      go_wp2_with fail
      refine (HO.out _).mono ?_
      rintro e w2 ⟨rfl, b2⟩
      have B3 := below_then B2 b2 B2.size
      obtain ⟨⟨p0, p1, p2⟩, p3, p4, p5⟩ := X1.below b2
      obtain ⟨⟨r0, r1, r2⟩, r3, r4, r5⟩ := X2.below b2
      simp only at p0 p1 p2 r0 r1 r2
      clear b2 X1 X2 B2 q0 q1 q2 q3 q4 q5
      go_wp2
      exact bodyPost_ret (v := .tuple #[.agg #[.int .i64 0, .int .i64 0, .string ⟨#[]⟩], .bool false]) (by simp [results, Tryd.results26, go_sem, *]) rfl ⟨rfl, ((B3.setCell (by simp) _).setCell (by simp) _).setCell (by simp) _⟩
  · rw [if_neg hq, decide_eq_false hq] at HCP
    have HP := Lib.hid (fun W => iParseNum l W hl2)
    have HTB := Lib.hid hT
    have HSY := Lib.hid hY
    cases hr : Dig.parse l with
    | mk n ok =>
      rw [hr] at HP
      unfold pRes at HP
      cases ok with
      | true =>
        obtain ⟨h1, h2⟩ := parseV_num hq hr
        have HE := Lib.hid h1
        have HA := Lib.hid (fun W => iIntVal n W)
        have HO := Lib.hid (fun W => iValOk ⟨1, n, ⟨#[]⟩⟩ W (Nat.zero_le _))
        rw [h2] at HO
        rw [HE.out]
        generalize (⟨l.toArray⟩ : ByteArray) = s at HCP HP
        clear hq hl hl2 hr h1 h2 hT hY
        go_enter Tryd.func26, Tryd.ntmps26
        go_wp2_with (go_at_call 40; refine (HCP.out _).mono ?_; rintro e w' ⟨rfl, rfl⟩)
        refine (HP.out _ (HTB.out.below B0) (HSY.out.below B0)).mono ?_
        rintro e w0 ⟨rfl, b0⟩
        replace B0 := below_then B0 b0 B0.size
        replace Z1 := Z1.below b0
        replace Z2 := Z2.below b0
        clear b0
        go_wp2_with fail
        refine (HA.out _).mono ?_
        rintro e w1 ⟨rfl, b1⟩
        have B1 := below_then B0 b1 B0.size
        have Y1 := Z1.below b1
        have Y2 := Z2.below b1
        have X1 := ((Y1.other (p := ⟨w.heap.size + 1, 0, none⟩) (by simp) (.int .i64 1)).other (p := ⟨w.heap.size + 1, 1, none⟩) (by simp) (.int .i64 n)).other (p := ⟨w.heap.size + 1, 2, none⟩) (by simp) (.string ⟨#[]⟩)
        have X2 := Y2.put 1 n ⟨#[]⟩
        have B2 := ((B1.setCell (p := ⟨w.heap.size + 1, 0, none⟩) (by simp) (.int .i64 1)).setCell (p := ⟨w.heap.size + 1, 1, none⟩) (by simp) (.int .i64 n)).setCell (p := ⟨w.heap.size + 1, 2, none⟩) (by simp) (.string ⟨#[]⟩)
        obtain ⟨⟨q0, q1, q2⟩, q3, q4, q5⟩ := Y2
        simp only at q0 q1 q2 X2
        clear b1 Z1 Z2 B0 Y1 B1
        go_wp2_with fail
        refine (HO.out _).mono ?_
        rintro e w2 ⟨rfl, b2⟩
        have B3 := below_then B2 b2 B2.size
        obtain ⟨⟨p0, p1, p2⟩, p3, p4, p5⟩ := X1.below b2
        obtain ⟨⟨r0, r1, r2⟩, r3, r4, r5⟩ := X2.below b2
        simp only at p0 p1 p2 r0 r1 r2
        clear b2 X1 X2 B2 q0 q1 q2 q3 q4 q5
        go_wp2
        exact bodyPost_ret (v := .tuple #[.agg #[.int .i64 1, .int .i64 n, .string ⟨#[]⟩], .bool true]) (by simp [results, Tryd.results26, go_sem, *]) rfl ⟨rfl, ((B3.setCell (by simp) _).setCell (by simp) _).setCell (by simp) _⟩
      | false =>
        have HE := Lib.hid (parseV_no hq hr)
        have HO := Lib.hid (fun W => iValOk V.zero W (Nat.zero_le _))
        rw [okV_zero] at HO
        rw [HE.out]
        generalize (⟨l.toArray⟩ : ByteArray) = s at HCP HP
        clear hq hl hl2 hr hT hY
        go_enter Tryd.func26, Tryd.ntmps26
        go_wp2_with (go_at_call 40; refine (HCP.out _).mono ?_; rintro e w' ⟨rfl, rfl⟩)
        refine (HP.out _ (HTB.out.below B0) (HSY.out.below B0)).mono ?_
        rintro e w0 ⟨rfl, b0⟩
        replace B0 := below_then B0 b0 B0.size
        have Y1 := Z1.below b0
        have Y2 := Z2.below b0
        have Y3 := Y2
        obtain ⟨⟨q0, q1, q2⟩, q3, q4, q5⟩ := Y3
        simp only at q0 q1 q2
        clear b0 Z1 Z2
        go_wp2_with fail
        refine (HO.out _).mono ?_
        rintro e w2 ⟨rfl, b2⟩
        have B3 := below_then B0 b2 B0.size
        obtain ⟨⟨p0, p1, p2⟩, p3, p4, p5⟩ := Y1.below b2
        obtain ⟨⟨r0, r1, r2⟩, r3, r4, r5⟩ := Y2.below b2
        simp only at p0 p1 p2 r0 r1 r2
        clear b2 Y1 Y2 B0 q0 q1 q2 q3 q4 q5
        go_wp2
        exact bodyPost_ret (v := .tuple #[.agg #[.int .i64 0, .int .i64 0, .string ⟨#[]⟩], .bool false]) (by simp [results, Tryd.results26, go_sem, *]) rfl ⟨rfl, ((B3.setCell (by simp) _).setCell (by simp) _).setCell (by simp) _⟩

end Go.Proofs.YtdclbpbjdaefhaaDoor
