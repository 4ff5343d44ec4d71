/- The contracts of the model's ValText and ParseVal. -/
import Derived.Test.YtdclbpbjdaefhaaDoorVOk
import Derived.Test.YtdclbpbjdaefhaaDoorDSyn
namespace Go.Proofs.YtdclbpbjdaefhaaDoor
open Go.RowKit

/-- ValText. -/
def valText (v : V) : ByteArray := if okV v = true then (if v.ty = 1 then ⟨(Lib.itoa v.n).toArray⟩ else (⟨#[39]⟩ ++ v.s)) else ⟨#[]⟩
theorem ret_str {a b : ByteArray} (h : a = b) : Ending.returned (.string a) = .returned (.string b) := by rw [h]
theorem okV_size {v : V} (h : okV v = true) (ht : ¬ v.ty = 1) : v.s.size ≤ 6 := by
  unfold okV txtB at h
  rw [if_neg ht] at h
  simp only [Bool.and_eq_true, decide_eq_true_eq] at h
  exact h.2.2.1
theorem okV_num {v : V} (h : okV v = true) (ht : v.ty = 1) : -1000000000 ≤ v.n ∧ v.n ≤ 1000000000 := by
  unfold okV at h
  rw [if_pos ht] at h
  simp only [Bool.and_eq_true] at h
  exact Num.okB_true.1 h.1
theorem kept_box {w : World} {v : V} {e : TypeId} {W : World} (hb : Below (w.alloc (.cells #[.int .i64 v.ty, .int .i64 v.n, .string v.s] e)).heap.size (w.alloc (.cells #[.int .i64 v.ty, .int .i64 v.n, .string v.s] e)) W) :
    W.cell? ⟨w.heap.size, 0, none⟩ = some (.int .i64 v.ty) ∧ W.cell? ⟨w.heap.size, 1, none⟩ = some (.int .i64 v.n) ∧ W.cell? ⟨w.heap.size, 2, none⟩ = some (.string v.s) := by
  refine ⟨(hb.cell (p := ⟨w.heap.size, 0, none⟩) (by simp)).trans ?_, (hb.cell (p := ⟨w.heap.size, 1, none⟩) (by simp)).trans ?_, (hb.cell (p := ⟨w.heap.size, 2, none⟩) (by simp)).trans ?_⟩ <;> simp

set_option maxHeartbeats 400000 in
theorem sValText (v : V) (w : World) (hs : v.s.size ≤ maxLen) : Calls Tryd.prog 17 #[v.agg] w fun e w' => e = .returned (.string (valText v)) ∧ Below w.heap.size w w' := by
  have HO := Lib.hid (fun W => sValOk v W hs)
  have B0 := below_alloc w (.cells #[.int .i64 v.ty, .int .i64 v.n, .string v.s] 42)
  have HK := Lib.hid (fun (W : World) => kept_box (w := w) (v := v) (e := 42) (W := W))
  cases hok : okV v with
  | false =>
    have HE : Hid (valText v = ⟨#[]⟩) := if_neg (by rw [hok]; simp)
    rw [hok] at HO
    obtain ⟨t, n, s⟩ := v
    clear hok HK
    go_enter Tryd.func17, Tryd.ntmps17
    go_wp2_with fail
    refine (HO.out _).mono ?_
    rintro e w1 ⟨rfl, b1⟩
    have B1 := below_then B0 b1 B0.size
    clear b1
    go_wp2
    go_ret
    exact ⟨ret_str HE.out.symm, B1⟩
  | true =>
    have HE : Hid (valText v = if v.ty = 1 then ⟨(Lib.itoa v.n).toArray⟩ else (⟨#[39]⟩ ++ v.s)) := if_pos hok
    rw [hok] at HO
    by_cases ht : v.ty = 1
    · have hn := okV_num hok ht
      rw [if_pos ht] at HE
      obtain ⟨t, n, s⟩ := v
      simp only at ht hn HE HK B0
      subst ht
      have HN := Lib.hid (fun W => sNumText n W (by omega) (by omega))
      clear hok
      go_enter Tryd.func17, Tryd.ntmps17
      go_wp2_with fail
      refine (HO.out _).mono ?_
      rintro e w1 ⟨rfl, b1⟩
      have B1 := below_then B0 b1 B0.size
      obtain ⟨p0, p1, p2⟩ := HK.out _ b1
      clear b1
      go_wp2_with fail
      refine (HN.out _).mono ?_
      rintro e w2 ⟨rfl, b2⟩
      have B2 := below_then B1 b2 B1.size
      clear b2 p0 p1 p2
      go_wp2
      go_ret
      exact ⟨ret_str HE.out.symm, B2⟩
    · have hsz := okV_size hok ht
      rw [if_neg ht] at HE
      obtain ⟨t, n, s⟩ := v
      simp only at ht hsz HE HK B0
      have htb : (t == 1) = false := by simpa using ht
      have hno : ¬ 9223372036854775807 < 1 + s.size := by omega
      clear hok ht
      go_enter Tryd.func17, Tryd.ntmps17
      go_wp2_with fail
      refine (HO.out _).mono ?_
      rintro e w1 ⟨rfl, b1⟩
      have B1 := below_then B0 b1 B0.size
      obtain ⟨p0, p1, p2⟩ := HK.out _ b1
      clear b1
      go_wp2
      go_ret
      exact ⟨ret_str HE.out.symm, B1⟩

/-- What ParseVal takes a text for. -/
def guessV (s : ByteArray) : V := if 0 < s.size ∧ s.data.toList.head? = some 39 then ⟨2, 0, s.extract 1 s.size⟩ else ⟨1, (Dig.parse s.data.toList).1, ⟨#[]⟩⟩
/-- ParseVal. -/
def parseV (s : ByteArray) : V × Bool := if ¬ s.size = 0 ∧ valText (guessV s) = s then (guessV s, true) else (V.zero, false)

theorem str_ne {a b : ByteArray} (h : ¬ a = b) : (a.toList == b.toList) = false := by
  have : ¬ a.toList = b.toList := fun e => h (by
    rw [ByteArray.toList_eq, ByteArray.toList_eq] at e
    apply ByteArray.ext
    exact Array.toList_inj.1 e)
  simpa using this
/-- A Val in a block of the call's own. -/
def Held (W : World) (b : Nat) (v : V) : Prop :=
  (W.cell? ⟨b, 0, none⟩ = some (.int .i64 v.ty) ∧ W.cell? ⟨b, 1, none⟩ = some (.int .i64 v.n) ∧ W.cell? ⟨b, 2, none⟩ = some (.string v.s)) ∧
  W.frozen? ⟨b, 0, none⟩ = false ∧ W.frozen? ⟨b, 1, none⟩ = false ∧ W.frozen? ⟨b, 2, none⟩ = false
theorem Held.below {W W' : World} {b : Nat} {v : V} (h : Held W b v) (hb : Below W.heap.size W W') : Held W' b v := by
  have hlt := lt_of_cell h.1.1
  exact ⟨⟨(hb.cell (p := ⟨b, 0, none⟩) hlt).trans h.1.1, (hb.cell (p := ⟨b, 1, none⟩) hlt).trans h.1.2.1, (hb.cell (p := ⟨b, 2, none⟩) hlt).trans h.1.2.2⟩,
    (hb.frozen (p := ⟨b, 0, none⟩) hlt).trans h.2.1, (hb.frozen (p := ⟨b, 1, none⟩) hlt).trans h.2.2.1, (hb.frozen (p := ⟨b, 2, none⟩) hlt).trans h.2.2.2⟩
theorem held_new (w : World) (v : V) (e : TypeId) : Held (w.alloc (.cells #[.int .i64 v.ty, .int .i64 v.n, .string v.s] e)) w.heap.size v :=
  ⟨⟨by simp, by simp, by simp⟩, by simp, by simp, by simp⟩

theorem Held.other {W : World} {b : Nat} {v : V} (h : Held W b v) {p : Addr} (hp : p.block ≠ b) (u : Value) : Held (W.setCell p u) b v := by
  have hne : ∀ o, p ≠ ⟨b, o, none⟩ := fun o e => hp (by rw [e])
  refine ⟨⟨?_, ?_, ?_⟩, ?_, ?_, ?_⟩
  · rw [World.cell?_setCell_other _ _ _ _ (hne 0)]; exact h.1.1
  · rw [World.cell?_setCell_other _ _ _ _ (hne 1)]; exact h.1.2.1
  · rw [World.cell?_setCell_other _ _ _ _ (hne 2)]; exact h.1.2.2
  · rw [World.frozen?_setCell]; exact h.2.1
  · rw [World.frozen?_setCell]; exact h.2.2.1
  · rw [World.frozen?_setCell]; exact h.2.2.2
theorem Held.setN {W : World} {b : Nat} {v : V} (h : Held W b v) (n : Int) : Held (W.setCell ⟨b, 1, none⟩ (.int .i64 n)) b ⟨v.ty, n, v.s⟩ := by
  refine ⟨⟨?_, ?_, ?_⟩, ?_, ?_, ?_⟩
  · rw [World.cell?_setCell_other _ _ _ _ (by simp)]; exact h.1.1
  · exact World.cell?_setCell_same _ _ _ h.1.2.1
  · rw [World.cell?_setCell_other _ _ _ _ (by simp)]; exact h.1.2.2
  · rw [World.frozen?_setCell]; exact h.2.1
  · rw [World.frozen?_setCell]; exact h.2.2.1
  · rw [World.frozen?_setCell]; exact h.2.2.2

set_option maxHeartbeats 1000000 in
theorem sParseVal (s : ByteArray) (w : World) (hs : s.size ≤ maxLen) :
    Calls Tryd.prog 24 #[.string s] w fun e w' => e = .returned (.tuple #[(parseV s).1.agg, .bool (parseV s).2]) ∧ Below w.heap.size w w' := by
  have hs2 := hs
  unfold maxLen at hs
  have Z0 := held_new w V.zero 42
  have Z1 := Z0.below (below_alloc _ (.cells #[.int .i64 1, .int .i64 0, .string ⟨#[]⟩] 42))
  have Z2 := held_new (w.alloc (.cells #[.int .i64 0, .int .i64 0, .string ⟨#[]⟩] 42)) ⟨1, 0, ⟨#[]⟩⟩ 42
  have B0 := below_alloc2 w (.cells #[.int .i64 0, .int .i64 0, .string ⟨#[]⟩] 42) (.cells #[.int .i64 1, .int .i64 0, .string ⟨#[]⟩] 42)
  simp only [V.zero] at Z1
  rw [World.size_alloc] at Z2
  clear Z0
  by_cases h0 : s.size = 0
  · obtain rfl : s = ⟨#[]⟩ := by
      apply ByteArray.ext
      exact Array.eq_empty_of_size_eq_zero h0
    have HE : Hid (parseV ⟨#[]⟩ = (V.zero, false)) := if_neg (fun h => h.1 rfl)
    have HP := Lib.hid (fun W => sParseNum ⟨#[]⟩ W (by decide))
    generalize Dig.parse (⟨#[]⟩ : ByteArray).data.toList = r at HP
    obtain ⟨n, ok⟩ := r
    unfold pRes at HP
    rw [HE.out]
    clear h0 hs hs2
    go_enter Tryd.func24, Tryd.ntmps24
    go_wp2_with fail
    refine (HP.out _).mono ?_
    rintro e w1 ⟨rfl, b1⟩
    have B1 := below_then B0 b1 B0.size
    obtain ⟨⟨p0, p1, p2⟩, p3, p4, p5⟩ := Z1.below b1
    obtain ⟨⟨q0, q1, q2⟩, q3, q4, q5⟩ := Z2.below b1
    simp only at p0 p1 p2 q0 q1 q2
    clear b1 Z1 Z2 B0
    go_wp2
    exact bodyPost_ret (v := .tuple #[.agg #[.int .i64 0, .int .i64 0, .string ⟨#[]⟩], .bool false]) (by simp [results, Tryd.results24, go_sem, *]) rfl ⟨rfl, (((B1.setCell (by simp) _).setCell (by simp) _).setCell (by simp) _).setCell (by simp) _⟩
  · have hsb : ¬ s.toList = [] := fun e => h0 (size_of_toList e)
    have hsb2 : (s.toList == []) = false := by simpa using hsb
    have hpos : 0 < s.size := by omega
    by_cases hq : s.data.toList.head? = some 39
    · have HG : Hid (guessV s = ⟨2, 0, s.extract 1 s.size⟩) := if_pos ⟨hpos, hq⟩
      have hc0 : ((s[0].toNat : Int) == 39) = true := by
        have : s[0] = 39 := by
          have e : s.data.toList.head? = some s.data.toList[0] := by rw [List.head?_eq_getElem?, List.getElem?_eq_getElem]
          rw [e] at hq
          exact Option.some.inj hq
        rw [this]
        rfl
      have hsz : (s.extract 1 s.size).size ≤ maxLen := Nat.le_trans (by simp) hs2
      have HV := Lib.hid (fun W => sValText ⟨2, 0, s.extract 1 s.size⟩ W hsz)
      have HE : Hid (parseV s = if valText ⟨2, 0, s.extract 1 s.size⟩ = s then (⟨2, 0, s.extract 1 s.size⟩, true) else (V.zero, false)) := by
        show parseV s = _
        unfold parseV
        rw [HG.out]
        simp [h0]
      have Y1 := (held_new w V.zero 42).below (below_alloc _ (.cells #[.int .i64 2, .int .i64 0, .string (s.extract 1 s.size)] 42))
      have Y2 := held_new (w.alloc (.cells #[.int .i64 0, .int .i64 0, .string ⟨#[]⟩] 42)) ⟨2, 0, s.extract 1 s.size⟩ 42
      have B1 := below_alloc2 w (.cells #[.int .i64 0, .int .i64 0, .string ⟨#[]⟩] 42) (.cells #[.int .i64 2, .int .i64 0, .string (s.extract 1 s.size)] 42)
      simp only [V.zero] at Y1
      rw [World.size_alloc] at Y2
      generalize valText ⟨2, 0, s.extract 1 s.size⟩ = x at HV HE
      generalize hz : s.extract 1 s.size = z at HV HE Y1 Y2 B1
      clear hq Z1 Z2 B0 hsz
      by_cases hx : x = s
      · subst hx
        rw [if_pos rfl] at HE
        rw [HE.out]
        have hxx : (x.toList != x.toList) = false := by simp
        go_enter Tryd.func24, Tryd.ntmps24
        go_wp2_with fail
        refine (HV.out _).mono ?_
        rintro e w2 ⟨rfl, b2⟩
        have B3 := below_then B1 b2 B1.size
        obtain ⟨⟨p0, p1, p2⟩, p3, p4, p5⟩ := Y1.below b2
        obtain ⟨⟨r0, r1, r2⟩, r3, r4, r5⟩ := Y2.below b2
        simp only at p0 p1 p2 r0 r1 r2
        clear b2 Y1 Y2 B1
        go_wp2
        exact bodyPost_ret (v := .tuple #[.agg #[.int .i64 2, .int .i64 0, .string z], .bool true]) (by simp [results, Tryd.results24, go_sem, *]) rfl ⟨rfl, ((B3.setCell (by simp) _).setCell (by simp) _).setCell (by simp) _⟩
      · rw [if_neg hx] at HE
        rw [HE.out]
        have hxx : (x.toList == s.toList) = false := str_ne hx
        go_enter Tryd.func24, Tryd.ntmps24
        go_wp2_with fail
        refine (HV.out _).mono ?_
        rintro e w2 ⟨rfl, b2⟩
        have B3 := below_then B1 b2 B1.size
        obtain ⟨⟨p0, p1, p2⟩, p3, p4, p5⟩ := Y1.below b2
        obtain ⟨⟨r0, r1, r2⟩, r3, r4, r5⟩ := Y2.below b2
        simp only at p0 p1 p2 r0 r1 r2
        clear b2 Y1 Y2 B1
        go_wp2
        exact bodyPost_ret (v := .tuple #[.agg #[.int .i64 0, .int .i64 0, .string ⟨#[]⟩], .bool false]) (by simp [results, Tryd.results24, go_sem, *]) rfl ⟨rfl, ((B3.setCell (by simp) _).setCell (by simp) _).setCell (by simp) _⟩
    · have HG : Hid (guessV s = ⟨1, (Dig.parse s.data.toList).1, ⟨#[]⟩⟩) := if_neg (fun h => hq h.2)
      have hc0 : ((s[0].toNat : Int) == 39) = false := by
        have : ¬ s[0] = 39 := fun e => hq (by
          rw [← e]
          show s.data.toList.head? = some s.data.toList[0]
          rw [List.head?_eq_getElem?, List.getElem?_eq_getElem])
        have h2 : ¬ (s[0].toNat : Int) = 39 := fun e => this (by
          apply UInt8.toNat_inj.1
          exact Int.ofNat.inj e)
        simpa using h2
      have HP := Lib.hid (fun W => sParseNum s W (by omega))
      have HV := Lib.hid (fun n W => sValText ⟨1, n, ⟨#[]⟩⟩ W (Nat.zero_le _))
      generalize Dig.parse s.data.toList = r at HP HG
      obtain ⟨n, ok⟩ := r
      unfold pRes at HP
      simp only at HG HP
      have HV := Lib.hid (fun W => HV.out n W)
      have HE : Hid (parseV s = if valText ⟨1, n, ⟨#[]⟩⟩ = s then (⟨1, n, ⟨#[]⟩⟩, true) else (V.zero, false)) := by
        show parseV s = _
        unfold parseV
        rw [HG.out]
        simp [h0]
      generalize valText ⟨1, n, ⟨#[]⟩⟩ = x at HV HE
      clear hq
      by_cases hx : x = s
      · subst hx
        rw [if_pos rfl] at HE
        rw [HE.out]
        have hxx : (x.toList != x.toList) = false := by simp
        go_enter Tryd.func24, Tryd.ntmps24
        go_wp2_with fail
        refine (HP.out _).mono ?_
        rintro e w1 ⟨rfl, b1⟩
        have B1 := below_then B0 b1 B0.size
        have Y1 := Z1.below b1
        have Y2 := Z2.below b1
        have X1 := Y1.other (p := ⟨w.heap.size + 1, 1, none⟩) (by simp) (.int .i64 n)
        have X2 := Y2.setN n
        have B2 := B1.setCell (p := ⟨w.heap.size + 1, 1, none⟩) (by simp) (.int .i64 n)
        obtain ⟨⟨q0, q1, q2⟩, q3, q4, q5⟩ := Y2
        simp only at q0 q1 q2 X2
        clear b1 Z1 Z2 B0 Y1 B1
        go_wp2_with fail
        refine (HV.out _).mono ?_
        rintro e w2 ⟨rfl, b2⟩
        have B3 := below_then B2 b2 (by have := B2.size; exact this)
        obtain ⟨⟨p0, p1, p2⟩, p3, p4, p5⟩ := X1.below b2
        obtain ⟨⟨r0, r1, r2⟩, r3, r4, r5⟩ := X2.below b2
        simp only at p0 p1 p2 r0 r1 r2
        clear b2 X1 X2 B2 q0 q1 q2 q3 q4 q5
        go_wp2
        exact bodyPost_ret (v := .tuple #[.agg #[.int .i64 1, .int .i64 n, .string ⟨#[]⟩], .bool true]) (by simp [results, Tryd.results24, go_sem, *]) rfl ⟨rfl, ((B3.setCell (by simp) _).setCell (by simp) _).setCell (by simp) _⟩
      · rw [if_neg hx] at HE
        rw [HE.out]
        have hxx : (x.toList == s.toList) = false := str_ne hx
        go_enter Tryd.func24, Tryd.ntmps24
        go_wp2_with fail
        refine (HP.out _).mono ?_
        rintro e w1 ⟨rfl, b1⟩
        have B1 := below_then B0 b1 B0.size
        have Y1 := Z1.below b1
        have Y2 := Z2.below b1
        have X1 := Y1.other (p := ⟨w.heap.size + 1, 1, none⟩) (by simp) (.int .i64 n)
        have X2 := Y2.setN n
        have B2 := B1.setCell (p := ⟨w.heap.size + 1, 1, none⟩) (by simp) (.int .i64 n)
        obtain ⟨⟨q0, q1, q2⟩, q3, q4, q5⟩ := Y2
        simp only at q0 q1 q2 X2
        clear b1 Z1 Z2 B0 Y1 B1
        go_wp2_with fail
        refine (HV.out _).mono ?_
        rintro e w2 ⟨rfl, b2⟩
        have B3 := below_then B2 b2 (by have := B2.size; exact this)
        obtain ⟨⟨p0, p1, p2⟩, p3, p4, p5⟩ := X1.below b2
        obtain ⟨⟨r0, r1, r2⟩, r3, r4, r5⟩ := X2.below b2
        simp only at p0 p1 p2 r0 r1 r2
        clear b2 X1 X2 B2 q0 q1 q2 q3 q4 q5
        go_wp2
        exact bodyPost_ret (v := .tuple #[.agg #[.int .i64 0, .int .i64 0, .string ⟨#[]⟩], .bool false]) (by simp [results, Tryd.results24, go_sem, *]) rfl ⟨rfl, ((B3.setCell (by simp) _).setCell (by simp) _).setCell (by simp) _⟩

end Go.Proofs.YtdclbpbjdaefhaaDoor
