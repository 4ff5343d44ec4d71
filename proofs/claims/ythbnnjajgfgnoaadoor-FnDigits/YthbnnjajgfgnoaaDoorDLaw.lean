/- The law FnDigits, walked. -/
import Derived.Test.YthbnnjajgfgnoaaDoorDDraw
namespace Go.Proofs.YthbnnjajgfgnoaaDoor
open Go.RowKit

theorem big_yes (a : Option Addr) (len cap : Nat) (w : World) (h : 1048576 < len) : Calls Tryd.prog 6 #[.slice a len cap] w fun e w' => e = .returned (.bool true) ∧ w = w' := by
  go_enter Tryd.func6, Tryd.ntmps6
  go_wp2
  go_ret
  exact ⟨ret_bool (decide_eq_true (by omega)), rfl⟩
theorem big_no (a : Option Addr) (len cap : Nat) (w : World) (h : len ≤ 1048576) : Calls Tryd.prog 6 #[.slice a len cap] w fun e w' => e = .returned (.bool false) ∧ w = w' := by
  go_enter Tryd.func6, Tryd.ntmps6
  go_wp2
  go_ret
  exact ⟨ret_bool (decide_eq_false (by omega)), rfl⟩
theorem bytes_of_wf {zs : List Int} (h : ∀ n ∈ zs, (Lit.int .u8 n).wf = true) : Num.Bytes zs := fun x hx => bounds_u8 (h x hx)
theorem Code.In.below {c : Code} {w w' : World} (h : c.In w) (hb : Below w.heap.size w w') : c.In w' := ⟨h.arg.below hb, h.byt, h.small⟩

/-- The program's ParseNum, of a string as such. -/
theorem iParseNum' (s : ByteArray) (w : World) (hl : s.size ≤ 9223372036854775807) (ht : Tab w) (hv : Syn w) :
    Calls Tryd.prog 9 #[.string s] w fun e w' => e = .returned (pRes (Dig.parse s.data.toList)) ∧ Below w.heap.size w w' := by
  obtain ⟨⟨l⟩⟩ := s
  exact iParseNum l w (by simpa [ByteArray.size] using hl) ht hv

set_option maxHeartbeats 1000000 in
theorem lawDigits (c : Code) (w : World) (h : c.len ≤ 1048576 → c.In w) (ht : Tab w) (hv : Syn w) :
    Calls Tryd.prog 3 #[.slice c.a c.len c.cap] w fun e w' => e = .returned (.bool true) ∧ Below w.heap.size w w' := by
  by_cases hbig : 1048576 < c.len
  · go_enter Tryd.func3, Tryd.ntmps3
    go_wp2_with (go_at_call 6; refine (big_yes _ _ _ _ hbig).mono ?_; rintro e w' ⟨rfl, rfl⟩)
    go_ret
    exact ⟨rfl, Below.refl _ _⟩
  · have hin := h (by omega)
    clear h
    go_enter Tryd.func3, Tryd.ntmps3
    go_wp2_with fail
    refine (big_no _ _ _ _ (by omega)).mono ?_
    rintro e w' ⟨rfl, rfl⟩
    go_wp2_with fail
    refine (drawNumText c _ hin).mono ?_
    rintro e w1 ⟨n, rfl, hn, b1⟩
    go_wp2_with fail
    refine (drawParseNum c _ (hin.below b1)).mono ?_
    rintro e w2 ⟨l, rfl, hl, b2⟩
    replace b2 := below_then b1 b2 b1.size
    clear b1 hin
    have HQ2 : Hid ((⟨(Lib.itoa n).toArray⟩ : ByteArray).size ≤ 9223372036854775807) := by
      show (⟨(Lib.itoa n).toArray⟩ : ByteArray).size ≤ 9223372036854775807
      have := itoa_short hn
      simp [ByteArray.size]
      omega
    have HS2 : Hid ((⟨l.toArray⟩ : ByteArray).size ≤ 9223372036854775807) := by
      show (⟨l.toArray⟩ : ByteArray).size ≤ 9223372036854775807
      simp [ByteArray.size]
      omega
    have HI : Hid (∀ m, Dig.parse l = (m, true) → I64 m ∧ (⟨(Lib.itoa m).toArray⟩ : ByteArray) = ⟨l.toArray⟩) := by
      intro m hm
      obtain ⟨h1, h2⟩ := Dig.parse_true hm
      exact ⟨⟨by have := h2.1; omega, by have := h2.2; omega⟩, by rw [h1]⟩
    have HPL0 : Hid (∀ m b, Dig.parse l = (m, b) → Dig.parse (⟨l.toArray⟩ : ByteArray).data.toList = (m, b)) := fun m b h => h
    generalize hS : (⟨l.toArray⟩ : ByteArray) = s at *
    clear hS
    have HN1 : Hid (Num.ok n → Dig.parse (⟨(Lib.itoa n).toArray⟩ : ByteArray).data.toList = (n, true)) := fun h => Dig.parse_itoa_ok h
    have HN0 : Hid (¬ Num.ok n → Dig.parse (⟨(Lib.itoa n).toArray⟩ : ByteArray).data.toList = (0, false)) := fun h => Dig.parse_itoa_no h
    obtain ⟨hn0, hn1⟩ := hn
    generalize hQ : (⟨(Lib.itoa n).toArray⟩ : ByteArray) = q at *
    have HQ := Lib.hid hQ
    clear hQ
    cases hp : Dig.parse l with
    | mk m is =>
      have HPL := Lib.hid (HPL0.out _ _ hp)
      cases is with
      | false =>
        clear hp HI HPL0
        by_cases hlo : n < -1000000000
        · have HPN := Lib.hid (HN0.out (fun h => by have := h.1; omega))
          clear HN0 HN1
          go_wp2_with fail
          refine (iNumText n _ hn0 hn1 (ht.below b2)).mono ?_
          rw [HQ.out]
          rintro e w3 ⟨rfl, b3⟩
          replace b3 := below_then b2 b3 b2.size
          go_wp2_with fail
          refine (iParseNum' q _ HQ2.out (ht.below b3) (hv.below b3)).mono ?_
          rw [HPN.out]; simp only [pRes]
          rintro e w4 ⟨rfl, b4⟩
          replace b4 := below_then b3 b4 b3.size
          go_wp2_with fail
          refine (iParseNum' s _ HS2.out (ht.below b4) (hv.below b4)).mono ?_
          rw [HPL.out]; simp only [pRes]
          rintro e w5 ⟨rfl, b5⟩
          replace b5 := below_then b4 b5 b4.size
          go_wp2_with fail
          refine (sParseNum s _ HS2.out).mono ?_
          rw [HPL.out]; simp only [pRes]
          rintro e w6 ⟨rfl, b6⟩
          replace b6 := below_then b5 b6 b5.size
          go_wp2_with fail
          refine (iNumText n _ hn0 hn1 (ht.below b6)).mono ?_
          rw [HQ.out]
          rintro e w7 ⟨rfl, b7⟩
          replace b7 := below_then b6 b7 b6.size
          go_wp2_with fail
          refine (sNumText n _ hn0 hn1).mono ?_
          rw [HQ.out]
          rintro e w8 ⟨rfl, b8⟩
          replace b8 := below_then b7 b8 b7.size
          go_wp2
          go_ret
          exact ⟨rfl, b8⟩
        · by_cases hhi : 1000000000 < n
          · have HPN := Lib.hid (HN0.out (fun h => by have := h.2; omega))
            have hdd : decide (n ≤ 1000000000) = false := decide_eq_false (by omega)
            clear HN0 HN1
            go_wp2_with fail
            refine (iNumText n _ hn0 hn1 (ht.below b2)).mono ?_
            rw [HQ.out]
            rintro e w3 ⟨rfl, b3⟩
            replace b3 := below_then b2 b3 b2.size
            go_wp2_with fail
            refine (iParseNum' q _ HQ2.out (ht.below b3) (hv.below b3)).mono ?_
            rw [HPN.out]; simp only [pRes]
            rintro e w4 ⟨rfl, b4⟩
            replace b4 := below_then b3 b4 b3.size
            go_wp2_with fail
            refine (iParseNum' s _ HS2.out (ht.below b4) (hv.below b4)).mono ?_
            rw [HPL.out]; simp only [pRes]
            rintro e w5 ⟨rfl, b5⟩
            replace b5 := below_then b4 b5 b4.size
            go_wp2_with fail
            refine (sParseNum s _ HS2.out).mono ?_
            rw [HPL.out]; simp only [pRes]
            rintro e w6 ⟨rfl, b6⟩
            replace b6 := below_then b5 b6 b5.size
            go_wp2_with fail
            refine (iNumText n _ hn0 hn1 (ht.below b6)).mono ?_
            rw [HQ.out]
            rintro e w7 ⟨rfl, b7⟩
            replace b7 := below_then b6 b7 b6.size
            go_wp2_with fail
            refine (sNumText n _ hn0 hn1).mono ?_
            rw [HQ.out]
            rintro e w8 ⟨rfl, b8⟩
            replace b8 := below_then b7 b8 b7.size
            go_wp2
            go_ret
            exact ⟨rfl, b8⟩
          · have HPN := Lib.hid (HN1.out ⟨by omega, by omega⟩)
            clear HN0 HN1
            go_wp2_with fail
            refine (iNumText n _ hn0 hn1 (ht.below b2)).mono ?_
            rw [HQ.out]
            rintro e w3 ⟨rfl, b3⟩
            replace b3 := below_then b2 b3 b2.size
            go_wp2_with fail
            refine (iParseNum' q _ HQ2.out (ht.below b3) (hv.below b3)).mono ?_
            rw [HPN.out]; simp only [pRes]
            rintro e w4 ⟨rfl, b4⟩
            replace b4 := below_then b3 b4 b3.size
            go_wp2_with fail
            refine (iParseNum' s _ HS2.out (ht.below b4) (hv.below b4)).mono ?_
            rw [HPL.out]; simp only [pRes]
            rintro e w5 ⟨rfl, b5⟩
            replace b5 := below_then b4 b5 b4.size
            go_wp2_with fail
            refine (sParseNum s _ HS2.out).mono ?_
            rw [HPL.out]; simp only [pRes]
            rintro e w6 ⟨rfl, b6⟩
            replace b6 := below_then b5 b6 b5.size
            go_wp2_with fail
            refine (iNumText n _ hn0 hn1 (ht.below b6)).mono ?_
            rw [HQ.out]
            rintro e w7 ⟨rfl, b7⟩
            replace b7 := below_then b6 b7 b6.size
            go_wp2_with fail
            refine (sNumText n _ hn0 hn1).mono ?_
            rw [HQ.out]
            rintro e w8 ⟨rfl, b8⟩
            replace b8 := below_then b7 b8 b7.size
            go_wp2
            go_ret
            exact ⟨rfl, b8⟩
      | true =>
        obtain ⟨hm, hms⟩ := HI.out _ hp
        have HM := Lib.hid hms
        clear hp HI HPL0 hms
        by_cases hlo : n < -1000000000
        · have HPN := Lib.hid (HN0.out (fun h => by have := h.1; omega))
          clear HN0 HN1
          go_wp2_with fail
          refine (iNumText n _ hn0 hn1 (ht.below b2)).mono ?_
          rw [HQ.out]
          rintro e w3 ⟨rfl, b3⟩
          replace b3 := below_then b2 b3 b2.size
          go_wp2_with fail
          refine (iParseNum' q _ HQ2.out (ht.below b3) (hv.below b3)).mono ?_
          rw [HPN.out]; simp only [pRes]
          rintro e w4 ⟨rfl, b4⟩
          replace b4 := below_then b3 b4 b3.size
          go_wp2_with fail
          refine (iParseNum' s _ HS2.out (ht.below b4) (hv.below b4)).mono ?_
          rw [HPL.out]; simp only [pRes]
          rintro e w5 ⟨rfl, b5⟩
          replace b5 := below_then b4 b5 b4.size
          go_wp2_with fail
          refine (sParseNum s _ HS2.out).mono ?_
          rw [HPL.out]; simp only [pRes]
          rintro e w6 ⟨rfl, b6⟩
          replace b6 := below_then b5 b6 b5.size
          go_wp2_with fail
          refine (iNumText n _ hn0 hn1 (ht.below b6)).mono ?_
          rw [HQ.out]
          rintro e w7 ⟨rfl, b7⟩
          replace b7 := below_then b6 b7 b6.size
          go_wp2_with fail
          refine (sNumText n _ hn0 hn1).mono ?_
          rw [HQ.out]
          rintro e w8 ⟨rfl, b8⟩
          replace b8 := below_then b7 b8 b7.size
          go_wp2_with fail
          refine (iNumText m _ hm.lo hm.hi (ht.below b8)).mono ?_
          rw [HM.out]
          rintro e w9 ⟨rfl, b9⟩
          replace b9 := below_then b8 b9 b8.size
          go_wp2
          go_ret
          exact ⟨rfl, b9⟩
        · by_cases hhi : 1000000000 < n
          · have HPN := Lib.hid (HN0.out (fun h => by have := h.2; omega))
            have hdd : decide (n ≤ 1000000000) = false := decide_eq_false (by omega)
            clear HN0 HN1
            go_wp2_with fail
            refine (iNumText n _ hn0 hn1 (ht.below b2)).mono ?_
            rw [HQ.out]
            rintro e w3 ⟨rfl, b3⟩
            replace b3 := below_then b2 b3 b2.size
            go_wp2_with fail
            refine (iParseNum' q _ HQ2.out (ht.below b3) (hv.below b3)).mono ?_
            rw [HPN.out]; simp only [pRes]
            rintro e w4 ⟨rfl, b4⟩
            replace b4 := below_then b3 b4 b3.size
            go_wp2_with fail
            refine (iParseNum' s _ HS2.out (ht.below b4) (hv.below b4)).mono ?_
            rw [HPL.out]; simp only [pRes]
            rintro e w5 ⟨rfl, b5⟩
            replace b5 := below_then b4 b5 b4.size
            go_wp2_with fail
            refine (sParseNum s _ HS2.out).mono ?_
            rw [HPL.out]; simp only [pRes]
            rintro e w6 ⟨rfl, b6⟩
            replace b6 := below_then b5 b6 b5.size
            go_wp2_with fail
            refine (iNumText n _ hn0 hn1 (ht.below b6)).mono ?_
            rw [HQ.out]
            rintro e w7 ⟨rfl, b7⟩
            replace b7 := below_then b6 b7 b6.size
            go_wp2_with fail
            refine (sNumText n _ hn0 hn1).mono ?_
            rw [HQ.out]
            rintro e w8 ⟨rfl, b8⟩
            replace b8 := below_then b7 b8 b7.size
            go_wp2_with fail
            refine (iNumText m _ hm.lo hm.hi (ht.below b8)).mono ?_
            rw [HM.out]
            rintro e w9 ⟨rfl, b9⟩
            replace b9 := below_then b8 b9 b8.size
            go_wp2
            go_ret
            exact ⟨rfl, b9⟩
          · have HPN := Lib.hid (HN1.out ⟨by omega, by omega⟩)
            clear HN0 HN1
            go_wp2_with fail
            refine (iNumText n _ hn0 hn1 (ht.below b2)).mono ?_
            rw [HQ.out]
            rintro e w3 ⟨rfl, b3⟩
            replace b3 := below_then b2 b3 b2.size
            go_wp2_with fail
            refine (iParseNum' q _ HQ2.out (ht.below b3) (hv.below b3)).mono ?_
            rw [HPN.out]; simp only [pRes]
            rintro e w4 ⟨rfl, b4⟩
            replace b4 := below_then b3 b4 b3.size
            go_wp2_with fail
            refine (iParseNum' s _ HS2.out (ht.below b4) (hv.below b4)).mono ?_
            rw [HPL.out]; simp only [pRes]
            rintro e w5 ⟨rfl, b5⟩
            replace b5 := below_then b4 b5 b4.size
            go_wp2_with fail
            refine (sParseNum s _ HS2.out).mono ?_
            rw [HPL.out]; simp only [pRes]
            rintro e w6 ⟨rfl, b6⟩
            replace b6 := below_then b5 b6 b5.size
            go_wp2_with fail
            refine (iNumText n _ hn0 hn1 (ht.below b6)).mono ?_
            rw [HQ.out]
            rintro e w7 ⟨rfl, b7⟩
            replace b7 := below_then b6 b7 b6.size
            go_wp2_with fail
            refine (sNumText n _ hn0 hn1).mono ?_
            rw [HQ.out]
            rintro e w8 ⟨rfl, b8⟩
            replace b8 := below_then b7 b8 b7.size
            go_wp2_with fail
            refine (iNumText m _ hm.lo hm.hi (ht.below b8)).mono ?_
            rw [HM.out]
            rintro e w9 ⟨rfl, b9⟩
            replace b9 := below_then b8 b9 b8.size
            go_wp2
            go_ret
            exact ⟨rfl, b9⟩

end Go.Proofs.YthbnnjajgfgnoaaDoor
