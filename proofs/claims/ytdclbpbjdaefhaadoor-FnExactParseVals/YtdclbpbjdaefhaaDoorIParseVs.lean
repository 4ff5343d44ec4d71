/- The contracts of strings.Cut at a blank and of impl's ParseVals. -/
import Derived.Test.YtdclbpbjdaefhaaDoorLaw4T
import Derived.Test.YtdclbpbjdaefhaaDoorIValT
import Derived.Test.YtdclbpbjdaefhaaDoorShelf
import Derived.Lib.IndexLaws
import Derived.Deep.QuietTactic
namespace Go.Proofs.YtdclbpbjdaefhaaDoor
open Go.RowKit

theorem iCutGap (l : List UInt8) (hl : l.length ≤ 1048576) : ∃ (p r : List UInt8) (b : Bool), cuts 32 l = p :: (if b = true then cuts 32 r else []) ∧ p.length ≤ l.length ∧ r.length ≤ l.length ∧ (b = true → r.length < l.length) ∧
    ∀ w : World, Calls Tryd.prog 25 #[.string ⟨l.toArray⟩, .string ⟨#[32]⟩] w fun e w' => e = .returned (.tuple #[.string ⟨p.toArray⟩, .string ⟨r.toArray⟩, .bool b]) ∧ Below w.heap.size w w' := by
  have HX := Lib.hid (fun w : World => Tryd.stringslite_Index_one ⟨l.toArray⟩ 32 w)
  have hdl : (⟨l.toArray⟩ : ByteArray).data.toList = l := rfl
  rw [hdl] at HX
  clear hdl
  by_cases hi : Lib.indexByte l 32 = -1
  · have hno := Lib.indexByte_none hi
    refine ⟨l, [], false, ?_, Nat.le_refl _, Nat.zero_le _, by simp, fun w => ?_⟩
    · rw [cuts_none (fun k hk e => hno k (by rw [List.getElem?_eq_getElem hk, e]))]
      rfl
    · rw [hi] at HX
      generalize (⟨l.toArray⟩ : ByteArray) = s at HX ⊢
      have HY : Hid (Calls Tryd.prog 39 #[.string s, .string ⟨#[32]⟩] w fun e w' => e = .returned (.tuple #[.string s, .string ⟨#[]⟩, .bool false]) ∧ w' = w) := by
        show Calls _ _ _ _ _
        go_enter Tryd.func39, Tryd.ntmps39
        go_wp2_with (go_at_call 51; refine (HX.out _).mono ?_; rintro e w' ⟨rfl, rfl⟩)
        go_ret3
        exact ⟨rfl, rfl⟩
      go_enter Tryd.func25, Tryd.ntmps25
      go_wp2_with (go_at_call 39; refine HY.out.mono ?_; rintro e w' ⟨rfl, rfl⟩)
      go_ret3
      exact ⟨rfl, Below.refl _ _⟩
  · have hge := Lib.indexByte_ge l 32
    obtain ⟨o, ho⟩ : ∃ o : Nat, Lib.indexByte l 32 = o := ⟨(Lib.indexByte l 32).toNat, by omega⟩
    obtain ⟨h1, h2⟩ := Lib.indexByte_some ho
    obtain ⟨hol, hoe⟩ := List.getElem?_eq_some_iff.1 h1
    refine ⟨l.take o, l.drop (o + 1), true, ?_, by simp; omega, by simp, fun _ => by simp; omega, fun w => ?_⟩
    · rw [if_pos rfl]
      exact cuts_sep hol (fun k hk hko e => h2 k hko (by rw [List.getElem?_eq_getElem hk, e])) hoe
    · rw [ho] at HX
      have e1 : (⟨l.toArray⟩ : ByteArray).extract 0 o = ⟨(l.take o).toArray⟩ := by rw [extract_list]; simp
      have e2 : (⟨l.toArray⟩ : ByteArray).extract (o + 1) (⟨l.toArray⟩ : ByteArray).size = ⟨(l.drop (o + 1)).toArray⟩ := by
        rw [extract_list, List.take_of_length_le (by simp [ByteArray.size])]
      have hsz : (⟨l.toArray⟩ : ByteArray).size = l.length := by simp [ByteArray.size]
      rw [← e1, ← e2]
      generalize (⟨l.toArray⟩ : ByteArray) = s at HX hsz ⊢
      have c2 : o < s.size := by omega
      have c3 : s.size ≤ 1048576 := by omega
      have k2 : (o : Int) ≤ s.size := by omega
      have k3 : (0 : Int) ≤ o + 1 := by omega
      have k4 : (o : Int) + 1 ≤ s.size := by omega
      clear hsz e1 e2 hoe h1 h2 hge hi hol hl ho
      have HY : Hid (Calls Tryd.prog 39 #[.string s, .string ⟨#[32]⟩] w fun e w' => e = .returned (.tuple #[.string (s.extract 0 o), .string (s.extract (o + 1) s.size), .bool true]) ∧ Below w.heap.size w w') := by
        show Calls _ _ _ _ _
        go_enter Tryd.func39, Tryd.ntmps39
        go_wp2_with (go_at_call 51; refine (HX.out _).mono ?_; rintro e w' ⟨rfl, rfl⟩)
        go_region
        go_wp2
        go_ret3
        exact ⟨rfl, (Below.refl _ _).drew⟩
      go_enter Tryd.func25, Tryd.ntmps25
      go_wp2_with (go_at_call 39; refine HY.out.mono ?_; rintro e w' ⟨rfl, hb⟩)
      go_ret3
      exact ⟨rfl, hb⟩

/-- For the loop's measure. -/
def boolNat : Value → Nat
  | .bool true => 1
  | _ => 0
def strNat : Value → Nat
  | .string s => s.size
  | _ => 0

set_option maxHeartbeats 2000000 in
theorem iParseVals : CParseVals := by
  intro l w hl hT hY
  have hown0 := own_lit (e := 42) (size := 3) w #[] 0 (Nat.zero_le _) rfl
  have hb0 := below_alloc w (.cells #[] 42)
  have HE : Hid (parseVs l = parsesV (cuts 32 l)) := rfl
  have hcl := cuts_len 32 l
  have HTB := Lib.hid hT
  have HSY := Lib.hid hY
  rw [HE.out]
  clear hT hY HE
  have HPV : Hid (∀ p ∈ cuts 32 l, (parseV ⟨p.toArray⟩).2 = false → parsesV (cuts 32 l) = ([], false)) := fun p hp h => by
    unfold parsesV
    rw [if_neg]
    rw [List.all_eq_true]
    intro hall
    have := hall p hp
    rw [h] at this
    cases this
  have HPA : Hid ((∀ p ∈ cuts 32 l, (parseV ⟨p.toArray⟩).2 = true) → parsesV (cuts 32 l) = ((cuts 32 l).map fun p => (parseV ⟨p.toArray⟩).1, true)) := fun h => by
    unfold parsesV
    rw [if_pos]
    rw [List.all_eq_true]
    exact h
  have HI : Hid (∃ (done : List (List UInt8)) (rest : List UInt8), (⟨l.toArray⟩ : ByteArray) = ⟨rest.toArray⟩ ∧ rest.length ≤ l.length ∧ (∀ p ∈ done, (parseV ⟨p.toArray⟩).2 = true) ∧ cuts 32 l = done ++ (if true = true then cuts 32 rest else []) ∧ done = []) := ⟨[], l, rfl, Nat.le_refl _, by simp, by simp, rfl⟩
  generalize hps : cuts 32 l = ps at HPV HPA hcl HI ⊢
  generalize (⟨l.toArray⟩ : ByteArray) = s0 at HI ⊢
  generalize hn : l.length = n at hl hcl HI
  clear hps hn
  go_enter Tryd.func11, Tryd.ntmps11
  go_wp2
  go_loopw [0, 4, 6] (fun s o m wr => ∃ (done : List (List UInt8)) (rest : List UInt8) (mb : Bool), s = .string ⟨rest.toArray⟩ ∧ m = .bool mb ∧ rest.length ≤ n ∧ (∀ p ∈ done, (parseV ⟨p.toArray⟩).2 = true) ∧ ps = done ++ (if mb = true then cuts 32 rest else [])
    ∧ Own 42 3 w.heap.size wr.heap.size wr o (done.map fun p => (parseV ⟨p.toArray⟩).1).length (vals (done.map fun p => (parseV ⟨p.toArray⟩).1)) ∧ Below w.heap.size w wr) (fun s _ m _ => boolNat m * (strNat s + 1))
  case atStart =>
    obtain ⟨done, rest, e1, h1, h2, h3, rfl⟩ := HI.out
    exact ⟨[], rest, true, by rw [e1], rfl, h1, h2, h3, hown0, hb0⟩
  case round =>
    obtain ⟨done, rest, mb, rfl, rfl, hrl, hok, hps, hown, hbr⟩ := hrel
    have HOK := Lib.hid hok
    have HPS := Lib.hid hps
    clear hok hps
    cases mb with
    | true =>
      obtain ⟨p, r, b, g1, g2, g3, g4, g5⟩ := iCutGap rest (by omega)
      have HC := Lib.hid g5
      have HPS2 : Hid (ps = (done ++ [p]) ++ (if b = true then cuts 32 r else [])) := by
        show _ = _
        rw [HPS.out, if_pos rfl, g1, List.append_assoc]
        rfl
      have hmem : p ∈ ps := by rw [HPS2.out]; simp
      have hdl : done.length ≤ n + 1 := by
        have := congrArg List.length HPS2.out
        simp only [List.length_append] at this
        omega
      have HS : Hid ((parseV ⟨p.toArray⟩).2 = true → ∀ q ∈ done ++ [p], (parseV ⟨q.toArray⟩).2 = true) := fun h q hq => by
        rcases List.mem_append.1 hq with hq | hq
        · exact HOK.out q hq
        · rw [List.mem_singleton.1 hq]
          exact h
      have HFK := Lib.hid (HPV.out p hmem)
      have HV := Lib.hid (fun W => iParseVal ⟨p.toArray⟩ W (by simp only [ByteArray.size, List.size_toArray]; unfold maxLen; omega))
      have HM : Hid (b = true → (⟨r.toArray⟩ : ByteArray).size < (⟨rest.toArray⟩ : ByteArray).size) := fun h => by simpa [ByteArray.size] using g4 h
      have HR : Hid (r.length ≤ n) := Nat.le_trans g3 hrl
      have HMP : Hid ((done ++ [p]).map (fun p => (parseV ⟨p.toArray⟩).1) = done.map (fun p => (parseV ⟨p.toArray⟩).1) ++ [(parseV ⟨p.toArray⟩).1]) := by
        show _ = _
        rw [List.map_append]
        rfl
      have hcl2 : (done.map fun p => (parseV ⟨p.toArray⟩).1).length ≤ n + 1 := by simpa using hdl
      clear g1 g2 g3 g4 g5 hmem hdl HPS hrl
      generalize (⟨rest.toArray⟩ : ByteArray) = sr at HC HM ⊢
      have HP : Hid (∃ q, (⟨p.toArray⟩ : ByteArray) = q) := ⟨_, rfl⟩
      generalize hq : (⟨p.toArray⟩ : ByteArray) = q at HC HV HFK HS HMP
      generalize hrr : (⟨r.toArray⟩ : ByteArray) = q2 at HC HM
      have HRR := Lib.hid hrr
      generalize parseV q = pr at HV HFK HS HMP
      obtain ⟨⟨xt, xn, xs⟩, ok⟩ := pr
      simp only at HV HFK HS HMP
      generalize hC : done.map (fun p => (parseV ⟨p.toArray⟩).1) = C at hown hcl2 HMP
      clear hC hq hrr HP
      have HVA : Hid (vals C ++ V.cs ⟨xt, xn, xs⟩ = vals (C ++ [(⟨xt, xn, xs⟩ : V)])) := by
        show _ = _
        simp [vals]
      have HLN : Hid ((C ++ [(⟨xt, xn, xs⟩ : V)]).length = C.length + 1) := by
        show _ = _
        simp
      generalize C.length = c at hown HLN hcl2
      go_wp2_with fail
      refine (HC.out _).mono ?_
      rintro e w1 ⟨rfl, hb1⟩
      have own1 := hown.below hb1 (Nat.le_refl _)
      have b1 := below_then hbr hb1 hbr.size
      have z1 := hb1.size
      clear hown hbr hb1
      go_wp2_with fail
      refine (HV.out _ (HTB.out.below b1) (HSY.out.below b1)).mono ?_
      rintro e w2 ⟨rfl, hb2⟩
      have own2 := own1.below hb2 (by omega)
      have b2 := below_then b1 hb2 b1.size
      have z2 := hb2.size
      clear own1 hb2 b1
      cases ok with
      | false =>
        have HF := Lib.hid (HFK.out rfl)
        have OL := own_lit (e := 42) (size := 3) (w2.alloc (.cells #[.int .i64 xt, .int .i64 xn, .string xs] 42)) #[] 0 (Nat.zero_le _) rfl
        have BL := (b2.alloc b2.size (.cells #[.int .i64 xt, .int .i64 xn, .string xs] 42)).alloc (by simp; have := b2.size; omega) (.cells #[] 42)
        have HSW : Hid ((w2.alloc (.cells #[.int .i64 xt, .int .i64 xn, .string xs] 42)).heap.size = w2.heap.size + 1) := World.size_alloc _ _
        have hzz := b2.size
        clear own2
        go_wp2
        go_ret2
        rw [HF.out]
        exact ⟨_, rfl, by have := OL.lower (lo' := w.heap.size) (by simp; omega); rw [HSW.out] at this; exact this, BL⟩
      | true =>
        have HS2 := Lib.hid (HS.out rfl)
        have own3 := (own2.alloc (.cells #[.int .i64 xt, .int .i64 xn, .string xs] 42)).wide (hi' := (w2.alloc (.cells #[.int .i64 xt, .int .i64 xn, .string xs] 42)).heap.size) (by simp; omega)
        have b3 := b2.alloc b2.size (.cells #[.int .i64 xt, .int .i64 xn, .string xs] 42)
        clear own2 HFK HS
        go_wp2_with (at_builtin; refine appendV_law Tryd.elemVals rfl _ _ rfl _ _ _ _ _ ⟨xt, xn, xs⟩ rfl own3 (by show Value.slice (some ⟨w2.heap.size + 1, 0, none⟩) 1 1 = _; rw [World.size_alloc]) (by unfold maxLen; omega) (by omega) ?_)
        intro v4 w4 o4 e4
        have b4 := b3.trans (e4.below own3)
        rw [HVA.out] at o4
        have O4 := Lib.hid o4
        clear o4 e4 own3
        go_wp2
        go_roundw
        case rel => exact ⟨done ++ [p], r, b, by rw [HRR.out], rfl, HR.out, HS2.out, HPS2.out, by rw [HMP.out, HLN.out]; exact O4.out, b4⟩
        case measure =>
          have hm := HM.out
          cases b with
          | true =>
            have := hm rfl
            simp [boolNat, strNat]
            omega
          | false => simp [boolNat]
    | false =>
      have hps : ps = done := by
        have := HPS.out
        simpa using this
      have HA : Hid (parsesV ps = (done.map fun p => (parseV ⟨p.toArray⟩).1, true)) := by
        show _ = _
        rw [HPA.out (by rw [hps]; exact HOK.out), hps]
      generalize (⟨rest.toArray⟩ : ByteArray) = sr
      clear hps
      go_wp2
      go_ret2
      rw [HA.out]
      exact ⟨_, rfl, hown, hbr⟩

end Go.Proofs.YtdclbpbjdaefhaaDoor
