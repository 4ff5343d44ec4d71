/- The contract of the model's ParseNum. -/
import Derived.Test.YtdclbpbjdaefhaaDoorDParse
namespace Go.Proofs.YtdclbpbjdaefhaaDoor
open Go.RowKit

/-- After k bytes, of which the first o are the sign: their value is m. -/
def Spelt (l : List UInt8) (o k m : Nat) : Prop := Lib.decFrom 0 ((l.take k).drop o) = some m ∧ m < 10 ^ k
theorem spelt_start (l : List UInt8) (o : Nat) : Spelt l o 0 0 := by simp [Spelt, Lib.decFrom]
theorem spelt_skip (l : List UInt8) : Spelt l 1 1 0 := by
  refine ⟨?_, by omega⟩
  have : (l.take 1).drop 1 = [] := List.drop_eq_nil_of_le (by rw [List.length_take]; omega)
  rw [this]; rfl
theorem take_bytes (s : ByteArray) (k : Nat) (h : k < s.size) : s.data.toList.take (k + 1) = s.data.toList.take k ++ [s[k]] := by
  rw [List.take_succ_eq_append_getElem (by simpa using h)]; rfl
theorem drop_snoc {l : List UInt8} {o k : Nat} {b : UInt8} (ho : o ≤ k) (hk : k < l.length) (ht : l.take (k + 1) = l.take k ++ [b]) : (l.take (k + 1)).drop o = (l.take k).drop o ++ [b] := by
  rw [ht, List.drop_append_of_le_length (by rw [List.length_take]; omega)]
theorem spelt_step {s : ByteArray} {o k m : Nat} (h : Spelt s.data.toList o k m) (ho : o ≤ k) (hk : k < s.size) (h1 : 48 ≤ s[k].toNat) (h2 : s[k].toNat ≤ 57) : Spelt s.data.toList o (k + 1) (10 * m + (s[k].toNat - 48)) := by
  refine ⟨?_, ?_⟩
  · rw [drop_snoc ho (by simpa using hk) (take_bytes s k hk), Dig.decFrom_append, h.1]
    simp only [Option.bind_some, Lib.decFrom, Lib.digitVal]
    rw [if_pos ⟨h1, h2⟩]
    simp only
    congr 1
    omega
  · have := h.2
    rw [Nat.pow_succ]
    omega
theorem decFrom_bad (l m : List UInt8) (acc : Nat) (h : Lib.decFrom acc l = none) : Lib.decFrom acc (l ++ m) = none := by
  rw [Dig.decFrom_append, h]; rfl
theorem spelt_bad {s : ByteArray} {o k m : Nat} (h : Spelt s.data.toList o k m) (ho : o ≤ k) (hk : k < s.size) (hb : ¬ (48 ≤ s[k].toNat ∧ s[k].toNat ≤ 57)) : Lib.decFrom 0 (s.data.toList.drop o) = none := by
  have e : s.data.toList.drop o = (s.data.toList.take (k + 1)).drop o ++ s.data.toList.drop (k + 1) := by
    rw [← List.drop_append_of_le_length (by rw [List.length_take]; have : s.data.toList.length = s.size := Array.length_toList
                                            omega), List.take_append_drop]
  rw [e]
  refine decFrom_bad _ _ _ ?_
  rw [drop_snoc ho (by simpa using hk) (take_bytes s k hk), Dig.decFrom_append, h.1]
  simp only [Option.bind_some, Lib.decFrom, Lib.digitVal]
  rw [if_neg hb]
theorem spelt_end {s : ByteArray} {o m : Nat} (h : Spelt s.data.toList o s.size m) : Lib.decFrom 0 (s.data.toList.drop o) = some m := by
  have := h.1
  rw [show List.take s.size s.data.toList = s.data.toList from List.take_of_length_le (Nat.le_of_eq Array.length_toList)] at this
  exact this
theorem sval_neg {s : ByteArray} (h : 0 < s.size) (hb : s[0] = 45) : Dig.sval s.data.toList = (Lib.decFrom 0 (s.data.toList.drop 1)).map fun (m : Nat) => -(m : Int) := by
  obtain ⟨⟨l⟩⟩ := s
  cases l with
  | nil => simp [ByteArray.size] at h
  | cons b r =>
    have : b = 45 := hb
    subst this
    simp [Dig.sval]
theorem sval_pos {s : ByteArray} (h : 0 < s.size) (hb : ¬ s[0] = 45) : Dig.sval s.data.toList = (Lib.decFrom 0 (s.data.toList.drop 0)).map fun (m : Nat) => (m : Int) := by
  obtain ⟨⟨l⟩⟩ := s
  cases l with
  | nil => simp [ByteArray.size] at h
  | cons b r =>
    have hb' : ¬ b = 45 := hb
    simp [Dig.sval, hb']

theorem bytes_ne {l : List UInt8} {s : ByteArray} (h : ¬ l = s.data.toList) : ((⟨l.toArray⟩ : ByteArray).toList == s.toList) = false := by
  refine beq_false_of_ne (fun e => h ?_)
  rw [ByteArray.toList_eq, ByteArray.toList_eq] at e
  exact e
theorem spelt_small {l : List UInt8} {o k m : Nat} (h : Spelt l o k m) (hk : k ≤ 11) : m < 100000000000 :=
  Nat.lt_of_lt_of_le h.2 (Nat.pow_le_pow_right (n := 10) (by omega) hk)
theorem spelt_zero {l : List UInt8} {o m : Nat} (h : Spelt l o 0 m) : m = 0 := by
  have := h.2
  simp at this
  exact this

set_option maxHeartbeats 1000000 in
theorem sParseNum (s : ByteArray) (w : World) (hs : s.size ≤ 9223372036854775807) :
    Calls Tryd.prog 38 #[.string s] w fun e w' => e = .returned (pRes (Dig.parse s.data.toList)) ∧ Below w.heap.size w w' := by
  have hsl : s.data.toList.length = s.size := Array.length_toList
  by_cases hin : 1 ≤ s.size ∧ s.size ≤ 11
  · have hib : Num.inB s.size 1 11 = true := Num.inB_true.2 ⟨by omega, by omega⟩
    obtain ⟨h1, h11⟩ := hin
    have HPS := Lib.hid (Dig.parse_sval s.data.toList (by omega) (by omega))
    clear hsl
    by_cases hneg : s[0] = 45
    · have HSV := Lib.hid (sval_neg (by omega) hneg)
      have hnb : (((s[0]).toNat : Int) == 45) = true := by rw [hneg]; rfl
      clear hneg
      go_enter Tryd.func38, Tryd.ntmps38
      go_wp2_with (go_at_call 45; refine (l1In _ _ _ _).mono ?_; rintro e w' ⟨rfl, rfl⟩)
      go_loop [4, 6] (fun t i => ∃ (k m : Nat), k ≤ s.size ∧ i = .int .i64 k ∧ t = .int .i64 m ∧ Spelt s.data.toList 1 k m) (fun _ i => s.size - (intOf i).toNat)
      case atStart => exact ⟨0, 0, by omega, rfl, rfl, spelt_start _ _⟩
      case round =>
        obtain ⟨k, m, hk, rfl, rfl, hsp⟩ := hrel
        have hm := spelt_small hsp (by omega)
        have HK := Lib.hid hsp
        clear hsp
        by_cases hlt : k < s.size
        · by_cases hk0 : 1 ≤ k
          · have hkb : ((k : Int) == 0) = false := by simp; omega
            by_cases hd : 48 ≤ s[k].toNat ∧ s[k].toNat ≤ 57
            · have HN := Lib.hid (spelt_step HK.out hk0 hlt hd.1 hd.2)
              have hdb : Num.inB (s[k].toNat) 48 57 = true := Num.inB_true.2 ⟨by omega, by omega⟩
              obtain ⟨hd1, hd2⟩ := hd
              go_wp2_with (go_at_call 45; refine (l1In _ _ _ _).mono ?_; rintro e w' ⟨rfl, rfl⟩)
              go_round
              case rel => exact ⟨k + 1, 10 * m + (s[k].toNat - 48), by omega, by go_num, by go_num, HN.out⟩
              case measure => simp [intOf]; omega
            · have HB := Lib.hid (spelt_bad HK.out hk0 hlt hd)
              have h256 : s[k].toNat < 256 := UInt8.toNat_lt _
              have hdb : Num.inB (s[k].toNat) 48 57 = false := Num.inB_false.2 (fun h => hd ⟨by omega, by omega⟩)
              clear hd
              go_wp2_with (go_at_call 45; refine (l1In _ _ _ _).mono ?_; rintro e w' ⟨rfl, rfl⟩)
              go_ret2
              exact ⟨by rw [HPS.out, HSV.out, HB.out]; rfl, Below.refl _ _⟩
          · obtain rfl : k = 0 := by omega
            have HN : Hid (m = 0) := spelt_zero HK.out
            go_wp2
            go_round
            case rel => exact ⟨1, m, by omega, rfl, rfl, by rw [HN.out]; exact spelt_skip _⟩
            case measure => simp [intOf]; omega
        · obtain rfl : k = s.size := by omega
          have HE := Lib.hid (spelt_end HK.out)
          have HR : Hid (Dig.parse s.data.toList = if Num.okB (-(m : Int)) = true ∧ Lib.itoa (-(m : Int)) = s.data.toList then (-(m : Int), true) else (0, false)) := by
            show Dig.parse s.data.toList = _
            rw [HPS.out, HSV.out, HE.out]; rfl
          by_cases hok : Num.okB (-(m : Int)) = true
          · by_cases hi : Lib.itoa (-(m : Int)) = s.data.toList
            · have HI : Hid ((⟨(Lib.itoa (-(m : Int))).toArray⟩ : ByteArray) = s) := by
                show (⟨(Lib.itoa (-(m : Int))).toArray⟩ : ByteArray) = s
                rw [hi]
              have HP : Hid (Dig.parse s.data.toList = (-(m : Int), true)) := HR.out.trans (if_pos ⟨hok, hi⟩)
              clear hi
              go_wp2_with (go_at_call 44; refine (l1Right _ _).mono ?_; rintro e w' ⟨rfl, rfl⟩)
              refine (sNumText _ _ (by omega) (by omega)).mono ?_
              rw [HI.out]
              rintro e w2 ⟨rfl, b2⟩
              go_wp2
              go_ret2
              exact ⟨by rw [HP.out]; rfl, b2⟩
            · have hib : ((⟨(Lib.itoa (-(m : Int))).toArray⟩ : ByteArray).toList == s.toList) = false := by
                exact bytes_ne hi
              have HP : Hid (Dig.parse s.data.toList = (0, false)) := HR.out.trans (if_neg (fun h => hi h.2))
              clear hi
              go_wp2_with (go_at_call 44; refine (l1Right _ _).mono ?_; rintro e w' ⟨rfl, rfl⟩)
              refine (sNumText _ _ (by omega) (by omega)).mono ?_
              generalize (⟨(Lib.itoa (-(m : Int))).toArray⟩ : ByteArray) = q at hib ⊢
              rintro e w2 ⟨rfl, b2⟩
              go_wp2
              go_ret2
              exact ⟨by rw [HP.out]; rfl, b2⟩
          · have hokb : Num.okB (-(m : Int)) = false := by simpa using hok
            have HP : Hid (Dig.parse s.data.toList = (0, false)) := HR.out.trans (if_neg (fun h => hok h.1))
            clear hok
            go_wp2_with (go_at_call 44; refine (l1Right _ _).mono ?_; rintro e w' ⟨rfl, rfl⟩)
            go_ret2
            exact ⟨by rw [HP.out]; rfl, Below.refl _ _⟩
    · have HSV := Lib.hid (sval_pos (by omega) hneg)
      have hnb : (((s[0]).toNat : Int) == 45) = false := by
        refine beq_false_of_ne (fun h => hneg (UInt8.toNat_inj.1 ?_))
        show s[0].toNat = 45
        omega
      clear hneg
      go_enter Tryd.func38, Tryd.ntmps38
      go_wp2_with (go_at_call 45; refine (l1In _ _ _ _).mono ?_; rintro e w' ⟨rfl, rfl⟩)
      go_loop [4, 6] (fun t i => ∃ (k m : Nat), k ≤ s.size ∧ i = .int .i64 k ∧ t = .int .i64 m ∧ Spelt s.data.toList 0 k m) (fun _ i => s.size - (intOf i).toNat)
      case atStart => exact ⟨0, 0, by omega, rfl, rfl, spelt_start _ _⟩
      case round =>
        obtain ⟨k, m, hk, rfl, rfl, hsp⟩ := hrel
        have hm := spelt_small hsp (by omega)
        have HK := Lib.hid hsp
        clear hsp
        by_cases hlt : k < s.size
        · by_cases hk0 : 1 ≤ k
          · have hkb : ((k : Int) == 0) = false := by simp; omega
            by_cases hd : 48 ≤ s[k].toNat ∧ s[k].toNat ≤ 57
            · have HN := Lib.hid (spelt_step HK.out (Nat.zero_le _) hlt hd.1 hd.2)
              have hdb : Num.inB (s[k].toNat) 48 57 = true := Num.inB_true.2 ⟨by omega, by omega⟩
              obtain ⟨hd1, hd2⟩ := hd
              go_wp2_with (go_at_call 45; refine (l1In _ _ _ _).mono ?_; rintro e w' ⟨rfl, rfl⟩)
              go_round
              case rel => exact ⟨k + 1, 10 * m + (s[k].toNat - 48), by omega, by go_num, by go_num, HN.out⟩
              case measure => simp [intOf]; omega
            · have HB := Lib.hid (spelt_bad HK.out (Nat.zero_le _) hlt hd)
              have h256 : s[k].toNat < 256 := UInt8.toNat_lt _
              have hdb : Num.inB (s[k].toNat) 48 57 = false := Num.inB_false.2 (fun h => hd ⟨by omega, by omega⟩)
              clear hd
              go_wp2_with (go_at_call 45; refine (l1In _ _ _ _).mono ?_; rintro e w' ⟨rfl, rfl⟩)
              go_ret2
              exact ⟨by rw [HPS.out, HSV.out, HB.out]; rfl, Below.refl _ _⟩
          · have hkb : ((k : Int) == 0) = true := by simp; omega
            by_cases hd : 48 ≤ s[k].toNat ∧ s[k].toNat ≤ 57
            · have HN := Lib.hid (spelt_step HK.out (Nat.zero_le _) hlt hd.1 hd.2)
              have hdb : Num.inB (s[k].toNat) 48 57 = true := Num.inB_true.2 ⟨by omega, by omega⟩
              obtain ⟨hd1, hd2⟩ := hd
              go_wp2_with (go_at_call 45; refine (l1In _ _ _ _).mono ?_; rintro e w' ⟨rfl, rfl⟩)
              go_round
              case rel => exact ⟨k + 1, 10 * m + (s[k].toNat - 48), by omega, by go_num, by go_num, HN.out⟩
              case measure => simp [intOf]; omega
            · have HB := Lib.hid (spelt_bad HK.out (Nat.zero_le _) hlt hd)
              have h256 : s[k].toNat < 256 := UInt8.toNat_lt _
              have hdb : Num.inB (s[k].toNat) 48 57 = false := Num.inB_false.2 (fun h => hd ⟨by omega, by omega⟩)
              clear hd
              go_wp2_with (go_at_call 45; refine (l1In _ _ _ _).mono ?_; rintro e w' ⟨rfl, rfl⟩)
              go_ret2
              exact ⟨by rw [HPS.out, HSV.out, HB.out]; rfl, Below.refl _ _⟩
        · obtain rfl : k = s.size := by omega
          have HE := Lib.hid (spelt_end HK.out)
          have HR : Hid (Dig.parse s.data.toList = if Num.okB ((m : Int)) = true ∧ Lib.itoa ((m : Int)) = s.data.toList then ((m : Int), true) else (0, false)) := by
            show Dig.parse s.data.toList = _
            rw [HPS.out, HSV.out, HE.out]; rfl
          by_cases hok : Num.okB ((m : Int)) = true
          · by_cases hi : Lib.itoa ((m : Int)) = s.data.toList
            · have HI : Hid ((⟨(Lib.itoa ((m : Int))).toArray⟩ : ByteArray) = s) := by
                show (⟨(Lib.itoa ((m : Int))).toArray⟩ : ByteArray) = s
                rw [hi]
              have HP : Hid (Dig.parse s.data.toList = ((m : Int), true)) := HR.out.trans (if_pos ⟨hok, hi⟩)
              clear hi
              go_wp2_with (go_at_call 44; refine (l1Right _ _).mono ?_; rintro e w' ⟨rfl, rfl⟩)
              refine (sNumText _ _ (by omega) (by omega)).mono ?_
              rw [HI.out]
              rintro e w2 ⟨rfl, b2⟩
              go_wp2
              go_ret2
              exact ⟨by rw [HP.out]; rfl, b2⟩
            · have hib : ((⟨(Lib.itoa ((m : Int))).toArray⟩ : ByteArray).toList == s.toList) = false := by
                exact bytes_ne hi
              have HP : Hid (Dig.parse s.data.toList = (0, false)) := HR.out.trans (if_neg (fun h => hi h.2))
              clear hi
              go_wp2_with (go_at_call 44; refine (l1Right _ _).mono ?_; rintro e w' ⟨rfl, rfl⟩)
              refine (sNumText _ _ (by omega) (by omega)).mono ?_
              generalize (⟨(Lib.itoa ((m : Int))).toArray⟩ : ByteArray) = q at hib ⊢
              rintro e w2 ⟨rfl, b2⟩
              go_wp2
              go_ret2
              exact ⟨by rw [HP.out]; rfl, b2⟩
          · have hokb : Num.okB ((m : Int)) = false := by simpa using hok
            have HP : Hid (Dig.parse s.data.toList = (0, false)) := HR.out.trans (if_neg (fun h => hok h.1))
            clear hok
            go_wp2_with (go_at_call 44; refine (l1Right _ _).mono ?_; rintro e w' ⟨rfl, rfl⟩)
            go_ret2
            exact ⟨by rw [HP.out]; rfl, Below.refl _ _⟩
  · have hib : Num.inB s.size 1 11 = false := Num.inB_false.2 (fun h => hin ⟨by omega, by omega⟩)
    have HP : Hid (Dig.parse s.data.toList = (0, false)) := by
      show Dig.parse s.data.toList = (0, false)
      unfold Dig.parse
      split
      · have : s.data.toList = [] := List.length_eq_zero_iff.1 (by omega)
        rw [this]; rfl
      · rfl
    clear hin hsl
    go_enter Tryd.func38, Tryd.ntmps38
    go_wp2_with (go_at_call 45; refine (l1In _ _ _ _).mono ?_; rintro e w' ⟨rfl, rfl⟩)
    go_ret2
    exact ⟨by rw [HP.out]; rfl, Below.refl _ _⟩

end Go.Proofs.YtdclbpbjdaefhaaDoor
