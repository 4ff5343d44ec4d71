/- Texts of this claim, one behind the other: I5c, I5d, S7, S7d, S7e, M8. -/
import Derived.Test.YtkofafefnlommaaGreatP23
import Derived.Test.YtkofafefnlommaaGreatP16
import Derived.Laws.BytesArg
import Derived.Test.YtkofafefnlommaaGreatP17
import Derived.Test.YtkofafefnlommaaGreatP5
import Derived.Test.YtkofafefnlommaaGreatP8
import Derived.Test.YtkofafefnlommaaGreatP1

/- The contracts of impl's cutBytes, getText, GetVal. -/
namespace Go.Proofs.YtkofafefnlommaaGreat
open Go.RowKit

/-- cutBytes where nothing is cut. -/
theorem cutNot (a : Option Addr) (n cap k : Nat) (i q : Int) (hq : q = k) (w : World) (_ : n ≤ 1073741824) (hk : k ≤ 255) (h : ¬ (0 ≤ i ∧ i + k ≤ n)) :
    Calls Tryz.prog 197 #[.slice a n cap, .int .i64 i, .int .i64 q] w fun e w' => e = .returned (.tuple #[.slice none 0 0, .bool false]) ∧ w = w' := by
  subst hq
  by_cases h0 : i < 0
  · go_enter Tryz.func197, Tryz.ntmps197
    go_wp2
    go_ret2
    exact ⟨rfl, rfl⟩
  · obtain ⟨I, rfl⟩ := Int.eq_ofNat_of_zero_le (show 0 ≤ i by omega)
    by_cases h1 : n < I
    · go_enter Tryz.func197, Tryz.ntmps197
      go_wp2
      go_ret2
      exact ⟨rfl, rfl⟩
    · have h2 : (n : Int) - I < k := by omega
      clear h h0
      go_enter Tryz.func197, Tryz.ntmps197
      go_wp2
      go_ret2
      exact ⟨rfl, rfl⟩

/-- cutBytes where bytes are cut. -/
theorem cutOk (b off n cap k I : Nat) (i q : Int) (hi : i = I) (hq : q = k) (w : World) (_ : n ≤ 1073741824) (hk : k ≤ 255) (hnc : n ≤ cap) (hcm : cap ≤ maxLen) (h : I + k ≤ n) :
    Calls Tryz.prog 197 #[.slice (some ⟨b, off, none⟩) n cap, .int .i64 i, .int .i64 q] w fun e w' => ∃ o, e = .returned (.tuple #[.slice (some ⟨b, o, none⟩) k k, .bool true]) ∧ (0 < k → o = off + I) ∧ w = w' := by
  subst hi hq
  unfold maxLen at hcm
  have h1 : ¬ ((n : Int) - I < k) := by omega
  by_cases h0 : k = 0
  · subst h0
    go_enter Tryz.func197, Tryz.ntmps197
    go_wp2
    go_ret2
    exact ⟨⟨_, rfl⟩, rfl⟩
  · go_enter Tryz.func197, Tryz.ntmps197
    go_wp2
    go_ret2
    exact ⟨_, rfl, fun _ => rfl, rfl⟩

/-- getText. -/
def textAt (zs : List Int) (I : Nat) : ByteArray := strOfNums ((zs.drop (I + 1)).take (zs.getD I 0).toNat)
def getS (zs : List Int) (i : Int) : ByteArray × Int × Bool :=
  if (0 ≤ i ∧ i + 1 ≤ zs.length) ∧ i + 1 + zs.getD i.toNat 0 ≤ zs.length ∧ txtB (textAt zs i.toNat) = true then (textAt zs i.toNat, i + 1 + zs.getD i.toNat 0, true) else (⟨#[]⟩, 0, false)
theorem getV_text {zs : List Int} {i : Int} : getV zs i 2 = if (getS zs i).2.2 = true then (⟨2, 0, (getS zs i).1⟩, (getS zs i).2.1, true) else (V.zero, 0, false) := by
  unfold getV
  rw [if_neg (by decide)]
  have hok : ∀ s, okV ⟨2, 0, s⟩ = txtB s := fun s => by simp [okV]
  by_cases h1 : 0 ≤ i ∧ i + 1 ≤ zs.length
  · obtain ⟨I, rfl⟩ := Int.eq_ofNat_of_zero_le h1.1
    rw [if_pos ⟨rfl, Num.inB_true.2 ⟨h1.1, by omega⟩⟩]
    have e0 : getT zs I = if zs.getD I 0 ≤ (zs.length : Int) - I - 1 ∧ txtB (textAt zs I) = true then (⟨2, 0, textAt zs I⟩, (I : Int) + 1 + zs.getD I 0, true) else (V.zero, 0, false) := by
      rw [← hok]
      rfl
    have e1 : getS zs I = if (0 ≤ (I : Int) ∧ (I : Int) + 1 ≤ zs.length) ∧ (I : Int) + 1 + zs.getD I 0 ≤ zs.length ∧ txtB (textAt zs I) = true then (textAt zs I, (I : Int) + 1 + zs.getD I 0, true) else (⟨#[]⟩, 0, false) := rfl
    rw [e1, Int.toNat_natCast, e0]
    by_cases h2 : (I : Int) + 1 + zs.getD I 0 ≤ zs.length ∧ txtB (textAt zs I) = true
    · rw [if_pos (c := _ ∧ _) ⟨by omega, h2.2⟩, if_pos (c := (0 ≤ (I : Int) ∧ (I : Int) + 1 ≤ zs.length) ∧ _) ⟨h1, h2⟩]
      rfl
    · rw [if_neg (c := zs.getD I 0 ≤ (zs.length : Int) - I - 1 ∧ _) (fun h => h2 ⟨by omega, h.2⟩), if_neg (c := (0 ≤ (I : Int) ∧ (I : Int) + 1 ≤ zs.length) ∧ _) (fun h => h2 h.2)]
      rfl
  · have e1 : getS zs i = (⟨#[]⟩, 0, false) := if_neg (fun h => h1 h.1)
    rw [e1, if_neg (fun h => h1 (by have := Num.inB_true.1 h.2; omega))]
    rfl
theorem getV_none {zs : List Int} {i ty : Int} (h1 : ¬ ty = 1) (h2 : ¬ ty = 2) : getV zs i ty = (V.zero, 0, false) := by
  unfold getV
  rw [if_neg h1, if_neg (fun h => h2 h.1)]

set_option maxHeartbeats 1000000 in
theorem getText (v : Value) (n : Nat) (zs : List Int) (i : Int) (w : World) (hn : n ≤ 1048576) (hz : zs.length = n) (hby : Num.Bytes zs) (h : At 1 w v n (ints .u8 zs)) :
    Calls Tryz.prog 185 #[v, .int .i64 i] w fun e w' => e = .returned (.tuple #[.string (getS zs i).1, .int .i64 (getS zs i).2.1, .bool (getS zs i).2.2]) ∧ w = w' := by
  obtain ⟨b, off, cap, rfl, hnc, hcm, _, hc⟩ := h
  by_cases h1 : 0 ≤ i ∧ i + 1 ≤ n
  · obtain ⟨I, rfl⟩ := Int.eq_ofNat_of_zero_le h1.1
    have hI : I < n := by omega
    have hcI := At.cell (k := .u8) (n := n) hc hz hI
    have hbI := hby _ (getD_mem (by omega : I < zs.length))
    have HE : Hid (getS zs I = if (I : Int) + 1 + zs.getD I 0 ≤ n ∧ txtB (textAt zs I) = true then (textAt zs I, (I : Int) + 1 + zs.getD I 0, true) else (⟨#[]⟩, 0, false)) := by
      show _ = _
      unfold getS
      rw [hz, Int.toNat_natCast]
      congr 1
      simp [h1]
    have HCV : Hid (∀ (C : Nat), zs.getD I 0 = (C : Int) → I + 1 + C ≤ n → ∀ (o cp : Nat), (0 < C → o = off + (I + 1)) → (convert 22 9 (.slice (some ⟨b, o, none⟩) C cp)).run Tryz.prog w = .ok (.string (textAt zs I)) w) := fun C hC hle o cp ho => by
      have e0 : textAt zs I = strOfNums ((zs.drop (I + 1)).take C) := by
        unfold textAt
        rw [hC, Int.toNat_natCast]
      rw [e0]
      refine run_convert_bytes_arg w 22 5 Tryz.underlying22 Tryz.underlying5 b o C cp ((zs.drop (I + 1)).take C) (by simp; omega) (fun j hj => ?_) 9 Tryz.underlying9
      have hjn : I + 1 + j < n := by omega
      have := At.cell (k := .u8) (n := n) hc hz hjn
      have e : ((zs.drop (I + 1)).take C).getD j 0 = zs.getD (I + 1 + j) 0 := by
        simp [hj]
      rw [e, ← this, ho (by omega), show off + (I + 1) + j = off + (I + 1 + j) by omega]
    have HSS : Hid ((textAt zs I).size ≤ maxLen) := by
      show _ ≤ _
      unfold textAt
      rw [strOfNums_size]
      unfold maxLen
      simp
      omega
    generalize zs.getD I 0 = c at hcI hbI HE HCV
    obtain ⟨c0, c1⟩ := hbI
    obtain ⟨C, rfl⟩ := Int.eq_ofNat_of_zero_le c0
    have HT := Lib.hid (fun W => iTextOk (textAt zs I) W HSS.out)
    generalize textAt zs I = s at HE HCV HSS HT
    have H1 := Lib.hid (fun W => cutOk b off n cap 1 I I 1 rfl rfl W (by omega) (by omega) hnc hcm (by omega))
    have HZ := Lib.hid hz
    clear hz hby hc c0
    by_cases h2 : I + 1 + C ≤ n
    · have H2 := Lib.hid (fun W => cutOk b off n cap C (I + 1) ((I : Int) + 1) C (by omega) rfl W (by omega) (by omega) hnc hcm (by omega))
      have HCW := Lib.hid (HCV.out C rfl h2)
      clear HCV
      cases ht : txtB s with
      | true =>
        rw [if_pos ⟨by omega, ht⟩] at HE
        rw [ht] at HT
        rw [HE.out]
        clear ht
        go_enter Tryz.func185, Tryz.ntmps185
        go_wp2_with fail
        refine (H1.out _).mono ?_
        rintro e w1 ⟨o1, rfl, ho1, rfl⟩
        obtain rfl := ho1 (by omega)
        clear ho1
        go_wp2_with fail
        refine (H2.out _).mono ?_
        rintro e w2 ⟨o2, rfl, ho2, rfl⟩
        have hcv := HCW.out o2 C ho2
        clear ho2
        go_wp2_with (go_at_call 149; refine (HT.out _).mono ?_; rintro e w3 ⟨rfl, rfl⟩)
        go_ret3
        exact ⟨rfl, rfl⟩
      | false =>
        rw [if_neg (fun h => by rw [ht] at h; cases h.2)] at HE
        rw [ht] at HT
        rw [HE.out]
        clear ht
        go_enter Tryz.func185, Tryz.ntmps185
        go_wp2_with fail
        refine (H1.out _).mono ?_
        rintro e w1 ⟨o1, rfl, ho1, rfl⟩
        obtain rfl := ho1 (by omega)
        clear ho1
        go_wp2_with fail
        refine (H2.out _).mono ?_
        rintro e w2 ⟨o2, rfl, ho2, rfl⟩
        have hcv := HCW.out o2 C ho2
        clear ho2
        go_wp2_with (go_at_call 149; refine (HT.out _).mono ?_; rintro e w3 ⟨rfl, rfl⟩)
        go_ret3
        exact ⟨rfl, rfl⟩
    · have H2 := Lib.hid (fun W => cutNot (some ⟨b, off, none⟩) n cap C ((I : Int) + 1) C rfl W (by omega) (by omega) (by omega))
      rw [if_neg (fun h => by have := h.1; omega)] at HE
      rw [HE.out]
      clear HCV HT HSS
      go_enter Tryz.func185, Tryz.ntmps185
      go_wp2_with fail
      refine (H1.out _).mono ?_
      rintro e w1 ⟨o1, rfl, ho1, rfl⟩
      obtain rfl := ho1 (by omega)
      clear ho1
      go_wp2_with fail
      refine (H2.out _).mono ?_
      rintro e w2 ⟨rfl, rfl⟩
      go_wp2
      go_ret3
      exact ⟨rfl, rfl⟩
  · have HE : Hid (getS zs i = (⟨#[]⟩, 0, false)) := if_neg (fun h => h1 (by rw [← hz]; exact h.1))
    have H1 := Lib.hid (fun W => cutNot (some ⟨b, off, none⟩) n cap 1 i 1 rfl W (by omega) (by omega) h1)
    rw [HE.out]
    clear hz hby hc
    go_enter Tryz.func185, Tryz.ntmps185
    go_wp2_with (go_at_call 197; refine (H1.out _).mono ?_; rintro e w1 ⟨rfl, rfl⟩)
    go_ret3
    exact ⟨rfl, rfl⟩

end Go.Proofs.YtkofafefnlommaaGreat

/- The contracts of impl's GetVal and DecPlain. -/
namespace Go.Proofs.YtkofafefnlommaaGreat
open Go.RowKit

set_option maxHeartbeats 1000000 in
theorem iGetVal : CGetVal := by
  intro u n zs i ty w hn hz hby h
  have HG := Lib.hid (fun W hW => iGetNum u n zs i W (by omega) hz hby (h.below hW))
  have HT := Lib.hid (fun W hW => getText u n zs i W (by omega) hz hby (h.below hW))
  obtain ⟨b, off, cap, rfl, _, _, _, _⟩ := h
  have HZ := Lib.hid hz
  clear hz hby
  have Z0 := held_new w V.zero 77
  have bt := below_alloc w (.cells #[.int .i64 0, .int .i64 0, .string ⟨#[]⟩] 77)
  simp only [V.zero] at Z0
  obtain ⟨⟨p0, p1, p2⟩, p3, p4, p5⟩ := id Z0
  simp only at p0 p1 p2
  by_cases ht : ty = 1
  · subst ht
    have HE := Lib.hid (getV_int (zs := zs) (i := i))
    generalize Num.get zs i = r at HG HE
    obtain ⟨x, nx, ok⟩ := r
    unfold getRes at HG
    simp only at HG HE
    cases ok with
    | true =>
      rw [if_pos rfl] at HE
      rw [HE.out]
      go_enter Tryz.func162, Tryz.ntmps162
      go_wp2_with (first | (go_at_call 79; refine (HG.out _ bt).mono ?_; rintro e w' ⟨rfl, rfl⟩) | (go_at_call 147; refine (iIntVal _ _).mono ?_; rintro e w1 ⟨rfl, hb⟩; replace bt := below_then bt hb bt.size; obtain ⟨⟨q0, q1, q2⟩, q3, q4, q5⟩ := Z0.below hb; simp only at q0 q1 q2; clear p0 p1 p2 p3 p4 p5 hb Z0))
      exact bodyPost_ret (v := .tuple #[.agg #[.int .i64 1, .int .i64 x, .string ⟨#[]⟩], .int .i64 nx, .bool true]) (by simp [results, Tryz.results162, go_sem, *]) rfl ⟨rfl, ((bt.setCell (by simp) _).setCell (by simp) _).setCell (by simp) _⟩
    | false =>
      rw [if_neg (by simp)] at HE
      rw [HE.out]
      go_enter Tryz.func162, Tryz.ntmps162
      go_wp2_with (go_at_call 79; refine (HG.out _ bt).mono ?_; rintro e w' ⟨rfl, rfl⟩)
      exact bodyPost_ret (v := .tuple #[.agg #[.int .i64 0, .int .i64 0, .string ⟨#[]⟩], .int .i64 0, .bool false]) (by simp [results, Tryz.results162, go_sem, *]) rfl ⟨rfl, bt⟩
  by_cases h2 : ty = 2
  · subst h2
    have HE := Lib.hid (getV_text (zs := zs) (i := i))
    generalize getS zs i = r at HT HE
    obtain ⟨x, nx, ok⟩ := r
    simp only at HT HE
    cases ok with
    | true =>
      rw [if_pos rfl] at HE
      rw [HE.out]
      go_enter Tryz.func162, Tryz.ntmps162
      go_wp2_with (first | (go_at_call 185; refine (HT.out _ bt).mono ?_; rintro e w' ⟨rfl, rfl⟩) | (go_at_call 148; refine (iTextVal _ _).mono ?_; rintro e w1 ⟨rfl, hb⟩; replace bt := below_then bt hb bt.size; obtain ⟨⟨q0, q1, q2⟩, q3, q4, q5⟩ := Z0.below hb; simp only at q0 q1 q2; clear p0 p1 p2 p3 p4 p5 hb Z0))
      exact bodyPost_ret (v := .tuple #[.agg #[.int .i64 2, .int .i64 0, .string x], .int .i64 nx, .bool true]) (by simp [results, Tryz.results162, go_sem, *]) rfl ⟨rfl, ((bt.setCell (by simp) _).setCell (by simp) _).setCell (by simp) _⟩
    | false =>
      rw [if_neg (by simp)] at HE
      rw [HE.out]
      go_enter Tryz.func162, Tryz.ntmps162
      go_wp2_with (go_at_call 185; refine (HT.out _ bt).mono ?_; rintro e w' ⟨rfl, rfl⟩)
      exact bodyPost_ret (v := .tuple #[.agg #[.int .i64 0, .int .i64 0, .string ⟨#[]⟩], .int .i64 0, .bool false]) (by simp [results, Tryz.results162, go_sem, *]) rfl ⟨rfl, bt⟩
  · have HE := Lib.hid (getV_none (zs := zs) (i := i) ht h2)
    have h1b : (ty == 1) = false := by simpa using ht
    have h2b : (ty == 2) = false := by simpa using h2
    rw [HE.out]
    go_enter Tryz.func162, Tryz.ntmps162
    go_wp2
    exact bodyPost_ret (v := .tuple #[.agg #[.int .i64 0, .int .i64 0, .string ⟨#[]⟩], .int .i64 0, .bool false]) (by simp [results, Tryz.results162, go_sem, *]) rfl ⟨rfl, bt⟩

/-- A list that is filled from its start on. -/
def fillV (pre : List V) (K : Nat) : List V := pre ++ List.replicate (K - pre.length) V.zero
theorem fillV_len {pre : List V} {K : Nat} (h : pre.length ≤ K) : (fillV pre K).length = K := by
  simp [fillV]
  omega
theorem fillV_set {pre : List V} {K : Nat} (x : V) (h : pre.length < K) : (fillV pre K).set pre.length x = fillV (pre ++ [x]) K := by
  unfold fillV
  rw [List.set_append_right _ _ (Nat.le_refl _), Nat.sub_self, show K - pre.length = (K - (pre ++ [x]).length) + 1 by simp; omega, List.replicate_succ, List.set_cons_zero]
  simp
theorem fillV_all {pre : List V} {K : Nat} (h : pre.length = K) : fillV pre K = pre := by simp [fillV, h]

set_option maxHeartbeats 2000000 in
theorem iDecPlain : CDecPlain := by
  intro u n zs ty k w hn hz hby h
  have HG := Lib.hid (fun i W (hW : Below w.heap.size w W) => iGetVal u n zs i ty W hn hz hby (h.below hW))
  obtain ⟨b, off, cap, rfl, _, _, _, _⟩ := h
  cases hin : Num.inB k 1 64 with
  | false =>
    have HE : Hid (decP zs ty k = ([], false)) := if_neg (by rw [hin]; simp)
    have OL := own_lit (e := 77) (size := 3) w #[] 0 (Nat.zero_le _) rfl
    have BL := below_alloc w (.cells #[] 77)
    have hk : k < 1 ∨ 64 < k := by
      by_cases h1 : k < 1
      · exact Or.inl h1
      · by_cases h2 : 64 < k
        · exact Or.inr h2
        · exfalso
          rw [Num.inB_true.2 ⟨by omega, by omega⟩] at hin
          cases hin
    clear hin hz hby HG
    rcases hk with hk | hk
    · go_enter Tryz.func135, Tryz.ntmps135
      go_wp2
      go_ret2
      rw [HE.out]
      exact ⟨_, rfl, OL, BL⟩
    · go_enter Tryz.func135, Tryz.ntmps135
      go_wp2
      go_ret2
      rw [HE.out]
      exact ⟨_, rfl, OL, BL⟩
  | true =>
    obtain ⟨k0, k1⟩ := Num.inB_true.1 hin
    obtain ⟨K, rfl⟩ := Int.eq_ofNat_of_zero_le (show 0 ≤ k by omega)
    have HE : Hid (decP zs ty K = match decL zs ty K 0 with | some r => if r.2 = (n : Int) then (r.1, true) else ([], false) | none => ([], false)) := by
      show _ = _
      unfold decP
      rw [if_pos hin, hz, Int.toNat_natCast]
      cases decL zs ty K 0 <;> rfl
    have HD0 : Hid (decL zs ty K 0 = (decL zs ty (K - 0) 0).map fun r => ([] ++ r.1, r.2)) := by
      show _ = _
      simp
    have HST : Hid (∀ (j : Nat) (i : Int) (pre : List V), j < K → decL zs ty K 0 = (decL zs ty (K - j) i).map (fun r => (pre ++ r.1, r.2)) → if (getV zs i ty).2.2 = true then decL zs ty K 0 = (decL zs ty (K - (j + 1)) (getV zs i ty).2.1).map (fun r => ((pre ++ [(getV zs i ty).1]) ++ r.1, r.2)) else decL zs ty K 0 = none) := fun j i pre hj hd => by
      rw [show K - j = (K - (j + 1)) + 1 by omega, decL] at hd
      split
      · rename_i hg
        rw [if_pos hg] at hd
        rw [hd, Option.map_map]
        congr 1
        funext r
        simp
      · rename_i hg
        rw [if_neg hg] at hd
        rw [hd]
        rfl
    have HFN : Hid (∀ (i : Int) (pre : List V), decL zs ty K 0 = (decL zs ty (K - K) i).map (fun r => (pre ++ r.1, r.2)) → decL zs ty K 0 = some (pre, i)) := fun i pre hd => by
      rw [hd, Nat.sub_self]
      simp [decL]
    clear hin hz hby
    go_enter Tryz.func135, Tryz.ntmps135
    go_wp2_with (at_make; refine make_law Tryz.elemVals rfl _ _ rfl .i64 .i64 _ _ K rfl rfl rfl rfl (by omega) (by unfold maxLen; omega) ?_)
    intro w1 hown1 hb1
    have hown0 : Own 77 3 w.heap.size w1.heap.size w1 (.slice (some ⟨w.heap.size, 0, none⟩) K K) K (vals (fillV [] K)) := by
      have e : vals (fillV [] K) = (madeCells V.zero.cs.toArray (K * 3)).toList := by
        rw [made_flat V.cs V.zero 3 K (by omega) (fun _ => rfl)]
        simp [fillV, vals]
      rw [e]
      exact hown1
    clear hown1
    go_wp2
    go_loopw [9, 23] (fun p i wr => ∃ (j : Nat) (q : Int) (pre : List V), j ≤ K ∧ i = .int .i64 j ∧ p = .int .i64 q ∧ pre.length = j ∧ decL zs ty K 0 = (decL zs ty (K - j) q).map (fun r => (pre ++ r.1, r.2)) ∧ wr.ownsRow w.heap.size 77 3 (.slice (some ⟨w.heap.size, 0, none⟩) K K) K (vals (fillV pre K)) ∧ Below w.heap.size w wr) (fun _ i _ => K - (intOf i).toNat)
    case atStart => exact ⟨0, 0, [], Nat.zero_le _, rfl, rfl, rfl, HD0.out, hown0.row, hb1⟩
    case round =>
      obtain ⟨j, q, pre, hj, rfl, rfl, hpl, hd, hown, hbr⟩ := hrel
      clear hown0 hb1
      by_cases hlt : j < K
      · have HSJ := Lib.hid (HST.out j q pre hlt hd)
        have HV := Lib.hid (HG.out q wr hbr)
        have HPL := Lib.hid hpl
        have HSET := Lib.hid (fun x => fillV_set (pre := pre) (K := K) x (by omega))
        have HFL := Lib.hid (fillV_len (pre := pre) (K := K) (by omega))
        rw [HPL.out] at HSET
        clear hd hpl
        generalize getV zs q ty = r at HSJ HV
        obtain ⟨⟨xt, xn, xs⟩, nx, ok⟩ := r
        unfold rGet at HV
        simp only at HSJ HV
        go_wp2_with fail
        refine HV.out.mono ?_
        rintro e w2 ⟨rfl, hb2⟩
        have own2 := ((own_of_row hown (Nat.le_refl _)).below hb2 (Nat.le_refl _)).row
        have b2 := below_then hbr hb2 hbr.size
        have R := Lib.hid (stored3 own2 j ⟨xt, xn, xs⟩ (by rw [HFL.out]; exact hlt))
        rw [HSET.out] at R
        obtain ⟨x0, s0⟩ := cellAt_some own2 (j * 3) (by omega)
        obtain ⟨x1, s1⟩ := cellAt_some own2 (j * 3 + 1) (by omega)
        obtain ⟨x2, s2⟩ := cellAt_some own2 (j * 3 + 2) (by omega)
        have f0 := own2.frozenAt (j * 3)
        have f1 := own2.frozenAt (j * 3 + 1)
        have f2 := own2.frozenAt (j * 3 + 2)
        have b3 : Below w.heap.size w (((w2.setCell ⟨w.heap.size, j * 3, none⟩ (.int .i64 xt)).setCell ⟨w.heap.size, j * 3 + 1, none⟩ (.int .i64 xn)).setCell ⟨w.heap.size, j * 3 + 2, none⟩ (.string xs)) :=
          ((b2.setCell (p := ⟨w.heap.size, j * 3, none⟩) (Nat.le_refl _) _).setCell (p := ⟨w.heap.size, j * 3 + 1, none⟩) (Nat.le_refl _) _).setCell (p := ⟨w.heap.size, j * 3 + 2, none⟩) (Nat.le_refl _) _
        clear hown hb2 HV own2 b2 hbr
        cases ok with
        | false =>
          have HF : Hid (decP zs ty K = ([], false)) := by
            show _ = _
            have hd := HSJ.out
            rw [if_neg (by simp)] at hd
            rw [HE.out, hd]
          have OL := own_lit (e := 77) (size := 3) (((w2.setCell ⟨w.heap.size, j * 3, none⟩ (.int .i64 xt)).setCell ⟨w.heap.size, j * 3 + 1, none⟩ (.int .i64 xn)).setCell ⟨w.heap.size, j * 3 + 2, none⟩ (.string xs)) #[] 0 (Nat.zero_le _) rfl
          have O3 := Lib.hid (OL.lower (lo' := w.heap.size) b3.size)
          rw [show (((w2.setCell ⟨w.heap.size, j * 3, none⟩ (.int .i64 xt)).setCell ⟨w.heap.size, j * 3 + 1, none⟩ (.int .i64 xn)).setCell ⟨w.heap.size, j * 3 + 2, none⟩ (.string xs)).heap.size = w2.heap.size from by simp [World.setCell]] at O3
          have B3 := Lib.hid (b3.alloc b3.size (.cells #[] 77))
          clear OL b3 R
          go_wp2
          go_ret2
          rw [HF.out]
          exact ⟨_, rfl, O3.out, B3.out⟩
        | true =>
          have HS2 : Hid (decL zs ty K 0 = (decL zs ty (K - (j + 1)) nx).map (fun r => ((pre ++ [(⟨xt, xn, xs⟩ : V)]) ++ r.1, r.2))) := by
            have hd := HSJ.out
            rw [if_pos rfl] at hd
            exact hd
          have HLN : Hid ((pre ++ [(⟨xt, xn, xs⟩ : V)]).length = j + 1) := by
            show _ = _
            simp [HPL.out]
          clear HSJ
          go_wp2
          go_roundw
          case rel => exact ⟨j + 1, nx, pre ++ [⟨xt, xn, xs⟩], by omega, by go_num, rfl, HLN.out, HS2.out, R.out.1, b3⟩
          case measure => simp [intOf]; omega
      · obtain rfl : j = K := by omega
        have HF := Lib.hid (HFN.out q pre hd)
        rw [HF.out] at HE
        rw [fillV_all hpl] at hown
        have O1 := own_of_row hown (Nat.le_refl _)
        have HPL := Lib.hid hpl
        clear hd hown
        by_cases hq : q = (n : Int)
        · have HF2 : Hid (decP zs ty j = (pre, true)) := by
            show _ = _
            rw [HE.out]
            exact if_pos hq
          have hqb : (q != (n : Int)) = false := by simpa using hq
          rw [← HPL.out] at O1
          have O2 := Lib.hid O1
          clear HE hq O1 hpl
          go_wp2
          go_ret2
          rw [HF2.out]
          exact ⟨_, rfl, by have := O2.out; rw [HPL.out] at this; rw [HPL.out]; exact this, hbr⟩
        · have HF2 : Hid (decP zs ty j = ([], false)) := by
            show _ = _
            rw [HE.out]
            exact if_neg hq
          have hqb : (q != (n : Int)) = true := by simpa using hq
          have OL := own_lit (e := 77) (size := 3) wr #[] 0 (Nat.zero_le _) rfl
          have BL := hbr.alloc hbr.size (.cells #[] 77)
          have hzz := hbr.size
          clear HE hq O1 hpl
          go_wp2
          go_ret2
          rw [HF2.out]
          exact ⟨_, rfl, OL.lower hzz, BL⟩

end Go.Proofs.YtkofafefnlommaaGreat

/- The contracts of the model's InDict, Places, Picked. -/
namespace Go.Proofs.YtkofafefnlommaaGreat
open Go.RowKit

set_option maxHeartbeats 1000000 in
theorem sInDict (u : Value) (d : List V) (x : V) (w : World) (h : Rd 3 w u d.length (vals d)) :
    Calls Tryz.prog 171 #[u, x.agg] w fun e w' => e = .returned (.int .i64 (inI d x)) ∧ Below w.heap.size w w' := by
  generalize hl : d.length = n at h
  obtain ⟨a, cap, rfl, hm, HC⟩ := h.vals hl
  unfold maxLen at hm
  have HL := Lib.hid hl
  have HE : Hid (∀ i, i < n → (d.getD i V.zero).eqB x = true → (∀ j, j < i → (d.getD j V.zero).eqB x = false) → inI d x = i) := fun i hi h1 h2 => inI_some (inD_first (by omega) h1 h2)
  have HN : Hid ((∀ j, j < n → (d.getD j V.zero).eqB x = false) → inI d x = -1) := fun h1 => inI_none (inD_none.2 (fun j hj => h1 j (by omega)))
  have hx0 := held_new w x 77
  have hb0 := below_alloc w (.cells #[.int .i64 x.ty, .int .i64 x.n, .string x.s] 77)
  generalize inI d x = r at HE HN
  obtain ⟨xt, xn, xs⟩ := x
  clear h hl
  go_enter Tryz.func171, Tryz.ntmps171
  go_wp2
  generalize hW : w.alloc (.cells #[.int .i64 xt, .int .i64 xn, .string xs] 77) = W at hx0 hb0 ⊢
  have HW := Lib.hid hW
  clear hW
  go_loopw [5] (fun i wr => ∃ k : Nat, k ≤ n ∧ i = .int .i64 k ∧ (∀ j, j < k → (d.getD j V.zero).eqB ⟨xt, xn, xs⟩ = false) ∧ Below W.heap.size W wr) (fun i _ => n - (intOf i).toNat)
  case atStart => exact ⟨0, Nat.zero_le _, rfl, fun j hj => by omega, Below.refl _ _⟩
  case round =>
    obtain ⟨k, hk, rfl, hno, hbr⟩ := hrel
    have HNO := Lib.hid hno
    clear hno
    by_cases hlt : k < n
    · obtain ⟨b, off, rfl, p0, p1, p2⟩ := HC.out k hlt
      have hbr2 := hb0.trans (hbr.mono hb0.size)
      replace p0 := (hbr2.cell (p := ⟨b, off + k * 3, none⟩) (lt_of_cell p0)).trans p0
      replace p1 := (hbr2.cell (p := ⟨b, off + k * 3 + 1, none⟩) (lt_of_cell p1)).trans p1
      replace p2 := (hbr2.cell (p := ⟨b, off + k * 3 + 2, none⟩) (lt_of_cell p2)).trans p2
      obtain ⟨⟨q0, q1, q2⟩, _⟩ := hx0.below hbr
      have HEK := Lib.hid (HE.out k hlt)
      have HNK : Hid ((d.getD k V.zero).eqB ⟨xt, xn, xs⟩ = false → ∀ j, j < k + 1 → (d.getD j V.zero).eqB ⟨xt, xn, xs⟩ = false) := fun h1 j hj => by
        by_cases e : j = k
        · subst e; exact h1
        · exact HNO.out j (by omega)
      have hq := fun W => run_eql_val (d.getD k V.zero) ⟨xt, xn, xs⟩ W
      generalize d.getD k V.zero = y at p0 p1 p2 HEK HNK hq
      cases he : y.eqB ⟨xt, xn, xs⟩ with
      | true =>
        have HR := Lib.hid (HEK.out he HNO.out)
        rw [he] at hq
        obtain ⟨t1, n1, s1⟩ := y
        have HB := Lib.hid hbr2
        clear he HEK HNK hx0 hb0 hbr hbr2
        simp only at q0 q1 q2
        go_wp2
        go_quiet (fail)
        go_wp2
        go_ret
        exact ⟨ret_int HR.out.symm, HB.out.trans (below_drewN _ _ _)⟩
      | false =>
        have HS := Lib.hid (HNK.out he)
        rw [he] at hq
        obtain ⟨t1, n1, s1⟩ := y
        clear he HEK HNK hx0 hb0
        simp only at q0 q1 q2
        go_wp2
        go_quiet (fail)
        go_wp2
        go_roundw
        case rel => exact ⟨k + 1, by omega, by go_num, HS.out, hbr.trans (below_drewN _ _ _)⟩
        case measure => simp [intOf]; omega
    · obtain rfl : k = n := by omega
      have HR := Lib.hid (HN.out HNO.out)
      have hbr2 := hb0.trans (hbr.mono hb0.size)
      go_wp2
      go_ret
      exact ⟨ret_int HR.out.symm, hbr2⟩

theorem map_snoc {α β : Type} (f : α → β) (l : List α) (z : α) (k : Nat) (h : k < l.length) : (l.take (k + 1)).map f = (l.take k).map f ++ [f (l.getD k z)] := by
  rw [List.take_succ_eq_append_getElem h, List.map_append, getDe l z h]
  rfl
/-- The places of the first k values; what is picked at the first k places. -/
def plK (d l : List V) (k : Nat) : List Int := (l.take k).map (inI d)
def pkK (d : List V) (l : List Int) (k : Nat) : List V := (l.take k).map (fun x => d.getD x.toNat V.zero)
theorem inI_neg {d : List V} {v : V} (h : inI d v < 0) : inD d v = none := by
  cases e : inD d v with
  | none => rfl
  | some i => rw [inI_some e] at h; omega
theorem inI_pos {d : List V} {v : V} (h : ¬ inI d v < 0) : (inD d v).isSome = true := by
  cases e : inD d v with
  | none => rw [inI_none e] at h; omega
  | some i => rfl

set_option maxHeartbeats 1000000 in
theorem sPlaces (u v : Value) (d l : List V) (w : World) (hn : l.length ≤ 1048576) (hd : Rd 3 w u d.length (vals d)) (h : Rd 3 w v l.length (vals l)) :
    Calls Tryz.prog 141 #[u, v] w (Unpacked w (placesL d l)) := by
  have hown0 := own_lit (e := 3) (size := 1) w #[] 0 (Nat.zero_le _) rfl
  have hb0 := below_alloc w (.cells #[] 3)
  have HD := Lib.hid (fun x W (hW : Below w.heap.size w W) => sInDict u d x W (hd.below hW))
  generalize hl : l.length = n at h hn
  obtain ⟨a, cap, rfl, hm, HC⟩ := h.vals hl
  unfold maxLen at hm
  have HL := Lib.hid hl
  have HNO : Hid (∀ k, k < n → inI d (l.getD k V.zero) < 0 → placesL d l = ([], false)) := fun k hk h1 => places_no (by omega) (inI_neg h1)
  have HYES : Hid ((∀ k, k < n → 0 ≤ inI d (l.getD k V.zero)) → placesL d l = (l.map (inI d), true)) := fun h1 => places_yes (fun k hk => inI_pos (by have := h1 k (by omega); omega))
  have HS : Hid (∀ k, k < n → ints .i64 (plK d l (k + 1)) = ints .i64 (plK d l k) ++ [.int .i64 (inI d (l.getD k V.zero))]) := fun k hk => by
    unfold plK
    rw [map_snoc _ _ V.zero _ (by omega), ints_append]
    rfl
  have HTL : Hid (∀ k, k ≤ n → (plK d l k).length = k) := fun k hk => by simp [plK]; omega
  generalize placesL d l = R at HNO HYES
  clear h hl hd
  go_enter Tryz.func141, Tryz.ntmps141
  go_wp2
  go_loopw [6, 7] (fun o i wr => ∃ k : Nat, k ≤ n ∧ i = .int .i64 k ∧ (∀ j, j < k → 0 ≤ inI d (l.getD j V.zero)) ∧ Own 3 1 w.heap.size wr.heap.size wr o k (ints .i64 (plK d l k)) ∧ Below w.heap.size w wr) (fun _ i _ => n - (intOf i).toNat)
  case atStart => exact ⟨0, Nat.zero_le _, rfl, fun j hj => by omega, hown0, hb0⟩
  case round =>
    obtain ⟨k, hk, rfl, hno, hown, hbr⟩ := hrel
    have HK := Lib.hid hno
    clear hno
    by_cases hlt : k < n
    · obtain ⟨b, off, rfl, p0, p1, p2⟩ := HC.out k hlt
      replace p0 := (hbr.cell (p := ⟨b, off + k * 3, none⟩) (lt_of_cell p0)).trans p0
      replace p1 := (hbr.cell (p := ⟨b, off + k * 3 + 1, none⟩) (lt_of_cell p1)).trans p1
      replace p2 := (hbr.cell (p := ⟨b, off + k * 3 + 2, none⟩) (lt_of_cell p2)).trans p2
      have HX := Lib.hid (HD.out (l.getD k V.zero) wr hbr)
      have HSK := Lib.hid (HS.out k hlt)
      have HNK := Lib.hid (HNO.out k hlt)
      have HKK : Hid (0 ≤ inI d (l.getD k V.zero) → ∀ j, j < k + 1 → 0 ≤ inI d (l.getD j V.zero)) := fun h1 j hj => by
        by_cases e : j = k
        · subst e; exact h1
        · exact HK.out j (by omega)
      generalize inI d (l.getD k V.zero) = z at HX HSK HNK HKK
      generalize l.getD k V.zero = y at p0 p1 p2 HX
      obtain ⟨t1, n1, s1⟩ := y
      simp only at p0 p1 p2
      go_wp2_with fail
      refine HX.out.mono ?_
      rintro e w2 ⟨rfl, hb2⟩
      have B2 := below_then hbr hb2 hbr.size
      have z2 := hb2.size
      have O2 := hown.below hb2 (Nat.le_refl _)
      clear hb2 hown HX p0 p1 p2 hbr
      by_cases hz : z < 0
      · have HR := Lib.hid (HNK.out hz)
        have OL := own_lit (e := 3) (size := 1) w2 #[] 0 (Nat.zero_le _) rfl
        have BL := B2.alloc B2.size (.cells #[] 3)
        have hzz := B2.size
        clear O2
        go_wp2
        go_ret2
        rw [HR.out]
        exact ⟨_, rfl, OL.lower hzz, BL⟩
      · have HK2 := Lib.hid (HKK.out (by omega))
        have O3 := O2.wide z2
        clear O2
        go_wp2_with (at_builtin; refine append1_law Tryz.elemInts rfl _ _ rfl _ _ _ _ _ (.int .i64 z) rfl rfl O3 rfl (by unfold maxLen; omega) (by omega) ?_)
        intro v4 w4 o4 e4
        have b4 := B2.trans (e4.below O3)
        rw [← HSK.out] at o4
        have O4 := Lib.hid o4
        clear o4 e4 O3
        go_wp2
        go_roundw
        case rel => exact ⟨k + 1, by omega, by go_num, HK2.out, O4.out, b4⟩
        case measure => simp [intOf]; omega
    · obtain rfl : k = n := by omega
      have HR := Lib.hid (HYES.out HK.out)
      have OO := Lib.hid hown
      clear hown
      go_wp2
      go_ret2
      rw [HR.out]
      exact ⟨_, rfl, by have := OO.out; unfold plK at this; rw [← HL.out, List.take_length] at this; rw [List.length_map]; exact this, hbr⟩

set_option maxHeartbeats 1000000 in
theorem sPicked (u v : Value) (d : List V) (l : List Int) (w : World) (hn : l.length ≤ 1048576) (hd : Rd 3 w u d.length (vals d)) (h : Rd 1 w v l.length (ints .i64 l)) :
    Calls Tryz.prog 121 #[u, v] w fun e w' => RDs w w' e (pickedL d l) := by
  have hown0 := own_lit (e := 77) (size := 3) w #[] 0 (Nat.zero_le _) rfl
  have hb0 := below_alloc w (.cells #[] 77)
  have HI := Lib.hid (fun x m W => l1In x 0 m W)
  generalize hdl : d.length = m at hd
  obtain ⟨da, dcap, rfl, hdm, HDC⟩ := hd.vals hdl
  generalize hl : l.length = n at h hn
  obtain ⟨a, cap, rfl, hm, HC⟩ := h.ints hl
  unfold maxLen at hm hdm
  have HL := Lib.hid hl
  have HPB : Hid (∀ x : Int, pickB d x = Num.inB x 0 ((m : Int) - 1)) := fun x => by
    cases e : Num.inB x 0 ((m : Int) - 1) with
    | true =>
      have := Num.inB_true.1 e
      exact decide_eq_true ⟨this.1, by omega⟩
    | false =>
      refine decide_eq_false fun h2 => ?_
      rw [Num.inB_true.2 ⟨h2.1, by omega⟩] at e
      cases e
  have HNO : Hid (∀ k, k < n → pickB d (l.getD k 0) = false → pickedL d l = ([], false)) := fun k hk h1 => picked_no (by omega) h1
  have HYES : Hid ((∀ k, k < n → pickB d (l.getD k 0) = true) → pickedL d l = (l.map (fun x => d.getD x.toNat V.zero), true)) := fun h1 => picked_yes (fun k hk => h1 k (by omega))
  have HS : Hid (∀ k, k < n → vals (pkK d l (k + 1)) = vals (pkK d l k) ++ V.cs (d.getD (l.getD k 0).toNat V.zero)) := fun k hk => by
    unfold pkK
    rw [map_snoc _ _ 0 _ (by omega)]
    simp [vals]
  generalize pickedL d l = R at HNO HYES
  clear h hl hd hdl
  go_enter Tryz.func121, Tryz.ntmps121
  go_wp2
  go_loopw [6, 7] (fun o i wr => ∃ k : Nat, k ≤ n ∧ i = .int .i64 k ∧ (∀ j, j < k → pickB d (l.getD j 0) = true) ∧ Own 77 3 w.heap.size wr.heap.size wr o k (vals (pkK d l k)) ∧ Below w.heap.size w wr) (fun _ i _ => n - (intOf i).toNat)
  case atStart => exact ⟨0, Nat.zero_le _, rfl, fun j hj => by omega, hown0, hb0⟩
  case round =>
    obtain ⟨k, hk, rfl, hno, hown, hbr⟩ := hrel
    have HK := Lib.hid hno
    clear hno
    by_cases hlt : k < n
    · obtain ⟨b, off, rfl, p0⟩ := HC.out k hlt
      replace p0 := (hbr.cell (p := ⟨b, off + k, none⟩) (lt_of_cell p0)).trans p0
      have HX := Lib.hid (HI.out (l.getD k 0) ((m : Int) - 1) wr)
      have HSK := Lib.hid (HS.out k hlt)
      have HNK := Lib.hid (HNO.out k hlt)
      have HKK : Hid (pickB d (l.getD k 0) = true → ∀ j, j < k + 1 → pickB d (l.getD j 0) = true) := fun h1 j hj => by
        by_cases e : j = k
        · subst e; exact h1
        · exact HK.out j (by omega)
      rw [HPB.out] at HNK HKK
      generalize l.getD k 0 = z at p0 HX HSK HNK HKK
      cases hz : Num.inB z 0 ((m : Int) - 1) with
      | false =>
        have HR := Lib.hid (HNK.out hz)
        have OL := own_lit (e := 77) (size := 3) wr #[] 0 (Nat.zero_le _) rfl
        have BL := hbr.alloc hbr.size (.cells #[] 77)
        have hzz := hbr.size
        rw [hz] at HX
        clear hown hz
        go_wp2_with (go_at_call 61; refine HX.out.mono ?_; rintro e w' ⟨rfl, rfl⟩)
        go_ret2
        rw [HR.out]
        exact ⟨_, rfl, OL.lower hzz, BL⟩
      | true =>
        have HK2 := Lib.hid (HKK.out hz)
        obtain ⟨z0, z1⟩ := Num.inB_true.1 hz
        obtain ⟨K, rfl⟩ := Int.eq_ofNat_of_zero_le z0
        have hKm : K < m := by omega
        obtain ⟨db, doff, rfl, d0, d1, d2⟩ := HDC.out K hKm
        replace d0 := (hbr.cell (p := ⟨db, doff + K * 3, none⟩) (lt_of_cell d0)).trans d0
        replace d1 := (hbr.cell (p := ⟨db, doff + K * 3 + 1, none⟩) (lt_of_cell d1)).trans d1
        replace d2 := (hbr.cell (p := ⟨db, doff + K * 3 + 2, none⟩) (lt_of_cell d2)).trans d2
        rw [Int.toNat_natCast] at HSK
        generalize d.getD K V.zero = y at d0 d1 d2 HSK
        obtain ⟨t1, n1, s1⟩ := y
        simp only at d0 d1 d2
        rw [hz] at HX
        clear hz z0 z1
        go_wp2_with (first | (go_at_call 61; refine HX.out.mono ?_; rintro e w' ⟨rfl, rfl⟩) | (at_builtin; refine appendV_law Tryz.elemVals rfl _ _ rfl _ _ _ _ _ ⟨t1, n1, s1⟩ rfl hown rfl (by unfold maxLen; omega) (by omega) ?_))
        intro v4 w4 o4 e4
        have b4 := hbr.trans (e4.below hown)
        rw [← HSK.out] at o4
        have O4 := Lib.hid o4
        clear o4 e4 hown d0 d1 d2 p0
        go_wp2
        go_roundw
        case rel => exact ⟨k + 1, by omega, by go_num, HK2.out, O4.out, b4⟩
        case measure => simp [intOf]; omega
    · obtain rfl : k = n := by omega
      have HR := Lib.hid (HYES.out HK.out)
      have OO := Lib.hid hown
      clear hown
      go_wp2
      go_ret2
      rw [HR.out]
      exact ⟨_, rfl, by have := OO.out; unfold pkK at this; rw [← HL.out, List.take_length] at this; rw [List.length_map]; exact this, hbr⟩

end Go.Proofs.YtkofafefnlommaaGreat

/- The contract of the model's Dict. -/
namespace Go.Proofs.YtkofafefnlommaaGreat
open Go.RowKit

/-- append(s, x...) as one operation: s owned, x read at ⟨b, off⟩. -/
theorem append_op {P : Program} {t e : TypeId} {z : Value} {size bytes : Nat} (T : ElemT P t e z size bytes) {w : World} {o : Oper} {a : Act} {K : Act → World → Prop} {Q : Exit → Act → World → Prop} (s x : Operand)
    (ho : o.op = .call { callee := .builtin .append, args := #[s, x], argTypes := #[t, t] })
    (lo hi : Nat) (v : Value) (n : Nat) (xs : List Value) (hs : a.eval s = v) (hown : Own e size lo hi w v n xs)
    (b off m c : Nat) (news : List Value) (hx : a.eval x = .slice (some ⟨b, off, none⟩) m c) (hl : news.length = m * size) (hnews : ∀ j u, news[j]? = some u → w.cell? ⟨b, off + j, none⟩ = some u) (h1 : ∀ u ∈ news, u.oneCell' = true)
    (h63 : n + m ≤ maxLen) (hbytes : (n + m) * bytes ≤ 140737488355328)
    (h : ∀ v' w', Own e size lo w'.heap.size w' v' (n + m) (xs ++ news) → Ext w w' v v' → K (a.put o.dst v') w') : Oper.wp P o a w K Q := by
  obtain ⟨v', w', hr, h2, h3⟩ := append_block w t o.type e z size bytes T lo hi v n xs hown ⟨b, off, none⟩ m c news hl (fun j u hu => by rw [addr_add]; exact hnews j u hu) h1 h63 hbytes
  unfold Oper.wp execOp
  simp only [ho, resolve, invoke, builtin, Sem.run_bind, Sem.run_pure, Result.andThen_ok, List.map_toArray, List.map_cons, List.map_nil, hs, hx, hr]
  exact h v' w' h2 h3
theorem lit_new (w : World) (x : V) (e : TypeId) : ∀ j u, (V.cs x)[j]? = some u → (w.alloc (.cells #[.int .i64 x.ty, .int .i64 x.n, .string x.s] e)).cell? ⟨w.heap.size, 0 + j, none⟩ = some u := by
  intro j u hu
  match j, hu with
  | 0, hu => simp [V.cs] at hu; subst hu; simp
  | 1, hu => simp [V.cs] at hu; subst hu; simp
  | 2, hu => simp [V.cs] at hu; subst hu; simp
theorem lit_ext {W W' : World} {v v' : Value} {h : Nat} {cs : List Value} (hX : ∀ j u, cs[j]? = some u → W.cell? ⟨h, 0 + j, none⟩ = some u) (hlt : h < W.heap.size) (hne : v.ownBlock ≠ some h) (e : Ext W W' v v') :
    (∀ j u, cs[j]? = some u → W'.cell? ⟨h, 0 + j, none⟩ = some u) ∧ h < W'.heap.size ∧ v'.ownBlock ≠ some h := by
  refine ⟨fun j u hu => ?_, Nat.lt_of_lt_of_le hlt e.grown.size, fun hv => ?_⟩
  · rw [World.cell?_of_block (w := W) (e.grown.block h hlt (fun k => hne k.symm))]
    exact hX j u hu
  · rcases e.blk with k | ⟨g, k, hg⟩
    · exact hne (k.symm.trans hv)
    · rw [k] at hv
      simp at hv
      omega
/-- A Val just laid as a literal of one. -/
def Lit1 (N : Nat) (W : World) (h : Nat) (x : V) : Prop := N ≤ h ∧ h < W.heap.size ∧ ∀ j u, (V.cs x)[j]? = some u → W.cell? ⟨h, 0 + j, none⟩ = some u
theorem Lit1.alloc {N : Nat} {W : World} {h : Nat} {x : V} (k : Lit1 N W h x) (o : Obj) : Lit1 N (W.alloc o) h x :=
  ⟨k.1, by have := k.2.1; simp; omega, fun j u hu => ((below_alloc W o).cell (p := ⟨h, 0 + j, none⟩) k.2.1).trans (k.2.2 j u hu)⟩
theorem Lit1.new {N : Nat} (W : World) (x : V) (e : TypeId) (hN : N ≤ W.heap.size) : Lit1 N (W.alloc (.cells #[.int .i64 x.ty, .int .i64 x.n, .string x.s] e)) W.heap.size x := ⟨hN, by simp, lit_new W x e⟩
theorem Lit1.ext {N : Nat} {W W' : World} {v v' : Value} {h : Nat} {x : V} (k : Lit1 N W h x) (hne : v.ownBlock ≠ some h) (e : Ext W W' v v') : Lit1 N W' h x ∧ v'.ownBlock ≠ some h :=
  ⟨⟨k.1, (lit_ext k.2.2 k.2.1 hne e).2.1, (lit_ext k.2.2 k.2.1 hne e).1⟩, (lit_ext k.2.2 k.2.1 hne e).2.2⟩
theorem Own.notNew {e size lo w v n xs} (h : Own e size lo w.heap.size w v n xs) : v.ownBlock ≠ some w.heap.size := by
  obtain ⟨g, cap, rfl, h1, h2, h3⟩ := h
  simp only [Value.ownBlock, ne_eq, Option.some.injEq]
  omega
theorem own_none {e : TypeId} {N : Nat} (W : World) (hN : N ≤ W.heap.size) : Own e 3 N (W.alloc (.cells #[] e)).heap.size (W.alloc (.cells #[] e)) (.slice (some ⟨W.heap.size, 0, none⟩) 0 0) 0 [] :=
  (own_lit (e := e) (size := 3) W #[] 0 (Nat.zero_le _) rfl).lower hN
theorem Own.stay {e size lo w v n xs} (h : Own e size lo w.heap.size w v n xs) (o : Obj) : Own e size lo (w.alloc o).heap.size (w.alloc o) v n xs := (h.alloc o).wide (by simp)
theorem vals_one (l : List V) : ∀ u ∈ vals l, u.oneCell' = true := by
  intro u hu
  obtain ⟨v, _, hv⟩ := List.mem_flatMap.1 hu
  simp only [V.cs, List.mem_cons, List.not_mem_nil, or_false] at hv
  rcases hv with rfl | rfl | rfl <;> rfl
theorem vals_take (l : List V) (c : Nat) : vals (l.take c) = (vals l).take (c * 3) := by
  induction l generalizing c with
  | nil => simp [vals]
  | cons v l ih =>
    cases c with
    | zero => simp [vals]
    | succ c =>
      have := ih c
      simp only [vals] at this ⊢
      rw [List.take_succ_cons, List.flatMap_cons, List.flatMap_cons, this, show (c + 1) * 3 = 3 + c * 3 by omega, List.take_append, List.take_of_length_le (show (V.cs v).length ≤ 3 + c * 3 by simp only [V.cs, List.length_cons, List.length_nil]; omega)]
      simp [V.cs]
theorem vals_drop (l : List V) (c : Nat) : vals (l.drop c) = (vals l).drop (c * 3) := by
  induction l generalizing c with
  | nil => simp [vals]
  | cons v l ih =>
    cases c with
    | zero => simp [vals]
    | succ c =>
      have := ih c
      simp only [vals] at this ⊢
      rw [List.drop_succ_cons, List.flatMap_cons, this, show (c + 1) * 3 = 3 + c * 3 by omega, List.drop_append]
      simp [V.cs]
/-- The two parts of a dictionary that is read, in a later world. -/
theorem tails {wo W9 : World} {d : List V} {m j g cp tl : Nat} (hm : d.length = m) (hc : ∀ i u, (vals d)[i]? = some u → wo.cell? ⟨g, 0 + i, none⟩ = some u) (hj : j ≤ m) (hcp : m ≤ cp) (ht : j < cp → tl = j * 3) (B : Below wo.heap.size wo W9) :
    ∀ W, Below W9.heap.size W9 W → (∀ i u, (vals (d.take j))[i]? = some u → W.cell? ⟨g, 0 + i, none⟩ = some u) ∧ (∀ i u, (vals (d.drop j))[i]? = some u → W.cell? ⟨g, tl + i, none⟩ = some u) := by
  intro W hW
  have hc2 : ∀ i u, (vals d)[i]? = some u → W.cell? ⟨g, 0 + i, none⟩ = some u := fun i u hu => by
    have h1 := hc i u hu
    have h2 := (B.cell (p := ⟨g, 0 + i, none⟩) (lt_of_cell h1)).trans h1
    exact (hW.cell (p := ⟨g, 0 + i, none⟩) (lt_of_cell h2)).trans h2
  refine ⟨fun i u hu => hc2 i u ?_, fun i u hu => ?_⟩
  · rw [vals_take] at hu
    rw [← hu, List.getElem?_take_of_lt]
    have := (List.getElem?_eq_some_iff.1 hu).1
    simp at this
    omega
  · have hlt := (List.getElem?_eq_some_iff.1 hu).1
    rw [vals_len, List.length_drop] at hlt
    have hjm : j < cp := by omega
    rw [vals_drop, List.getElem?_drop] at hu
    have := hc2 (j * 3 + i) u hu
    rw [ht hjm]
    rw [Nat.zero_add] at this
    exact this

set_option maxRecDepth 100000 in
set_option maxHeartbeats 4000000 in
theorem sDict (u : Value) (l : List V) (w : World) (hn : l.length ≤ 1048576) (h : Rd 3 w u l.length (vals l)) :
    Calls Tryz.prog 140 #[u] w fun e w' => ∃ v', e = .returned v' ∧ Own 77 3 w.heap.size w'.heap.size w' v' (dictL l).length (vals (dictL l)) ∧ Below w.heap.size w w' := by
  have hown0 := own_lit (e := 77) (size := 3) w #[] 0 (Nat.zero_le _) rfl
  have hb0 := below_alloc w (.cells #[] 77)
  generalize hl : l.length = n at h hn
  obtain ⟨a, cap, rfl, _, HC⟩ := h.vals hl
  have HL := Lib.hid hl
  have HS : Hid (∀ k, k < n → dictL (l.take (k + 1)) = insV (dictL (l.take k)) (l.getD k V.zero)) := fun k hk => by
    have hk' : k < l.length := by omega
    rw [getDe l V.zero hk', List.take_succ_eq_append_getElem hk', dict_snoc]
  have HLEN : Hid (∀ k, k ≤ n → (dictL (l.take k)).length ≤ k) := fun k hk => by
    have h1 := dict_len (l.take k)
    have e : (l.take k).length = k := by simp; omega
    omega
  clear hl h
  go_enter Tryz.func140, Tryz.ntmps140
  go_wp2
  go_loopw [3, 4] (fun o i wr => ∃ k : Nat, k ≤ n ∧ i = .int .i64 k ∧ Own 77 3 w.heap.size wr.heap.size wr o (dictL (l.take k)).length (vals (dictL (l.take k))) ∧ Below w.heap.size w wr) (fun _ i _ => n - (intOf i).toNat)
  case atStart => exact ⟨0, Nat.zero_le _, rfl, hown0, hb0⟩
  case round =>
    obtain ⟨k, hk, rfl, hown, hbr⟩ := hrel
    by_cases hlt : k < n
    · obtain ⟨b, off, rfl, p0, p1, p2⟩ := HC.out k hlt
      have HSK := Lib.hid (HS.out k hlt)
      have hrl := HLEN.out k hk
      replace p0 := (hbr.cell (p := ⟨b, off + k * 3, none⟩) (lt_of_cell p0)).trans p0
      replace p1 := (hbr.cell (p := ⟨b, off + k * 3 + 1, none⟩) (lt_of_cell p1)).trans p1
      replace p2 := (hbr.cell (p := ⟨b, off + k * 3 + 2, none⟩) (lt_of_cell p2)).trans p2
      generalize l.getD k V.zero = x at p0 p1 p2 HSK
      generalize dictL (l.take k) = d at hown hrl HSK
      obtain ⟨g, cp, rfl, hg1, hg2, hrow⟩ := hown
      have hown : Own 77 3 w.heap.size wr.heap.size wr (.slice (some ⟨g, 0, none⟩) d.length cp) d.length (vals d) := ⟨g, cp, rfl, hg1, hg2, hrow⟩
      obtain ⟨b', off', cp', e', hcp, hcm, _, hcs⟩ := hown.at
      simp only [Value.slice.injEq, Option.some.injEq, Addr.mk.injEq, and_true, true_and] at e'
      obtain ⟨⟨rfl, rfl⟩, rfl⟩ := e'
      unfold maxLen at hcm
      have HCS := Lib.hid hcs
      have HD3 : Hid (∀ j, j < d.length → wr.cell? ⟨g, j * 3, none⟩ = some (.int .i64 (d.getD j V.zero).ty) ∧ wr.cell? ⟨g, j * 3 + 1, none⟩ = some (.int .i64 (d.getD j V.zero).n) ∧ wr.cell? ⟨g, j * 3 + 2, none⟩ = some (.string (d.getD j V.zero).s)) := fun j hj => by
        have := cells3 (b := g) (off := 0) hcs hj
        rw [getDe d V.zero hj]
        simpa using this
      have HDL := Lib.hid hcs
      clear hcs hrow
      have HCL := Lib.hid (cutV_le d x)
      have HST : Hid (∀ j, j ≤ cutV d x → j < d.length → lessV (d.getD j V.zero) x = true → j + 1 ≤ cutV d x) := fun j h1 h2 h3 => cutV_step h1 h2 h3
      have HSP : Hid (∀ j, j ≤ cutV d x → (j = d.length ∨ lessV (d.getD j V.zero) x = false) → j = cutV d x) := fun j h1 h2 => cutV_stop h1 h2
      have HNEW : Hid ((cutV d x = d.length ∨ (d.getD (cutV d x) V.zero).eqB x = false) → insV d x = (d.take (cutV d x) ++ [x]) ++ d.drop (cutV d x)) := insV_new
      have HOLD : Hid (cutV d x < d.length → (d.getD (cutV d x) V.zero).eqB x = true → insV d x = d) := insV_old
      generalize hm : d.length = m at hown hrl HD3 HCL HST HSP HNEW HOLD hcp
      have HM := Lib.hid hm
      clear hm
      obtain ⟨wo, rfl⟩ : ∃ wo, wo = wr := ⟨_, rfl⟩
      go_wp2
      go_loopw [5] (fun i wr2 => ∃ j : Nat, i = .int .i64 j ∧ j ≤ cutV d x ∧ Below wo.heap.size wo wr2) (fun i _ => cutV d x + 1 - (intOf i).toNat)
      case atStart => exact ⟨0, rfl, Nat.zero_le _, Below.refl _ _⟩
      case round =>
        obtain ⟨j, rfl, hjc, hb2⟩ := hrel
        have hjm : j ≤ m := Nat.le_trans hjc HCL.out
        replace p0 := (hb2.cell (p := ⟨b, off + k * 3, none⟩) (lt_of_cell p0)).trans p0
        replace p1 := (hb2.cell (p := ⟨b, off + k * 3 + 1, none⟩) (lt_of_cell p1)).trans p1
        replace p2 := (hb2.cell (p := ⟨b, off + k * 3 + 2, none⟩) (lt_of_cell p2)).trans p2
        by_cases hjl : j < m
        · obtain ⟨q0, q1, q2⟩ := HD3.out j hjl
          replace q0 := (hb2.cell (p := ⟨g, j * 3, none⟩) (lt_of_cell q0)).trans q0
          replace q1 := (hb2.cell (p := ⟨g, j * 3 + 1, none⟩) (lt_of_cell q1)).trans q1
          replace q2 := (hb2.cell (p := ⟨g, j * 3 + 2, none⟩) (lt_of_cell q2)).trans q2
          have HL1 := Lib.hid (HST.out j hjc hjl)
          have HL2 := Lib.hid (fun h => HSP.out j hjc (.inr h))
          have HEQ : Hid (j = cutV d x → d.getD (cutV d x) V.zero = d.getD j V.zero) := fun h => by rw [h]
          generalize d.getD j V.zero = y at q0 q1 q2 HL1 HL2 HEQ
          have HX := Lib.hid (fun W => sLessVal y x W)
          have HK : Hid (∀ W, Below wr.heap.size wr W → W.cell? ⟨g, j * 3, none⟩ = some (.int .i64 y.ty) ∧ W.cell? ⟨g, j * 3 + 1, none⟩ = some (.int .i64 y.n) ∧ W.cell? ⟨g, j * 3 + 2, none⟩ = some (.string y.s) ∧ W.cell? ⟨b, off + k * 3, none⟩ = some (.int .i64 x.ty) ∧ W.cell? ⟨b, off + k * 3 + 1, none⟩ = some (.int .i64 x.n) ∧ W.cell? ⟨b, off + k * 3 + 2, none⟩ = some (.string x.s)) := fun W h =>
            ⟨(h.cell (p := ⟨g, j * 3, none⟩) (lt_of_cell q0)).trans q0, (h.cell (p := ⟨g, j * 3 + 1, none⟩) (lt_of_cell q1)).trans q1, (h.cell (p := ⟨g, j * 3 + 2, none⟩) (lt_of_cell q2)).trans q2, (h.cell (p := ⟨b, off + k * 3, none⟩) (lt_of_cell p0)).trans p0, (h.cell (p := ⟨b, off + k * 3 + 1, none⟩) (lt_of_cell p1)).trans p1, (h.cell (p := ⟨b, off + k * 3 + 2, none⟩) (lt_of_cell p2)).trans p2⟩
          have hB' := (Below.refl wr.heap.size wr).drew
          generalize hc : cutV d x = c at HL1 HL2 HEQ HCL HNEW HOLD hjc
          have HCC := Lib.hid hc
          clear hc
          generalize lessV y x = lb at HL1 HL2 HX
          obtain ⟨xt, xn, xs⟩ := x
          obtain ⟨yt, yn, ys⟩ := y
          simp only at p0 p1 p2 q0 q1 q2 HK
          have HOWN := Lib.hid hown
          have HBR := Lib.hid hbr
          have HB2 := Lib.hid hb2
          clear hown hbr hb2
          go_wp2
          go_region_held3 (fun W => W.cell? ⟨g, j * 3, none⟩ = some (.int .i64 yt) ∧ W.cell? ⟨g, j * 3 + 1, none⟩ = some (.int .i64 yn) ∧ W.cell? ⟨g, j * 3 + 2, none⟩ = some (.string ys) ∧ W.cell? ⟨b, off + k * 3, none⟩ = some (.int .i64 xt) ∧ W.cell? ⟨b, off + k * 3 + 1, none⟩ = some (.int .i64 xn) ∧ W.cell? ⟨b, off + k * 3 + 2, none⟩ = some (.string xs)) (exact HK.out _ hB') ((go_at_call 170; (with_reducible refine (HX.out _).mono ?_); rintro e w2 ⟨rfl, hb3⟩; replace hB' := below_then hB' hb3 hB'.size))
          cases lb with
          | true =>
            have hj1 := HL1.out rfl
            go_wp2
            go_roundw
            case rel => exact ⟨j + 1, by go_num, hj1, below_then HB2.out hB' HB2.out.size⟩
            case measure => simp [intOf]; omega
          | false =>
            obtain rfl := HL2.out rfl
            have HY := Lib.hid (HEQ.out rfl)
            rw [HY.out] at HNEW HOLD
            have hq := fun W => run_neq_val ⟨yt, yn, ys⟩ ⟨xt, xn, xs⟩ W
            obtain ⟨c0, c1, c2, c3, c4, c5⟩ := HK.out _ hB'
            have B3 := Lib.hid (below_then HB2.out hB' HB2.out.size)
            have hjeq : ((j : Int) == (m : Int)) = false := by simp; omega
            clear hB' HK HX HL1 HL2 HEQ p0 p1 p2 q0 q1 q2
            cases he : V.eqB ⟨yt, yn, ys⟩ ⟨xt, xn, xs⟩ with
            | true =>
              have HO := Lib.hid (HOLD.out hjl he)
              rw [he] at hq
              clear he HOLD HNEW
              go_wp2
              go_quiet (fail)
              go_wp2
              go_roundw
              case rel => exact ⟨k + 1, by omega, by go_num, by rw [HSK.out, HO.out, HM.out]; exact (HOWN.out.below (B3.out.trans (below_drewN _ _ _)) (Nat.le_refl _)).wide B3.out.size, below_then HBR.out (B3.out.trans (below_drewN _ _ _)) HBR.out.size⟩
              case measure => simp [intOf]; omega
            | false =>
              have HO := Lib.hid (HNEW.out (.inr he))
              rw [he] at hq
              clear he HOLD HNEW
              go_wp2
              go_quiet (fail)
              go_wp2
              generalize hW9 : w2.drewN nq = W9
              have B9 : Below wo.heap.size wo W9 := by rw [← hW9]; exact B3.out.trans (below_drewN _ _ _)
              have c3' : W9.cell? ⟨b, off + k * 3, none⟩ = some (.int .i64 xt) := by rw [← hW9]; exact c3
              have c4' : W9.cell? ⟨b, off + k * 3 + 1, none⟩ = some (.int .i64 xn) := by rw [← hW9]; exact c4
              have c5' : W9.cell? ⟨b, off + k * 3 + 2, none⟩ = some (.string xs) := by rw [← hW9]; exact c5
              clear c0 c1 c2 c3 c4 c5 hq hW9
              have hjcp : (cp < j) = False := by simp; omega
              obtain ⟨tl, htl, HTL⟩ : ∃ tl, (if cp = j then some (⟨g, 0, none⟩ : Addr) else some ⟨g, j * 3, none⟩) = some ⟨g, tl, none⟩ ∧ Hid (j < cp → tl = j * 3) := by
                by_cases e : cp = j
                · exact ⟨0, by rw [if_pos e], fun h => by omega⟩
                · exact ⟨j * 3, by rw [if_neg e], fun _ => rfl⟩
              refine wp_region_held_drew (S := fun W => W.cell? ⟨b, off + k * 3, none⟩ = some (.int .i64 xt) ∧ W.cell? ⟨b, off + k * 3 + 1, none⟩ = some (.int .i64 xn) ∧ W.cell? ⟨b, off + k * 3 + 2, none⟩ = some (.string xs)) (by kernel_rfl) ⟨c3', c4', c5'⟩ (fun hH => ?_)
              refine takeH (i := 1) (d := some 46) (v := .slice (some ⟨g, 0, none⟩) m cp) rfl rfl (by kernel_rfl) (by kernel_rfl) (by kernel_rfl) (fun _ _ _ h => h) (Or.inl ⟨by rfl, fun W hSw => by go_simp⟩) hH ?_
              simp only [put_some, List.set_cons_zero, List.set_cons_succ]
              refine takeH (i := 2) (d := some 47) (v := .int .i64 (j : Int)) rfl rfl (by kernel_rfl) (by kernel_rfl) (by kernel_rfl) (fun _ _ _ h => h) (Or.inl ⟨by rfl, fun W hSw => by go_simp⟩) hH ?_
              simp only [put_some, List.set_cons_zero, List.set_cons_succ]
              refine takeH (i := 3) (d := some 48) (v := .slice (some ⟨g, 0, none⟩) j cp) rfl rfl (by kernel_rfl) (by kernel_rfl) (by kernel_rfl) (fun _ _ _ h => h) (Or.inl ⟨by rfl, fun W hSw => by go_simp⟩) hH ?_
              simp only [put_some, List.set_cons_zero, List.set_cons_succ]
              refine takeH (i := 5) (d := some 50) (v := .slice (some ⟨b, off, none⟩) n cap) rfl rfl (by kernel_rfl) (by kernel_rfl) (by kernel_rfl) (fun _ _ _ h => h) (Or.inl ⟨by rfl, fun W hSw => by go_simp⟩) hH ?_
              simp only [put_some, List.set_cons_zero, List.set_cons_succ]
              refine takeH (i := 6) (d := some 51) (v := .int .i64 (k : Int)) rfl rfl (by kernel_rfl) (by kernel_rfl) (by kernel_rfl) (fun _ _ _ h => h) (Or.inl ⟨by rfl, fun W hSw => by go_simp⟩) hH ?_
              simp only [put_some, List.set_cons_zero, List.set_cons_succ]
              refine takeH (i := 7) (d := some 52) (v := .pointer (some ⟨b, off + k * 3, none⟩)) rfl rfl (by kernel_rfl) (by kernel_rfl) (by kernel_rfl) (fun _ _ _ h => h) (Or.inl ⟨by rfl, fun W hSw => by go_simp⟩) hH ?_
              simp only [put_some, List.set_cons_zero, List.set_cons_succ]
              refine takeH (i := 8) (d := some 53) (v := .agg #[.int .i64 xt, .int .i64 xn, .string xs]) rfl rfl (by kernel_rfl) (by kernel_rfl) (by kernel_rfl) (fun _ _ _ h => h) (Or.inl ⟨by rfl, fun W hSw => by go_simp⟩) hH ?_
              simp only [put_some, List.set_cons_zero, List.set_cons_succ]
              refine takeH (i := 11) (d := some 56) (v := .slice (some ⟨g, 0, none⟩) m cp) rfl rfl (by kernel_rfl) (by kernel_rfl) (by kernel_rfl) (fun _ _ _ h => h) (Or.inl ⟨by rfl, fun W hSw => by go_simp⟩) hH ?_
              simp only [put_some, List.set_cons_zero, List.set_cons_succ]
              refine takeH (i := 12) (d := some 57) (v := .int .i64 (j : Int)) rfl rfl (by kernel_rfl) (by kernel_rfl) (by kernel_rfl) (fun _ _ _ h => h) (Or.inl ⟨by rfl, fun W hSw => by go_simp⟩) hH ?_
              simp only [put_some, List.set_cons_zero, List.set_cons_succ]
              refine takeH (i := 13) (d := some 58) (v := .slice (some ⟨g, tl, none⟩) (m - j) (cp - j)) rfl rfl (by kernel_rfl) (by kernel_rfl) (by kernel_rfl) (fun _ _ _ h => h) (Or.inl ⟨by rfl, fun W hSw => by go_simp⟩) hH ?_
              simp only [put_some, List.set_cons_zero, List.set_cons_succ]
              clear htl hjcp
              have D9 : Hid (∀ W, Below W9.heap.size W9 W → (∀ i u, (vals (d.take j))[i]? = some u → W.cell? ⟨g, 0 + i, none⟩ = some u) ∧ (∀ i u, (vals (d.drop j))[i]? = some u → W.cell? ⟨g, tl + i, none⟩ = some u)) := tails HM.out HDL.out hjm hcp HTL.out B9
              have S9 : Hid (∀ W, Below W9.heap.size W9 W → W.cell? ⟨b, off + k * 3, none⟩ = some (.int .i64 xt) ∧ W.cell? ⟨b, off + k * 3 + 1, none⟩ = some (.int .i64 xn) ∧ W.cell? ⟨b, off + k * 3 + 2, none⟩ = some (.string xs)) := fun W h => ⟨(h.cell (p := ⟨b, off + k * 3, none⟩) (lt_of_cell c3')).trans c3', (h.cell (p := ⟨b, off + k * 3 + 1, none⟩) (lt_of_cell c4')).trans c4', (h.cell (p := ⟨b, off + k * 3 + 2, none⟩) (lt_of_cell c5')).trans c5'⟩
              have HVL : Hid ((vals (d.take j)).length = j * 3 ∧ (vals (d.drop j)).length = (m - j) * 3) := by
                have e := HM.out
                refine ⟨?_, ?_⟩
                · rw [vals_len, List.length_take]; congr 1; omega
                · rw [vals_len, List.length_drop, e]
              have HFIN : Hid ((vals (d.take j) ++ V.cs ⟨xt, xn, xs⟩) ++ vals (d.drop j) = vals (insV d ⟨xt, xn, xs⟩) ∧ j + 1 + (m - j) = (insV d ⟨xt, xn, xs⟩).length) := by
                have e := HM.out
                rw [HO.out]
                refine ⟨by simp [vals], ?_⟩
                simp only [List.length_append, List.length_take, List.length_drop, List.length_cons, List.length_nil]
                omega
              have B0 : Below W9.heap.size W9 W9.drew := (Below.refl _ _).drew
              generalize hW0 : W9.drew = W0 at hH B0 ⊢
              clear hW0 c3' c4' c5'
              refine wpAnyH_ready (rs := [0, 9]) (by kernel_rfl) (by simp) ?_
              refine AllReadyH.cons rfl (fun K hK => ?_) (AllReadyH.cons rfl (fun K hK => ?_) AllReadyH.nil)
              · skip
                go_simp
                have B1 := B0.alloc B0.size (.cells #[] 77)
                have O1 := own_none (e := 77) (N := W9.heap.size) W0 B0.size
                refine hK.out _ _ (S9.out _ B1) (fun hH => ?_)
                clear hK K
                generalize W0.heap.size = g45 at O1 ⊢
                generalize W0.alloc (.cells #[] 77) = W1 at B1 O1 hH ⊢
                refine wpAnyH_ready (rs := [4, 9]) (by kernel_rfl) (by simp) ?_
                refine AllReadyH.cons rfl (fun K hK => ?_) (AllReadyH.cons rfl (fun K hK => ?_) AllReadyH.nil)
                · skip
                  refine append_op Tryz.elemVals (.tmp 45) (.tmp 48) rfl W9.heap.size W1.heap.size (.slice (some ⟨g45, 0, none⟩) 0 0) 0 [] rfl O1 g 0 j cp (vals (d.take j)) rfl HVL.out.1 (D9.out _ B1).1 (vals_one _) (by unfold maxLen; omega) (by omega) ?_
                  intro v49 W2 O2 E2
                  have B2 := B1.trans (E2.below O1)
                  rw [Nat.zero_add, List.nil_append] at O2
                  obtain ⟨g49, c49, rfl⟩ : ∃ g c, v49 = .slice (some ⟨g, 0, none⟩) (j) c := by obtain ⟨g, c, e, _⟩ := O2; exact ⟨g, c, e⟩
                  refine hK.out _ _ (S9.out _ B2) (fun hH => ?_)
                  clear hK K E2
                  refine wpAnyH_ready (rs := [9]) (by kernel_rfl) (by simp) ?_
                  refine AllReadyH.cons rfl (fun K hK => ?_) AllReadyH.nil
                  go_simp
                  have B3 := B2.alloc B2.size (.cells #[.int .i64 xt, .int .i64 xn, .string xs] 77)
                  have L3 : Lit1 W9.heap.size _ _ _ := Lit1.new W2 ⟨xt, xn, xs⟩ 77 B2.size
                  have N3 := O2.notNew
                  have O3 := O2.stay (.cells #[.int .i64 xt, .int .i64 xn, .string xs] 77)
                  refine hK.out _ _ (S9.out _ B3) (fun hH => ?_)
                  clear hK K
                  generalize W2.heap.size = g54 at L3 O3 N3 ⊢
                  generalize W2.alloc (.cells #[.int .i64 xt, .int .i64 xn, .string xs] 77) = W3 at B3 L3 O3 hH ⊢
                  refine wpAnyH_ready (rs := [10]) (by kernel_rfl) (by simp) ?_
                  refine AllReadyH.cons rfl (fun K hK => ?_) AllReadyH.nil
                  refine append_op Tryz.elemVals (.tmp 49) (.tmp 54) rfl W9.heap.size W3.heap.size (.slice (some ⟨g49, 0, none⟩) j c49) j (vals (d.take j)) rfl O3 g54 0 1 1 (V.cs ⟨xt, xn, xs⟩) rfl rfl L3.2.2 (fun u hu => vals_one [⟨xt, xn, xs⟩] u (by simpa [vals] using hu)) (by unfold maxLen; omega) (by omega) ?_
                  intro v55 W4 O4 E4
                  have B4 := B3.trans (E4.below O3)
                  obtain ⟨g55, c55, rfl⟩ : ∃ g c, v55 = .slice (some ⟨g, 0, none⟩) (j + 1) c := by obtain ⟨g, c, e, _⟩ := O4; exact ⟨g, c, e⟩
                  refine hK.out _ _ (S9.out _ B4) (fun hH => ?_)
                  clear hK K E4
                  refine wpAnyH_ready (rs := [14]) (by kernel_rfl) (by simp) ?_
                  refine AllReadyH.cons rfl (fun K hK => ?_) AllReadyH.nil
                  refine append_op Tryz.elemVals (.tmp 55) (.tmp 58) rfl W9.heap.size W4.heap.size (.slice (some ⟨g55, 0, none⟩) (j + 1) c55) (j + 1) (vals (d.take j) ++ V.cs ⟨xt, xn, xs⟩) rfl O4 g tl (m - j) (cp - j) (vals (d.drop j)) rfl HVL.out.2 (D9.out _ B4).2 (vals_one _) (by unfold maxLen; omega) (by omega) ?_
                  intro v59 W5 O5 E5
                  have B5 := B4.trans (E5.below O4)
                  rw [HFIN.out.1, HFIN.out.2] at O5
                  obtain ⟨g59, c59, rfl⟩ : ∃ g c, v59 = .slice (some ⟨g, 0, none⟩) (insV d ⟨xt, xn, xs⟩).length c := by obtain ⟨g, c, e, _⟩ := O5; exact ⟨g, c, e⟩
                  refine hK.out _ _ (S9.out _ B5) (fun hH => ?_)
                  clear hK K E5
                  refine takeH (i := 15) (d := some 3) (v := .slice (some ⟨g59, 0, none⟩) (insV d ⟨xt, xn, xs⟩).length c59) rfl rfl (by kernel_rfl) (by kernel_rfl) (by kernel_rfl) (fun _ _ _ h => h) (Or.inl ⟨by rfl, fun W hSw => by go_simp⟩) hH ?_
                  try simp only [put_some, List.set_cons_zero, List.set_cons_succ]
                  have OF := Lib.hid O5
                  have BF := Lib.hid B5
                  clear O5 B5
                  refine wpAnyH_done (by kernel_rfl) ?_ _
                  go_wp2
                  go_roundw
                  case rel => exact ⟨k + 1, by omega, by go_num, by rw [HSK.out]; exact OF.out.lower (Nat.le_trans HBR.out.size B9.size), below_then HBR.out (below_then B9 BF.out B9.size) HBR.out.size⟩
                  case measure => simp [intOf]; omega
                · skip
                  go_simp
                  have B2 := B1.alloc B1.size (.cells #[.int .i64 xt, .int .i64 xn, .string xs] 77)
                  have L2 : Lit1 W9.heap.size _ _ _ := Lit1.new W1 ⟨xt, xn, xs⟩ 77 B1.size
                  have N2 := O1.notNew
                  have O2 := O1.stay (.cells #[.int .i64 xt, .int .i64 xn, .string xs] 77)
                  refine hK.out _ _ (S9.out _ B2) (fun hH => ?_)
                  clear hK K
                  generalize W1.heap.size = g54 at L2 O2 N2 ⊢
                  generalize W1.alloc (.cells #[.int .i64 xt, .int .i64 xn, .string xs] 77) = W2 at B2 L2 O2 hH ⊢
                  refine wpAnyH_ready (rs := [4]) (by kernel_rfl) (by simp) ?_
                  refine AllReadyH.cons rfl (fun K hK => ?_) AllReadyH.nil
                  refine append_op Tryz.elemVals (.tmp 45) (.tmp 48) rfl W9.heap.size W2.heap.size (.slice (some ⟨g45, 0, none⟩) 0 0) 0 [] rfl O2 g 0 j cp (vals (d.take j)) rfl HVL.out.1 (D9.out _ B2).1 (vals_one _) (by unfold maxLen; omega) (by omega) ?_
                  intro v49 W3 O3 E3
                  have B3 := B2.trans (E3.below O2)
                  obtain ⟨L3, N3⟩ := L2.ext N2 E3
                  rw [Nat.zero_add, List.nil_append] at O3
                  obtain ⟨g49, c49, rfl⟩ : ∃ g c, v49 = .slice (some ⟨g, 0, none⟩) (j) c := by obtain ⟨g, c, e, _⟩ := O3; exact ⟨g, c, e⟩
                  refine hK.out _ _ (S9.out _ B3) (fun hH => ?_)
                  clear hK K E3
                  refine wpAnyH_ready (rs := [10]) (by kernel_rfl) (by simp) ?_
                  refine AllReadyH.cons rfl (fun K hK => ?_) AllReadyH.nil
                  refine append_op Tryz.elemVals (.tmp 49) (.tmp 54) rfl W9.heap.size W3.heap.size (.slice (some ⟨g49, 0, none⟩) j c49) j (vals (d.take j)) rfl O3 g54 0 1 1 (V.cs ⟨xt, xn, xs⟩) rfl rfl L3.2.2 (fun u hu => vals_one [⟨xt, xn, xs⟩] u (by simpa [vals] using hu)) (by unfold maxLen; omega) (by omega) ?_
                  intro v55 W4 O4 E4
                  have B4 := B3.trans (E4.below O3)
                  obtain ⟨g55, c55, rfl⟩ : ∃ g c, v55 = .slice (some ⟨g, 0, none⟩) (j + 1) c := by obtain ⟨g, c, e, _⟩ := O4; exact ⟨g, c, e⟩
                  refine hK.out _ _ (S9.out _ B4) (fun hH => ?_)
                  clear hK K E4
                  refine wpAnyH_ready (rs := [14]) (by kernel_rfl) (by simp) ?_
                  refine AllReadyH.cons rfl (fun K hK => ?_) AllReadyH.nil
                  refine append_op Tryz.elemVals (.tmp 55) (.tmp 58) rfl W9.heap.size W4.heap.size (.slice (some ⟨g55, 0, none⟩) (j + 1) c55) (j + 1) (vals (d.take j) ++ V.cs ⟨xt, xn, xs⟩) rfl O4 g tl (m - j) (cp - j) (vals (d.drop j)) rfl HVL.out.2 (D9.out _ B4).2 (vals_one _) (by unfold maxLen; omega) (by omega) ?_
                  intro v59 W5 O5 E5
                  have B5 := B4.trans (E5.below O4)
                  rw [HFIN.out.1, HFIN.out.2] at O5
                  obtain ⟨g59, c59, rfl⟩ : ∃ g c, v59 = .slice (some ⟨g, 0, none⟩) (insV d ⟨xt, xn, xs⟩).length c := by obtain ⟨g, c, e, _⟩ := O5; exact ⟨g, c, e⟩
                  refine hK.out _ _ (S9.out _ B5) (fun hH => ?_)
                  clear hK K E5
                  refine takeH (i := 15) (d := some 3) (v := .slice (some ⟨g59, 0, none⟩) (insV d ⟨xt, xn, xs⟩).length c59) rfl rfl (by kernel_rfl) (by kernel_rfl) (by kernel_rfl) (fun _ _ _ h => h) (Or.inl ⟨by rfl, fun W hSw => by go_simp⟩) hH ?_
                  try simp only [put_some, List.set_cons_zero, List.set_cons_succ]
                  have OF := Lib.hid O5
                  have BF := Lib.hid B5
                  clear O5 B5
                  refine wpAnyH_done (by kernel_rfl) ?_ _
                  go_wp2
                  go_roundw
                  case rel => exact ⟨k + 1, by omega, by go_num, by rw [HSK.out]; exact OF.out.lower (Nat.le_trans HBR.out.size B9.size), below_then HBR.out (below_then B9 BF.out B9.size) HBR.out.size⟩
                  case measure => simp [intOf]; omega
              · skip
                go_simp
                have B1 := B0.alloc B0.size (.cells #[.int .i64 xt, .int .i64 xn, .string xs] 77)
                have L1 : Lit1 W9.heap.size _ _ _ := Lit1.new W0 ⟨xt, xn, xs⟩ 77 B0.size
                refine hK.out _ _ (S9.out _ B1) (fun hH => ?_)
                clear hK K
                generalize W0.heap.size = g54 at L1 ⊢
                generalize W0.alloc (.cells #[.int .i64 xt, .int .i64 xn, .string xs] 77) = W1 at B1 L1 hH ⊢
                refine wpAnyH_ready (rs := [0]) (by kernel_rfl) (by simp) ?_
                refine AllReadyH.cons rfl (fun K hK => ?_) AllReadyH.nil
                go_simp
                have B2 := B1.alloc B1.size (.cells #[] 77)
                have O2 := own_none (e := 77) (N := W9.heap.size) W1 B1.size
                have L2 := L1.alloc (.cells #[] 77)
                have N2 : Value.ownBlock (.slice (some ⟨W1.heap.size, 0, none⟩) 0 0) ≠ some g54 := by have := L1.2.1; simp only [Value.ownBlock, ne_eq, Option.some.injEq]; omega
                refine hK.out _ _ (S9.out _ B2) (fun hH => ?_)
                clear hK K
                generalize W1.heap.size = g45 at O2 L2 N2 ⊢
                generalize W1.alloc (.cells #[] 77) = W2 at B2 O2 L2 hH ⊢
                refine wpAnyH_ready (rs := [4]) (by kernel_rfl) (by simp) ?_
                refine AllReadyH.cons rfl (fun K hK => ?_) AllReadyH.nil
                refine append_op Tryz.elemVals (.tmp 45) (.tmp 48) rfl W9.heap.size W2.heap.size (.slice (some ⟨g45, 0, none⟩) 0 0) 0 [] rfl O2 g 0 j cp (vals (d.take j)) rfl HVL.out.1 (D9.out _ B2).1 (vals_one _) (by unfold maxLen; omega) (by omega) ?_
                intro v49 W3 O3 E3
                have B3 := B2.trans (E3.below O2)
                obtain ⟨L3, N3⟩ := L2.ext N2 E3
                rw [Nat.zero_add, List.nil_append] at O3
                obtain ⟨g49, c49, rfl⟩ : ∃ g c, v49 = .slice (some ⟨g, 0, none⟩) (j) c := by obtain ⟨g, c, e, _⟩ := O3; exact ⟨g, c, e⟩
                refine hK.out _ _ (S9.out _ B3) (fun hH => ?_)
                clear hK K E3
                refine wpAnyH_ready (rs := [10]) (by kernel_rfl) (by simp) ?_
                refine AllReadyH.cons rfl (fun K hK => ?_) AllReadyH.nil
                refine append_op Tryz.elemVals (.tmp 49) (.tmp 54) rfl W9.heap.size W3.heap.size (.slice (some ⟨g49, 0, none⟩) j c49) j (vals (d.take j)) rfl O3 g54 0 1 1 (V.cs ⟨xt, xn, xs⟩) rfl rfl L3.2.2 (fun u hu => vals_one [⟨xt, xn, xs⟩] u (by simpa [vals] using hu)) (by unfold maxLen; omega) (by omega) ?_
                intro v55 W4 O4 E4
                have B4 := B3.trans (E4.below O3)
                obtain ⟨g55, c55, rfl⟩ : ∃ g c, v55 = .slice (some ⟨g, 0, none⟩) (j + 1) c := by obtain ⟨g, c, e, _⟩ := O4; exact ⟨g, c, e⟩
                refine hK.out _ _ (S9.out _ B4) (fun hH => ?_)
                clear hK K E4
                refine wpAnyH_ready (rs := [14]) (by kernel_rfl) (by simp) ?_
                refine AllReadyH.cons rfl (fun K hK => ?_) AllReadyH.nil
                refine append_op Tryz.elemVals (.tmp 55) (.tmp 58) rfl W9.heap.size W4.heap.size (.slice (some ⟨g55, 0, none⟩) (j + 1) c55) (j + 1) (vals (d.take j) ++ V.cs ⟨xt, xn, xs⟩) rfl O4 g tl (m - j) (cp - j) (vals (d.drop j)) rfl HVL.out.2 (D9.out _ B4).2 (vals_one _) (by unfold maxLen; omega) (by omega) ?_
                intro v59 W5 O5 E5
                have B5 := B4.trans (E5.below O4)
                rw [HFIN.out.1, HFIN.out.2] at O5
                obtain ⟨g59, c59, rfl⟩ : ∃ g c, v59 = .slice (some ⟨g, 0, none⟩) (insV d ⟨xt, xn, xs⟩).length c := by obtain ⟨g, c, e, _⟩ := O5; exact ⟨g, c, e⟩
                refine hK.out _ _ (S9.out _ B5) (fun hH => ?_)
                clear hK K E5
                refine takeH (i := 15) (d := some 3) (v := .slice (some ⟨g59, 0, none⟩) (insV d ⟨xt, xn, xs⟩).length c59) rfl rfl (by kernel_rfl) (by kernel_rfl) (by kernel_rfl) (fun _ _ _ h => h) (Or.inl ⟨by rfl, fun W hSw => by go_simp⟩) hH ?_
                try simp only [put_some, List.set_cons_zero, List.set_cons_succ]
                have OF := Lib.hid O5
                have BF := Lib.hid B5
                clear O5 B5
                refine wpAnyH_done (by kernel_rfl) ?_ _
                go_wp2
                go_roundw
                case rel => exact ⟨k + 1, by omega, by go_num, by rw [HSK.out]; exact OF.out.lower (Nat.le_trans HBR.out.size B9.size), below_then HBR.out (below_then B9 BF.out B9.size) HBR.out.size⟩
                case measure => simp [intOf]; omega
        · have HJM : Hid (j = m) := by show _ = _; omega
          have HCE := Lib.hid (HSP.out j hjc (.inl (by omega)))
          have HO := Lib.hid (HNEW.out (.inl (by rw [← HCE.out]; exact HJM.out)))
          rw [← HCE.out] at HO
          have HOWN := Lib.hid hown
          have HBR := Lib.hid hbr
          have B3 := Lib.hid hb2
          have hjeq : ((j : Int) == (m : Int)) = true := by simp; omega
          have hjn : (j < m) = False := by simp; omega
          obtain ⟨xt, xn, xs⟩ := x
          simp only at p0 p1 p2
          clear hown hbr hb2 HNEW HOLD HSP HST hjl HCL hjc
          go_wp2
          go_quiet (fail)
          go_wp2
          go_quiet (fail)
          go_wp2
          generalize hW9 : World.drewN (World.drewN wr _) _ = W9
          have B9 : Below wo.heap.size wo W9 := by rw [← hW9]; exact (B3.out.trans (below_drewN _ _ _)).trans (below_drewN _ _ _)
          have c3' : W9.cell? ⟨b, off + k * 3, none⟩ = some (.int .i64 xt) := by rw [← hW9]; exact p0
          have c4' : W9.cell? ⟨b, off + k * 3 + 1, none⟩ = some (.int .i64 xn) := by rw [← hW9]; exact p1
          have c5' : W9.cell? ⟨b, off + k * 3 + 2, none⟩ = some (.string xs) := by rw [← hW9]; exact p2
          clear p0 p1 p2 hW9
          have hjcp : (cp < j) = False := by simp; omega
          obtain ⟨tl, htl, HTL⟩ : ∃ tl, (if cp = j then some (⟨g, 0, none⟩ : Addr) else some ⟨g, j * 3, none⟩) = some ⟨g, tl, none⟩ ∧ Hid (j < cp → tl = j * 3) := by
            by_cases e : cp = j
            · exact ⟨0, by rw [if_pos e], fun h => by omega⟩
            · exact ⟨j * 3, by rw [if_neg e], fun _ => rfl⟩
          refine wp_region_held_drew (S := fun W => W.cell? ⟨b, off + k * 3, none⟩ = some (.int .i64 xt) ∧ W.cell? ⟨b, off + k * 3 + 1, none⟩ = some (.int .i64 xn) ∧ W.cell? ⟨b, off + k * 3 + 2, none⟩ = some (.string xs)) (by kernel_rfl) ⟨c3', c4', c5'⟩ (fun hH => ?_)
          refine takeH (i := 1) (d := some 46) (v := .slice (some ⟨g, 0, none⟩) m cp) rfl rfl (by kernel_rfl) (by kernel_rfl) (by kernel_rfl) (fun _ _ _ h => h) (Or.inl ⟨by rfl, fun W hSw => by go_simp⟩) hH ?_
          simp only [put_some, List.set_cons_zero, List.set_cons_succ]
          refine takeH (i := 2) (d := some 47) (v := .int .i64 (j : Int)) rfl rfl (by kernel_rfl) (by kernel_rfl) (by kernel_rfl) (fun _ _ _ h => h) (Or.inl ⟨by rfl, fun W hSw => by go_simp⟩) hH ?_
          simp only [put_some, List.set_cons_zero, List.set_cons_succ]
          refine takeH (i := 3) (d := some 48) (v := .slice (some ⟨g, 0, none⟩) j cp) rfl rfl (by kernel_rfl) (by kernel_rfl) (by kernel_rfl) (fun _ _ _ h => h) (Or.inl ⟨by rfl, fun W hSw => by go_simp⟩) hH ?_
          simp only [put_some, List.set_cons_zero, List.set_cons_succ]
          refine takeH (i := 5) (d := some 50) (v := .slice (some ⟨b, off, none⟩) n cap) rfl rfl (by kernel_rfl) (by kernel_rfl) (by kernel_rfl) (fun _ _ _ h => h) (Or.inl ⟨by rfl, fun W hSw => by go_simp⟩) hH ?_
          simp only [put_some, List.set_cons_zero, List.set_cons_succ]
          refine takeH (i := 6) (d := some 51) (v := .int .i64 (k : Int)) rfl rfl (by kernel_rfl) (by kernel_rfl) (by kernel_rfl) (fun _ _ _ h => h) (Or.inl ⟨by rfl, fun W hSw => by go_simp⟩) hH ?_
          simp only [put_some, List.set_cons_zero, List.set_cons_succ]
          refine takeH (i := 7) (d := some 52) (v := .pointer (some ⟨b, off + k * 3, none⟩)) rfl rfl (by kernel_rfl) (by kernel_rfl) (by kernel_rfl) (fun _ _ _ h => h) (Or.inl ⟨by rfl, fun W hSw => by go_simp⟩) hH ?_
          simp only [put_some, List.set_cons_zero, List.set_cons_succ]
          refine takeH (i := 8) (d := some 53) (v := .agg #[.int .i64 xt, .int .i64 xn, .string xs]) rfl rfl (by kernel_rfl) (by kernel_rfl) (by kernel_rfl) (fun _ _ _ h => h) (Or.inl ⟨by rfl, fun W hSw => by go_simp⟩) hH ?_
          simp only [put_some, List.set_cons_zero, List.set_cons_succ]
          refine takeH (i := 11) (d := some 56) (v := .slice (some ⟨g, 0, none⟩) m cp) rfl rfl (by kernel_rfl) (by kernel_rfl) (by kernel_rfl) (fun _ _ _ h => h) (Or.inl ⟨by rfl, fun W hSw => by go_simp⟩) hH ?_
          simp only [put_some, List.set_cons_zero, List.set_cons_succ]
          refine takeH (i := 12) (d := some 57) (v := .int .i64 (j : Int)) rfl rfl (by kernel_rfl) (by kernel_rfl) (by kernel_rfl) (fun _ _ _ h => h) (Or.inl ⟨by rfl, fun W hSw => by go_simp⟩) hH ?_
          simp only [put_some, List.set_cons_zero, List.set_cons_succ]
          refine takeH (i := 13) (d := some 58) (v := .slice (some ⟨g, tl, none⟩) (m - j) (cp - j)) rfl rfl (by kernel_rfl) (by kernel_rfl) (by kernel_rfl) (fun _ _ _ h => h) (Or.inl ⟨by rfl, fun W hSw => by go_simp⟩) hH ?_
          simp only [put_some, List.set_cons_zero, List.set_cons_succ]
          clear htl hjcp
          have D9 : Hid (∀ W, Below W9.heap.size W9 W → (∀ i u, (vals (d.take j))[i]? = some u → W.cell? ⟨g, 0 + i, none⟩ = some u) ∧ (∀ i u, (vals (d.drop j))[i]? = some u → W.cell? ⟨g, tl + i, none⟩ = some u)) := tails HM.out HDL.out hjm hcp HTL.out B9
          have S9 : Hid (∀ W, Below W9.heap.size W9 W → W.cell? ⟨b, off + k * 3, none⟩ = some (.int .i64 xt) ∧ W.cell? ⟨b, off + k * 3 + 1, none⟩ = some (.int .i64 xn) ∧ W.cell? ⟨b, off + k * 3 + 2, none⟩ = some (.string xs)) := fun W h => ⟨(h.cell (p := ⟨b, off + k * 3, none⟩) (lt_of_cell c3')).trans c3', (h.cell (p := ⟨b, off + k * 3 + 1, none⟩) (lt_of_cell c4')).trans c4', (h.cell (p := ⟨b, off + k * 3 + 2, none⟩) (lt_of_cell c5')).trans c5'⟩
          have HVL : Hid ((vals (d.take j)).length = j * 3 ∧ (vals (d.drop j)).length = (m - j) * 3) := by
            have e := HM.out
            refine ⟨?_, ?_⟩
            · rw [vals_len, List.length_take]; congr 1; omega
            · rw [vals_len, List.length_drop, e]
          have HFIN : Hid ((vals (d.take j) ++ V.cs ⟨xt, xn, xs⟩) ++ vals (d.drop j) = vals (insV d ⟨xt, xn, xs⟩) ∧ j + 1 + (m - j) = (insV d ⟨xt, xn, xs⟩).length) := by
            have e := HM.out
            rw [HO.out]
            refine ⟨by simp [vals], ?_⟩
            simp only [List.length_append, List.length_take, List.length_drop, List.length_cons, List.length_nil]
            omega
          have B0 : Below W9.heap.size W9 W9.drew := (Below.refl _ _).drew
          generalize hW0 : W9.drew = W0 at hH B0 ⊢
          clear hW0 c3' c4' c5'
          refine wpAnyH_ready (rs := [0, 9]) (by kernel_rfl) (by simp) ?_
          refine AllReadyH.cons rfl (fun K hK => ?_) (AllReadyH.cons rfl (fun K hK => ?_) AllReadyH.nil)
          · skip
            go_simp
            have B1 := B0.alloc B0.size (.cells #[] 77)
            have O1 := own_none (e := 77) (N := W9.heap.size) W0 B0.size
            refine hK.out _ _ (S9.out _ B1) (fun hH => ?_)
            clear hK K
            generalize W0.heap.size = g45 at O1 ⊢
            generalize W0.alloc (.cells #[] 77) = W1 at B1 O1 hH ⊢
            refine wpAnyH_ready (rs := [4, 9]) (by kernel_rfl) (by simp) ?_
            refine AllReadyH.cons rfl (fun K hK => ?_) (AllReadyH.cons rfl (fun K hK => ?_) AllReadyH.nil)
            · skip
              refine append_op Tryz.elemVals (.tmp 45) (.tmp 48) rfl W9.heap.size W1.heap.size (.slice (some ⟨g45, 0, none⟩) 0 0) 0 [] rfl O1 g 0 j cp (vals (d.take j)) rfl HVL.out.1 (D9.out _ B1).1 (vals_one _) (by unfold maxLen; omega) (by omega) ?_
              intro v49 W2 O2 E2
              have B2 := B1.trans (E2.below O1)
              rw [Nat.zero_add, List.nil_append] at O2
              obtain ⟨g49, c49, rfl⟩ : ∃ g c, v49 = .slice (some ⟨g, 0, none⟩) (j) c := by obtain ⟨g, c, e, _⟩ := O2; exact ⟨g, c, e⟩
              refine hK.out _ _ (S9.out _ B2) (fun hH => ?_)
              clear hK K E2
              refine wpAnyH_ready (rs := [9]) (by kernel_rfl) (by simp) ?_
              refine AllReadyH.cons rfl (fun K hK => ?_) AllReadyH.nil
              go_simp
              have B3 := B2.alloc B2.size (.cells #[.int .i64 xt, .int .i64 xn, .string xs] 77)
              have L3 : Lit1 W9.heap.size _ _ _ := Lit1.new W2 ⟨xt, xn, xs⟩ 77 B2.size
              have N3 := O2.notNew
              have O3 := O2.stay (.cells #[.int .i64 xt, .int .i64 xn, .string xs] 77)
              refine hK.out _ _ (S9.out _ B3) (fun hH => ?_)
              clear hK K
              generalize W2.heap.size = g54 at L3 O3 N3 ⊢
              generalize W2.alloc (.cells #[.int .i64 xt, .int .i64 xn, .string xs] 77) = W3 at B3 L3 O3 hH ⊢
              refine wpAnyH_ready (rs := [10]) (by kernel_rfl) (by simp) ?_
              refine AllReadyH.cons rfl (fun K hK => ?_) AllReadyH.nil
              refine append_op Tryz.elemVals (.tmp 49) (.tmp 54) rfl W9.heap.size W3.heap.size (.slice (some ⟨g49, 0, none⟩) j c49) j (vals (d.take j)) rfl O3 g54 0 1 1 (V.cs ⟨xt, xn, xs⟩) rfl rfl L3.2.2 (fun u hu => vals_one [⟨xt, xn, xs⟩] u (by simpa [vals] using hu)) (by unfold maxLen; omega) (by omega) ?_
              intro v55 W4 O4 E4
              have B4 := B3.trans (E4.below O3)
              obtain ⟨g55, c55, rfl⟩ : ∃ g c, v55 = .slice (some ⟨g, 0, none⟩) (j + 1) c := by obtain ⟨g, c, e, _⟩ := O4; exact ⟨g, c, e⟩
              refine hK.out _ _ (S9.out _ B4) (fun hH => ?_)
              clear hK K E4
              refine wpAnyH_ready (rs := [14]) (by kernel_rfl) (by simp) ?_
              refine AllReadyH.cons rfl (fun K hK => ?_) AllReadyH.nil
              refine append_op Tryz.elemVals (.tmp 55) (.tmp 58) rfl W9.heap.size W4.heap.size (.slice (some ⟨g55, 0, none⟩) (j + 1) c55) (j + 1) (vals (d.take j) ++ V.cs ⟨xt, xn, xs⟩) rfl O4 g tl (m - j) (cp - j) (vals (d.drop j)) rfl HVL.out.2 (D9.out _ B4).2 (vals_one _) (by unfold maxLen; omega) (by omega) ?_
              intro v59 W5 O5 E5
              have B5 := B4.trans (E5.below O4)
              rw [HFIN.out.1, HFIN.out.2] at O5
              obtain ⟨g59, c59, rfl⟩ : ∃ g c, v59 = .slice (some ⟨g, 0, none⟩) (insV d ⟨xt, xn, xs⟩).length c := by obtain ⟨g, c, e, _⟩ := O5; exact ⟨g, c, e⟩
              refine hK.out _ _ (S9.out _ B5) (fun hH => ?_)
              clear hK K E5
              refine takeH (i := 15) (d := some 3) (v := .slice (some ⟨g59, 0, none⟩) (insV d ⟨xt, xn, xs⟩).length c59) rfl rfl (by kernel_rfl) (by kernel_rfl) (by kernel_rfl) (fun _ _ _ h => h) (Or.inl ⟨by rfl, fun W hSw => by go_simp⟩) hH ?_
              try simp only [put_some, List.set_cons_zero, List.set_cons_succ]
              have OF := Lib.hid O5
              have BF := Lib.hid B5
              clear O5 B5
              refine wpAnyH_done (by kernel_rfl) ?_ _
              go_wp2
              go_roundw
              case rel => exact ⟨k + 1, by omega, by go_num, by rw [HSK.out]; exact OF.out.lower (Nat.le_trans HBR.out.size B9.size), below_then HBR.out (below_then B9 BF.out B9.size) HBR.out.size⟩
              case measure => simp [intOf]; omega
            · skip
              go_simp
              have B2 := B1.alloc B1.size (.cells #[.int .i64 xt, .int .i64 xn, .string xs] 77)
              have L2 : Lit1 W9.heap.size _ _ _ := Lit1.new W1 ⟨xt, xn, xs⟩ 77 B1.size
              have N2 := O1.notNew
              have O2 := O1.stay (.cells #[.int .i64 xt, .int .i64 xn, .string xs] 77)
              refine hK.out _ _ (S9.out _ B2) (fun hH => ?_)
              clear hK K
              generalize W1.heap.size = g54 at L2 O2 N2 ⊢
              generalize W1.alloc (.cells #[.int .i64 xt, .int .i64 xn, .string xs] 77) = W2 at B2 L2 O2 hH ⊢
              refine wpAnyH_ready (rs := [4]) (by kernel_rfl) (by simp) ?_
              refine AllReadyH.cons rfl (fun K hK => ?_) AllReadyH.nil
              refine append_op Tryz.elemVals (.tmp 45) (.tmp 48) rfl W9.heap.size W2.heap.size (.slice (some ⟨g45, 0, none⟩) 0 0) 0 [] rfl O2 g 0 j cp (vals (d.take j)) rfl HVL.out.1 (D9.out _ B2).1 (vals_one _) (by unfold maxLen; omega) (by omega) ?_
              intro v49 W3 O3 E3
              have B3 := B2.trans (E3.below O2)
              obtain ⟨L3, N3⟩ := L2.ext N2 E3
              rw [Nat.zero_add, List.nil_append] at O3
              obtain ⟨g49, c49, rfl⟩ : ∃ g c, v49 = .slice (some ⟨g, 0, none⟩) (j) c := by obtain ⟨g, c, e, _⟩ := O3; exact ⟨g, c, e⟩
              refine hK.out _ _ (S9.out _ B3) (fun hH => ?_)
              clear hK K E3
              refine wpAnyH_ready (rs := [10]) (by kernel_rfl) (by simp) ?_
              refine AllReadyH.cons rfl (fun K hK => ?_) AllReadyH.nil
              refine append_op Tryz.elemVals (.tmp 49) (.tmp 54) rfl W9.heap.size W3.heap.size (.slice (some ⟨g49, 0, none⟩) j c49) j (vals (d.take j)) rfl O3 g54 0 1 1 (V.cs ⟨xt, xn, xs⟩) rfl rfl L3.2.2 (fun u hu => vals_one [⟨xt, xn, xs⟩] u (by simpa [vals] using hu)) (by unfold maxLen; omega) (by omega) ?_
              intro v55 W4 O4 E4
              have B4 := B3.trans (E4.below O3)
              obtain ⟨g55, c55, rfl⟩ : ∃ g c, v55 = .slice (some ⟨g, 0, none⟩) (j + 1) c := by obtain ⟨g, c, e, _⟩ := O4; exact ⟨g, c, e⟩
              refine hK.out _ _ (S9.out _ B4) (fun hH => ?_)
              clear hK K E4
              refine wpAnyH_ready (rs := [14]) (by kernel_rfl) (by simp) ?_
              refine AllReadyH.cons rfl (fun K hK => ?_) AllReadyH.nil
              refine append_op Tryz.elemVals (.tmp 55) (.tmp 58) rfl W9.heap.size W4.heap.size (.slice (some ⟨g55, 0, none⟩) (j + 1) c55) (j + 1) (vals (d.take j) ++ V.cs ⟨xt, xn, xs⟩) rfl O4 g tl (m - j) (cp - j) (vals (d.drop j)) rfl HVL.out.2 (D9.out _ B4).2 (vals_one _) (by unfold maxLen; omega) (by omega) ?_
              intro v59 W5 O5 E5
              have B5 := B4.trans (E5.below O4)
              rw [HFIN.out.1, HFIN.out.2] at O5
              obtain ⟨g59, c59, rfl⟩ : ∃ g c, v59 = .slice (some ⟨g, 0, none⟩) (insV d ⟨xt, xn, xs⟩).length c := by obtain ⟨g, c, e, _⟩ := O5; exact ⟨g, c, e⟩
              refine hK.out _ _ (S9.out _ B5) (fun hH => ?_)
              clear hK K E5
              refine takeH (i := 15) (d := some 3) (v := .slice (some ⟨g59, 0, none⟩) (insV d ⟨xt, xn, xs⟩).length c59) rfl rfl (by kernel_rfl) (by kernel_rfl) (by kernel_rfl) (fun _ _ _ h => h) (Or.inl ⟨by rfl, fun W hSw => by go_simp⟩) hH ?_
              try simp only [put_some, List.set_cons_zero, List.set_cons_succ]
              have OF := Lib.hid O5
              have BF := Lib.hid B5
              clear O5 B5
              refine wpAnyH_done (by kernel_rfl) ?_ _
              go_wp2
              go_roundw
              case rel => exact ⟨k + 1, by omega, by go_num, by rw [HSK.out]; exact OF.out.lower (Nat.le_trans HBR.out.size B9.size), below_then HBR.out (below_then B9 BF.out B9.size) HBR.out.size⟩
              case measure => simp [intOf]; omega
          · skip
            go_simp
            have B1 := B0.alloc B0.size (.cells #[.int .i64 xt, .int .i64 xn, .string xs] 77)
            have L1 : Lit1 W9.heap.size _ _ _ := Lit1.new W0 ⟨xt, xn, xs⟩ 77 B0.size
            refine hK.out _ _ (S9.out _ B1) (fun hH => ?_)
            clear hK K
            generalize W0.heap.size = g54 at L1 ⊢
            generalize W0.alloc (.cells #[.int .i64 xt, .int .i64 xn, .string xs] 77) = W1 at B1 L1 hH ⊢
            refine wpAnyH_ready (rs := [0]) (by kernel_rfl) (by simp) ?_
            refine AllReadyH.cons rfl (fun K hK => ?_) AllReadyH.nil
            go_simp
            have B2 := B1.alloc B1.size (.cells #[] 77)
            have O2 := own_none (e := 77) (N := W9.heap.size) W1 B1.size
            have L2 := L1.alloc (.cells #[] 77)
            have N2 : Value.ownBlock (.slice (some ⟨W1.heap.size, 0, none⟩) 0 0) ≠ some g54 := by have := L1.2.1; simp only [Value.ownBlock, ne_eq, Option.some.injEq]; omega
            refine hK.out _ _ (S9.out _ B2) (fun hH => ?_)
            clear hK K
            generalize W1.heap.size = g45 at O2 L2 N2 ⊢
            generalize W1.alloc (.cells #[] 77) = W2 at B2 O2 L2 hH ⊢
            refine wpAnyH_ready (rs := [4]) (by kernel_rfl) (by simp) ?_
            refine AllReadyH.cons rfl (fun K hK => ?_) AllReadyH.nil
            refine append_op Tryz.elemVals (.tmp 45) (.tmp 48) rfl W9.heap.size W2.heap.size (.slice (some ⟨g45, 0, none⟩) 0 0) 0 [] rfl O2 g 0 j cp (vals (d.take j)) rfl HVL.out.1 (D9.out _ B2).1 (vals_one _) (by unfold maxLen; omega) (by omega) ?_
            intro v49 W3 O3 E3
            have B3 := B2.trans (E3.below O2)
            obtain ⟨L3, N3⟩ := L2.ext N2 E3
            rw [Nat.zero_add, List.nil_append] at O3
            obtain ⟨g49, c49, rfl⟩ : ∃ g c, v49 = .slice (some ⟨g, 0, none⟩) (j) c := by obtain ⟨g, c, e, _⟩ := O3; exact ⟨g, c, e⟩
            refine hK.out _ _ (S9.out _ B3) (fun hH => ?_)
            clear hK K E3
            refine wpAnyH_ready (rs := [10]) (by kernel_rfl) (by simp) ?_
            refine AllReadyH.cons rfl (fun K hK => ?_) AllReadyH.nil
            refine append_op Tryz.elemVals (.tmp 49) (.tmp 54) rfl W9.heap.size W3.heap.size (.slice (some ⟨g49, 0, none⟩) j c49) j (vals (d.take j)) rfl O3 g54 0 1 1 (V.cs ⟨xt, xn, xs⟩) rfl rfl L3.2.2 (fun u hu => vals_one [⟨xt, xn, xs⟩] u (by simpa [vals] using hu)) (by unfold maxLen; omega) (by omega) ?_
            intro v55 W4 O4 E4
            have B4 := B3.trans (E4.below O3)
            obtain ⟨g55, c55, rfl⟩ : ∃ g c, v55 = .slice (some ⟨g, 0, none⟩) (j + 1) c := by obtain ⟨g, c, e, _⟩ := O4; exact ⟨g, c, e⟩
            refine hK.out _ _ (S9.out _ B4) (fun hH => ?_)
            clear hK K E4
            refine wpAnyH_ready (rs := [14]) (by kernel_rfl) (by simp) ?_
            refine AllReadyH.cons rfl (fun K hK => ?_) AllReadyH.nil
            refine append_op Tryz.elemVals (.tmp 55) (.tmp 58) rfl W9.heap.size W4.heap.size (.slice (some ⟨g55, 0, none⟩) (j + 1) c55) (j + 1) (vals (d.take j) ++ V.cs ⟨xt, xn, xs⟩) rfl O4 g tl (m - j) (cp - j) (vals (d.drop j)) rfl HVL.out.2 (D9.out _ B4).2 (vals_one _) (by unfold maxLen; omega) (by omega) ?_
            intro v59 W5 O5 E5
            have B5 := B4.trans (E5.below O4)
            rw [HFIN.out.1, HFIN.out.2] at O5
            obtain ⟨g59, c59, rfl⟩ : ∃ g c, v59 = .slice (some ⟨g, 0, none⟩) (insV d ⟨xt, xn, xs⟩).length c := by obtain ⟨g, c, e, _⟩ := O5; exact ⟨g, c, e⟩
            refine hK.out _ _ (S9.out _ B5) (fun hH => ?_)
            clear hK K E5
            refine takeH (i := 15) (d := some 3) (v := .slice (some ⟨g59, 0, none⟩) (insV d ⟨xt, xn, xs⟩).length c59) rfl rfl (by kernel_rfl) (by kernel_rfl) (by kernel_rfl) (fun _ _ _ h => h) (Or.inl ⟨by rfl, fun W hSw => by go_simp⟩) hH ?_
            try simp only [put_some, List.set_cons_zero, List.set_cons_succ]
            have OF := Lib.hid O5
            have BF := Lib.hid B5
            clear O5 B5
            refine wpAnyH_done (by kernel_rfl) ?_ _
            go_wp2
            go_roundw
            case rel => exact ⟨k + 1, by omega, by go_num, by rw [HSK.out]; exact OF.out.lower (Nat.le_trans HBR.out.size B9.size), below_then HBR.out (below_then B9 BF.out B9.size) HBR.out.size⟩
            case measure => simp [intOf]; omega
    · obtain rfl : k = n := by omega
      rw [← HL.out, List.take_length] at hown
      go_wp2
      go_ret
      exact ⟨_, rfl, hown, hbr⟩

end Go.Proofs.YtkofafefnlommaaGreat

/- The contract of the model's EncDict. -/
namespace Go.Proofs.YtkofafefnlommaaGreat
open Go.RowKit

/-- EncDict. -/
def putAll (b : List Int) (d : List V) : List Int := d.foldl putV b
theorem putAll_snoc (b : List Int) (d : List V) (v : V) : putAll b (d ++ [v]) = putV (putAll b d) v := by simp [putAll]
theorem putAll_len (b : List Int) (d : List V) : (putAll b d).length ≤ b.length + 7 * d.length := by
  unfold putAll
  induction d generalizing b with
  | nil => simp
  | cons v d ih =>
    have h1 := ih (putV b v)
    have h2 := (putV_len b v).2
    simp only [List.foldl_cons, List.length_cons]
    omega
theorem putAll_bytes {b : List Int} (h : Num.Bytes b) (d : List V) : Num.Bytes (putAll b d) := by
  unfold putAll
  induction d generalizing b with
  | nil => exact h
  | cons v d ih => exact ih (putV_bytes h v)
def encD (l : List V) : List Int :=
  if typeV l = 0 then [] else putAll (Num.put [] (dictL l).length) (dictL l) ++ Bit.pack (placesL (dictL l) l).1 (Bit.widthI ((dictL l).length - 1))
theorem encD_bytes (l : List V) : Num.Bytes (encD l) := by
  unfold encD
  split
  · exact nil_bytes
  · exact bytes_append (putAll_bytes (Num.put_bytes nil_bytes _) _) (Bit.pack_bytes _ _)
theorem encD_len (l : List V) : (encD l).length ≤ 1024 := by
  unfold encD
  split
  · simp
  · rename_i h
    have h1 := typeV_len h
    have h2 := dict_len l
    have h3 := putAll_len (Num.put [] (dictL l).length) (dictL l)
    have h4 := Num.put_len [] ((dictL l).length : Int)
    have h5 := Bit.pack_le (placesL (dictL l) l).1 (Bit.widthI ((dictL l).length - 1))
    have h6 := places_len (dictL l) l
    simp only [List.length_append, List.length_nil] at *
    omega
theorem dict_all {l : List V} {p : V → Prop} (h : ∀ v ∈ l, p v) : ∀ v ∈ dictL l, p v := fun v hv => h v (mem_dict.1 hv)

set_option maxHeartbeats 2000000 in
theorem sEncDict (u : Value) (l : List V) (w : World) (hn : l.length ≤ 1048576) (hss : ∀ v ∈ l, v.s.size ≤ maxLen) (h : Rd 3 w u l.length (vals l)) :
    Calls Tryz.prog 111 #[u] w fun e w' => ∃ v', e = .returned v' ∧ Own 5 1 w.heap.size w'.heap.size w' v' (encD l).length (ints .u8 (encD l)) ∧ Below w.heap.size w w' := by
  have HE : Hid (encD l = if typeV l = 0 then [] else putAll (Num.put [] (dictL l).length) (dictL l) ++ Bit.pack (placesL (dictL l) l).1 (Bit.widthI ((dictL l).length - 1))) := rfl
  have HTL : Hid (¬ typeV l = 0 → l.length ≤ 64) := typeV_len
  have HT := Lib.hid (sTypeOf u l w hss h)
  have HD := Lib.hid (fun W (hW : Below w.heap.size w W) => sDict u l W hn (h.below hW))
  have HP := Lib.hid (fun x d W (hW : Below w.heap.size w W) (hx : Rd 3 W x d.length (vals d)) => sPlaces x u d l W hn hx (h.below hW))
  have HDL := Lib.hid (dict_len l)
  have HSD : Hid (∀ v ∈ dictL l, v.s.size ≤ maxLen) := dict_all hss
  generalize typeV l = ty at HE HTL HT
  generalize dictL l = d at HE HD HDL HSD
  clear hss h hn
  go_enter Tryz.func111, Tryz.ntmps111
  go_wp2_with fail
  refine HT.out.mono ?_
  rintro e w1 ⟨rfl, b1⟩
  clear HT
  by_cases ht : ty = 0
  · subst ht
    rw [if_pos rfl] at HE
    have O1 := own_lit (e := 5) (size := 1) w1 #[] 0 (Nat.zero_le _) rfl
    have B1 := b1.alloc b1.size (.cells #[] 5)
    have z1 := b1.size
    go_wp2
    go_ret
    rw [HE.out]
    exact ⟨_, rfl, O1.lower z1, B1⟩
  · have htb : (ty == 0) = false := by simpa using ht
    have h64 := HTL.out ht
    have hd64 : d.length ≤ 64 := Nat.le_trans HDL.out h64
    rw [if_neg ht] at HE
    clear ht HTL
    go_wp2_with fail
    refine (HD.out w1 b1).mono ?_
    rintro e w2 ⟨v2, rfl, o2, hb2⟩
    have b2 := below_then b1 hb2 b1.size
    replace o2 := o2.lower b1.size
    have HP2 := Lib.hid (HP.out v2 d w2 b2 o2.rd)
    clear hb2 HD htb b1
    go_wp2_with fail
    refine HP2.out.mono ?_
    rintro e w3 ⟨v3, rfl, o3, hb3⟩
    have b3 := below_then b2 hb3 b2.size
    have z3 := hb3.size
    replace o2 := o2.below hb3 (Nat.le_refl _)
    replace o3 := o3.lower b2.size
    clear hb3 HP2 HP
    generalize hp : (placesL d l).1 = p at o3 HE
    have HPL : Hid (p.length ≤ 64) := by
      show _ ≤ _
      rw [← hp]
      exact Nat.le_trans (places_len d l) h64
    clear hp h64
    have HDS : Hid (∀ k, k < d.length → putAll (Num.put [] d.length) (d.take (k + 1)) = putV (putAll (Num.put [] d.length) (d.take k)) (d.getD k V.zero)) := fun k hk => by
      rw [getDe d V.zero hk, List.take_succ_eq_append_getElem hk, putAll_snoc]
    have HDN : Hid (∀ k, k ≤ d.length → (putAll (Num.put [] d.length) (d.take k)).length ≤ 5 + 7 * k) := fun k hk => by
      have h1 := putAll_len (Num.put [] d.length) (d.take k)
      have h2 := Num.put_len [] (d.length : Int)
      have e : (d.take k).length = k := by simp; omega
      simp only [List.length_nil] at h2
      omega
    have HSS : Hid (∀ k, k < d.length → (d.getD k V.zero).s.size ≤ maxLen) := fun k hk => by
      rw [getDe d V.zero hk]
      exact HSD.out _ (List.getElem_mem hk)
    generalize hm : d.length = m at o2 HDS HDN HSS HE hd64
    have HM := Lib.hid hm
    obtain ⟨g2, cp2, rfl, hg1, hg2, hrow⟩ := o2
    have o2 : Own 77 3 w.heap.size w2.heap.size w3 (.slice (some ⟨g2, 0, none⟩) m cp2) m (vals d) := ⟨g2, cp2, rfl, hg1, hg2, hrow⟩
    clear hg1 hg2 hrow HDL HSD
    have O4 := own_lit (e := 5) (size := 1) w3 #[] 0 (Nat.zero_le _) rfl
    have hb4 := below_alloc w3 (.cells #[] 5)
    have HN := Lib.hid (sPutNum _ 0 [] (m : Int) _ (by omega) rfl O4.at)
    clear O4
    go_wp2_with fail
    refine HN.out.mono ?_
    rintro e w4 ⟨v4, rfl, o4, hb5⟩
    have hb6 := below_then hb4 hb5 hb4.size
    have b4 := below_then b3 hb6 b3.size
    have z4 := hb6.size
    replace o2 := o2.below hb6 z3
    replace o3 := o3.below hb6 (Nat.le_refl _)
    replace o4 := o4.lower (lo' := w.heap.size) (Nat.le_trans b3.size hb4.size)
    clear hb4 hb5 hb6 HN b3 b2
    obtain ⟨a', cap', e', _, HC⟩ := Rd.vals o2.rd hm
    simp only [Value.slice.injEq, true_and] at e'
    obtain ⟨rfl, rfl⟩ := e'
    clear hm
    have hput0 : Hid (putAll (Num.put [] m) (d.take 0) = Num.put [] m) := by
      show _ = _
      simp [putAll]
    rw [← hput0.out] at o4
    generalize hq0 : putAll (Num.put [] (m : Int)) = q at o4 HDS HDN HE
    clear hput0 hq0
    go_wp2
    go_loopw [6, 7] (fun o i wr => ∃ k : Nat, k ≤ m ∧ i = .int .i64 k ∧ Own 5 1 w.heap.size wr.heap.size wr o (q (d.take k)).length (ints .u8 (q (d.take k))) ∧ Below w4.heap.size w4 wr) (fun _ i _ => m - (intOf i).toNat)
    case atStart => exact ⟨0, Nat.zero_le _, rfl, o4, Below.refl _ _⟩
    case round =>
      obtain ⟨k, hk, rfl, hown, hbr⟩ := hrel
      by_cases hlt : k < m
      · obtain ⟨b, off, e', p0, p1, p2⟩ := HC.out k hlt
        simp only [Option.some.injEq, Addr.mk.injEq, and_true] at e'
        obtain ⟨rfl, rfl⟩ := e'
        have HSK := Lib.hid (HDS.out k hlt)
        have hel := HDN.out k hk
        have HP := Lib.hid (sPutVal _ (q (d.take k)).length (q (d.take k)) (d.getD k V.zero) wr (by omega) (HSS.out k hlt) rfl hown.at)
        rw [← HSK.out] at HP
        replace p0 := (hbr.cell (p := ⟨g2, 0 + k * 3, none⟩) (lt_of_cell p0)).trans p0
        replace p1 := (hbr.cell (p := ⟨g2, 0 + k * 3 + 1, none⟩) (lt_of_cell p1)).trans p1
        replace p2 := (hbr.cell (p := ⟨g2, 0 + k * 3 + 2, none⟩) (lt_of_cell p2)).trans p2
        generalize d.getD k V.zero = x at p0 p1 p2 HP
        obtain ⟨t1, n1, s1⟩ := x
        simp only [Nat.zero_add] at p0 p1 p2
        have z5 := hbr.size
        go_wp2_with fail
        refine HP.out.mono ?_
        rintro e w5 ⟨v5, rfl, o5, hb5⟩
        have B5 := below_then hbr hb5 hbr.size
        have O5 := Lib.hid (o5.lower (lo' := w.heap.size) (Nat.le_trans b4.size z5))
        clear o5 hb5 hbr hown HP p0 p1 p2
        go_wp2
        go_roundw
        case rel => exact ⟨k + 1, by omega, by go_num, O5.out, B5⟩
        case measure => simp [intOf]; omega
      · obtain rfl : k = m := by omega
        have hel := HDN.out k hk
        have hqd : Hid (d.take k = d) := by show _ = _; rw [← HM.out, List.take_length]
        rw [hqd.out] at hown hel
        replace o3 := o3.below hbr z4
        have b5 := below_then b4 hbr b4.size
        have z5 := hbr.size
        have HWD := Lib.hid (fun W => sWidthOf ((k : Int) - 1) W)
        generalize Bit.widthI ((k : Int) - 1) = wd at HWD HE
        have HPK := Lib.hid (sPackBits v3 p.length p (wd : Int) wr (by have := HPL.out; omega) rfl (.inr o3.at))
        have hpk : (Bit.pack p wd).length ≤ 256 := by
          have h1 := Bit.pack_le p wd
          have h2 := HPL.out
          omega
        generalize Bit.pack p (wd : Int) = pk at HPK HE hpk
        have HES : Hid (ints .u8 (q d) ++ ints .u8 pk = ints .u8 (encD l) ∧ (q d).length + pk.length = (encD l).length) := by
          rw [HE.out]
          exact ⟨(ints_append _ _ _).symm, (List.length_append).symm⟩
        clear hqd
        generalize hqn : (q d).length = qn at hown hel HES
        clear hqn
        generalize hpn : pk.length = pn at HPK HES hpk
        clear o3 hbr
        go_wp2_with (first | (go_at_call 120; refine (HWD.out _).mono ?_; rintro e w' ⟨rfl, rfl⟩) | fail)
        refine HPK.out.mono ?_
        rintro e w6 ⟨v6, rfl, o6, hb6⟩
        have b6 := below_then b5 hb6 b5.size
        replace hown := (hown.below hb6 (Nat.le_refl _)).wide hb6.size
        obtain ⟨g6, off6, cp6, rfl, hn6, hc6, hl6, hcs6⟩ := o6.at
        have HL6 := Lib.hid hl6
        have HC6 := Lib.hid hcs6
        clear hl6 hcs6 o6 hb6
        go_wp2_with (at_builtin; refine append_law Tryz.elemBytes rfl _ _ rfl _ _ _ _ _ rfl hown g6 off6 pn cp6 (ints .u8 pk) rfl HL6.out HC6.out (ints_one _ _) (by unfold maxLen; omega) (by omega) ?_)
        intro v7 w7 o7 e7
        have b7 := b6.trans (e7.below hown)
        rw [HES.out.1, HES.out.2] at o7
        have O7 := Lib.hid o7
        clear o7 e7 hown
        go_wp2
        go_ret
        exact ⟨_, rfl, O7.out, b7⟩

end Go.Proofs.YtkofafefnlommaaGreat

/- Plain mathematics of chapter 8: the smallest integer, the offsets, their encoding; decoding gives back what was encoded; what decodes is what its values encode to. -/
namespace Go.Proofs.YtkofafefnlommaaGreat
open Go.RowKit

/-- The smallest of a and the integers of l. -/
def lowL (a : Int) (l : List V) : Int := l.foldl (fun a v => if v.n < a then v.n else a) a
theorem lowL_snoc (a : Int) (l : List V) (v : V) : lowL a (l ++ [v]) = if v.n < lowL a l then v.n else lowL a l := by unfold lowL; rw [List.foldl_append]; rfl
theorem lowL_le (l : List V) (a : Int) : lowL a l ≤ a ∧ ∀ v ∈ l, lowL a l ≤ v.n := by
  induction l generalizing a with
  | nil => exact ⟨Int.le_refl _, fun v hv => by cases hv⟩
  | cons x l ih =>
    have h := ih (if x.n < a then x.n else a)
    have e : lowL a (x :: l) = lowL (if x.n < a then x.n else a) l := rfl
    rw [e]
    refine ⟨?_, fun v hv => ?_⟩
    · have := h.1
      split at this <;> split <;> omega
    · rcases List.mem_cons.1 hv with rfl | hv
      · have := h.1
        split at this <;> split <;> omega
      · exact h.2 v hv
theorem lowL_mem (l : List V) (a : Int) : lowL a l = a ∨ ∃ v ∈ l, v.n = lowL a l := by
  induction l generalizing a with
  | nil => exact .inl rfl
  | cons x l ih =>
    have e : lowL a (x :: l) = lowL (if x.n < a then x.n else a) l := rfl
    rw [e]
    rcases ih (if x.n < a then x.n else a) with h | ⟨v, hv, h⟩
    · rw [h]
      split
      · exact .inr ⟨x, List.mem_cons_self, rfl⟩
      · exact .inl rfl
    · exact .inr ⟨v, List.mem_cons_of_mem _ hv, h⟩
/-- Base. -/
def baseL (l : List V) : Int := lowL (l.getD 0 V.zero).n l
theorem base_le {l : List V} : ∀ v ∈ l, baseL l ≤ v.n := (lowL_le l _).2
theorem base_mem {l : List V} (h : 1 ≤ l.length) : ∃ v ∈ l, v.n = baseL l := by
  rcases lowL_mem l (l.getD 0 V.zero).n with e | e
  · refine ⟨l.getD 0 V.zero, ?_, e.symm⟩
    rw [getDe l V.zero h]
    exact List.getElem_mem h
  · exact e
/-- What Base holds before the k-th value. -/
def baseK (l : List V) (k : Nat) : Int := lowL (l.getD 0 V.zero).n (l.take k)
theorem baseK_step {l : List V} {k : Nat} (h : k < l.length) : baseK l (k + 1) = if (l.getD k V.zero).n < baseK l k then (l.getD k V.zero).n else baseK l k := by
  unfold baseK
  rw [getDe l V.zero h, List.take_succ_eq_append_getElem h, lowL_snoc]
theorem baseK_one {l : List V} (h : 0 < l.length) : baseK l 1 = (l.getD 0 V.zero).n := by
  rw [baseK_step h]
  have : baseK l 0 = (l.getD 0 V.zero).n := by simp [baseK, lowL]
  rw [this]
  simp
theorem baseK_zero (l : List V) : baseK l 0 = (l.getD 0 V.zero).n := by simp [baseK, lowL]
theorem baseK_end (l : List V) : baseK l l.length = baseL l := by simp [baseK, baseL]

/-- Offsets. -/
def offL (l : List V) : List Int := if typeV l = 1 then l.map (fun v => v.n - baseL l) else []
theorem off_yes {l : List V} (h : typeV l = 1) : offL l = l.map (fun v => v.n - baseL l) := if_pos h
theorem off_no {l : List V} (h : ¬ typeV l = 1) : offL l = [] := if_neg h
theorem int_parts {l : List V} (h : typeV l = 1) : 1 ≤ l.length ∧ l.length ≤ 64 ∧ ∀ v ∈ l, okV v = true ∧ v.ty = 1 := by
  have := typeV_parts (l := l) (by omega)
  rw [h] at this
  exact this
theorem int_num {l : List V} (h : typeV l = 1) : ∀ v ∈ l, -1000000000 ≤ v.n ∧ v.n ≤ 1000000000 := fun v hv => by
  have h1 := (int_parts h).2.2 v hv
  exact okV_num h1.1 h1.2
theorem base_ok {l : List V} (h : typeV l = 1) : -1000000000 ≤ baseL l ∧ baseL l ≤ 1000000000 := by
  obtain ⟨v, hv, e⟩ := base_mem (int_parts h).1
  rw [← e]
  exact int_num h v hv
theorem off_len (l : List V) : (offL l).length ≤ l.length ∧ (offL l).length ≤ 64 := by
  by_cases h : typeV l = 1
  · have := int_parts h
    rw [off_yes h, List.length_map]
    omega
  · rw [off_no h]
    simp
theorem off_in (l : List V) : ∀ x ∈ offL l, 0 ≤ x ∧ x ≤ 2000000000 := by
  by_cases h : typeV l = 1
  · rw [off_yes h]
    intro x hx
    obtain ⟨v, hv, rfl⟩ := List.mem_map.1 hx
    have h1 := int_num h v hv
    have h2 := base_ok h
    have h3 := base_le v hv
    omega
  · rw [off_no h]
    exact fun x hx => by cases hx
theorem off_zero {l : List V} (h : typeV l = 1) : 0 ∈ offL l := by
  obtain ⟨v, hv, e⟩ := base_mem (int_parts h).1
  rw [off_yes h]
  exact List.mem_map.2 ⟨v, hv, by omega⟩
/-- The greatest of a and the integers of l. -/
def topL (a : Int) (l : List Int) : Int := l.foldl (fun a x => if a < x then x else a) a
theorem topL_snoc (a : Int) (l : List Int) (x : Int) : topL a (l ++ [x]) = if topL a l < x then x else topL a l := by unfold topL; rw [List.foldl_append]; rfl
theorem topL_mem (l : List Int) (a : Int) : topL a l = a ∨ topL a l ∈ l := by
  induction l generalizing a with
  | nil => exact .inl rfl
  | cons x l ih =>
    have e : topL a (x :: l) = topL (if a < x then x else a) l := rfl
    rw [e]
    rcases ih (if a < x then x else a) with h | h
    · rw [h]
      split
      · exact .inr List.mem_cons_self
      · exact .inl rfl
    · exact .inr (List.mem_cons_of_mem _ h)
/-- Reach. -/
def reachL (l : List V) : Int := topL 0 (offL l)
theorem reach_mem {l : List V} (h : typeV l = 1) : reachL l ∈ offL l := by
  rcases topL_mem (offL l) 0 with e | e
  · unfold reachL
    rw [e]
    exact off_zero h
  · exact e
theorem width_mem {l : List Int} : ∀ x ∈ l, Bit.widthI x ≤ Bit.widthFor l := by
  have : ∀ (l : List Int) (a : Nat), a ≤ l.foldl (fun a x => max a (Bit.widthI x)) a ∧ ∀ x ∈ l, Bit.widthI x ≤ l.foldl (fun a x => max a (Bit.widthI x)) a := by
    intro l
    induction l with
    | nil => exact fun a => ⟨Nat.le_refl _, fun x hx => by cases hx⟩
    | cons y l ih =>
      intro a
      have h := ih (max a (Bit.widthI y))
      simp only [List.foldl_cons]
      refine ⟨by omega, fun x hx => ?_⟩
      rcases List.mem_cons.1 hx with rfl | hx
      · omega
      · exact h.2 x hx
  exact (this l 0).2
theorem off_fits (l : List V) : Bit.fitsB (offL l) (Bit.widthFor (offL l) : Nat) = true := by
  refine Bit.digs_fits (fun x hx => ?_) (Bit.widthFor_le31 _)
  have h1 := off_in l x hx
  have h2 := (Bit.widthI_in (by omega) (by omega) (Bit.widthFor (offL l))).1 (width_mem x hx)
  exact ⟨h1.1, Bit.lt_of_toNat h2⟩

/-- EncFrame. -/
def encF (l : List V) : List Int := if typeV l = 1 then (Num.put [] (baseL l) ++ [(Bit.widthFor (offL l) : Int)]) ++ Bit.pack (offL l) (Bit.widthFor (offL l)) else []
theorem encF_bytes (l : List V) : Num.Bytes (encF l) := by
  unfold encF
  split
  · refine bytes_append (bytes_append (Num.put_bytes nil_bytes _) (fun x hx => ?_)) (Bit.pack_bytes _ _)
    have := Bit.widthFor_le31 (offL l)
    obtain rfl := List.mem_singleton.1 hx
    omega
  · exact nil_bytes
theorem encF_len (l : List V) : (encF l).length ≤ 1024 := by
  unfold encF
  split
  · have h1 := Num.put_len [] (baseL l)
    have h2 := Bit.pack_le (offL l) (Bit.widthFor (offL l))
    have h3 := off_len l
    simp only [List.length_append, List.length_nil, List.length_cons] at *
    omega
  · simp

/-- Whether Raised takes x. -/
def upB (base x : Int) : Bool := decide (0 ≤ x ∧ x ≤ 2000000000 ∧ base + x ≤ 1000000000)
def upV (base x : Int) : V := ⟨1, base + x, ⟨#[]⟩⟩
/-- Raised. -/
def raisedL (base : Int) (l : List Int) : List V × Bool := if Num.okB base = true ∧ l.all (upB base) = true then (l.map (upV base), true) else ([], false)
theorem raised_len (base : Int) (l : List Int) : (raisedL base l).1.length ≤ l.length := by
  unfold raisedL
  split
  · simp
  · simp
theorem raised_sizes (base : Int) (l : List Int) : ∀ v ∈ (raisedL base l).1, v.s.size ≤ maxLen := by
  unfold raisedL
  split
  · intro v hv
    obtain ⟨x, _, rfl⟩ := List.mem_map.1 hv
    exact Nat.zero_le _
  · exact fun v hv => by cases hv
theorem raised_true {base : Int} {l : List Int} (h : (raisedL base l).2 = true) : (raisedL base l).1.length = l.length := by
  unfold raisedL at h ⊢
  split
  · simp
  · rename_i hc
    rw [if_neg hc] at h
    cases h
theorem raised_off {l : List V} (h : typeV l = 1) : raisedL (baseL l) (offL l) = (l, true) := by
  have hb := base_ok h
  have hu : (offL l).all (upB (baseL l)) = true := by
    rw [List.all_eq_true, off_yes h]
    intro x hx
    obtain ⟨v, hv, rfl⟩ := List.mem_map.1 hx
    have h1 := int_num h v hv
    have h3 := base_le v hv
    exact decide_eq_true (by omega)
  unfold raisedL
  rw [if_pos ⟨Num.okB_true.2 hb, hu⟩, off_yes h, List.map_map]
  congr 1
  conv => rhs; rw [← List.map_id l]
  refine List.map_congr_left (fun v hv => ?_)
  obtain ⟨ho, ht⟩ := (int_parts h).2.2 v hv
  obtain ⟨t, n, s⟩ := v
  simp only at ht
  subst ht
  have hs : s = ⟨#[]⟩ := by
    unfold okV at ho
    simp only [if_true, Bool.and_eq_true, beq_iff_eq] at ho
    apply ByteArray.ext
    apply Array.eq_empty_of_size_eq_zero
    exact ho.2
  subst hs
  simp only [Function.comp_apply, upV, id_eq]
  congr 1
  omega

/-- DecFrame, of the base and the offsets. -/
def decG (zs : List Int) (base : Int) (o : List Int × Bool) : List V × Bool :=
  if o.2 = true ∧ (raisedL base o.1).2 = true ∧ encF (raisedL base o.1).1 = zs then ((raisedL base o.1).1, true) else ([], false)
/-- DecFrame. -/
def decF (zs : List Int) (k : Int) : List V × Bool :=
  if (Num.get zs 0).2.2 = true ∧ (Num.get zs 0).2.1 < zs.length ∧ Num.inB k 1 64 = true then
    decG zs (Num.get zs 0).1 (Bit.unpack (zs.drop ((Num.get zs 0).2.1.toNat + 1)) (zs.getD (Num.get zs 0).2.1.toNat 0) k)
  else ([], false)
theorem decG_len (zs : List Int) (base : Int) (o : List Int × Bool) : (decG zs base o).1.length ≤ o.1.length := by
  unfold decG
  split
  · exact raised_len _ _
  · simp
theorem decF_len (zs : List Int) (k : Int) : (decF zs k).1.length ≤ 64 := by
  unfold decF
  split
  · exact Nat.le_trans (decG_len _ _ _) (Bit.unpack_le _ _ _)
  · simp
theorem decF_sizes (zs : List Int) (k : Int) : ∀ v ∈ (decF zs k).1, v.s.size ≤ maxLen := by
  unfold decF
  split
  · unfold decG
    split
    · exact raised_sizes _ _
    · exact fun v hv => by cases hv
  · exact fun v hv => by cases hv
theorem dec_encF {l : List V} (h : typeV l = 1) : decF (encF l) l.length = (l, true) := by
  obtain ⟨h1, h64, _⟩ := int_parts h
  have hb := base_ok h
  have hup := Bit.unpack_pack (off_fits l) (off_len l).2
  have hol : (offL l).length = l.length := by rw [off_yes h, List.length_map]
  rw [hol] at hup
  have hro := raised_off h
  have he : encF l = (Num.put [] (baseL l) ++ [(Bit.widthFor (offL l) : Int)]) ++ Bit.pack (offL l) (Bit.widthFor (offL l)) := if_pos h
  generalize Bit.pack (offL l) (Bit.widthFor (offL l) : Nat) = pk at *
  generalize (Bit.widthFor (offL l) : Int) = wd at *
  have hok : Num.ok (baseL l) := hb
  generalize hb0 : Num.grp 4 (Num.zig (baseL l)) = b0 at *
  have he2 : encF l = b0 ++ (wd :: pk) := by
    rw [he, Num.put_ok hok, hb0]
    simp
  have hg : Num.get (encF l) 0 = (baseL l, (b0.length : Int), true) := by
    have := get_grp (b := []) (rest := wd :: pk) hok
    rw [hb0] at this
    rw [he2]
    exact this
  unfold decF
  rw [hg]
  simp only
  rw [if_pos ⟨trivial, by rw [he2]; simp; omega, Num.inB_true.2 ⟨by omega, by omega⟩⟩, Int.toNat_natCast]
  have e1 : (encF l).drop (b0.length + 1) = pk := by
    rw [he2]
    simp [List.drop_append]
  have e2 : (encF l).getD b0.length 0 = wd := by
    rw [he2]
    simp [List.getD]
  rw [e1, e2, hup]
  unfold decG
  simp only
  rw [hro]
  simp
theorem dec_okF {zs : List Int} (hb : Num.Bytes zs) {k : Int} (h : (decF zs k).2 = true) : encF (decF zs k).1 = zs ∧ ((decF zs k).1.length : Int) = k := by
  unfold decF at h ⊢
  split
  · rename_i hc
    rw [if_pos hc] at h
    have hbd : Num.Bytes (zs.drop ((Num.get zs 0).2.1.toNat + 1)) := fun x hx => hb x (List.mem_of_mem_drop hx)
    generalize hu : Bit.unpack (zs.drop ((Num.get zs 0).2.1.toNat + 1)) (zs.getD (Num.get zs 0).2.1.toNat 0) k = u at h ⊢
    obtain ⟨o, is⟩ := u
    unfold decG at h ⊢
    split
    · rename_i hd
      simp only at hd
      obtain ⟨rfl, hr, he⟩ := hd
      refine ⟨he, ?_⟩
      simp only
      rw [raised_true hr]
      exact (Bit.pack_unpack hbd hu).2
    · rename_i hd
      rw [if_neg hd] at h
      cases h
  · rename_i hc
    rw [if_neg hc] at h
    cases h

end Go.Proofs.YtkofafefnlommaaGreat
