/- The contracts of impl's cutBytes, getText, GetVal. -/
import Derived.Test.YtoidpibdjijamaaLaw5b
import Derived.Test.YtoidpibdjijamaaIValOk
import Derived.Test.YtoidpibdjijamaaM5
import Derived.Laws.BytesArg
namespace Go.Proofs.Ytoidpibdjijamaa
open Go.RowKit

/-- cutBytes where nothing is cut. -/
theorem cutNot (a : Option Addr) (n cap k : Nat) (i q : Int) (hq : q = k) (w : World) (_ : n ≤ 1073741824) (hk : k ≤ 255) (h : ¬ (0 ≤ i ∧ i + k ≤ n)) :
    Calls Try.prog 130 #[.slice a n cap, .int .i64 i, .int .i64 q] w fun e w' => e = .returned (.tuple #[.slice none 0 0, .bool false]) ∧ w = w' := by
  subst hq
  by_cases h0 : i < 0
  · go_enter Try.func130, Try.ntmps130
    go_wp2
    go_ret2
    exact ⟨rfl, rfl⟩
  · obtain ⟨I, rfl⟩ := Int.eq_ofNat_of_zero_le (show 0 ≤ i by omega)
    by_cases h1 : n < I
    · go_enter Try.func130, Try.ntmps130
      go_wp2
      go_ret2
      exact ⟨rfl, rfl⟩
    · have h2 : (n : Int) - I < k := by omega
      clear h h0
      go_enter Try.func130, Try.ntmps130
      go_wp2
      go_ret2
      exact ⟨rfl, rfl⟩

/-- cutBytes where bytes are cut. -/
theorem cutOk (b off n cap k I : Nat) (i q : Int) (hi : i = I) (hq : q = k) (w : World) (_ : n ≤ 1073741824) (hk : k ≤ 255) (hnc : n ≤ cap) (hcm : cap ≤ maxLen) (h : I + k ≤ n) :
    Calls Try.prog 130 #[.slice (some ⟨b, off, none⟩) n cap, .int .i64 i, .int .i64 q] w fun e w' => ∃ o, e = .returned (.tuple #[.slice (some ⟨b, o, none⟩) k k, .bool true]) ∧ (0 < k → o = off + I) ∧ w = w' := by
  subst hi hq
  unfold maxLen at hcm
  have h1 : ¬ ((n : Int) - I < k) := by omega
  by_cases h0 : k = 0
  · subst h0
    go_enter Try.func130, Try.ntmps130
    go_wp2
    go_ret2
    exact ⟨⟨_, rfl⟩, rfl⟩
  · go_enter Try.func130, Try.ntmps130
    go_wp2
    go_ret2
    exact ⟨_, rfl, fun _ => rfl, rfl⟩

/-- getText. -/
def textAt (zs : List Int) (I : Nat) : ByteArray := strOfNums ((zs.drop (I + 1)).take (zs.getD I 0).toNat)
def getS (zs : List Int) (i : Int) : ByteArray × Int × Bool :=
  if (0 ≤ i ∧ i + 1 ≤ zs.length) ∧ i + 1 + zs.getD i.toNat 0 ≤ zs.length ∧ txtB (textAt zs i.toNat) = true then (textAt zs i.toNat, i + 1 + zs.getD i.toNat 0, true) else (⟨#[]⟩, 0, false)
theorem getV_text {zs : List Int} {i : Int} : getV zs i 2 = if (getS zs i).2.2 = true then (⟨2, 0, (getS zs i).1⟩, (getS zs i).2.1, true) else (V.zero, 0, false) := by
  unfold getV
  rw [if_neg (by decide)]
  have hok : ∀ s, okV ⟨2, 0, s⟩ = txtB s := fun s => by simp [okV]
  by_cases h1 : 0 ≤ i ∧ i + 1 ≤ zs.length
  · obtain ⟨I, rfl⟩ := Int.eq_ofNat_of_zero_le h1.1
    rw [if_pos ⟨rfl, Num.inB_true.2 ⟨h1.1, by omega⟩⟩]
    have e0 : getT zs I = if zs.getD I 0 ≤ (zs.length : Int) - I - 1 ∧ txtB (textAt zs I) = true then (⟨2, 0, textAt zs I⟩, (I : Int) + 1 + zs.getD I 0, true) else (V.zero, 0, false) := by
      rw [← hok]
      rfl
    have e1 : getS zs I = if (0 ≤ (I : Int) ∧ (I : Int) + 1 ≤ zs.length) ∧ (I : Int) + 1 + zs.getD I 0 ≤ zs.length ∧ txtB (textAt zs I) = true then (textAt zs I, (I : Int) + 1 + zs.getD I 0, true) else (⟨#[]⟩, 0, false) := rfl
    rw [e1, Int.toNat_natCast, e0]
    by_cases h2 : (I : Int) + 1 + zs.getD I 0 ≤ zs.length ∧ txtB (textAt zs I) = true
    · rw [if_pos (c := _ ∧ _) ⟨by omega, h2.2⟩, if_pos (c := (0 ≤ (I : Int) ∧ (I : Int) + 1 ≤ zs.length) ∧ _) ⟨h1, h2⟩]
      rfl
    · rw [if_neg (c := zs.getD I 0 ≤ (zs.length : Int) - I - 1 ∧ _) (fun h => h2 ⟨by omega, h.2⟩), if_neg (c := (0 ≤ (I : Int) ∧ (I : Int) + 1 ≤ zs.length) ∧ _) (fun h => h2 h.2)]
      rfl
  · have e1 : getS zs i = (⟨#[]⟩, 0, false) := if_neg (fun h => h1 h.1)
    rw [e1, if_neg (fun h => h1 (by have := Num.inB_true.1 h.2; omega))]
    rfl
theorem getV_none {zs : List Int} {i ty : Int} (h1 : ¬ ty = 1) (h2 : ¬ ty = 2) : getV zs i ty = (V.zero, 0, false) := by
  unfold getV
  rw [if_neg h1, if_neg (fun h => h2 h.1)]

set_option maxHeartbeats 1000000 in
theorem getText (v : Value) (n : Nat) (zs : List Int) (i : Int) (w : World) (hn : n ≤ 1048576) (hz : zs.length = n) (hby : Num.Bytes zs) (h : At 1 w v n (ints .u8 zs)) :
    Calls Try.prog 122 #[v, .int .i64 i] w fun e w' => e = .returned (.tuple #[.string (getS zs i).1, .int .i64 (getS zs i).2.1, .bool (getS zs i).2.2]) ∧ w = w' := by
  obtain ⟨b, off, cap, rfl, hnc, hcm, _, hc⟩ := h
  by_cases h1 : 0 ≤ i ∧ i + 1 ≤ n
  · obtain ⟨I, rfl⟩ := Int.eq_ofNat_of_zero_le h1.1
    have hI : I < n := by omega
    have hcI := At.cell (k := .u8) (n := n) hc hz hI
    have hbI := hby _ (getD_mem (by omega : I < zs.length))
    have HE : Hid (getS zs I = if (I : Int) + 1 + zs.getD I 0 ≤ n ∧ txtB (textAt zs I) = true then (textAt zs I, (I : Int) + 1 + zs.getD I 0, true) else (⟨#[]⟩, 0, false)) := by
      show _ = _
      unfold getS
      rw [hz, Int.toNat_natCast]
      congr 1
      simp [h1]
    have HCV : Hid (∀ (C : Nat), zs.getD I 0 = (C : Int) → I + 1 + C ≤ n → ∀ (o cp : Nat), (0 < C → o = off + (I + 1)) → (convert 22 9 (.slice (some ⟨b, o, none⟩) C cp)).run Try.prog w = .ok (.string (textAt zs I)) w) := fun C hC hle o cp ho => by
      have e0 : textAt zs I = strOfNums ((zs.drop (I + 1)).take C) := by
        unfold textAt
        rw [hC, Int.toNat_natCast]
      rw [e0]
      refine run_convert_bytes_arg w 22 5 Try.underlying22 Try.underlying5 b o C cp ((zs.drop (I + 1)).take C) (by simp; omega) (fun j hj => ?_) 9 Try.underlying9
      have hjn : I + 1 + j < n := by omega
      have := At.cell (k := .u8) (n := n) hc hz hjn
      have e : ((zs.drop (I + 1)).take C).getD j 0 = zs.getD (I + 1 + j) 0 := by
        simp [hj]
      rw [e, ← this, ho (by omega), show off + (I + 1) + j = off + (I + 1 + j) by omega]
    have HSS : Hid ((textAt zs I).size ≤ maxLen) := by
      show _ ≤ _
      unfold textAt
      rw [strOfNums_size]
      unfold maxLen
      simp
      omega
    generalize zs.getD I 0 = c at hcI hbI HE HCV
    obtain ⟨c0, c1⟩ := hbI
    obtain ⟨C, rfl⟩ := Int.eq_ofNat_of_zero_le c0
    have HT := Lib.hid (fun W => iTextOk (textAt zs I) W HSS.out)
    generalize textAt zs I = s at HE HCV HSS HT
    have H1 := Lib.hid (fun W => cutOk b off n cap 1 I I 1 rfl rfl W (by omega) (by omega) hnc hcm (by omega))
    have HZ := Lib.hid hz
    clear hz hby hc c0
    by_cases h2 : I + 1 + C ≤ n
    · have H2 := Lib.hid (fun W => cutOk b off n cap C (I + 1) ((I : Int) + 1) C (by omega) rfl W (by omega) (by omega) hnc hcm (by omega))
      have HCW := Lib.hid (HCV.out C rfl h2)
      clear HCV
      cases ht : txtB s with
      | true =>
        rw [if_pos ⟨by omega, ht⟩] at HE
        rw [ht] at HT
        rw [HE.out]
        clear ht
        go_enter Try.func122, Try.ntmps122
        go_wp2_with fail
        refine (H1.out _).mono ?_
        rintro e w1 ⟨o1, rfl, ho1, rfl⟩
        obtain rfl := ho1 (by omega)
        clear ho1
        go_wp2_with fail
        refine (H2.out _).mono ?_
        rintro e w2 ⟨o2, rfl, ho2, rfl⟩
        have hcv := HCW.out o2 C ho2
        clear ho2
        go_wp2_with (go_at_call 90; refine (HT.out _).mono ?_; rintro e w3 ⟨rfl, rfl⟩)
        go_ret3
        exact ⟨rfl, rfl⟩
      | false =>
        rw [if_neg (fun h => by rw [ht] at h; cases h.2)] at HE
        rw [ht] at HT
        rw [HE.out]
        clear ht
        go_enter Try.func122, Try.ntmps122
        go_wp2_with fail
        refine (H1.out _).mono ?_
        rintro e w1 ⟨o1, rfl, ho1, rfl⟩
        obtain rfl := ho1 (by omega)
        clear ho1
        go_wp2_with fail
        refine (H2.out _).mono ?_
        rintro e w2 ⟨o2, rfl, ho2, rfl⟩
        have hcv := HCW.out o2 C ho2
        clear ho2
        go_wp2_with (go_at_call 90; refine (HT.out _).mono ?_; rintro e w3 ⟨rfl, rfl⟩)
        go_ret3
        exact ⟨rfl, rfl⟩
    · have H2 := Lib.hid (fun W => cutNot (some ⟨b, off, none⟩) n cap C ((I : Int) + 1) C rfl W (by omega) (by omega) (by omega))
      rw [if_neg (fun h => by have := h.1; omega)] at HE
      rw [HE.out]
      clear HCV HT HSS
      go_enter Try.func122, Try.ntmps122
      go_wp2_with fail
      refine (H1.out _).mono ?_
      rintro e w1 ⟨o1, rfl, ho1, rfl⟩
      obtain rfl := ho1 (by omega)
      clear ho1
      go_wp2_with fail
      refine (H2.out _).mono ?_
      rintro e w2 ⟨rfl, rfl⟩
      go_wp2
      go_ret3
      exact ⟨rfl, rfl⟩
  · have HE : Hid (getS zs i = (⟨#[]⟩, 0, false)) := if_neg (fun h => h1 (by rw [← hz]; exact h.1))
    have H1 := Lib.hid (fun W => cutNot (some ⟨b, off, none⟩) n cap 1 i 1 rfl W (by omega) (by omega) h1)
    rw [HE.out]
    clear hz hby hc
    go_enter Try.func122, Try.ntmps122
    go_wp2_with (go_at_call 130; refine (H1.out _).mono ?_; rintro e w1 ⟨rfl, rfl⟩)
    go_ret3
    exact ⟨rfl, rfl⟩

end Go.Proofs.Ytoidpibdjijamaa
