/- The contract of the model's GetVal. -/
import Derived.Test.YtoidpibdjijamaaS5
import Derived.Test.YtoidpibdjijamaaSGet
import Derived.Test.YtoidpibdjijamaaHeldV
import Derived.Test.YtoidpibdjijamaaOpLaw
import Derived.Laws.BytesArg
namespace Go.Proofs.Ytoidpibdjijamaa
open Go.RowKit

/-- GetVal. -/
def getT (zs : List Int) (i : Nat) : V × Int × Bool :=
  if (zs.getD i 0) ≤ (zs.length : Int) - i - 1 ∧ okV ⟨2, 0, strOfNums ((zs.drop (i + 1)).take (zs.getD i 0).toNat)⟩ = true then (⟨2, 0, strOfNums ((zs.drop (i + 1)).take (zs.getD i 0).toNat)⟩, (i : Int) + 1 + zs.getD i 0, true) else (V.zero, 0, false)
def getV (zs : List Int) (i ty : Int) : V × Int × Bool :=
  if ty = 1 then (if (Num.get zs i).2.2 = true then (⟨1, (Num.get zs i).1, ⟨#[]⟩⟩, (Num.get zs i).2.1, true) else (V.zero, 0, false))
  else if ty = 2 ∧ Num.inB i 0 ((zs.length : Int) - 1) = true then getT zs i.toNat else (V.zero, 0, false)
/-- What GetVal returns. -/
def rGet (r : V × Int × Bool) : Value := .tuple #[r.1.agg, .int .i64 r.2.1, .bool r.2.2]

set_option maxRecDepth 100000 in
set_option maxHeartbeats 2000000 in
theorem sGetVal (v : Value) (n : Nat) (zs : List Int) (i ty : Int) (w : World) (hn : n ≤ 1073741824) (hz : zs.length = n) (hby : Num.Bytes zs) (h : At 1 w v n (ints .u8 zs)) :
    Calls Try.prog 68 #[v, .int .i64 i, .int .i64 ty] w fun e w' => e = .returned (rGet (getV zs i ty)) ∧ Below w.heap.size w w' := by
  have Z0 := held_new w V.zero 37
  have B0 := below_alloc w (.cells #[.int .i64 0, .int .i64 0, .string ⟨#[]⟩] 37)
  simp only [V.zero] at Z0
  have HG := Lib.hid (sGetNum v n zs i (w.alloc (.cells #[.int .i64 0, .int .i64 0, .string ⟨#[]⟩] 37)) (by omega) hz hby (h.below B0))
  have HZ := Lib.hid hz
  obtain ⟨⟨p0, p1, p2⟩, p3, p4, p5⟩ := id Z0
  simp only at p0 p1 p2
  by_cases ht : ty = 1
  · subst ht
    have HE : Hid (getV zs i 1 = if (Num.get zs i).2.2 = true then (⟨1, (Num.get zs i).1, ⟨#[]⟩⟩, (Num.get zs i).2.1, true) else (V.zero, 0, false)) := if_pos rfl
    obtain ⟨b, off, cap, rfl, _, _, _, _⟩ := h
    generalize Num.get zs i = r at HG HE
    obtain ⟨x, nx, ok⟩ := r
    unfold getRes at HG
    simp only at HG HE
    clear hz hby
    cases ok with
    | false =>
      rw [if_neg (by simp)] at HE
      rw [HE.out]
      go_enter Try.func68, Try.ntmps68
      go_wp2_with (go_at_call 67; refine HG.out.mono ?_; rintro e w' ⟨rfl, rfl⟩)
      exact bodyPost_ret (v := .tuple #[.agg #[.int .i64 0, .int .i64 0, .string ⟨#[]⟩], .int .i64 0, .bool false]) (by simp [results, Try.results68, go_sem, *]) rfl ⟨rfl, below_alloc _ _⟩
    | true =>
      rw [if_pos rfl] at HE
      rw [HE.out]
      go_enter Try.func68, Try.ntmps68
      go_wp2_with (go_at_call 67; refine HG.out.mono ?_; rintro e w' ⟨rfl, rfl⟩)
      exact bodyPost_ret (v := .tuple #[.agg #[.int .i64 1, .int .i64 x, .string ⟨#[]⟩], .int .i64 nx, .bool true]) (by simp [results, Try.results68, go_sem, *]) rfl ⟨rfl, below_alloc _ _⟩
  have htb : (ty == 1) = false := by simpa using ht
  by_cases h2 : ty = 2
  · subst h2
    have HI := Lib.hid (fun W => l1In i 0 ((n : Int) - 1) W)
    have HE : Hid (getV zs i 2 = if Num.inB i 0 ((n : Int) - 1) = true then getT zs i.toNat else (V.zero, 0, false)) := by
      show _ = _
      unfold getV
      rw [if_neg (by decide), hz]
      simp
    obtain ⟨b, off, cap, rfl, hnc, hcm, _, hc⟩ := h
    unfold maxLen at hcm
    cases hin : Num.inB i 0 ((n : Int) - 1) with
    | false =>
      rw [hin] at HI
      rw [hin, if_neg (by simp)] at HE
      rw [HE.out]
      clear hz hby hc hin HG
      go_enter Try.func68, Try.ntmps68
      go_wp2_with (go_at_call 66; refine (HI.out _).mono ?_; rintro e w' ⟨rfl, rfl⟩)
      exact bodyPost_ret (v := .tuple #[.agg #[.int .i64 0, .int .i64 0, .string ⟨#[]⟩], .int .i64 0, .bool false]) (by simp [results, Try.results68, go_sem, *]) rfl ⟨rfl, below_alloc _ _⟩
    | true =>
      obtain ⟨i0, i1⟩ := Num.inB_true.1 hin
      rw [hin] at HI
      rw [hin, if_pos rfl] at HE
      obtain ⟨I, rfl⟩ := Int.eq_ofNat_of_zero_le i0
      have hI : I < n := by omega
      rw [Int.toNat_natCast] at HE
      have hcI := At.cell (k := .u8) (n := n) hc hz hI
      have hbI := hby _ (getD_mem (by omega : I < zs.length))
      have HT : Hid (getT zs I = if (zs.getD I 0) ≤ (n : Int) - I - 1 ∧ okV ⟨2, 0, strOfNums ((zs.drop (I + 1)).take (zs.getD I 0).toNat)⟩ = true then (⟨2, 0, strOfNums ((zs.drop (I + 1)).take (zs.getD I 0).toNat)⟩, (I : Int) + 1 + zs.getD I 0, true) else (V.zero, 0, false)) := by
        show _ = _
        unfold getT
        rw [hz]
      have HCV : Hid (∀ (C : Nat), zs.getD I 0 = (C : Int) → I + 1 + C ≤ n → ∀ (W : World) (cp : Nat), Below w.heap.size w W → (convert 22 9 (.slice (some ⟨b, off + (I + 1), none⟩) C cp)).run Try.prog W = .ok (.string (strOfNums ((zs.drop (I + 1)).take C))) W) := fun C hC hle W cp hW => by
        refine run_convert_bytes_arg W 22 5 Try.underlying22 Try.underlying5 b (off + (I + 1)) C cp ((zs.drop (I + 1)).take C) (by simp; omega) (fun j hj => ?_) 9 Try.underlying9
        have hjn : I + 1 + j < n := by omega
        have := At.cell (k := .u8) (n := n) hc hz hjn
        have e : ((zs.drop (I + 1)).take C).getD j 0 = zs.getD (I + 1 + j) 0 := by
          simp [hj]
        rw [e, ← this, hW.cell (p := ⟨b, off + (I + 1) + j, none⟩) (by have := lt_of_cell this; simpa using this), show off + (I + 1) + j = off + (I + 1 + j) by omega]
      replace hcI := (B0.cell (p := ⟨b, off + I, none⟩) (lt_of_cell hcI)).trans hcI
      generalize zs.getD I 0 = c at hcI hbI HT HCV
      obtain ⟨c0, c1⟩ := hbI
      obtain ⟨C, rfl⟩ := Int.eq_ofNat_of_zero_le c0
      rw [Int.toNat_natCast] at HT
      clear hin hby hc hz i0 c0 HG
      by_cases hk : (C : Int) ≤ (n : Int) - I - 1
      · have HCW := Lib.hid (fun W cp hW => HCV.out C rfl (by omega) W cp hW)
        have HSS : Hid ((strOfNums ((zs.drop (I + 1)).take C)).size ≤ maxLen) := by
          show _ ≤ _
          rw [strOfNums_size]
          unfold maxLen
          simp
          omega
        have HC0 : Hid (cap = I + 1 → ∀ (W : World) (o cp : Nat), (convert 22 9 (.slice (some ⟨b, o, none⟩) 0 cp)).run Try.prog W = .ok (.string (strOfNums ((zs.drop (I + 1)).take C))) W) := fun hcap W o cp => by
          obtain rfl : C = 0 := by omega
          exact run_convert_bytes_arg W 22 5 Try.underlying22 Try.underlying5 b o 0 cp ((zs.drop (I + 1)).take 0) (by simp) (fun j hj => by omega) 9 Try.underlying9
        generalize strOfNums ((zs.drop (I + 1)).take C) = s at HT HCW HSS HC0
        have HO := Lib.hid (fun W => sValOk ⟨2, 0, s⟩ W HSS.out)
        have hgt : ¬ ((n : Int) - I - 1 < (C : Int)) := by omega
        have Z1 := Z0.below (below_alloc _ (.cells #[.int .i64 2, .int .i64 0, .string s] 37))
        have Z2 := held_new (w.alloc (.cells #[.int .i64 0, .int .i64 0, .string ⟨#[]⟩] 37)) ⟨2, 0, s⟩ 37
        have BB := below_alloc2 w (.cells #[.int .i64 0, .int .i64 0, .string ⟨#[]⟩] 37) (.cells #[.int .i64 2, .int .i64 0, .string s] 37)
        rw [World.size_alloc] at Z2
        clear p0 p1 p2 p3 p4 p5
        by_cases hcap : cap = I + 1
        · have hcv := HC0.out hcap
          obtain rfl : C = 0 := by omega
          go_enter Try.func68, Try.ntmps68
          go_wp2_with (go_at_call 66; refine (HI.out _).mono ?_; rintro e w' ⟨rfl, rfl⟩)
          refine (HO.out _).mono ?_
          rintro e w2 ⟨rfl, hb2⟩
          have B2 := below_then BB hb2 BB.size
          obtain ⟨⟨p0, p1, p2⟩, p3, p4, p5⟩ := Z1.below hb2
          obtain ⟨⟨q0, q1, q2⟩, q3, q4, q5⟩ := Z2.below hb2
          simp only at p0 p1 p2 q0 q1 q2
          clear hb2 Z1 Z2 hcv hcI
          cases hok : okV ⟨2, 0, s⟩ with
          | false =>
            rw [if_neg (fun h => by rw [hok] at h; cases h.2)] at HT
            clear hok
            go_wp2
            exact bodyPost_ret (v := .tuple #[.agg #[.int .i64 0, .int .i64 0, .string ⟨#[]⟩], .int .i64 0, .bool false]) (by simp [results, Try.results68, go_sem, *]) rfl ⟨by rw [HE.out, HT.out]; simp [rGet, V.zero], ((B2.setCell (by simp) _).setCell (by simp) _).setCell (by simp) _⟩
          | true =>
            rw [if_pos ⟨hk, hok⟩] at HT
            clear hok
            go_wp2
            exact bodyPost_ret (v := .tuple #[.agg #[.int .i64 2, .int .i64 0, .string s], .int .i64 ((I : Int) + 1), .bool true]) (by simp [results, Try.results68, go_sem, *]) rfl ⟨by rw [HE.out, HT.out]; simp [rGet], ((B2.setCell (by simp) _).setCell (by simp) _).setCell (by simp) _⟩
        · have hcv := HCW.out (w.alloc (.cells #[.int .i64 0, .int .i64 0, .string ⟨#[]⟩] 37)) (cap - (I + 1)) B0
          go_enter Try.func68, Try.ntmps68
          go_wp2_with (go_at_call 66; refine (HI.out _).mono ?_; rintro e w' ⟨rfl, rfl⟩)
          refine (HO.out _).mono ?_
          rintro e w2 ⟨rfl, hb2⟩
          have B2 := below_then BB hb2 BB.size
          obtain ⟨⟨p0, p1, p2⟩, p3, p4, p5⟩ := Z1.below hb2
          obtain ⟨⟨q0, q1, q2⟩, q3, q4, q5⟩ := Z2.below hb2
          simp only at p0 p1 p2 q0 q1 q2
          clear hb2 Z1 Z2 hcv hcI
          cases hok : okV ⟨2, 0, s⟩ with
          | false =>
            rw [if_neg (fun h => by rw [hok] at h; cases h.2)] at HT
            clear hok
            go_wp2
            exact bodyPost_ret (v := .tuple #[.agg #[.int .i64 0, .int .i64 0, .string ⟨#[]⟩], .int .i64 0, .bool false]) (by simp [results, Try.results68, go_sem, *]) rfl ⟨by rw [HE.out, HT.out]; rfl, ((B2.setCell (by simp) _).setCell (by simp) _).setCell (by simp) _⟩
          | true =>
            rw [if_pos ⟨hk, hok⟩] at HT
            clear hok
            go_wp2
            exact bodyPost_ret (v := .tuple #[.agg #[.int .i64 2, .int .i64 0, .string s], .int .i64 ((I : Int) + 1 + C), .bool true]) (by simp [results, Try.results68, go_sem, *]) rfl ⟨by rw [HE.out, HT.out]; rfl, ((B2.setCell (by simp) _).setCell (by simp) _).setCell (by simp) _⟩
      · rw [if_neg (fun h => hk h.1)] at HT
        rw [HE.out, HT.out]
        have hgt : (n : Int) - I - 1 < (C : Int) := by omega
        clear HCV
        go_enter Try.func68, Try.ntmps68
        go_wp2_with (go_at_call 66; refine (HI.out _).mono ?_; rintro e w' ⟨rfl, rfl⟩)
        exact bodyPost_ret (v := .tuple #[.agg #[.int .i64 0, .int .i64 0, .string ⟨#[]⟩], .int .i64 0, .bool false]) (by simp [results, Try.results68, go_sem, *]) rfl ⟨rfl, below_alloc _ _⟩
  · have HE : Hid (getV zs i ty = (V.zero, 0, false)) := by
      show _ = _
      unfold getV
      rw [if_neg ht, if_neg (fun h => h2 h.1)]
    have h2b : (ty != 2) = true := by simpa using h2
    obtain ⟨b, off, cap, rfl, _, _, _, _⟩ := h
    rw [HE.out]
    clear HG hz hby
    go_enter Try.func68, Try.ntmps68
    go_wp2
    exact bodyPost_ret (v := .tuple #[.agg #[.int .i64 0, .int .i64 0, .string ⟨#[]⟩], .int .i64 0, .bool false]) (by simp [results, Try.results68, go_sem, *]) rfl ⟨rfl, below_alloc _ _⟩

end Go.Proofs.Ytoidpibdjijamaa
