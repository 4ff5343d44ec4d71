/- Texts of this claim, one behind the other: S5g, S5e, L5S, S6, S6b, S6e, S6d, Law6, I6, Law5b, M5, I5b, IEq, Cut. -/
import Derived.Test.YtkofafefnlommaaGreatP16
import Derived.Test.YtkofafefnlommaaGreatP8
import Derived.Test.YtkofafefnlommaaGreatP5
import Derived.Test.YtkofafefnlommaaGreatP7
import Derived.Laws.BytesArg
import Derived.Test.YtkofafefnlommaaGreatP20
import Derived.Test.YtkofafefnlommaaGreatP14
import Derived.Test.YtkofafefnlommaaGreatP4
import Derived.Test.YtkofafefnlommaaGreatP17

/- The contract of the model's GetVal. -/
namespace Go.Proofs.YtkofafefnlommaaGreat
open Go.RowKit

/-- GetVal. -/
def getT (zs : List Int) (i : Nat) : V × Int × Bool :=
  if (zs.getD i 0) ≤ (zs.length : Int) - i - 1 ∧ okV ⟨2, 0, strOfNums ((zs.drop (i + 1)).take (zs.getD i 0).toNat)⟩ = true then (⟨2, 0, strOfNums ((zs.drop (i + 1)).take (zs.getD i 0).toNat)⟩, (i : Int) + 1 + zs.getD i 0, true) else (V.zero, 0, false)
def getV (zs : List Int) (i ty : Int) : V × Int × Bool :=
  if ty = 1 then (if (Num.get zs i).2.2 = true then (⟨1, (Num.get zs i).1, ⟨#[]⟩⟩, (Num.get zs i).2.1, true) else (V.zero, 0, false))
  else if ty = 2 ∧ Num.inB i 0 ((zs.length : Int) - 1) = true then getT zs i.toNat else (V.zero, 0, false)
/-- What GetVal returns. -/
def rGet (r : V × Int × Bool) : Value := .tuple #[r.1.agg, .int .i64 r.2.1, .bool r.2.2]

set_option maxRecDepth 100000 in
set_option maxHeartbeats 2000000 in
theorem sGetVal (v : Value) (n : Nat) (zs : List Int) (i ty : Int) (w : World) (hn : n ≤ 1073741824) (hz : zs.length = n) (hby : Num.Bytes zs) (h : At 1 w v n (ints .u8 zs)) :
    Calls Tryz.prog 117 #[v, .int .i64 i, .int .i64 ty] w fun e w' => e = .returned (rGet (getV zs i ty)) ∧ Below w.heap.size w w' := by
  have Z0 := held_new w V.zero 77
  have B0 := below_alloc w (.cells #[.int .i64 0, .int .i64 0, .string ⟨#[]⟩] 77)
  simp only [V.zero] at Z0
  have HG := Lib.hid (sGetNum v n zs i (w.alloc (.cells #[.int .i64 0, .int .i64 0, .string ⟨#[]⟩] 77)) (by omega) hz hby (h.below B0))
  have HZ := Lib.hid hz
  obtain ⟨⟨p0, p1, p2⟩, p3, p4, p5⟩ := id Z0
  simp only at p0 p1 p2
  by_cases ht : ty = 1
  · subst ht
    have HE : Hid (getV zs i 1 = if (Num.get zs i).2.2 = true then (⟨1, (Num.get zs i).1, ⟨#[]⟩⟩, (Num.get zs i).2.1, true) else (V.zero, 0, false)) := if_pos rfl
    obtain ⟨b, off, cap, rfl, _, _, _, _⟩ := h
    generalize Num.get zs i = r at HG HE
    obtain ⟨x, nx, ok⟩ := r
    unfold getRes at HG
    simp only at HG HE
    clear hz hby
    cases ok with
    | false =>
      rw [if_neg (by simp)] at HE
      rw [HE.out]
      go_enter Tryz.func117, Tryz.ntmps117
      go_wp2_with (go_at_call 60; refine HG.out.mono ?_; rintro e w' ⟨rfl, rfl⟩)
      exact bodyPost_ret (v := .tuple #[.agg #[.int .i64 0, .int .i64 0, .string ⟨#[]⟩], .int .i64 0, .bool false]) (by simp [results, Tryz.results117, go_sem, *]) rfl ⟨rfl, below_alloc _ _⟩
    | true =>
      rw [if_pos rfl] at HE
      rw [HE.out]
      go_enter Tryz.func117, Tryz.ntmps117
      go_wp2_with (go_at_call 60; refine HG.out.mono ?_; rintro e w' ⟨rfl, rfl⟩)
      exact bodyPost_ret (v := .tuple #[.agg #[.int .i64 1, .int .i64 x, .string ⟨#[]⟩], .int .i64 nx, .bool true]) (by simp [results, Tryz.results117, go_sem, *]) rfl ⟨rfl, below_alloc _ _⟩
  have htb : (ty == 1) = false := by simpa using ht
  by_cases h2 : ty = 2
  · subst h2
    have HI := Lib.hid (fun W => l1In i 0 ((n : Int) - 1) W)
    have HE : Hid (getV zs i 2 = if Num.inB i 0 ((n : Int) - 1) = true then getT zs i.toNat else (V.zero, 0, false)) := by
      show _ = _
      unfold getV
      rw [if_neg (by decide), hz]
      simp
    obtain ⟨b, off, cap, rfl, hnc, hcm, _, hc⟩ := h
    unfold maxLen at hcm
    cases hin : Num.inB i 0 ((n : Int) - 1) with
    | false =>
      rw [hin] at HI
      rw [hin, if_neg (by simp)] at HE
      rw [HE.out]
      clear hz hby hc hin HG
      go_enter Tryz.func117, Tryz.ntmps117
      go_wp2_with (go_at_call 61; refine (HI.out _).mono ?_; rintro e w' ⟨rfl, rfl⟩)
      exact bodyPost_ret (v := .tuple #[.agg #[.int .i64 0, .int .i64 0, .string ⟨#[]⟩], .int .i64 0, .bool false]) (by simp [results, Tryz.results117, go_sem, *]) rfl ⟨rfl, below_alloc _ _⟩
    | true =>
      obtain ⟨i0, i1⟩ := Num.inB_true.1 hin
      rw [hin] at HI
      rw [hin, if_pos rfl] at HE
      obtain ⟨I, rfl⟩ := Int.eq_ofNat_of_zero_le i0
      have hI : I < n := by omega
      rw [Int.toNat_natCast] at HE
      have hcI := At.cell (k := .u8) (n := n) hc hz hI
      have hbI := hby _ (getD_mem (by omega : I < zs.length))
      have HT : Hid (getT zs I = if (zs.getD I 0) ≤ (n : Int) - I - 1 ∧ okV ⟨2, 0, strOfNums ((zs.drop (I + 1)).take (zs.getD I 0).toNat)⟩ = true then (⟨2, 0, strOfNums ((zs.drop (I + 1)).take (zs.getD I 0).toNat)⟩, (I : Int) + 1 + zs.getD I 0, true) else (V.zero, 0, false)) := by
        show _ = _
        unfold getT
        rw [hz]
      have HCV : Hid (∀ (C : Nat), zs.getD I 0 = (C : Int) → I + 1 + C ≤ n → ∀ (W : World) (cp : Nat), Below w.heap.size w W → (convert 22 9 (.slice (some ⟨b, off + (I + 1), none⟩) C cp)).run Tryz.prog W = .ok (.string (strOfNums ((zs.drop (I + 1)).take C))) W) := fun C hC hle W cp hW => by
        refine run_convert_bytes_arg W 22 5 Tryz.underlying22 Tryz.underlying5 b (off + (I + 1)) C cp ((zs.drop (I + 1)).take C) (by simp; omega) (fun j hj => ?_) 9 Tryz.underlying9
        have hjn : I + 1 + j < n := by omega
        have := At.cell (k := .u8) (n := n) hc hz hjn
        have e : ((zs.drop (I + 1)).take C).getD j 0 = zs.getD (I + 1 + j) 0 := by
          simp [hj]
        rw [e, ← this, hW.cell (p := ⟨b, off + (I + 1) + j, none⟩) (by have := lt_of_cell this; simpa using this), show off + (I + 1) + j = off + (I + 1 + j) by omega]
      replace hcI := (B0.cell (p := ⟨b, off + I, none⟩) (lt_of_cell hcI)).trans hcI
      generalize zs.getD I 0 = c at hcI hbI HT HCV
      obtain ⟨c0, c1⟩ := hbI
      obtain ⟨C, rfl⟩ := Int.eq_ofNat_of_zero_le c0
      rw [Int.toNat_natCast] at HT
      clear hin hby hc hz i0 c0 HG
      by_cases hk : (C : Int) ≤ (n : Int) - I - 1
      · have HCW := Lib.hid (fun W cp hW => HCV.out C rfl (by omega) W cp hW)
        have HSS : Hid ((strOfNums ((zs.drop (I + 1)).take C)).size ≤ maxLen) := by
          show _ ≤ _
          rw [strOfNums_size]
          unfold maxLen
          simp
          omega
        have HC0 : Hid (cap = I + 1 → ∀ (W : World) (o cp : Nat), (convert 22 9 (.slice (some ⟨b, o, none⟩) 0 cp)).run Tryz.prog W = .ok (.string (strOfNums ((zs.drop (I + 1)).take C))) W) := fun hcap W o cp => by
          obtain rfl : C = 0 := by omega
          exact run_convert_bytes_arg W 22 5 Tryz.underlying22 Tryz.underlying5 b o 0 cp ((zs.drop (I + 1)).take 0) (by simp) (fun j hj => by omega) 9 Tryz.underlying9
        generalize strOfNums ((zs.drop (I + 1)).take C) = s at HT HCW HSS HC0
        have HO := Lib.hid (fun W => sValOk ⟨2, 0, s⟩ W HSS.out)
        have hgt : ¬ ((n : Int) - I - 1 < (C : Int)) := by omega
        have Z1 := Z0.below (below_alloc _ (.cells #[.int .i64 2, .int .i64 0, .string s] 77))
        have Z2 := held_new (w.alloc (.cells #[.int .i64 0, .int .i64 0, .string ⟨#[]⟩] 77)) ⟨2, 0, s⟩ 77
        have BB := below_alloc2 w (.cells #[.int .i64 0, .int .i64 0, .string ⟨#[]⟩] 77) (.cells #[.int .i64 2, .int .i64 0, .string s] 77)
        rw [World.size_alloc] at Z2
        clear p0 p1 p2 p3 p4 p5
        by_cases hcap : cap = I + 1
        · have hcv := HC0.out hcap
          obtain rfl : C = 0 := by omega
          go_enter Tryz.func117, Tryz.ntmps117
          go_wp2_with (go_at_call 61; refine (HI.out _).mono ?_; rintro e w' ⟨rfl, rfl⟩)
          refine (HO.out _).mono ?_
          rintro e w2 ⟨rfl, hb2⟩
          have B2 := below_then BB hb2 BB.size
          obtain ⟨⟨p0, p1, p2⟩, p3, p4, p5⟩ := Z1.below hb2
          obtain ⟨⟨q0, q1, q2⟩, q3, q4, q5⟩ := Z2.below hb2
          simp only at p0 p1 p2 q0 q1 q2
          clear hb2 Z1 Z2 hcv hcI
          cases hok : okV ⟨2, 0, s⟩ with
          | false =>
            rw [if_neg (fun h => by rw [hok] at h; cases h.2)] at HT
            clear hok
            go_wp2
            exact bodyPost_ret (v := .tuple #[.agg #[.int .i64 0, .int .i64 0, .string ⟨#[]⟩], .int .i64 0, .bool false]) (by simp [results, Tryz.results117, go_sem, *]) rfl ⟨by rw [HE.out, HT.out]; simp [rGet, V.zero], ((B2.setCell (by simp) _).setCell (by simp) _).setCell (by simp) _⟩
          | true =>
            rw [if_pos ⟨hk, hok⟩] at HT
            clear hok
            go_wp2
            exact bodyPost_ret (v := .tuple #[.agg #[.int .i64 2, .int .i64 0, .string s], .int .i64 ((I : Int) + 1), .bool true]) (by simp [results, Tryz.results117, go_sem, *]) rfl ⟨by rw [HE.out, HT.out]; simp [rGet], ((B2.setCell (by simp) _).setCell (by simp) _).setCell (by simp) _⟩
        · have hcv := HCW.out (w.alloc (.cells #[.int .i64 0, .int .i64 0, .string ⟨#[]⟩] 77)) (cap - (I + 1)) B0
          go_enter Tryz.func117, Tryz.ntmps117
          go_wp2_with (go_at_call 61; refine (HI.out _).mono ?_; rintro e w' ⟨rfl, rfl⟩)
          refine (HO.out _).mono ?_
          rintro e w2 ⟨rfl, hb2⟩
          have B2 := below_then BB hb2 BB.size
          obtain ⟨⟨p0, p1, p2⟩, p3, p4, p5⟩ := Z1.below hb2
          obtain ⟨⟨q0, q1, q2⟩, q3, q4, q5⟩ := Z2.below hb2
          simp only at p0 p1 p2 q0 q1 q2
          clear hb2 Z1 Z2 hcv hcI
          cases hok : okV ⟨2, 0, s⟩ with
          | false =>
            rw [if_neg (fun h => by rw [hok] at h; cases h.2)] at HT
            clear hok
            go_wp2
            exact bodyPost_ret (v := .tuple #[.agg #[.int .i64 0, .int .i64 0, .string ⟨#[]⟩], .int .i64 0, .bool false]) (by simp [results, Tryz.results117, go_sem, *]) rfl ⟨by rw [HE.out, HT.out]; rfl, ((B2.setCell (by simp) _).setCell (by simp) _).setCell (by simp) _⟩
          | true =>
            rw [if_pos ⟨hk, hok⟩] at HT
            clear hok
            go_wp2
            exact bodyPost_ret (v := .tuple #[.agg #[.int .i64 2, .int .i64 0, .string s], .int .i64 ((I : Int) + 1 + C), .bool true]) (by simp [results, Tryz.results117, go_sem, *]) rfl ⟨by rw [HE.out, HT.out]; rfl, ((B2.setCell (by simp) _).setCell (by simp) _).setCell (by simp) _⟩
      · rw [if_neg (fun h => hk h.1)] at HT
        rw [HE.out, HT.out]
        have hgt : (n : Int) - I - 1 < (C : Int) := by omega
        clear HCV
        go_enter Tryz.func117, Tryz.ntmps117
        go_wp2_with (go_at_call 61; refine (HI.out _).mono ?_; rintro e w' ⟨rfl, rfl⟩)
        exact bodyPost_ret (v := .tuple #[.agg #[.int .i64 0, .int .i64 0, .string ⟨#[]⟩], .int .i64 0, .bool false]) (by simp [results, Tryz.results117, go_sem, *]) rfl ⟨rfl, below_alloc _ _⟩
  · have HE : Hid (getV zs i ty = (V.zero, 0, false)) := by
      show _ = _
      unfold getV
      rw [if_neg ht, if_neg (fun h => h2 h.1)]
    have h2b : (ty != 2) = true := by simpa using h2
    obtain ⟨b, off, cap, rfl, _, _, _, _⟩ := h
    rw [HE.out]
    clear HG hz hby
    go_enter Tryz.func117, Tryz.ntmps117
    go_wp2
    exact bodyPost_ret (v := .tuple #[.agg #[.int .i64 0, .int .i64 0, .string ⟨#[]⟩], .int .i64 0, .bool false]) (by simp [results, Tryz.results117, go_sem, *]) rfl ⟨rfl, below_alloc _ _⟩

end Go.Proofs.YtkofafefnlommaaGreat

/- The contracts of the model's EncPlain and DecPlain. -/
namespace Go.Proofs.YtkofafefnlommaaGreat
open Go.RowKit

/-- EncPlain. -/
def encAll (l : List V) : List Int := l.foldl putV []
def encP (l : List V) : List Int := if typeV l = 0 then [] else encAll l
theorem encAll_snoc (l : List V) (v : V) : encAll (l ++ [v]) = putV (encAll l) v := by simp [encAll]
theorem encAll_len (l : List V) : (encAll l).length ≤ 7 * l.length := by
  have : ∀ (l : List V) (b : List Int), (l.foldl putV b).length ≤ b.length + 7 * l.length := by
    intro l
    induction l with
    | nil => intro b; simp
    | cons v l ih =>
      intro b
      have h1 := ih (putV b v)
      have h2 := (putV_len b v).2
      simp only [List.foldl_cons, List.length_cons]
      omega
  have := this l []
  simpa [encAll] using this
theorem typeV_len {l : List V} (h : ¬ typeV l = 0) : l.length ≤ 64 := by
  unfold typeV at h
  split at h
  · rename_i h2
    have := Num.inB_true.1 h2.1
    omega
  · exact absurd rfl h

set_option maxHeartbeats 1000000 in
theorem sEncPlain (u : Value) (l : List V) (w : World) (hss : ∀ v ∈ l, v.s.size ≤ maxLen) (h : Rd 3 w u l.length (vals l)) :
    Calls Tryz.prog 87 #[u] w fun e w' => ∃ v', e = .returned v' ∧ Own 5 1 w.heap.size w'.heap.size w' v' (encP l).length (ints .u8 (encP l)) ∧ Below w.heap.size w w' := by
  have hown0 := own_lit (e := 5) (size := 1) w #[] 0 (Nat.zero_le _) rfl
  have hb0 := below_alloc w (.cells #[] 5)
  have HT := Lib.hid (sTypeOf u l _ hss (h.below hb0))
  have HE : Hid (encP l = if typeV l = 0 then [] else encAll l) := rfl
  have HTL : Hid (¬ typeV l = 0 → l.length ≤ 64) := typeV_len
  generalize hl : l.length = n at h HTL
  obtain ⟨a, cap, rfl, hm, HC⟩ := h.vals hl
  unfold maxLen at hm
  have HL := Lib.hid hl
  have HSS : Hid (∀ k, k < n → (l.getD k V.zero).s.size ≤ maxLen) := fun k hk => by
    have hk' : k < l.length := by omega
    have e : l.getD k V.zero = l[k] := by simp [hk']
    rw [e]
    exact hss _ (List.getElem_mem hk')
  have HS : Hid (∀ k, k < n → encAll (l.take (k + 1)) = putV (encAll (l.take k)) (l.getD k V.zero)) := fun k hk => by
    have hk' : k < l.length := by omega
    have e : l.getD k V.zero = l[k] := by simp [hk']
    rw [e, List.take_succ_eq_append_getElem hk', encAll_snoc]
  have HEL : Hid (∀ k, k ≤ n → (encAll (l.take k)).length ≤ 7 * k) := fun k hk => by
    have := encAll_len (l.take k)
    have e : (l.take k).length = k := by simp; omega
    rw [e] at this
    exact this
  generalize typeV l = ty at HT HE HTL
  clear h hl hss
  go_enter Tryz.func87, Tryz.ntmps87
  go_wp2_with fail
  refine HT.out.mono ?_
  rintro e w1 ⟨rfl, b1⟩
  have B1 := below_then hb0 b1 hb0.size
  have O1 := (hown0.below b1 (Nat.le_refl _)).wide b1.size
  clear b1 hb0 hown0 HT
  by_cases ht : ty = 0
  · subst ht
    rw [if_pos rfl] at HE
    go_wp2
    go_ret
    rw [HE.out]
    exact ⟨_, rfl, O1, B1⟩
  · have htb : (ty == 0) = false := by simpa using ht
    have h64 := HTL.out ht
    rw [if_neg ht] at HE
    go_wp2
    go_loopw [3, 4] (fun o i wr => ∃ k : Nat, k ≤ n ∧ i = .int .i64 k ∧ Own 5 1 w.heap.size wr.heap.size wr o (encAll (l.take k)).length (ints .u8 (encAll (l.take k))) ∧ Below w.heap.size w wr) (fun _ i _ => n - (intOf i).toNat)
    case atStart => exact ⟨0, Nat.zero_le _, rfl, O1, B1⟩
    case round =>
      obtain ⟨k, hk, rfl, hown, hbr⟩ := hrel
      by_cases hlt : k < n
      · obtain ⟨b, off, rfl, p0, p1, p2⟩ := HC.out k hlt
        have HSK := Lib.hid (HS.out k hlt)
        have hel := HEL.out k hk
        have HP := Lib.hid (sPutVal _ (encAll (l.take k)).length (encAll (l.take k)) (l.getD k V.zero) wr (by omega) (HSS.out k hlt) rfl hown.at)
        rw [← HSK.out] at HP
        replace p0 := (hbr.cell (p := ⟨b, off + k * 3, none⟩) (lt_of_cell p0)).trans p0
        replace p1 := (hbr.cell (p := ⟨b, off + k * 3 + 1, none⟩) (lt_of_cell p1)).trans p1
        replace p2 := (hbr.cell (p := ⟨b, off + k * 3 + 2, none⟩) (lt_of_cell p2)).trans p2
        generalize l.getD k V.zero = x at p0 p1 p2 HP
        obtain ⟨t1, n1, s1⟩ := x
        simp only at p0 p1 p2
        go_wp2_with fail
        refine HP.out.mono ?_
        rintro e w2 ⟨v2, rfl, o2, hb2⟩
        have B2 := below_then hbr hb2 hbr.size
        have O2 := Lib.hid (o2.lower hbr.size)
        clear o2 hb2 hbr hown HP p0 p1 p2
        go_wp2
        go_roundw
        case rel => exact ⟨k + 1, by omega, by go_num, O2.out, B2⟩
        case measure => simp [intOf]; omega
      · obtain rfl : k = n := by omega
        rw [← HL.out, List.take_length, ← HE.out] at hown
        go_wp2
        go_ret
        exact ⟨_, rfl, hown, hbr⟩

/-- DecPlain. -/
def decL (zs : List Int) (ty : Int) : Nat → Int → Option (List V × Int)
  | 0, i => some ([], i)
  | k + 1, i => if (getV zs i ty).2.2 = true then (decL zs ty k (getV zs i ty).2.1).map fun r => ((getV zs i ty).1 :: r.1, r.2) else none
def decP (zs : List Int) (ty k : Int) : List V × Bool :=
  if Num.inB k 1 64 = true then (match decL zs ty k.toNat 0 with | some r => if r.2 = zs.length then (r.1, true) else ([], false) | none => ([], false)) else ([], false)
/-- What DecPlain returns. -/
def RDs (w w' : World) (e : Ending) (r : List V × Bool) : Prop := ∃ v', e = .returned (.tuple #[v', .bool r.2]) ∧ Own 77 3 w.heap.size w'.heap.size w' v' r.1.length (vals r.1) ∧ Below w.heap.size w w'

set_option maxHeartbeats 2000000 in
theorem sDecPlain (u : Value) (n : Nat) (zs : List Int) (ty k : Int) (w : World) (hn : n ≤ 1073741824) (hz : zs.length = n) (hby : Num.Bytes zs) (h : At 1 w u n (ints .u8 zs)) :
    Calls Tryz.prog 89 #[u, .int .i64 ty, .int .i64 k] w fun e w' => RDs w w' e (decP zs ty k) := by
  have hown0 := own_lit (e := 77) (size := 3) w #[] 0 (Nat.zero_le _) rfl
  have hb0 := below_alloc w (.cells #[] 77)
  have HI := Lib.hid (fun W => l1In k 1 64 W)
  have HG := Lib.hid (fun i W (hW : Below w.heap.size w W) => sGetVal u n zs i ty W hn hz hby (h.below hW))
  obtain ⟨b, off, cap, rfl, _, _, _, _⟩ := h
  cases hin : Num.inB k 1 64 with
  | false =>
    have HE : Hid (decP zs ty k = ([], false)) := if_neg (by rw [hin]; simp)
    rw [hin] at HI
    clear hin hz hby HG
    go_enter Tryz.func89, Tryz.ntmps89
    go_wp2_with (go_at_call 61; refine (HI.out _).mono ?_; rintro e w' ⟨rfl, rfl⟩)
    go_ret2
    rw [HE.out]
    exact ⟨_, rfl, hown0, hb0⟩
  | true =>
    obtain ⟨k0, k1⟩ := Num.inB_true.1 hin
    rw [hin] at HI
    obtain ⟨K, rfl⟩ := Int.eq_ofNat_of_zero_le (show 0 ≤ k by omega)
    have HE : Hid (decP zs ty K = match decL zs ty K 0 with | some r => if r.2 = (n : Int) then (r.1, true) else ([], false) | none => ([], false)) := by
      show _ = _
      unfold decP
      rw [if_pos hin, hz, Int.toNat_natCast]
    have HD0 : Hid (decL zs ty K 0 = (decL zs ty (K - 0) 0).map fun r => ([] ++ r.1, r.2)) := by
      show _ = _
      simp
    have HST : Hid (∀ (j : Nat) (i : Int) (pre : List V), j < K → decL zs ty K 0 = (decL zs ty (K - j) i).map (fun r => (pre ++ r.1, r.2)) → if (getV zs i ty).2.2 = true then decL zs ty K 0 = (decL zs ty (K - (j + 1)) (getV zs i ty).2.1).map (fun r => ((pre ++ [(getV zs i ty).1]) ++ r.1, r.2)) else decL zs ty K 0 = none) := fun j i pre hj hd => by
      rw [show K - j = (K - (j + 1)) + 1 by omega, decL] at hd
      split
      · rename_i hg
        rw [if_pos hg] at hd
        rw [hd, Option.map_map]
        congr 1
        funext r
        simp
      · rename_i hg
        rw [if_neg hg] at hd
        rw [hd]
        rfl
    have HFN : Hid (∀ (i : Int) (pre : List V), decL zs ty K 0 = (decL zs ty (K - K) i).map (fun r => (pre ++ r.1, r.2)) → decL zs ty K 0 = some (pre, i)) := fun i pre hd => by
      rw [hd, Nat.sub_self]
      simp [decL]
    clear hin hz hby k0
    go_enter Tryz.func89, Tryz.ntmps89
    go_wp2_with (go_at_call 61; refine (HI.out _).mono ?_; rintro e w' ⟨rfl, rfl⟩)
    go_loopw [8, 9, 10] (fun o p i wr => ∃ (j : Nat) (q : Int) (pre : List V), j ≤ K ∧ i = .int .i64 j ∧ p = .int .i64 q ∧ pre.length = j ∧ decL zs ty K 0 = (decL zs ty (K - j) q).map (fun r => (pre ++ r.1, r.2)) ∧ Own 77 3 w.heap.size wr.heap.size wr o pre.length (vals pre) ∧ Below w.heap.size w wr) (fun _ _ i _ => K - (intOf i).toNat)
    case atStart => exact ⟨0, 0, [], Nat.zero_le _, rfl, rfl, rfl, HD0.out, hown0, hb0⟩
    case round =>
      obtain ⟨j, q, pre, hj, rfl, rfl, hpl, hd, hown, hbr⟩ := hrel
      by_cases hlt : j < K
      · have HSJ := Lib.hid (HST.out j q pre hlt hd)
        have HV := Lib.hid (HG.out q wr hbr)
        have HPL := Lib.hid hpl
        clear hd
        generalize getV zs q ty = r at HSJ HV
        obtain ⟨⟨xt, xn, xs⟩, nx, ok⟩ := r
        unfold rGet at HV
        simp only at HSJ HV
        have HVA : Hid (vals pre ++ V.cs ⟨xt, xn, xs⟩ = vals (pre ++ [(⟨xt, xn, xs⟩ : V)])) := by
          show _ = _
          simp [vals]
        have HLN : Hid ((pre ++ [(⟨xt, xn, xs⟩ : V)]).length = pre.length + 1) := by
          show _ = _
          simp
        have hcl : pre.length ≤ 64 := by omega
        clear hpl
        generalize hc : pre.length = c at hown HLN hcl HPL
        have HCC := Lib.hid hc
        clear hc
        go_wp2_with fail
        refine HV.out.mono ?_
        rintro e w2 ⟨rfl, hb2⟩
        have own2 := hown.below hb2 (Nat.le_refl _)
        have b2 := below_then hbr hb2 hbr.size
        have z2 := hb2.size
        clear hown hb2 HV
        cases ok with
        | false =>
          have HF : Hid (decP zs ty K = ([], false)) := by
            show _ = _
            have hd := HSJ.out
            rw [if_neg (by simp)] at hd
            rw [HE.out, hd]
          have OL := own_lit (e := 77) (size := 3) (w2.alloc (.cells #[.int .i64 xt, .int .i64 xn, .string xs] 77)) #[] 0 (Nat.zero_le _) rfl
          have BL := (b2.alloc b2.size (.cells #[.int .i64 xt, .int .i64 xn, .string xs] 77)).alloc (by simp; have := b2.size; omega) (.cells #[] 77)
          have HSW : Hid ((w2.alloc (.cells #[.int .i64 xt, .int .i64 xn, .string xs] 77)).heap.size = w2.heap.size + 1) := World.size_alloc _ _
          have hzz := b2.size
          clear own2
          go_wp2
          go_ret2
          rw [HF.out]
          exact ⟨_, rfl, by have := OL.lower (lo' := w.heap.size) (by simp; omega); rw [HSW.out] at this; exact this, BL⟩
        | true =>
          have HS2 : Hid (decL zs ty K 0 = (decL zs ty (K - (j + 1)) nx).map (fun r => ((pre ++ [(⟨xt, xn, xs⟩ : V)]) ++ r.1, r.2))) := by
            have hd := HSJ.out
            rw [if_pos rfl] at hd
            exact hd
          have own3 := (own2.alloc (.cells #[.int .i64 xt, .int .i64 xn, .string xs] 77)).wide (hi' := (w2.alloc (.cells #[.int .i64 xt, .int .i64 xn, .string xs] 77)).heap.size) (by simp; omega)
          have b3 := b2.alloc b2.size (.cells #[.int .i64 xt, .int .i64 xn, .string xs] 77)
          clear own2 HSJ
          go_wp2_with (at_builtin; refine appendV_law Tryz.elemVals rfl _ _ rfl _ _ _ _ _ ⟨xt, xn, xs⟩ rfl own3 (by show Value.slice (some ⟨w2.heap.size + 1, 0, none⟩) 1 1 = _; rw [World.size_alloc]) (by unfold maxLen; omega) (by omega) ?_)
          intro v4 w4 o4 e4
          have b4 := b3.trans (e4.below own3)
          rw [HVA.out] at o4
          have O4 := Lib.hid o4
          clear o4 e4 own3
          go_wp2
          go_roundw
          case rel => exact ⟨j + 1, nx, pre ++ [⟨xt, xn, xs⟩], by omega, by go_num, rfl, by rw [HLN.out, HPL.out], HS2.out, by rw [HLN.out]; exact O4.out, b4⟩
          case measure => simp [intOf]; omega
      · obtain rfl : j = K := by omega
        have HF := Lib.hid (HFN.out q pre hd)
        rw [HF.out] at HE
        clear hd
        by_cases hq : q = (n : Int)
        · have HF2 : Hid (decP zs ty j = (pre, true)) := by
            show _ = _
            rw [HE.out]
            exact if_pos hq
          have hqb : (q != (n : Int)) = false := by simpa using hq
          clear HE hq
          go_wp2
          go_ret2
          rw [HF2.out]
          exact ⟨_, rfl, hown, hbr⟩
        · have HF2 : Hid (decP zs ty j = ([], false)) := by
            show _ = _
            rw [HE.out]
            exact if_neg hq
          have hqb : (q != (n : Int)) = true := by simpa using hq
          have OL := own_lit (e := 77) (size := 3) wr #[] 0 (Nat.zero_le _) rfl
          have BL := hbr.alloc hbr.size (.cells #[] 77)
          have hzz := hbr.size
          clear HE hq hown
          go_wp2
          go_ret2
          rw [HF2.out]
          exact ⟨_, rfl, OL.lower hzz, BL⟩

end Go.Proofs.YtkofafefnlommaaGreat

/- The model's l5Same (two slices of bytes are the same), and small lemmas on bytes. -/
namespace Go.Proofs.YtkofafefnlommaaGreat
open Go.RowKit

theorem Own.drewN {e size lo hi w v n xs} (h : Own e size lo hi w v n xs) (d : Nat) : Own e size lo hi (w.drewN d) v n xs := by
  obtain ⟨g, cap, rfl, h1, h2, h3⟩ := h
  exact ⟨g, cap, rfl, h1, h2, h3.1, h3.2⟩
theorem sbytes_bytes (s : ByteArray) : Num.Bytes (sbytes s) := by
  intro x hx
  unfold sbytes at hx
  obtain ⟨b, _, rfl⟩ := List.mem_map.1 hx
  have := b.toNat_lt
  omega
theorem bytes_append {a b : List Int} (ha : Num.Bytes a) (hb : Num.Bytes b) : Num.Bytes (a ++ b) := fun x hx => (List.mem_append.1 hx).elim (ha x) (hb x)
theorem putV_bytes {zs : List Int} (h : Num.Bytes zs) (v : V) : Num.Bytes (putV zs v) := by
  unfold putV
  split
  · rename_i hok
    split
    · exact Num.put_bytes h v.n
    · rename_i ht
      have := okV_txt hok ht
      refine bytes_append h (fun x hx => ?_)
      rcases List.mem_cons.1 hx with rfl | hx
      · omega
      · exact sbytes_bytes _ x hx
  · exact h
theorem nil_bytes : Num.Bytes [] := fun x hx => by cases hx
theorem strOfNums_inj {xs ys : List Int} (hx : Num.Bytes xs) (hy : Num.Bytes ys) (h : strOfNums xs = strOfNums ys) : xs = ys := by
  have h2 : xs.map (fun n => UInt8.ofNat n.toNat) = ys.map (fun n => UInt8.ofNat n.toNat) := by
    have := congrArg (fun s : ByteArray => s.data.toList) h
    simpa [strOfNums] using this
  induction xs generalizing ys with
  | nil => cases ys with
    | nil => rfl
    | cons => simp at h2
  | cons x xs ih => cases ys with
    | nil => simp at h2
    | cons y ys =>
      simp only [List.map_cons, List.cons.injEq] at h2
      have h1 := hx x List.mem_cons_self
      have h3 := hy y List.mem_cons_self
      have e : x.toNat = y.toNat := by
        have := congrArg UInt8.toNat h2.1
        simp only [UInt8.toNat_ofNat'] at this
        omega
      have hxs : strOfNums xs = strOfNums ys := by
        unfold strOfNums
        rw [h2.2]
      rw [show x = y by omega, ih (fun z hz => hx z (List.mem_cons_of_mem _ hz)) (fun z hz => hy z (List.mem_cons_of_mem _ hz)) hxs h2.2]
theorem bstr_ne {a b : ByteArray} (h : ¬ a = b) : (a.toList == b.toList) = false := by
  have : ¬ a.toList = b.toList := fun e => h (by
    rw [ByteArray.toList_eq, ByteArray.toList_eq] at e
    apply ByteArray.ext
    exact Array.toList_inj.1 e)
  simpa using this
theorem conv_at {w : World} {v : Value} {n : Nat} {zs : List Int} (hz : zs.length = n) (h : At 1 w v n (ints .u8 zs)) : (convert 22 9 v).run Tryz.prog w = .ok (.string (strOfNums zs)) w := by
  obtain ⟨b, off, cap, rfl, _, _, _, hc⟩ := h
  exact run_convert_bytes_arg w 22 5 Tryz.underlying22 Tryz.underlying5 b off n cap zs hz (fun j hj => At.cell hc hz hj) 9 Tryz.underlying9
theorem l5Same (u v : Value) (n m : Nat) (xs ys : List Int) (w : World) (hxl : xs.length = n) (hyl : ys.length = m) (hx : Num.Bytes xs) (hy : Num.Bytes ys) (h1 : At 1 w u n (ints .u8 xs)) (h2 : At 1 w v m (ints .u8 ys)) :
    Calls Tryz.prog 93 #[u, v] w fun e w' => e = .returned (.bool (decide (xs = ys))) ∧ w = w' := by
  have k1 := conv_at hxl h1
  have k2 := conv_at hyl h2
  have HX : Hid (((strOfNums xs).toList == (strOfNums ys).toList) = decide (xs = ys)) := by
    show _ = _
    by_cases he : xs = ys
    · subst he
      simp
    · rw [bstr_ne (fun h => he (strOfNums_inj hx hy h)), decide_eq_false he]
  obtain ⟨b1, o1, c1, rfl, _, _, _, _⟩ := h1
  obtain ⟨b2, o2, c2, rfl, _, _, _, _⟩ := h2
  generalize strOfNums xs = s1 at k1 HX
  generalize strOfNums ys = s2 at k2 HX
  generalize decide (xs = ys) = q at HX
  clear hx hy hxl hyl
  go_enter Tryz.func93, Tryz.ntmps93
  go_wp2
  go_ret
  exact ⟨ret_bool HX.out, rfl⟩
theorem getV_size (zs : List Int) (i ty : Int) : (getV zs i ty).1.s.size ≤ maxLen := by
  have h6 : ∀ v : V, okV v = true → ¬ v.ty = 1 → v.s.size ≤ maxLen := fun v h ht => Nat.le_trans (okV_txt h ht) (by decide)
  unfold getV
  split
  · split
    · exact Nat.zero_le _
    · exact Nat.zero_le _
  · split
    · unfold getT
      split
      · rename_i h
        exact h6 _ h.2 (fun e => by simp at e)
      · exact Nat.zero_le _
    · exact Nat.zero_le _

end Go.Proofs.YtkofafefnlommaaGreat

/- The contracts of the model's Runs and Turns. -/
namespace Go.Proofs.YtkofafefnlommaaGreat
open Go.RowKit

/-- append(s, x): x, a Run, has just been laid in a block of its own. -/
theorem appendU_law {P : Program} {t e : TypeId} {z : Value} {bytes : Nat} (T : ElemT P t e z 4 bytes) {w : World} {ops : Array Oper} {rest : List Oper} {o : Oper} {a : Act} {Q : Exit → Act → World → Prop} (hgd : o.guard = none) (s x : Operand)
    (ho : o.op = .call { callee := .builtin .append, args := #[s, x], argTypes := #[t, t] })
    (lo hi : Nat) (v : Value) (n : Nat) (xs : List Value) (u : U) (hs : a.eval s = v) (hown : Own e 4 lo hi w v n xs)
    (hx : a.eval x = .slice (some ⟨w.heap.size, 0, none⟩) 1 1)
    (h63 : n + 1 ≤ maxLen) (hbytes : (n + 1) * bytes ≤ 140737488355328)
    (h : ∀ v' w', Own e 4 lo w'.heap.size w' v' (n + 1) (xs ++ u.cs) → Ext w w' v v' → wpList P ops Q rest (a.put o.dst v') w') : wpList P ops Q (o :: rest) a (w.alloc (.cells #[.int .i64 u.v.ty, .int .i64 u.v.n, .string u.v.s, .int .i64 u.k] e)) := by
  refine append_law T hgd s x ho lo hi v n xs hs (hown.alloc _) w.heap.size 0 1 1 u.cs hx rfl ?_ ?_ h63 hbytes (fun v' w' h1 h2 => h v' w' h1 ((Ext.alloc v _).trans h2))
  · intro j y hj
    match j, hj with
    | 0, hj => simp [U.cs] at hj; subst hj; simp
    | 1, hj => simp [U.cs] at hj; subst hj; simp
    | 2, hj => simp [U.cs] at hj; subst hj; simp
    | 3, hj => simp [U.cs] at hj; subst hj; simp
    | j + 4, hj => simp [U.cs] at hj
  · intro y hy
    simp [U.cs] at hy
    rcases hy with rfl | rfl | rfl | rfl <;> rfl

/-- Runs: one value more. -/
def lastU (r : List U) : U := r.getD (r.length - 1) U.zero
def addRun (r : List U) (v : V) : List U := if 0 < r.length ∧ (lastU r).v.eqB v = true then r.set (r.length - 1) ⟨(lastU r).v, (lastU r).k + 1⟩ else r ++ [⟨v, 1⟩]
def runsL (l : List V) : List U := l.foldl addRun []
theorem runsL_snoc (l : List V) (v : V) : runsL (l ++ [v]) = addRun (runsL l) v := by simp [runsL]
theorem addRun_len (r : List U) (v : V) : r.length ≤ (addRun r v).length ∧ (addRun r v).length ≤ r.length + 1 := by
  unfold addRun
  split
  · simp
  · simp
theorem addRun_k {r : List U} {n : Nat} (h : ∀ u ∈ r, 1 ≤ u.k ∧ u.k ≤ n) (v : V) : ∀ u ∈ addRun r v, 1 ≤ u.k ∧ u.k ≤ (n : Int) + 1 := by
  intro u hu
  unfold addRun at hu
  split at hu
  · rename_i hc
    rcases List.mem_or_eq_of_mem_set hu with hu | rfl
    · have := h u hu
      omega
    · have hm : lastU r ∈ r := by
        unfold lastU
        have hk : r.length - 1 < r.length := by omega
        have e : r.getD (r.length - 1) U.zero = r[r.length - 1] := by simp [hk]
        rw [e]
        exact List.getElem_mem hk
      have := h _ hm
      simp only
      omega
  · rcases List.mem_append.1 hu with hu | hu
    · have := h u hu
      omega
    · rw [List.mem_singleton.1 hu]
      simp only
      omega
theorem runsL_len (l : List V) : (runsL l).length ≤ l.length := by
  have : ∀ (l : List V) (r : List U), (l.foldl addRun r).length ≤ r.length + l.length := by
    intro l
    induction l with
    | nil => intro r; simp
    | cons v l ih =>
      intro r
      have h1 := ih (addRun r v)
      have h2 := (addRun_len r v).2
      simp only [List.foldl_cons, List.length_cons]
      omega
  have := this l []
  simpa [runsL] using this
theorem runsL_k (l : List V) : ∀ u ∈ runsL l, 1 ≤ u.k ∧ u.k ≤ l.length := by
  have : ∀ (n : Nat), n ≤ l.length → ∀ u ∈ runsL (l.take n), 1 ≤ u.k ∧ u.k ≤ (n : Int) := by
    intro n
    induction n with
    | zero => intro _ u hu; simp [runsL] at hu
    | succ n ih =>
      intro hn u hu
      rw [List.take_succ_eq_append_getElem (by omega), runsL_snoc] at hu
      have := addRun_k (ih (by omega)) _ u hu
      omega
  have := this l.length (Nat.le_refl _)
  rw [List.take_length] at this
  exact this
theorem rus_setK (r : List U) (j : Nat) (k : Int) (hj : j < r.length) : rus (r.set j ⟨(r.getD j U.zero).v, k⟩) = (rus r).set (j * 4 + 3) (.int .i64 k) := by
  have e : r.getD j U.zero = r[j] := by simp [hj]
  rw [rus_set r j _ hj, e]
  simp only
  have g0 : (rus r)[j * 4]? = some (.int .i64 r[j].v.ty) := rus_get (j := 0) hj (by omega)
  have g1 : (rus r)[j * 4 + 1]? = some (.int .i64 r[j].v.n) := rus_get (j := 1) hj (by omega)
  have g2 : (rus r)[j * 4 + 2]? = some (.string r[j].v.s) := rus_get (j := 2) hj (by omega)
  have same : ∀ (xs : List Value) (i : Nat) (x : Value), xs[i]? = some x → xs.set i x = xs := by
    intro xs i x h
    obtain ⟨h1, h2⟩ := List.getElem?_eq_some_iff.1 h
    rw [← h2, List.set_getElem_self]
  rw [same _ _ _ g0, same _ _ _ g1, same _ _ _ g2]

theorem addRun_new {r : List U} {v : V} (h : r.length = 0) : addRun r v = r ++ [⟨v, 1⟩] := if_neg (fun h2 => by omega)
theorem addRun_ne {r : List U} {v : V} (h : (lastU r).v.eqB v = false) : addRun r v = r ++ [⟨v, 1⟩] := if_neg (fun h2 => by rw [h] at h2; cases h2.2)
theorem addRun_eq {r : List U} {v : V} {m : Nat} (hm : r.length = m + 1) (h : (r.getD m U.zero).v.eqB v = true) : addRun r v = r.set m ⟨(r.getD m U.zero).v, (r.getD m U.zero).k + 1⟩ := by
  have e : r.length - 1 = m := by omega
  unfold addRun lastU
  rw [e, if_pos ⟨by omega, h⟩]

set_option maxHeartbeats 2000000 in
theorem sRuns (u : Value) (l : List V) (w : World) (hn : l.length ≤ 1048576) (h : Rd 3 w u l.length (vals l)) :
    Calls Tryz.prog 139 #[u] w fun e w' => ∃ v', e = .returned v' ∧ Own 124 4 w.heap.size w'.heap.size w' v' (runsL l).length (rus (runsL l)) ∧ Below w.heap.size w w' := by
  have hown0 := own_lit (e := 124) (size := 4) w #[] 0 (Nat.zero_le _) rfl
  have hb0 := below_alloc w (.cells #[] 124)
  generalize hl : l.length = n at h hn
  obtain ⟨a, cap, rfl, _, HC⟩ := h.vals hl
  have HL := Lib.hid hl
  have HS : Hid (∀ k, k < n → runsL (l.take (k + 1)) = addRun (runsL (l.take k)) (l.getD k V.zero)) := fun k hk => by
    have hk' : k < l.length := by omega
    have e : l.getD k V.zero = l[k] := by simp [hk']
    rw [e, List.take_succ_eq_append_getElem hk', runsL_snoc]
  have HLEN : Hid (∀ k, k ≤ n → (runsL (l.take k)).length ≤ k ∧ ∀ u ∈ runsL (l.take k), 1 ≤ u.k ∧ u.k ≤ k) := fun k hk => by
    have e : (l.take k).length = k := by simp; omega
    have h1 := runsL_len (l.take k)
    have h2 := runsL_k (l.take k)
    rw [e] at h1 h2
    exact ⟨h1, h2⟩
  clear hl h
  go_enter Tryz.func139, Tryz.ntmps139
  go_wp2
  go_loopw [3, 4] (fun o i wr => ∃ k : Nat, k ≤ n ∧ i = .int .i64 k ∧ Own 124 4 w.heap.size wr.heap.size wr o (runsL (l.take k)).length (rus (runsL (l.take k))) ∧ Below w.heap.size w wr) (fun _ i _ => n - (intOf i).toNat)
  case atStart => exact ⟨0, Nat.zero_le _, rfl, hown0, hb0⟩
  case round =>
    obtain ⟨k, hk, rfl, hown, hbr⟩ := hrel
    by_cases hlt : k < n
    · obtain ⟨b, off, rfl, p0, p1, p2⟩ := HC.out k hlt
      have HSK := Lib.hid (HS.out k hlt)
      obtain ⟨hrl, hrk⟩ := HLEN.out k hk
      have HRK := Lib.hid hrk
      clear hrk
      replace p0 := (hbr.cell (p := ⟨b, off + k * 3, none⟩) (lt_of_cell p0)).trans p0
      replace p1 := (hbr.cell (p := ⟨b, off + k * 3 + 1, none⟩) (lt_of_cell p1)).trans p1
      replace p2 := (hbr.cell (p := ⟨b, off + k * 3 + 2, none⟩) (lt_of_cell p2)).trans p2
      generalize l.getD k V.zero = x at p0 p1 p2 HSK
      generalize runsL (l.take k) = r at hown hrl HRK HSK
      have HVA : Hid (rus r ++ U.cs ⟨x, 1⟩ = rus (r ++ [(⟨x, 1⟩ : U)])) := by
        show _ = _
        simp [rus]
      have HLN : Hid ((r ++ [(⟨x, 1⟩ : U)]).length = r.length + 1) := by
        show _ = _
        simp
      obtain ⟨g, cp, rfl, hg1, hg2, hrow⟩ := hown
      have hown : Own 124 4 w.heap.size wr.heap.size wr (.slice (some ⟨g, 0, none⟩) r.length cp) r.length (rus r) := ⟨g, cp, rfl, hg1, hg2, hrow⟩
      clear hg1 hg2 hrow
      obtain ⟨xt, xn, xs⟩ := x
      simp only at p0 p1 p2
      by_cases hr0 : r.length = 0
      · rw [addRun_new hr0] at HSK
        rw [hr0] at hown HLN
        rw [hr0]
        clear hrl hr0 HRK
        go_wp2
        go_quiet (fail)
        go_wp2_with (at_builtin; refine appendU_law Tryz.elemRuns rfl _ _ rfl _ _ _ _ _ ⟨⟨xt, xn, xs⟩, 1⟩ rfl (hown.drewN _) rfl (by unfold maxLen; omega) (by omega) ?_)
        intro v3 w3 o3 e3
        have b3 := (hbr.trans (below_drewN _ _ _)).trans (e3.below (hown.drewN _))
        rw [HVA.out] at o3
        have O3 := Lib.hid o3
        clear o3 e3 hown p0 p1 p2
        go_wp2
        go_roundw
        case rel => exact ⟨k + 1, by omega, by go_num, by rw [HSK.out, HLN.out]; exact O3.out, b3⟩
        case measure => simp [intOf]; omega
      · obtain ⟨m, hm⟩ : ∃ m, r.length = m + 1 := ⟨r.length - 1, by omega⟩
        have hmr : m < r.length := by omega
        obtain ⟨b', off', cp', e', _, _, _, hcs⟩ := hown.at
        simp only [Value.slice.injEq, Option.some.injEq, Addr.mk.injEq, and_true, true_and] at e'
        obtain ⟨⟨rfl, rfl⟩, rfl⟩ := e'
        obtain ⟨q0, q1, q2, q3⟩ := cells4 hcs hmr
        have hgd : r.getD m U.zero = r[m] := by simp [hmr]
        rw [← hgd] at q0 q1 q2 q3
        simp only [Nat.zero_add] at q0 q1 q2 q3
        have hmem : r.getD m U.zero ∈ r := by rw [hgd]; exact List.getElem_mem hmr
        obtain ⟨hk1, hk2⟩ := HRK.out _ hmem
        have HQ := Lib.hid (fun W => run_eql_val (r.getD m U.zero).v ⟨xt, xn, xs⟩ W)
        have HSE : Hid ((r.getD m U.zero).v.eqB ⟨xt, xn, xs⟩ = true → addRun r ⟨xt, xn, xs⟩ = r.set m ⟨(r.getD m U.zero).v, (r.getD m U.zero).k + 1⟩) := fun h => addRun_eq hm h
        have HSN : Hid ((r.getD m U.zero).v.eqB ⟨xt, xn, xs⟩ = false → addRun r ⟨xt, xn, xs⟩ = r ++ [⟨⟨xt, xn, xs⟩, 1⟩]) := fun h => addRun_ne (by unfold lastU; rw [show r.length - 1 = m by omega]; exact h)
        have HST : Hid (∀ d, ((wr.drewN d).setCell ⟨g, m * 4 + 3, none⟩ (.int .i64 ((r.getD m U.zero).k + 1))).ownsRow w.heap.size 124 4 (.slice (some ⟨g, 0, none⟩) (m + 1) cp) (m + 1) (rus (r.set m ⟨(r.getD m U.zero).v, (r.getD m U.zero).k + 1⟩)) ∧ (wr.drewN d).grownBy ((wr.drewN d).setCell ⟨g, m * 4 + 3, none⟩ (.int .i64 ((r.getD m U.zero).k + 1))) (some g)) := fun d => by
          have hrow := (hown.drewN d).row
          rw [rus_setK r m _ hmr]
          rw [hm] at hrow
          exact hrow.stored (m * 4 + 3) _
        have HFZ : Hid (∀ d, (wr.drewN d).frozen? ⟨g, m * 4 + 3, none⟩ = false) := fun d => (hown.drewN d).row.frozenAt _
        have HBK : Hid (w.heap.size ≤ g) := by
          obtain ⟨g2, c2, e2, h2, _⟩ := hown
          cases e2
          exact h2
        have HLS : Hid ((r.set m ⟨(r.getD m U.zero).v, (r.getD m U.zero).k + 1⟩).length = m + 1) := by
          show _ = _
          rw [List.length_set, hm]
        rw [hm] at hown HLN hrl
        rw [hm]
        clear hcs hgd hmem HRK hr0
        generalize r.getD m U.zero = y at q0 q1 q2 q3 hk1 hk2 HQ HSE HSN HST HLS
        obtain ⟨⟨yt, yn, ys⟩, yk⟩ := y
        simp only at q0 q1 q2 q3 hk1 hk2 HQ HSE HSN HST HLS
        cases he : V.eqB ⟨yt, yn, ys⟩ ⟨xt, xn, xs⟩ with
        | false =>
          rw [he] at HQ
          rw [HSN.out he] at HSK
          have hq := HQ.out
          clear he HSE HSN HST HLS HFZ
          go_wp2
          go_quiet (fail)
          go_wp2_with (at_builtin; refine appendU_law Tryz.elemRuns rfl _ _ rfl _ _ _ _ _ ⟨⟨xt, xn, xs⟩, 1⟩ rfl (hown.drewN _) rfl (by unfold maxLen; omega) (by omega) ?_)
          intro v3 w3 o3 e3
          have b3 := (hbr.trans (below_drewN _ _ _)).trans (e3.below (hown.drewN _))
          rw [HVA.out] at o3
          have O3 := Lib.hid o3
          clear o3 e3 hown p0 p1 p2
          go_wp2
          go_roundw
          case rel => exact ⟨k + 1, by omega, by go_num, by rw [HSK.out, HLN.out]; exact O3.out, b3⟩
          case measure => simp [intOf]; omega
        | true =>
          rw [he] at HQ
          rw [HSE.out he] at HSK
          have hq := HQ.out
          have z3 : ∀ d, (wr.drewN d).cell? ⟨g, m * 4 + 3, none⟩ = some (.int .i64 yk) := fun d => q3
          have f3 := HFZ.out
          clear he HSE HSN
          go_wp2
          go_quiet (fail)
          go_wp2
          go_roundw
          case rel =>
            refine ⟨k + 1, by omega, by go_num, ?_, ?_⟩
            · rw [HSK.out, HLS.out]
              exact ⟨g, cp, rfl, HBK.out, ((HST.out _).1.lt g rfl).2, (HST.out _).1⟩
            · have R := (HST.out nq).2
              have hB := hbr.trans (below_drewN wr w.heap.size nq)
              exact hB.trans ⟨R.os, R.tape, R.output, R.size, fun j hj => R.block j (by have := hB.size; omega) (by have := HBK.out; simp; omega)⟩
          case measure => simp [intOf]; omega
    · obtain rfl : k = n := by omega
      rw [← HL.out, List.take_length] at hown
      go_wp2
      go_ret
      exact ⟨_, rfl, hown, hbr⟩

end Go.Proofs.YtkofafefnlommaaGreat

/- The contracts of the model's Turns, LongestRun and Spread. -/
namespace Go.Proofs.YtkofafefnlommaaGreat
open Go.RowKit

/-- Turns: among the first k values. -/
def turnsK (l : List V) : Nat → Nat
  | 0 => 0
  | k + 1 => turnsK l k + (if 0 < k ∧ (l.getD k V.zero).eqB (l.getD (k - 1) V.zero) = false then 1 else 0)
def turnsL (l : List V) : Nat := turnsK l l.length
theorem turnsK_le (l : List V) : ∀ k, turnsK l k ≤ k
  | 0 => Nat.le_refl _
  | k + 1 => by
    have := turnsK_le l k
    rw [turnsK]
    split <;> omega

/-- LongestRun. -/
def longK (r : List U) : Int := r.foldl (fun n u => if n < u.k then u.k else n) 0
theorem longK_snoc (r : List U) (u : U) : longK (r ++ [u]) = if longK r < u.k then u.k else longK r := by
  unfold longK
  rw [List.foldl_append]
  rfl
def longL (l : List V) : Int := longK (runsL l)

/-- Spread. -/
def spreadF : List U → List V → Option (List V)
  | [], out => some out
  | u :: r, out => if 1 ≤ u.k ∧ u.k ≤ 64 - (out.length : Int) then spreadF r (out ++ List.replicate u.k.toNat u.v) else none
def spreadL (r : List U) : List V := (spreadF r []).getD []
theorem spreadF_len : ∀ {r : List U} {out l : List V}, out.length ≤ 64 → spreadF r out = some l → l.length ≤ 64
  | [], out, l, h, e => by
    simp only [spreadF, Option.some.injEq] at e
    subst e
    exact h
  | u :: r, out, l, h, e => by
    rw [spreadF] at e
    split at e
    · rename_i hc
      refine spreadF_len ?_ e
      simp only [List.length_append, List.length_replicate]
      omega
    · cases e
theorem spreadL_len (r : List U) : (spreadL r).length ≤ 64 := by
  unfold spreadL
  cases h : spreadF r [] with
  | none => simp
  | some l => exact spreadF_len (by simp) h

set_option maxHeartbeats 2000000 in
theorem sSpread (u : Value) (l : List U) (w : World) (h : Rd 4 w u l.length (rus l)) :
    Calls Tryz.prog 118 #[u] w fun e w' => ∃ v', e = .returned v' ∧ Own 77 3 w.heap.size w'.heap.size w' v' (spreadL l).length (vals (spreadL l)) ∧ Below w.heap.size w w' := by
  have hown0 := own_lit (e := 77) (size := 3) w #[] 0 (Nat.zero_le _) rfl
  have hb0 := below_alloc w (.cells #[] 77)
  have HE : Hid (spreadL l = (spreadF l []).getD []) := rfl
  generalize hl : l.length = n at h
  obtain ⟨a, cap, rfl, hm, HC⟩ := h.runs hl
  unfold maxLen at hm
  have H0 : Hid (spreadF l [] = spreadF (l.drop 0) []) := rfl
  have HST : Hid (∀ k out, k < n → spreadF (l.drop k) out = if 1 ≤ (l.getD k U.zero).k ∧ (l.getD k U.zero).k ≤ 64 - (out.length : Int) then spreadF (l.drop (k + 1)) (out ++ List.replicate (l.getD k U.zero).k.toNat (l.getD k U.zero).v) else none) := fun k out hk => by
    have hk' : k < l.length := by omega
    have e : l.getD k U.zero = l[k] := by simp [hk']
    rw [e, List.drop_eq_getElem_cons hk', spreadF]
  have HFN : Hid (∀ out, spreadF (l.drop n) out = some out) := fun out => by
    rw [List.drop_of_length_le (by omega)]
    rfl
  clear h hl
  go_enter Tryz.func118, Tryz.ntmps118
  go_wp2
  go_loopw [3, 4] (fun o i wr => ∃ (k : Nat) (out : List V), k ≤ n ∧ i = .int .i64 k ∧ out.length ≤ 64 ∧ spreadF l [] = spreadF (l.drop k) out ∧ Own 77 3 w.heap.size wr.heap.size wr o out.length (vals out) ∧ Below w.heap.size w wr) (fun _ i _ => n - (intOf i).toNat)
  case atStart => exact ⟨0, [], Nat.zero_le _, rfl, by simp, H0.out, hown0, hb0⟩
  case round =>
    obtain ⟨k, out, hk, rfl, hol, hsp, hown, hbr⟩ := hrel
    by_cases hlt : k < n
    · obtain ⟨b, off, rfl, c0, c1, c2, c3⟩ := HC.out k hlt wr hbr
      have HSK := Lib.hid (hsp.trans (HST.out k out hlt))
      have HCK : Hid (∀ W, Below w.heap.size w W → W.cell? ⟨b, off + k * 4, none⟩ = some (.int .i64 (l.getD k U.zero).v.ty) ∧ W.cell? ⟨b, off + k * 4 + 1, none⟩ = some (.int .i64 (l.getD k U.zero).v.n) ∧ W.cell? ⟨b, off + k * 4 + 2, none⟩ = some (.string (l.getD k U.zero).v.s) ∧ W.cell? ⟨b, off + k * 4 + 3, none⟩ = some (.int .i64 (l.getD k U.zero).k)) := fun W hW => by
        obtain ⟨_, _, e1, d1⟩ := HC.out k hlt W hW
        cases e1
        exact d1
      generalize l.getD k U.zero = x at c0 c1 c2 c3 HSK HCK
      obtain ⟨⟨t1, n1, s1⟩, q⟩ := x
      simp only at c0 c1 c2 c3 HSK HCK
      clear hsp
      obtain ⟨g, cp, rfl, hg1, hg2, hrow⟩ := hown
      have hown : Own 77 3 w.heap.size wr.heap.size wr (.slice (some ⟨g, 0, none⟩) out.length cp) out.length (vals out) := ⟨g, cp, rfl, hg1, hg2, hrow⟩
      clear hg1 hg2 hrow
      by_cases hq1 : q < 1
      · have HF : Hid (spreadL l = []) := by
          show _ = _
          rw [HE.out, HSK.out, if_neg (by omega)]
          rfl
        have OL := own_lit (e := 77) (size := 3) wr #[] 0 (Nat.zero_le _) rfl
        have BL := hbr.alloc hbr.size (.cells #[] 77)
        have hzz := hbr.size
        clear hown HSK
        generalize out.length = c at *
        go_wp2
        go_ret
        rw [HF.out]
        exact ⟨_, rfl, OL.lower hzz, BL⟩
      by_cases hq2 : 64 - (out.length : Int) < q
      · have HF : Hid (spreadL l = []) := by
          show _ = _
          rw [HE.out, HSK.out, if_neg (by omega)]
          rfl
        have OL := own_lit (e := 77) (size := 3) wr #[] 0 (Nat.zero_le _) rfl
        have BL := hbr.alloc hbr.size (.cells #[] 77)
        have hzz := hbr.size
        clear hown HSK
        generalize out.length = c at *
        go_wp2
        go_ret
        rw [HF.out]
        exact ⟨_, rfl, OL.lower hzz, BL⟩
      obtain ⟨Q, rfl⟩ := Int.eq_ofNat_of_zero_le (show 0 ≤ q by omega)
      rw [if_pos ⟨by omega, by omega⟩, Int.toNat_natCast] at HSK
      have HR0 : Hid (out ++ List.replicate 0 (⟨t1, n1, s1⟩ : V) = out) := by
        show _ = _
        simp
      generalize hcc : out.length = c at hown hq2 hol
      have HCC := Lib.hid hcc
      clear hcc
      go_wp2
      go_loopw [3, 5] (fun o i wr' => ∃ j : Nat, j ≤ Q ∧ i = .int .i64 j ∧ Own 77 3 w.heap.size wr'.heap.size wr' o (c + j) (vals (out ++ List.replicate j ⟨t1, n1, s1⟩)) ∧ Below w.heap.size w wr') (fun _ i _ => Q - (intOf i).toNat)
      case atStart => exact ⟨0, Nat.zero_le _, rfl, by rw [HR0.out]; exact hown, hbr⟩
      case round =>
        obtain ⟨j, hj, rfl, hown2, hbr2⟩ := hrel
        obtain ⟨d0, d1, d2, d3⟩ := HCK.out _ hbr2
        by_cases hjl : j < Q
        · have HVA : Hid (vals (out ++ List.replicate j (⟨t1, n1, s1⟩ : V)) ++ V.cs ⟨t1, n1, s1⟩ = vals (out ++ List.replicate (j + 1) (⟨t1, n1, s1⟩ : V))) := by
            show _ = _
            rw [List.replicate_succ', ← List.append_assoc]
            simp [vals]
          go_wp2_with (at_builtin; refine appendV_law Tryz.elemVals rfl _ _ rfl _ _ _ _ _ ⟨t1, n1, s1⟩ rfl hown2 rfl (by unfold maxLen; omega) (by omega) ?_)
          intro v3 w3 o3 e3
          have b3 := hbr2.trans (e3.below hown2)
          rw [HVA.out] at o3
          have O3 := Lib.hid o3
          clear o3 e3 hown2 d0 d1 d2 d3 c0 c1 c2 c3
          go_wp2
          go_roundw
          case rel => exact ⟨j + 1, by omega, by go_num, O3.out, b3⟩
          case measure => simp [intOf]; omega
        · obtain rfl : j = Q := by omega
          go_wp2
          go_roundw
          case rel => exact ⟨k + 1, out ++ List.replicate j ⟨t1, n1, s1⟩, by omega, by go_num, by simp [HCC.out]; omega, HSK.out, by simp only [List.length_append, List.length_replicate, HCC.out]; exact hown2, hbr2⟩
          case measure => simp [intOf]; omega
    · obtain rfl : k = n := by omega
      have HF : Hid (spreadL l = out) := by
        show _ = _
        rw [HE.out, hsp, HFN.out]
        rfl
      clear hsp
      go_wp2
      go_ret
      rw [HF.out]
      exact ⟨_, rfl, hown, hbr⟩

end Go.Proofs.YtkofafefnlommaaGreat

/- The contract of the model's EncRuns, and its comparison of bytes. -/
namespace Go.Proofs.YtkofafefnlommaaGreat
open Go.RowKit

theorem addRun_mem {r : List U} {v : V} {p : V → Prop} (h : ∀ u ∈ r, p u.v) (hv : p v) : ∀ u ∈ addRun r v, p u.v := by
  intro u hu
  unfold addRun at hu
  split at hu
  · rename_i hc
    rcases List.mem_or_eq_of_mem_set hu with hu | rfl
    · exact h u hu
    · have hk : r.length - 1 < r.length := by omega
      have e : lastU r = r[r.length - 1] := by simp [lastU, hk]
      simp only
      rw [e]
      exact h _ (List.getElem_mem hk)
  · rcases List.mem_append.1 hu with hu | hu
    · exact h u hu
    · rw [List.mem_singleton.1 hu]
      exact hv
theorem runsL_all {l : List V} {p : V → Prop} (h : ∀ v ∈ l, p v) : ∀ u ∈ runsL l, p u.v := by
  have : ∀ (l : List V) (r : List U), (∀ u ∈ r, p u.v) → (∀ v ∈ l, p v) → ∀ u ∈ l.foldl addRun r, p u.v := by
    intro l
    induction l with
    | nil => intro r hr _; exact hr
    | cons v l ih =>
      intro r hr hl
      exact ih _ (addRun_mem hr (hl v List.mem_cons_self)) (fun x hx => hl x (List.mem_cons_of_mem _ hx))
  exact this l [] (by simp) h

/-- EncRuns. -/
def encU (b : List Int) (r : List U) : List Int := r.foldl (fun b u => putV (Num.put b u.k) u.v) b
theorem encU_snoc (b : List Int) (r : List U) (u : U) : encU b (r ++ [u]) = putV (Num.put (encU b r) u.k) u.v := by simp [encU]
theorem encU_len (b : List Int) (r : List U) : (encU b r).length ≤ b.length + 12 * r.length := by
  induction r generalizing b with
  | nil => simp [encU]
  | cons u r ih =>
    have h1 := ih (putV (Num.put b u.k) u.v)
    have h2 := (putV_len (Num.put b u.k) u.v).2
    have h3 := (Num.put_len b u.k).2
    have e : encU b (u :: r) = encU (putV (Num.put b u.k) u.v) r := rfl
    rw [e]
    simp only [List.length_cons]
    omega
def encR (l : List V) : List Int := if typeV l = 0 then [] else encU (Num.put [] (runsL l).length) (runsL l)

theorem encU_bytes {b : List Int} (h : Num.Bytes b) (r : List U) : Num.Bytes (encU b r) := by
  induction r generalizing b with
  | nil => exact h
  | cons u r ih => exact ih (putV_bytes (Num.put_bytes h _) _)
theorem encR_bytes (l : List V) : Num.Bytes (encR l) := by
  unfold encR
  split
  · exact nil_bytes
  · exact encU_bytes (Num.put_bytes nil_bytes _) _
theorem encR_len (l : List V) : (encR l).length ≤ 5 + 12 * 64 := by
  unfold encR
  split
  · simp
  · rename_i h
    have h1 := typeV_len h
    have h2 := runsL_len l
    have h3 := encU_len (Num.put [] (runsL l).length) (runsL l)
    have h4 := (Num.put_len [] (runsL l).length).2
    simp only [List.length_nil] at h4
    omega

set_option maxHeartbeats 2000000 in
theorem sEncRuns (u : Value) (l : List V) (w : World) (hn : l.length ≤ 1048576) (hss : ∀ v ∈ l, v.s.size ≤ maxLen) (h : Rd 3 w u l.length (vals l)) :
    Calls Tryz.prog 110 #[u] w fun e w' => ∃ v', e = .returned v' ∧ Own 5 1 w.heap.size w'.heap.size w' v' (encR l).length (ints .u8 (encR l)) ∧ Below w.heap.size w w' := by
  have HT := Lib.hid (sTypeOf u l w hss h)
  have HR := Lib.hid (fun W (hW : Below w.heap.size w W) => sRuns u l W hn (h.below hW))
  have HE : Hid (encR l = if typeV l = 0 then [] else encU (Num.put [] (runsL l).length) (runsL l)) := rfl
  have HRS := Lib.hid (runsL_all (p := fun v => v.s.size ≤ maxLen) hss)
  have HRL := Lib.hid (runsL_len l)
  have HTL : Hid (¬ typeV l = 0 → l.length ≤ 64) := typeV_len
  obtain ⟨a, cap, rfl, _, _⟩ := h
  generalize typeV l = ty at HT HE HTL
  generalize runsL l = r at HR HE HRS HRL
  clear hss
  generalize hln : l.length = n at *
  go_enter Tryz.func110, Tryz.ntmps110
  go_wp2_with fail
  refine HT.out.mono ?_
  rintro e w1 ⟨rfl, b1⟩
  clear HT
  by_cases ht : ty = 0
  · subst ht
    rw [if_pos rfl] at HE
    have OL := own_lit (e := 5) (size := 1) w1 #[] 0 (Nat.zero_le _) rfl
    have BL := b1.alloc b1.size (.cells #[] 5)
    have hzz := b1.size
    go_wp2
    go_ret
    rw [HE.out]
    exact ⟨_, rfl, OL.lower hzz, BL⟩
  · have htb : (ty == 0) = false := by simpa using ht
    have h64 := HTL.out ht
    have hrl := HRL.out
    rw [if_neg ht] at HE
    go_wp2_with fail
    refine (HR.out _ b1).mono ?_
    rintro e w2 ⟨v2, rfl, o2, b2⟩
    have B2 := below_then b1 b2 b1.size
    clear HR b2
    generalize hm : r.length = m at o2 hrl HE
    obtain ⟨a2, c2, rfl, _, HC⟩ := o2.rd.runs hm
    have HM := Lib.hid hm
    have hown0 := own_lit (e := 5) (size := 1) w2 #[] 0 (Nat.zero_le _) rfl
    have hb0 := below_alloc w2 (.cells #[] 5)
    have HP0 := Lib.hid (sPutNum _ 0 [] (m : Int) (w2.alloc (.cells #[] 5)) (by omega) rfl hown0.at)
    have HS : Hid (∀ k, k < m → encU (Num.put [] (m : Int)) (r.take (k + 1)) = putV (Num.put (encU (Num.put [] (m : Int)) (r.take k)) (r.getD k U.zero).k) (r.getD k U.zero).v) := fun k hk => by
      have hk' : k < r.length := by omega
      have e : r.getD k U.zero = r[k] := by simp [hk']
      rw [e, List.take_succ_eq_append_getElem hk', encU_snoc]
    have HSS : Hid (∀ k, k < m → (r.getD k U.zero).v.s.size ≤ maxLen) := fun k hk => by
      have hk' : k < r.length := by omega
      have e : r.getD k U.zero = r[k] := by simp [hk']
      rw [e]
      exact HRS.out _ (List.getElem_mem hk')
    have HEL : Hid (∀ k, k ≤ m → (encU (Num.put [] (m : Int)) (r.take k)).length ≤ 5 + 12 * k) := fun k hk => by
      have h1 := encU_len (Num.put [] (m : Int)) (r.take k)
      have h2 := (Num.put_len [] (m : Int)).2
      have e : (r.take k).length = k := by simp; omega
      rw [e] at h1
      simp only [List.length_nil] at h2
      omega
    have HZ : Hid (encU (Num.put [] (m : Int)) (r.take 0) = Num.put [] (m : Int)) := rfl
    clear hm o2 HRS
    have hcc : ((m : Nat) : Int) = m := rfl
    clear hcc
    go_wp2_with fail
    refine HP0.out.mono ?_
    rintro e w3 ⟨v3, rfl, o3, b3⟩
    have B23 := below_then hb0 b3 hb0.size
    rw [← HZ.out] at o3
    have O3 : Own 5 1 w2.heap.size w3.heap.size w3 v3 (encU (Num.put [] (m : Int)) (r.take 0)).length (ints .u8 (encU (Num.put [] (m : Int)) (r.take 0))) := o3.lower (by simp)
    clear HP0 b3 hb0 hown0 o3
    go_wp2
    go_loopw [4, 5] (fun o i wr => ∃ k : Nat, k ≤ m ∧ i = .int .i64 k ∧ Own 5 1 w2.heap.size wr.heap.size wr o (encU (Num.put [] (m : Int)) (r.take k)).length (ints .u8 (encU (Num.put [] (m : Int)) (r.take k))) ∧ Below w2.heap.size w2 wr) (fun _ i _ => m - (intOf i).toNat)
    case atStart => exact ⟨0, Nat.zero_le _, rfl, O3, B23⟩
    case round =>
      obtain ⟨k, hk, rfl, hown, hbr⟩ := hrel
      by_cases hlt : k < m
      · obtain ⟨b, off, rfl, _⟩ := HC.out k hlt wr hbr
        have HSK := Lib.hid (HS.out k hlt)
        have hel := HEL.out k hk
        have hsz := HSS.out k hlt
        have HK : Hid (∀ W, Below wr.heap.size wr W → W.cell? ⟨b, off + k * 4, none⟩ = some (.int .i64 (r.getD k U.zero).v.ty) ∧ W.cell? ⟨b, off + k * 4 + 1, none⟩ = some (.int .i64 (r.getD k U.zero).v.n) ∧ W.cell? ⟨b, off + k * 4 + 2, none⟩ = some (.string (r.getD k U.zero).v.s) ∧ W.cell? ⟨b, off + k * 4 + 3, none⟩ = some (.int .i64 (r.getD k U.zero).k)) := fun W hW => by
          obtain ⟨_, _, e1, d1⟩ := HC.out k hlt W (below_then hbr hW hbr.size)
          cases e1
          exact d1
        generalize r.getD k U.zero = x at HSK HK hsz
        obtain ⟨⟨t1, n1, s1⟩, q⟩ := x
        simp only at HSK HK hsz
        generalize encU (Num.put [] (m : Int)) (r.take k) = zs at hown hel HSK
        have hpl := (Num.put_len zs q).2
        have HP := Lib.hid (fun W (hW : Below wr.heap.size wr W) => sPutNum _ zs.length zs q W (by omega) rfl (hown.at.below hW))
        have HPV := Lib.hid (fun v W (h : At 1 W v (Num.put zs q).length (ints .u8 (Num.put zs q))) => sPutVal v (Num.put zs q).length (Num.put zs q) ⟨t1, n1, s1⟩ W (by omega) hsz rfl h)
        obtain ⟨g, cp, rfl, _, _, _⟩ := hown
        rw [← HSK.out] at HPV
        generalize Num.put zs q = zq at HP HPV
        have hB' := (Below.refl wr.heap.size wr).drew
        generalize zs.length = c at *
        go_wp2
        go_region_held3 (fun W => W.cell? ⟨b, off + k * 4, none⟩ = some (.int .i64 t1) ∧ W.cell? ⟨b, off + k * 4 + 1, none⟩ = some (.int .i64 n1) ∧ W.cell? ⟨b, off + k * 4 + 2, none⟩ = some (.string s1) ∧ W.cell? ⟨b, off + k * 4 + 3, none⟩ = some (.int .i64 q)) (exact HK.out _ hB') (first | (go_at_call 50; (with_reducible refine (HP.out _ hB').mono ?_); rintro e w4 ⟨v4, rfl, o4, hb4⟩; replace hB' := below_then hB' hb4 hB'.size) | (go_at_call 116; (with_reducible refine (HPV.out v4 _ o4.at).mono ?_); rintro e w5 ⟨v5, rfl, o5, hb5⟩; have z5 := hB'.size; replace hB' := below_then hB' hb5 hB'.size))
        have hz := hbr.size
        have O5 := Lib.hid (o5.lower (show w2.heap.size ≤ _ by omega))
        clear o5 o4
        go_wp2
        go_roundw
        case rel => exact ⟨k + 1, by omega, by go_num, O5.out, below_then hbr hB' hbr.size⟩
        case measure => simp [intOf]; omega
      · obtain rfl : k = m := by omega
        rw [← HM.out, List.take_length, HM.out, ← HE.out] at hown
        go_wp2
        go_ret
        exact ⟨_, rfl, hown.lower B2.size, below_then B2 hbr B2.size⟩

end Go.Proofs.YtkofafefnlommaaGreat

/- The contract of the model's DecRuns. -/
namespace Go.Proofs.YtkofafefnlommaaGreat
open Go.RowKit




/-- DecRuns. -/
def decU (zs : List Int) (ty : Int) : Nat → Int → Option (List U)
  | 0, _ => some []
  | n + 1, i => if (Num.get zs i).2.2 = true ∧ (getV zs (Num.get zs i).2.1 ty).2.2 = true then (decU zs ty n (getV zs (Num.get zs i).2.1 ty).2.1).map fun r => ⟨(getV zs (Num.get zs i).2.1 ty).1, (Num.get zs i).1⟩ :: r else none
def decR (zs : List Int) (ty k : Int) : List V × Bool :=
  if (Num.get zs 0).2.2 = true ∧ Num.inB k 1 64 = true ∧ Num.inB (Num.get zs 0).1 1 64 = true then
    (match decU zs ty (Num.get zs 0).1.toNat (Num.get zs 0).2.1 with
      | some r => if ((spreadL r).length : Int) = k ∧ encR (spreadL r) = zs then (spreadL r, true) else ([], false)
      | none => ([], false))
  else ([], false)
theorem decR_len (zs : List Int) (ty k : Int) : (decR zs ty k).1.length ≤ 64 := by
  unfold decR
  split
  · split
    · split
      · exact spreadL_len _
      · simp
    · simp
  · simp
theorem decU_size {zs : List Int} {ty : Int} : ∀ {n : Nat} {i : Int} {r : List U}, decU zs ty n i = some r → ∀ u ∈ r, u.v.s.size ≤ maxLen := by
  intro n
  induction n with
  | zero =>
    intro i r h u hu
    simp only [decU, Option.some.injEq] at h
    subst h
    cases hu
  | succ n ih =>
    intro i r h u hu
    rw [decU] at h
    split at h
    · obtain ⟨q, hq, rfl⟩ := Option.map_eq_some_iff.1 h
      rcases List.mem_cons.1 hu with rfl | hu
      · exact getV_size _ _ _
      · exact ih hq u hu
    · cases h
theorem spreadF_all {p : V → Prop} : ∀ {r : List U} {out l : List V}, (∀ u ∈ r, p u.v) → (∀ v ∈ out, p v) → spreadF r out = some l → ∀ v ∈ l, p v
  | [], out, l, _, h2, e => by
    simp only [spreadF, Option.some.injEq] at e
    subst e
    exact h2
  | u :: r, out, l, h1, h2, e => by
    rw [spreadF] at e
    split at e
    · refine spreadF_all (fun x hx => h1 x (List.mem_cons_of_mem _ hx)) (fun v hv => ?_) e
      rcases List.mem_append.1 hv with hv | hv
      · exact h2 v hv
      · rw [List.eq_of_mem_replicate hv]
        exact h1 u List.mem_cons_self
    · cases e
theorem spreadL_all {p : V → Prop} {r : List U} (h : ∀ u ∈ r, p u.v) : ∀ v ∈ spreadL r, p v := by
  unfold spreadL
  cases e : spreadF r [] with
  | none => simp
  | some l => exact spreadF_all h (by simp) e

set_option maxRecDepth 100000 in
set_option maxHeartbeats 4000000 in
theorem sDecRuns (u : Value) (n : Nat) (zs : List Int) (ty k : Int) (w : World) (hn : n ≤ 1073741824) (hz : zs.length = n) (hby : Num.Bytes zs) (h : At 1 w u n (ints .u8 zs)) :
    Calls Tryz.prog 90 #[u, .int .i64 ty, .int .i64 k] w fun e w' => RDs w w' e (decR zs ty k) := by
  obtain ⟨W1, hW1⟩ : ∃ W1, w.alloc (.cells #[] 77) = W1 := ⟨_, rfl⟩
  have hs1 : W1.heap.size = w.heap.size + 1 := by rw [← hW1]; simp
  have hN : Own 77 3 w.heap.size W1.heap.size W1 (.slice (some ⟨w.heap.size, 0, none⟩) 0 0) 0 [] := by
    rw [← hW1]
    exact own_lit (e := 77) (size := 3) w #[] 0 (Nat.zero_le _) rfl
  have hb0 : Below w.heap.size w W1 := by rw [← hW1]; exact below_alloc w _
  have hat1 := h.below hb0
  have HG := Lib.hid (fun i W (hW : Below W1.heap.size W1 W) => sGetNum u n zs i W (by omega) hz hby (hat1.below hW))
  have HV := Lib.hid (fun i W (hW : Below W1.heap.size W1 W) => sGetVal u n zs i ty W hn hz hby (hat1.below hW))
  have HIK := Lib.hid (fun W => l1In k 1 64 W)
  have HEX : Hid (decR zs ty k = if (Num.get zs 0).2.2 = true ∧ Num.inB k 1 64 = true ∧ Num.inB (Num.get zs 0).1 1 64 = true then (match decU zs ty (Num.get zs 0).1.toNat (Num.get zs 0).2.1 with | some r => if ((spreadL r).length : Int) = k ∧ encR (spreadL r) = zs then (spreadL r, true) else ([], false) | none => ([], false)) else ([], false)) := rfl
  have HG0 := Lib.hid (HG.out 0 W1 (Below.refl _ _))
  have HFIN : Hid (∀ e w', RDs w w' e ([], false) → decR zs ty k = ([], false) → RDs w w' e (decR zs ty k)) := fun e w' h1 h2 => by rw [h2]; exact h1
  obtain ⟨b, off, cap, rfl, _, _, _, _⟩ := id h
  generalize hg : Num.get zs 0 = g0 at HG0 HEX
  obtain ⟨x0, nx0, ok0⟩ := g0
  unfold getRes at HG0
  simp only at HG0 HEX
  have HIN := Lib.hid (fun W => l1In x0 1 64 W)
  have HNO : Hid (∀ W, Below W1.heap.size W1 W → RDs w W (.returned (.tuple #[.slice (some ⟨w.heap.size, 0, none⟩) 0 0, .bool false])) ([], false)) := fun W hW => ⟨_, rfl, (hN.below hW (Nat.le_refl _)).wide hW.size, below_then hb0 hW hb0.size⟩
  clear hg
  by_cases hc : ok0 = true ∧ Num.inB k 1 64 = true ∧ Num.inB x0 1 64 = true
  · obtain ⟨rfl, hk, hx⟩ := hc
    rw [if_pos ⟨rfl, hk, hx⟩] at HEX
    rw [hk] at HIK
    rw [hx] at HIN
    obtain ⟨k0, k1⟩ := Num.inB_true.1 hk
    obtain ⟨n0, n1⟩ := Num.inB_true.1 hx
    obtain ⟨N, rfl⟩ := Int.eq_ofNat_of_zero_le (show 0 ≤ x0 by omega)
    rw [Int.toNat_natCast] at HEX
    have hR0 := own_lit (e := 124) (size := 4) W1 #[] 0 (Nat.zero_le _) rfl
    have hbR := below_alloc W1 (.cells #[] 124)
    rw [hs1] at hR0
    have HD0 : Hid (decU zs ty N nx0 = (decU zs ty (N - 0) nx0).map fun r => [] ++ r) := by
      show _ = _
      simp
    have HST : Hid (∀ (j : Nat) (i : Int) (pre : List U), j < N → decU zs ty N nx0 = (decU zs ty (N - j) i).map (fun r => pre ++ r) → if (Num.get zs i).2.2 = true ∧ (getV zs (Num.get zs i).2.1 ty).2.2 = true then decU zs ty N nx0 = (decU zs ty (N - (j + 1)) (getV zs (Num.get zs i).2.1 ty).2.1).map (fun r => (pre ++ [⟨(getV zs (Num.get zs i).2.1 ty).1, (Num.get zs i).1⟩]) ++ r) else decU zs ty N nx0 = none) := fun j i pre hj hd => by
      rw [show N - j = (N - (j + 1)) + 1 by omega, decU] at hd
      split
      · rename_i hg
        rw [if_pos hg] at hd
        rw [hd, Option.map_map]
        congr 1
        funext r
        simp
      · rename_i hg
        rw [if_neg hg] at hd
        rw [hd]
        rfl
    have HFN : Hid (∀ (i : Int) (pre : List U), decU zs ty N nx0 = (decU zs ty (N - N) i).map (fun r => pre ++ r) → decU zs ty N nx0 = some pre) := fun i pre hd => by
      rw [hd, Nat.sub_self]
      simp [decU]
    have HNONE : Hid (decU zs ty N nx0 = none → decR zs ty k = ([], false)) := fun hd => by rw [HEX.out, hd]
    clear hk hx
    go_enter Tryz.func90, Tryz.ntmps90
    go_wp2_with (first | (go_at_call 60; refine HG0.out.mono ?_; rintro e w' ⟨rfl, rfl⟩) | (go_at_call 61; refine (HIK.out _).mono ?_; clear HIK; rintro e w' ⟨rfl, rfl⟩) | (go_at_call 61; refine (HIN.out _).mono ?_; rintro e w' ⟨rfl, rfl⟩))
    go_loopw [10, 12, 13] (fun p o i wr => ∃ (j : Nat) (q : Int) (pre : List U), j ≤ N ∧ i = .int .i64 j ∧ p = .int .i64 q ∧ pre.length = j ∧ decU zs ty N nx0 = (decU zs ty (N - j) q).map (fun r => pre ++ r) ∧ Own 124 4 (w.heap.size + 1) wr.heap.size wr o pre.length (rus pre) ∧ Below W1.heap.size W1 wr) (fun _ _ i _ => N - (intOf i).toNat)
    case atStart => exact ⟨0, nx0, [], Nat.zero_le _, rfl, rfl, rfl, HD0.out, hR0, hbR⟩
    case round =>
      obtain ⟨j, q, pre, hj, rfl, rfl, hpl, hd, hown, hbr⟩ := hrel
      by_cases hlt : j < N
      · have HSJ := Lib.hid (HST.out j q pre hlt hd)
        have HGJ := Lib.hid (HG.out q wr hbr)
        have HPL := Lib.hid hpl
        clear hd
        generalize Num.get zs q = gq at HSJ HGJ
        obtain ⟨xm, nm, om⟩ := gq
        unfold getRes at HGJ
        simp only at HSJ HGJ
        have HVJ := Lib.hid (HV.out nm wr hbr)
        generalize getV zs nm ty = r at HSJ HVJ
        obtain ⟨⟨xt, xn, xs⟩, nx, ok⟩ := r
        unfold rGet at HVJ
        simp only at HSJ HVJ
        have HVA : Hid (rus pre ++ U.cs ⟨⟨xt, xn, xs⟩, xm⟩ = rus (pre ++ [(⟨⟨xt, xn, xs⟩, xm⟩ : U)])) := by
          show _ = _
          simp [rus]
        have HLN : Hid ((pre ++ [(⟨⟨xt, xn, xs⟩, xm⟩ : U)]).length = pre.length + 1) := by
          show _ = _
          simp
        have hcl : pre.length ≤ 64 := by omega
        clear hpl
        generalize hcc : pre.length = c at hown HLN hcl HPL
        have HCC := Lib.hid hcc
        clear hcc
        go_wp2_with fail
        refine HGJ.out.mono ?_
        rintro e wx ⟨rfl, rfl⟩
        go_wp2_with fail
        refine HVJ.out.mono ?_
        rintro e w2 ⟨rfl, hb2⟩
        have own2 := hown.below hb2 (Nat.le_refl _)
        have b2 := below_then hbr hb2 hbr.size
        have z2 := hb2.size
        clear hown hb2 HVJ HGJ
        by_cases hbad : om = true ∧ ok = true
        · obtain ⟨rfl, rfl⟩ := hbad
          have HS2 : Hid (decU zs ty N nx0 = (decU zs ty (N - (j + 1)) nx).map (fun r => (pre ++ [(⟨⟨xt, xn, xs⟩, xm⟩ : U)]) ++ r)) := by
            have hd := HSJ.out
            rw [if_pos ⟨rfl, rfl⟩] at hd
            exact hd
          have own3 := (own2.alloc (.cells #[.int .i64 xt, .int .i64 xn, .string xs] 77)).wide (hi' := (w2.alloc (.cells #[.int .i64 xt, .int .i64 xn, .string xs] 77)).heap.size) (by simp; omega)
          have b3 := b2.alloc b2.size (.cells #[.int .i64 xt, .int .i64 xn, .string xs] 77)
          clear own2 HSJ
          go_wp2_with (at_builtin; refine appendU_law Tryz.elemRuns rfl _ _ rfl _ _ _ _ _ ⟨⟨xt, xn, xs⟩, xm⟩ rfl own3 (by show Value.slice (some ⟨w2.heap.size + 1, 0, none⟩) 1 1 = _; rw [World.size_alloc]) (by unfold maxLen; omega) (by omega) ?_)
          intro v4 w4 o4 e4
          have b4 := b3.trans ((e4.below own3).mono (by omega))
          rw [HVA.out] at o4
          have O4 := Lib.hid o4
          clear o4 e4 own3
          go_wp2
          go_roundw
          case rel => exact ⟨j + 1, nx, pre ++ [⟨⟨xt, xn, xs⟩, xm⟩], by omega, by go_num, rfl, by rw [HLN.out, HPL.out], HS2.out, by rw [HLN.out]; exact O4.out, b4⟩
          case measure => simp [intOf]; omega
        · have HF : Hid (decR zs ty k = ([], false)) := by
            show _ = _
            have hd := HSJ.out
            rw [if_neg hbad] at hd
            exact HNONE.out hd
          have b3 := b2.alloc b2.size (.cells #[.int .i64 xt, .int .i64 xn, .string xs] 77)
          have HR := Lib.hid (HNO.out _ b3)
          clear own2 HSJ
          cases om with
          | false =>
            go_wp2
            go_ret2
            exact HFIN.out _ _ HR.out HF.out
          | true =>
            cases ok with
            | true => exact absurd ⟨rfl, rfl⟩ hbad
            | false =>
              go_wp2
              go_ret2
              exact HFIN.out _ _ HR.out HF.out
      · obtain rfl : j = N := by omega
        have hdn := HFN.out q pre hd
        have HU := Lib.hid (decU_size hdn)
        rw [hdn] at HEX
        dsimp only at HEX
        have hl64 := spreadL_len pre
        have HLS := Lib.hid (spreadL_all (p := fun v => v.s.size ≤ maxLen) HU.out)
        have HSP := Lib.hid (sSpread _ pre wr hown.rd)
        obtain ⟨ga, cga, rfl, _, _, _⟩ := hown
        clear hd hdn HU HST HFN HNONE HD0 hpl
        generalize spreadL pre = l at HEX hl64 HLS HSP
        generalize pre.length = c at HSP ⊢
        go_wp2_with fail
        refine HSP.out.mono ?_
        rintro e w2 ⟨v2, rfl, o2, hb2⟩
        have b2 := below_then hbr hb2 hbr.size
        have hzr := hbr.size
        clear HSP hb2
        have HEN := Lib.hid (sEncRuns v2 l w2 (by omega) HLS.out o2.rd)
        have HOL := Lib.hid (o2.lower (show w.heap.size ≤ wr.heap.size by omega))
        have O2 := Lib.hid o2
        obtain ⟨gl, cgl, rfl, _, _, _⟩ := o2
        by_cases hlk : (l.length : Int) = k
        · have hlb : ((l.length : Int) != k) = false := by simpa using hlk
          have HLK := Lib.hid hlk
          generalize hll : l.length = ll at *
          have HLL := Lib.hid hll
          clear hlk hll
          go_wp2_with fail
          refine HEN.out.mono ?_
          rintro e w3 ⟨v3, rfl, o3, hb3⟩
          have b3 := below_then b2 hb3 b2.size
          have OL3 := Lib.hid ((HOL.out.below hb3 (Nat.le_refl _)).wide hb3.size)
          have HSM := Lib.hid (l5Same v3 _ (encR l).length n (encR l) zs w3 rfl hz (encR_bytes l) hby o3.at (hat1.below b3))
          obtain ⟨g3, cg3, rfl, _, _, _⟩ := o3
          clear HEN hb3 HOL O2
          by_cases hen : encR l = zs
          · rw [decide_eq_true hen] at HSM
            have HF : Hid (decR zs ty k = (l, true)) := by
              show _ = _
              rw [HEX.out]
              exact if_pos ⟨HLK.out, hen⟩
            generalize (encR l).length = le at *
            go_wp2_with (go_at_call 93; refine HSM.out.mono ?_; rintro e w' ⟨rfl, rfl⟩)
            go_ret2
            rw [HF.out]
            exact ⟨_, rfl, by simp only [HLL.out]; exact OL3.out, below_then hb0 b3 hb0.size⟩
          · rw [decide_eq_false hen] at HSM
            have HF : Hid (decR zs ty k = ([], false)) := by
              show _ = _
              rw [HEX.out]
              exact if_neg (fun h => hen h.2)
            have HR := Lib.hid (HNO.out _ b3)
            generalize (encR l).length = le at *
            go_wp2_with (go_at_call 93; refine HSM.out.mono ?_; rintro e w' ⟨rfl, rfl⟩)
            go_ret2
            exact HFIN.out _ _ HR.out HF.out
        · have hlb : ((l.length : Int) != k) = true := by simpa using hlk
          have HF : Hid (decR zs ty k = ([], false)) := by
            show _ = _
            rw [HEX.out]
            exact if_neg (fun h => hlk h.1)
          have HR := Lib.hid (HNO.out _ b2)
          generalize l.length = ll at *
          clear HEN HOL O2
          go_wp2
          go_ret2
          exact HFIN.out _ _ HR.out HF.out
  · have HF : Hid (decR zs ty k = ([], false)) := by
      show _ = _
      rw [HEX.out, if_neg hc]
    have HR := Lib.hid (HNO.out _ (Below.refl _ _))
    generalize Num.inB k 1 64 = bk at hc HIK
    generalize Num.inB x0 1 64 = bx at hc HIN
    clear HEX
    cases ok0 with
    | false =>
      go_enter Tryz.func90, Tryz.ntmps90
      go_wp2_with (go_at_call 60; refine HG0.out.mono ?_; rintro e w' ⟨rfl, rfl⟩)
      go_ret2
      exact HFIN.out _ _ HR.out HF.out
    | true =>
      cases bk with
      | false =>
        go_enter Tryz.func90, Tryz.ntmps90
        go_wp2_with (first | (go_at_call 60; refine HG0.out.mono ?_; rintro e w' ⟨rfl, rfl⟩) | (go_at_call 61; refine (HIK.out _).mono ?_; rintro e w' ⟨rfl, rfl⟩))
        go_ret2
        exact HFIN.out _ _ HR.out HF.out
      | true =>
        cases bx with
        | true => exact absurd ⟨rfl, rfl, rfl⟩ hc
        | false =>
          go_enter Tryz.func90, Tryz.ntmps90
          go_wp2_with (first | (go_at_call 60; refine HG0.out.mono ?_; rintro e w' ⟨rfl, rfl⟩) | (go_at_call 61; refine (HIK.out _).mono ?_; clear HIK; rintro e w' ⟨rfl, rfl⟩) | (go_at_call 61; refine (HIN.out _).mono ?_; rintro e w' ⟨rfl, rfl⟩))
          go_ret2
          exact HFIN.out _ _ HR.out HF.out

end Go.Proofs.YtkofafefnlommaaGreat

/- Chapter 6's exact laws, walked; the program's own contracts come as hypotheses. -/
namespace Go.Proofs.YtkofafefnlommaaGreat
open Go.RowKit

def CRuns : Prop := ∀ (u : Value) (l : List V) (w : World), l.length ≤ 1048576 → (∀ v ∈ l, v.s.size ≤ maxLen) → Rd 3 w u l.length (vals l) → Calls Tryz.prog 154 #[u] w fun e w' => ∃ v', e = .returned v' ∧ Own 124 4 w.heap.size w'.heap.size w' v' (runsL l).length (rus (runsL l)) ∧ Below w.heap.size w w'
def CSpread : Prop := ∀ (u : Value) (l : List U) (w : World), l.length ≤ 1048576 → (∀ u ∈ l, u.v.s.size ≤ maxLen) → Rd 4 w u l.length (rus l) → Calls Tryz.prog 164 #[u] w fun e w' => ∃ v', e = .returned v' ∧ Own 77 3 w.heap.size w'.heap.size w' v' (spreadL l).length (vals (spreadL l)) ∧ Below w.heap.size w w'
def CEncRuns : Prop := ∀ (u : Value) (l : List V) (w : World), l.length ≤ 1048576 → (∀ v ∈ l, v.s.size ≤ maxLen) → Rd 3 w u l.length (vals l) → Calls Tryz.prog 132 #[u] w fun e w' => ∃ v', e = .returned v' ∧ Own 5 1 w.heap.size w'.heap.size w' v' (encR l).length (ints .u8 (encR l)) ∧ Below w.heap.size w w'
def CDecRuns : Prop := ∀ (u : Value) (n : Nat) (zs : List Int) (ty k : Int) (w : World), n ≤ 1048576 → zs.length = n → Num.Bytes zs → At 1 w u n (ints .u8 zs) → Calls Tryz.prog 136 #[u, .int .i64 ty, .int .i64 k] w fun e w' => RDs w w' e (decR zs ty k)
theorem encR_len' (l : List V) : (encR l).length ≤ 773 + l.length := by
  have := encR_len l
  omega

end Go.Proofs.YtkofafefnlommaaGreat

/- The contracts of impl's Turns, Spread (with spreadLength). -/
namespace Go.Proofs.YtkofafefnlommaaGreat
open Go.RowKit Go.Lib

theorem Four.ext {W W' : World} {b : Nat} {u : U} {v v' : Value} (h : Four W b u) (k : Ext W W' v v') (hne : some b ≠ v.ownBlock) : Four W' b u := by
  have hb := k.grown.block b (lt_of_cell h.1.1) hne
  have hc : ∀ j, W'.cell? ⟨b, j, none⟩ = W.cell? ⟨b, j, none⟩ := fun j => World.cell?_of_block hb
  have hf : ∀ j, W'.frozen? ⟨b, j, none⟩ = W.frozen? ⟨b, j, none⟩ := fun j => World.frozen?_of_block hb
  exact ⟨⟨(hc 0).trans h.1.1, (hc 1).trans h.1.2.1, (hc 2).trans h.1.2.2.1, (hc 3).trans h.1.2.2.2⟩, (hf 0).trans h.2.1, (hf 1).trans h.2.2.1, (hf 2).trans h.2.2.2.1, (hf 3).trans h.2.2.2.2⟩

/-- The sum of the lengths, if each is right. -/
def sumK : List U → Nat → Option Nat
  | [], k => some k
  | u :: r, k => if 1 ≤ u.k ∧ u.k ≤ 64 - (k : Int) then sumK r (k + u.k.toNat) else none
theorem sumK_spread : ∀ (r : List U) (out : List V), sumK r out.length = (spreadF r out).map List.length
  | [], out => rfl
  | u :: r, out => by
    rw [sumK, spreadF]
    split
    · rw [← sumK_spread r, List.length_append, List.length_replicate]
    · rfl

set_option maxHeartbeats 1000000 in
theorem spreadLength (u : Value) (l : List U) (w : World) (h : Rd 4 w u l.length (rus l)) :
    Calls Tryz.prog 186 #[u] w fun e w' => e = .returned (.tuple #[.int .i64 ((sumK l 0).getD 0 : Nat), .bool (sumK l 0).isSome]) ∧ Below w.heap.size w w' := by
  have HE : Hid (sumK l 0 = sumK (l.drop 0) 0) := rfl
  generalize hl : l.length = n at h
  obtain ⟨a, cap, rfl, hm, HC⟩ := h.runs hl
  unfold maxLen at hm
  have HST : Hid (∀ k s, k < n → sumK (l.drop k) s = if 1 ≤ (l.getD k U.zero).k ∧ (l.getD k U.zero).k ≤ 64 - (s : Int) then sumK (l.drop (k + 1)) (s + (l.getD k U.zero).k.toNat) else none) := fun k s hk => by
    have hk' : k < l.length := by omega
    have e : l.getD k U.zero = l[k] := by simp [hk']
    rw [e, List.drop_eq_getElem_cons hk', sumK]
  have HFN : Hid (∀ s, sumK (l.drop n) s = some s) := fun s => by
    rw [List.drop_of_length_le (by omega)]
    rfl
  clear h hl
  generalize hx : sumK l 0 = X at HE
  clear hx
  go_enter Tryz.func186, Tryz.ntmps186
  go_wp2
  go_loopw [4, 9] (fun c i wr => ∃ (k s : Nat), k ≤ n ∧ i = .int .i64 k ∧ s ≤ 64 ∧ c = .int .i64 s ∧ X = sumK (l.drop k) s ∧ Below w.heap.size w wr) (fun _ i _ => n - (intOf i).toNat)
  case atStart => exact ⟨0, 0, Nat.zero_le _, rfl, Nat.zero_le _, rfl, HE.out, Below.refl _ _⟩
  case round =>
    obtain ⟨k, s, hk, rfl, hs, rfl, hsp, hbr⟩ := hrel
    by_cases hlt : k < n
    · obtain ⟨b, off, rfl, c0, c1, c2, c3⟩ := HC.out k hlt wr hbr
      have HSK := Lib.hid (hsp.trans (HST.out k s hlt))
      generalize l.getD k U.zero = x at c0 c1 c2 c3 HSK
      obtain ⟨⟨t1, n1, s1⟩, q⟩ := x
      simp only at c0 c1 c2 c3 HSK
      have BL := hbr.alloc hbr.size (.cells #[.int .i64 t1, .int .i64 n1, .string s1, .int .i64 q] 124)
      clear hsp
      by_cases hq1 : q < 1
      · rw [if_neg (by omega)] at HSK
        go_wp2
        go_ret2
        exact ⟨by rw [HSK.out]; rfl, BL⟩
      by_cases hq2 : 64 - (s : Int) < q
      · rw [if_neg (by omega)] at HSK
        go_wp2
        go_ret2
        exact ⟨by rw [HSK.out]; rfl, BL⟩
      obtain ⟨Q, rfl⟩ := Int.eq_ofNat_of_zero_le (show 0 ≤ q by omega)
      rw [if_pos ⟨by omega, by omega⟩, Int.toNat_natCast] at HSK
      go_wp2
      go_roundw
      case rel => exact ⟨k + 1, s + Q, by omega, by go_num, by omega, by go_num, HSK.out, BL⟩
      case measure => simp [intOf]; omega
    · obtain rfl : k = n := by omega
      rw [HFN.out] at hsp
      go_wp2
      go_ret2
      exact ⟨by rw [hsp]; rfl, hbr⟩

set_option maxHeartbeats 2000000 in
theorem iSpread : CSpread := by
  intro u l w hln hss h
  have HT := Lib.hid (spreadLength u l w h)
  have HE : Hid (spreadL l = (spreadF l []).getD []) := rfl
  have HSU : Hid (sumK l 0 = (spreadF l []).map List.length) := sumK_spread l []
  have HSL : Hid (∀ r, spreadF l [] = some r → r.length ≤ 64) := fun r hr => spreadF_len (by simp) hr
  generalize hl : l.length = n at h
  obtain ⟨a, cap, rfl, hm, HC⟩ := h.runs hl
  unfold maxLen at hm
  have HST : Hid (∀ k out, k < n → spreadF (l.drop k) out = if 1 ≤ (l.getD k U.zero).k ∧ (l.getD k U.zero).k ≤ 64 - (out.length : Int) then spreadF (l.drop (k + 1)) (out ++ List.replicate (l.getD k U.zero).k.toNat (l.getD k U.zero).v) else none) := fun k out hk => by
    have hk' : k < l.length := by omega
    have e : l.getD k U.zero = l[k] := by simp [hk']
    rw [e, List.drop_eq_getElem_cons hk', spreadF]
  have HFN : Hid (∀ out, spreadF (l.drop n) out = some out) := fun out => by
    rw [List.drop_of_length_le (by omega)]
    rfl
  have H0 : Hid (spreadF l [] = spreadF (l.drop 0) []) := rfl
  clear h hl hss hln
  generalize sumK l 0 = sk at HT HSU
  generalize spreadL l = sl at HE ⊢
  generalize spreadF l [] = F at HE HSU HSL H0
  cases F with
  | none =>
    have hsk : sk = none := HSU.out
    subst hsk
    have hsl : sl = [] := HE.out
    subst hsl
    go_enter Tryz.func164, Tryz.ntmps164
    go_wp2_with fail
    refine HT.out.mono ?_
    rintro e w1 ⟨rfl, b1⟩
    have OL := own_lit (e := 77) (size := 3) w1 #[] 0 (Nat.zero_le _) rfl
    have BL := b1.alloc b1.size (.cells #[] 77)
    have hzz := b1.size
    go_wp2
    go_ret
    exact ⟨_, rfl, OL.lower hzz, BL⟩
  | some F =>
    have hsk : sk = some F.length := HSU.out
    subst hsk
    have hsl : sl = F := HE.out
    subst hsl
    have h64 := HSL.out _ rfl
    clear HE HSU HSL
    generalize hfl : sl.length = fl at HT h64
    have HFL := Lib.hid hfl
    clear hfl
    go_enter Tryz.func164, Tryz.ntmps164
    go_wp2_with fail
    refine HT.out.mono ?_
    rintro e w1 ⟨rfl, b1⟩
    clear HT
    go_wp2_with (at_make; refine make0_law Tryz.elemVals rfl _ _ rfl .i64 .i64 _ fl rfl rfl rfl (by omega) (by unfold maxLen; omega) ?_)
    intro w2 own2 hb2
    have own2' := Lib.hid (own2.lower b1.size)
    have B2 := below_then b1 hb2 b1.size
    clear own2 hb2
    go_wp2
    go_loopw [5, 20] (fun o i wr => ∃ (k : Nat) (out : List V), k ≤ n ∧ i = .int .i64 k ∧ out.length ≤ 64 ∧ some sl = spreadF (l.drop k) out ∧ Own 77 3 w.heap.size wr.heap.size wr o out.length (vals out) ∧ Below w.heap.size w wr) (fun _ i _ => n - (intOf i).toNat)
    case atStart => exact ⟨0, [], Nat.zero_le _, rfl, by simp, H0.out, own2'.out, B2⟩
    case round =>
      obtain ⟨k, out, hk, rfl, hol, hsp, hown, hbr⟩ := hrel
      by_cases hlt : k < n
      · obtain ⟨b, off, rfl, c0, c1, c2, c3⟩ := HC.out k hlt wr hbr
        have HSK := Lib.hid (hsp.trans (HST.out k out hlt))
        generalize l.getD k U.zero = x at c0 c1 c2 c3 HSK
        obtain ⟨⟨t1, n1, s1⟩, q⟩ := x
        simp only at c0 c1 c2 c3 HSK
        clear hsp
        have hq : 1 ≤ q ∧ q ≤ 64 - (out.length : Int) := by
          by_cases hq : 1 ≤ q ∧ q ≤ 64 - (out.length : Int)
          · exact hq
          · have := HSK.out
            rw [if_neg hq] at this
            cases this
        rw [if_pos hq] at HSK
        obtain ⟨hq1, hq2⟩ := hq
        obtain ⟨Q, rfl⟩ := Int.eq_ofNat_of_zero_le (show 0 ≤ q by omega)
        rw [Int.toNat_natCast] at HSK
        have HR0 : Hid (out ++ List.replicate 0 (⟨t1, n1, s1⟩ : V) = out) := by
          show _ = _
          simp
        generalize hcc : out.length = c at hown hq2 hol
        have HCC := Lib.hid hcc
        clear hcc
        have BL := hbr.alloc hbr.size (.cells #[.int .i64 t1, .int .i64 n1, .string s1, .int .i64 (Q : Nat)] 124)
        have F0 := four_new wr ⟨⟨t1, n1, s1⟩, (Q : Nat)⟩ 124
        have O0 := hown.alloc (.cells #[.int .i64 t1, .int .i64 n1, .string s1, .int .i64 (Q : Nat)] 124)
        obtain ⟨g, cp, rfl, hg1, hg2, hrow⟩ := hown
        have HNE : Hid (some wr.heap.size ≠ (Value.slice (some ⟨g, 0, none⟩) c cp).ownBlock) := by
          intro e
          have e2 : wr.heap.size = g := by simpa [Value.ownBlock] using e
          omega
        clear hg1 hrow
        have hszb : (wr.alloc (.cells #[.int .i64 t1, .int .i64 n1, .string s1, .int .i64 (Q : Nat)] 124)).heap.size = wr.heap.size + 1 := World.size_alloc _ _
        obtain ⟨e0, e1, e2, e3⟩ := F0.1
        simp only at e0 e1 e2 e3
        simp only at F0
        go_wp2_with fail
        generalize hwb : wr.alloc (.cells #[.int .i64 t1, .int .i64 n1, .string s1, .int .i64 (Q : Nat)] 124) = wb at *
        have O0' : Own 77 3 w.heap.size wb.heap.size wb (.slice (some ⟨g, 0, none⟩) c cp) c (vals out) := O0.wide (by omega)
        go_loopw [5, 26] (fun o' i wr' => ∃ j : Nat, j ≤ Q ∧ i = .int .i64 j ∧ Own 77 3 w.heap.size wr'.heap.size wr' o' (c + j) (vals (out ++ List.replicate j ⟨t1, n1, s1⟩)) ∧ Ext wb wr' (.slice (some ⟨g, 0, none⟩) c cp) o' ∧ Below w.heap.size w wr') (fun _ i _ => Q - (intOf i).toNat)
        case atStart => exact ⟨0, Nat.zero_le _, rfl, by rw [HR0.out]; exact O0', Ext.refl _ _, BL⟩
        case round =>
          obtain ⟨j, hj, rfl, hown2, hext, hbr2⟩ := hrel
          have F2 := F0.ext hext HNE.out
          obtain ⟨d0, d1, d2, d3⟩ := F2.1
          simp only at d0 d1 d2 d3
          by_cases hjl : j < Q
          · have HVA : Hid (vals (out ++ List.replicate j (⟨t1, n1, s1⟩ : V)) ++ V.cs ⟨t1, n1, s1⟩ = vals (out ++ List.replicate (j + 1) (⟨t1, n1, s1⟩ : V))) := by
              show _ = _
              rw [List.replicate_succ', ← List.append_assoc]
              simp [vals]
            clear F2
            go_wp2_with (at_builtin; refine appendV_law Tryz.elemVals rfl _ _ rfl _ _ _ _ _ ⟨t1, n1, s1⟩ rfl hown2 rfl (by unfold maxLen; omega) (by omega) ?_)
            intro v3 w3 o3 e3
            have b3 := hbr2.trans (e3.below hown2)
            have E3 := hext.trans e3
            rw [HVA.out] at o3
            have O3 := Lib.hid o3
            clear o3 e3 hown2 d0 d1 d2 d3 c0 c1 c2 c3
            go_wp2
            go_roundw
            case rel => exact ⟨j + 1, by omega, by go_num, O3.out, E3, b3⟩
            case measure => simp [intOf]; omega
          · obtain rfl : j = Q := by omega
            go_wp2
            go_roundw
            case rel => exact ⟨k + 1, out ++ List.replicate j ⟨t1, n1, s1⟩, by omega, by go_num, by simp [HCC.out]; omega, HSK.out, by simp only [List.length_append, List.length_replicate, HCC.out]; exact hown2, hbr2⟩
            case measure => simp [intOf]; omega
      · obtain rfl : k = n := by omega
        rw [HFN.out] at hsp
        cases hsp
        rw [HFL.out] at hown
        go_wp2
        go_ret
        exact ⟨_, rfl, hown, hbr⟩

end Go.Proofs.YtkofafefnlommaaGreat

/- The exact laws of PutVal, GetVal, EncPlain and DecPlain, walked; the program's own contracts come as hypotheses. -/
namespace Go.Proofs.YtkofafefnlommaaGreat
open Go.RowKit

def CGetVal : Prop := ∀ (u : Value) (n : Nat) (zs : List Int) (i ty : Int) (w : World), n ≤ 1048576 → zs.length = n → Num.Bytes zs → At 1 w u n (ints .u8 zs) → Calls Tryz.prog 162 #[u, .int .i64 i, .int .i64 ty] w fun e w' => e = .returned (rGet (getV zs i ty)) ∧ Below w.heap.size w w'
def CEncPlain : Prop := ∀ (u : Value) (l : List V) (w : World), l.length ≤ 1048576 → (∀ v ∈ l, v.s.size ≤ maxLen) → Rd 3 w u l.length (vals l) → Calls Tryz.prog 131 #[u] w fun e w' => ∃ v', e = .returned v' ∧ Own 5 1 w.heap.size w'.heap.size w' v' (encP l).length (ints .u8 (encP l)) ∧ Below w.heap.size w w'
def CDecPlain : Prop := ∀ (u : Value) (n : Nat) (zs : List Int) (ty k : Int) (w : World), n ≤ 1048576 → zs.length = n → Num.Bytes zs → At 1 w u n (ints .u8 zs) → Calls Tryz.prog 135 #[u, .int .i64 ty, .int .i64 k] w fun e w' => RDs w w' e (decP zs ty k)

theorem encP_len (l : List V) : (encP l).length ≤ 7 * l.length := by
  unfold encP
  split
  · simp
  · exact encAll_len l
theorem decL_len {zs : List Int} {ty : Int} : ∀ {k : Nat} {i : Int} {r : List V × Int}, decL zs ty k i = some r → r.1.length = k := by
  intro k
  induction k with
  | zero =>
    intro i r h
    simp only [decL, Option.some.injEq] at h
    subst h
    rfl
  | succ k ih =>
    intro i r h
    rw [decL] at h
    split at h
    · obtain ⟨q, hq, rfl⟩ := Option.map_eq_some_iff.1 h
      simp [ih hq]
    · cases h
theorem decP_len (zs : List Int) (ty k : Int) : (decP zs ty k).1.length ≤ 64 := by
  unfold decP
  split
  · rename_i h
    have := Num.inB_true.1 h
    split
    · rename_i r hr
      have hl := decL_len hr
      split
      · simp only
        omega
      · simp
    · simp
  · simp

theorem Held.under {W W' : World} {b B : Nat} {v : V} (h : Held W b v) (hb : Below B W W') (hlt : b < B) : Held W' b v :=
  ⟨⟨(hb.cell (p := ⟨b, 0, none⟩) hlt).trans h.1.1, (hb.cell (p := ⟨b, 1, none⟩) hlt).trans h.1.2.1, (hb.cell (p := ⟨b, 2, none⟩) hlt).trans h.1.2.2⟩,
    (hb.frozen (p := ⟨b, 0, none⟩) hlt).trans h.2.1, (hb.frozen (p := ⟨b, 1, none⟩) hlt).trans h.2.2.1, (hb.frozen (p := ⟨b, 2, none⟩) hlt).trans h.2.2.2⟩

end Go.Proofs.YtkofafefnlommaaGreat

/- Plain mathematics of chapter 5: a Val's bytes, read again; the types of a list. -/
namespace Go.Proofs.YtkofafefnlommaaGreat
open Go.RowKit

theorem okV_num {v : V} (h : okV v = true) (ht : v.ty = 1) : Num.ok v.n := by
  unfold okV at h
  rw [if_pos ht] at h
  simp only [Bool.and_eq_true] at h
  exact Num.okB_true.1 h.1
theorem getV_int {zs : List Int} {i : Int} : getV zs i 1 = if (Num.get zs i).2.2 = true then (⟨1, (Num.get zs i).1, ⟨#[]⟩⟩, (Num.get zs i).2.1, true) else (V.zero, 0, false) := if_pos rfl
theorem str_sbytes (s : ByteArray) : strOfNums (sbytes s) = s := by
  unfold strOfNums sbytes
  apply ByteArray.ext
  apply Array.toList_inj.1
  simp only [List.map_map]
  have : ((fun n : Int => UInt8.ofNat n.toNat) ∘ fun b : UInt8 => (b.toNat : Int)) = id := by
    funext b
    simp
  rw [this]
  simp
/-- A value's bytes. -/
def valB (v : V) : List Int := if v.ty = 1 then Num.grp 4 (Num.zig v.n) else (v.s.size : Int) :: sbytes v.s
theorem putV_val {v : V} (h : okV v = true) (zs : List Int) : putV zs v = zs ++ valB v := by
  unfold putV valB
  rw [if_pos h]
  split
  · rename_i ht
    exact Num.put_ok (okV_num h ht)
  · rfl
theorem get_grp {b rest : List Int} {n : Int} (h : Num.ok n) : Num.get (b ++ (Num.grp 4 (Num.zig n) ++ rest)) b.length = (n, ((b ++ Num.grp 4 (Num.zig n)).length : Int), true) := by
  have := Num.get_put (b := b) (rest := rest) h
  rw [Num.put_ok h, List.append_assoc] at this
  exact this
theorem getV_val {v : V} (h : okV v = true) (b rest : List Int) : getV (b ++ (valB v ++ rest)) b.length v.ty = (v, ((b ++ valB v).length : Int), true) := by
  obtain ⟨t, n, s⟩ := v
  unfold valB
  by_cases ht : t = 1
  · subst ht
    have hn := okV_num h rfl
    have hs : s = ⟨#[]⟩ := by
      unfold okV at h
      simp only [if_true, Bool.and_eq_true, beq_iff_eq] at h
      apply ByteArray.ext
      apply Array.eq_empty_of_size_eq_zero
      exact h.2
    subst hs
    simp only [if_true]
    rw [getV_int, get_grp hn]
    simp
  · have hsz := okV_txt h ht
    have h' := h
    unfold okV at h
    simp only [if_neg ht, Bool.and_eq_true, beq_iff_eq] at h
    obtain ⟨rfl, rfl, htx⟩ := h
    simp only [if_neg ht]
    unfold getV
    rw [if_neg ht, if_pos ⟨rfl, Num.inB_true.2 ⟨by omega, by simp; omega⟩⟩]
    unfold getT
    have e0 : (b ++ ((s.size : Int) :: sbytes s ++ rest)).getD (b.length : Int).toNat 0 = (s.size : Int) := by
      rw [Int.toNat_natCast]
      simp [List.getD]
    have e1 : ((b ++ ((s.size : Int) :: sbytes s ++ rest)).drop ((b.length : Int).toNat + 1)).take ((s.size : Int)).toNat = sbytes s := by
      rw [Int.toNat_natCast, Int.toNat_natCast, List.drop_append, List.drop_of_length_le (by omega), List.nil_append, Nat.add_sub_cancel_left]
      simp only [List.cons_append, List.drop_succ_cons, List.drop_zero]
      rw [← sbytes_len s, List.take_left]
    simp only [e0, e1, str_sbytes]
    rw [if_pos ⟨by
      simp only [List.length_append, List.length_cons, sbytes_len, Int.toNat_natCast]
      omega, h'⟩]
    simp only [List.length_append, List.length_cons, sbytes_len, Int.toNat_natCast]
    congr 2
    omega
theorem typeV_parts {l : List V} (h : ¬ typeV l = 0) : 1 ≤ l.length ∧ l.length ≤ 64 ∧ ∀ v ∈ l, okV v = true ∧ v.ty = typeV l := by
  unfold typeV at h ⊢
  by_cases hc : Num.inB l.length 1 64 = true ∧ l.all (ofB (l.getD 0 V.zero).ty) = true
  · rw [if_pos hc]
    have h1 := Num.inB_true.1 hc.1
    refine ⟨by omega, by omega, fun v hv => ?_⟩
    have := List.all_eq_true.1 hc.2 v hv
    unfold ofB at this
    simp only [Bool.and_eq_true, beq_iff_eq] at this
    exact this
  · rw [if_neg hc] at h
    exact absurd rfl h
theorem typeV_of {l : List V} {ty : Int} (h1 : 1 ≤ l.length) (h2 : l.length ≤ 64) (h : ∀ v ∈ l, okV v = true ∧ v.ty = ty) : typeV l = ty := by
  have e0 : l.getD 0 V.zero ∈ l := by
    have hl : 0 < l.length := by omega
    have e : l.getD 0 V.zero = l[0] := by simp [hl]
    rw [e]
    exact List.getElem_mem hl
  unfold typeV
  rw [if_pos, (h _ e0).2]
  refine ⟨Num.inB_true.2 ⟨by omega, by omega⟩, List.all_eq_true.2 (fun v hv => ?_)⟩
  unfold ofB
  rw [(h _ e0).2, (h v hv).1, (h v hv).2]
  simp
theorem getV_ok {zs : List Int} (hb : Num.Bytes zs) {i ty : Int} (h : (getV zs i ty).2.2 = true) : okV (getV zs i ty).1 = true ∧ (getV zs i ty).1.ty = ty := by
  unfold getV at h ⊢
  split
  · rename_i ht
    subst ht
    rw [if_pos rfl] at h
    split
    · rename_i hg
      have hp : Num.get zs i = ((Num.get zs i).1, (Num.get zs i).2.1, true) := by rw [← hg]
      have := (Num.put_get hb hp).2.2.2.2.1
      refine ⟨?_, rfl⟩
      unfold okV
      simp only [if_true, Bool.and_eq_true]
      exact ⟨Num.okB_true.2 this, rfl⟩
    · rename_i hg
      rw [if_neg hg] at h
      cases h
  · rename_i ht
    rw [if_neg ht] at h
    split
    · rename_i hc
      rw [if_pos hc] at h
      unfold getT at h ⊢
      split
      · rename_i hd
        exact ⟨hd.2, hc.1.symm⟩
      · rename_i hd
        rw [if_neg hd] at h
        cases h
    · rename_i hc
      rw [if_neg hc] at h
      cases h

end Go.Proofs.YtkofafefnlommaaGreat

/- The contracts of impl's appendVal, PutVal, EncPlain. -/
namespace Go.Proofs.YtkofafefnlommaaGreat
open Go.RowKit Go.Lib

/-- append(b, s...), s a string, as one operation: which block it may have written. -/
theorem appendS_grown {P : Program} {t u e : TypeId} (T : ElemT P t e (.int .u8 0) 1 1) (hu : P.underlying u = some .string) {w : World} {o : Oper} {a : Act} {K : Act → World → Prop} {Q : Exit → Act → World → Prop} (b x : Operand)
    (ho : o.op = .call { callee := .builtin .append, args := #[b, x], argTypes := #[t, u] })
    (lo hi : Nat) (v : Value) (n : Nat) (xs : List Value) (s : ByteArray) (hs : a.eval b = v) (hown : Own e 1 lo hi w v n xs)
    (hx : a.eval x = .string s) (h63 : n + s.size ≤ maxLen) (hbytes : n + s.size ≤ 140737488355328)
    (h : ∀ v' w', Own e 1 lo w'.heap.size w' v' (n + s.size) (xs ++ ints .u8 (sbytes s)) → w.grownBy w' v.ownBlock → K (a.put o.dst v') w') : Oper.wp P o a w K Q := by
  obtain ⟨i, hi', hz, hsz, hb⟩ := T.info
  obtain ⟨v', w', hr, h2, h3, h4⟩ := run_append_own_string (P := P) w lo t u o.type e i T.ht hu hi' hz hsz hb v n xs hown.row s h63 hbytes hown.lo
  rw [strCells_eq] at h2
  unfold Oper.wp execOp
  simp only [ho, resolve, invoke, builtin, Sem.run_bind, Sem.run_pure, Result.andThen_ok, List.map_toArray, List.map_cons, List.map_nil, hs, hx, hr]
  exact h v' w' (hown.append h2 h4) h3

theorem Ext.then_grown {w w1 w2 : World} {v v1 : Value} (h : Ext w w1 v v1) (k : w1.grownBy w2 v1.ownBlock) : w.grownBy w2 v.ownBlock := by
  have hs := h.grown.size
  refine ⟨k.os.trans h.grown.os, k.tape.trans h.grown.tape, k.output.trans h.grown.output, Nat.le_trans hs k.size, fun i hi hne => ?_⟩
  refine (k.block i (by omega) (fun e => ?_)).trans (h.grown.block i hi hne)
  rcases h.blk with hb | ⟨g, hb, hg⟩
  · exact hne (e.trans hb)
  · rw [hb] at e
    cases e
    omega

set_option maxHeartbeats 1000000 in
theorem appendValG (v : Value) (lo hi n : Nat) (zs : List Int) (x : V) (w : World) (hn : n ≤ 1073741824) (hz : zs.length = n) (hok : okV x = true) (h : Own 5 1 lo hi w v n (ints .u8 zs)) :
    Calls Tryz.prog 153 #[v, x.agg] w fun e w' => ∃ v', e = .returned v' ∧ Own 5 1 lo w'.heap.size w' v' (putV zs x).length (ints .u8 (putV zs x)) ∧ Below lo w w' ∧ w.grownBy w' v.ownBlock := by
  have HZ := Lib.hid hz
  have HE : Hid (putV zs x = if x.ty = 1 then Num.put zs x.n else zs ++ ((x.s.size : Int) :: sbytes x.s)) := if_pos hok
  have HSZ : Hid (¬ x.ty = 1 → x.s.size ≤ 6) := fun h2 => okV_txt hok h2
  have HON : Hid (x.ty = 1 → Num.ok x.n) := fun h2 => okV_num hok h2
  clear hz hok
  obtain ⟨t, xn, s⟩ := x
  simp only at HE HSZ HON
  obtain ⟨g, cap, rfl, g1, g2, g3⟩ := h
  have hgl := (g3.lt g rfl).2
  have h : Own 5 1 lo w.heap.size w (.slice (some ⟨g, 0, none⟩) n cap) n (ints .u8 zs) := ⟨g, cap, rfl, g1, hgl, g3⟩
  clear g1 g2 g3
  have B0 := below_alloc_own h (.cells #[.int .i64 t, .int .i64 xn, .string s] 77)
  have O0 := h.alloc (.cells #[.int .i64 t, .int .i64 xn, .string s] 77)
  have c0 : (w.alloc (.cells #[.int .i64 t, .int .i64 xn, .string s] 77)).cell? ⟨w.heap.size, 0, none⟩ = some (.int .i64 t) := by simp
  have c1 : (w.alloc (.cells #[.int .i64 t, .int .i64 xn, .string s] 77)).cell? ⟨w.heap.size, 1, none⟩ = some (.int .i64 xn) := by simp
  have c2 : (w.alloc (.cells #[.int .i64 t, .int .i64 xn, .string s] 77)).cell? ⟨w.heap.size, 2, none⟩ = some (.string s) := by simp
  have hszb : (w.alloc (.cells #[.int .i64 t, .int .i64 xn, .string s] 77)).heap.size = w.heap.size + 1 := World.size_alloc _ _
  have EX := Ext.alloc (w := w) (.slice (some ⟨g, 0, none⟩) n cap) (.cells #[.int .i64 t, .int .i64 xn, .string s] 77)
  generalize hwb : w.alloc (.cells #[.int .i64 t, .int .i64 xn, .string s] 77) = wb at B0 O0 c0 c1 c2 hszb EX
  have HW := Lib.hid hwb
  have HSB := Lib.hid hszb
  have HEX := Lib.hid EX
  clear hwb hszb h EX
  by_cases ht : t = 1
  · subst ht
    rw [if_pos rfl] at HE
    have HP : Hid (Num.put zs xn = Num.puts zs [xn]) := by
      show _ = _
      rw [Num.puts_one, Num.put_ok (HON.out rfl)]
    have hl : At 1 (wb.alloc (.cells #[.int .i64 xn] 3)) (.slice (some ⟨wb.heap.size, 0, none⟩) 1 1) 1 (ints .i64 [xn]) := (own_lit wb #[.int .i64 xn] 1 (by unfold maxLen; omega) rfl).at
    have HA := Lib.hid (appendNums (.slice (some ⟨g, 0, none⟩) n cap) _ lo _ n 1 zs [xn] _ HZ.out rfl (by omega) (by omega) (O0.alloc (.cells #[.int .i64 xn] 3)) hl (fun _ => own_ne O0 (by rw [HSB.out]; omega)))
    clear hl
    go_enter Tryz.func153, Tryz.ntmps153
    go_wp2_with fail
    rw [HW.out]
    have hsb := HSB.out
    simp only [hsb] at HA
    refine HA.out.mono ?_
    rintro e w2 ⟨v2, rfl, o2, e2⟩
    have b2 := (B0.alloc O0.lo _).trans (e2.below (O0.alloc _))
    rw [← HP.out, ← HE.out] at o2
    have O2 := Lib.hid o2
    have G2 := Lib.hid ((HEX.out.trans (Ext.alloc _ _)).trans e2).grown
    clear o2 e2 hsb HA
    go_wp2
    go_ret
    exact ⟨_, rfl, O2.out, b2, G2.out⟩
  · have htb : (t == 1) = false := by simpa using ht
    rw [if_neg ht] at HE
    have hs6 := HSZ.out ht
    have hwr : IntKind.u8.wrap (s.size : Int) = s.size := by
      simp only [IntKind.wrap, IntKind.bits, IntKind.signed, Bool.false_and, Bool.false_eq_true, if_false]
      omega
    go_enter Tryz.func153, Tryz.ntmps153
    go_wp2_with fail
    rw [HW.out]
    refine wp_region_held_drew (S := fun W => W.cell? ⟨w.heap.size, 2, none⟩ = some (.string s)) (by kernel_rfl) c2 (fun hHeld => ?_)
    refine takeH (i := 0) (d := some 13) (v := .slice (some ⟨g, 0, none⟩) n cap) rfl rfl (by kernel_rfl) (by kernel_rfl) (by kernel_rfl) (fun _ _ _ h => h) (Or.inl ⟨by rfl, fun W hSw => by go_simp⟩) hHeld ?_
    simp only [put_some, List.set_cons_zero, List.set_cons_succ]
    refine takeH (i := 1) (d := some 14) (v := .pointer (some ⟨w.heap.size, 2, none⟩)) rfl rfl (by kernel_rfl) (by kernel_rfl) (by kernel_rfl) (fun _ _ _ h => h) (Or.inl ⟨by rfl, fun W hSw => by go_simp⟩) hHeld ?_
    simp only [put_some, List.set_cons_zero, List.set_cons_succ]
    refine takeH (i := 2) (d := some 15) (v := .string s) rfl rfl (by kernel_rfl) (by kernel_rfl) (by kernel_rfl) (fun _ _ _ h => h) (Or.inl ⟨by rfl, fun W hSw => by go_simp⟩) hHeld ?_
    simp only [put_some, List.set_cons_zero, List.set_cons_succ]
    refine takeH (i := 3) (d := some 16) (v := .int .i64 (s.size : Int)) rfl rfl (by kernel_rfl) (by kernel_rfl) (by kernel_rfl) (fun _ _ _ h => h) (Or.inl ⟨by rfl, fun W hSw => by go_simp⟩) hHeld ?_
    simp only [put_some, List.set_cons_zero, List.set_cons_succ]
    refine takeH (i := 4) (d := some 17) (v := .int .u8 (s.size : Int)) rfl rfl (by kernel_rfl) (by kernel_rfl) (by kernel_rfl) (fun _ _ _ h => h) (Or.inl ⟨by rfl, fun W hSw => by go_simp⟩) hHeld ?_
    simp only [put_some, List.set_cons_zero, List.set_cons_succ]
    refine takeH (i := 7) (d := some 20) (v := .pointer (some ⟨w.heap.size, 2, none⟩)) rfl rfl (by kernel_rfl) (by kernel_rfl) (by kernel_rfl) (fun _ _ _ h => h) (Or.inl ⟨by rfl, fun W hSw => by go_simp⟩) hHeld ?_
    simp only [put_some, List.set_cons_zero, List.set_cons_succ]
    refine takeH (i := 8) (d := some 21) (v := .string s) rfl rfl (by kernel_rfl) (by kernel_rfl) (by kernel_rfl) (fun _ _ _ h => h) (Or.inl ⟨by rfl, fun W hSw => by go_simp⟩) hHeld ?_
    simp only [put_some, List.set_cons_zero, List.set_cons_succ]
    refine wpAnyH_ready (rs := [5]) (by kernel_rfl) (by simp) ?_
    refine AllReadyH.cons rfl (fun K hK => ?_) AllReadyH.nil
    go_simp
    refine hK.out _ _ ((below_alloc wb.drew _).cell (p := ⟨w.heap.size, 2, none⟩) (lt_of_cell hHeld) |>.trans hHeld) (fun hHeld => ?_)
    clear hK K
    refine wpAnyH_ready (rs := [6]) (by kernel_rfl) (by simp) ?_
    refine AllReadyH.cons rfl (fun K hK => ?_) AllReadyH.nil
    refine append1_op Tryz.elemBytes (.tmp 13) (.tmp 18) rfl lo w.heap.size (.slice (some ⟨g, 0, none⟩) n cap) n (ints .u8 zs) (.int .u8 (s.size : Int)) rfl rfl O0.drew rfl (by unfold maxLen; omega) (by omega) ?_
    intro v4 w4 o4 e4
    have hne4 : v4.ownBlock ≠ some w.heap.size := fun hb => by
      rcases e4.blk with h1 | ⟨g', h1, h2⟩
      · rw [hb] at h1
        simp [Value.ownBlock] at h1
        omega
      · rw [hb] at h1
        obtain rfl : w.heap.size = g' := by simpa using h1
        rw [World.size_alloc] at h2
        have := HSB.out
        have h3 : wb.drew.heap.size = wb.heap.size := rfl
        omega
    replace hHeld := (World.cell?_of_block (a := ⟨w.heap.size, 2, none⟩) (e4.grown.block w.heap.size (lt_of_cell hHeld) (by simp [Value.ownBlock]; omega))).trans hHeld
    have B4 : Below lo wb.drew w4 := ((Below.refl lo wb.drew).alloc O0.drew.lo _).trans (e4.below (O0.drew.alloc _))
    refine hK.out _ _ hHeld (fun hHeld => ?_)
    have HE4 := Lib.hid e4
    clear hK K e4
    obtain ⟨g4, cap4, rfl⟩ : ∃ g cp, v4 = .slice (some ⟨g, 0, none⟩) (n + 1) cp := by
      obtain ⟨g, cp, e, _⟩ := o4
      exact ⟨g, cp, e⟩
    refine wpAnyH_ready (rs := [9]) (by kernel_rfl) (by simp) ?_
    refine AllReadyH.cons rfl (fun K hK => ?_) AllReadyH.nil
    refine appendS_grown Tryz.elemBytes Tryz.underlying9 (.tmp 19) (.tmp 21) rfl lo w4.heap.size (.slice (some ⟨g4, 0, none⟩) (n + 1) cap4) (n + 1) (ints .u8 zs ++ [.int .u8 (s.size : Int)]) s rfl o4 rfl (by unfold maxLen; omega) (by omega) ?_
    intro v5 w5 o5 b5
    obtain ⟨g5, cap5, rfl⟩ : ∃ g cp, v5 = .slice (some ⟨g, 0, none⟩) (n + 1 + s.size) cp := by
      obtain ⟨g, cp, e, _⟩ := o5
      exact ⟨g, cp, e⟩
    have HC5 : Hid (w5.cell? ⟨w.heap.size, 2, none⟩ = some (.string s)) := (World.cell?_of_block (a := ⟨w.heap.size, 2, none⟩) (b5.block w.heap.size (lt_of_cell hHeld) (fun e => hne4 e.symm))).trans hHeld
    have B5 := Lib.hid (B0.trans (((Below.refl lo wb).drew.trans B4).trans ((Below.refl lo w4).grown b5 o4.lo o4.block)))
    have G5 := Lib.hid (((HEX.out.trans (Ext.of_below _ (below_drewN wb wb.heap.size 1))).trans ((Ext.alloc _ _).trans HE4.out)).then_grown b5)
    have O5 : Hid (Own 5 1 lo w5.heap.size w5 (.slice (some ⟨g5, 0, none⟩) (n + 1 + s.size) cap5) (putV zs ⟨t, xn, s⟩).length (ints .u8 (putV zs ⟨t, xn, s⟩))) := by
      show Own _ _ _ _ _ _ _ _
      rw [HE.out]
      have e1 : (zs ++ ((s.size : Int) :: sbytes s)).length = n + 1 + s.size := by
        simp only [List.length_append, List.length_cons, sbytes_len, HZ.out]
        omega
      have e2 : ints .u8 (zs ++ ((s.size : Int) :: sbytes s)) = ints .u8 zs ++ [.int .u8 (s.size : Int)] ++ ints .u8 (sbytes s) := by simp [ints]
      rw [e1, e2]
      exact o5
    clear o5 b5 B4 o4 hHeld
    go_simp
    refine hK.out _ _ HC5.out (fun hHeld => ?_)
    clear hK K
    refine takeH (i := 10) (d := some 4) (v := .slice (some ⟨g5, 0, none⟩) (n + 1 + s.size) cap5) rfl rfl (by kernel_rfl) (by kernel_rfl) (by kernel_rfl) (fun _ _ _ h => h) (Or.inl ⟨by rfl, fun W hSw => by go_simp⟩) hHeld ?_
    simp only [put_some, List.set_cons_zero, List.set_cons_succ]
    refine wpAnyH_done (by kernel_rfl) ?_ _
    go_wp2
    go_ret
    exact ⟨_, rfl, O5.out, B5.out, G5.out⟩
theorem appendVal (v : Value) (lo hi n : Nat) (zs : List Int) (x : V) (w : World) (hn : n ≤ 1073741824) (hz : zs.length = n) (hok : okV x = true) (h : Own 5 1 lo hi w v n (ints .u8 zs)) :
    Calls Tryz.prog 153 #[v, x.agg] w fun e w' => ∃ v', e = .returned v' ∧ Own 5 1 lo w'.heap.size w' v' (putV zs x).length (ints .u8 (putV zs x)) ∧ Below lo w w' :=
  (appendValG v lo hi n zs x w hn hz hok h).mono fun _ _ ⟨v', h1, h2, h3, _⟩ => ⟨v', h1, h2, h3⟩

theorem typeV_ok {l : List V} (h : ¬ typeV l = 0) {k : Nat} (hk : k < l.length) : okV (l.getD k V.zero) = true := by
  unfold typeV at h
  split at h
  · rename_i h2
    have e : l.getD k V.zero = l[k] := by simp [hk]
    have := List.all_eq_true.1 h2.2 _ (List.getElem_mem hk)
    rw [e]
    unfold ofB at this
    simp only [Bool.and_eq_true] at this
    exact this.1
  · exact absurd rfl h

set_option maxHeartbeats 1000000 in
theorem iEncPlain : CEncPlain := by
  intro u l w hln hss h
  have hown0 := own_lit (e := 5) (size := 1) w #[] 0 (Nat.zero_le _) rfl
  have hb0 := below_alloc w (.cells #[] 5)
  have HT := Lib.hid (iTypeOf u l _ hln hss (h.below hb0))
  have HE : Hid (encP l = if typeV l = 0 then [] else encAll l) := rfl
  have HTL : Hid (¬ typeV l = 0 → l.length ≤ 64) := typeV_len
  have HOK : Hid (¬ typeV l = 0 → ∀ k, k < l.length → okV (l.getD k V.zero) = true) := fun h k hk => typeV_ok h hk
  generalize hl : l.length = n at h HTL HOK hln
  obtain ⟨a, cap, rfl, hm, HC⟩ := h.vals hl
  unfold maxLen at hm
  have HL := Lib.hid hl
  have HS : Hid (∀ k, k < n → encAll (l.take (k + 1)) = putV (encAll (l.take k)) (l.getD k V.zero)) := fun k hk => by
    have hk' : k < l.length := by omega
    have e : l.getD k V.zero = l[k] := by simp [hk']
    rw [e, List.take_succ_eq_append_getElem hk', encAll_snoc]
  have HEL : Hid (∀ k, k ≤ n → (encAll (l.take k)).length ≤ 7 * k) := fun k hk => by
    have := encAll_len (l.take k)
    have e : (l.take k).length = k := by simp; omega
    rw [e] at this
    exact this
  generalize typeV l = ty at HT HE HTL HOK
  clear h hl hss
  go_enter Tryz.func131, Tryz.ntmps131
  go_wp2_with fail
  refine HT.out.mono ?_
  rintro e w1 ⟨rfl, b1⟩
  have B1 := below_then hb0 b1 hb0.size
  have O1 := (hown0.below b1 (Nat.le_refl _)).wide b1.size
  clear b1 hb0 hown0 HT
  by_cases ht : ty = 0
  · subst ht
    rw [if_pos rfl] at HE
    go_wp2
    go_ret
    rw [HE.out]
    exact ⟨_, rfl, O1, B1⟩
  · have htb : (ty == 0) = false := by simpa using ht
    have h64 := HTL.out ht
    have HOK2 := Lib.hid (HOK.out ht)
    rw [if_neg ht] at HE
    go_wp2
    go_loopw [3, 13] (fun o i wr => ∃ k : Nat, k ≤ n ∧ i = .int .i64 k ∧ Own 5 1 w.heap.size wr.heap.size wr o (encAll (l.take k)).length (ints .u8 (encAll (l.take k))) ∧ Below w.heap.size w wr) (fun _ i _ => n - (intOf i).toNat)
    case atStart => exact ⟨0, Nat.zero_le _, rfl, O1, B1⟩
    case round =>
      obtain ⟨k, hk, rfl, hown, hbr⟩ := hrel
      by_cases hlt : k < n
      · obtain ⟨b, off, rfl, p0, p1, p2⟩ := HC.out k hlt
        have HSK := Lib.hid (HS.out k hlt)
        have hel := HEL.out k hk
        replace p0 := (hbr.cell (p := ⟨b, off + k * 3, none⟩) (lt_of_cell p0)).trans p0
        replace p1 := (hbr.cell (p := ⟨b, off + k * 3 + 1, none⟩) (lt_of_cell p1)).trans p1
        replace p2 := (hbr.cell (p := ⟨b, off + k * 3 + 2, none⟩) (lt_of_cell p2)).trans p2
        have HP := Lib.hid (fun v hi W hO => appendVal v w.heap.size hi (encAll (l.take k)).length (encAll (l.take k)) (l.getD k V.zero) W (by omega) rfl (HOK2.out k hlt) hO)
        rw [← HSK.out] at HP
        generalize l.getD k V.zero = x at p0 p1 p2 HP
        obtain ⟨t1, n1, s1⟩ := x
        simp only at p0 p1 p2
        have ba := below_alloc wr (.cells #[.int .i64 t1, .int .i64 n1, .string s1] 77)
        have bt := below_then hbr ba hbr.size
        have own2 := hown.alloc (.cells #[.int .i64 t1, .int .i64 n1, .string s1] 77)
        clear hown ba
        go_wp2_with fail
        refine (HP.out _ _ _ own2).mono ?_
        rintro e w2 ⟨v2, rfl, o2, hb2⟩
        have B2 := bt.trans hb2
        have O2 := Lib.hid o2
        clear o2 hb2 bt hbr HP p0 p1 p2 own2
        go_wp2
        go_roundw
        case rel => exact ⟨k + 1, by omega, by go_num, O2.out, B2⟩
        case measure => simp [intOf]; omega
      · obtain rfl : k = n := by omega
        rw [← HL.out, List.take_length, ← HE.out] at hown
        go_wp2
        go_ret
        exact ⟨_, rfl, hown, hbr⟩

end Go.Proofs.YtkofafefnlommaaGreat

/- The contract of bytes.Equal, as the program calls it. -/
namespace Go.Proofs.YtkofafefnlommaaGreat
open Go.RowKit

theorem set_same {α : Type} {l : List α} {i : Nat} {x : α} (h : l[i]? = some x) : l.set i x = l := by
  apply List.ext_getElem?
  intro j
  rw [List.getElem?_set]
  split
  · rename_i e
    subst e
    rw [h]
    split
    · rfl
    · rename_i hl
      rw [List.getElem?_eq_none (by omega)] at h
      cases h
  · rfl
theorem bytesEqual (u v : Value) (n m : Nat) (xs ys : List Int) (w : World) (hxl : xs.length = n) (hyl : ys.length = m) (hx : Num.Bytes xs) (hy : Num.Bytes ys) (h1 : At 1 w u n (ints .u8 xs)) (h2 : At 1 w v m (ints .u8 ys)) :
    Calls Tryz.prog 165 #[u, v] w fun e w' => e = .returned (.bool (decide (xs = ys))) ∧ w = w' := by
  have k1 := conv_at hxl h1
  have k2 := conv_at hyl h2
  have HX : Hid (((strOfNums xs).toList == (strOfNums ys).toList) = decide (xs = ys)) := by
    show _ = _
    by_cases he : xs = ys
    · subst he
      simp
    · rw [bstr_ne (fun h => he (strOfNums_inj hx hy h)), decide_eq_false he]
  obtain ⟨b1, o1, c1, rfl, _, _, _, _⟩ := h1
  obtain ⟨b2, o2, c2, rfl, _, _, _, _⟩ := h2
  generalize strOfNums xs = s1 at k1 HX
  generalize strOfNums ys = s2 at k2 HX
  generalize decide (xs = ys) = q at HX
  clear hx hy hxl hyl
  go_enter Tryz.func165, Tryz.ntmps165
  go_wp2
  go_ret
  exact ⟨ret_bool HX.out, rfl⟩
theorem putNum_puts {zs : List Int} {x : Int} (h : Num.ok x) : Num.put zs x = Num.puts zs [x] := by
  rw [Num.puts_one, Num.put_ok h]

end Go.Proofs.YtkofafefnlommaaGreat

/- Where a number that was read ends; a slice's tail b[at:]. -/
namespace Go.Proofs.YtkofafefnlommaaGreat
open Go.RowKit

theorem get_bound {zs : List Int} (hb : Num.Bytes zs) {i : Int} (h : (Num.get zs i).2.2 = true) : 0 ≤ (Num.get zs i).2.1 ∧ (Num.get zs i).2.1 ≤ zs.length := by
  unfold Num.get at h ⊢
  split
  · rename_i hi
    rw [if_pos hi] at h
    split
    · rename_i u k hr
      have hbd : Num.Bytes (zs.drop i.toNat) := fun x hx => hb x (List.mem_of_mem_drop hx)
      have := Num.rd_bd hr hbd (by omega)
      have hl : (zs.drop i.toNat).length = zs.length - i.toNat := List.length_drop
      split
      · simp only
        omega
      · rename_i hu
        rw [hr] at h
        simp only [if_neg hu] at h
        cases h
    · rename_i hr
      rw [hr] at h
      cases h
  · rename_i hi
    rw [if_neg hi] at h
    cases h
theorem At.from {w : World} {b off n cap A tl : Nat} {zs : List Int} (hz : zs.length = n) (h : At 1 w (.slice (some ⟨b, off, none⟩) n cap) n (ints .u8 zs)) (hA : A ≤ n) (ht : A < cap → tl = off + A) : At 1 w (.slice (some ⟨b, tl, none⟩) (n - A) (cap - A)) (n - A) (ints .u8 (zs.drop A)) := by
  obtain ⟨b', off', cap', e, h1, h2, h3, h4⟩ := h
  simp only [Value.slice.injEq, Option.some.injEq, Addr.mk.injEq, and_true, true_and] at e
  obtain ⟨⟨rfl, rfl⟩, rfl⟩ := e
  refine ⟨_, _, _, rfl, by omega, by omega, ?_, fun j u hu => ?_⟩
  · rw [ints_len, List.length_drop, hz, Nat.mul_one]
  · have hlt := (List.getElem?_eq_some_iff.1 hu).1
    rw [ints_len, List.length_drop] at hlt
    have e2 : ints .u8 (zs.drop A) = (ints .u8 zs).drop A := by unfold ints; rw [List.map_drop]
    rw [e2, List.getElem?_drop] at hu
    have := h4 (A + j) u hu
    rw [ht (by omega), Nat.add_assoc]
    exact this
theorem tail_at (cap A b off : Nat) : ∃ tl, (if cap = A then some (⟨b, off, none⟩ : Addr) else some ⟨b, off + A, none⟩) = some ⟨b, tl, none⟩ ∧ Hid (A < cap → tl = off + A) := by
  by_cases e : cap = A
  · exact ⟨off, by rw [if_pos e], fun h => by omega⟩
  · exact ⟨off + A, by rw [if_neg e], fun _ => rfl⟩

end Go.Proofs.YtkofafefnlommaaGreat
