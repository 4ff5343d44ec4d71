/- Texts of this claim, one behind the other: S5g, S5e, S7, L5S, S7d, S7e, S7g, IEq. -/
import Derived.Test.YtoidpibdjijamaaGreatP14
import Derived.Test.YtoidpibdjijamaaGreatP8
import Derived.Test.YtoidpibdjijamaaGreatP5
import Derived.Test.YtoidpibdjijamaaGreatP7
import Derived.Laws.BytesArg
import Derived.Test.YtoidpibdjijamaaGreatP17

/- The contract of the model's GetVal. -/
namespace Go.Proofs.YtoidpibdjijamaaGreat
open Go.RowKit

/-- GetVal. -/
def getT (zs : List Int) (i : Nat) : V × Int × Bool :=
  if (zs.getD i 0) ≤ (zs.length : Int) - i - 1 ∧ okV ⟨2, 0, strOfNums ((zs.drop (i + 1)).take (zs.getD i 0).toNat)⟩ = true then (⟨2, 0, strOfNums ((zs.drop (i + 1)).take (zs.getD i 0).toNat)⟩, (i : Int) + 1 + zs.getD i 0, true) else (V.zero, 0, false)
def getV (zs : List Int) (i ty : Int) : V × Int × Bool :=
  if ty = 1 then (if (Num.get zs i).2.2 = true then (⟨1, (Num.get zs i).1, ⟨#[]⟩⟩, (Num.get zs i).2.1, true) else (V.zero, 0, false))
  else if ty = 2 ∧ Num.inB i 0 ((zs.length : Int) - 1) = true then getT zs i.toNat else (V.zero, 0, false)
/-- What GetVal returns. -/
def rGet (r : V × Int × Bool) : Value := .tuple #[r.1.agg, .int .i64 r.2.1, .bool r.2.2]

set_option maxRecDepth 100000 in
set_option maxHeartbeats 2000000 in
theorem sGetVal (v : Value) (n : Nat) (zs : List Int) (i ty : Int) (w : World) (hn : n ≤ 1073741824) (hz : zs.length = n) (hby : Num.Bytes zs) (h : At 1 w v n (ints .u8 zs)) :
    Calls Tryz.prog 33 #[v, .int .i64 i, .int .i64 ty] w fun e w' => e = .returned (rGet (getV zs i ty)) ∧ Below w.heap.size w w' := by
  have Z0 := held_new w V.zero 30
  have B0 := below_alloc w (.cells #[.int .i64 0, .int .i64 0, .string ⟨#[]⟩] 30)
  simp only [V.zero] at Z0
  have HG := Lib.hid (sGetNum v n zs i (w.alloc (.cells #[.int .i64 0, .int .i64 0, .string ⟨#[]⟩] 30)) (by omega) hz hby (h.below B0))
  have HZ := Lib.hid hz
  obtain ⟨⟨p0, p1, p2⟩, p3, p4, p5⟩ := id Z0
  simp only at p0 p1 p2
  by_cases ht : ty = 1
  · subst ht
    have HE : Hid (getV zs i 1 = if (Num.get zs i).2.2 = true then (⟨1, (Num.get zs i).1, ⟨#[]⟩⟩, (Num.get zs i).2.1, true) else (V.zero, 0, false)) := if_pos rfl
    obtain ⟨b, off, cap, rfl, _, _, _, _⟩ := h
    generalize Num.get zs i = r at HG HE
    obtain ⟨x, nx, ok⟩ := r
    unfold getRes at HG
    simp only at HG HE
    clear hz hby
    cases ok with
    | false =>
      rw [if_neg (by simp)] at HE
      rw [HE.out]
      go_enter Tryz.func33, Tryz.ntmps33
      go_wp2_with (go_at_call 31; refine HG.out.mono ?_; rintro e w' ⟨rfl, rfl⟩)
      exact bodyPost_ret (v := .tuple #[.agg #[.int .i64 0, .int .i64 0, .string ⟨#[]⟩], .int .i64 0, .bool false]) (by simp [results, Tryz.results33, go_sem, *]) rfl ⟨rfl, below_alloc _ _⟩
    | true =>
      rw [if_pos rfl] at HE
      rw [HE.out]
      go_enter Tryz.func33, Tryz.ntmps33
      go_wp2_with (go_at_call 31; refine HG.out.mono ?_; rintro e w' ⟨rfl, rfl⟩)
      exact bodyPost_ret (v := .tuple #[.agg #[.int .i64 1, .int .i64 x, .string ⟨#[]⟩], .int .i64 nx, .bool true]) (by simp [results, Tryz.results33, go_sem, *]) rfl ⟨rfl, below_alloc _ _⟩
  have htb : (ty == 1) = false := by simpa using ht
  by_cases h2 : ty = 2
  · subst h2
    have HI := Lib.hid (fun W => l1In i 0 ((n : Int) - 1) W)
    have HE : Hid (getV zs i 2 = if Num.inB i 0 ((n : Int) - 1) = true then getT zs i.toNat else (V.zero, 0, false)) := by
      show _ = _
      unfold getV
      rw [if_neg (by decide), hz]
      simp
    obtain ⟨b, off, cap, rfl, hnc, hcm, _, hc⟩ := h
    unfold maxLen at hcm
    cases hin : Num.inB i 0 ((n : Int) - 1) with
    | false =>
      rw [hin] at HI
      rw [hin, if_neg (by simp)] at HE
      rw [HE.out]
      clear hz hby hc hin HG
      go_enter Tryz.func33, Tryz.ntmps33
      go_wp2_with (go_at_call 32; refine (HI.out _).mono ?_; rintro e w' ⟨rfl, rfl⟩)
      exact bodyPost_ret (v := .tuple #[.agg #[.int .i64 0, .int .i64 0, .string ⟨#[]⟩], .int .i64 0, .bool false]) (by simp [results, Tryz.results33, go_sem, *]) rfl ⟨rfl, below_alloc _ _⟩
    | true =>
      obtain ⟨i0, i1⟩ := Num.inB_true.1 hin
      rw [hin] at HI
      rw [hin, if_pos rfl] at HE
      obtain ⟨I, rfl⟩ := Int.eq_ofNat_of_zero_le i0
      have hI : I < n := by omega
      rw [Int.toNat_natCast] at HE
      have hcI := At.cell (k := .u8) (n := n) hc hz hI
      have hbI := hby _ (getD_mem (by omega : I < zs.length))
      have HT : Hid (getT zs I = if (zs.getD I 0) ≤ (n : Int) - I - 1 ∧ okV ⟨2, 0, strOfNums ((zs.drop (I + 1)).take (zs.getD I 0).toNat)⟩ = true then (⟨2, 0, strOfNums ((zs.drop (I + 1)).take (zs.getD I 0).toNat)⟩, (I : Int) + 1 + zs.getD I 0, true) else (V.zero, 0, false)) := by
        show _ = _
        unfold getT
        rw [hz]
      have HCV : Hid (∀ (C : Nat), zs.getD I 0 = (C : Int) → I + 1 + C ≤ n → ∀ (W : World) (cp : Nat), Below w.heap.size w W → (convert 22 9 (.slice (some ⟨b, off + (I + 1), none⟩) C cp)).run Tryz.prog W = .ok (.string (strOfNums ((zs.drop (I + 1)).take C))) W) := fun C hC hle W cp hW => by
        refine run_convert_bytes_arg W 22 5 Tryz.underlying22 Tryz.underlying5 b (off + (I + 1)) C cp ((zs.drop (I + 1)).take C) (by simp; omega) (fun j hj => ?_) 9 Tryz.underlying9
        have hjn : I + 1 + j < n := by omega
        have := At.cell (k := .u8) (n := n) hc hz hjn
        have e : ((zs.drop (I + 1)).take C).getD j 0 = zs.getD (I + 1 + j) 0 := by
          simp [hj]
        rw [e, ← this, hW.cell (p := ⟨b, off + (I + 1) + j, none⟩) (by have := lt_of_cell this; simpa using this), show off + (I + 1) + j = off + (I + 1 + j) by omega]
      replace hcI := (B0.cell (p := ⟨b, off + I, none⟩) (lt_of_cell hcI)).trans hcI
      generalize zs.getD I 0 = c at hcI hbI HT HCV
      obtain ⟨c0, c1⟩ := hbI
      obtain ⟨C, rfl⟩ := Int.eq_ofNat_of_zero_le c0
      rw [Int.toNat_natCast] at HT
      clear hin hby hc hz i0 c0 HG
      by_cases hk : (C : Int) ≤ (n : Int) - I - 1
      · have HCW := Lib.hid (fun W cp hW => HCV.out C rfl (by omega) W cp hW)
        have HSS : Hid ((strOfNums ((zs.drop (I + 1)).take C)).size ≤ maxLen) := by
          show _ ≤ _
          rw [strOfNums_size]
          unfold maxLen
          simp
          omega
        have HC0 : Hid (cap = I + 1 → ∀ (W : World) (o cp : Nat), (convert 22 9 (.slice (some ⟨b, o, none⟩) 0 cp)).run Tryz.prog W = .ok (.string (strOfNums ((zs.drop (I + 1)).take C))) W) := fun hcap W o cp => by
          obtain rfl : C = 0 := by omega
          exact run_convert_bytes_arg W 22 5 Tryz.underlying22 Tryz.underlying5 b o 0 cp ((zs.drop (I + 1)).take 0) (by simp) (fun j hj => by omega) 9 Tryz.underlying9
        generalize strOfNums ((zs.drop (I + 1)).take C) = s at HT HCW HSS HC0
        have HO := Lib.hid (fun W => sValOk ⟨2, 0, s⟩ W HSS.out)
        have hgt : ¬ ((n : Int) - I - 1 < (C : Int)) := by omega
        have Z1 := Z0.below (below_alloc _ (.cells #[.int .i64 2, .int .i64 0, .string s] 30))
        have Z2 := held_new (w.alloc (.cells #[.int .i64 0, .int .i64 0, .string ⟨#[]⟩] 30)) ⟨2, 0, s⟩ 30
        have BB := below_alloc2 w (.cells #[.int .i64 0, .int .i64 0, .string ⟨#[]⟩] 30) (.cells #[.int .i64 2, .int .i64 0, .string s] 30)
        rw [World.size_alloc] at Z2
        clear p0 p1 p2 p3 p4 p5
        by_cases hcap : cap = I + 1
        · have hcv := HC0.out hcap
          obtain rfl : C = 0 := by omega
          go_enter Tryz.func33, Tryz.ntmps33
          go_wp2_with (go_at_call 32; refine (HI.out _).mono ?_; rintro e w' ⟨rfl, rfl⟩)
          refine (HO.out _).mono ?_
          rintro e w2 ⟨rfl, hb2⟩
          have B2 := below_then BB hb2 BB.size
          obtain ⟨⟨p0, p1, p2⟩, p3, p4, p5⟩ := Z1.below hb2
          obtain ⟨⟨q0, q1, q2⟩, q3, q4, q5⟩ := Z2.below hb2
          simp only at p0 p1 p2 q0 q1 q2
          clear hb2 Z1 Z2 hcv hcI
          cases hok : okV ⟨2, 0, s⟩ with
          | false =>
            rw [if_neg (fun h => by rw [hok] at h; cases h.2)] at HT
            clear hok
            go_wp2
            exact bodyPost_ret (v := .tuple #[.agg #[.int .i64 0, .int .i64 0, .string ⟨#[]⟩], .int .i64 0, .bool false]) (by simp [results, Tryz.results33, go_sem, *]) rfl ⟨by rw [HE.out, HT.out]; simp [rGet, V.zero], ((B2.setCell (by simp) _).setCell (by simp) _).setCell (by simp) _⟩
          | true =>
            rw [if_pos ⟨hk, hok⟩] at HT
            clear hok
            go_wp2
            exact bodyPost_ret (v := .tuple #[.agg #[.int .i64 2, .int .i64 0, .string s], .int .i64 ((I : Int) + 1), .bool true]) (by simp [results, Tryz.results33, go_sem, *]) rfl ⟨by rw [HE.out, HT.out]; simp [rGet], ((B2.setCell (by simp) _).setCell (by simp) _).setCell (by simp) _⟩
        · have hcv := HCW.out (w.alloc (.cells #[.int .i64 0, .int .i64 0, .string ⟨#[]⟩] 30)) (cap - (I + 1)) B0
          go_enter Tryz.func33, Tryz.ntmps33
          go_wp2_with (go_at_call 32; refine (HI.out _).mono ?_; rintro e w' ⟨rfl, rfl⟩)
          refine (HO.out _).mono ?_
          rintro e w2 ⟨rfl, hb2⟩
          have B2 := below_then BB hb2 BB.size
          obtain ⟨⟨p0, p1, p2⟩, p3, p4, p5⟩ := Z1.below hb2
          obtain ⟨⟨q0, q1, q2⟩, q3, q4, q5⟩ := Z2.below hb2
          simp only at p0 p1 p2 q0 q1 q2
          clear hb2 Z1 Z2 hcv hcI
          cases hok : okV ⟨2, 0, s⟩ with
          | false =>
            rw [if_neg (fun h => by rw [hok] at h; cases h.2)] at HT
            clear hok
            go_wp2
            exact bodyPost_ret (v := .tuple #[.agg #[.int .i64 0, .int .i64 0, .string ⟨#[]⟩], .int .i64 0, .bool false]) (by simp [results, Tryz.results33, go_sem, *]) rfl ⟨by rw [HE.out, HT.out]; rfl, ((B2.setCell (by simp) _).setCell (by simp) _).setCell (by simp) _⟩
          | true =>
            rw [if_pos ⟨hk, hok⟩] at HT
            clear hok
            go_wp2
            exact bodyPost_ret (v := .tuple #[.agg #[.int .i64 2, .int .i64 0, .string s], .int .i64 ((I : Int) + 1 + C), .bool true]) (by simp [results, Tryz.results33, go_sem, *]) rfl ⟨by rw [HE.out, HT.out]; rfl, ((B2.setCell (by simp) _).setCell (by simp) _).setCell (by simp) _⟩
      · rw [if_neg (fun h => hk h.1)] at HT
        rw [HE.out, HT.out]
        have hgt : (n : Int) - I - 1 < (C : Int) := by omega
        clear HCV
        go_enter Tryz.func33, Tryz.ntmps33
        go_wp2_with (go_at_call 32; refine (HI.out _).mono ?_; rintro e w' ⟨rfl, rfl⟩)
        exact bodyPost_ret (v := .tuple #[.agg #[.int .i64 0, .int .i64 0, .string ⟨#[]⟩], .int .i64 0, .bool false]) (by simp [results, Tryz.results33, go_sem, *]) rfl ⟨rfl, below_alloc _ _⟩
  · have HE : Hid (getV zs i ty = (V.zero, 0, false)) := by
      show _ = _
      unfold getV
      rw [if_neg ht, if_neg (fun h => h2 h.1)]
    have h2b : (ty != 2) = true := by simpa using h2
    obtain ⟨b, off, cap, rfl, _, _, _, _⟩ := h
    rw [HE.out]
    clear HG hz hby
    go_enter Tryz.func33, Tryz.ntmps33
    go_wp2
    exact bodyPost_ret (v := .tuple #[.agg #[.int .i64 0, .int .i64 0, .string ⟨#[]⟩], .int .i64 0, .bool false]) (by simp [results, Tryz.results33, go_sem, *]) rfl ⟨rfl, below_alloc _ _⟩

end Go.Proofs.YtoidpibdjijamaaGreat

/- The contracts of the model's EncPlain and DecPlain. -/
namespace Go.Proofs.YtoidpibdjijamaaGreat
open Go.RowKit

/-- EncPlain. -/
def encAll (l : List V) : List Int := l.foldl putV []
def encP (l : List V) : List Int := if typeV l = 0 then [] else encAll l
theorem encAll_snoc (l : List V) (v : V) : encAll (l ++ [v]) = putV (encAll l) v := by simp [encAll]
theorem encAll_len (l : List V) : (encAll l).length ≤ 7 * l.length := by
  have : ∀ (l : List V) (b : List Int), (l.foldl putV b).length ≤ b.length + 7 * l.length := by
    intro l
    induction l with
    | nil => intro b; simp
    | cons v l ih =>
      intro b
      have h1 := ih (putV b v)
      have h2 := (putV_len b v).2
      simp only [List.foldl_cons, List.length_cons]
      omega
  have := this l []
  simpa [encAll] using this
theorem typeV_len {l : List V} (h : ¬ typeV l = 0) : l.length ≤ 64 := by
  unfold typeV at h
  split at h
  · rename_i h2
    have := Num.inB_true.1 h2.1
    omega
  · exact absurd rfl h

/-- DecPlain. -/
def decL (zs : List Int) (ty : Int) : Nat → Int → Option (List V × Int)
  | 0, i => some ([], i)
  | k + 1, i => if (getV zs i ty).2.2 = true then (decL zs ty k (getV zs i ty).2.1).map fun r => ((getV zs i ty).1 :: r.1, r.2) else none
def decP (zs : List Int) (ty k : Int) : List V × Bool :=
  if Num.inB k 1 64 = true then (match decL zs ty k.toNat 0 with | some r => if r.2 = zs.length then (r.1, true) else ([], false) | none => ([], false)) else ([], false)
/-- What DecPlain returns. -/
def RDs (w w' : World) (e : Ending) (r : List V × Bool) : Prop := ∃ v', e = .returned (.tuple #[v', .bool r.2]) ∧ Own 30 3 w.heap.size w'.heap.size w' v' r.1.length (vals r.1) ∧ Below w.heap.size w w'

end Go.Proofs.YtoidpibdjijamaaGreat

/- The contracts of the model's InDict, Places, Picked. -/
namespace Go.Proofs.YtoidpibdjijamaaGreat
open Go.RowKit

set_option maxHeartbeats 1000000 in
theorem sInDict (u : Value) (d : List V) (x : V) (w : World) (h : Rd 3 w u d.length (vals d)) :
    Calls Tryz.prog 17 #[u, x.agg] w fun e w' => e = .returned (.int .i64 (inI d x)) ∧ Below w.heap.size w w' := by
  generalize hl : d.length = n at h
  obtain ⟨a, cap, rfl, hm, HC⟩ := h.vals hl
  unfold maxLen at hm
  have HL := Lib.hid hl
  have HE : Hid (∀ i, i < n → (d.getD i V.zero).eqB x = true → (∀ j, j < i → (d.getD j V.zero).eqB x = false) → inI d x = i) := fun i hi h1 h2 => inI_some (inD_first (by omega) h1 h2)
  have HN : Hid ((∀ j, j < n → (d.getD j V.zero).eqB x = false) → inI d x = -1) := fun h1 => inI_none (inD_none.2 (fun j hj => h1 j (by omega)))
  have hx0 := held_new w x 30
  have hb0 := below_alloc w (.cells #[.int .i64 x.ty, .int .i64 x.n, .string x.s] 30)
  generalize inI d x = r at HE HN
  obtain ⟨xt, xn, xs⟩ := x
  clear h hl
  go_enter Tryz.func17, Tryz.ntmps17
  go_wp2
  generalize hW : w.alloc (.cells #[.int .i64 xt, .int .i64 xn, .string xs] 30) = W at hx0 hb0 ⊢
  have HW := Lib.hid hW
  clear hW
  go_loopw [5] (fun i wr => ∃ k : Nat, k ≤ n ∧ i = .int .i64 k ∧ (∀ j, j < k → (d.getD j V.zero).eqB ⟨xt, xn, xs⟩ = false) ∧ Below W.heap.size W wr) (fun i _ => n - (intOf i).toNat)
  case atStart => exact ⟨0, Nat.zero_le _, rfl, fun j hj => by omega, Below.refl _ _⟩
  case round =>
    obtain ⟨k, hk, rfl, hno, hbr⟩ := hrel
    have HNO := Lib.hid hno
    clear hno
    by_cases hlt : k < n
    · obtain ⟨b, off, rfl, p0, p1, p2⟩ := HC.out k hlt
      have hbr2 := hb0.trans (hbr.mono hb0.size)
      replace p0 := (hbr2.cell (p := ⟨b, off + k * 3, none⟩) (lt_of_cell p0)).trans p0
      replace p1 := (hbr2.cell (p := ⟨b, off + k * 3 + 1, none⟩) (lt_of_cell p1)).trans p1
      replace p2 := (hbr2.cell (p := ⟨b, off + k * 3 + 2, none⟩) (lt_of_cell p2)).trans p2
      obtain ⟨⟨q0, q1, q2⟩, _⟩ := hx0.below hbr
      have HEK := Lib.hid (HE.out k hlt)
      have HNK : Hid ((d.getD k V.zero).eqB ⟨xt, xn, xs⟩ = false → ∀ j, j < k + 1 → (d.getD j V.zero).eqB ⟨xt, xn, xs⟩ = false) := fun h1 j hj => by
        by_cases e : j = k
        · subst e; exact h1
        · exact HNO.out j (by omega)
      have hq := fun W => run_eql_val (d.getD k V.zero) ⟨xt, xn, xs⟩ W
      generalize d.getD k V.zero = y at p0 p1 p2 HEK HNK hq
      cases he : y.eqB ⟨xt, xn, xs⟩ with
      | true =>
        have HR := Lib.hid (HEK.out he HNO.out)
        rw [he] at hq
        obtain ⟨t1, n1, s1⟩ := y
        have HB := Lib.hid hbr2
        clear he HEK HNK hx0 hb0 hbr hbr2
        simp only at q0 q1 q2
        go_wp2
        go_quiet (fail)
        go_wp2
        go_ret
        exact ⟨ret_int HR.out.symm, HB.out.trans (below_drewN _ _ _)⟩
      | false =>
        have HS := Lib.hid (HNK.out he)
        rw [he] at hq
        obtain ⟨t1, n1, s1⟩ := y
        clear he HEK HNK hx0 hb0
        simp only at q0 q1 q2
        go_wp2
        go_quiet (fail)
        go_wp2
        go_roundw
        case rel => exact ⟨k + 1, by omega, by go_num, HS.out, hbr.trans (below_drewN _ _ _)⟩
        case measure => simp [intOf]; omega
    · obtain rfl : k = n := by omega
      have HR := Lib.hid (HN.out HNO.out)
      have hbr2 := hb0.trans (hbr.mono hb0.size)
      go_wp2
      go_ret
      exact ⟨ret_int HR.out.symm, hbr2⟩

theorem map_snoc {α β : Type} (f : α → β) (l : List α) (z : α) (k : Nat) (h : k < l.length) : (l.take (k + 1)).map f = (l.take k).map f ++ [f (l.getD k z)] := by
  rw [List.take_succ_eq_append_getElem h, List.map_append, getDe l z h]
  rfl
/-- The places of the first k values; what is picked at the first k places. -/
def plK (d l : List V) (k : Nat) : List Int := (l.take k).map (inI d)
def pkK (d : List V) (l : List Int) (k : Nat) : List V := (l.take k).map (fun x => d.getD x.toNat V.zero)
theorem inI_neg {d : List V} {v : V} (h : inI d v < 0) : inD d v = none := by
  cases e : inD d v with
  | none => rfl
  | some i => rw [inI_some e] at h; omega
theorem inI_pos {d : List V} {v : V} (h : ¬ inI d v < 0) : (inD d v).isSome = true := by
  cases e : inD d v with
  | none => rw [inI_none e] at h; omega
  | some i => rfl

set_option maxHeartbeats 1000000 in
theorem sPlaces (u v : Value) (d l : List V) (w : World) (hn : l.length ≤ 1048576) (hd : Rd 3 w u d.length (vals d)) (h : Rd 3 w v l.length (vals l)) :
    Calls Tryz.prog 14 #[u, v] w (Unpacked w (placesL d l)) := by
  have hown0 := own_lit (e := 3) (size := 1) w #[] 0 (Nat.zero_le _) rfl
  have hb0 := below_alloc w (.cells #[] 3)
  have HD := Lib.hid (fun x W (hW : Below w.heap.size w W) => sInDict u d x W (hd.below hW))
  generalize hl : l.length = n at h hn
  obtain ⟨a, cap, rfl, hm, HC⟩ := h.vals hl
  unfold maxLen at hm
  have HL := Lib.hid hl
  have HNO : Hid (∀ k, k < n → inI d (l.getD k V.zero) < 0 → placesL d l = ([], false)) := fun k hk h1 => places_no (by omega) (inI_neg h1)
  have HYES : Hid ((∀ k, k < n → 0 ≤ inI d (l.getD k V.zero)) → placesL d l = (l.map (inI d), true)) := fun h1 => places_yes (fun k hk => inI_pos (by have := h1 k (by omega); omega))
  have HS : Hid (∀ k, k < n → ints .i64 (plK d l (k + 1)) = ints .i64 (plK d l k) ++ [.int .i64 (inI d (l.getD k V.zero))]) := fun k hk => by
    unfold plK
    rw [map_snoc _ _ V.zero _ (by omega), ints_append]
    rfl
  have HTL : Hid (∀ k, k ≤ n → (plK d l k).length = k) := fun k hk => by simp [plK]; omega
  generalize placesL d l = R at HNO HYES
  clear h hl hd
  go_enter Tryz.func14, Tryz.ntmps14
  go_wp2
  go_loopw [6, 7] (fun o i wr => ∃ k : Nat, k ≤ n ∧ i = .int .i64 k ∧ (∀ j, j < k → 0 ≤ inI d (l.getD j V.zero)) ∧ Own 3 1 w.heap.size wr.heap.size wr o k (ints .i64 (plK d l k)) ∧ Below w.heap.size w wr) (fun _ i _ => n - (intOf i).toNat)
  case atStart => exact ⟨0, Nat.zero_le _, rfl, fun j hj => by omega, hown0, hb0⟩
  case round =>
    obtain ⟨k, hk, rfl, hno, hown, hbr⟩ := hrel
    have HK := Lib.hid hno
    clear hno
    by_cases hlt : k < n
    · obtain ⟨b, off, rfl, p0, p1, p2⟩ := HC.out k hlt
      replace p0 := (hbr.cell (p := ⟨b, off + k * 3, none⟩) (lt_of_cell p0)).trans p0
      replace p1 := (hbr.cell (p := ⟨b, off + k * 3 + 1, none⟩) (lt_of_cell p1)).trans p1
      replace p2 := (hbr.cell (p := ⟨b, off + k * 3 + 2, none⟩) (lt_of_cell p2)).trans p2
      have HX := Lib.hid (HD.out (l.getD k V.zero) wr hbr)
      have HSK := Lib.hid (HS.out k hlt)
      have HNK := Lib.hid (HNO.out k hlt)
      have HKK : Hid (0 ≤ inI d (l.getD k V.zero) → ∀ j, j < k + 1 → 0 ≤ inI d (l.getD j V.zero)) := fun h1 j hj => by
        by_cases e : j = k
        · subst e; exact h1
        · exact HK.out j (by omega)
      generalize inI d (l.getD k V.zero) = z at HX HSK HNK HKK
      generalize l.getD k V.zero = y at p0 p1 p2 HX
      obtain ⟨t1, n1, s1⟩ := y
      simp only at p0 p1 p2
      go_wp2_with fail
      refine HX.out.mono ?_
      rintro e w2 ⟨rfl, hb2⟩
      have B2 := below_then hbr hb2 hbr.size
      have z2 := hb2.size
      have O2 := hown.below hb2 (Nat.le_refl _)
      clear hb2 hown HX p0 p1 p2 hbr
      by_cases hz : z < 0
      · have HR := Lib.hid (HNK.out hz)
        have OL := own_lit (e := 3) (size := 1) w2 #[] 0 (Nat.zero_le _) rfl
        have BL := B2.alloc B2.size (.cells #[] 3)
        have hzz := B2.size
        clear O2
        go_wp2
        go_ret2
        rw [HR.out]
        exact ⟨_, rfl, OL.lower hzz, BL⟩
      · have HK2 := Lib.hid (HKK.out (by omega))
        have O3 := O2.wide z2
        clear O2
        go_wp2_with (at_builtin; refine append1_law Tryz.elemInts rfl _ _ rfl _ _ _ _ _ (.int .i64 z) rfl rfl O3 rfl (by unfold maxLen; omega) (by omega) ?_)
        intro v4 w4 o4 e4
        have b4 := B2.trans (e4.below O3)
        rw [← HSK.out] at o4
        have O4 := Lib.hid o4
        clear o4 e4 O3
        go_wp2
        go_roundw
        case rel => exact ⟨k + 1, by omega, by go_num, HK2.out, O4.out, b4⟩
        case measure => simp [intOf]; omega
    · obtain rfl : k = n := by omega
      have HR := Lib.hid (HYES.out HK.out)
      have OO := Lib.hid hown
      clear hown
      go_wp2
      go_ret2
      rw [HR.out]
      exact ⟨_, rfl, by have := OO.out; unfold plK at this; rw [← HL.out, List.take_length] at this; rw [List.length_map]; exact this, hbr⟩

set_option maxHeartbeats 1000000 in
theorem sPicked (u v : Value) (d : List V) (l : List Int) (w : World) (hn : l.length ≤ 1048576) (hd : Rd 3 w u d.length (vals d)) (h : Rd 1 w v l.length (ints .i64 l)) :
    Calls Tryz.prog 11 #[u, v] w fun e w' => RDs w w' e (pickedL d l) := by
  have hown0 := own_lit (e := 30) (size := 3) w #[] 0 (Nat.zero_le _) rfl
  have hb0 := below_alloc w (.cells #[] 30)
  have HI := Lib.hid (fun x m W => l1In x 0 m W)
  generalize hdl : d.length = m at hd
  obtain ⟨da, dcap, rfl, hdm, HDC⟩ := hd.vals hdl
  generalize hl : l.length = n at h hn
  obtain ⟨a, cap, rfl, hm, HC⟩ := h.ints hl
  unfold maxLen at hm hdm
  have HL := Lib.hid hl
  have HPB : Hid (∀ x : Int, pickB d x = Num.inB x 0 ((m : Int) - 1)) := fun x => by
    cases e : Num.inB x 0 ((m : Int) - 1) with
    | true =>
      have := Num.inB_true.1 e
      exact decide_eq_true ⟨this.1, by omega⟩
    | false =>
      refine decide_eq_false fun h2 => ?_
      rw [Num.inB_true.2 ⟨h2.1, by omega⟩] at e
      cases e
  have HNO : Hid (∀ k, k < n → pickB d (l.getD k 0) = false → pickedL d l = ([], false)) := fun k hk h1 => picked_no (by omega) h1
  have HYES : Hid ((∀ k, k < n → pickB d (l.getD k 0) = true) → pickedL d l = (l.map (fun x => d.getD x.toNat V.zero), true)) := fun h1 => picked_yes (fun k hk => h1 k (by omega))
  have HS : Hid (∀ k, k < n → vals (pkK d l (k + 1)) = vals (pkK d l k) ++ V.cs (d.getD (l.getD k 0).toNat V.zero)) := fun k hk => by
    unfold pkK
    rw [map_snoc _ _ 0 _ (by omega)]
    simp [vals]
  generalize pickedL d l = R at HNO HYES
  clear h hl hd hdl
  go_enter Tryz.func11, Tryz.ntmps11
  go_wp2
  go_loopw [6, 7] (fun o i wr => ∃ k : Nat, k ≤ n ∧ i = .int .i64 k ∧ (∀ j, j < k → pickB d (l.getD j 0) = true) ∧ Own 30 3 w.heap.size wr.heap.size wr o k (vals (pkK d l k)) ∧ Below w.heap.size w wr) (fun _ i _ => n - (intOf i).toNat)
  case atStart => exact ⟨0, Nat.zero_le _, rfl, fun j hj => by omega, hown0, hb0⟩
  case round =>
    obtain ⟨k, hk, rfl, hno, hown, hbr⟩ := hrel
    have HK := Lib.hid hno
    clear hno
    by_cases hlt : k < n
    · obtain ⟨b, off, rfl, p0⟩ := HC.out k hlt
      replace p0 := (hbr.cell (p := ⟨b, off + k, none⟩) (lt_of_cell p0)).trans p0
      have HX := Lib.hid (HI.out (l.getD k 0) ((m : Int) - 1) wr)
      have HSK := Lib.hid (HS.out k hlt)
      have HNK := Lib.hid (HNO.out k hlt)
      have HKK : Hid (pickB d (l.getD k 0) = true → ∀ j, j < k + 1 → pickB d (l.getD j 0) = true) := fun h1 j hj => by
        by_cases e : j = k
        · subst e; exact h1
        · exact HK.out j (by omega)
      rw [HPB.out] at HNK HKK
      generalize l.getD k 0 = z at p0 HX HSK HNK HKK
      cases hz : Num.inB z 0 ((m : Int) - 1) with
      | false =>
        have HR := Lib.hid (HNK.out hz)
        have OL := own_lit (e := 30) (size := 3) wr #[] 0 (Nat.zero_le _) rfl
        have BL := hbr.alloc hbr.size (.cells #[] 30)
        have hzz := hbr.size
        rw [hz] at HX
        clear hown hz
        go_wp2_with (go_at_call 32; refine HX.out.mono ?_; rintro e w' ⟨rfl, rfl⟩)
        go_ret2
        rw [HR.out]
        exact ⟨_, rfl, OL.lower hzz, BL⟩
      | true =>
        have HK2 := Lib.hid (HKK.out hz)
        obtain ⟨z0, z1⟩ := Num.inB_true.1 hz
        obtain ⟨K, rfl⟩ := Int.eq_ofNat_of_zero_le z0
        have hKm : K < m := by omega
        obtain ⟨db, doff, rfl, d0, d1, d2⟩ := HDC.out K hKm
        replace d0 := (hbr.cell (p := ⟨db, doff + K * 3, none⟩) (lt_of_cell d0)).trans d0
        replace d1 := (hbr.cell (p := ⟨db, doff + K * 3 + 1, none⟩) (lt_of_cell d1)).trans d1
        replace d2 := (hbr.cell (p := ⟨db, doff + K * 3 + 2, none⟩) (lt_of_cell d2)).trans d2
        rw [Int.toNat_natCast] at HSK
        generalize d.getD K V.zero = y at d0 d1 d2 HSK
        obtain ⟨t1, n1, s1⟩ := y
        simp only at d0 d1 d2
        rw [hz] at HX
        clear hz z0 z1
        go_wp2_with (first | (go_at_call 32; refine HX.out.mono ?_; rintro e w' ⟨rfl, rfl⟩) | (at_builtin; refine appendV_law Tryz.elemVals rfl _ _ rfl _ _ _ _ _ ⟨t1, n1, s1⟩ rfl hown rfl (by unfold maxLen; omega) (by omega) ?_))
        intro v4 w4 o4 e4
        have b4 := hbr.trans (e4.below hown)
        rw [← HSK.out] at o4
        have O4 := Lib.hid o4
        clear o4 e4 hown d0 d1 d2 p0
        go_wp2
        go_roundw
        case rel => exact ⟨k + 1, by omega, by go_num, HK2.out, O4.out, b4⟩
        case measure => simp [intOf]; omega
    · obtain rfl : k = n := by omega
      have HR := Lib.hid (HYES.out HK.out)
      have OO := Lib.hid hown
      clear hown
      go_wp2
      go_ret2
      rw [HR.out]
      exact ⟨_, rfl, by have := OO.out; unfold pkK at this; rw [← HL.out, List.take_length] at this; rw [List.length_map]; exact this, hbr⟩

end Go.Proofs.YtoidpibdjijamaaGreat

/- The model's l5Same (two slices of bytes are the same), and small lemmas on bytes. -/
namespace Go.Proofs.YtoidpibdjijamaaGreat
open Go.RowKit

theorem Own.drewN {e size lo hi w v n xs} (h : Own e size lo hi w v n xs) (d : Nat) : Own e size lo hi (w.drewN d) v n xs := by
  obtain ⟨g, cap, rfl, h1, h2, h3⟩ := h
  exact ⟨g, cap, rfl, h1, h2, h3.1, h3.2⟩
theorem sbytes_bytes (s : ByteArray) : Num.Bytes (sbytes s) := by
  intro x hx
  unfold sbytes at hx
  obtain ⟨b, _, rfl⟩ := List.mem_map.1 hx
  have := b.toNat_lt
  omega
theorem bytes_append {a b : List Int} (ha : Num.Bytes a) (hb : Num.Bytes b) : Num.Bytes (a ++ b) := fun x hx => (List.mem_append.1 hx).elim (ha x) (hb x)
theorem putV_bytes {zs : List Int} (h : Num.Bytes zs) (v : V) : Num.Bytes (putV zs v) := by
  unfold putV
  split
  · rename_i hok
    split
    · exact Num.put_bytes h v.n
    · rename_i ht
      have := okV_txt hok ht
      refine bytes_append h (fun x hx => ?_)
      rcases List.mem_cons.1 hx with rfl | hx
      · omega
      · exact sbytes_bytes _ x hx
  · exact h
theorem nil_bytes : Num.Bytes [] := fun x hx => by cases hx
theorem strOfNums_inj {xs ys : List Int} (hx : Num.Bytes xs) (hy : Num.Bytes ys) (h : strOfNums xs = strOfNums ys) : xs = ys := by
  have h2 : xs.map (fun n => UInt8.ofNat n.toNat) = ys.map (fun n => UInt8.ofNat n.toNat) := by
    have := congrArg (fun s : ByteArray => s.data.toList) h
    simpa [strOfNums] using this
  induction xs generalizing ys with
  | nil => cases ys with
    | nil => rfl
    | cons => simp at h2
  | cons x xs ih => cases ys with
    | nil => simp at h2
    | cons y ys =>
      simp only [List.map_cons, List.cons.injEq] at h2
      have h1 := hx x List.mem_cons_self
      have h3 := hy y List.mem_cons_self
      have e : x.toNat = y.toNat := by
        have := congrArg UInt8.toNat h2.1
        simp only [UInt8.toNat_ofNat'] at this
        omega
      have hxs : strOfNums xs = strOfNums ys := by
        unfold strOfNums
        rw [h2.2]
      rw [show x = y by omega, ih (fun z hz => hx z (List.mem_cons_of_mem _ hz)) (fun z hz => hy z (List.mem_cons_of_mem _ hz)) hxs h2.2]
theorem bstr_ne {a b : ByteArray} (h : ¬ a = b) : (a.toList == b.toList) = false := by
  have : ¬ a.toList = b.toList := fun e => h (by
    rw [ByteArray.toList_eq, ByteArray.toList_eq] at e
    apply ByteArray.ext
    exact Array.toList_inj.1 e)
  simpa using this
theorem conv_at {w : World} {v : Value} {n : Nat} {zs : List Int} (hz : zs.length = n) (h : At 1 w v n (ints .u8 zs)) : (convert 22 9 v).run Tryz.prog w = .ok (.string (strOfNums zs)) w := by
  obtain ⟨b, off, cap, rfl, _, _, _, hc⟩ := h
  exact run_convert_bytes_arg w 22 5 Tryz.underlying22 Tryz.underlying5 b off n cap zs hz (fun j hj => At.cell hc hz hj) 9 Tryz.underlying9
theorem l5Same (u v : Value) (n m : Nat) (xs ys : List Int) (w : World) (hxl : xs.length = n) (hyl : ys.length = m) (hx : Num.Bytes xs) (hy : Num.Bytes ys) (h1 : At 1 w u n (ints .u8 xs)) (h2 : At 1 w v m (ints .u8 ys)) :
    Calls Tryz.prog 36 #[u, v] w fun e w' => e = .returned (.bool (decide (xs = ys))) ∧ w = w' := by
  have k1 := conv_at hxl h1
  have k2 := conv_at hyl h2
  have HX : Hid (((strOfNums xs).toList == (strOfNums ys).toList) = decide (xs = ys)) := by
    show _ = _
    by_cases he : xs = ys
    · subst he
      simp
    · rw [bstr_ne (fun h => he (strOfNums_inj hx hy h)), decide_eq_false he]
  obtain ⟨b1, o1, c1, rfl, _, _, _, _⟩ := h1
  obtain ⟨b2, o2, c2, rfl, _, _, _, _⟩ := h2
  generalize strOfNums xs = s1 at k1 HX
  generalize strOfNums ys = s2 at k2 HX
  generalize decide (xs = ys) = q at HX
  clear hx hy hxl hyl
  go_enter Tryz.func36, Tryz.ntmps36
  go_wp2
  go_ret
  exact ⟨ret_bool HX.out, rfl⟩
theorem getV_size (zs : List Int) (i ty : Int) : (getV zs i ty).1.s.size ≤ maxLen := by
  have h6 : ∀ v : V, okV v = true → ¬ v.ty = 1 → v.s.size ≤ maxLen := fun v h ht => Nat.le_trans (okV_txt h ht) (by decide)
  unfold getV
  split
  · split
    · exact Nat.zero_le _
    · exact Nat.zero_le _
  · split
    · unfold getT
      split
      · rename_i h
        exact h6 _ h.2 (fun e => by simp at e)
      · exact Nat.zero_le _
    · exact Nat.zero_le _

end Go.Proofs.YtoidpibdjijamaaGreat

/- The contract of the model's Dict. -/
namespace Go.Proofs.YtoidpibdjijamaaGreat
open Go.RowKit

/-- append(s, x...) as one operation: s owned, x read at ⟨b, off⟩. -/
theorem append_op {P : Program} {t e : TypeId} {z : Value} {size bytes : Nat} (T : ElemT P t e z size bytes) {w : World} {o : Oper} {a : Act} {K : Act → World → Prop} {Q : Exit → Act → World → Prop} (s x : Operand)
    (ho : o.op = .call { callee := .builtin .append, args := #[s, x], argTypes := #[t, t] })
    (lo hi : Nat) (v : Value) (n : Nat) (xs : List Value) (hs : a.eval s = v) (hown : Own e size lo hi w v n xs)
    (b off m c : Nat) (news : List Value) (hx : a.eval x = .slice (some ⟨b, off, none⟩) m c) (hl : news.length = m * size) (hnews : ∀ j u, news[j]? = some u → w.cell? ⟨b, off + j, none⟩ = some u) (h1 : ∀ u ∈ news, u.oneCell' = true)
    (h63 : n + m ≤ maxLen) (hbytes : (n + m) * bytes ≤ 140737488355328)
    (h : ∀ v' w', Own e size lo w'.heap.size w' v' (n + m) (xs ++ news) → Ext w w' v v' → K (a.put o.dst v') w') : Oper.wp P o a w K Q := by
  obtain ⟨v', w', hr, h2, h3⟩ := append_block w t o.type e z size bytes T lo hi v n xs hown ⟨b, off, none⟩ m c news hl (fun j u hu => by rw [addr_add]; exact hnews j u hu) h1 h63 hbytes
  unfold Oper.wp execOp
  simp only [ho, resolve, invoke, builtin, Sem.run_bind, Sem.run_pure, Result.andThen_ok, List.map_toArray, List.map_cons, List.map_nil, hs, hx, hr]
  exact h v' w' h2 h3
theorem lit_new (w : World) (x : V) (e : TypeId) : ∀ j u, (V.cs x)[j]? = some u → (w.alloc (.cells #[.int .i64 x.ty, .int .i64 x.n, .string x.s] e)).cell? ⟨w.heap.size, 0 + j, none⟩ = some u := by
  intro j u hu
  match j, hu with
  | 0, hu => simp [V.cs] at hu; subst hu; simp
  | 1, hu => simp [V.cs] at hu; subst hu; simp
  | 2, hu => simp [V.cs] at hu; subst hu; simp
theorem lit_ext {W W' : World} {v v' : Value} {h : Nat} {cs : List Value} (hX : ∀ j u, cs[j]? = some u → W.cell? ⟨h, 0 + j, none⟩ = some u) (hlt : h < W.heap.size) (hne : v.ownBlock ≠ some h) (e : Ext W W' v v') :
    (∀ j u, cs[j]? = some u → W'.cell? ⟨h, 0 + j, none⟩ = some u) ∧ h < W'.heap.size ∧ v'.ownBlock ≠ some h := by
  refine ⟨fun j u hu => ?_, Nat.lt_of_lt_of_le hlt e.grown.size, fun hv => ?_⟩
  · rw [World.cell?_of_block (w := W) (e.grown.block h hlt (fun k => hne k.symm))]
    exact hX j u hu
  · rcases e.blk with k | ⟨g, k, hg⟩
    · exact hne (k.symm.trans hv)
    · rw [k] at hv
      simp at hv
      omega
/-- A Val just laid as a literal of one. -/
def Lit1 (N : Nat) (W : World) (h : Nat) (x : V) : Prop := N ≤ h ∧ h < W.heap.size ∧ ∀ j u, (V.cs x)[j]? = some u → W.cell? ⟨h, 0 + j, none⟩ = some u
theorem Lit1.alloc {N : Nat} {W : World} {h : Nat} {x : V} (k : Lit1 N W h x) (o : Obj) : Lit1 N (W.alloc o) h x :=
  ⟨k.1, by have := k.2.1; simp; omega, fun j u hu => ((below_alloc W o).cell (p := ⟨h, 0 + j, none⟩) k.2.1).trans (k.2.2 j u hu)⟩
theorem Lit1.new {N : Nat} (W : World) (x : V) (e : TypeId) (hN : N ≤ W.heap.size) : Lit1 N (W.alloc (.cells #[.int .i64 x.ty, .int .i64 x.n, .string x.s] e)) W.heap.size x := ⟨hN, by simp, lit_new W x e⟩
theorem Lit1.ext {N : Nat} {W W' : World} {v v' : Value} {h : Nat} {x : V} (k : Lit1 N W h x) (hne : v.ownBlock ≠ some h) (e : Ext W W' v v') : Lit1 N W' h x ∧ v'.ownBlock ≠ some h :=
  ⟨⟨k.1, (lit_ext k.2.2 k.2.1 hne e).2.1, (lit_ext k.2.2 k.2.1 hne e).1⟩, (lit_ext k.2.2 k.2.1 hne e).2.2⟩
theorem Own.notNew {e size lo w v n xs} (h : Own e size lo w.heap.size w v n xs) : v.ownBlock ≠ some w.heap.size := by
  obtain ⟨g, cap, rfl, h1, h2, h3⟩ := h
  simp only [Value.ownBlock, ne_eq, Option.some.injEq]
  omega
theorem own_none {e : TypeId} {N : Nat} (W : World) (hN : N ≤ W.heap.size) : Own e 3 N (W.alloc (.cells #[] e)).heap.size (W.alloc (.cells #[] e)) (.slice (some ⟨W.heap.size, 0, none⟩) 0 0) 0 [] :=
  (own_lit (e := e) (size := 3) W #[] 0 (Nat.zero_le _) rfl).lower hN
theorem Own.stay {e size lo w v n xs} (h : Own e size lo w.heap.size w v n xs) (o : Obj) : Own e size lo (w.alloc o).heap.size (w.alloc o) v n xs := (h.alloc o).wide (by simp)
theorem vals_one (l : List V) : ∀ u ∈ vals l, u.oneCell' = true := by
  intro u hu
  obtain ⟨v, _, hv⟩ := List.mem_flatMap.1 hu
  simp only [V.cs, List.mem_cons, List.not_mem_nil, or_false] at hv
  rcases hv with rfl | rfl | rfl <;> rfl
theorem vals_take (l : List V) (c : Nat) : vals (l.take c) = (vals l).take (c * 3) := by
  induction l generalizing c with
  | nil => simp [vals]
  | cons v l ih =>
    cases c with
    | zero => simp [vals]
    | succ c =>
      have := ih c
      simp only [vals] at this ⊢
      rw [List.take_succ_cons, List.flatMap_cons, List.flatMap_cons, this, show (c + 1) * 3 = 3 + c * 3 by omega, List.take_append, List.take_of_length_le (show (V.cs v).length ≤ 3 + c * 3 by simp only [V.cs, List.length_cons, List.length_nil]; omega)]
      simp [V.cs]
theorem vals_drop (l : List V) (c : Nat) : vals (l.drop c) = (vals l).drop (c * 3) := by
  induction l generalizing c with
  | nil => simp [vals]
  | cons v l ih =>
    cases c with
    | zero => simp [vals]
    | succ c =>
      have := ih c
      simp only [vals] at this ⊢
      rw [List.drop_succ_cons, List.flatMap_cons, this, show (c + 1) * 3 = 3 + c * 3 by omega, List.drop_append]
      simp [V.cs]
/-- The two parts of a dictionary that is read, in a later world. -/
theorem tails {wo W9 : World} {d : List V} {m j g cp tl : Nat} (hm : d.length = m) (hc : ∀ i u, (vals d)[i]? = some u → wo.cell? ⟨g, 0 + i, none⟩ = some u) (hj : j ≤ m) (hcp : m ≤ cp) (ht : j < cp → tl = j * 3) (B : Below wo.heap.size wo W9) :
    ∀ W, Below W9.heap.size W9 W → (∀ i u, (vals (d.take j))[i]? = some u → W.cell? ⟨g, 0 + i, none⟩ = some u) ∧ (∀ i u, (vals (d.drop j))[i]? = some u → W.cell? ⟨g, tl + i, none⟩ = some u) := by
  intro W hW
  have hc2 : ∀ i u, (vals d)[i]? = some u → W.cell? ⟨g, 0 + i, none⟩ = some u := fun i u hu => by
    have h1 := hc i u hu
    have h2 := (B.cell (p := ⟨g, 0 + i, none⟩) (lt_of_cell h1)).trans h1
    exact (hW.cell (p := ⟨g, 0 + i, none⟩) (lt_of_cell h2)).trans h2
  refine ⟨fun i u hu => hc2 i u ?_, fun i u hu => ?_⟩
  · rw [vals_take] at hu
    rw [← hu, List.getElem?_take_of_lt]
    have := (List.getElem?_eq_some_iff.1 hu).1
    simp at this
    omega
  · have hlt := (List.getElem?_eq_some_iff.1 hu).1
    rw [vals_len, List.length_drop] at hlt
    have hjm : j < cp := by omega
    rw [vals_drop, List.getElem?_drop] at hu
    have := hc2 (j * 3 + i) u hu
    rw [ht hjm]
    rw [Nat.zero_add] at this
    exact this

set_option maxRecDepth 100000 in
set_option maxHeartbeats 4000000 in
theorem sDict (u : Value) (l : List V) (w : World) (hn : l.length ≤ 1048576) (h : Rd 3 w u l.length (vals l)) :
    Calls Tryz.prog 52 #[u] w fun e w' => ∃ v', e = .returned v' ∧ Own 30 3 w.heap.size w'.heap.size w' v' (dictL l).length (vals (dictL l)) ∧ Below w.heap.size w w' := by
  have hown0 := own_lit (e := 30) (size := 3) w #[] 0 (Nat.zero_le _) rfl
  have hb0 := below_alloc w (.cells #[] 30)
  generalize hl : l.length = n at h hn
  obtain ⟨a, cap, rfl, _, HC⟩ := h.vals hl
  have HL := Lib.hid hl
  have HS : Hid (∀ k, k < n → dictL (l.take (k + 1)) = insV (dictL (l.take k)) (l.getD k V.zero)) := fun k hk => by
    have hk' : k < l.length := by omega
    rw [getDe l V.zero hk', List.take_succ_eq_append_getElem hk', dict_snoc]
  have HLEN : Hid (∀ k, k ≤ n → (dictL (l.take k)).length ≤ k) := fun k hk => by
    have h1 := dict_len (l.take k)
    have e : (l.take k).length = k := by simp; omega
    omega
  clear hl h
  go_enter Tryz.func52, Tryz.ntmps52
  go_wp2
  go_loopw [3, 4] (fun o i wr => ∃ k : Nat, k ≤ n ∧ i = .int .i64 k ∧ Own 30 3 w.heap.size wr.heap.size wr o (dictL (l.take k)).length (vals (dictL (l.take k))) ∧ Below w.heap.size w wr) (fun _ i _ => n - (intOf i).toNat)
  case atStart => exact ⟨0, Nat.zero_le _, rfl, hown0, hb0⟩
  case round =>
    obtain ⟨k, hk, rfl, hown, hbr⟩ := hrel
    by_cases hlt : k < n
    · obtain ⟨b, off, rfl, p0, p1, p2⟩ := HC.out k hlt
      have HSK := Lib.hid (HS.out k hlt)
      have hrl := HLEN.out k hk
      replace p0 := (hbr.cell (p := ⟨b, off + k * 3, none⟩) (lt_of_cell p0)).trans p0
      replace p1 := (hbr.cell (p := ⟨b, off + k * 3 + 1, none⟩) (lt_of_cell p1)).trans p1
      replace p2 := (hbr.cell (p := ⟨b, off + k * 3 + 2, none⟩) (lt_of_cell p2)).trans p2
      generalize l.getD k V.zero = x at p0 p1 p2 HSK
      generalize dictL (l.take k) = d at hown hrl HSK
      obtain ⟨g, cp, rfl, hg1, hg2, hrow⟩ := hown
      have hown : Own 30 3 w.heap.size wr.heap.size wr (.slice (some ⟨g, 0, none⟩) d.length cp) d.length (vals d) := ⟨g, cp, rfl, hg1, hg2, hrow⟩
      obtain ⟨b', off', cp', e', hcp, hcm, _, hcs⟩ := hown.at
      simp only [Value.slice.injEq, Option.some.injEq, Addr.mk.injEq, and_true, true_and] at e'
      obtain ⟨⟨rfl, rfl⟩, rfl⟩ := e'
      unfold maxLen at hcm
      have HCS := Lib.hid hcs
      have HD3 : Hid (∀ j, j < d.length → wr.cell? ⟨g, j * 3, none⟩ = some (.int .i64 (d.getD j V.zero).ty) ∧ wr.cell? ⟨g, j * 3 + 1, none⟩ = some (.int .i64 (d.getD j V.zero).n) ∧ wr.cell? ⟨g, j * 3 + 2, none⟩ = some (.string (d.getD j V.zero).s)) := fun j hj => by
        have := cells3 (b := g) (off := 0) hcs hj
        rw [getDe d V.zero hj]
        simpa using this
      have HDL := Lib.hid hcs
      clear hcs hrow
      have HCL := Lib.hid (cutV_le d x)
      have HST : Hid (∀ j, j ≤ cutV d x → j < d.length → lessV (d.getD j V.zero) x = true → j + 1 ≤ cutV d x) := fun j h1 h2 h3 => cutV_step h1 h2 h3
      have HSP : Hid (∀ j, j ≤ cutV d x → (j = d.length ∨ lessV (d.getD j V.zero) x = false) → j = cutV d x) := fun j h1 h2 => cutV_stop h1 h2
      have HNEW : Hid ((cutV d x = d.length ∨ (d.getD (cutV d x) V.zero).eqB x = false) → insV d x = (d.take (cutV d x) ++ [x]) ++ d.drop (cutV d x)) := insV_new
      have HOLD : Hid (cutV d x < d.length → (d.getD (cutV d x) V.zero).eqB x = true → insV d x = d) := insV_old
      generalize hm : d.length = m at hown hrl HD3 HCL HST HSP HNEW HOLD hcp
      have HM := Lib.hid hm
      clear hm
      obtain ⟨wo, rfl⟩ : ∃ wo, wo = wr := ⟨_, rfl⟩
      go_wp2
      go_loopw [5] (fun i wr2 => ∃ j : Nat, i = .int .i64 j ∧ j ≤ cutV d x ∧ Below wo.heap.size wo wr2) (fun i _ => cutV d x + 1 - (intOf i).toNat)
      case atStart => exact ⟨0, rfl, Nat.zero_le _, Below.refl _ _⟩
      case round =>
        obtain ⟨j, rfl, hjc, hb2⟩ := hrel
        have hjm : j ≤ m := Nat.le_trans hjc HCL.out
        replace p0 := (hb2.cell (p := ⟨b, off + k * 3, none⟩) (lt_of_cell p0)).trans p0
        replace p1 := (hb2.cell (p := ⟨b, off + k * 3 + 1, none⟩) (lt_of_cell p1)).trans p1
        replace p2 := (hb2.cell (p := ⟨b, off + k * 3 + 2, none⟩) (lt_of_cell p2)).trans p2
        by_cases hjl : j < m
        · obtain ⟨q0, q1, q2⟩ := HD3.out j hjl
          replace q0 := (hb2.cell (p := ⟨g, j * 3, none⟩) (lt_of_cell q0)).trans q0
          replace q1 := (hb2.cell (p := ⟨g, j * 3 + 1, none⟩) (lt_of_cell q1)).trans q1
          replace q2 := (hb2.cell (p := ⟨g, j * 3 + 2, none⟩) (lt_of_cell q2)).trans q2
          have HL1 := Lib.hid (HST.out j hjc hjl)
          have HL2 := Lib.hid (fun h => HSP.out j hjc (.inr h))
          have HEQ : Hid (j = cutV d x → d.getD (cutV d x) V.zero = d.getD j V.zero) := fun h => by rw [h]
          generalize d.getD j V.zero = y at q0 q1 q2 HL1 HL2 HEQ
          have HX := Lib.hid (fun W => sLessVal y x W)
          have HK : Hid (∀ W, Below wr.heap.size wr W → W.cell? ⟨g, j * 3, none⟩ = some (.int .i64 y.ty) ∧ W.cell? ⟨g, j * 3 + 1, none⟩ = some (.int .i64 y.n) ∧ W.cell? ⟨g, j * 3 + 2, none⟩ = some (.string y.s) ∧ W.cell? ⟨b, off + k * 3, none⟩ = some (.int .i64 x.ty) ∧ W.cell? ⟨b, off + k * 3 + 1, none⟩ = some (.int .i64 x.n) ∧ W.cell? ⟨b, off + k * 3 + 2, none⟩ = some (.string x.s)) := fun W h =>
            ⟨(h.cell (p := ⟨g, j * 3, none⟩) (lt_of_cell q0)).trans q0, (h.cell (p := ⟨g, j * 3 + 1, none⟩) (lt_of_cell q1)).trans q1, (h.cell (p := ⟨g, j * 3 + 2, none⟩) (lt_of_cell q2)).trans q2, (h.cell (p := ⟨b, off + k * 3, none⟩) (lt_of_cell p0)).trans p0, (h.cell (p := ⟨b, off + k * 3 + 1, none⟩) (lt_of_cell p1)).trans p1, (h.cell (p := ⟨b, off + k * 3 + 2, none⟩) (lt_of_cell p2)).trans p2⟩
          have hB' := (Below.refl wr.heap.size wr).drew
          generalize hc : cutV d x = c at HL1 HL2 HEQ HCL HNEW HOLD hjc
          have HCC := Lib.hid hc
          clear hc
          generalize lessV y x = lb at HL1 HL2 HX
          obtain ⟨xt, xn, xs⟩ := x
          obtain ⟨yt, yn, ys⟩ := y
          simp only at p0 p1 p2 q0 q1 q2 HK
          have HOWN := Lib.hid hown
          have HBR := Lib.hid hbr
          have HB2 := Lib.hid hb2
          clear hown hbr hb2
          go_wp2
          go_region_held3 (fun W => W.cell? ⟨g, j * 3, none⟩ = some (.int .i64 yt) ∧ W.cell? ⟨g, j * 3 + 1, none⟩ = some (.int .i64 yn) ∧ W.cell? ⟨g, j * 3 + 2, none⟩ = some (.string ys) ∧ W.cell? ⟨b, off + k * 3, none⟩ = some (.int .i64 xt) ∧ W.cell? ⟨b, off + k * 3 + 1, none⟩ = some (.int .i64 xn) ∧ W.cell? ⟨b, off + k * 3 + 2, none⟩ = some (.string xs)) (exact HK.out _ hB') ((go_at_call 82; (with_reducible refine (HX.out _).mono ?_); rintro e w2 ⟨rfl, hb3⟩; replace hB' := below_then hB' hb3 hB'.size))
          cases lb with
          | true =>
            have hj1 := HL1.out rfl
            go_wp2
            go_roundw
            case rel => exact ⟨j + 1, by go_num, hj1, below_then HB2.out hB' HB2.out.size⟩
            case measure => simp [intOf]; omega
          | false =>
            obtain rfl := HL2.out rfl
            have HY := Lib.hid (HEQ.out rfl)
            rw [HY.out] at HNEW HOLD
            have hq := fun W => run_neq_val ⟨yt, yn, ys⟩ ⟨xt, xn, xs⟩ W
            obtain ⟨c0, c1, c2, c3, c4, c5⟩ := HK.out _ hB'
            have B3 := Lib.hid (below_then HB2.out hB' HB2.out.size)
            have hjeq : ((j : Int) == (m : Int)) = false := by simp; omega
            clear hB' HK HX HL1 HL2 HEQ p0 p1 p2 q0 q1 q2
            cases he : V.eqB ⟨yt, yn, ys⟩ ⟨xt, xn, xs⟩ with
            | true =>
              have HO := Lib.hid (HOLD.out hjl he)
              rw [he] at hq
              clear he HOLD HNEW
              go_wp2
              go_quiet (fail)
              go_wp2
              go_roundw
              case rel => exact ⟨k + 1, by omega, by go_num, by rw [HSK.out, HO.out, HM.out]; exact (HOWN.out.below (B3.out.trans (below_drewN _ _ _)) (Nat.le_refl _)).wide B3.out.size, below_then HBR.out (B3.out.trans (below_drewN _ _ _)) HBR.out.size⟩
              case measure => simp [intOf]; omega
            | false =>
              have HO := Lib.hid (HNEW.out (.inr he))
              rw [he] at hq
              clear he HOLD HNEW
              go_wp2
              go_quiet (fail)
              go_wp2
              generalize hW9 : w2.drewN nq = W9
              have B9 : Below wo.heap.size wo W9 := by rw [← hW9]; exact B3.out.trans (below_drewN _ _ _)
              have c3' : W9.cell? ⟨b, off + k * 3, none⟩ = some (.int .i64 xt) := by rw [← hW9]; exact c3
              have c4' : W9.cell? ⟨b, off + k * 3 + 1, none⟩ = some (.int .i64 xn) := by rw [← hW9]; exact c4
              have c5' : W9.cell? ⟨b, off + k * 3 + 2, none⟩ = some (.string xs) := by rw [← hW9]; exact c5
              clear c0 c1 c2 c3 c4 c5 hq hW9
              have hjcp : (cp < j) = False := by simp; omega
              obtain ⟨tl, htl, HTL⟩ : ∃ tl, (if cp = j then some (⟨g, 0, none⟩ : Addr) else some ⟨g, j * 3, none⟩) = some ⟨g, tl, none⟩ ∧ Hid (j < cp → tl = j * 3) := by
                by_cases e : cp = j
                · exact ⟨0, by rw [if_pos e], fun h => by omega⟩
                · exact ⟨j * 3, by rw [if_neg e], fun _ => rfl⟩
              refine wp_region_held_drew (S := fun W => W.cell? ⟨b, off + k * 3, none⟩ = some (.int .i64 xt) ∧ W.cell? ⟨b, off + k * 3 + 1, none⟩ = some (.int .i64 xn) ∧ W.cell? ⟨b, off + k * 3 + 2, none⟩ = some (.string xs)) (by kernel_rfl) ⟨c3', c4', c5'⟩ (fun hH => ?_)
              refine takeH (i := 1) (d := some 46) (v := .slice (some ⟨g, 0, none⟩) m cp) rfl rfl (by kernel_rfl) (by kernel_rfl) (by kernel_rfl) (fun _ _ _ h => h) (Or.inl ⟨by rfl, fun W hSw => by go_simp⟩) hH ?_
              simp only [put_some, List.set_cons_zero, List.set_cons_succ]
              refine takeH (i := 2) (d := some 47) (v := .int .i64 (j : Int)) rfl rfl (by kernel_rfl) (by kernel_rfl) (by kernel_rfl) (fun _ _ _ h => h) (Or.inl ⟨by rfl, fun W hSw => by go_simp⟩) hH ?_
              simp only [put_some, List.set_cons_zero, List.set_cons_succ]
              refine takeH (i := 3) (d := some 48) (v := .slice (some ⟨g, 0, none⟩) j cp) rfl rfl (by kernel_rfl) (by kernel_rfl) (by kernel_rfl) (fun _ _ _ h => h) (Or.inl ⟨by rfl, fun W hSw => by go_simp⟩) hH ?_
              simp only [put_some, List.set_cons_zero, List.set_cons_succ]
              refine takeH (i := 5) (d := some 50) (v := .slice (some ⟨b, off, none⟩) n cap) rfl rfl (by kernel_rfl) (by kernel_rfl) (by kernel_rfl) (fun _ _ _ h => h) (Or.inl ⟨by rfl, fun W hSw => by go_simp⟩) hH ?_
              simp only [put_some, List.set_cons_zero, List.set_cons_succ]
              refine takeH (i := 6) (d := some 51) (v := .int .i64 (k : Int)) rfl rfl (by kernel_rfl) (by kernel_rfl) (by kernel_rfl) (fun _ _ _ h => h) (Or.inl ⟨by rfl, fun W hSw => by go_simp⟩) hH ?_
              simp only [put_some, List.set_cons_zero, List.set_cons_succ]
              refine takeH (i := 7) (d := some 52) (v := .pointer (some ⟨b, off + k * 3, none⟩)) rfl rfl (by kernel_rfl) (by kernel_rfl) (by kernel_rfl) (fun _ _ _ h => h) (Or.inl ⟨by rfl, fun W hSw => by go_simp⟩) hH ?_
              simp only [put_some, List.set_cons_zero, List.set_cons_succ]
              refine takeH (i := 8) (d := some 53) (v := .agg #[.int .i64 xt, .int .i64 xn, .string xs]) rfl rfl (by kernel_rfl) (by kernel_rfl) (by kernel_rfl) (fun _ _ _ h => h) (Or.inl ⟨by rfl, fun W hSw => by go_simp⟩) hH ?_
              simp only [put_some, List.set_cons_zero, List.set_cons_succ]
              refine takeH (i := 11) (d := some 56) (v := .slice (some ⟨g, 0, none⟩) m cp) rfl rfl (by kernel_rfl) (by kernel_rfl) (by kernel_rfl) (fun _ _ _ h => h) (Or.inl ⟨by rfl, fun W hSw => by go_simp⟩) hH ?_
              simp only [put_some, List.set_cons_zero, List.set_cons_succ]
              refine takeH (i := 12) (d := some 57) (v := .int .i64 (j : Int)) rfl rfl (by kernel_rfl) (by kernel_rfl) (by kernel_rfl) (fun _ _ _ h => h) (Or.inl ⟨by rfl, fun W hSw => by go_simp⟩) hH ?_
              simp only [put_some, List.set_cons_zero, List.set_cons_succ]
              refine takeH (i := 13) (d := some 58) (v := .slice (some ⟨g, tl, none⟩) (m - j) (cp - j)) rfl rfl (by kernel_rfl) (by kernel_rfl) (by kernel_rfl) (fun _ _ _ h => h) (Or.inl ⟨by rfl, fun W hSw => by go_simp⟩) hH ?_
              simp only [put_some, List.set_cons_zero, List.set_cons_succ]
              clear htl hjcp
              have D9 : Hid (∀ W, Below W9.heap.size W9 W → (∀ i u, (vals (d.take j))[i]? = some u → W.cell? ⟨g, 0 + i, none⟩ = some u) ∧ (∀ i u, (vals (d.drop j))[i]? = some u → W.cell? ⟨g, tl + i, none⟩ = some u)) := tails HM.out HDL.out hjm hcp HTL.out B9
              have S9 : Hid (∀ W, Below W9.heap.size W9 W → W.cell? ⟨b, off + k * 3, none⟩ = some (.int .i64 xt) ∧ W.cell? ⟨b, off + k * 3 + 1, none⟩ = some (.int .i64 xn) ∧ W.cell? ⟨b, off + k * 3 + 2, none⟩ = some (.string xs)) := fun W h => ⟨(h.cell (p := ⟨b, off + k * 3, none⟩) (lt_of_cell c3')).trans c3', (h.cell (p := ⟨b, off + k * 3 + 1, none⟩) (lt_of_cell c4')).trans c4', (h.cell (p := ⟨b, off + k * 3 + 2, none⟩) (lt_of_cell c5')).trans c5'⟩
              have HVL : Hid ((vals (d.take j)).length = j * 3 ∧ (vals (d.drop j)).length = (m - j) * 3) := by
                have e := HM.out
                refine ⟨?_, ?_⟩
                · rw [vals_len, List.length_take]; congr 1; omega
                · rw [vals_len, List.length_drop, e]
              have HFIN : Hid ((vals (d.take j) ++ V.cs ⟨xt, xn, xs⟩) ++ vals (d.drop j) = vals (insV d ⟨xt, xn, xs⟩) ∧ j + 1 + (m - j) = (insV d ⟨xt, xn, xs⟩).length) := by
                have e := HM.out
                rw [HO.out]
                refine ⟨by simp [vals], ?_⟩
                simp only [List.length_append, List.length_take, List.length_drop, List.length_cons, List.length_nil]
                omega
              have B0 : Below W9.heap.size W9 W9.drew := (Below.refl _ _).drew
              generalize hW0 : W9.drew = W0 at hH B0 ⊢
              clear hW0 c3' c4' c5'
              refine wpAnyH_ready (rs := [0, 9]) (by kernel_rfl) (by simp) ?_
              refine AllReadyH.cons rfl (fun K hK => ?_) (AllReadyH.cons rfl (fun K hK => ?_) AllReadyH.nil)
              · skip
                go_simp
                have B1 := B0.alloc B0.size (.cells #[] 30)
                have O1 := own_none (e := 30) (N := W9.heap.size) W0 B0.size
                refine hK.out _ _ (S9.out _ B1) (fun hH => ?_)
                clear hK K
                generalize W0.heap.size = g45 at O1 ⊢
                generalize W0.alloc (.cells #[] 30) = W1 at B1 O1 hH ⊢
                refine wpAnyH_ready (rs := [4, 9]) (by kernel_rfl) (by simp) ?_
                refine AllReadyH.cons rfl (fun K hK => ?_) (AllReadyH.cons rfl (fun K hK => ?_) AllReadyH.nil)
                · skip
                  refine append_op Tryz.elemVals (.tmp 45) (.tmp 48) rfl W9.heap.size W1.heap.size (.slice (some ⟨g45, 0, none⟩) 0 0) 0 [] rfl O1 g 0 j cp (vals (d.take j)) rfl HVL.out.1 (D9.out _ B1).1 (vals_one _) (by unfold maxLen; omega) (by omega) ?_
                  intro v49 W2 O2 E2
                  have B2 := B1.trans (E2.below O1)
                  rw [Nat.zero_add, List.nil_append] at O2
                  obtain ⟨g49, c49, rfl⟩ : ∃ g c, v49 = .slice (some ⟨g, 0, none⟩) (j) c := by obtain ⟨g, c, e, _⟩ := O2; exact ⟨g, c, e⟩
                  refine hK.out _ _ (S9.out _ B2) (fun hH => ?_)
                  clear hK K E2
                  refine wpAnyH_ready (rs := [9]) (by kernel_rfl) (by simp) ?_
                  refine AllReadyH.cons rfl (fun K hK => ?_) AllReadyH.nil
                  go_simp
                  have B3 := B2.alloc B2.size (.cells #[.int .i64 xt, .int .i64 xn, .string xs] 30)
                  have L3 : Lit1 W9.heap.size _ _ _ := Lit1.new W2 ⟨xt, xn, xs⟩ 30 B2.size
                  have N3 := O2.notNew
                  have O3 := O2.stay (.cells #[.int .i64 xt, .int .i64 xn, .string xs] 30)
                  refine hK.out _ _ (S9.out _ B3) (fun hH => ?_)
                  clear hK K
                  generalize W2.heap.size = g54 at L3 O3 N3 ⊢
                  generalize W2.alloc (.cells #[.int .i64 xt, .int .i64 xn, .string xs] 30) = W3 at B3 L3 O3 hH ⊢
                  refine wpAnyH_ready (rs := [10]) (by kernel_rfl) (by simp) ?_
                  refine AllReadyH.cons rfl (fun K hK => ?_) AllReadyH.nil
                  refine append_op Tryz.elemVals (.tmp 49) (.tmp 54) rfl W9.heap.size W3.heap.size (.slice (some ⟨g49, 0, none⟩) j c49) j (vals (d.take j)) rfl O3 g54 0 1 1 (V.cs ⟨xt, xn, xs⟩) rfl rfl L3.2.2 (fun u hu => vals_one [⟨xt, xn, xs⟩] u (by simpa [vals] using hu)) (by unfold maxLen; omega) (by omega) ?_
                  intro v55 W4 O4 E4
                  have B4 := B3.trans (E4.below O3)
                  obtain ⟨g55, c55, rfl⟩ : ∃ g c, v55 = .slice (some ⟨g, 0, none⟩) (j + 1) c := by obtain ⟨g, c, e, _⟩ := O4; exact ⟨g, c, e⟩
                  refine hK.out _ _ (S9.out _ B4) (fun hH => ?_)
                  clear hK K E4
                  refine wpAnyH_ready (rs := [14]) (by kernel_rfl) (by simp) ?_
                  refine AllReadyH.cons rfl (fun K hK => ?_) AllReadyH.nil
                  refine append_op Tryz.elemVals (.tmp 55) (.tmp 58) rfl W9.heap.size W4.heap.size (.slice (some ⟨g55, 0, none⟩) (j + 1) c55) (j + 1) (vals (d.take j) ++ V.cs ⟨xt, xn, xs⟩) rfl O4 g tl (m - j) (cp - j) (vals (d.drop j)) rfl HVL.out.2 (D9.out _ B4).2 (vals_one _) (by unfold maxLen; omega) (by omega) ?_
                  intro v59 W5 O5 E5
                  have B5 := B4.trans (E5.below O4)
                  rw [HFIN.out.1, HFIN.out.2] at O5
                  obtain ⟨g59, c59, rfl⟩ : ∃ g c, v59 = .slice (some ⟨g, 0, none⟩) (insV d ⟨xt, xn, xs⟩).length c := by obtain ⟨g, c, e, _⟩ := O5; exact ⟨g, c, e⟩
                  refine hK.out _ _ (S9.out _ B5) (fun hH => ?_)
                  clear hK K E5
                  refine takeH (i := 15) (d := some 3) (v := .slice (some ⟨g59, 0, none⟩) (insV d ⟨xt, xn, xs⟩).length c59) rfl rfl (by kernel_rfl) (by kernel_rfl) (by kernel_rfl) (fun _ _ _ h => h) (Or.inl ⟨by rfl, fun W hSw => by go_simp⟩) hH ?_
                  try simp only [put_some, List.set_cons_zero, List.set_cons_succ]
                  have OF := Lib.hid O5
                  have BF := Lib.hid B5
                  clear O5 B5
                  refine wpAnyH_done (by kernel_rfl) ?_ _
                  go_wp2
                  go_roundw
                  case rel => exact ⟨k + 1, by omega, by go_num, by rw [HSK.out]; exact OF.out.lower (Nat.le_trans HBR.out.size B9.size), below_then HBR.out (below_then B9 BF.out B9.size) HBR.out.size⟩
                  case measure => simp [intOf]; omega
                · skip
                  go_simp
                  have B2 := B1.alloc B1.size (.cells #[.int .i64 xt, .int .i64 xn, .string xs] 30)
                  have L2 : Lit1 W9.heap.size _ _ _ := Lit1.new W1 ⟨xt, xn, xs⟩ 30 B1.size
                  have N2 := O1.notNew
                  have O2 := O1.stay (.cells #[.int .i64 xt, .int .i64 xn, .string xs] 30)
                  refine hK.out _ _ (S9.out _ B2) (fun hH => ?_)
                  clear hK K
                  generalize W1.heap.size = g54 at L2 O2 N2 ⊢
                  generalize W1.alloc (.cells #[.int .i64 xt, .int .i64 xn, .string xs] 30) = W2 at B2 L2 O2 hH ⊢
                  refine wpAnyH_ready (rs := [4]) (by kernel_rfl) (by simp) ?_
                  refine AllReadyH.cons rfl (fun K hK => ?_) AllReadyH.nil
                  refine append_op Tryz.elemVals (.tmp 45) (.tmp 48) rfl W9.heap.size W2.heap.size (.slice (some ⟨g45, 0, none⟩) 0 0) 0 [] rfl O2 g 0 j cp (vals (d.take j)) rfl HVL.out.1 (D9.out _ B2).1 (vals_one _) (by unfold maxLen; omega) (by omega) ?_
                  intro v49 W3 O3 E3
                  have B3 := B2.trans (E3.below O2)
                  obtain ⟨L3, N3⟩ := L2.ext N2 E3
                  rw [Nat.zero_add, List.nil_append] at O3
                  obtain ⟨g49, c49, rfl⟩ : ∃ g c, v49 = .slice (some ⟨g, 0, none⟩) (j) c := by obtain ⟨g, c, e, _⟩ := O3; exact ⟨g, c, e⟩
                  refine hK.out _ _ (S9.out _ B3) (fun hH => ?_)
                  clear hK K E3
                  refine wpAnyH_ready (rs := [10]) (by kernel_rfl) (by simp) ?_
                  refine AllReadyH.cons rfl (fun K hK => ?_) AllReadyH.nil
                  refine append_op Tryz.elemVals (.tmp 49) (.tmp 54) rfl W9.heap.size W3.heap.size (.slice (some ⟨g49, 0, none⟩) j c49) j (vals (d.take j)) rfl O3 g54 0 1 1 (V.cs ⟨xt, xn, xs⟩) rfl rfl L3.2.2 (fun u hu => vals_one [⟨xt, xn, xs⟩] u (by simpa [vals] using hu)) (by unfold maxLen; omega) (by omega) ?_
                  intro v55 W4 O4 E4
                  have B4 := B3.trans (E4.below O3)
                  obtain ⟨g55, c55, rfl⟩ : ∃ g c, v55 = .slice (some ⟨g, 0, none⟩) (j + 1) c := by obtain ⟨g, c, e, _⟩ := O4; exact ⟨g, c, e⟩
                  refine hK.out _ _ (S9.out _ B4) (fun hH => ?_)
                  clear hK K E4
                  refine wpAnyH_ready (rs := [14]) (by kernel_rfl) (by simp) ?_
                  refine AllReadyH.cons rfl (fun K hK => ?_) AllReadyH.nil
                  refine append_op Tryz.elemVals (.tmp 55) (.tmp 58) rfl W9.heap.size W4.heap.size (.slice (some ⟨g55, 0, none⟩) (j + 1) c55) (j + 1) (vals (d.take j) ++ V.cs ⟨xt, xn, xs⟩) rfl O4 g tl (m - j) (cp - j) (vals (d.drop j)) rfl HVL.out.2 (D9.out _ B4).2 (vals_one _) (by unfold maxLen; omega) (by omega) ?_
                  intro v59 W5 O5 E5
                  have B5 := B4.trans (E5.below O4)
                  rw [HFIN.out.1, HFIN.out.2] at O5
                  obtain ⟨g59, c59, rfl⟩ : ∃ g c, v59 = .slice (some ⟨g, 0, none⟩) (insV d ⟨xt, xn, xs⟩).length c := by obtain ⟨g, c, e, _⟩ := O5; exact ⟨g, c, e⟩
                  refine hK.out _ _ (S9.out _ B5) (fun hH => ?_)
                  clear hK K E5
                  refine takeH (i := 15) (d := some 3) (v := .slice (some ⟨g59, 0, none⟩) (insV d ⟨xt, xn, xs⟩).length c59) rfl rfl (by kernel_rfl) (by kernel_rfl) (by kernel_rfl) (fun _ _ _ h => h) (Or.inl ⟨by rfl, fun W hSw => by go_simp⟩) hH ?_
                  try simp only [put_some, List.set_cons_zero, List.set_cons_succ]
                  have OF := Lib.hid O5
                  have BF := Lib.hid B5
                  clear O5 B5
                  refine wpAnyH_done (by kernel_rfl) ?_ _
                  go_wp2
                  go_roundw
                  case rel => exact ⟨k + 1, by omega, by go_num, by rw [HSK.out]; exact OF.out.lower (Nat.le_trans HBR.out.size B9.size), below_then HBR.out (below_then B9 BF.out B9.size) HBR.out.size⟩
                  case measure => simp [intOf]; omega
              · skip
                go_simp
                have B1 := B0.alloc B0.size (.cells #[.int .i64 xt, .int .i64 xn, .string xs] 30)
                have L1 : Lit1 W9.heap.size _ _ _ := Lit1.new W0 ⟨xt, xn, xs⟩ 30 B0.size
                refine hK.out _ _ (S9.out _ B1) (fun hH => ?_)
                clear hK K
                generalize W0.heap.size = g54 at L1 ⊢
                generalize W0.alloc (.cells #[.int .i64 xt, .int .i64 xn, .string xs] 30) = W1 at B1 L1 hH ⊢
                refine wpAnyH_ready (rs := [0]) (by kernel_rfl) (by simp) ?_
                refine AllReadyH.cons rfl (fun K hK => ?_) AllReadyH.nil
                go_simp
                have B2 := B1.alloc B1.size (.cells #[] 30)
                have O2 := own_none (e := 30) (N := W9.heap.size) W1 B1.size
                have L2 := L1.alloc (.cells #[] 30)
                have N2 : Value.ownBlock (.slice (some ⟨W1.heap.size, 0, none⟩) 0 0) ≠ some g54 := by have := L1.2.1; simp only [Value.ownBlock, ne_eq, Option.some.injEq]; omega
                refine hK.out _ _ (S9.out _ B2) (fun hH => ?_)
                clear hK K
                generalize W1.heap.size = g45 at O2 L2 N2 ⊢
                generalize W1.alloc (.cells #[] 30) = W2 at B2 O2 L2 hH ⊢
                refine wpAnyH_ready (rs := [4]) (by kernel_rfl) (by simp) ?_
                refine AllReadyH.cons rfl (fun K hK => ?_) AllReadyH.nil
                refine append_op Tryz.elemVals (.tmp 45) (.tmp 48) rfl W9.heap.size W2.heap.size (.slice (some ⟨g45, 0, none⟩) 0 0) 0 [] rfl O2 g 0 j cp (vals (d.take j)) rfl HVL.out.1 (D9.out _ B2).1 (vals_one _) (by unfold maxLen; omega) (by omega) ?_
                intro v49 W3 O3 E3
                have B3 := B2.trans (E3.below O2)
                obtain ⟨L3, N3⟩ := L2.ext N2 E3
                rw [Nat.zero_add, List.nil_append] at O3
                obtain ⟨g49, c49, rfl⟩ : ∃ g c, v49 = .slice (some ⟨g, 0, none⟩) (j) c := by obtain ⟨g, c, e, _⟩ := O3; exact ⟨g, c, e⟩
                refine hK.out _ _ (S9.out _ B3) (fun hH => ?_)
                clear hK K E3
                refine wpAnyH_ready (rs := [10]) (by kernel_rfl) (by simp) ?_
                refine AllReadyH.cons rfl (fun K hK => ?_) AllReadyH.nil
                refine append_op Tryz.elemVals (.tmp 49) (.tmp 54) rfl W9.heap.size W3.heap.size (.slice (some ⟨g49, 0, none⟩) j c49) j (vals (d.take j)) rfl O3 g54 0 1 1 (V.cs ⟨xt, xn, xs⟩) rfl rfl L3.2.2 (fun u hu => vals_one [⟨xt, xn, xs⟩] u (by simpa [vals] using hu)) (by unfold maxLen; omega) (by omega) ?_
                intro v55 W4 O4 E4
                have B4 := B3.trans (E4.below O3)
                obtain ⟨g55, c55, rfl⟩ : ∃ g c, v55 = .slice (some ⟨g, 0, none⟩) (j + 1) c := by obtain ⟨g, c, e, _⟩ := O4; exact ⟨g, c, e⟩
                refine hK.out _ _ (S9.out _ B4) (fun hH => ?_)
                clear hK K E4
                refine wpAnyH_ready (rs := [14]) (by kernel_rfl) (by simp) ?_
                refine AllReadyH.cons rfl (fun K hK => ?_) AllReadyH.nil
                refine append_op Tryz.elemVals (.tmp 55) (.tmp 58) rfl W9.heap.size W4.heap.size (.slice (some ⟨g55, 0, none⟩) (j + 1) c55) (j + 1) (vals (d.take j) ++ V.cs ⟨xt, xn, xs⟩) rfl O4 g tl (m - j) (cp - j) (vals (d.drop j)) rfl HVL.out.2 (D9.out _ B4).2 (vals_one _) (by unfold maxLen; omega) (by omega) ?_
                intro v59 W5 O5 E5
                have B5 := B4.trans (E5.below O4)
                rw [HFIN.out.1, HFIN.out.2] at O5
                obtain ⟨g59, c59, rfl⟩ : ∃ g c, v59 = .slice (some ⟨g, 0, none⟩) (insV d ⟨xt, xn, xs⟩).length c := by obtain ⟨g, c, e, _⟩ := O5; exact ⟨g, c, e⟩
                refine hK.out _ _ (S9.out _ B5) (fun hH => ?_)
                clear hK K E5
                refine takeH (i := 15) (d := some 3) (v := .slice (some ⟨g59, 0, none⟩) (insV d ⟨xt, xn, xs⟩).length c59) rfl rfl (by kernel_rfl) (by kernel_rfl) (by kernel_rfl) (fun _ _ _ h => h) (Or.inl ⟨by rfl, fun W hSw => by go_simp⟩) hH ?_
                try simp only [put_some, List.set_cons_zero, List.set_cons_succ]
                have OF := Lib.hid O5
                have BF := Lib.hid B5
                clear O5 B5
                refine wpAnyH_done (by kernel_rfl) ?_ _
                go_wp2
                go_roundw
                case rel => exact ⟨k + 1, by omega, by go_num, by rw [HSK.out]; exact OF.out.lower (Nat.le_trans HBR.out.size B9.size), below_then HBR.out (below_then B9 BF.out B9.size) HBR.out.size⟩
                case measure => simp [intOf]; omega
        · have HJM : Hid (j = m) := by show _ = _; omega
          have HCE := Lib.hid (HSP.out j hjc (.inl (by omega)))
          have HO := Lib.hid (HNEW.out (.inl (by rw [← HCE.out]; exact HJM.out)))
          rw [← HCE.out] at HO
          have HOWN := Lib.hid hown
          have HBR := Lib.hid hbr
          have B3 := Lib.hid hb2
          have hjeq : ((j : Int) == (m : Int)) = true := by simp; omega
          have hjn : (j < m) = False := by simp; omega
          obtain ⟨xt, xn, xs⟩ := x
          simp only at p0 p1 p2
          clear hown hbr hb2 HNEW HOLD HSP HST hjl HCL hjc
          go_wp2
          go_quiet (fail)
          go_wp2
          go_quiet (fail)
          go_wp2
          generalize hW9 : World.drewN (World.drewN wr _) _ = W9
          have B9 : Below wo.heap.size wo W9 := by rw [← hW9]; exact (B3.out.trans (below_drewN _ _ _)).trans (below_drewN _ _ _)
          have c3' : W9.cell? ⟨b, off + k * 3, none⟩ = some (.int .i64 xt) := by rw [← hW9]; exact p0
          have c4' : W9.cell? ⟨b, off + k * 3 + 1, none⟩ = some (.int .i64 xn) := by rw [← hW9]; exact p1
          have c5' : W9.cell? ⟨b, off + k * 3 + 2, none⟩ = some (.string xs) := by rw [← hW9]; exact p2
          clear p0 p1 p2 hW9
          have hjcp : (cp < j) = False := by simp; omega
          obtain ⟨tl, htl, HTL⟩ : ∃ tl, (if cp = j then some (⟨g, 0, none⟩ : Addr) else some ⟨g, j * 3, none⟩) = some ⟨g, tl, none⟩ ∧ Hid (j < cp → tl = j * 3) := by
            by_cases e : cp = j
            · exact ⟨0, by rw [if_pos e], fun h => by omega⟩
            · exact ⟨j * 3, by rw [if_neg e], fun _ => rfl⟩
          refine wp_region_held_drew (S := fun W => W.cell? ⟨b, off + k * 3, none⟩ = some (.int .i64 xt) ∧ W.cell? ⟨b, off + k * 3 + 1, none⟩ = some (.int .i64 xn) ∧ W.cell? ⟨b, off + k * 3 + 2, none⟩ = some (.string xs)) (by kernel_rfl) ⟨c3', c4', c5'⟩ (fun hH => ?_)
          refine takeH (i := 1) (d := some 46) (v := .slice (some ⟨g, 0, none⟩) m cp) rfl rfl (by kernel_rfl) (by kernel_rfl) (by kernel_rfl) (fun _ _ _ h => h) (Or.inl ⟨by rfl, fun W hSw => by go_simp⟩) hH ?_
          simp only [put_some, List.set_cons_zero, List.set_cons_succ]
          refine takeH (i := 2) (d := some 47) (v := .int .i64 (j : Int)) rfl rfl (by kernel_rfl) (by kernel_rfl) (by kernel_rfl) (fun _ _ _ h => h) (Or.inl ⟨by rfl, fun W hSw => by go_simp⟩) hH ?_
          simp only [put_some, List.set_cons_zero, List.set_cons_succ]
          refine takeH (i := 3) (d := some 48) (v := .slice (some ⟨g, 0, none⟩) j cp) rfl rfl (by kernel_rfl) (by kernel_rfl) (by kernel_rfl) (fun _ _ _ h => h) (Or.inl ⟨by rfl, fun W hSw => by go_simp⟩) hH ?_
          simp only [put_some, List.set_cons_zero, List.set_cons_succ]
          refine takeH (i := 5) (d := some 50) (v := .slice (some ⟨b, off, none⟩) n cap) rfl rfl (by kernel_rfl) (by kernel_rfl) (by kernel_rfl) (fun _ _ _ h => h) (Or.inl ⟨by rfl, fun W hSw => by go_simp⟩) hH ?_
          simp only [put_some, List.set_cons_zero, List.set_cons_succ]
          refine takeH (i := 6) (d := some 51) (v := .int .i64 (k : Int)) rfl rfl (by kernel_rfl) (by kernel_rfl) (by kernel_rfl) (fun _ _ _ h => h) (Or.inl ⟨by rfl, fun W hSw => by go_simp⟩) hH ?_
          simp only [put_some, List.set_cons_zero, List.set_cons_succ]
          refine takeH (i := 7) (d := some 52) (v := .pointer (some ⟨b, off + k * 3, none⟩)) rfl rfl (by kernel_rfl) (by kernel_rfl) (by kernel_rfl) (fun _ _ _ h => h) (Or.inl ⟨by rfl, fun W hSw => by go_simp⟩) hH ?_
          simp only [put_some, List.set_cons_zero, List.set_cons_succ]
          refine takeH (i := 8) (d := some 53) (v := .agg #[.int .i64 xt, .int .i64 xn, .string xs]) rfl rfl (by kernel_rfl) (by kernel_rfl) (by kernel_rfl) (fun _ _ _ h => h) (Or.inl ⟨by rfl, fun W hSw => by go_simp⟩) hH ?_
          simp only [put_some, List.set_cons_zero, List.set_cons_succ]
          refine takeH (i := 11) (d := some 56) (v := .slice (some ⟨g, 0, none⟩) m cp) rfl rfl (by kernel_rfl) (by kernel_rfl) (by kernel_rfl) (fun _ _ _ h => h) (Or.inl ⟨by rfl, fun W hSw => by go_simp⟩) hH ?_
          simp only [put_some, List.set_cons_zero, List.set_cons_succ]
          refine takeH (i := 12) (d := some 57) (v := .int .i64 (j : Int)) rfl rfl (by kernel_rfl) (by kernel_rfl) (by kernel_rfl) (fun _ _ _ h => h) (Or.inl ⟨by rfl, fun W hSw => by go_simp⟩) hH ?_
          simp only [put_some, List.set_cons_zero, List.set_cons_succ]
          refine takeH (i := 13) (d := some 58) (v := .slice (some ⟨g, tl, none⟩) (m - j) (cp - j)) rfl rfl (by kernel_rfl) (by kernel_rfl) (by kernel_rfl) (fun _ _ _ h => h) (Or.inl ⟨by rfl, fun W hSw => by go_simp⟩) hH ?_
          simp only [put_some, List.set_cons_zero, List.set_cons_succ]
          clear htl hjcp
          have D9 : Hid (∀ W, Below W9.heap.size W9 W → (∀ i u, (vals (d.take j))[i]? = some u → W.cell? ⟨g, 0 + i, none⟩ = some u) ∧ (∀ i u, (vals (d.drop j))[i]? = some u → W.cell? ⟨g, tl + i, none⟩ = some u)) := tails HM.out HDL.out hjm hcp HTL.out B9
          have S9 : Hid (∀ W, Below W9.heap.size W9 W → W.cell? ⟨b, off + k * 3, none⟩ = some (.int .i64 xt) ∧ W.cell? ⟨b, off + k * 3 + 1, none⟩ = some (.int .i64 xn) ∧ W.cell? ⟨b, off + k * 3 + 2, none⟩ = some (.string xs)) := fun W h => ⟨(h.cell (p := ⟨b, off + k * 3, none⟩) (lt_of_cell c3')).trans c3', (h.cell (p := ⟨b, off + k * 3 + 1, none⟩) (lt_of_cell c4')).trans c4', (h.cell (p := ⟨b, off + k * 3 + 2, none⟩) (lt_of_cell c5')).trans c5'⟩
          have HVL : Hid ((vals (d.take j)).length = j * 3 ∧ (vals (d.drop j)).length = (m - j) * 3) := by
            have e := HM.out
            refine ⟨?_, ?_⟩
            · rw [vals_len, List.length_take]; congr 1; omega
            · rw [vals_len, List.length_drop, e]
          have HFIN : Hid ((vals (d.take j) ++ V.cs ⟨xt, xn, xs⟩) ++ vals (d.drop j) = vals (insV d ⟨xt, xn, xs⟩) ∧ j + 1 + (m - j) = (insV d ⟨xt, xn, xs⟩).length) := by
            have e := HM.out
            rw [HO.out]
            refine ⟨by simp [vals], ?_⟩
            simp only [List.length_append, List.length_take, List.length_drop, List.length_cons, List.length_nil]
            omega
          have B0 : Below W9.heap.size W9 W9.drew := (Below.refl _ _).drew
          generalize hW0 : W9.drew = W0 at hH B0 ⊢
          clear hW0 c3' c4' c5'
          refine wpAnyH_ready (rs := [0, 9]) (by kernel_rfl) (by simp) ?_
          refine AllReadyH.cons rfl (fun K hK => ?_) (AllReadyH.cons rfl (fun K hK => ?_) AllReadyH.nil)
          · skip
            go_simp
            have B1 := B0.alloc B0.size (.cells #[] 30)
            have O1 := own_none (e := 30) (N := W9.heap.size) W0 B0.size
            refine hK.out _ _ (S9.out _ B1) (fun hH => ?_)
            clear hK K
            generalize W0.heap.size = g45 at O1 ⊢
            generalize W0.alloc (.cells #[] 30) = W1 at B1 O1 hH ⊢
            refine wpAnyH_ready (rs := [4, 9]) (by kernel_rfl) (by simp) ?_
            refine AllReadyH.cons rfl (fun K hK => ?_) (AllReadyH.cons rfl (fun K hK => ?_) AllReadyH.nil)
            · skip
              refine append_op Tryz.elemVals (.tmp 45) (.tmp 48) rfl W9.heap.size W1.heap.size (.slice (some ⟨g45, 0, none⟩) 0 0) 0 [] rfl O1 g 0 j cp (vals (d.take j)) rfl HVL.out.1 (D9.out _ B1).1 (vals_one _) (by unfold maxLen; omega) (by omega) ?_
              intro v49 W2 O2 E2
              have B2 := B1.trans (E2.below O1)
              rw [Nat.zero_add, List.nil_append] at O2
              obtain ⟨g49, c49, rfl⟩ : ∃ g c, v49 = .slice (some ⟨g, 0, none⟩) (j) c := by obtain ⟨g, c, e, _⟩ := O2; exact ⟨g, c, e⟩
              refine hK.out _ _ (S9.out _ B2) (fun hH => ?_)
              clear hK K E2
              refine wpAnyH_ready (rs := [9]) (by kernel_rfl) (by simp) ?_
              refine AllReadyH.cons rfl (fun K hK => ?_) AllReadyH.nil
              go_simp
              have B3 := B2.alloc B2.size (.cells #[.int .i64 xt, .int .i64 xn, .string xs] 30)
              have L3 : Lit1 W9.heap.size _ _ _ := Lit1.new W2 ⟨xt, xn, xs⟩ 30 B2.size
              have N3 := O2.notNew
              have O3 := O2.stay (.cells #[.int .i64 xt, .int .i64 xn, .string xs] 30)
              refine hK.out _ _ (S9.out _ B3) (fun hH => ?_)
              clear hK K
              generalize W2.heap.size = g54 at L3 O3 N3 ⊢
              generalize W2.alloc (.cells #[.int .i64 xt, .int .i64 xn, .string xs] 30) = W3 at B3 L3 O3 hH ⊢
              refine wpAnyH_ready (rs := [10]) (by kernel_rfl) (by simp) ?_
              refine AllReadyH.cons rfl (fun K hK => ?_) AllReadyH.nil
              refine append_op Tryz.elemVals (.tmp 49) (.tmp 54) rfl W9.heap.size W3.heap.size (.slice (some ⟨g49, 0, none⟩) j c49) j (vals (d.take j)) rfl O3 g54 0 1 1 (V.cs ⟨xt, xn, xs⟩) rfl rfl L3.2.2 (fun u hu => vals_one [⟨xt, xn, xs⟩] u (by simpa [vals] using hu)) (by unfold maxLen; omega) (by omega) ?_
              intro v55 W4 O4 E4
              have B4 := B3.trans (E4.below O3)
              obtain ⟨g55, c55, rfl⟩ : ∃ g c, v55 = .slice (some ⟨g, 0, none⟩) (j + 1) c := by obtain ⟨g, c, e, _⟩ := O4; exact ⟨g, c, e⟩
              refine hK.out _ _ (S9.out _ B4) (fun hH => ?_)
              clear hK K E4
              refine wpAnyH_ready (rs := [14]) (by kernel_rfl) (by simp) ?_
              refine AllReadyH.cons rfl (fun K hK => ?_) AllReadyH.nil
              refine append_op Tryz.elemVals (.tmp 55) (.tmp 58) rfl W9.heap.size W4.heap.size (.slice (some ⟨g55, 0, none⟩) (j + 1) c55) (j + 1) (vals (d.take j) ++ V.cs ⟨xt, xn, xs⟩) rfl O4 g tl (m - j) (cp - j) (vals (d.drop j)) rfl HVL.out.2 (D9.out _ B4).2 (vals_one _) (by unfold maxLen; omega) (by omega) ?_
              intro v59 W5 O5 E5
              have B5 := B4.trans (E5.below O4)
              rw [HFIN.out.1, HFIN.out.2] at O5
              obtain ⟨g59, c59, rfl⟩ : ∃ g c, v59 = .slice (some ⟨g, 0, none⟩) (insV d ⟨xt, xn, xs⟩).length c := by obtain ⟨g, c, e, _⟩ := O5; exact ⟨g, c, e⟩
              refine hK.out _ _ (S9.out _ B5) (fun hH => ?_)
              clear hK K E5
              refine takeH (i := 15) (d := some 3) (v := .slice (some ⟨g59, 0, none⟩) (insV d ⟨xt, xn, xs⟩).length c59) rfl rfl (by kernel_rfl) (by kernel_rfl) (by kernel_rfl) (fun _ _ _ h => h) (Or.inl ⟨by rfl, fun W hSw => by go_simp⟩) hH ?_
              try simp only [put_some, List.set_cons_zero, List.set_cons_succ]
              have OF := Lib.hid O5
              have BF := Lib.hid B5
              clear O5 B5
              refine wpAnyH_done (by kernel_rfl) ?_ _
              go_wp2
              go_roundw
              case rel => exact ⟨k + 1, by omega, by go_num, by rw [HSK.out]; exact OF.out.lower (Nat.le_trans HBR.out.size B9.size), below_then HBR.out (below_then B9 BF.out B9.size) HBR.out.size⟩
              case measure => simp [intOf]; omega
            · skip
              go_simp
              have B2 := B1.alloc B1.size (.cells #[.int .i64 xt, .int .i64 xn, .string xs] 30)
              have L2 : Lit1 W9.heap.size _ _ _ := Lit1.new W1 ⟨xt, xn, xs⟩ 30 B1.size
              have N2 := O1.notNew
              have O2 := O1.stay (.cells #[.int .i64 xt, .int .i64 xn, .string xs] 30)
              refine hK.out _ _ (S9.out _ B2) (fun hH => ?_)
              clear hK K
              generalize W1.heap.size = g54 at L2 O2 N2 ⊢
              generalize W1.alloc (.cells #[.int .i64 xt, .int .i64 xn, .string xs] 30) = W2 at B2 L2 O2 hH ⊢
              refine wpAnyH_ready (rs := [4]) (by kernel_rfl) (by simp) ?_
              refine AllReadyH.cons rfl (fun K hK => ?_) AllReadyH.nil
              refine append_op Tryz.elemVals (.tmp 45) (.tmp 48) rfl W9.heap.size W2.heap.size (.slice (some ⟨g45, 0, none⟩) 0 0) 0 [] rfl O2 g 0 j cp (vals (d.take j)) rfl HVL.out.1 (D9.out _ B2).1 (vals_one _) (by unfold maxLen; omega) (by omega) ?_
              intro v49 W3 O3 E3
              have B3 := B2.trans (E3.below O2)
              obtain ⟨L3, N3⟩ := L2.ext N2 E3
              rw [Nat.zero_add, List.nil_append] at O3
              obtain ⟨g49, c49, rfl⟩ : ∃ g c, v49 = .slice (some ⟨g, 0, none⟩) (j) c := by obtain ⟨g, c, e, _⟩ := O3; exact ⟨g, c, e⟩
              refine hK.out _ _ (S9.out _ B3) (fun hH => ?_)
              clear hK K E3
              refine wpAnyH_ready (rs := [10]) (by kernel_rfl) (by simp) ?_
              refine AllReadyH.cons rfl (fun K hK => ?_) AllReadyH.nil
              refine append_op Tryz.elemVals (.tmp 49) (.tmp 54) rfl W9.heap.size W3.heap.size (.slice (some ⟨g49, 0, none⟩) j c49) j (vals (d.take j)) rfl O3 g54 0 1 1 (V.cs ⟨xt, xn, xs⟩) rfl rfl L3.2.2 (fun u hu => vals_one [⟨xt, xn, xs⟩] u (by simpa [vals] using hu)) (by unfold maxLen; omega) (by omega) ?_
              intro v55 W4 O4 E4
              have B4 := B3.trans (E4.below O3)
              obtain ⟨g55, c55, rfl⟩ : ∃ g c, v55 = .slice (some ⟨g, 0, none⟩) (j + 1) c := by obtain ⟨g, c, e, _⟩ := O4; exact ⟨g, c, e⟩
              refine hK.out _ _ (S9.out _ B4) (fun hH => ?_)
              clear hK K E4
              refine wpAnyH_ready (rs := [14]) (by kernel_rfl) (by simp) ?_
              refine AllReadyH.cons rfl (fun K hK => ?_) AllReadyH.nil
              refine append_op Tryz.elemVals (.tmp 55) (.tmp 58) rfl W9.heap.size W4.heap.size (.slice (some ⟨g55, 0, none⟩) (j + 1) c55) (j + 1) (vals (d.take j) ++ V.cs ⟨xt, xn, xs⟩) rfl O4 g tl (m - j) (cp - j) (vals (d.drop j)) rfl HVL.out.2 (D9.out _ B4).2 (vals_one _) (by unfold maxLen; omega) (by omega) ?_
              intro v59 W5 O5 E5
              have B5 := B4.trans (E5.below O4)
              rw [HFIN.out.1, HFIN.out.2] at O5
              obtain ⟨g59, c59, rfl⟩ : ∃ g c, v59 = .slice (some ⟨g, 0, none⟩) (insV d ⟨xt, xn, xs⟩).length c := by obtain ⟨g, c, e, _⟩ := O5; exact ⟨g, c, e⟩
              refine hK.out _ _ (S9.out _ B5) (fun hH => ?_)
              clear hK K E5
              refine takeH (i := 15) (d := some 3) (v := .slice (some ⟨g59, 0, none⟩) (insV d ⟨xt, xn, xs⟩).length c59) rfl rfl (by kernel_rfl) (by kernel_rfl) (by kernel_rfl) (fun _ _ _ h => h) (Or.inl ⟨by rfl, fun W hSw => by go_simp⟩) hH ?_
              try simp only [put_some, List.set_cons_zero, List.set_cons_succ]
              have OF := Lib.hid O5
              have BF := Lib.hid B5
              clear O5 B5
              refine wpAnyH_done (by kernel_rfl) ?_ _
              go_wp2
              go_roundw
              case rel => exact ⟨k + 1, by omega, by go_num, by rw [HSK.out]; exact OF.out.lower (Nat.le_trans HBR.out.size B9.size), below_then HBR.out (below_then B9 BF.out B9.size) HBR.out.size⟩
              case measure => simp [intOf]; omega
          · skip
            go_simp
            have B1 := B0.alloc B0.size (.cells #[.int .i64 xt, .int .i64 xn, .string xs] 30)
            have L1 : Lit1 W9.heap.size _ _ _ := Lit1.new W0 ⟨xt, xn, xs⟩ 30 B0.size
            refine hK.out _ _ (S9.out _ B1) (fun hH => ?_)
            clear hK K
            generalize W0.heap.size = g54 at L1 ⊢
            generalize W0.alloc (.cells #[.int .i64 xt, .int .i64 xn, .string xs] 30) = W1 at B1 L1 hH ⊢
            refine wpAnyH_ready (rs := [0]) (by kernel_rfl) (by simp) ?_
            refine AllReadyH.cons rfl (fun K hK => ?_) AllReadyH.nil
            go_simp
            have B2 := B1.alloc B1.size (.cells #[] 30)
            have O2 := own_none (e := 30) (N := W9.heap.size) W1 B1.size
            have L2 := L1.alloc (.cells #[] 30)
            have N2 : Value.ownBlock (.slice (some ⟨W1.heap.size, 0, none⟩) 0 0) ≠ some g54 := by have := L1.2.1; simp only [Value.ownBlock, ne_eq, Option.some.injEq]; omega
            refine hK.out _ _ (S9.out _ B2) (fun hH => ?_)
            clear hK K
            generalize W1.heap.size = g45 at O2 L2 N2 ⊢
            generalize W1.alloc (.cells #[] 30) = W2 at B2 O2 L2 hH ⊢
            refine wpAnyH_ready (rs := [4]) (by kernel_rfl) (by simp) ?_
            refine AllReadyH.cons rfl (fun K hK => ?_) AllReadyH.nil
            refine append_op Tryz.elemVals (.tmp 45) (.tmp 48) rfl W9.heap.size W2.heap.size (.slice (some ⟨g45, 0, none⟩) 0 0) 0 [] rfl O2 g 0 j cp (vals (d.take j)) rfl HVL.out.1 (D9.out _ B2).1 (vals_one _) (by unfold maxLen; omega) (by omega) ?_
            intro v49 W3 O3 E3
            have B3 := B2.trans (E3.below O2)
            obtain ⟨L3, N3⟩ := L2.ext N2 E3
            rw [Nat.zero_add, List.nil_append] at O3
            obtain ⟨g49, c49, rfl⟩ : ∃ g c, v49 = .slice (some ⟨g, 0, none⟩) (j) c := by obtain ⟨g, c, e, _⟩ := O3; exact ⟨g, c, e⟩
            refine hK.out _ _ (S9.out _ B3) (fun hH => ?_)
            clear hK K E3
            refine wpAnyH_ready (rs := [10]) (by kernel_rfl) (by simp) ?_
            refine AllReadyH.cons rfl (fun K hK => ?_) AllReadyH.nil
            refine append_op Tryz.elemVals (.tmp 49) (.tmp 54) rfl W9.heap.size W3.heap.size (.slice (some ⟨g49, 0, none⟩) j c49) j (vals (d.take j)) rfl O3 g54 0 1 1 (V.cs ⟨xt, xn, xs⟩) rfl rfl L3.2.2 (fun u hu => vals_one [⟨xt, xn, xs⟩] u (by simpa [vals] using hu)) (by unfold maxLen; omega) (by omega) ?_
            intro v55 W4 O4 E4
            have B4 := B3.trans (E4.below O3)
            obtain ⟨g55, c55, rfl⟩ : ∃ g c, v55 = .slice (some ⟨g, 0, none⟩) (j + 1) c := by obtain ⟨g, c, e, _⟩ := O4; exact ⟨g, c, e⟩
            refine hK.out _ _ (S9.out _ B4) (fun hH => ?_)
            clear hK K E4
            refine wpAnyH_ready (rs := [14]) (by kernel_rfl) (by simp) ?_
            refine AllReadyH.cons rfl (fun K hK => ?_) AllReadyH.nil
            refine append_op Tryz.elemVals (.tmp 55) (.tmp 58) rfl W9.heap.size W4.heap.size (.slice (some ⟨g55, 0, none⟩) (j + 1) c55) (j + 1) (vals (d.take j) ++ V.cs ⟨xt, xn, xs⟩) rfl O4 g tl (m - j) (cp - j) (vals (d.drop j)) rfl HVL.out.2 (D9.out _ B4).2 (vals_one _) (by unfold maxLen; omega) (by omega) ?_
            intro v59 W5 O5 E5
            have B5 := B4.trans (E5.below O4)
            rw [HFIN.out.1, HFIN.out.2] at O5
            obtain ⟨g59, c59, rfl⟩ : ∃ g c, v59 = .slice (some ⟨g, 0, none⟩) (insV d ⟨xt, xn, xs⟩).length c := by obtain ⟨g, c, e, _⟩ := O5; exact ⟨g, c, e⟩
            refine hK.out _ _ (S9.out _ B5) (fun hH => ?_)
            clear hK K E5
            refine takeH (i := 15) (d := some 3) (v := .slice (some ⟨g59, 0, none⟩) (insV d ⟨xt, xn, xs⟩).length c59) rfl rfl (by kernel_rfl) (by kernel_rfl) (by kernel_rfl) (fun _ _ _ h => h) (Or.inl ⟨by rfl, fun W hSw => by go_simp⟩) hH ?_
            try simp only [put_some, List.set_cons_zero, List.set_cons_succ]
            have OF := Lib.hid O5
            have BF := Lib.hid B5
            clear O5 B5
            refine wpAnyH_done (by kernel_rfl) ?_ _
            go_wp2
            go_roundw
            case rel => exact ⟨k + 1, by omega, by go_num, by rw [HSK.out]; exact OF.out.lower (Nat.le_trans HBR.out.size B9.size), below_then HBR.out (below_then B9 BF.out B9.size) HBR.out.size⟩
            case measure => simp [intOf]; omega
    · obtain rfl : k = n := by omega
      rw [← HL.out, List.take_length] at hown
      go_wp2
      go_ret
      exact ⟨_, rfl, hown, hbr⟩

end Go.Proofs.YtoidpibdjijamaaGreat

/- The contract of the model's EncDict. -/
namespace Go.Proofs.YtoidpibdjijamaaGreat
open Go.RowKit

/-- EncDict. -/
def putAll (b : List Int) (d : List V) : List Int := d.foldl putV b
theorem putAll_snoc (b : List Int) (d : List V) (v : V) : putAll b (d ++ [v]) = putV (putAll b d) v := by simp [putAll]
theorem putAll_len (b : List Int) (d : List V) : (putAll b d).length ≤ b.length + 7 * d.length := by
  unfold putAll
  induction d generalizing b with
  | nil => simp
  | cons v d ih =>
    have h1 := ih (putV b v)
    have h2 := (putV_len b v).2
    simp only [List.foldl_cons, List.length_cons]
    omega
theorem putAll_bytes {b : List Int} (h : Num.Bytes b) (d : List V) : Num.Bytes (putAll b d) := by
  unfold putAll
  induction d generalizing b with
  | nil => exact h
  | cons v d ih => exact ih (putV_bytes h v)
def encD (l : List V) : List Int :=
  if typeV l = 0 then [] else putAll (Num.put [] (dictL l).length) (dictL l) ++ Bit.pack (placesL (dictL l) l).1 (Bit.widthI ((dictL l).length - 1))
theorem encD_bytes (l : List V) : Num.Bytes (encD l) := by
  unfold encD
  split
  · exact nil_bytes
  · exact bytes_append (putAll_bytes (Num.put_bytes nil_bytes _) _) (Bit.pack_bytes _ _)
theorem encD_len (l : List V) : (encD l).length ≤ 1024 := by
  unfold encD
  split
  · simp
  · rename_i h
    have h1 := typeV_len h
    have h2 := dict_len l
    have h3 := putAll_len (Num.put [] (dictL l).length) (dictL l)
    have h4 := Num.put_len [] ((dictL l).length : Int)
    have h5 := Bit.pack_le (placesL (dictL l) l).1 (Bit.widthI ((dictL l).length - 1))
    have h6 := places_len (dictL l) l
    simp only [List.length_append, List.length_nil] at *
    omega
theorem dict_all {l : List V} {p : V → Prop} (h : ∀ v ∈ l, p v) : ∀ v ∈ dictL l, p v := fun v hv => h v (mem_dict.1 hv)

set_option maxHeartbeats 2000000 in
theorem sEncDict (u : Value) (l : List V) (w : World) (hn : l.length ≤ 1048576) (hss : ∀ v ∈ l, v.s.size ≤ maxLen) (h : Rd 3 w u l.length (vals l)) :
    Calls Tryz.prog 26 #[u] w fun e w' => ∃ v', e = .returned v' ∧ Own 5 1 w.heap.size w'.heap.size w' v' (encD l).length (ints .u8 (encD l)) ∧ Below w.heap.size w w' := by
  have HE : Hid (encD l = if typeV l = 0 then [] else putAll (Num.put [] (dictL l).length) (dictL l) ++ Bit.pack (placesL (dictL l) l).1 (Bit.widthI ((dictL l).length - 1))) := rfl
  have HTL : Hid (¬ typeV l = 0 → l.length ≤ 64) := typeV_len
  have HT := Lib.hid (sTypeOf u l w hss h)
  have HD := Lib.hid (fun W (hW : Below w.heap.size w W) => sDict u l W hn (h.below hW))
  have HP := Lib.hid (fun x d W (hW : Below w.heap.size w W) (hx : Rd 3 W x d.length (vals d)) => sPlaces x u d l W hn hx (h.below hW))
  have HDL := Lib.hid (dict_len l)
  have HSD : Hid (∀ v ∈ dictL l, v.s.size ≤ maxLen) := dict_all hss
  generalize typeV l = ty at HE HTL HT
  generalize dictL l = d at HE HD HDL HSD
  clear hss h hn
  go_enter Tryz.func26, Tryz.ntmps26
  go_wp2_with fail
  refine HT.out.mono ?_
  rintro e w1 ⟨rfl, b1⟩
  clear HT
  by_cases ht : ty = 0
  · subst ht
    rw [if_pos rfl] at HE
    have O1 := own_lit (e := 5) (size := 1) w1 #[] 0 (Nat.zero_le _) rfl
    have B1 := b1.alloc b1.size (.cells #[] 5)
    have z1 := b1.size
    go_wp2
    go_ret
    rw [HE.out]
    exact ⟨_, rfl, O1.lower z1, B1⟩
  · have htb : (ty == 0) = false := by simpa using ht
    have h64 := HTL.out ht
    have hd64 : d.length ≤ 64 := Nat.le_trans HDL.out h64
    rw [if_neg ht] at HE
    clear ht HTL
    go_wp2_with fail
    refine (HD.out w1 b1).mono ?_
    rintro e w2 ⟨v2, rfl, o2, hb2⟩
    have b2 := below_then b1 hb2 b1.size
    replace o2 := o2.lower b1.size
    have HP2 := Lib.hid (HP.out v2 d w2 b2 o2.rd)
    clear hb2 HD htb b1
    go_wp2_with fail
    refine HP2.out.mono ?_
    rintro e w3 ⟨v3, rfl, o3, hb3⟩
    have b3 := below_then b2 hb3 b2.size
    have z3 := hb3.size
    replace o2 := o2.below hb3 (Nat.le_refl _)
    replace o3 := o3.lower b2.size
    clear hb3 HP2 HP
    generalize hp : (placesL d l).1 = p at o3 HE
    have HPL : Hid (p.length ≤ 64) := by
      show _ ≤ _
      rw [← hp]
      exact Nat.le_trans (places_len d l) h64
    clear hp h64
    have HDS : Hid (∀ k, k < d.length → putAll (Num.put [] d.length) (d.take (k + 1)) = putV (putAll (Num.put [] d.length) (d.take k)) (d.getD k V.zero)) := fun k hk => by
      rw [getDe d V.zero hk, List.take_succ_eq_append_getElem hk, putAll_snoc]
    have HDN : Hid (∀ k, k ≤ d.length → (putAll (Num.put [] d.length) (d.take k)).length ≤ 5 + 7 * k) := fun k hk => by
      have h1 := putAll_len (Num.put [] d.length) (d.take k)
      have h2 := Num.put_len [] (d.length : Int)
      have e : (d.take k).length = k := by simp; omega
      simp only [List.length_nil] at h2
      omega
    have HSS : Hid (∀ k, k < d.length → (d.getD k V.zero).s.size ≤ maxLen) := fun k hk => by
      rw [getDe d V.zero hk]
      exact HSD.out _ (List.getElem_mem hk)
    generalize hm : d.length = m at o2 HDS HDN HSS HE hd64
    have HM := Lib.hid hm
    obtain ⟨g2, cp2, rfl, hg1, hg2, hrow⟩ := o2
    have o2 : Own 30 3 w.heap.size w2.heap.size w3 (.slice (some ⟨g2, 0, none⟩) m cp2) m (vals d) := ⟨g2, cp2, rfl, hg1, hg2, hrow⟩
    clear hg1 hg2 hrow HDL HSD
    have O4 := own_lit (e := 5) (size := 1) w3 #[] 0 (Nat.zero_le _) rfl
    have hb4 := below_alloc w3 (.cells #[] 5)
    have HN := Lib.hid (sPutNum _ 0 [] (m : Int) _ (by omega) rfl O4.at)
    clear O4
    go_wp2_with fail
    refine HN.out.mono ?_
    rintro e w4 ⟨v4, rfl, o4, hb5⟩
    have hb6 := below_then hb4 hb5 hb4.size
    have b4 := below_then b3 hb6 b3.size
    have z4 := hb6.size
    replace o2 := o2.below hb6 z3
    replace o3 := o3.below hb6 (Nat.le_refl _)
    replace o4 := o4.lower (lo' := w.heap.size) (Nat.le_trans b3.size hb4.size)
    clear hb4 hb5 hb6 HN b3 b2
    obtain ⟨a', cap', e', _, HC⟩ := Rd.vals o2.rd hm
    simp only [Value.slice.injEq, true_and] at e'
    obtain ⟨rfl, rfl⟩ := e'
    clear hm
    have hput0 : Hid (putAll (Num.put [] m) (d.take 0) = Num.put [] m) := by
      show _ = _
      simp [putAll]
    rw [← hput0.out] at o4
    generalize hq0 : putAll (Num.put [] (m : Int)) = q at o4 HDS HDN HE
    clear hput0 hq0
    go_wp2
    go_loopw [6, 7] (fun o i wr => ∃ k : Nat, k ≤ m ∧ i = .int .i64 k ∧ Own 5 1 w.heap.size wr.heap.size wr o (q (d.take k)).length (ints .u8 (q (d.take k))) ∧ Below w4.heap.size w4 wr) (fun _ i _ => m - (intOf i).toNat)
    case atStart => exact ⟨0, Nat.zero_le _, rfl, o4, Below.refl _ _⟩
    case round =>
      obtain ⟨k, hk, rfl, hown, hbr⟩ := hrel
      by_cases hlt : k < m
      · obtain ⟨b, off, e', p0, p1, p2⟩ := HC.out k hlt
        simp only [Option.some.injEq, Addr.mk.injEq, and_true] at e'
        obtain ⟨rfl, rfl⟩ := e'
        have HSK := Lib.hid (HDS.out k hlt)
        have hel := HDN.out k hk
        have HP := Lib.hid (sPutVal _ (q (d.take k)).length (q (d.take k)) (d.getD k V.zero) wr (by omega) (HSS.out k hlt) rfl hown.at)
        rw [← HSK.out] at HP
        replace p0 := (hbr.cell (p := ⟨g2, 0 + k * 3, none⟩) (lt_of_cell p0)).trans p0
        replace p1 := (hbr.cell (p := ⟨g2, 0 + k * 3 + 1, none⟩) (lt_of_cell p1)).trans p1
        replace p2 := (hbr.cell (p := ⟨g2, 0 + k * 3 + 2, none⟩) (lt_of_cell p2)).trans p2
        generalize d.getD k V.zero = x at p0 p1 p2 HP
        obtain ⟨t1, n1, s1⟩ := x
        simp only [Nat.zero_add] at p0 p1 p2
        have z5 := hbr.size
        go_wp2_with fail
        refine HP.out.mono ?_
        rintro e w5 ⟨v5, rfl, o5, hb5⟩
        have B5 := below_then hbr hb5 hbr.size
        have O5 := Lib.hid (o5.lower (lo' := w.heap.size) (Nat.le_trans b4.size z5))
        clear o5 hb5 hbr hown HP p0 p1 p2
        go_wp2
        go_roundw
        case rel => exact ⟨k + 1, by omega, by go_num, O5.out, B5⟩
        case measure => simp [intOf]; omega
      · obtain rfl : k = m := by omega
        have hel := HDN.out k hk
        have hqd : Hid (d.take k = d) := by show _ = _; rw [← HM.out, List.take_length]
        rw [hqd.out] at hown hel
        replace o3 := o3.below hbr z4
        have b5 := below_then b4 hbr b4.size
        have z5 := hbr.size
        have HWD := Lib.hid (fun W => sWidthOf ((k : Int) - 1) W)
        generalize Bit.widthI ((k : Int) - 1) = wd at HWD HE
        have HPK := Lib.hid (sPackBits v3 p.length p (wd : Int) wr (by have := HPL.out; omega) rfl (.inr o3.at))
        have hpk : (Bit.pack p wd).length ≤ 256 := by
          have h1 := Bit.pack_le p wd
          have h2 := HPL.out
          omega
        generalize Bit.pack p (wd : Int) = pk at HPK HE hpk
        have HES : Hid (ints .u8 (q d) ++ ints .u8 pk = ints .u8 (encD l) ∧ (q d).length + pk.length = (encD l).length) := by
          rw [HE.out]
          exact ⟨(ints_append _ _ _).symm, (List.length_append).symm⟩
        clear hqd
        generalize hqn : (q d).length = qn at hown hel HES
        clear hqn
        generalize hpn : pk.length = pn at HPK HES hpk
        clear o3 hbr
        go_wp2_with (first | (go_at_call 35; refine (HWD.out _).mono ?_; rintro e w' ⟨rfl, rfl⟩) | fail)
        refine HPK.out.mono ?_
        rintro e w6 ⟨v6, rfl, o6, hb6⟩
        have b6 := below_then b5 hb6 b5.size
        replace hown := (hown.below hb6 (Nat.le_refl _)).wide hb6.size
        obtain ⟨g6, off6, cp6, rfl, hn6, hc6, hl6, hcs6⟩ := o6.at
        have HL6 := Lib.hid hl6
        have HC6 := Lib.hid hcs6
        clear hl6 hcs6 o6 hb6
        go_wp2_with (at_builtin; refine append_law Tryz.elemBytes rfl _ _ rfl _ _ _ _ _ rfl hown g6 off6 pn cp6 (ints .u8 pk) rfl HL6.out HC6.out (ints_one _ _) (by unfold maxLen; omega) (by omega) ?_)
        intro v7 w7 o7 e7
        have b7 := b6.trans (e7.below hown)
        rw [HES.out.1, HES.out.2] at o7
        have O7 := Lib.hid o7
        clear o7 e7 hown
        go_wp2
        go_ret
        exact ⟨_, rfl, O7.out, b7⟩

end Go.Proofs.YtoidpibdjijamaaGreat

/- The contract of the model's DecDict. -/
namespace Go.Proofs.YtoidpibdjijamaaGreat
open Go.RowKit

theorem get_bound {zs : List Int} (hb : Num.Bytes zs) {i : Int} (h : (Num.get zs i).2.2 = true) : 0 ≤ (Num.get zs i).2.1 ∧ (Num.get zs i).2.1 ≤ zs.length := by
  unfold Num.get at h ⊢
  split
  · rename_i hi
    rw [if_pos hi] at h
    split
    · rename_i u k hr
      have hbd : Num.Bytes (zs.drop i.toNat) := fun x hx => hb x (List.mem_of_mem_drop hx)
      have := Num.rd_bd hr hbd (by omega)
      have hl : (zs.drop i.toNat).length = zs.length - i.toNat := List.length_drop
      split
      · simp only
        omega
      · rename_i hu
        rw [hr] at h
        simp only [if_neg hu] at h
        cases h
    · rename_i hr
      rw [hr] at h
      cases h
  · rename_i hi
    rw [if_neg hi] at h
    cases h
theorem getV_bound {zs : List Int} (hb : Num.Bytes zs) {i ty : Int} (h : (getV zs i ty).2.2 = true) : 0 ≤ (getV zs i ty).2.1 ∧ (getV zs i ty).2.1 ≤ zs.length := by
  unfold getV at h ⊢
  split
  · rename_i ht
    rw [if_pos ht] at h
    split
    · rename_i hg
      exact get_bound hb hg
    · rename_i hg
      rw [if_neg hg] at h
      cases h
  · rename_i ht
    rw [if_neg ht] at h
    split
    · rename_i hc
      rw [if_pos hc] at h
      have hi := Num.inB_true.1 hc.2
      unfold getT at h ⊢
      split
      · rename_i hg
        have hlt : i.toNat < zs.length := by omega
        have hm := hb (zs.getD i.toNat 0) (by rw [getDe zs 0 hlt]; exact List.getElem_mem hlt)
        have := hg.1
        simp only
        omega
      · rename_i hg
        rw [if_neg hg] at h
        cases h
    · rename_i hc
      rw [if_neg hc] at h
      cases h

/-- DecDict, behind the values of the dictionary. -/
def decT (zs : List Int) (k : Int) (d : List V) (i : Int) : List V × Bool :=
  if (Bit.unpack (zs.drop i.toNat) (Bit.widthI ((d.length : Int) - 1)) k).2 = true ∧ (pickedL d (Bit.unpack (zs.drop i.toNat) (Bit.widthI ((d.length : Int) - 1)) k).1).2 = true ∧ encD (pickedL d (Bit.unpack (zs.drop i.toNat) (Bit.widthI ((d.length : Int) - 1)) k).1).1 = zs
  then ((pickedL d (Bit.unpack (zs.drop i.toNat) (Bit.widthI ((d.length : Int) - 1)) k).1).1, true) else ([], false)
/-- DecDict. -/
def decD (zs : List Int) (ty k : Int) : List V × Bool :=
  if (Num.get zs 0).2.2 = true ∧ Num.inB k 1 64 = true ∧ Num.inB (Num.get zs 0).1 1 k = true then
    (match decL zs ty (Num.get zs 0).1.toNat (Num.get zs 0).2.1 with
      | some r => decT zs k r.1 r.2
      | none => ([], false))
  else ([], false)
theorem decT_len (zs : List Int) (k : Int) (d : List V) (i : Int) : (decT zs k d i).1.length ≤ 64 := by
  unfold decT
  split
  · exact Nat.le_trans (picked_len _ _) (Bit.unpack_le _ _ _)
  · simp
theorem decD_len (zs : List Int) (ty k : Int) : (decD zs ty k).1.length ≤ 64 := by
  unfold decD
  split
  · split
    · exact decT_len _ _ _ _
    · simp
  · simp
theorem picked_all {d : List V} {p : List Int} {q : V → Prop} (h : ∀ v ∈ d, q v) : ∀ v ∈ (pickedL d p).1, q v := by
  unfold pickedL
  split
  · rename_i ha
    intro v hv
    obtain ⟨x, hx, rfl⟩ := List.mem_map.1 hv
    have h2 := of_decide_eq_true (List.all_eq_true.1 ha x hx)
    have hlt : x.toNat < d.length := by omega
    rw [getDe d V.zero hlt]
    exact h _ (List.getElem_mem hlt)
  · simp
theorem decL_size {zs : List Int} {ty : Int} : ∀ {n : Nat} {i : Int} {r : List V × Int}, decL zs ty n i = some r → ∀ u ∈ r.1, u.s.size ≤ maxLen := by
  intro n
  induction n with
  | zero =>
    intro i r h u hu
    simp only [decL, Option.some.injEq] at h
    subst h
    cases hu
  | succ n ih =>
    intro i r h u hu
    rw [decL] at h
    split at h
    · obtain ⟨q, hq, rfl⟩ := Option.map_eq_some_iff.1 h
      rcases List.mem_cons.1 hu with rfl | hu
      · exact getV_size _ _ _
      · exact ih hq u hu
    · cases h
theorem At.from {w : World} {b off n cap A tl : Nat} {zs : List Int} (hz : zs.length = n) (h : At 1 w (.slice (some ⟨b, off, none⟩) n cap) n (ints .u8 zs)) (hA : A ≤ n) (ht : A < cap → tl = off + A) : At 1 w (.slice (some ⟨b, tl, none⟩) (n - A) (cap - A)) (n - A) (ints .u8 (zs.drop A)) := by
  obtain ⟨b', off', cap', e, h1, h2, h3, h4⟩ := h
  simp only [Value.slice.injEq, Option.some.injEq, Addr.mk.injEq, and_true, true_and] at e
  obtain ⟨⟨rfl, rfl⟩, rfl⟩ := e
  refine ⟨_, _, _, rfl, by omega, by omega, ?_, fun j u hu => ?_⟩
  · rw [ints_len, List.length_drop, hz, Nat.mul_one]
  · have hlt := (List.getElem?_eq_some_iff.1 hu).1
    rw [ints_len, List.length_drop] at hlt
    have e2 : ints .u8 (zs.drop A) = (ints .u8 zs).drop A := by unfold ints; rw [List.map_drop]
    rw [e2, List.getElem?_drop] at hu
    have := h4 (A + j) u hu
    rw [ht (by omega), Nat.add_assoc]
    exact this
theorem tail_at (cap A b off : Nat) : ∃ tl, (if cap = A then some (⟨b, off, none⟩ : Addr) else some ⟨b, off + A, none⟩) = some ⟨b, tl, none⟩ ∧ Hid (A < cap → tl = off + A) := by
  by_cases e : cap = A
  · exact ⟨off, by rw [if_pos e], fun h => by omega⟩
  · exact ⟨off + A, by rw [if_neg e], fun _ => rfl⟩

set_option maxRecDepth 100000 in
set_option maxHeartbeats 4000000 in
theorem sDecDict (u : Value) (n : Nat) (zs : List Int) (ty k : Int) (w : World) (hn : n ≤ 1073741824) (hz : zs.length = n) (hby : Num.Bytes zs) (h : At 1 w u n (ints .u8 zs)) :
    Calls Tryz.prog 7 #[u, .int .i64 ty, .int .i64 k] w fun e w' => RDs w w' e (decD zs ty k) := by
  obtain ⟨W1, hW1⟩ : ∃ W1, w.alloc (.cells #[] 30) = W1 := ⟨_, rfl⟩
  have hs1 : W1.heap.size = w.heap.size + 1 := by rw [← hW1]; simp
  have hN : Own 30 3 w.heap.size W1.heap.size W1 (.slice (some ⟨w.heap.size, 0, none⟩) 0 0) 0 [] := by
    rw [← hW1]
    exact own_lit (e := 30) (size := 3) w #[] 0 (Nat.zero_le _) rfl
  have hb0 : Below w.heap.size w W1 := by rw [← hW1]; exact below_alloc w _
  have hat1 := h.below hb0
  have HG0 := Lib.hid (sGetNum u n zs 0 W1 (by omega) hz hby hat1)
  have HV := Lib.hid (fun i W (hW : Below W1.heap.size W1 W) => sGetVal u n zs i ty W hn hz hby (hat1.below hW))
  have HIK := Lib.hid (fun W => l1In k 1 64 W)
  have HEX : Hid (decD zs ty k = if (Num.get zs 0).2.2 = true ∧ Num.inB k 1 64 = true ∧ Num.inB (Num.get zs 0).1 1 k = true then (match decL zs ty (Num.get zs 0).1.toNat (Num.get zs 0).2.1 with | some r => decT zs k r.1 r.2 | none => ([], false)) else ([], false)) := rfl
  have HFIN : Hid (∀ e w', RDs w w' e ([], false) → decD zs ty k = ([], false) → RDs w w' e (decD zs ty k)) := fun e w' h1 h2 => by rw [h2]; exact h1
  have HB : Hid (∀ i, (getV zs i ty).2.2 = true → 0 ≤ (getV zs i ty).2.1 ∧ (getV zs i ty).2.1 ≤ n) := fun i hi => by
    rw [← hz]
    exact getV_bound hby hi
  obtain ⟨b, off, cap, rfl, hcn, hcm, _, _⟩ := id h
  generalize hg : Num.get zs 0 = g0 at HG0 HEX
  obtain ⟨x0, nx0, ok0⟩ := g0
  unfold getRes at HG0
  simp only at HG0 HEX
  have HIN := Lib.hid (fun W => l1In x0 1 k W)
  have HNO : Hid (∀ W, Below W1.heap.size W1 W → RDs w W (.returned (.tuple #[.slice (some ⟨w.heap.size, 0, none⟩) 0 0, .bool false])) ([], false)) := fun W hW => ⟨_, rfl, (hN.below hW (Nat.le_refl _)).wide hW.size, below_then hb0 hW hb0.size⟩
  clear hg
  by_cases hc : ok0 = true ∧ Num.inB k 1 64 = true ∧ Num.inB x0 1 k = true
  · obtain ⟨rfl, hk, hx⟩ := hc
    rw [if_pos ⟨rfl, hk, hx⟩] at HEX
    rw [hk] at HIK
    rw [hx] at HIN
    obtain ⟨k0, k1⟩ := Num.inB_true.1 hk
    obtain ⟨n0, n1⟩ := Num.inB_true.1 hx
    obtain ⟨N, rfl⟩ := Int.eq_ofNat_of_zero_le (show 0 ≤ x0 by omega)
    rw [Int.toNat_natCast] at HEX
    have hR0 := own_lit (e := 30) (size := 3) W1 #[] 0 (Nat.zero_le _) rfl
    have hbR := below_alloc W1 (.cells #[] 30)
    rw [hs1] at hR0
    have HD0 : Hid (decL zs ty N nx0 = (decL zs ty (N - 0) nx0).map fun r => ([] ++ r.1, r.2)) := by
      show _ = _
      simp
    have HST : Hid (∀ (j : Nat) (i : Int) (pre : List V), j < N → decL zs ty N nx0 = (decL zs ty (N - j) i).map (fun r => (pre ++ r.1, r.2)) → if (getV zs i ty).2.2 = true then decL zs ty N nx0 = (decL zs ty (N - (j + 1)) (getV zs i ty).2.1).map (fun r => ((pre ++ [(getV zs i ty).1]) ++ r.1, r.2)) else decL zs ty N nx0 = none) := fun j i pre hj hd => by
      rw [show N - j = (N - (j + 1)) + 1 by omega, decL] at hd
      split
      · rename_i hg
        rw [if_pos hg] at hd
        rw [hd, Option.map_map]
        congr 1
        funext r
        simp
      · rename_i hg
        rw [if_neg hg] at hd
        rw [hd]
        rfl
    have HFN : Hid (∀ (i : Int) (pre : List V), decL zs ty N nx0 = (decL zs ty (N - N) i).map (fun r => (pre ++ r.1, r.2)) → decL zs ty N nx0 = some (pre, i)) := fun i pre hd => by
      rw [hd, Nat.sub_self]
      simp [decL]
    have HNONE : Hid (decL zs ty N nx0 = none → decD zs ty k = ([], false)) := fun hd => by rw [HEX.out, hd]
    clear hk hx
    go_enter Tryz.func7, Tryz.ntmps7
    go_wp2_with (first | (go_at_call 31; refine HG0.out.mono ?_; rintro e w' ⟨rfl, rfl⟩) | (go_at_call 32; refine (HIK.out _).mono ?_; clear HIK; rintro e w' ⟨rfl, rfl⟩) | (go_at_call 32; refine (HIN.out _).mono ?_; rintro e w' ⟨rfl, rfl⟩))
    go_loopw [10, 12, 13] (fun p o i wr => ∃ (j : Nat) (q : Int) (pre : List V), j ≤ N ∧ i = .int .i64 j ∧ p = .int .i64 q ∧ pre.length = j ∧ (0 < j → 0 ≤ q ∧ q ≤ n) ∧ decL zs ty N nx0 = (decL zs ty (N - j) q).map (fun r => (pre ++ r.1, r.2)) ∧ Own 30 3 (w.heap.size + 1) wr.heap.size wr o pre.length (vals pre) ∧ Below W1.heap.size W1 wr) (fun _ _ i _ => N - (intOf i).toNat)
    case atStart => exact ⟨0, nx0, [], Nat.zero_le _, rfl, rfl, rfl, fun h => by omega, HD0.out, hR0, hbR⟩
    case round =>
      obtain ⟨j, q, pre, hj, rfl, rfl, hpl, hqb, hd, hown, hbr⟩ := hrel
      have HQB := Lib.hid hqb
      clear hqb
      by_cases hlt : j < N
      · have HSJ := Lib.hid (HST.out j q pre hlt hd)
        have HPL := Lib.hid hpl
        clear hd
        have HVJ := Lib.hid (HV.out q wr hbr)
        have HBJ := Lib.hid (HB.out q)
        generalize getV zs q ty = r at HSJ HVJ HBJ
        obtain ⟨⟨xt, xn, xs⟩, nx, ok⟩ := r
        unfold rGet at HVJ
        simp only at HSJ HVJ HBJ
        have HVA : Hid (vals pre ++ V.cs ⟨xt, xn, xs⟩ = vals (pre ++ [(⟨xt, xn, xs⟩ : V)])) := by
          show _ = _
          simp [vals]
        have HLN : Hid ((pre ++ [(⟨xt, xn, xs⟩ : V)]).length = pre.length + 1) := by
          show _ = _
          simp
        have hcl : pre.length ≤ 64 := by omega
        clear hpl
        generalize hcc : pre.length = c at hown HLN hcl HPL
        have HCC := Lib.hid hcc
        clear hcc
        go_wp2_with fail
        refine HVJ.out.mono ?_
        rintro e w2 ⟨rfl, hb2⟩
        have own2 := hown.below hb2 (Nat.le_refl _)
        have b2 := below_then hbr hb2 hbr.size
        have z2 := hb2.size
        clear hown hb2 HVJ
        cases ok with
        | true =>
          have HS2 : Hid (decL zs ty N nx0 = (decL zs ty (N - (j + 1)) nx).map (fun r => ((pre ++ [(⟨xt, xn, xs⟩ : V)]) ++ r.1, r.2))) := by
            have hd := HSJ.out
            rw [if_pos rfl] at hd
            exact hd
          have HNX := Lib.hid (HBJ.out rfl)
          have own3 := (own2.alloc (.cells #[.int .i64 xt, .int .i64 xn, .string xs] 30)).wide (hi' := (w2.alloc (.cells #[.int .i64 xt, .int .i64 xn, .string xs] 30)).heap.size) (by simp; omega)
          have b3 := b2.alloc b2.size (.cells #[.int .i64 xt, .int .i64 xn, .string xs] 30)
          clear own2 HSJ HBJ
          go_wp2_with (at_builtin; refine appendV_law Tryz.elemVals rfl _ _ rfl _ _ _ _ _ ⟨xt, xn, xs⟩ rfl own3 (by show Value.slice (some ⟨w2.heap.size + 1, 0, none⟩) 1 1 = _; rw [World.size_alloc]) (by unfold maxLen; omega) (by omega) ?_)
          intro v4 w4 o4 e4
          have b4 := b3.trans ((e4.below own3).mono (by omega))
          rw [HVA.out] at o4
          have O4 := Lib.hid o4
          clear o4 e4 own3
          go_wp2
          go_roundw
          case rel => exact ⟨j + 1, nx, pre ++ [⟨xt, xn, xs⟩], by omega, by go_num, rfl, by rw [HLN.out, HPL.out], fun _ => HNX.out, HS2.out, by rw [HLN.out]; exact O4.out, b4⟩
          case measure => simp [intOf]; omega
        | false =>
          have HF : Hid (decD zs ty k = ([], false)) := by
            show _ = _
            have hd := HSJ.out
            rw [if_neg (by simp)] at hd
            exact HNONE.out hd
          have b3 := b2.alloc b2.size (.cells #[.int .i64 xt, .int .i64 xn, .string xs] 30)
          have HR := Lib.hid (HNO.out _ b3)
          clear own2 HSJ HBJ
          go_wp2
          go_ret2
          exact HFIN.out _ _ HR.out HF.out
      · obtain rfl : j = N := by omega
        have hdn := HFN.out q pre hd
        have HU := Lib.hid (decL_size hdn)
        rw [hdn] at HEX
        dsimp only at HEX HU
        obtain ⟨q0, q1⟩ := HQB.out (by omega)
        obtain ⟨A, rfl⟩ := Int.eq_ofNat_of_zero_le q0
        have hAn : A ≤ n := by omega
        have hcn' : n ≤ cap := hcn
        unfold decT at HEX
        rw [hpl, Int.toNat_natCast] at HEX
        obtain ⟨tl, htl, HTL⟩ := tail_at cap A b off
        have hatr := hat1.below hbr
        have HWD := Lib.hid (fun W => sWidthOf ((j : Int) - 1) W)
        generalize Bit.widthI ((j : Int) - 1) = wd at HWD HEX
        have HUN := Lib.hid (fun W (hW : Below wr.heap.size wr W) => sUnpackBits _ (n - A) (zs.drop A) (wd : Int) k W (by omega) (by rw [List.length_drop, hz]) (fun x hx => hby x (List.mem_of_mem_drop hx)) (.inr (At.from hz (hatr.below hW) hAn HTL.out)))
        have hun64 := Bit.unpack_le (zs.drop A) wd k
        generalize Bit.unpack (zs.drop A) (wd : Int) k = up at HUN HEX hun64
        clear hd hdn HST HFN HNONE HD0 q0 q1 HQB
        rw [hpl] at hown
        have HPLN := Lib.hid hpl
        clear hpl
        obtain ⟨ga, cga, rfl, hga1, hga2, hrow⟩ := hown
        have hown : Own 30 3 (w.heap.size + 1) wr.heap.size wr (.slice (some ⟨ga, 0, none⟩) j cga) j (vals pre) := ⟨ga, cga, rfl, hga1, hga2, hrow⟩
        have HOWN := Lib.hid hown
        clear hown hga1 hga2 hrow hcn hcm
        have hB' := (Below.refl wr.heap.size wr).drew
        have hwj : IntKind.i64.wrap ((j : Int) - 1) = (j : Int) - 1 := IntWalk.i64_in _ (by omega)
        obtain ⟨p, may⟩ := up
        simp only at HEX hun64
        go_wp2
        refine wp_region_held_drew (S := fun _ => True) (by kernel_rfl) trivial (fun hH => ?_)
        refine takeH (i := 0) (d := some 65) (v := .slice (some ⟨b, off, none⟩) n cap) rfl rfl (by kernel_rfl) (by kernel_rfl) (by kernel_rfl) (fun _ _ _ h => h) (Or.inl ⟨by rfl, fun W hSw => by go_simp⟩) hH ?_
        try simp only [put_some, List.set_cons_zero, List.set_cons_succ]
        refine takeH (i := 1) (d := some 66) (v := .int .i64 (A : Int)) rfl rfl (by kernel_rfl) (by kernel_rfl) (by kernel_rfl) (fun _ _ _ h => h) (Or.inl ⟨by rfl, fun W hSw => by go_simp⟩) hH ?_
        try simp only [put_some, List.set_cons_zero, List.set_cons_succ]
        refine takeH (i := 2) (d := some 67) (v := .slice (some ⟨b, tl, none⟩) (n - A) (cap - A)) rfl rfl (by kernel_rfl) (by kernel_rfl) (by kernel_rfl) (fun _ _ _ h => h) (Or.inl ⟨by rfl, fun W hSw => by go_simp⟩) hH ?_
        try simp only [put_some, List.set_cons_zero, List.set_cons_succ]
        refine takeH (i := 3) (d := some 68) (v := .int .i64 (j : Int)) rfl rfl (by kernel_rfl) (by kernel_rfl) (by kernel_rfl) (fun _ _ _ h => h) (Or.inl ⟨by rfl, fun W hSw => by go_simp⟩) hH ?_
        try simp only [put_some, List.set_cons_zero, List.set_cons_succ]
        refine takeH (i := 4) (d := some 69) (v := .int .i64 ((j : Int) - 1)) rfl rfl (by kernel_rfl) (by kernel_rfl) (by kernel_rfl) (fun _ _ _ h => h) (Or.inl ⟨by rfl, fun W hSw => by go_simp⟩) hH ?_
        try simp only [put_some, List.set_cons_zero, List.set_cons_succ]
        refine takeH (i := 6) (d := some 71) (v := .int .i64 k) rfl rfl (by kernel_rfl) (by kernel_rfl) (by kernel_rfl) (fun _ _ _ h => h) (Or.inl ⟨by rfl, fun W hSw => by go_simp⟩) hH ?_
        try simp only [put_some, List.set_cons_zero, List.set_cons_succ]
        refine wpAnyH_ready (rs := [5]) (by kernel_rfl) (by simp) ?_
        refine AllReadyH.cons rfl (fun K hK => ?_) AllReadyH.nil
        go_simp
        go_at_call 35
        refine (HWD.out _).mono ?_
        rintro e w' ⟨rfl, rfl⟩
        go_wp2_with fail
        refine hK.out _ _ trivial (fun hH => ?_)
        clear hK K
        refine wpAnyH_ready (rs := [7]) (by kernel_rfl) (by simp) ?_
        refine AllReadyH.cons rfl (fun K hK => ?_) AllReadyH.nil
        go_simp
        go_at_call 34
        refine (HUN.out _ hB').mono ?_
        rintro e w2 ⟨v2, rfl, o2, hb2⟩
        simp only at o2
        have b2 := below_then hB' hb2 hB'.size
        have bz := Lib.hid b2
        clear hb2 hB' htl hwj HWD
        go_wp2_with fail
        refine hK.out _ _ trivial (fun hH => ?_)
        clear hK K
        refine takeH (i := 8) (d := some 64) (v := .tuple #[v2, .bool may]) rfl rfl (by kernel_rfl) (by kernel_rfl) (by kernel_rfl) (fun _ _ _ h => h) (Or.inl ⟨by rfl, fun W hSw => by go_simp⟩) hH ?_
        try simp only [put_some, List.set_cons_zero, List.set_cons_succ]
        refine takeH (i := 9) (d := some 73) (v := v2) rfl rfl (by kernel_rfl) (by kernel_rfl) (by kernel_rfl) (fun _ _ _ h => h) (Or.inl ⟨by rfl, fun W hSw => by go_simp⟩) hH ?_
        try simp only [put_some, List.set_cons_zero, List.set_cons_succ]
        refine takeH (i := 10) (d := some 74) (v := .bool may) rfl rfl (by kernel_rfl) (by kernel_rfl) (by kernel_rfl) (fun _ _ _ h => h) (Or.inl ⟨by rfl, fun W hSw => by go_simp⟩) hH ?_
        try simp only [put_some, List.set_cons_zero, List.set_cons_succ]
        refine takeH (i := 11) (d := some 17) (v := v2) rfl rfl (by kernel_rfl) (by kernel_rfl) (by kernel_rfl) (fun _ _ _ h => h) (Or.inl ⟨by rfl, fun W hSw => by go_simp⟩) hH ?_
        try simp only [put_some, List.set_cons_zero, List.set_cons_succ]
        refine takeH (i := 12) (d := some 18) (v := .bool may) rfl rfl (by kernel_rfl) (by kernel_rfl) (by kernel_rfl) (fun _ _ _ h => h) (Or.inl ⟨by rfl, fun W hSw => by go_simp⟩) hH ?_
        try simp only [put_some, List.set_cons_zero, List.set_cons_succ]
        refine wpAnyH_done (by kernel_rfl) ?_ _
        have HPK := Lib.hid (sPicked (.slice (some ⟨ga, 0, none⟩) j cga) v2 pre p w2 (by omega) (by rw [HPLN.out]; exact (HOWN.out.below b2 (Nat.le_refl _)).rd) o2.rd)
        have HLS := Lib.hid (picked_all (p := p) (q := fun v => v.s.size ≤ maxLen) HU.out)
        have hl64 := Nat.le_trans (picked_len pre p) hun64
        generalize pickedL pre p = pc at HPK HLS hl64 HEX
        obtain ⟨l, can⟩ := pc
        unfold RDs at HPK
        simp only at HPK HLS hl64 HEX
        have B2 := below_then hbr b2 hbr.size
        have hzr := Nat.le_trans hbr.size b2.size
        clear o2 b2
        go_wp2_with fail
        refine HPK.out.mono ?_
        rintro e w3 ⟨v3, rfl, o3, hb3⟩
        have b3 := below_then B2 hb3 B2.size
        have HOL := Lib.hid (o3.lower (show w.heap.size ≤ w2.heap.size by omega))
        have O3 := Lib.hid o3
        have HEN := Lib.hid (sEncDict v3 l w3 (by omega) HLS.out o3.rd)
        clear hb3 HPK o3
        by_cases hmc : may = true ∧ can = true
        · obtain ⟨rfl, rfl⟩ := hmc
          go_wp2_with fail
          refine HEN.out.mono ?_
          rintro e w4 ⟨v4, rfl, o4, hb4⟩
          have b4 := below_then b3 hb4 b3.size
          have OL4 := Lib.hid ((HOL.out.below hb4 (Nat.le_refl _)).wide hb4.size)
          have HSM := Lib.hid (l5Same v4 _ (encD l).length n (encD l) zs w4 rfl hz (encD_bytes l) hby o4.at (hat1.below b4))
          clear HEN hb4 HOL o4 O3
          by_cases hen : encD l = zs
          · rw [decide_eq_true hen] at HSM
            have HF : Hid (decD zs ty k = (l, true)) := by
              show _ = _
              rw [HEX.out]
              exact if_pos (by first | exact ⟨trivial, trivial, hen⟩ | exact ⟨rfl, rfl, hen⟩)
            go_wp2_with (go_at_call 36; refine HSM.out.mono ?_; rintro e w' ⟨rfl, rfl⟩)
            go_ret2
            rw [HF.out]
            exact ⟨_, rfl, OL4.out, below_then hb0 b4 hb0.size⟩
          · rw [decide_eq_false hen] at HSM
            have HF : Hid (decD zs ty k = ([], false)) := by
              show _ = _
              rw [HEX.out]
              exact if_neg (fun h => hen h.2.2)
            have HR := Lib.hid (HNO.out _ b4)
            go_wp2_with (go_at_call 36; refine HSM.out.mono ?_; rintro e w' ⟨rfl, rfl⟩)
            go_ret2
            exact HFIN.out _ _ HR.out HF.out
        · have HF : Hid (decD zs ty k = ([], false)) := by
            show _ = _
            rw [HEX.out]
            exact if_neg (fun h => hmc ⟨h.1, h.2.1⟩)
          have HR := Lib.hid (HNO.out _ b3)
          clear HEN HOL O3
          cases may with
          | false =>
            go_wp2
            go_ret2
            exact HFIN.out _ _ HR.out HF.out
          | true =>
            cases can with
            | true => exact absurd ⟨rfl, rfl⟩ hmc
            | false =>
              go_wp2
              go_ret2
              exact HFIN.out _ _ HR.out HF.out
  · have HF : Hid (decD zs ty k = ([], false)) := by
      show _ = _
      rw [HEX.out]
      exact if_neg hc
    have HR := Lib.hid (HNO.out _ (Below.refl _ _))
    have HRW : Hid (w.alloc (.cells #[] 30) = W1) := hW1
    clear hat1 HV hN hb0 hz hby h
    cases ok0 with
    | false =>
      go_enter Tryz.func7, Tryz.ntmps7
      go_wp2_with (first | (go_at_call 31; refine HG0.out.mono ?_; rintro e w' ⟨rfl, rfl⟩))
      go_ret2
      exact HFIN.out _ _ HR.out HF.out
    | true =>
      cases hk : Num.inB k 1 64 with
      | false =>
        rw [hk] at HIK
        clear hk hc
        go_enter Tryz.func7, Tryz.ntmps7
        go_wp2_with (first | (go_at_call 31; refine HG0.out.mono ?_; rintro e w' ⟨rfl, rfl⟩) | (go_at_call 32; refine (HIK.out _).mono ?_; clear HIK; rintro e w' ⟨rfl, rfl⟩))
        go_ret2
        exact HFIN.out _ _ HR.out HF.out
      | true =>
        cases hx : Num.inB x0 1 k with
        | true => exact absurd ⟨rfl, hk, hx⟩ hc
        | false =>
          rw [hk] at HIK
          rw [hx] at HIN
          clear hk hx hc
          go_enter Tryz.func7, Tryz.ntmps7
          go_wp2_with (first | (go_at_call 31; refine HG0.out.mono ?_; rintro e w' ⟨rfl, rfl⟩) | (go_at_call 32; refine (HIK.out _).mono ?_; clear HIK; rintro e w' ⟨rfl, rfl⟩) | (go_at_call 32; refine (HIN.out _).mono ?_; rintro e w' ⟨rfl, rfl⟩))
          go_ret2
          exact HFIN.out _ _ HR.out HF.out

end Go.Proofs.YtoidpibdjijamaaGreat

/- The contract of bytes.Equal, as the program calls it. -/
namespace Go.Proofs.YtoidpibdjijamaaGreat
open Go.RowKit

theorem set_same {α : Type} {l : List α} {i : Nat} {x : α} (h : l[i]? = some x) : l.set i x = l := by
  apply List.ext_getElem?
  intro j
  rw [List.getElem?_set]
  split
  · rename_i e
    subst e
    rw [h]
    split
    · rfl
    · rename_i hl
      rw [List.getElem?_eq_none (by omega)] at h
      cases h
  · rfl
theorem bytesEqual (u v : Value) (n m : Nat) (xs ys : List Int) (w : World) (hxl : xs.length = n) (hyl : ys.length = m) (hx : Num.Bytes xs) (hy : Num.Bytes ys) (h1 : At 1 w u n (ints .u8 xs)) (h2 : At 1 w v m (ints .u8 ys)) :
    Calls Tryz.prog 30 #[u, v] w fun e w' => e = .returned (.bool (decide (xs = ys))) ∧ w = w' := by
  have k1 := conv_at hxl h1
  have k2 := conv_at hyl h2
  have HX : Hid (((strOfNums xs).toList == (strOfNums ys).toList) = decide (xs = ys)) := by
    show _ = _
    by_cases he : xs = ys
    · subst he
      simp
    · rw [bstr_ne (fun h => he (strOfNums_inj hx hy h)), decide_eq_false he]
  obtain ⟨b1, o1, c1, rfl, _, _, _, _⟩ := h1
  obtain ⟨b2, o2, c2, rfl, _, _, _, _⟩ := h2
  generalize strOfNums xs = s1 at k1 HX
  generalize strOfNums ys = s2 at k2 HX
  generalize decide (xs = ys) = q at HX
  clear hx hy hxl hyl
  go_enter Tryz.func30, Tryz.ntmps30
  go_wp2
  go_ret
  exact ⟨ret_bool HX.out, rfl⟩
theorem putNum_puts {zs : List Int} {x : Int} (h : Num.ok x) : Num.put zs x = Num.puts zs [x] := by
  rw [Num.puts_one, Num.put_ok h]

end Go.Proofs.YtoidpibdjijamaaGreat
