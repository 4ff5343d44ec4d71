/- Texts of this claim, one behind the other: S5g, S5e, S7, L5S, S7d, S7e, S7g, Law5b, Law7, M5, I5b, I5c, I5d, I7, IEq. -/
import Derived.Test.YtoidpibdjijamaaG14
import Derived.Test.YtoidpibdjijamaaG8
import Derived.Test.YtoidpibdjijamaaG5
import Derived.Test.YtoidpibdjijamaaOpLaw
import Derived.Laws.BytesArg
import Derived.Test.YtoidpibdjijamaaS5p
import Derived.Test.YtoidpibdjijamaaG4

/- The contract of the model's GetVal. -/
namespace Go.Proofs.Ytoidpibdjijamaa
open Go.RowKit

/-- GetVal. -/
def getT (zs : List Int) (i : Nat) : V × Int × Bool :=
  if (zs.getD i 0) ≤ (zs.length : Int) - i - 1 ∧ okV ⟨2, 0, strOfNums ((zs.drop (i + 1)).take (zs.getD i 0).toNat)⟩ = true then (⟨2, 0, strOfNums ((zs.drop (i + 1)).take (zs.getD i 0).toNat)⟩, (i : Int) + 1 + zs.getD i 0, true) else (V.zero, 0, false)
def getV (zs : List Int) (i ty : Int) : V × Int × Bool :=
  if ty = 1 then (if (Num.get zs i).2.2 = true then (⟨1, (Num.get zs i).1, ⟨#[]⟩⟩, (Num.get zs i).2.1, true) else (V.zero, 0, false))
  else if ty = 2 ∧ Num.inB i 0 ((zs.length : Int) - 1) = true then getT zs i.toNat else (V.zero, 0, false)
/-- What GetVal returns. -/
def rGet (r : V × Int × Bool) : Value := .tuple #[r.1.agg, .int .i64 r.2.1, .bool r.2.2]

set_option maxRecDepth 100000 in
set_option maxHeartbeats 2000000 in
theorem sGetVal (v : Value) (n : Nat) (zs : List Int) (i ty : Int) (w : World) (hn : n ≤ 1073741824) (hz : zs.length = n) (hby : Num.Bytes zs) (h : At 1 w v n (ints .u8 zs)) :
    Calls Try.prog 68 #[v, .int .i64 i, .int .i64 ty] w fun e w' => e = .returned (rGet (getV zs i ty)) ∧ Below w.heap.size w w' := by
  have Z0 := held_new w V.zero 37
  have B0 := below_alloc w (.cells #[.int .i64 0, .int .i64 0, .string ⟨#[]⟩] 37)
  simp only [V.zero] at Z0
  have HG := Lib.hid (sGetNum v n zs i (w.alloc (.cells #[.int .i64 0, .int .i64 0, .string ⟨#[]⟩] 37)) (by omega) hz hby (h.below B0))
  have HZ := Lib.hid hz
  obtain ⟨⟨p0, p1, p2⟩, p3, p4, p5⟩ := id Z0
  simp only at p0 p1 p2
  by_cases ht : ty = 1
  · subst ht
    have HE : Hid (getV zs i 1 = if (Num.get zs i).2.2 = true then (⟨1, (Num.get zs i).1, ⟨#[]⟩⟩, (Num.get zs i).2.1, true) else (V.zero, 0, false)) := if_pos rfl
    obtain ⟨b, off, cap, rfl, _, _, _, _⟩ := h
    generalize Num.get zs i = r at HG HE
    obtain ⟨x, nx, ok⟩ := r
    unfold getRes at HG
    simp only at HG HE
    clear hz hby
    cases ok with
    | false =>
      rw [if_neg (by simp)] at HE
      rw [HE.out]
      go_enter Try.func68, Try.ntmps68
      go_wp2_with (go_at_call 67; refine HG.out.mono ?_; rintro e w' ⟨rfl, rfl⟩)
      exact bodyPost_ret (v := .tuple #[.agg #[.int .i64 0, .int .i64 0, .string ⟨#[]⟩], .int .i64 0, .bool false]) (by simp [results, Try.results68, go_sem, *]) rfl ⟨rfl, below_alloc _ _⟩
    | true =>
      rw [if_pos rfl] at HE
      rw [HE.out]
      go_enter Try.func68, Try.ntmps68
      go_wp2_with (go_at_call 67; refine HG.out.mono ?_; rintro e w' ⟨rfl, rfl⟩)
      exact bodyPost_ret (v := .tuple #[.agg #[.int .i64 1, .int .i64 x, .string ⟨#[]⟩], .int .i64 nx, .bool true]) (by simp [results, Try.results68, go_sem, *]) rfl ⟨rfl, below_alloc _ _⟩
  have htb : (ty == 1) = false := by simpa using ht
  by_cases h2 : ty = 2
  · subst h2
    have HI := Lib.hid (fun W => l1In i 0 ((n : Int) - 1) W)
    have HE : Hid (getV zs i 2 = if Num.inB i 0 ((n : Int) - 1) = true then getT zs i.toNat else (V.zero, 0, false)) := by
      show _ = _
      unfold getV
      rw [if_neg (by decide), hz]
      simp
    obtain ⟨b, off, cap, rfl, hnc, hcm, _, hc⟩ := h
    unfold maxLen at hcm
    cases hin : Num.inB i 0 ((n : Int) - 1) with
    | false =>
      rw [hin] at HI
      rw [hin, if_neg (by simp)] at HE
      rw [HE.out]
      clear hz hby hc hin HG
      go_enter Try.func68, Try.ntmps68
      go_wp2_with (go_at_call 66; refine (HI.out _).mono ?_; rintro e w' ⟨rfl, rfl⟩)
      exact bodyPost_ret (v := .tuple #[.agg #[.int .i64 0, .int .i64 0, .string ⟨#[]⟩], .int .i64 0, .bool false]) (by simp [results, Try.results68, go_sem, *]) rfl ⟨rfl, below_alloc _ _⟩
    | true =>
      obtain ⟨i0, i1⟩ := Num.inB_true.1 hin
      rw [hin] at HI
      rw [hin, if_pos rfl] at HE
      obtain ⟨I, rfl⟩ := Int.eq_ofNat_of_zero_le i0
      have hI : I < n := by omega
      rw [Int.toNat_natCast] at HE
      have hcI := At.cell (k := .u8) (n := n) hc hz hI
      have hbI := hby _ (getD_mem (by omega : I < zs.length))
      have HT : Hid (getT zs I = if (zs.getD I 0) ≤ (n : Int) - I - 1 ∧ okV ⟨2, 0, strOfNums ((zs.drop (I + 1)).take (zs.getD I 0).toNat)⟩ = true then (⟨2, 0, strOfNums ((zs.drop (I + 1)).take (zs.getD I 0).toNat)⟩, (I : Int) + 1 + zs.getD I 0, true) else (V.zero, 0, false)) := by
        show _ = _
        unfold getT
        rw [hz]
      have HCV : Hid (∀ (C : Nat), zs.getD I 0 = (C : Int) → I + 1 + C ≤ n → ∀ (W : World) (cp : Nat), Below w.heap.size w W → (convert 22 9 (.slice (some ⟨b, off + (I + 1), none⟩) C cp)).run Try.prog W = .ok (.string (strOfNums ((zs.drop (I + 1)).take C))) W) := fun C hC hle W cp hW => by
        refine run_convert_bytes_arg W 22 5 Try.underlying22 Try.underlying5 b (off + (I + 1)) C cp ((zs.drop (I + 1)).take C) (by simp; omega) (fun j hj => ?_) 9 Try.underlying9
        have hjn : I + 1 + j < n := by omega
        have := At.cell (k := .u8) (n := n) hc hz hjn
        have e : ((zs.drop (I + 1)).take C).getD j 0 = zs.getD (I + 1 + j) 0 := by
          simp [hj]
        rw [e, ← this, hW.cell (p := ⟨b, off + (I + 1) + j, none⟩) (by have := lt_of_cell this; simpa using this), show off + (I + 1) + j = off + (I + 1 + j) by omega]
      replace hcI := (B0.cell (p := ⟨b, off + I, none⟩) (lt_of_cell hcI)).trans hcI
      generalize zs.getD I 0 = c at hcI hbI HT HCV
      obtain ⟨c0, c1⟩ := hbI
      obtain ⟨C, rfl⟩ := Int.eq_ofNat_of_zero_le c0
      rw [Int.toNat_natCast] at HT
      clear hin hby hc hz i0 c0 HG
      by_cases hk : (C : Int) ≤ (n : Int) - I - 1
      · have HCW := Lib.hid (fun W cp hW => HCV.out C rfl (by omega) W cp hW)
        have HSS : Hid ((strOfNums ((zs.drop (I + 1)).take C)).size ≤ maxLen) := by
          show _ ≤ _
          rw [strOfNums_size]
          unfold maxLen
          simp
          omega
        have HC0 : Hid (cap = I + 1 → ∀ (W : World) (o cp : Nat), (convert 22 9 (.slice (some ⟨b, o, none⟩) 0 cp)).run Try.prog W = .ok (.string (strOfNums ((zs.drop (I + 1)).take C))) W) := fun hcap W o cp => by
          obtain rfl : C = 0 := by omega
          exact run_convert_bytes_arg W 22 5 Try.underlying22 Try.underlying5 b o 0 cp ((zs.drop (I + 1)).take 0) (by simp) (fun j hj => by omega) 9 Try.underlying9
        generalize strOfNums ((zs.drop (I + 1)).take C) = s at HT HCW HSS HC0
        have HO := Lib.hid (fun W => sValOk ⟨2, 0, s⟩ W HSS.out)
        have hgt : ¬ ((n : Int) - I - 1 < (C : Int)) := by omega
        have Z1 := Z0.below (below_alloc _ (.cells #[.int .i64 2, .int .i64 0, .string s] 37))
        have Z2 := held_new (w.alloc (.cells #[.int .i64 0, .int .i64 0, .string ⟨#[]⟩] 37)) ⟨2, 0, s⟩ 37
        have BB := below_alloc2 w (.cells #[.int .i64 0, .int .i64 0, .string ⟨#[]⟩] 37) (.cells #[.int .i64 2, .int .i64 0, .string s] 37)
        rw [World.size_alloc] at Z2
        clear p0 p1 p2 p3 p4 p5
        by_cases hcap : cap = I + 1
        · have hcv := HC0.out hcap
          obtain rfl : C = 0 := by omega
          go_enter Try.func68, Try.ntmps68
          go_wp2_with (go_at_call 66; refine (HI.out _).mono ?_; rintro e w' ⟨rfl, rfl⟩)
          refine (HO.out _).mono ?_
          rintro e w2 ⟨rfl, hb2⟩
          have B2 := below_then BB hb2 BB.size
          obtain ⟨⟨p0, p1, p2⟩, p3, p4, p5⟩ := Z1.below hb2
          obtain ⟨⟨q0, q1, q2⟩, q3, q4, q5⟩ := Z2.below hb2
          simp only at p0 p1 p2 q0 q1 q2
          clear hb2 Z1 Z2 hcv hcI
          cases hok : okV ⟨2, 0, s⟩ with
          | false =>
            rw [if_neg (fun h => by rw [hok] at h; cases h.2)] at HT
            clear hok
            go_wp2
            exact bodyPost_ret (v := .tuple #[.agg #[.int .i64 0, .int .i64 0, .string ⟨#[]⟩], .int .i64 0, .bool false]) (by simp [results, Try.results68, go_sem, *]) rfl ⟨by rw [HE.out, HT.out]; simp [rGet, V.zero], ((B2.setCell (by simp) _).setCell (by simp) _).setCell (by simp) _⟩
          | true =>
            rw [if_pos ⟨hk, hok⟩] at HT
            clear hok
            go_wp2
            exact bodyPost_ret (v := .tuple #[.agg #[.int .i64 2, .int .i64 0, .string s], .int .i64 ((I : Int) + 1), .bool true]) (by simp [results, Try.results68, go_sem, *]) rfl ⟨by rw [HE.out, HT.out]; simp [rGet], ((B2.setCell (by simp) _).setCell (by simp) _).setCell (by simp) _⟩
        · have hcv := HCW.out (w.alloc (.cells #[.int .i64 0, .int .i64 0, .string ⟨#[]⟩] 37)) (cap - (I + 1)) B0
          go_enter Try.func68, Try.ntmps68
          go_wp2_with (go_at_call 66; refine (HI.out _).mono ?_; rintro e w' ⟨rfl, rfl⟩)
          refine (HO.out _).mono ?_
          rintro e w2 ⟨rfl, hb2⟩
          have B2 := below_then BB hb2 BB.size
          obtain ⟨⟨p0, p1, p2⟩, p3, p4, p5⟩ := Z1.below hb2
          obtain ⟨⟨q0, q1, q2⟩, q3, q4, q5⟩ := Z2.below hb2
          simp only at p0 p1 p2 q0 q1 q2
          clear hb2 Z1 Z2 hcv hcI
          cases hok : okV ⟨2, 0, s⟩ with
          | false =>
            rw [if_neg (fun h => by rw [hok] at h; cases h.2)] at HT
            clear hok
            go_wp2
            exact bodyPost_ret (v := .tuple #[.agg #[.int .i64 0, .int .i64 0, .string ⟨#[]⟩], .int .i64 0, .bool false]) (by simp [results, Try.results68, go_sem, *]) rfl ⟨by rw [HE.out, HT.out]; rfl, ((B2.setCell (by simp) _).setCell (by simp) _).setCell (by simp) _⟩
          | true =>
            rw [if_pos ⟨hk, hok⟩] at HT
            clear hok
            go_wp2
            exact bodyPost_ret (v := .tuple #[.agg #[.int .i64 2, .int .i64 0, .string s], .int .i64 ((I : Int) + 1 + C), .bool true]) (by simp [results, Try.results68, go_sem, *]) rfl ⟨by rw [HE.out, HT.out]; rfl, ((B2.setCell (by simp) _).setCell (by simp) _).setCell (by simp) _⟩
      · rw [if_neg (fun h => hk h.1)] at HT
        rw [HE.out, HT.out]
        have hgt : (n : Int) - I - 1 < (C : Int) := by omega
        clear HCV
        go_enter Try.func68, Try.ntmps68
        go_wp2_with (go_at_call 66; refine (HI.out _).mono ?_; rintro e w' ⟨rfl, rfl⟩)
        exact bodyPost_ret (v := .tuple #[.agg #[.int .i64 0, .int .i64 0, .string ⟨#[]⟩], .int .i64 0, .bool false]) (by simp [results, Try.results68, go_sem, *]) rfl ⟨rfl, below_alloc _ _⟩
  · have HE : Hid (getV zs i ty = (V.zero, 0, false)) := by
      show _ = _
      unfold getV
      rw [if_neg ht, if_neg (fun h => h2 h.1)]
    have h2b : (ty != 2) = true := by simpa using h2
    obtain ⟨b, off, cap, rfl, _, _, _, _⟩ := h
    rw [HE.out]
    clear HG hz hby
    go_enter Try.func68, Try.ntmps68
    go_wp2
    exact bodyPost_ret (v := .tuple #[.agg #[.int .i64 0, .int .i64 0, .string ⟨#[]⟩], .int .i64 0, .bool false]) (by simp [results, Try.results68, go_sem, *]) rfl ⟨rfl, below_alloc _ _⟩

end Go.Proofs.Ytoidpibdjijamaa

/- The contracts of the model's EncPlain and DecPlain. -/
namespace Go.Proofs.Ytoidpibdjijamaa
open Go.RowKit

/-- EncPlain. -/
def encAll (l : List V) : List Int := l.foldl putV []
def encP (l : List V) : List Int := if typeV l = 0 then [] else encAll l
theorem encAll_snoc (l : List V) (v : V) : encAll (l ++ [v]) = putV (encAll l) v := by simp [encAll]
theorem encAll_len (l : List V) : (encAll l).length ≤ 7 * l.length := by
  have : ∀ (l : List V) (b : List Int), (l.foldl putV b).length ≤ b.length + 7 * l.length := by
    intro l
    induction l with
    | nil => intro b; simp
    | cons v l ih =>
      intro b
      have h1 := ih (putV b v)
      have h2 := (putV_len b v).2
      simp only [List.foldl_cons, List.length_cons]
      omega
  have := this l []
  simpa [encAll] using this
theorem typeV_len {l : List V} (h : ¬ typeV l = 0) : l.length ≤ 64 := by
  unfold typeV at h
  split at h
  · rename_i h2
    have := Num.inB_true.1 h2.1
    omega
  · exact absurd rfl h

/-- DecPlain. -/
def decL (zs : List Int) (ty : Int) : Nat → Int → Option (List V × Int)
  | 0, i => some ([], i)
  | k + 1, i => if (getV zs i ty).2.2 = true then (decL zs ty k (getV zs i ty).2.1).map fun r => ((getV zs i ty).1 :: r.1, r.2) else none
def decP (zs : List Int) (ty k : Int) : List V × Bool :=
  if Num.inB k 1 64 = true then (match decL zs ty k.toNat 0 with | some r => if r.2 = zs.length then (r.1, true) else ([], false) | none => ([], false)) else ([], false)
/-- What DecPlain returns. -/
def RDs (w w' : World) (e : Ending) (r : List V × Bool) : Prop := ∃ v', e = .returned (.tuple #[v', .bool r.2]) ∧ Own 37 3 w.heap.size w'.heap.size w' v' r.1.length (vals r.1) ∧ Below w.heap.size w w'

end Go.Proofs.Ytoidpibdjijamaa

/- The contracts of the model's InDict, Places, Picked. -/
namespace Go.Proofs.Ytoidpibdjijamaa
open Go.RowKit

set_option maxHeartbeats 1000000 in
theorem sInDict (u : Value) (d : List V) (x : V) (w : World) (h : Rd 3 w u d.length (vals d)) :
    Calls Try.prog 29 #[u, x.agg] w fun e w' => e = .returned (.int .i64 (inI d x)) ∧ Below w.heap.size w w' := by
  generalize hl : d.length = n at h
  obtain ⟨a, cap, rfl, hm, HC⟩ := h.vals hl
  unfold maxLen at hm
  have HL := Lib.hid hl
  have HE : Hid (∀ i, i < n → (d.getD i V.zero).eqB x = true → (∀ j, j < i → (d.getD j V.zero).eqB x = false) → inI d x = i) := fun i hi h1 h2 => inI_some (inD_first (by omega) h1 h2)
  have HN : Hid ((∀ j, j < n → (d.getD j V.zero).eqB x = false) → inI d x = -1) := fun h1 => inI_none (inD_none.2 (fun j hj => h1 j (by omega)))
  have hx0 := held_new w x 37
  have hb0 := below_alloc w (.cells #[.int .i64 x.ty, .int .i64 x.n, .string x.s] 37)
  generalize inI d x = r at HE HN
  obtain ⟨xt, xn, xs⟩ := x
  clear h hl
  go_enter Try.func29, Try.ntmps29
  go_wp2
  generalize hW : w.alloc (.cells #[.int .i64 xt, .int .i64 xn, .string xs] 37) = W at hx0 hb0 ⊢
  have HW := Lib.hid hW
  clear hW
  go_loopw [5] (fun i wr => ∃ k : Nat, k ≤ n ∧ i = .int .i64 k ∧ (∀ j, j < k → (d.getD j V.zero).eqB ⟨xt, xn, xs⟩ = false) ∧ Below W.heap.size W wr) (fun i _ => n - (intOf i).toNat)
  case atStart => exact ⟨0, Nat.zero_le _, rfl, fun j hj => by omega, Below.refl _ _⟩
  case round =>
    obtain ⟨k, hk, rfl, hno, hbr⟩ := hrel
    have HNO := Lib.hid hno
    clear hno
    by_cases hlt : k < n
    · obtain ⟨b, off, rfl, p0, p1, p2⟩ := HC.out k hlt
      have hbr2 := hb0.trans (hbr.mono hb0.size)
      replace p0 := (hbr2.cell (p := ⟨b, off + k * 3, none⟩) (lt_of_cell p0)).trans p0
      replace p1 := (hbr2.cell (p := ⟨b, off + k * 3 + 1, none⟩) (lt_of_cell p1)).trans p1
      replace p2 := (hbr2.cell (p := ⟨b, off + k * 3 + 2, none⟩) (lt_of_cell p2)).trans p2
      obtain ⟨⟨q0, q1, q2⟩, _⟩ := hx0.below hbr
      have HEK := Lib.hid (HE.out k hlt)
      have HNK : Hid ((d.getD k V.zero).eqB ⟨xt, xn, xs⟩ = false → ∀ j, j < k + 1 → (d.getD j V.zero).eqB ⟨xt, xn, xs⟩ = false) := fun h1 j hj => by
        by_cases e : j = k
        · subst e; exact h1
        · exact HNO.out j (by omega)
      have hq := fun W => run_eql_val (d.getD k V.zero) ⟨xt, xn, xs⟩ W
      generalize d.getD k V.zero = y at p0 p1 p2 HEK HNK hq
      cases he : y.eqB ⟨xt, xn, xs⟩ with
      | true =>
        have HR := Lib.hid (HEK.out he HNO.out)
        rw [he] at hq
        obtain ⟨t1, n1, s1⟩ := y
        have HB := Lib.hid hbr2
        clear he HEK HNK hx0 hb0 hbr hbr2
        simp only at q0 q1 q2
        go_wp2
        go_quiet (fail)
        go_wp2
        go_ret
        exact ⟨ret_int HR.out.symm, HB.out.trans (below_drewN _ _ _)⟩
      | false =>
        have HS := Lib.hid (HNK.out he)
        rw [he] at hq
        obtain ⟨t1, n1, s1⟩ := y
        clear he HEK HNK hx0 hb0
        simp only at q0 q1 q2
        go_wp2
        go_quiet (fail)
        go_wp2
        go_roundw
        case rel => exact ⟨k + 1, by omega, by go_num, HS.out, hbr.trans (below_drewN _ _ _)⟩
        case measure => simp [intOf]; omega
    · obtain rfl : k = n := by omega
      have HR := Lib.hid (HN.out HNO.out)
      have hbr2 := hb0.trans (hbr.mono hb0.size)
      go_wp2
      go_ret
      exact ⟨ret_int HR.out.symm, hbr2⟩

theorem map_snoc {α β : Type} (f : α → β) (l : List α) (z : α) (k : Nat) (h : k < l.length) : (l.take (k + 1)).map f = (l.take k).map f ++ [f (l.getD k z)] := by
  rw [List.take_succ_eq_append_getElem h, List.map_append, getDe l z h]
  rfl
/-- The places of the first k values; what is picked at the first k places. -/
def plK (d l : List V) (k : Nat) : List Int := (l.take k).map (inI d)
def pkK (d : List V) (l : List Int) (k : Nat) : List V := (l.take k).map (fun x => d.getD x.toNat V.zero)
theorem inI_neg {d : List V} {v : V} (h : inI d v < 0) : inD d v = none := by
  cases e : inD d v with
  | none => rfl
  | some i => rw [inI_some e] at h; omega
theorem inI_pos {d : List V} {v : V} (h : ¬ inI d v < 0) : (inD d v).isSome = true := by
  cases e : inD d v with
  | none => rw [inI_none e] at h; omega
  | some i => rfl

set_option maxHeartbeats 1000000 in
theorem sPlaces (u v : Value) (d l : List V) (w : World) (hn : l.length ≤ 1048576) (hd : Rd 3 w u d.length (vals d)) (h : Rd 3 w v l.length (vals l)) :
    Calls Try.prog 32 #[u, v] w (Unpacked w (placesL d l)) := by
  have hown0 := own_lit (e := 3) (size := 1) w #[] 0 (Nat.zero_le _) rfl
  have hb0 := below_alloc w (.cells #[] 3)
  have HD := Lib.hid (fun x W (hW : Below w.heap.size w W) => sInDict u d x W (hd.below hW))
  generalize hl : l.length = n at h hn
  obtain ⟨a, cap, rfl, hm, HC⟩ := h.vals hl
  unfold maxLen at hm
  have HL := Lib.hid hl
  have HNO : Hid (∀ k, k < n → inI d (l.getD k V.zero) < 0 → placesL d l = ([], false)) := fun k hk h1 => places_no (by omega) (inI_neg h1)
  have HYES : Hid ((∀ k, k < n → 0 ≤ inI d (l.getD k V.zero)) → placesL d l = (l.map (inI d), true)) := fun h1 => places_yes (fun k hk => inI_pos (by have := h1 k (by omega); omega))
  have HS : Hid (∀ k, k < n → ints .i64 (plK d l (k + 1)) = ints .i64 (plK d l k) ++ [.int .i64 (inI d (l.getD k V.zero))]) := fun k hk => by
    unfold plK
    rw [map_snoc _ _ V.zero _ (by omega), ints_append]
    rfl
  have HTL : Hid (∀ k, k ≤ n → (plK d l k).length = k) := fun k hk => by simp [plK]; omega
  generalize placesL d l = R at HNO HYES
  clear h hl hd
  go_enter Try.func32, Try.ntmps32
  go_wp2
  go_loopw [6, 7] (fun o i wr => ∃ k : Nat, k ≤ n ∧ i = .int .i64 k ∧ (∀ j, j < k → 0 ≤ inI d (l.getD j V.zero)) ∧ Own 3 1 w.heap.size wr.heap.size wr o k (ints .i64 (plK d l k)) ∧ Below w.heap.size w wr) (fun _ i _ => n - (intOf i).toNat)
  case atStart => exact ⟨0, Nat.zero_le _, rfl, fun j hj => by omega, hown0, hb0⟩
  case round =>
    obtain ⟨k, hk, rfl, hno, hown, hbr⟩ := hrel
    have HK := Lib.hid hno
    clear hno
    by_cases hlt : k < n
    · obtain ⟨b, off, rfl, p0, p1, p2⟩ := HC.out k hlt
      replace p0 := (hbr.cell (p := ⟨b, off + k * 3, none⟩) (lt_of_cell p0)).trans p0
      replace p1 := (hbr.cell (p := ⟨b, off + k * 3 + 1, none⟩) (lt_of_cell p1)).trans p1
      replace p2 := (hbr.cell (p := ⟨b, off + k * 3 + 2, none⟩) (lt_of_cell p2)).trans p2
      have HX := Lib.hid (HD.out (l.getD k V.zero) wr hbr)
      have HSK := Lib.hid (HS.out k hlt)
      have HNK := Lib.hid (HNO.out k hlt)
      have HKK : Hid (0 ≤ inI d (l.getD k V.zero) → ∀ j, j < k + 1 → 0 ≤ inI d (l.getD j V.zero)) := fun h1 j hj => by
        by_cases e : j = k
        · subst e; exact h1
        · exact HK.out j (by omega)
      generalize inI d (l.getD k V.zero) = z at HX HSK HNK HKK
      generalize l.getD k V.zero = y at p0 p1 p2 HX
      obtain ⟨t1, n1, s1⟩ := y
      simp only at p0 p1 p2
      go_wp2_with fail
      refine HX.out.mono ?_
      rintro e w2 ⟨rfl, hb2⟩
      have B2 := below_then hbr hb2 hbr.size
      have z2 := hb2.size
      have O2 := hown.below hb2 (Nat.le_refl _)
      clear hb2 hown HX p0 p1 p2 hbr
      by_cases hz : z < 0
      · have HR := Lib.hid (HNK.out hz)
        have OL := own_lit (e := 3) (size := 1) w2 #[] 0 (Nat.zero_le _) rfl
        have BL := B2.alloc B2.size (.cells #[] 3)
        have hzz := B2.size
        clear O2
        go_wp2
        go_ret2
        rw [HR.out]
        exact ⟨_, rfl, OL.lower hzz, BL⟩
      · have HK2 := Lib.hid (HKK.out (by omega))
        have O3 := O2.wide z2
        clear O2
        go_wp2_with (at_builtin; refine append1_law Try.elemInts rfl _ _ rfl _ _ _ _ _ (.int .i64 z) rfl rfl O3 rfl (by unfold maxLen; omega) (by omega) ?_)
        intro v4 w4 o4 e4
        have b4 := B2.trans (e4.below O3)
        rw [← HSK.out] at o4
        have O4 := Lib.hid o4
        clear o4 e4 O3
        go_wp2
        go_roundw
        case rel => exact ⟨k + 1, by omega, by go_num, HK2.out, O4.out, b4⟩
        case measure => simp [intOf]; omega
    · obtain rfl : k = n := by omega
      have HR := Lib.hid (HYES.out HK.out)
      have OO := Lib.hid hown
      clear hown
      go_wp2
      go_ret2
      rw [HR.out]
      exact ⟨_, rfl, by have := OO.out; unfold plK at this; rw [← HL.out, List.take_length] at this; rw [List.length_map]; exact this, hbr⟩

set_option maxHeartbeats 1000000 in
theorem sPicked (u v : Value) (d : List V) (l : List Int) (w : World) (hn : l.length ≤ 1048576) (hd : Rd 3 w u d.length (vals d)) (h : Rd 1 w v l.length (ints .i64 l)) :
    Calls Try.prog 36 #[u, v] w fun e w' => RDs w w' e (pickedL d l) := by
  have hown0 := own_lit (e := 37) (size := 3) w #[] 0 (Nat.zero_le _) rfl
  have hb0 := below_alloc w (.cells #[] 37)
  have HI := Lib.hid (fun x m W => l1In x 0 m W)
  generalize hdl : d.length = m at hd
  obtain ⟨da, dcap, rfl, hdm, HDC⟩ := hd.vals hdl
  generalize hl : l.length = n at h hn
  obtain ⟨a, cap, rfl, hm, HC⟩ := h.ints hl
  unfold maxLen at hm hdm
  have HL := Lib.hid hl
  have HPB : Hid (∀ x : Int, pickB d x = Num.inB x 0 ((m : Int) - 1)) := fun x => by
    cases e : Num.inB x 0 ((m : Int) - 1) with
    | true =>
      have := Num.inB_true.1 e
      exact decide_eq_true ⟨this.1, by omega⟩
    | false =>
      refine decide_eq_false fun h2 => ?_
      rw [Num.inB_true.2 ⟨h2.1, by omega⟩] at e
      cases e
  have HNO : Hid (∀ k, k < n → pickB d (l.getD k 0) = false → pickedL d l = ([], false)) := fun k hk h1 => picked_no (by omega) h1
  have HYES : Hid ((∀ k, k < n → pickB d (l.getD k 0) = true) → pickedL d l = (l.map (fun x => d.getD x.toNat V.zero), true)) := fun h1 => picked_yes (fun k hk => h1 k (by omega))
  have HS : Hid (∀ k, k < n → vals (pkK d l (k + 1)) = vals (pkK d l k) ++ V.cs (d.getD (l.getD k 0).toNat V.zero)) := fun k hk => by
    unfold pkK
    rw [map_snoc _ _ 0 _ (by omega)]
    simp [vals]
  generalize pickedL d l = R at HNO HYES
  clear h hl hd hdl
  go_enter Try.func36, Try.ntmps36
  go_wp2
  go_loopw [6, 7] (fun o i wr => ∃ k : Nat, k ≤ n ∧ i = .int .i64 k ∧ (∀ j, j < k → pickB d (l.getD j 0) = true) ∧ Own 37 3 w.heap.size wr.heap.size wr o k (vals (pkK d l k)) ∧ Below w.heap.size w wr) (fun _ i _ => n - (intOf i).toNat)
  case atStart => exact ⟨0, Nat.zero_le _, rfl, fun j hj => by omega, hown0, hb0⟩
  case round =>
    obtain ⟨k, hk, rfl, hno, hown, hbr⟩ := hrel
    have HK := Lib.hid hno
    clear hno
    by_cases hlt : k < n
    · obtain ⟨b, off, rfl, p0⟩ := HC.out k hlt
      replace p0 := (hbr.cell (p := ⟨b, off + k, none⟩) (lt_of_cell p0)).trans p0
      have HX := Lib.hid (HI.out (l.getD k 0) ((m : Int) - 1) wr)
      have HSK := Lib.hid (HS.out k hlt)
      have HNK := Lib.hid (HNO.out k hlt)
      have HKK : Hid (pickB d (l.getD k 0) = true → ∀ j, j < k + 1 → pickB d (l.getD j 0) = true) := fun h1 j hj => by
        by_cases e : j = k
        · subst e; exact h1
        · exact HK.out j (by omega)
      rw [HPB.out] at HNK HKK
      generalize l.getD k 0 = z at p0 HX HSK HNK HKK
      cases hz : Num.inB z 0 ((m : Int) - 1) with
      | false =>
        have HR := Lib.hid (HNK.out hz)
        have OL := own_lit (e := 37) (size := 3) wr #[] 0 (Nat.zero_le _) rfl
        have BL := hbr.alloc hbr.size (.cells #[] 37)
        have hzz := hbr.size
        rw [hz] at HX
        clear hown hz
        go_wp2_with (go_at_call 66; refine HX.out.mono ?_; rintro e w' ⟨rfl, rfl⟩)
        go_ret2
        rw [HR.out]
        exact ⟨_, rfl, OL.lower hzz, BL⟩
      | true =>
        have HK2 := Lib.hid (HKK.out hz)
        obtain ⟨z0, z1⟩ := Num.inB_true.1 hz
        obtain ⟨K, rfl⟩ := Int.eq_ofNat_of_zero_le z0
        have hKm : K < m := by omega
        obtain ⟨db, doff, rfl, d0, d1, d2⟩ := HDC.out K hKm
        replace d0 := (hbr.cell (p := ⟨db, doff + K * 3, none⟩) (lt_of_cell d0)).trans d0
        replace d1 := (hbr.cell (p := ⟨db, doff + K * 3 + 1, none⟩) (lt_of_cell d1)).trans d1
        replace d2 := (hbr.cell (p := ⟨db, doff + K * 3 + 2, none⟩) (lt_of_cell d2)).trans d2
        rw [Int.toNat_natCast] at HSK
        generalize d.getD K V.zero = y at d0 d1 d2 HSK
        obtain ⟨t1, n1, s1⟩ := y
        simp only at d0 d1 d2
        rw [hz] at HX
        clear hz z0 z1
        go_wp2_with (first | (go_at_call 66; refine HX.out.mono ?_; rintro e w' ⟨rfl, rfl⟩) | (at_builtin; refine appendV_law Try.elemVals rfl _ _ rfl _ _ _ _ _ ⟨t1, n1, s1⟩ rfl hown rfl (by unfold maxLen; omega) (by omega) ?_))
        intro v4 w4 o4 e4
        have b4 := hbr.trans (e4.below hown)
        rw [← HSK.out] at o4
        have O4 := Lib.hid o4
        clear o4 e4 hown d0 d1 d2 p0
        go_wp2
        go_roundw
        case rel => exact ⟨k + 1, by omega, by go_num, HK2.out, O4.out, b4⟩
        case measure => simp [intOf]; omega
    · obtain rfl : k = n := by omega
      have HR := Lib.hid (HYES.out HK.out)
      have OO := Lib.hid hown
      clear hown
      go_wp2
      go_ret2
      rw [HR.out]
      exact ⟨_, rfl, by have := OO.out; unfold pkK at this; rw [← HL.out, List.take_length] at this; rw [List.length_map]; exact this, hbr⟩

end Go.Proofs.Ytoidpibdjijamaa

/- The model's l5Same (two slices of bytes are the same), and small lemmas on bytes. -/
namespace Go.Proofs.Ytoidpibdjijamaa
open Go.RowKit

theorem Own.drewN {e size lo hi w v n xs} (h : Own e size lo hi w v n xs) (d : Nat) : Own e size lo hi (w.drewN d) v n xs := by
  obtain ⟨g, cap, rfl, h1, h2, h3⟩ := h
  exact ⟨g, cap, rfl, h1, h2, h3.1, h3.2⟩
theorem sbytes_bytes (s : ByteArray) : Num.Bytes (sbytes s) := by
  intro x hx
  unfold sbytes at hx
  obtain ⟨b, _, rfl⟩ := List.mem_map.1 hx
  have := b.toNat_lt
  omega
theorem bytes_append {a b : List Int} (ha : Num.Bytes a) (hb : Num.Bytes b) : Num.Bytes (a ++ b) := fun x hx => (List.mem_append.1 hx).elim (ha x) (hb x)
theorem putV_bytes {zs : List Int} (h : Num.Bytes zs) (v : V) : Num.Bytes (putV zs v) := by
  unfold putV
  split
  · rename_i hok
    split
    · exact Num.put_bytes h v.n
    · rename_i ht
      have := okV_txt hok ht
      refine bytes_append h (fun x hx => ?_)
      rcases List.mem_cons.1 hx with rfl | hx
      · omega
      · exact sbytes_bytes _ x hx
  · exact h
theorem nil_bytes : Num.Bytes [] := fun x hx => by cases hx
theorem strOfNums_inj {xs ys : List Int} (hx : Num.Bytes xs) (hy : Num.Bytes ys) (h : strOfNums xs = strOfNums ys) : xs = ys := by
  have h2 : xs.map (fun n => UInt8.ofNat n.toNat) = ys.map (fun n => UInt8.ofNat n.toNat) := by
    have := congrArg (fun s : ByteArray => s.data.toList) h
    simpa [strOfNums] using this
  induction xs generalizing ys with
  | nil => cases ys with
    | nil => rfl
    | cons => simp at h2
  | cons x xs ih => cases ys with
    | nil => simp at h2
    | cons y ys =>
      simp only [List.map_cons, List.cons.injEq] at h2
      have h1 := hx x List.mem_cons_self
      have h3 := hy y List.mem_cons_self
      have e : x.toNat = y.toNat := by
        have := congrArg UInt8.toNat h2.1
        simp only [UInt8.toNat_ofNat'] at this
        omega
      have hxs : strOfNums xs = strOfNums ys := by
        unfold strOfNums
        rw [h2.2]
      rw [show x = y by omega, ih (fun z hz => hx z (List.mem_cons_of_mem _ hz)) (fun z hz => hy z (List.mem_cons_of_mem _ hz)) hxs h2.2]
theorem bstr_ne {a b : ByteArray} (h : ¬ a = b) : (a.toList == b.toList) = false := by
  have : ¬ a.toList = b.toList := fun e => h (by
    rw [ByteArray.toList_eq, ByteArray.toList_eq] at e
    apply ByteArray.ext
    exact Array.toList_inj.1 e)
  simpa using this
theorem conv_at {w : World} {v : Value} {n : Nat} {zs : List Int} (hz : zs.length = n) (h : At 1 w v n (ints .u8 zs)) : (convert 22 9 v).run Try.prog w = .ok (.string (strOfNums zs)) w := by
  obtain ⟨b, off, cap, rfl, _, _, _, hc⟩ := h
  exact run_convert_bytes_arg w 22 5 Try.underlying22 Try.underlying5 b off n cap zs hz (fun j hj => At.cell hc hz hj) 9 Try.underlying9
theorem l5Same (u v : Value) (n m : Nat) (xs ys : List Int) (w : World) (hxl : xs.length = n) (hyl : ys.length = m) (hx : Num.Bytes xs) (hy : Num.Bytes ys) (h1 : At 1 w u n (ints .u8 xs)) (h2 : At 1 w v m (ints .u8 ys)) :
    Calls Try.prog 70 #[u, v] w fun e w' => e = .returned (.bool (decide (xs = ys))) ∧ w = w' := by
  have k1 := conv_at hxl h1
  have k2 := conv_at hyl h2
  have HX : Hid (((strOfNums xs).toList == (strOfNums ys).toList) = decide (xs = ys)) := by
    show _ = _
    by_cases he : xs = ys
    · subst he
      simp
    · rw [bstr_ne (fun h => he (strOfNums_inj hx hy h)), decide_eq_false he]
  obtain ⟨b1, o1, c1, rfl, _, _, _, _⟩ := h1
  obtain ⟨b2, o2, c2, rfl, _, _, _, _⟩ := h2
  generalize strOfNums xs = s1 at k1 HX
  generalize strOfNums ys = s2 at k2 HX
  generalize decide (xs = ys) = q at HX
  clear hx hy hxl hyl
  go_enter Try.func70, Try.ntmps70
  go_wp2
  go_ret
  exact ⟨ret_bool HX.out, rfl⟩
theorem getV_size (zs : List Int) (i ty : Int) : (getV zs i ty).1.s.size ≤ maxLen := by
  have h6 : ∀ v : V, okV v = true → ¬ v.ty = 1 → v.s.size ≤ maxLen := fun v h ht => Nat.le_trans (okV_txt h ht) (by decide)
  unfold getV
  split
  · split
    · exact Nat.zero_le _
    · exact Nat.zero_le _
  · split
    · unfold getT
      split
      · rename_i h
        exact h6 _ h.2 (fun e => by simp at e)
      · exact Nat.zero_le _
    · exact Nat.zero_le _

end Go.Proofs.Ytoidpibdjijamaa

/- The contract of the model's Dict. -/
namespace Go.Proofs.Ytoidpibdjijamaa
open Go.RowKit

/-- append(s, x...) as one operation: s owned, x read at ⟨b, off⟩. -/
theorem append_op {P : Program} {t e : TypeId} {z : Value} {size bytes : Nat} (T : ElemT P t e z size bytes) {w : World} {o : Oper} {a : Act} {K : Act → World → Prop} {Q : Exit → Act → World → Prop} (s x : Operand)
    (ho : o.op = .call { callee := .builtin .append, args := #[s, x], argTypes := #[t, t] })
    (lo hi : Nat) (v : Value) (n : Nat) (xs : List Value) (hs : a.eval s = v) (hown : Own e size lo hi w v n xs)
    (b off m c : Nat) (news : List Value) (hx : a.eval x = .slice (some ⟨b, off, none⟩) m c) (hl : news.length = m * size) (hnews : ∀ j u, news[j]? = some u → w.cell? ⟨b, off + j, none⟩ = some u) (h1 : ∀ u ∈ news, u.oneCell' = true)
    (h63 : n + m ≤ maxLen) (hbytes : (n + m) * bytes ≤ 140737488355328)
    (h : ∀ v' w', Own e size lo w'.heap.size w' v' (n + m) (xs ++ news) → Ext w w' v v' → K (a.put o.dst v') w') : Oper.wp P o a w K Q := by
  obtain ⟨v', w', hr, h2, h3⟩ := append_block w t o.type e z size bytes T lo hi v n xs hown ⟨b, off, none⟩ m c news hl (fun j u hu => by rw [addr_add]; exact hnews j u hu) h1 h63 hbytes
  unfold Oper.wp execOp
  simp only [ho, resolve, invoke, builtin, Sem.run_bind, Sem.run_pure, Result.andThen_ok, List.map_toArray, List.map_cons, List.map_nil, hs, hx, hr]
  exact h v' w' h2 h3
theorem lit_new (w : World) (x : V) (e : TypeId) : ∀ j u, (V.cs x)[j]? = some u → (w.alloc (.cells #[.int .i64 x.ty, .int .i64 x.n, .string x.s] e)).cell? ⟨w.heap.size, 0 + j, none⟩ = some u := by
  intro j u hu
  match j, hu with
  | 0, hu => simp [V.cs] at hu; subst hu; simp
  | 1, hu => simp [V.cs] at hu; subst hu; simp
  | 2, hu => simp [V.cs] at hu; subst hu; simp
theorem lit_ext {W W' : World} {v v' : Value} {h : Nat} {cs : List Value} (hX : ∀ j u, cs[j]? = some u → W.cell? ⟨h, 0 + j, none⟩ = some u) (hlt : h < W.heap.size) (hne : v.ownBlock ≠ some h) (e : Ext W W' v v') :
    (∀ j u, cs[j]? = some u → W'.cell? ⟨h, 0 + j, none⟩ = some u) ∧ h < W'.heap.size ∧ v'.ownBlock ≠ some h := by
  refine ⟨fun j u hu => ?_, Nat.lt_of_lt_of_le hlt e.grown.size, fun hv => ?_⟩
  · rw [World.cell?_of_block (w := W) (e.grown.block h hlt (fun k => hne k.symm))]
    exact hX j u hu
  · rcases e.blk with k | ⟨g, k, hg⟩
    · exact hne (k.symm.trans hv)
    · rw [k] at hv
      simp at hv
      omega
/-- A Val just laid as a literal of one. -/
def Lit1 (N : Nat) (W : World) (h : Nat) (x : V) : Prop := N ≤ h ∧ h < W.heap.size ∧ ∀ j u, (V.cs x)[j]? = some u → W.cell? ⟨h, 0 + j, none⟩ = some u
theorem Lit1.alloc {N : Nat} {W : World} {h : Nat} {x : V} (k : Lit1 N W h x) (o : Obj) : Lit1 N (W.alloc o) h x :=
  ⟨k.1, by have := k.2.1; simp; omega, fun j u hu => ((below_alloc W o).cell (p := ⟨h, 0 + j, none⟩) k.2.1).trans (k.2.2 j u hu)⟩
theorem Lit1.new {N : Nat} (W : World) (x : V) (e : TypeId) (hN : N ≤ W.heap.size) : Lit1 N (W.alloc (.cells #[.int .i64 x.ty, .int .i64 x.n, .string x.s] e)) W.heap.size x := ⟨hN, by simp, lit_new W x e⟩
theorem Lit1.ext {N : Nat} {W W' : World} {v v' : Value} {h : Nat} {x : V} (k : Lit1 N W h x) (hne : v.ownBlock ≠ some h) (e : Ext W W' v v') : Lit1 N W' h x ∧ v'.ownBlock ≠ some h :=
  ⟨⟨k.1, (lit_ext k.2.2 k.2.1 hne e).2.1, (lit_ext k.2.2 k.2.1 hne e).1⟩, (lit_ext k.2.2 k.2.1 hne e).2.2⟩
theorem Own.notNew {e size lo w v n xs} (h : Own e size lo w.heap.size w v n xs) : v.ownBlock ≠ some w.heap.size := by
  obtain ⟨g, cap, rfl, h1, h2, h3⟩ := h
  simp only [Value.ownBlock, ne_eq, Option.some.injEq]
  omega
theorem own_none {e : TypeId} {N : Nat} (W : World) (hN : N ≤ W.heap.size) : Own e 3 N (W.alloc (.cells #[] e)).heap.size (W.alloc (.cells #[] e)) (.slice (some ⟨W.heap.size, 0, none⟩) 0 0) 0 [] :=
  (own_lit (e := e) (size := 3) W #[] 0 (Nat.zero_le _) rfl).lower hN
theorem Own.stay {e size lo w v n xs} (h : Own e size lo w.heap.size w v n xs) (o : Obj) : Own e size lo (w.alloc o).heap.size (w.alloc o) v n xs := (h.alloc o).wide (by simp)
theorem vals_one (l : List V) : ∀ u ∈ vals l, u.oneCell' = true := by
  intro u hu
  obtain ⟨v, _, hv⟩ := List.mem_flatMap.1 hu
  simp only [V.cs, List.mem_cons, List.not_mem_nil, or_false] at hv
  rcases hv with rfl | rfl | rfl <;> rfl
theorem vals_take (l : List V) (c : Nat) : vals (l.take c) = (vals l).take (c * 3) := by
  induction l generalizing c with
  | nil => simp [vals]
  | cons v l ih =>
    cases c with
    | zero => simp [vals]
    | succ c =>
      have := ih c
      simp only [vals] at this ⊢
      rw [List.take_succ_cons, List.flatMap_cons, List.flatMap_cons, this, show (c + 1) * 3 = 3 + c * 3 by omega, List.take_append, List.take_of_length_le (show (V.cs v).length ≤ 3 + c * 3 by simp only [V.cs, List.length_cons, List.length_nil]; omega)]
      simp [V.cs]
theorem vals_drop (l : List V) (c : Nat) : vals (l.drop c) = (vals l).drop (c * 3) := by
  induction l generalizing c with
  | nil => simp [vals]
  | cons v l ih =>
    cases c with
    | zero => simp [vals]
    | succ c =>
      have := ih c
      simp only [vals] at this ⊢
      rw [List.drop_succ_cons, List.flatMap_cons, this, show (c + 1) * 3 = 3 + c * 3 by omega, List.drop_append]
      simp [V.cs]
/-- The two parts of a dictionary that is read, in a later world. -/
theorem tails {wo W9 : World} {d : List V} {m j g cp tl : Nat} (hm : d.length = m) (hc : ∀ i u, (vals d)[i]? = some u → wo.cell? ⟨g, 0 + i, none⟩ = some u) (hj : j ≤ m) (hcp : m ≤ cp) (ht : j < cp → tl = j * 3) (B : Below wo.heap.size wo W9) :
    ∀ W, Below W9.heap.size W9 W → (∀ i u, (vals (d.take j))[i]? = some u → W.cell? ⟨g, 0 + i, none⟩ = some u) ∧ (∀ i u, (vals (d.drop j))[i]? = some u → W.cell? ⟨g, tl + i, none⟩ = some u) := by
  intro W hW
  have hc2 : ∀ i u, (vals d)[i]? = some u → W.cell? ⟨g, 0 + i, none⟩ = some u := fun i u hu => by
    have h1 := hc i u hu
    have h2 := (B.cell (p := ⟨g, 0 + i, none⟩) (lt_of_cell h1)).trans h1
    exact (hW.cell (p := ⟨g, 0 + i, none⟩) (lt_of_cell h2)).trans h2
  refine ⟨fun i u hu => hc2 i u ?_, fun i u hu => ?_⟩
  · rw [vals_take] at hu
    rw [← hu, List.getElem?_take_of_lt]
    have := (List.getElem?_eq_some_iff.1 hu).1
    simp at this
    omega
  · have hlt := (List.getElem?_eq_some_iff.1 hu).1
    rw [vals_len, List.length_drop] at hlt
    have hjm : j < cp := by omega
    rw [vals_drop, List.getElem?_drop] at hu
    have := hc2 (j * 3 + i) u hu
    rw [ht hjm]
    rw [Nat.zero_add] at this
    exact this

set_option maxRecDepth 100000 in
set_option maxHeartbeats 4000000 in
theorem sDict (u : Value) (l : List V) (w : World) (hn : l.length ≤ 1048576) (h : Rd 3 w u l.length (vals l)) :
    Calls Try.prog 19 #[u] w fun e w' => ∃ v', e = .returned v' ∧ Own 37 3 w.heap.size w'.heap.size w' v' (dictL l).length (vals (dictL l)) ∧ Below w.heap.size w w' := by
  have hown0 := own_lit (e := 37) (size := 3) w #[] 0 (Nat.zero_le _) rfl
  have hb0 := below_alloc w (.cells #[] 37)
  generalize hl : l.length = n at h hn
  obtain ⟨a, cap, rfl, _, HC⟩ := h.vals hl
  have HL := Lib.hid hl
  have HS : Hid (∀ k, k < n → dictL (l.take (k + 1)) = insV (dictL (l.take k)) (l.getD k V.zero)) := fun k hk => by
    have hk' : k < l.length := by omega
    rw [getDe l V.zero hk', List.take_succ_eq_append_getElem hk', dict_snoc]
  have HLEN : Hid (∀ k, k ≤ n → (dictL (l.take k)).length ≤ k) := fun k hk => by
    have h1 := dict_len (l.take k)
    have e : (l.take k).length = k := by simp; omega
    omega
  clear hl h
  go_enter Try.func19, Try.ntmps19
  go_wp2
  go_loopw [3, 4] (fun o i wr => ∃ k : Nat, k ≤ n ∧ i = .int .i64 k ∧ Own 37 3 w.heap.size wr.heap.size wr o (dictL (l.take k)).length (vals (dictL (l.take k))) ∧ Below w.heap.size w wr) (fun _ i _ => n - (intOf i).toNat)
  case atStart => exact ⟨0, Nat.zero_le _, rfl, hown0, hb0⟩
  case round =>
    obtain ⟨k, hk, rfl, hown, hbr⟩ := hrel
    by_cases hlt : k < n
    · obtain ⟨b, off, rfl, p0, p1, p2⟩ := HC.out k hlt
      have HSK := Lib.hid (HS.out k hlt)
      have hrl := HLEN.out k hk
      replace p0 := (hbr.cell (p := ⟨b, off + k * 3, none⟩) (lt_of_cell p0)).trans p0
      replace p1 := (hbr.cell (p := ⟨b, off + k * 3 + 1, none⟩) (lt_of_cell p1)).trans p1
      replace p2 := (hbr.cell (p := ⟨b, off + k * 3 + 2, none⟩) (lt_of_cell p2)).trans p2
      generalize l.getD k V.zero = x at p0 p1 p2 HSK
      generalize dictL (l.take k) = d at hown hrl HSK
      obtain ⟨g, cp, rfl, hg1, hg2, hrow⟩ := hown
      have hown : Own 37 3 w.heap.size wr.heap.size wr (.slice (some ⟨g, 0, none⟩) d.length cp) d.length (vals d) := ⟨g, cp, rfl, hg1, hg2, hrow⟩
      obtain ⟨b', off', cp', e', hcp, hcm, _, hcs⟩ := hown.at
      simp only [Value.slice.injEq, Option.some.injEq, Addr.mk.injEq, and_true, true_and] at e'
      obtain ⟨⟨rfl, rfl⟩, rfl⟩ := e'
      unfold maxLen at hcm
      have HCS := Lib.hid hcs
      have HD3 : Hid (∀ j, j < d.length → wr.cell? ⟨g, j * 3, none⟩ = some (.int .i64 (d.getD j V.zero).ty) ∧ wr.cell? ⟨g, j * 3 + 1, none⟩ = some (.int .i64 (d.getD j V.zero).n) ∧ wr.cell? ⟨g, j * 3 + 2, none⟩ = some (.string (d.getD j V.zero).s)) := fun j hj => by
        have := cells3 (b := g) (off := 0) hcs hj
        rw [getDe d V.zero hj]
        simpa using this
      have HDL := Lib.hid hcs
      clear hcs hrow
      have HCL := Lib.hid (cutV_le d x)
      have HST : Hid (∀ j, j ≤ cutV d x → j < d.length → lessV (d.getD j V.zero) x = true → j + 1 ≤ cutV d x) := fun j h1 h2 h3 => cutV_step h1 h2 h3
      have HSP : Hid (∀ j, j ≤ cutV d x → (j = d.length ∨ lessV (d.getD j V.zero) x = false) → j = cutV d x) := fun j h1 h2 => cutV_stop h1 h2
      have HNEW : Hid ((cutV d x = d.length ∨ (d.getD (cutV d x) V.zero).eqB x = false) → insV d x = (d.take (cutV d x) ++ [x]) ++ d.drop (cutV d x)) := insV_new
      have HOLD : Hid (cutV d x < d.length → (d.getD (cutV d x) V.zero).eqB x = true → insV d x = d) := insV_old
      generalize hm : d.length = m at hown hrl HD3 HCL HST HSP HNEW HOLD hcp
      have HM := Lib.hid hm
      clear hm
      obtain ⟨wo, rfl⟩ : ∃ wo, wo = wr := ⟨_, rfl⟩
      go_wp2
      go_loopw [5] (fun i wr2 => ∃ j : Nat, i = .int .i64 j ∧ j ≤ cutV d x ∧ Below wo.heap.size wo wr2) (fun i _ => cutV d x + 1 - (intOf i).toNat)
      case atStart => exact ⟨0, rfl, Nat.zero_le _, Below.refl _ _⟩
      case round =>
        obtain ⟨j, rfl, hjc, hb2⟩ := hrel
        have hjm : j ≤ m := Nat.le_trans hjc HCL.out
        replace p0 := (hb2.cell (p := ⟨b, off + k * 3, none⟩) (lt_of_cell p0)).trans p0
        replace p1 := (hb2.cell (p := ⟨b, off + k * 3 + 1, none⟩) (lt_of_cell p1)).trans p1
        replace p2 := (hb2.cell (p := ⟨b, off + k * 3 + 2, none⟩) (lt_of_cell p2)).trans p2
        by_cases hjl : j < m
        · obtain ⟨q0, q1, q2⟩ := HD3.out j hjl
          replace q0 := (hb2.cell (p := ⟨g, j * 3, none⟩) (lt_of_cell q0)).trans q0
          replace q1 := (hb2.cell (p := ⟨g, j * 3 + 1, none⟩) (lt_of_cell q1)).trans q1
          replace q2 := (hb2.cell (p := ⟨g, j * 3 + 2, none⟩) (lt_of_cell q2)).trans q2
          have HL1 := Lib.hid (HST.out j hjc hjl)
          have HL2 := Lib.hid (fun h => HSP.out j hjc (.inr h))
          have HEQ : Hid (j = cutV d x → d.getD (cutV d x) V.zero = d.getD j V.zero) := fun h => by rw [h]
          generalize d.getD j V.zero = y at q0 q1 q2 HL1 HL2 HEQ
          have HX := Lib.hid (fun W => sLessVal y x W)
          have HK : Hid (∀ W, Below wr.heap.size wr W → W.cell? ⟨g, j * 3, none⟩ = some (.int .i64 y.ty) ∧ W.cell? ⟨g, j * 3 + 1, none⟩ = some (.int .i64 y.n) ∧ W.cell? ⟨g, j * 3 + 2, none⟩ = some (.string y.s) ∧ W.cell? ⟨b, off + k * 3, none⟩ = some (.int .i64 x.ty) ∧ W.cell? ⟨b, off + k * 3 + 1, none⟩ = some (.int .i64 x.n) ∧ W.cell? ⟨b, off + k * 3 + 2, none⟩ = some (.string x.s)) := fun W h =>
            ⟨(h.cell (p := ⟨g, j * 3, none⟩) (lt_of_cell q0)).trans q0, (h.cell (p := ⟨g, j * 3 + 1, none⟩) (lt_of_cell q1)).trans q1, (h.cell (p := ⟨g, j * 3 + 2, none⟩) (lt_of_cell q2)).trans q2, (h.cell (p := ⟨b, off + k * 3, none⟩) (lt_of_cell p0)).trans p0, (h.cell (p := ⟨b, off + k * 3 + 1, none⟩) (lt_of_cell p1)).trans p1, (h.cell (p := ⟨b, off + k * 3 + 2, none⟩) (lt_of_cell p2)).trans p2⟩
          have hB' := (Below.refl wr.heap.size wr).drew
          generalize hc : cutV d x = c at HL1 HL2 HEQ HCL HNEW HOLD hjc
          have HCC := Lib.hid hc
          clear hc
          generalize lessV y x = lb at HL1 HL2 HX
          obtain ⟨xt, xn, xs⟩ := x
          obtain ⟨yt, yn, ys⟩ := y
          simp only at p0 p1 p2 q0 q1 q2 HK
          have HOWN := Lib.hid hown
          have HBR := Lib.hid hbr
          have HB2 := Lib.hid hb2
          clear hown hbr hb2
          go_wp2
          go_region_held3 (fun W => W.cell? ⟨g, j * 3, none⟩ = some (.int .i64 yt) ∧ W.cell? ⟨g, j * 3 + 1, none⟩ = some (.int .i64 yn) ∧ W.cell? ⟨g, j * 3 + 2, none⟩ = some (.string ys) ∧ W.cell? ⟨b, off + k * 3, none⟩ = some (.int .i64 xt) ∧ W.cell? ⟨b, off + k * 3 + 1, none⟩ = some (.int .i64 xn) ∧ W.cell? ⟨b, off + k * 3 + 2, none⟩ = some (.string xs)) (exact HK.out _ hB') ((go_at_call 58; (with_reducible refine (HX.out _).mono ?_); rintro e w2 ⟨rfl, hb3⟩; replace hB' := below_then hB' hb3 hB'.size))
          cases lb with
          | true =>
            have hj1 := HL1.out rfl
            go_wp2
            go_roundw
            case rel => exact ⟨j + 1, by go_num, hj1, below_then HB2.out hB' HB2.out.size⟩
            case measure => simp [intOf]; omega
          | false =>
            obtain rfl := HL2.out rfl
            have HY := Lib.hid (HEQ.out rfl)
            rw [HY.out] at HNEW HOLD
            have hq := fun W => run_neq_val ⟨yt, yn, ys⟩ ⟨xt, xn, xs⟩ W
            obtain ⟨c0, c1, c2, c3, c4, c5⟩ := HK.out _ hB'
            have B3 := Lib.hid (below_then HB2.out hB' HB2.out.size)
            have hjeq : ((j : Int) == (m : Int)) = false := by simp; omega
            clear hB' HK HX HL1 HL2 HEQ p0 p1 p2 q0 q1 q2
            cases he : V.eqB ⟨yt, yn, ys⟩ ⟨xt, xn, xs⟩ with
            | true =>
              have HO := Lib.hid (HOLD.out hjl he)
              rw [he] at hq
              clear he HOLD HNEW
              go_wp2
              go_quiet (fail)
              go_wp2
              go_roundw
              case rel => exact ⟨k + 1, by omega, by go_num, by rw [HSK.out, HO.out, HM.out]; exact (HOWN.out.below (B3.out.trans (below_drewN _ _ _)) (Nat.le_refl _)).wide B3.out.size, below_then HBR.out (B3.out.trans (below_drewN _ _ _)) HBR.out.size⟩
              case measure => simp [intOf]; omega
            | false =>
              have HO := Lib.hid (HNEW.out (.inr he))
              rw [he] at hq
              clear he HOLD HNEW
              go_wp2
              go_quiet (fail)
              go_wp2
              generalize hW9 : w2.drewN nq = W9
              have B9 : Below wo.heap.size wo W9 := by rw [← hW9]; exact B3.out.trans (below_drewN _ _ _)
              have c3' : W9.cell? ⟨b, off + k * 3, none⟩ = some (.int .i64 xt) := by rw [← hW9]; exact c3
              have c4' : W9.cell? ⟨b, off + k * 3 + 1, none⟩ = some (.int .i64 xn) := by rw [← hW9]; exact c4
              have c5' : W9.cell? ⟨b, off + k * 3 + 2, none⟩ = some (.string xs) := by rw [← hW9]; exact c5
              clear c0 c1 c2 c3 c4 c5 hq hW9
              have hjcp : (cp < j) = False := by simp; omega
              obtain ⟨tl, htl, HTL⟩ : ∃ tl, (if cp = j then some (⟨g, 0, none⟩ : Addr) else some ⟨g, j * 3, none⟩) = some ⟨g, tl, none⟩ ∧ Hid (j < cp → tl = j * 3) := by
                by_cases e : cp = j
                · exact ⟨0, by rw [if_pos e], fun h => by omega⟩
                · exact ⟨j * 3, by rw [if_neg e], fun _ => rfl⟩
              refine wp_region_held_drew (S := fun W => W.cell? ⟨b, off + k * 3, none⟩ = some (.int .i64 xt) ∧ W.cell? ⟨b, off + k * 3 + 1, none⟩ = some (.int .i64 xn) ∧ W.cell? ⟨b, off + k * 3 + 2, none⟩ = some (.string xs)) (by kernel_rfl) ⟨c3', c4', c5'⟩ (fun hH => ?_)
              refine takeH (i := 1) (d := some 46) (v := .slice (some ⟨g, 0, none⟩) m cp) rfl rfl (by kernel_rfl) (by kernel_rfl) (by kernel_rfl) (fun _ _ _ h => h) (Or.inl ⟨by rfl, fun W hSw => by go_simp⟩) hH ?_
              simp only [put_some, List.set_cons_zero, List.set_cons_succ]
              refine takeH (i := 2) (d := some 47) (v := .int .i64 (j : Int)) rfl rfl (by kernel_rfl) (by kernel_rfl) (by kernel_rfl) (fun _ _ _ h => h) (Or.inl ⟨by rfl, fun W hSw => by go_simp⟩) hH ?_
              simp only [put_some, List.set_cons_zero, List.set_cons_succ]
              refine takeH (i := 3) (d := some 48) (v := .slice (some ⟨g, 0, none⟩) j cp) rfl rfl (by kernel_rfl) (by kernel_rfl) (by kernel_rfl) (fun _ _ _ h => h) (Or.inl ⟨by rfl, fun W hSw => by go_simp⟩) hH ?_
              simp only [put_some, List.set_cons_zero, List.set_cons_succ]
              refine takeH (i := 5) (d := some 50) (v := .slice (some ⟨b, off, none⟩) n cap) rfl rfl (by kernel_rfl) (by kernel_rfl) (by kernel_rfl) (fun _ _ _ h => h) (Or.inl ⟨by rfl, fun W hSw => by go_simp⟩) hH ?_
              simp only [put_some, List.set_cons_zero, List.set_cons_succ]
              refine takeH (i := 6) (d := some 51) (v := .int .i64 (k : Int)) rfl rfl (by kernel_rfl) (by kernel_rfl) (by kernel_rfl) (fun _ _ _ h => h) (Or.inl ⟨by rfl, fun W hSw => by go_simp⟩) hH ?_
              simp only [put_some, List.set_cons_zero, List.set_cons_succ]
              refine takeH (i := 7) (d := some 52) (v := .pointer (some ⟨b, off + k * 3, none⟩)) rfl rfl (by kernel_rfl) (by kernel_rfl) (by kernel_rfl) (fun _ _ _ h => h) (Or.inl ⟨by rfl, fun W hSw => by go_simp⟩) hH ?_
              simp only [put_some, List.set_cons_zero, List.set_cons_succ]
              refine takeH (i := 8) (d := some 53) (v := .agg #[.int .i64 xt, .int .i64 xn, .string xs]) rfl rfl (by kernel_rfl) (by kernel_rfl) (by kernel_rfl) (fun _ _ _ h => h) (Or.inl ⟨by rfl, fun W hSw => by go_simp⟩) hH ?_
              simp only [put_some, List.set_cons_zero, List.set_cons_succ]
              refine takeH (i := 11) (d := some 56) (v := .slice (some ⟨g, 0, none⟩) m cp) rfl rfl (by kernel_rfl) (by kernel_rfl) (by kernel_rfl) (fun _ _ _ h => h) (Or.inl ⟨by rfl, fun W hSw => by go_simp⟩) hH ?_
              simp only [put_some, List.set_cons_zero, List.set_cons_succ]
              refine takeH (i := 12) (d := some 57) (v := .int .i64 (j : Int)) rfl rfl (by kernel_rfl) (by kernel_rfl) (by kernel_rfl) (fun _ _ _ h => h) (Or.inl ⟨by rfl, fun W hSw => by go_simp⟩) hH ?_
              simp only [put_some, List.set_cons_zero, List.set_cons_succ]
              refine takeH (i := 13) (d := some 58) (v := .slice (some ⟨g, tl, none⟩) (m - j) (cp - j)) rfl rfl (by kernel_rfl) (by kernel_rfl) (by kernel_rfl) (fun _ _ _ h => h) (Or.inl ⟨by rfl, fun W hSw => by go_simp⟩) hH ?_
              simp only [put_some, List.set_cons_zero, List.set_cons_succ]
              clear htl hjcp
              have D9 : Hid (∀ W, Below W9.heap.size W9 W → (∀ i u, (vals (d.take j))[i]? = some u → W.cell? ⟨g, 0 + i, none⟩ = some u) ∧ (∀ i u, (vals (d.drop j))[i]? = some u → W.cell? ⟨g, tl + i, none⟩ = some u)) := tails HM.out HDL.out hjm hcp HTL.out B9
              have S9 : Hid (∀ W, Below W9.heap.size W9 W → W.cell? ⟨b, off + k * 3, none⟩ = some (.int .i64 xt) ∧ W.cell? ⟨b, off + k * 3 + 1, none⟩ = some (.int .i64 xn) ∧ W.cell? ⟨b, off + k * 3 + 2, none⟩ = some (.string xs)) := fun W h => ⟨(h.cell (p := ⟨b, off + k * 3, none⟩) (lt_of_cell c3')).trans c3', (h.cell (p := ⟨b, off + k * 3 + 1, none⟩) (lt_of_cell c4')).trans c4', (h.cell (p := ⟨b, off + k * 3 + 2, none⟩) (lt_of_cell c5')).trans c5'⟩
              have HVL : Hid ((vals (d.take j)).length = j * 3 ∧ (vals (d.drop j)).length = (m - j) * 3) := by
                have e := HM.out
                refine ⟨?_, ?_⟩
                · rw [vals_len, List.length_take]; congr 1; omega
                · rw [vals_len, List.length_drop, e]
              have HFIN : Hid ((vals (d.take j) ++ V.cs ⟨xt, xn, xs⟩) ++ vals (d.drop j) = vals (insV d ⟨xt, xn, xs⟩) ∧ j + 1 + (m - j) = (insV d ⟨xt, xn, xs⟩).length) := by
                have e := HM.out
                rw [HO.out]
                refine ⟨by simp [vals], ?_⟩
                simp only [List.length_append, List.length_take, List.length_drop, List.length_cons, List.length_nil]
                omega
              have B0 : Below W9.heap.size W9 W9.drew := (Below.refl _ _).drew
              generalize hW0 : W9.drew = W0 at hH B0 ⊢
              clear hW0 c3' c4' c5'
              refine wpAnyH_ready (rs := [0, 9]) (by kernel_rfl) (by simp) ?_
              refine AllReadyH.cons rfl (fun K hK => ?_) (AllReadyH.cons rfl (fun K hK => ?_) AllReadyH.nil)
              · skip
                go_simp
                have B1 := B0.alloc B0.size (.cells #[] 37)
                have O1 := own_none (e := 37) (N := W9.heap.size) W0 B0.size
                refine hK.out _ _ (S9.out _ B1) (fun hH => ?_)
                clear hK K
                generalize W0.heap.size = g45 at O1 ⊢
                generalize W0.alloc (.cells #[] 37) = W1 at B1 O1 hH ⊢
                refine wpAnyH_ready (rs := [4, 9]) (by kernel_rfl) (by simp) ?_
                refine AllReadyH.cons rfl (fun K hK => ?_) (AllReadyH.cons rfl (fun K hK => ?_) AllReadyH.nil)
                · skip
                  refine append_op Try.elemVals (.tmp 45) (.tmp 48) rfl W9.heap.size W1.heap.size (.slice (some ⟨g45, 0, none⟩) 0 0) 0 [] rfl O1 g 0 j cp (vals (d.take j)) rfl HVL.out.1 (D9.out _ B1).1 (vals_one _) (by unfold maxLen; omega) (by omega) ?_
                  intro v49 W2 O2 E2
                  have B2 := B1.trans (E2.below O1)
                  rw [Nat.zero_add, List.nil_append] at O2
                  obtain ⟨g49, c49, rfl⟩ : ∃ g c, v49 = .slice (some ⟨g, 0, none⟩) (j) c := by obtain ⟨g, c, e, _⟩ := O2; exact ⟨g, c, e⟩
                  refine hK.out _ _ (S9.out _ B2) (fun hH => ?_)
                  clear hK K E2
                  refine wpAnyH_ready (rs := [9]) (by kernel_rfl) (by simp) ?_
                  refine AllReadyH.cons rfl (fun K hK => ?_) AllReadyH.nil
                  go_simp
                  have B3 := B2.alloc B2.size (.cells #[.int .i64 xt, .int .i64 xn, .string xs] 37)
                  have L3 : Lit1 W9.heap.size _ _ _ := Lit1.new W2 ⟨xt, xn, xs⟩ 37 B2.size
                  have N3 := O2.notNew
                  have O3 := O2.stay (.cells #[.int .i64 xt, .int .i64 xn, .string xs] 37)
                  refine hK.out _ _ (S9.out _ B3) (fun hH => ?_)
                  clear hK K
                  generalize W2.heap.size = g54 at L3 O3 N3 ⊢
                  generalize W2.alloc (.cells #[.int .i64 xt, .int .i64 xn, .string xs] 37) = W3 at B3 L3 O3 hH ⊢
                  refine wpAnyH_ready (rs := [10]) (by kernel_rfl) (by simp) ?_
                  refine AllReadyH.cons rfl (fun K hK => ?_) AllReadyH.nil
                  refine append_op Try.elemVals (.tmp 49) (.tmp 54) rfl W9.heap.size W3.heap.size (.slice (some ⟨g49, 0, none⟩) j c49) j (vals (d.take j)) rfl O3 g54 0 1 1 (V.cs ⟨xt, xn, xs⟩) rfl rfl L3.2.2 (fun u hu => vals_one [⟨xt, xn, xs⟩] u (by simpa [vals] using hu)) (by unfold maxLen; omega) (by omega) ?_
                  intro v55 W4 O4 E4
                  have B4 := B3.trans (E4.below O3)
                  obtain ⟨g55, c55, rfl⟩ : ∃ g c, v55 = .slice (some ⟨g, 0, none⟩) (j + 1) c := by obtain ⟨g, c, e, _⟩ := O4; exact ⟨g, c, e⟩
                  refine hK.out _ _ (S9.out _ B4) (fun hH => ?_)
                  clear hK K E4
                  refine wpAnyH_ready (rs := [14]) (by kernel_rfl) (by simp) ?_
                  refine AllReadyH.cons rfl (fun K hK => ?_) AllReadyH.nil
                  refine append_op Try.elemVals (.tmp 55) (.tmp 58) rfl W9.heap.size W4.heap.size (.slice (some ⟨g55, 0, none⟩) (j + 1) c55) (j + 1) (vals (d.take j) ++ V.cs ⟨xt, xn, xs⟩) rfl O4 g tl (m - j) (cp - j) (vals (d.drop j)) rfl HVL.out.2 (D9.out _ B4).2 (vals_one _) (by unfold maxLen; omega) (by omega) ?_
                  intro v59 W5 O5 E5
                  have B5 := B4.trans (E5.below O4)
                  rw [HFIN.out.1, HFIN.out.2] at O5
                  obtain ⟨g59, c59, rfl⟩ : ∃ g c, v59 = .slice (some ⟨g, 0, none⟩) (insV d ⟨xt, xn, xs⟩).length c := by obtain ⟨g, c, e, _⟩ := O5; exact ⟨g, c, e⟩
                  refine hK.out _ _ (S9.out _ B5) (fun hH => ?_)
                  clear hK K E5
                  refine takeH (i := 15) (d := some 3) (v := .slice (some ⟨g59, 0, none⟩) (insV d ⟨xt, xn, xs⟩).length c59) rfl rfl (by kernel_rfl) (by kernel_rfl) (by kernel_rfl) (fun _ _ _ h => h) (Or.inl ⟨by rfl, fun W hSw => by go_simp⟩) hH ?_
                  try simp only [put_some, List.set_cons_zero, List.set_cons_succ]
                  have OF := Lib.hid O5
                  have BF := Lib.hid B5
                  clear O5 B5
                  refine wpAnyH_done (by kernel_rfl) ?_ _
                  go_wp2
                  go_roundw
                  case rel => exact ⟨k + 1, by omega, by go_num, by rw [HSK.out]; exact OF.out.lower (Nat.le_trans HBR.out.size B9.size), below_then HBR.out (below_then B9 BF.out B9.size) HBR.out.size⟩
                  case measure => simp [intOf]; omega
                · skip
                  go_simp
                  have B2 := B1.alloc B1.size (.cells #[.int .i64 xt, .int .i64 xn, .string xs] 37)
                  have L2 : Lit1 W9.heap.size _ _ _ := Lit1.new W1 ⟨xt, xn, xs⟩ 37 B1.size
                  have N2 := O1.notNew
                  have O2 := O1.stay (.cells #[.int .i64 xt, .int .i64 xn, .string xs] 37)
                  refine hK.out _ _ (S9.out _ B2) (fun hH => ?_)
                  clear hK K
                  generalize W1.heap.size = g54 at L2 O2 N2 ⊢
                  generalize W1.alloc (.cells #[.int .i64 xt, .int .i64 xn, .string xs] 37) = W2 at B2 L2 O2 hH ⊢
                  refine wpAnyH_ready (rs := [4]) (by kernel_rfl) (by simp) ?_
                  refine AllReadyH.cons rfl (fun K hK => ?_) AllReadyH.nil
                  refine append_op Try.elemVals (.tmp 45) (.tmp 48) rfl W9.heap.size W2.heap.size (.slice (some ⟨g45, 0, none⟩) 0 0) 0 [] rfl O2 g 0 j cp (vals (d.take j)) rfl HVL.out.1 (D9.out _ B2).1 (vals_one _) (by unfold maxLen; omega) (by omega) ?_
                  intro v49 W3 O3 E3
                  have B3 := B2.trans (E3.below O2)
                  obtain ⟨L3, N3⟩ := L2.ext N2 E3
                  rw [Nat.zero_add, List.nil_append] at O3
                  obtain ⟨g49, c49, rfl⟩ : ∃ g c, v49 = .slice (some ⟨g, 0, none⟩) (j) c := by obtain ⟨g, c, e, _⟩ := O3; exact ⟨g, c, e⟩
                  refine hK.out _ _ (S9.out _ B3) (fun hH => ?_)
                  clear hK K E3
                  refine wpAnyH_ready (rs := [10]) (by kernel_rfl) (by simp) ?_
                  refine AllReadyH.cons rfl (fun K hK => ?_) AllReadyH.nil
                  refine append_op Try.elemVals (.tmp 49) (.tmp 54) rfl W9.heap.size W3.heap.size (.slice (some ⟨g49, 0, none⟩) j c49) j (vals (d.take j)) rfl O3 g54 0 1 1 (V.cs ⟨xt, xn, xs⟩) rfl rfl L3.2.2 (fun u hu => vals_one [⟨xt, xn, xs⟩] u (by simpa [vals] using hu)) (by unfold maxLen; omega) (by omega) ?_
                  intro v55 W4 O4 E4
                  have B4 := B3.trans (E4.below O3)
                  obtain ⟨g55, c55, rfl⟩ : ∃ g c, v55 = .slice (some ⟨g, 0, none⟩) (j + 1) c := by obtain ⟨g, c, e, _⟩ := O4; exact ⟨g, c, e⟩
                  refine hK.out _ _ (S9.out _ B4) (fun hH => ?_)
                  clear hK K E4
                  refine wpAnyH_ready (rs := [14]) (by kernel_rfl) (by simp) ?_
                  refine AllReadyH.cons rfl (fun K hK => ?_) AllReadyH.nil
                  refine append_op Try.elemVals (.tmp 55) (.tmp 58) rfl W9.heap.size W4.heap.size (.slice (some ⟨g55, 0, none⟩) (j + 1) c55) (j + 1) (vals (d.take j) ++ V.cs ⟨xt, xn, xs⟩) rfl O4 g tl (m - j) (cp - j) (vals (d.drop j)) rfl HVL.out.2 (D9.out _ B4).2 (vals_one _) (by unfold maxLen; omega) (by omega) ?_
                  intro v59 W5 O5 E5
                  have B5 := B4.trans (E5.below O4)
                  rw [HFIN.out.1, HFIN.out.2] at O5
                  obtain ⟨g59, c59, rfl⟩ : ∃ g c, v59 = .slice (some ⟨g, 0, none⟩) (insV d ⟨xt, xn, xs⟩).length c := by obtain ⟨g, c, e, _⟩ := O5; exact ⟨g, c, e⟩
                  refine hK.out _ _ (S9.out _ B5) (fun hH => ?_)
                  clear hK K E5
                  refine takeH (i := 15) (d := some 3) (v := .slice (some ⟨g59, 0, none⟩) (insV d ⟨xt, xn, xs⟩).length c59) rfl rfl (by kernel_rfl) (by kernel_rfl) (by kernel_rfl) (fun _ _ _ h => h) (Or.inl ⟨by rfl, fun W hSw => by go_simp⟩) hH ?_
                  try simp only [put_some, List.set_cons_zero, List.set_cons_succ]
                  have OF := Lib.hid O5
                  have BF := Lib.hid B5
                  clear O5 B5
                  refine wpAnyH_done (by kernel_rfl) ?_ _
                  go_wp2
                  go_roundw
                  case rel => exact ⟨k + 1, by omega, by go_num, by rw [HSK.out]; exact OF.out.lower (Nat.le_trans HBR.out.size B9.size), below_then HBR.out (below_then B9 BF.out B9.size) HBR.out.size⟩
                  case measure => simp [intOf]; omega
              · skip
                go_simp
                have B1 := B0.alloc B0.size (.cells #[.int .i64 xt, .int .i64 xn, .string xs] 37)
                have L1 : Lit1 W9.heap.size _ _ _ := Lit1.new W0 ⟨xt, xn, xs⟩ 37 B0.size
                refine hK.out _ _ (S9.out _ B1) (fun hH => ?_)
                clear hK K
                generalize W0.heap.size = g54 at L1 ⊢
                generalize W0.alloc (.cells #[.int .i64 xt, .int .i64 xn, .string xs] 37) = W1 at B1 L1 hH ⊢
                refine wpAnyH_ready (rs := [0]) (by kernel_rfl) (by simp) ?_
                refine AllReadyH.cons rfl (fun K hK => ?_) AllReadyH.nil
                go_simp
                have B2 := B1.alloc B1.size (.cells #[] 37)
                have O2 := own_none (e := 37) (N := W9.heap.size) W1 B1.size
                have L2 := L1.alloc (.cells #[] 37)
                have N2 : Value.ownBlock (.slice (some ⟨W1.heap.size, 0, none⟩) 0 0) ≠ some g54 := by have := L1.2.1; simp only [Value.ownBlock, ne_eq, Option.some.injEq]; omega
                refine hK.out _ _ (S9.out _ B2) (fun hH => ?_)
                clear hK K
                generalize W1.heap.size = g45 at O2 L2 N2 ⊢
                generalize W1.alloc (.cells #[] 37) = W2 at B2 O2 L2 hH ⊢
                refine wpAnyH_ready (rs := [4]) (by kernel_rfl) (by simp) ?_
                refine AllReadyH.cons rfl (fun K hK => ?_) AllReadyH.nil
                refine append_op Try.elemVals (.tmp 45) (.tmp 48) rfl W9.heap.size W2.heap.size (.slice (some ⟨g45, 0, none⟩) 0 0) 0 [] rfl O2 g 0 j cp (vals (d.take j)) rfl HVL.out.1 (D9.out _ B2).1 (vals_one _) (by unfold maxLen; omega) (by omega) ?_
                intro v49 W3 O3 E3
                have B3 := B2.trans (E3.below O2)
                obtain ⟨L3, N3⟩ := L2.ext N2 E3
                rw [Nat.zero_add, List.nil_append] at O3
                obtain ⟨g49, c49, rfl⟩ : ∃ g c, v49 = .slice (some ⟨g, 0, none⟩) (j) c := by obtain ⟨g, c, e, _⟩ := O3; exact ⟨g, c, e⟩
                refine hK.out _ _ (S9.out _ B3) (fun hH => ?_)
                clear hK K E3
                refine wpAnyH_ready (rs := [10]) (by kernel_rfl) (by simp) ?_
                refine AllReadyH.cons rfl (fun K hK => ?_) AllReadyH.nil
                refine append_op Try.elemVals (.tmp 49) (.tmp 54) rfl W9.heap.size W3.heap.size (.slice (some ⟨g49, 0, none⟩) j c49) j (vals (d.take j)) rfl O3 g54 0 1 1 (V.cs ⟨xt, xn, xs⟩) rfl rfl L3.2.2 (fun u hu => vals_one [⟨xt, xn, xs⟩] u (by simpa [vals] using hu)) (by unfold maxLen; omega) (by omega) ?_
                intro v55 W4 O4 E4
                have B4 := B3.trans (E4.below O3)
                obtain ⟨g55, c55, rfl⟩ : ∃ g c, v55 = .slice (some ⟨g, 0, none⟩) (j + 1) c := by obtain ⟨g, c, e, _⟩ := O4; exact ⟨g, c, e⟩
                refine hK.out _ _ (S9.out _ B4) (fun hH => ?_)
                clear hK K E4
                refine wpAnyH_ready (rs := [14]) (by kernel_rfl) (by simp) ?_
                refine AllReadyH.cons rfl (fun K hK => ?_) AllReadyH.nil
                refine append_op Try.elemVals (.tmp 55) (.tmp 58) rfl W9.heap.size W4.heap.size (.slice (some ⟨g55, 0, none⟩) (j + 1) c55) (j + 1) (vals (d.take j) ++ V.cs ⟨xt, xn, xs⟩) rfl O4 g tl (m - j) (cp - j) (vals (d.drop j)) rfl HVL.out.2 (D9.out _ B4).2 (vals_one _) (by unfold maxLen; omega) (by omega) ?_
                intro v59 W5 O5 E5
                have B5 := B4.trans (E5.below O4)
                rw [HFIN.out.1, HFIN.out.2] at O5
                obtain ⟨g59, c59, rfl⟩ : ∃ g c, v59 = .slice (some ⟨g, 0, none⟩) (insV d ⟨xt, xn, xs⟩).length c := by obtain ⟨g, c, e, _⟩ := O5; exact ⟨g, c, e⟩
                refine hK.out _ _ (S9.out _ B5) (fun hH => ?_)
                clear hK K E5
                refine takeH (i := 15) (d := some 3) (v := .slice (some ⟨g59, 0, none⟩) (insV d ⟨xt, xn, xs⟩).length c59) rfl rfl (by kernel_rfl) (by kernel_rfl) (by kernel_rfl) (fun _ _ _ h => h) (Or.inl ⟨by rfl, fun W hSw => by go_simp⟩) hH ?_
                try simp only [put_some, List.set_cons_zero, List.set_cons_succ]
                have OF := Lib.hid O5
                have BF := Lib.hid B5
                clear O5 B5
                refine wpAnyH_done (by kernel_rfl) ?_ _
                go_wp2
                go_roundw
                case rel => exact ⟨k + 1, by omega, by go_num, by rw [HSK.out]; exact OF.out.lower (Nat.le_trans HBR.out.size B9.size), below_then HBR.out (below_then B9 BF.out B9.size) HBR.out.size⟩
                case measure => simp [intOf]; omega
        · have HJM : Hid (j = m) := by show _ = _; omega
          have HCE := Lib.hid (HSP.out j hjc (.inl (by omega)))
          have HO := Lib.hid (HNEW.out (.inl (by rw [← HCE.out]; exact HJM.out)))
          rw [← HCE.out] at HO
          have HOWN := Lib.hid hown
          have HBR := Lib.hid hbr
          have B3 := Lib.hid hb2
          have hjeq : ((j : Int) == (m : Int)) = true := by simp; omega
          have hjn : (j < m) = False := by simp; omega
          obtain ⟨xt, xn, xs⟩ := x
          simp only at p0 p1 p2
          clear hown hbr hb2 HNEW HOLD HSP HST hjl HCL hjc
          go_wp2
          go_quiet (fail)
          go_wp2
          go_quiet (fail)
          go_wp2
          generalize hW9 : World.drewN (World.drewN wr _) _ = W9
          have B9 : Below wo.heap.size wo W9 := by rw [← hW9]; exact (B3.out.trans (below_drewN _ _ _)).trans (below_drewN _ _ _)
          have c3' : W9.cell? ⟨b, off + k * 3, none⟩ = some (.int .i64 xt) := by rw [← hW9]; exact p0
          have c4' : W9.cell? ⟨b, off + k * 3 + 1, none⟩ = some (.int .i64 xn) := by rw [← hW9]; exact p1
          have c5' : W9.cell? ⟨b, off + k * 3 + 2, none⟩ = some (.string xs) := by rw [← hW9]; exact p2
          clear p0 p1 p2 hW9
          have hjcp : (cp < j) = False := by simp; omega
          obtain ⟨tl, htl, HTL⟩ : ∃ tl, (if cp = j then some (⟨g, 0, none⟩ : Addr) else some ⟨g, j * 3, none⟩) = some ⟨g, tl, none⟩ ∧ Hid (j < cp → tl = j * 3) := by
            by_cases e : cp = j
            · exact ⟨0, by rw [if_pos e], fun h => by omega⟩
            · exact ⟨j * 3, by rw [if_neg e], fun _ => rfl⟩
          refine wp_region_held_drew (S := fun W => W.cell? ⟨b, off + k * 3, none⟩ = some (.int .i64 xt) ∧ W.cell? ⟨b, off + k * 3 + 1, none⟩ = some (.int .i64 xn) ∧ W.cell? ⟨b, off + k * 3 + 2, none⟩ = some (.string xs)) (by kernel_rfl) ⟨c3', c4', c5'⟩ (fun hH => ?_)
          refine takeH (i := 1) (d := some 46) (v := .slice (some ⟨g, 0, none⟩) m cp) rfl rfl (by kernel_rfl) (by kernel_rfl) (by kernel_rfl) (fun _ _ _ h => h) (Or.inl ⟨by rfl, fun W hSw => by go_simp⟩) hH ?_
          simp only [put_some, List.set_cons_zero, List.set_cons_succ]
          refine takeH (i := 2) (d := some 47) (v := .int .i64 (j : Int)) rfl rfl (by kernel_rfl) (by kernel_rfl) (by kernel_rfl) (fun _ _ _ h => h) (Or.inl ⟨by rfl, fun W hSw => by go_simp⟩) hH ?_
          simp only [put_some, List.set_cons_zero, List.set_cons_succ]
          refine takeH (i := 3) (d := some 48) (v := .slice (some ⟨g, 0, none⟩) j cp) rfl rfl (by kernel_rfl) (by kernel_rfl) (by kernel_rfl) (fun _ _ _ h => h) (Or.inl ⟨by rfl, fun W hSw => by go_simp⟩) hH ?_
          simp only [put_some, List.set_cons_zero, List.set_cons_succ]
          refine takeH (i := 5) (d := some 50) (v := .slice (some ⟨b, off, none⟩) n cap) rfl rfl (by kernel_rfl) (by kernel_rfl) (by kernel_rfl) (fun _ _ _ h => h) (Or.inl ⟨by rfl, fun W hSw => by go_simp⟩) hH ?_
          simp only [put_some, List.set_cons_zero, List.set_cons_succ]
          refine takeH (i := 6) (d := some 51) (v := .int .i64 (k : Int)) rfl rfl (by kernel_rfl) (by kernel_rfl) (by kernel_rfl) (fun _ _ _ h => h) (Or.inl ⟨by rfl, fun W hSw => by go_simp⟩) hH ?_
          simp only [put_some, List.set_cons_zero, List.set_cons_succ]
          refine takeH (i := 7) (d := some 52) (v := .pointer (some ⟨b, off + k * 3, none⟩)) rfl rfl (by kernel_rfl) (by kernel_rfl) (by kernel_rfl) (fun _ _ _ h => h) (Or.inl ⟨by rfl, fun W hSw => by go_simp⟩) hH ?_
          simp only [put_some, List.set_cons_zero, List.set_cons_succ]
          refine takeH (i := 8) (d := some 53) (v := .agg #[.int .i64 xt, .int .i64 xn, .string xs]) rfl rfl (by kernel_rfl) (by kernel_rfl) (by kernel_rfl) (fun _ _ _ h => h) (Or.inl ⟨by rfl, fun W hSw => by go_simp⟩) hH ?_
          simp only [put_some, List.set_cons_zero, List.set_cons_succ]
          refine takeH (i := 11) (d := some 56) (v := .slice (some ⟨g, 0, none⟩) m cp) rfl rfl (by kernel_rfl) (by kernel_rfl) (by kernel_rfl) (fun _ _ _ h => h) (Or.inl ⟨by rfl, fun W hSw => by go_simp⟩) hH ?_
          simp only [put_some, List.set_cons_zero, List.set_cons_succ]
          refine takeH (i := 12) (d := some 57) (v := .int .i64 (j : Int)) rfl rfl (by kernel_rfl) (by kernel_rfl) (by kernel_rfl) (fun _ _ _ h => h) (Or.inl ⟨by rfl, fun W hSw => by go_simp⟩) hH ?_
          simp only [put_some, List.set_cons_zero, List.set_cons_succ]
          refine takeH (i := 13) (d := some 58) (v := .slice (some ⟨g, tl, none⟩) (m - j) (cp - j)) rfl rfl (by kernel_rfl) (by kernel_rfl) (by kernel_rfl) (fun _ _ _ h => h) (Or.inl ⟨by rfl, fun W hSw => by go_simp⟩) hH ?_
          simp only [put_some, List.set_cons_zero, List.set_cons_succ]
          clear htl hjcp
          have D9 : Hid (∀ W, Below W9.heap.size W9 W → (∀ i u, (vals (d.take j))[i]? = some u → W.cell? ⟨g, 0 + i, none⟩ = some u) ∧ (∀ i u, (vals (d.drop j))[i]? = some u → W.cell? ⟨g, tl + i, none⟩ = some u)) := tails HM.out HDL.out hjm hcp HTL.out B9
          have S9 : Hid (∀ W, Below W9.heap.size W9 W → W.cell? ⟨b, off + k * 3, none⟩ = some (.int .i64 xt) ∧ W.cell? ⟨b, off + k * 3 + 1, none⟩ = some (.int .i64 xn) ∧ W.cell? ⟨b, off + k * 3 + 2, none⟩ = some (.string xs)) := fun W h => ⟨(h.cell (p := ⟨b, off + k * 3, none⟩) (lt_of_cell c3')).trans c3', (h.cell (p := ⟨b, off + k * 3 + 1, none⟩) (lt_of_cell c4')).trans c4', (h.cell (p := ⟨b, off + k * 3 + 2, none⟩) (lt_of_cell c5')).trans c5'⟩
          have HVL : Hid ((vals (d.take j)).length = j * 3 ∧ (vals (d.drop j)).length = (m - j) * 3) := by
            have e := HM.out
            refine ⟨?_, ?_⟩
            · rw [vals_len, List.length_take]; congr 1; omega
            · rw [vals_len, List.length_drop, e]
          have HFIN : Hid ((vals (d.take j) ++ V.cs ⟨xt, xn, xs⟩) ++ vals (d.drop j) = vals (insV d ⟨xt, xn, xs⟩) ∧ j + 1 + (m - j) = (insV d ⟨xt, xn, xs⟩).length) := by
            have e := HM.out
            rw [HO.out]
            refine ⟨by simp [vals], ?_⟩
            simp only [List.length_append, List.length_take, List.length_drop, List.length_cons, List.length_nil]
            omega
          have B0 : Below W9.heap.size W9 W9.drew := (Below.refl _ _).drew
          generalize hW0 : W9.drew = W0 at hH B0 ⊢
          clear hW0 c3' c4' c5'
          refine wpAnyH_ready (rs := [0, 9]) (by kernel_rfl) (by simp) ?_
          refine AllReadyH.cons rfl (fun K hK => ?_) (AllReadyH.cons rfl (fun K hK => ?_) AllReadyH.nil)
          · skip
            go_simp
            have B1 := B0.alloc B0.size (.cells #[] 37)
            have O1 := own_none (e := 37) (N := W9.heap.size) W0 B0.size
            refine hK.out _ _ (S9.out _ B1) (fun hH => ?_)
            clear hK K
            generalize W0.heap.size = g45 at O1 ⊢
            generalize W0.alloc (.cells #[] 37) = W1 at B1 O1 hH ⊢
            refine wpAnyH_ready (rs := [4, 9]) (by kernel_rfl) (by simp) ?_
            refine AllReadyH.cons rfl (fun K hK => ?_) (AllReadyH.cons rfl (fun K hK => ?_) AllReadyH.nil)
            · skip
              refine append_op Try.elemVals (.tmp 45) (.tmp 48) rfl W9.heap.size W1.heap.size (.slice (some ⟨g45, 0, none⟩) 0 0) 0 [] rfl O1 g 0 j cp (vals (d.take j)) rfl HVL.out.1 (D9.out _ B1).1 (vals_one _) (by unfold maxLen; omega) (by omega) ?_
              intro v49 W2 O2 E2
              have B2 := B1.trans (E2.below O1)
              rw [Nat.zero_add, List.nil_append] at O2
              obtain ⟨g49, c49, rfl⟩ : ∃ g c, v49 = .slice (some ⟨g, 0, none⟩) (j) c := by obtain ⟨g, c, e, _⟩ := O2; exact ⟨g, c, e⟩
              refine hK.out _ _ (S9.out _ B2) (fun hH => ?_)
              clear hK K E2
              refine wpAnyH_ready (rs := [9]) (by kernel_rfl) (by simp) ?_
              refine AllReadyH.cons rfl (fun K hK => ?_) AllReadyH.nil
              go_simp
              have B3 := B2.alloc B2.size (.cells #[.int .i64 xt, .int .i64 xn, .string xs] 37)
              have L3 : Lit1 W9.heap.size _ _ _ := Lit1.new W2 ⟨xt, xn, xs⟩ 37 B2.size
              have N3 := O2.notNew
              have O3 := O2.stay (.cells #[.int .i64 xt, .int .i64 xn, .string xs] 37)
              refine hK.out _ _ (S9.out _ B3) (fun hH => ?_)
              clear hK K
              generalize W2.heap.size = g54 at L3 O3 N3 ⊢
              generalize W2.alloc (.cells #[.int .i64 xt, .int .i64 xn, .string xs] 37) = W3 at B3 L3 O3 hH ⊢
              refine wpAnyH_ready (rs := [10]) (by kernel_rfl) (by simp) ?_
              refine AllReadyH.cons rfl (fun K hK => ?_) AllReadyH.nil
              refine append_op Try.elemVals (.tmp 49) (.tmp 54) rfl W9.heap.size W3.heap.size (.slice (some ⟨g49, 0, none⟩) j c49) j (vals (d.take j)) rfl O3 g54 0 1 1 (V.cs ⟨xt, xn, xs⟩) rfl rfl L3.2.2 (fun u hu => vals_one [⟨xt, xn, xs⟩] u (by simpa [vals] using hu)) (by unfold maxLen; omega) (by omega) ?_
              intro v55 W4 O4 E4
              have B4 := B3.trans (E4.below O3)
              obtain ⟨g55, c55, rfl⟩ : ∃ g c, v55 = .slice (some ⟨g, 0, none⟩) (j + 1) c := by obtain ⟨g, c, e, _⟩ := O4; exact ⟨g, c, e⟩
              refine hK.out _ _ (S9.out _ B4) (fun hH => ?_)
              clear hK K E4
              refine wpAnyH_ready (rs := [14]) (by kernel_rfl) (by simp) ?_
              refine AllReadyH.cons rfl (fun K hK => ?_) AllReadyH.nil
              refine append_op Try.elemVals (.tmp 55) (.tmp 58) rfl W9.heap.size W4.heap.size (.slice (some ⟨g55, 0, none⟩) (j + 1) c55) (j + 1) (vals (d.take j) ++ V.cs ⟨xt, xn, xs⟩) rfl O4 g tl (m - j) (cp - j) (vals (d.drop j)) rfl HVL.out.2 (D9.out _ B4).2 (vals_one _) (by unfold maxLen; omega) (by omega) ?_
              intro v59 W5 O5 E5
              have B5 := B4.trans (E5.below O4)
              rw [HFIN.out.1, HFIN.out.2] at O5
              obtain ⟨g59, c59, rfl⟩ : ∃ g c, v59 = .slice (some ⟨g, 0, none⟩) (insV d ⟨xt, xn, xs⟩).length c := by obtain ⟨g, c, e, _⟩ := O5; exact ⟨g, c, e⟩
              refine hK.out _ _ (S9.out _ B5) (fun hH => ?_)
              clear hK K E5
              refine takeH (i := 15) (d := some 3) (v := .slice (some ⟨g59, 0, none⟩) (insV d ⟨xt, xn, xs⟩).length c59) rfl rfl (by kernel_rfl) (by kernel_rfl) (by kernel_rfl) (fun _ _ _ h => h) (Or.inl ⟨by rfl, fun W hSw => by go_simp⟩) hH ?_
              try simp only [put_some, List.set_cons_zero, List.set_cons_succ]
              have OF := Lib.hid O5
              have BF := Lib.hid B5
              clear O5 B5
              refine wpAnyH_done (by kernel_rfl) ?_ _
              go_wp2
              go_roundw
              case rel => exact ⟨k + 1, by omega, by go_num, by rw [HSK.out]; exact OF.out.lower (Nat.le_trans HBR.out.size B9.size), below_then HBR.out (below_then B9 BF.out B9.size) HBR.out.size⟩
              case measure => simp [intOf]; omega
            · skip
              go_simp
              have B2 := B1.alloc B1.size (.cells #[.int .i64 xt, .int .i64 xn, .string xs] 37)
              have L2 : Lit1 W9.heap.size _ _ _ := Lit1.new W1 ⟨xt, xn, xs⟩ 37 B1.size
              have N2 := O1.notNew
              have O2 := O1.stay (.cells #[.int .i64 xt, .int .i64 xn, .string xs] 37)
              refine hK.out _ _ (S9.out _ B2) (fun hH => ?_)
              clear hK K
              generalize W1.heap.size = g54 at L2 O2 N2 ⊢
              generalize W1.alloc (.cells #[.int .i64 xt, .int .i64 xn, .string xs] 37) = W2 at B2 L2 O2 hH ⊢
              refine wpAnyH_ready (rs := [4]) (by kernel_rfl) (by simp) ?_
              refine AllReadyH.cons rfl (fun K hK => ?_) AllReadyH.nil
              refine append_op Try.elemVals (.tmp 45) (.tmp 48) rfl W9.heap.size W2.heap.size (.slice (some ⟨g45, 0, none⟩) 0 0) 0 [] rfl O2 g 0 j cp (vals (d.take j)) rfl HVL.out.1 (D9.out _ B2).1 (vals_one _) (by unfold maxLen; omega) (by omega) ?_
              intro v49 W3 O3 E3
              have B3 := B2.trans (E3.below O2)
              obtain ⟨L3, N3⟩ := L2.ext N2 E3
              rw [Nat.zero_add, List.nil_append] at O3
              obtain ⟨g49, c49, rfl⟩ : ∃ g c, v49 = .slice (some ⟨g, 0, none⟩) (j) c := by obtain ⟨g, c, e, _⟩ := O3; exact ⟨g, c, e⟩
              refine hK.out _ _ (S9.out _ B3) (fun hH => ?_)
              clear hK K E3
              refine wpAnyH_ready (rs := [10]) (by kernel_rfl) (by simp) ?_
              refine AllReadyH.cons rfl (fun K hK => ?_) AllReadyH.nil
              refine append_op Try.elemVals (.tmp 49) (.tmp 54) rfl W9.heap.size W3.heap.size (.slice (some ⟨g49, 0, none⟩) j c49) j (vals (d.take j)) rfl O3 g54 0 1 1 (V.cs ⟨xt, xn, xs⟩) rfl rfl L3.2.2 (fun u hu => vals_one [⟨xt, xn, xs⟩] u (by simpa [vals] using hu)) (by unfold maxLen; omega) (by omega) ?_
              intro v55 W4 O4 E4
              have B4 := B3.trans (E4.below O3)
              obtain ⟨g55, c55, rfl⟩ : ∃ g c, v55 = .slice (some ⟨g, 0, none⟩) (j + 1) c := by obtain ⟨g, c, e, _⟩ := O4; exact ⟨g, c, e⟩
              refine hK.out _ _ (S9.out _ B4) (fun hH => ?_)
              clear hK K E4
              refine wpAnyH_ready (rs := [14]) (by kernel_rfl) (by simp) ?_
              refine AllReadyH.cons rfl (fun K hK => ?_) AllReadyH.nil
              refine append_op Try.elemVals (.tmp 55) (.tmp 58) rfl W9.heap.size W4.heap.size (.slice (some ⟨g55, 0, none⟩) (j + 1) c55) (j + 1) (vals (d.take j) ++ V.cs ⟨xt, xn, xs⟩) rfl O4 g tl (m - j) (cp - j) (vals (d.drop j)) rfl HVL.out.2 (D9.out _ B4).2 (vals_one _) (by unfold maxLen; omega) (by omega) ?_
              intro v59 W5 O5 E5
              have B5 := B4.trans (E5.below O4)
              rw [HFIN.out.1, HFIN.out.2] at O5
              obtain ⟨g59, c59, rfl⟩ : ∃ g c, v59 = .slice (some ⟨g, 0, none⟩) (insV d ⟨xt, xn, xs⟩).length c := by obtain ⟨g, c, e, _⟩ := O5; exact ⟨g, c, e⟩
              refine hK.out _ _ (S9.out _ B5) (fun hH => ?_)
              clear hK K E5
              refine takeH (i := 15) (d := some 3) (v := .slice (some ⟨g59, 0, none⟩) (insV d ⟨xt, xn, xs⟩).length c59) rfl rfl (by kernel_rfl) (by kernel_rfl) (by kernel_rfl) (fun _ _ _ h => h) (Or.inl ⟨by rfl, fun W hSw => by go_simp⟩) hH ?_
              try simp only [put_some, List.set_cons_zero, List.set_cons_succ]
              have OF := Lib.hid O5
              have BF := Lib.hid B5
              clear O5 B5
              refine wpAnyH_done (by kernel_rfl) ?_ _
              go_wp2
              go_roundw
              case rel => exact ⟨k + 1, by omega, by go_num, by rw [HSK.out]; exact OF.out.lower (Nat.le_trans HBR.out.size B9.size), below_then HBR.out (below_then B9 BF.out B9.size) HBR.out.size⟩
              case measure => simp [intOf]; omega
          · skip
            go_simp
            have B1 := B0.alloc B0.size (.cells #[.int .i64 xt, .int .i64 xn, .string xs] 37)
            have L1 : Lit1 W9.heap.size _ _ _ := Lit1.new W0 ⟨xt, xn, xs⟩ 37 B0.size
            refine hK.out _ _ (S9.out _ B1) (fun hH => ?_)
            clear hK K
            generalize W0.heap.size = g54 at L1 ⊢
            generalize W0.alloc (.cells #[.int .i64 xt, .int .i64 xn, .string xs] 37) = W1 at B1 L1 hH ⊢
            refine wpAnyH_ready (rs := [0]) (by kernel_rfl) (by simp) ?_
            refine AllReadyH.cons rfl (fun K hK => ?_) AllReadyH.nil
            go_simp
            have B2 := B1.alloc B1.size (.cells #[] 37)
            have O2 := own_none (e := 37) (N := W9.heap.size) W1 B1.size
            have L2 := L1.alloc (.cells #[] 37)
            have N2 : Value.ownBlock (.slice (some ⟨W1.heap.size, 0, none⟩) 0 0) ≠ some g54 := by have := L1.2.1; simp only [Value.ownBlock, ne_eq, Option.some.injEq]; omega
            refine hK.out _ _ (S9.out _ B2) (fun hH => ?_)
            clear hK K
            generalize W1.heap.size = g45 at O2 L2 N2 ⊢
            generalize W1.alloc (.cells #[] 37) = W2 at B2 O2 L2 hH ⊢
            refine wpAnyH_ready (rs := [4]) (by kernel_rfl) (by simp) ?_
            refine AllReadyH.cons rfl (fun K hK => ?_) AllReadyH.nil
            refine append_op Try.elemVals (.tmp 45) (.tmp 48) rfl W9.heap.size W2.heap.size (.slice (some ⟨g45, 0, none⟩) 0 0) 0 [] rfl O2 g 0 j cp (vals (d.take j)) rfl HVL.out.1 (D9.out _ B2).1 (vals_one _) (by unfold maxLen; omega) (by omega) ?_
            intro v49 W3 O3 E3
            have B3 := B2.trans (E3.below O2)
            obtain ⟨L3, N3⟩ := L2.ext N2 E3
            rw [Nat.zero_add, List.nil_append] at O3
            obtain ⟨g49, c49, rfl⟩ : ∃ g c, v49 = .slice (some ⟨g, 0, none⟩) (j) c := by obtain ⟨g, c, e, _⟩ := O3; exact ⟨g, c, e⟩
            refine hK.out _ _ (S9.out _ B3) (fun hH => ?_)
            clear hK K E3
            refine wpAnyH_ready (rs := [10]) (by kernel_rfl) (by simp) ?_
            refine AllReadyH.cons rfl (fun K hK => ?_) AllReadyH.nil
            refine append_op Try.elemVals (.tmp 49) (.tmp 54) rfl W9.heap.size W3.heap.size (.slice (some ⟨g49, 0, none⟩) j c49) j (vals (d.take j)) rfl O3 g54 0 1 1 (V.cs ⟨xt, xn, xs⟩) rfl rfl L3.2.2 (fun u hu => vals_one [⟨xt, xn, xs⟩] u (by simpa [vals] using hu)) (by unfold maxLen; omega) (by omega) ?_
            intro v55 W4 O4 E4
            have B4 := B3.trans (E4.below O3)
            obtain ⟨g55, c55, rfl⟩ : ∃ g c, v55 = .slice (some ⟨g, 0, none⟩) (j + 1) c := by obtain ⟨g, c, e, _⟩ := O4; exact ⟨g, c, e⟩
            refine hK.out _ _ (S9.out _ B4) (fun hH => ?_)
            clear hK K E4
            refine wpAnyH_ready (rs := [14]) (by kernel_rfl) (by simp) ?_
            refine AllReadyH.cons rfl (fun K hK => ?_) AllReadyH.nil
            refine append_op Try.elemVals (.tmp 55) (.tmp 58) rfl W9.heap.size W4.heap.size (.slice (some ⟨g55, 0, none⟩) (j + 1) c55) (j + 1) (vals (d.take j) ++ V.cs ⟨xt, xn, xs⟩) rfl O4 g tl (m - j) (cp - j) (vals (d.drop j)) rfl HVL.out.2 (D9.out _ B4).2 (vals_one _) (by unfold maxLen; omega) (by omega) ?_
            intro v59 W5 O5 E5
            have B5 := B4.trans (E5.below O4)
            rw [HFIN.out.1, HFIN.out.2] at O5
            obtain ⟨g59, c59, rfl⟩ : ∃ g c, v59 = .slice (some ⟨g, 0, none⟩) (insV d ⟨xt, xn, xs⟩).length c := by obtain ⟨g, c, e, _⟩ := O5; exact ⟨g, c, e⟩
            refine hK.out _ _ (S9.out _ B5) (fun hH => ?_)
            clear hK K E5
            refine takeH (i := 15) (d := some 3) (v := .slice (some ⟨g59, 0, none⟩) (insV d ⟨xt, xn, xs⟩).length c59) rfl rfl (by kernel_rfl) (by kernel_rfl) (by kernel_rfl) (fun _ _ _ h => h) (Or.inl ⟨by rfl, fun W hSw => by go_simp⟩) hH ?_
            try simp only [put_some, List.set_cons_zero, List.set_cons_succ]
            have OF := Lib.hid O5
            have BF := Lib.hid B5
            clear O5 B5
            refine wpAnyH_done (by kernel_rfl) ?_ _
            go_wp2
            go_roundw
            case rel => exact ⟨k + 1, by omega, by go_num, by rw [HSK.out]; exact OF.out.lower (Nat.le_trans HBR.out.size B9.size), below_then HBR.out (below_then B9 BF.out B9.size) HBR.out.size⟩
            case measure => simp [intOf]; omega
    · obtain rfl : k = n := by omega
      rw [← HL.out, List.take_length] at hown
      go_wp2
      go_ret
      exact ⟨_, rfl, hown, hbr⟩

end Go.Proofs.Ytoidpibdjijamaa

/- The contract of the model's EncDict. -/
namespace Go.Proofs.Ytoidpibdjijamaa
open Go.RowKit

/-- EncDict. -/
def putAll (b : List Int) (d : List V) : List Int := d.foldl putV b
theorem putAll_snoc (b : List Int) (d : List V) (v : V) : putAll b (d ++ [v]) = putV (putAll b d) v := by simp [putAll]
theorem putAll_len (b : List Int) (d : List V) : (putAll b d).length ≤ b.length + 7 * d.length := by
  unfold putAll
  induction d generalizing b with
  | nil => simp
  | cons v d ih =>
    have h1 := ih (putV b v)
    have h2 := (putV_len b v).2
    simp only [List.foldl_cons, List.length_cons]
    omega
theorem putAll_bytes {b : List Int} (h : Num.Bytes b) (d : List V) : Num.Bytes (putAll b d) := by
  unfold putAll
  induction d generalizing b with
  | nil => exact h
  | cons v d ih => exact ih (putV_bytes h v)
def encD (l : List V) : List Int :=
  if typeV l = 0 then [] else putAll (Num.put [] (dictL l).length) (dictL l) ++ Bit.pack (placesL (dictL l) l).1 (Bit.widthI ((dictL l).length - 1))
theorem encD_bytes (l : List V) : Num.Bytes (encD l) := by
  unfold encD
  split
  · exact nil_bytes
  · exact bytes_append (putAll_bytes (Num.put_bytes nil_bytes _) _) (Bit.pack_bytes _ _)
theorem encD_len (l : List V) : (encD l).length ≤ 1024 := by
  unfold encD
  split
  · simp
  · rename_i h
    have h1 := typeV_len h
    have h2 := dict_len l
    have h3 := putAll_len (Num.put [] (dictL l).length) (dictL l)
    have h4 := Num.put_len [] ((dictL l).length : Int)
    have h5 := Bit.pack_le (placesL (dictL l) l).1 (Bit.widthI ((dictL l).length - 1))
    have h6 := places_len (dictL l) l
    simp only [List.length_append, List.length_nil] at *
    omega
theorem dict_all {l : List V} {p : V → Prop} (h : ∀ v ∈ l, p v) : ∀ v ∈ dictL l, p v := fun v hv => h v (mem_dict.1 hv)

set_option maxHeartbeats 2000000 in
theorem sEncDict (u : Value) (l : List V) (w : World) (hn : l.length ≤ 1048576) (hss : ∀ v ∈ l, v.s.size ≤ maxLen) (h : Rd 3 w u l.length (vals l)) :
    Calls Try.prog 17 #[u] w fun e w' => ∃ v', e = .returned v' ∧ Own 5 1 w.heap.size w'.heap.size w' v' (encD l).length (ints .u8 (encD l)) ∧ Below w.heap.size w w' := by
  have HE : Hid (encD l = if typeV l = 0 then [] else putAll (Num.put [] (dictL l).length) (dictL l) ++ Bit.pack (placesL (dictL l) l).1 (Bit.widthI ((dictL l).length - 1))) := rfl
  have HTL : Hid (¬ typeV l = 0 → l.length ≤ 64) := typeV_len
  have HT := Lib.hid (sTypeOf u l w hss h)
  have HD := Lib.hid (fun W (hW : Below w.heap.size w W) => sDict u l W hn (h.below hW))
  have HP := Lib.hid (fun x d W (hW : Below w.heap.size w W) (hx : Rd 3 W x d.length (vals d)) => sPlaces x u d l W hn hx (h.below hW))
  have HDL := Lib.hid (dict_len l)
  have HSD : Hid (∀ v ∈ dictL l, v.s.size ≤ maxLen) := dict_all hss
  generalize typeV l = ty at HE HTL HT
  generalize dictL l = d at HE HD HDL HSD
  clear hss h hn
  go_enter Try.func17, Try.ntmps17
  go_wp2_with fail
  refine HT.out.mono ?_
  rintro e w1 ⟨rfl, b1⟩
  clear HT
  by_cases ht : ty = 0
  · subst ht
    rw [if_pos rfl] at HE
    have O1 := own_lit (e := 5) (size := 1) w1 #[] 0 (Nat.zero_le _) rfl
    have B1 := b1.alloc b1.size (.cells #[] 5)
    have z1 := b1.size
    go_wp2
    go_ret
    rw [HE.out]
    exact ⟨_, rfl, O1.lower z1, B1⟩
  · have htb : (ty == 0) = false := by simpa using ht
    have h64 := HTL.out ht
    have hd64 : d.length ≤ 64 := Nat.le_trans HDL.out h64
    rw [if_neg ht] at HE
    clear ht HTL
    go_wp2_with fail
    refine (HD.out w1 b1).mono ?_
    rintro e w2 ⟨v2, rfl, o2, hb2⟩
    have b2 := below_then b1 hb2 b1.size
    replace o2 := o2.lower b1.size
    have HP2 := Lib.hid (HP.out v2 d w2 b2 o2.rd)
    clear hb2 HD htb b1
    go_wp2_with fail
    refine HP2.out.mono ?_
    rintro e w3 ⟨v3, rfl, o3, hb3⟩
    have b3 := below_then b2 hb3 b2.size
    have z3 := hb3.size
    replace o2 := o2.below hb3 (Nat.le_refl _)
    replace o3 := o3.lower b2.size
    clear hb3 HP2 HP
    generalize hp : (placesL d l).1 = p at o3 HE
    have HPL : Hid (p.length ≤ 64) := by
      show _ ≤ _
      rw [← hp]
      exact Nat.le_trans (places_len d l) h64
    clear hp h64
    have HDS : Hid (∀ k, k < d.length → putAll (Num.put [] d.length) (d.take (k + 1)) = putV (putAll (Num.put [] d.length) (d.take k)) (d.getD k V.zero)) := fun k hk => by
      rw [getDe d V.zero hk, List.take_succ_eq_append_getElem hk, putAll_snoc]
    have HDN : Hid (∀ k, k ≤ d.length → (putAll (Num.put [] d.length) (d.take k)).length ≤ 5 + 7 * k) := fun k hk => by
      have h1 := putAll_len (Num.put [] d.length) (d.take k)
      have h2 := Num.put_len [] (d.length : Int)
      have e : (d.take k).length = k := by simp; omega
      simp only [List.length_nil] at h2
      omega
    have HSS : Hid (∀ k, k < d.length → (d.getD k V.zero).s.size ≤ maxLen) := fun k hk => by
      rw [getDe d V.zero hk]
      exact HSD.out _ (List.getElem_mem hk)
    generalize hm : d.length = m at o2 HDS HDN HSS HE hd64
    have HM := Lib.hid hm
    obtain ⟨g2, cp2, rfl, hg1, hg2, hrow⟩ := o2
    have o2 : Own 37 3 w.heap.size w2.heap.size w3 (.slice (some ⟨g2, 0, none⟩) m cp2) m (vals d) := ⟨g2, cp2, rfl, hg1, hg2, hrow⟩
    clear hg1 hg2 hrow HDL HSD
    have O4 := own_lit (e := 5) (size := 1) w3 #[] 0 (Nat.zero_le _) rfl
    have hb4 := below_alloc w3 (.cells #[] 5)
    have HN := Lib.hid (sPutNum _ 0 [] (m : Int) _ (by omega) rfl O4.at)
    clear O4
    go_wp2_with fail
    refine HN.out.mono ?_
    rintro e w4 ⟨v4, rfl, o4, hb5⟩
    have hb6 := below_then hb4 hb5 hb4.size
    have b4 := below_then b3 hb6 b3.size
    have z4 := hb6.size
    replace o2 := o2.below hb6 z3
    replace o3 := o3.below hb6 (Nat.le_refl _)
    replace o4 := o4.lower (lo' := w.heap.size) (Nat.le_trans b3.size hb4.size)
    clear hb4 hb5 hb6 HN b3 b2
    obtain ⟨a', cap', e', _, HC⟩ := Rd.vals o2.rd hm
    simp only [Value.slice.injEq, true_and] at e'
    obtain ⟨rfl, rfl⟩ := e'
    clear hm
    have hput0 : Hid (putAll (Num.put [] m) (d.take 0) = Num.put [] m) := by
      show _ = _
      simp [putAll]
    rw [← hput0.out] at o4
    generalize hq0 : putAll (Num.put [] (m : Int)) = q at o4 HDS HDN HE
    clear hput0 hq0
    go_wp2
    go_loopw [6, 7] (fun o i wr => ∃ k : Nat, k ≤ m ∧ i = .int .i64 k ∧ Own 5 1 w.heap.size wr.heap.size wr o (q (d.take k)).length (ints .u8 (q (d.take k))) ∧ Below w4.heap.size w4 wr) (fun _ i _ => m - (intOf i).toNat)
    case atStart => exact ⟨0, Nat.zero_le _, rfl, o4, Below.refl _ _⟩
    case round =>
      obtain ⟨k, hk, rfl, hown, hbr⟩ := hrel
      by_cases hlt : k < m
      · obtain ⟨b, off, e', p0, p1, p2⟩ := HC.out k hlt
        simp only [Option.some.injEq, Addr.mk.injEq, and_true] at e'
        obtain ⟨rfl, rfl⟩ := e'
        have HSK := Lib.hid (HDS.out k hlt)
        have hel := HDN.out k hk
        have HP := Lib.hid (sPutVal _ (q (d.take k)).length (q (d.take k)) (d.getD k V.zero) wr (by omega) (HSS.out k hlt) rfl hown.at)
        rw [← HSK.out] at HP
        replace p0 := (hbr.cell (p := ⟨g2, 0 + k * 3, none⟩) (lt_of_cell p0)).trans p0
        replace p1 := (hbr.cell (p := ⟨g2, 0 + k * 3 + 1, none⟩) (lt_of_cell p1)).trans p1
        replace p2 := (hbr.cell (p := ⟨g2, 0 + k * 3 + 2, none⟩) (lt_of_cell p2)).trans p2
        generalize d.getD k V.zero = x at p0 p1 p2 HP
        obtain ⟨t1, n1, s1⟩ := x
        simp only [Nat.zero_add] at p0 p1 p2
        have z5 := hbr.size
        go_wp2_with fail
        refine HP.out.mono ?_
        rintro e w5 ⟨v5, rfl, o5, hb5⟩
        have B5 := below_then hbr hb5 hbr.size
        have O5 := Lib.hid (o5.lower (lo' := w.heap.size) (Nat.le_trans b4.size z5))
        clear o5 hb5 hbr hown HP p0 p1 p2
        go_wp2
        go_roundw
        case rel => exact ⟨k + 1, by omega, by go_num, O5.out, B5⟩
        case measure => simp [intOf]; omega
      · obtain rfl : k = m := by omega
        have hel := HDN.out k hk
        have hqd : Hid (d.take k = d) := by show _ = _; rw [← HM.out, List.take_length]
        rw [hqd.out] at hown hel
        replace o3 := o3.below hbr z4
        have b5 := below_then b4 hbr b4.size
        have z5 := hbr.size
        have HWD := Lib.hid (fun W => sWidthOf ((k : Int) - 1) W)
        generalize Bit.widthI ((k : Int) - 1) = wd at HWD HE
        have HPK := Lib.hid (sPackBits v3 p.length p (wd : Int) wr (by have := HPL.out; omega) rfl (.inr o3.at))
        have hpk : (Bit.pack p wd).length ≤ 256 := by
          have h1 := Bit.pack_le p wd
          have h2 := HPL.out
          omega
        generalize Bit.pack p (wd : Int) = pk at HPK HE hpk
        have HES : Hid (ints .u8 (q d) ++ ints .u8 pk = ints .u8 (encD l) ∧ (q d).length + pk.length = (encD l).length) := by
          rw [HE.out]
          exact ⟨(ints_append _ _ _).symm, (List.length_append).symm⟩
        clear hqd
        generalize hqn : (q d).length = qn at hown hel HES
        clear hqn
        generalize hpn : pk.length = pn at HPK HES hpk
        clear o3 hbr
        go_wp2_with (first | (go_at_call 57; refine (HWD.out _).mono ?_; rintro e w' ⟨rfl, rfl⟩) | fail)
        refine HPK.out.mono ?_
        rintro e w6 ⟨v6, rfl, o6, hb6⟩
        have b6 := below_then b5 hb6 b5.size
        replace hown := (hown.below hb6 (Nat.le_refl _)).wide hb6.size
        obtain ⟨g6, off6, cp6, rfl, hn6, hc6, hl6, hcs6⟩ := o6.at
        have HL6 := Lib.hid hl6
        have HC6 := Lib.hid hcs6
        clear hl6 hcs6 o6 hb6
        go_wp2_with (at_builtin; refine append_law Try.elemBytes rfl _ _ rfl _ _ _ _ _ rfl hown g6 off6 pn cp6 (ints .u8 pk) rfl HL6.out HC6.out (ints_one _ _) (by unfold maxLen; omega) (by omega) ?_)
        intro v7 w7 o7 e7
        have b7 := b6.trans (e7.below hown)
        rw [HES.out.1, HES.out.2] at o7
        have O7 := Lib.hid o7
        clear o7 e7 hown
        go_wp2
        go_ret
        exact ⟨_, rfl, O7.out, b7⟩

end Go.Proofs.Ytoidpibdjijamaa

/- The contract of the model's DecDict. -/
namespace Go.Proofs.Ytoidpibdjijamaa
open Go.RowKit

theorem get_bound {zs : List Int} (hb : Num.Bytes zs) {i : Int} (h : (Num.get zs i).2.2 = true) : 0 ≤ (Num.get zs i).2.1 ∧ (Num.get zs i).2.1 ≤ zs.length := by
  unfold Num.get at h ⊢
  split
  · rename_i hi
    rw [if_pos hi] at h
    split
    · rename_i u k hr
      have hbd : Num.Bytes (zs.drop i.toNat) := fun x hx => hb x (List.mem_of_mem_drop hx)
      have := Num.rd_bd hr hbd (by omega)
      have hl : (zs.drop i.toNat).length = zs.length - i.toNat := List.length_drop
      split
      · simp only
        omega
      · rename_i hu
        rw [hr] at h
        simp only [if_neg hu] at h
        cases h
    · rename_i hr
      rw [hr] at h
      cases h
  · rename_i hi
    rw [if_neg hi] at h
    cases h
theorem getV_bound {zs : List Int} (hb : Num.Bytes zs) {i ty : Int} (h : (getV zs i ty).2.2 = true) : 0 ≤ (getV zs i ty).2.1 ∧ (getV zs i ty).2.1 ≤ zs.length := by
  unfold getV at h ⊢
  split
  · rename_i ht
    rw [if_pos ht] at h
    split
    · rename_i hg
      exact get_bound hb hg
    · rename_i hg
      rw [if_neg hg] at h
      cases h
  · rename_i ht
    rw [if_neg ht] at h
    split
    · rename_i hc
      rw [if_pos hc] at h
      have hi := Num.inB_true.1 hc.2
      unfold getT at h ⊢
      split
      · rename_i hg
        have hlt : i.toNat < zs.length := by omega
        have hm := hb (zs.getD i.toNat 0) (by rw [getDe zs 0 hlt]; exact List.getElem_mem hlt)
        have := hg.1
        simp only
        omega
      · rename_i hg
        rw [if_neg hg] at h
        cases h
    · rename_i hc
      rw [if_neg hc] at h
      cases h

/-- DecDict, behind the values of the dictionary. -/
def decT (zs : List Int) (k : Int) (d : List V) (i : Int) : List V × Bool :=
  if (Bit.unpack (zs.drop i.toNat) (Bit.widthI ((d.length : Int) - 1)) k).2 = true ∧ (pickedL d (Bit.unpack (zs.drop i.toNat) (Bit.widthI ((d.length : Int) - 1)) k).1).2 = true ∧ encD (pickedL d (Bit.unpack (zs.drop i.toNat) (Bit.widthI ((d.length : Int) - 1)) k).1).1 = zs
  then ((pickedL d (Bit.unpack (zs.drop i.toNat) (Bit.widthI ((d.length : Int) - 1)) k).1).1, true) else ([], false)
/-- DecDict. -/
def decD (zs : List Int) (ty k : Int) : List V × Bool :=
  if (Num.get zs 0).2.2 = true ∧ Num.inB k 1 64 = true ∧ Num.inB (Num.get zs 0).1 1 k = true then
    (match decL zs ty (Num.get zs 0).1.toNat (Num.get zs 0).2.1 with
      | some r => decT zs k r.1 r.2
      | none => ([], false))
  else ([], false)
theorem decT_len (zs : List Int) (k : Int) (d : List V) (i : Int) : (decT zs k d i).1.length ≤ 64 := by
  unfold decT
  split
  · exact Nat.le_trans (picked_len _ _) (Bit.unpack_le _ _ _)
  · simp
theorem decD_len (zs : List Int) (ty k : Int) : (decD zs ty k).1.length ≤ 64 := by
  unfold decD
  split
  · split
    · exact decT_len _ _ _ _
    · simp
  · simp
theorem picked_all {d : List V} {p : List Int} {q : V → Prop} (h : ∀ v ∈ d, q v) : ∀ v ∈ (pickedL d p).1, q v := by
  unfold pickedL
  split
  · rename_i ha
    intro v hv
    obtain ⟨x, hx, rfl⟩ := List.mem_map.1 hv
    have h2 := of_decide_eq_true (List.all_eq_true.1 ha x hx)
    have hlt : x.toNat < d.length := by omega
    rw [getDe d V.zero hlt]
    exact h _ (List.getElem_mem hlt)
  · simp
theorem decL_size {zs : List Int} {ty : Int} : ∀ {n : Nat} {i : Int} {r : List V × Int}, decL zs ty n i = some r → ∀ u ∈ r.1, u.s.size ≤ maxLen := by
  intro n
  induction n with
  | zero =>
    intro i r h u hu
    simp only [decL, Option.some.injEq] at h
    subst h
    cases hu
  | succ n ih =>
    intro i r h u hu
    rw [decL] at h
    split at h
    · obtain ⟨q, hq, rfl⟩ := Option.map_eq_some_iff.1 h
      rcases List.mem_cons.1 hu with rfl | hu
      · exact getV_size _ _ _
      · exact ih hq u hu
    · cases h
theorem At.from {w : World} {b off n cap A tl : Nat} {zs : List Int} (hz : zs.length = n) (h : At 1 w (.slice (some ⟨b, off, none⟩) n cap) n (ints .u8 zs)) (hA : A ≤ n) (ht : A < cap → tl = off + A) : At 1 w (.slice (some ⟨b, tl, none⟩) (n - A) (cap - A)) (n - A) (ints .u8 (zs.drop A)) := by
  obtain ⟨b', off', cap', e, h1, h2, h3, h4⟩ := h
  simp only [Value.slice.injEq, Option.some.injEq, Addr.mk.injEq, and_true, true_and] at e
  obtain ⟨⟨rfl, rfl⟩, rfl⟩ := e
  refine ⟨_, _, _, rfl, by omega, by omega, ?_, fun j u hu => ?_⟩
  · rw [ints_len, List.length_drop, hz, Nat.mul_one]
  · have hlt := (List.getElem?_eq_some_iff.1 hu).1
    rw [ints_len, List.length_drop] at hlt
    have e2 : ints .u8 (zs.drop A) = (ints .u8 zs).drop A := by unfold ints; rw [List.map_drop]
    rw [e2, List.getElem?_drop] at hu
    have := h4 (A + j) u hu
    rw [ht (by omega), Nat.add_assoc]
    exact this
theorem tail_at (cap A b off : Nat) : ∃ tl, (if cap = A then some (⟨b, off, none⟩ : Addr) else some ⟨b, off + A, none⟩) = some ⟨b, tl, none⟩ ∧ Hid (A < cap → tl = off + A) := by
  by_cases e : cap = A
  · exact ⟨off, by rw [if_pos e], fun h => by omega⟩
  · exact ⟨off + A, by rw [if_neg e], fun _ => rfl⟩

set_option maxRecDepth 100000 in
set_option maxHeartbeats 4000000 in
theorem sDecDict (u : Value) (n : Nat) (zs : List Int) (ty k : Int) (w : World) (hn : n ≤ 1073741824) (hz : zs.length = n) (hby : Num.Bytes zs) (h : At 1 w u n (ints .u8 zs)) :
    Calls Try.prog 41 #[u, .int .i64 ty, .int .i64 k] w fun e w' => RDs w w' e (decD zs ty k) := by
  obtain ⟨W1, hW1⟩ : ∃ W1, w.alloc (.cells #[] 37) = W1 := ⟨_, rfl⟩
  have hs1 : W1.heap.size = w.heap.size + 1 := by rw [← hW1]; simp
  have hN : Own 37 3 w.heap.size W1.heap.size W1 (.slice (some ⟨w.heap.size, 0, none⟩) 0 0) 0 [] := by
    rw [← hW1]
    exact own_lit (e := 37) (size := 3) w #[] 0 (Nat.zero_le _) rfl
  have hb0 : Below w.heap.size w W1 := by rw [← hW1]; exact below_alloc w _
  have hat1 := h.below hb0
  have HG0 := Lib.hid (sGetNum u n zs 0 W1 (by omega) hz hby hat1)
  have HV := Lib.hid (fun i W (hW : Below W1.heap.size W1 W) => sGetVal u n zs i ty W hn hz hby (hat1.below hW))
  have HIK := Lib.hid (fun W => l1In k 1 64 W)
  have HEX : Hid (decD zs ty k = if (Num.get zs 0).2.2 = true ∧ Num.inB k 1 64 = true ∧ Num.inB (Num.get zs 0).1 1 k = true then (match decL zs ty (Num.get zs 0).1.toNat (Num.get zs 0).2.1 with | some r => decT zs k r.1 r.2 | none => ([], false)) else ([], false)) := rfl
  have HFIN : Hid (∀ e w', RDs w w' e ([], false) → decD zs ty k = ([], false) → RDs w w' e (decD zs ty k)) := fun e w' h1 h2 => by rw [h2]; exact h1
  have HB : Hid (∀ i, (getV zs i ty).2.2 = true → 0 ≤ (getV zs i ty).2.1 ∧ (getV zs i ty).2.1 ≤ n) := fun i hi => by
    rw [← hz]
    exact getV_bound hby hi
  obtain ⟨b, off, cap, rfl, hcn, hcm, _, _⟩ := id h
  generalize hg : Num.get zs 0 = g0 at HG0 HEX
  obtain ⟨x0, nx0, ok0⟩ := g0
  unfold getRes at HG0
  simp only at HG0 HEX
  have HIN := Lib.hid (fun W => l1In x0 1 k W)
  have HNO : Hid (∀ W, Below W1.heap.size W1 W → RDs w W (.returned (.tuple #[.slice (some ⟨w.heap.size, 0, none⟩) 0 0, .bool false])) ([], false)) := fun W hW => ⟨_, rfl, (hN.below hW (Nat.le_refl _)).wide hW.size, below_then hb0 hW hb0.size⟩
  clear hg
  by_cases hc : ok0 = true ∧ Num.inB k 1 64 = true ∧ Num.inB x0 1 k = true
  · obtain ⟨rfl, hk, hx⟩ := hc
    rw [if_pos ⟨rfl, hk, hx⟩] at HEX
    rw [hk] at HIK
    rw [hx] at HIN
    obtain ⟨k0, k1⟩ := Num.inB_true.1 hk
    obtain ⟨n0, n1⟩ := Num.inB_true.1 hx
    obtain ⟨N, rfl⟩ := Int.eq_ofNat_of_zero_le (show 0 ≤ x0 by omega)
    rw [Int.toNat_natCast] at HEX
    have hR0 := own_lit (e := 37) (size := 3) W1 #[] 0 (Nat.zero_le _) rfl
    have hbR := below_alloc W1 (.cells #[] 37)
    rw [hs1] at hR0
    have HD0 : Hid (decL zs ty N nx0 = (decL zs ty (N - 0) nx0).map fun r => ([] ++ r.1, r.2)) := by
      show _ = _
      simp
    have HST : Hid (∀ (j : Nat) (i : Int) (pre : List V), j < N → decL zs ty N nx0 = (decL zs ty (N - j) i).map (fun r => (pre ++ r.1, r.2)) → if (getV zs i ty).2.2 = true then decL zs ty N nx0 = (decL zs ty (N - (j + 1)) (getV zs i ty).2.1).map (fun r => ((pre ++ [(getV zs i ty).1]) ++ r.1, r.2)) else decL zs ty N nx0 = none) := fun j i pre hj hd => by
      rw [show N - j = (N - (j + 1)) + 1 by omega, decL] at hd
      split
      · rename_i hg
        rw [if_pos hg] at hd
        rw [hd, Option.map_map]
        congr 1
        funext r
        simp
      · rename_i hg
        rw [if_neg hg] at hd
        rw [hd]
        rfl
    have HFN : Hid (∀ (i : Int) (pre : List V), decL zs ty N nx0 = (decL zs ty (N - N) i).map (fun r => (pre ++ r.1, r.2)) → decL zs ty N nx0 = some (pre, i)) := fun i pre hd => by
      rw [hd, Nat.sub_self]
      simp [decL]
    have HNONE : Hid (decL zs ty N nx0 = none → decD zs ty k = ([], false)) := fun hd => by rw [HEX.out, hd]
    clear hk hx
    go_enter Try.func41, Try.ntmps41
    go_wp2_with (first | (go_at_call 67; refine HG0.out.mono ?_; rintro e w' ⟨rfl, rfl⟩) | (go_at_call 66; refine (HIK.out _).mono ?_; clear HIK; rintro e w' ⟨rfl, rfl⟩) | (go_at_call 66; refine (HIN.out _).mono ?_; rintro e w' ⟨rfl, rfl⟩))
    go_loopw [10, 12, 13] (fun p o i wr => ∃ (j : Nat) (q : Int) (pre : List V), j ≤ N ∧ i = .int .i64 j ∧ p = .int .i64 q ∧ pre.length = j ∧ (0 < j → 0 ≤ q ∧ q ≤ n) ∧ decL zs ty N nx0 = (decL zs ty (N - j) q).map (fun r => (pre ++ r.1, r.2)) ∧ Own 37 3 (w.heap.size + 1) wr.heap.size wr o pre.length (vals pre) ∧ Below W1.heap.size W1 wr) (fun _ _ i _ => N - (intOf i).toNat)
    case atStart => exact ⟨0, nx0, [], Nat.zero_le _, rfl, rfl, rfl, fun h => by omega, HD0.out, hR0, hbR⟩
    case round =>
      obtain ⟨j, q, pre, hj, rfl, rfl, hpl, hqb, hd, hown, hbr⟩ := hrel
      have HQB := Lib.hid hqb
      clear hqb
      by_cases hlt : j < N
      · have HSJ := Lib.hid (HST.out j q pre hlt hd)
        have HPL := Lib.hid hpl
        clear hd
        have HVJ := Lib.hid (HV.out q wr hbr)
        have HBJ := Lib.hid (HB.out q)
        generalize getV zs q ty = r at HSJ HVJ HBJ
        obtain ⟨⟨xt, xn, xs⟩, nx, ok⟩ := r
        unfold rGet at HVJ
        simp only at HSJ HVJ HBJ
        have HVA : Hid (vals pre ++ V.cs ⟨xt, xn, xs⟩ = vals (pre ++ [(⟨xt, xn, xs⟩ : V)])) := by
          show _ = _
          simp [vals]
        have HLN : Hid ((pre ++ [(⟨xt, xn, xs⟩ : V)]).length = pre.length + 1) := by
          show _ = _
          simp
        have hcl : pre.length ≤ 64 := by omega
        clear hpl
        generalize hcc : pre.length = c at hown HLN hcl HPL
        have HCC := Lib.hid hcc
        clear hcc
        go_wp2_with fail
        refine HVJ.out.mono ?_
        rintro e w2 ⟨rfl, hb2⟩
        have own2 := hown.below hb2 (Nat.le_refl _)
        have b2 := below_then hbr hb2 hbr.size
        have z2 := hb2.size
        clear hown hb2 HVJ
        cases ok with
        | true =>
          have HS2 : Hid (decL zs ty N nx0 = (decL zs ty (N - (j + 1)) nx).map (fun r => ((pre ++ [(⟨xt, xn, xs⟩ : V)]) ++ r.1, r.2))) := by
            have hd := HSJ.out
            rw [if_pos rfl] at hd
            exact hd
          have HNX := Lib.hid (HBJ.out rfl)
          have own3 := (own2.alloc (.cells #[.int .i64 xt, .int .i64 xn, .string xs] 37)).wide (hi' := (w2.alloc (.cells #[.int .i64 xt, .int .i64 xn, .string xs] 37)).heap.size) (by simp; omega)
          have b3 := b2.alloc b2.size (.cells #[.int .i64 xt, .int .i64 xn, .string xs] 37)
          clear own2 HSJ HBJ
          go_wp2_with (at_builtin; refine appendV_law Try.elemVals rfl _ _ rfl _ _ _ _ _ ⟨xt, xn, xs⟩ rfl own3 (by show Value.slice (some ⟨w2.heap.size + 1, 0, none⟩) 1 1 = _; rw [World.size_alloc]) (by unfold maxLen; omega) (by omega) ?_)
          intro v4 w4 o4 e4
          have b4 := b3.trans ((e4.below own3).mono (by omega))
          rw [HVA.out] at o4
          have O4 := Lib.hid o4
          clear o4 e4 own3
          go_wp2
          go_roundw
          case rel => exact ⟨j + 1, nx, pre ++ [⟨xt, xn, xs⟩], by omega, by go_num, rfl, by rw [HLN.out, HPL.out], fun _ => HNX.out, HS2.out, by rw [HLN.out]; exact O4.out, b4⟩
          case measure => simp [intOf]; omega
        | false =>
          have HF : Hid (decD zs ty k = ([], false)) := by
            show _ = _
            have hd := HSJ.out
            rw [if_neg (by simp)] at hd
            exact HNONE.out hd
          have b3 := b2.alloc b2.size (.cells #[.int .i64 xt, .int .i64 xn, .string xs] 37)
          have HR := Lib.hid (HNO.out _ b3)
          clear own2 HSJ HBJ
          go_wp2
          go_ret2
          exact HFIN.out _ _ HR.out HF.out
      · obtain rfl : j = N := by omega
        have hdn := HFN.out q pre hd
        have HU := Lib.hid (decL_size hdn)
        rw [hdn] at HEX
        dsimp only at HEX HU
        obtain ⟨q0, q1⟩ := HQB.out (by omega)
        obtain ⟨A, rfl⟩ := Int.eq_ofNat_of_zero_le q0
        have hAn : A ≤ n := by omega
        have hcn' : n ≤ cap := hcn
        unfold decT at HEX
        rw [hpl, Int.toNat_natCast] at HEX
        obtain ⟨tl, htl, HTL⟩ := tail_at cap A b off
        have hatr := hat1.below hbr
        have HWD := Lib.hid (fun W => sWidthOf ((j : Int) - 1) W)
        generalize Bit.widthI ((j : Int) - 1) = wd at HWD HEX
        have HUN := Lib.hid (fun W (hW : Below wr.heap.size wr W) => sUnpackBits _ (n - A) (zs.drop A) (wd : Int) k W (by omega) (by rw [List.length_drop, hz]) (fun x hx => hby x (List.mem_of_mem_drop hx)) (.inr (At.from hz (hatr.below hW) hAn HTL.out)))
        have hun64 := Bit.unpack_le (zs.drop A) wd k
        generalize Bit.unpack (zs.drop A) (wd : Int) k = up at HUN HEX hun64
        clear hd hdn HST HFN HNONE HD0 q0 q1 HQB
        rw [hpl] at hown
        have HPLN := Lib.hid hpl
        clear hpl
        obtain ⟨ga, cga, rfl, hga1, hga2, hrow⟩ := hown
        have hown : Own 37 3 (w.heap.size + 1) wr.heap.size wr (.slice (some ⟨ga, 0, none⟩) j cga) j (vals pre) := ⟨ga, cga, rfl, hga1, hga2, hrow⟩
        have HOWN := Lib.hid hown
        clear hown hga1 hga2 hrow hcn hcm
        have hB' := (Below.refl wr.heap.size wr).drew
        have hwj : IntKind.i64.wrap ((j : Int) - 1) = (j : Int) - 1 := IntWalk.i64_in _ (by omega)
        obtain ⟨p, may⟩ := up
        simp only at HEX hun64
        go_wp2
        refine wp_region_held_drew (S := fun _ => True) (by kernel_rfl) trivial (fun hH => ?_)
        refine takeH (i := 0) (d := some 65) (v := .slice (some ⟨b, off, none⟩) n cap) rfl rfl (by kernel_rfl) (by kernel_rfl) (by kernel_rfl) (fun _ _ _ h => h) (Or.inl ⟨by rfl, fun W hSw => by go_simp⟩) hH ?_
        try simp only [put_some, List.set_cons_zero, List.set_cons_succ]
        refine takeH (i := 1) (d := some 66) (v := .int .i64 (A : Int)) rfl rfl (by kernel_rfl) (by kernel_rfl) (by kernel_rfl) (fun _ _ _ h => h) (Or.inl ⟨by rfl, fun W hSw => by go_simp⟩) hH ?_
        try simp only [put_some, List.set_cons_zero, List.set_cons_succ]
        refine takeH (i := 2) (d := some 67) (v := .slice (some ⟨b, tl, none⟩) (n - A) (cap - A)) rfl rfl (by kernel_rfl) (by kernel_rfl) (by kernel_rfl) (fun _ _ _ h => h) (Or.inl ⟨by rfl, fun W hSw => by go_simp⟩) hH ?_
        try simp only [put_some, List.set_cons_zero, List.set_cons_succ]
        refine takeH (i := 3) (d := some 68) (v := .int .i64 (j : Int)) rfl rfl (by kernel_rfl) (by kernel_rfl) (by kernel_rfl) (fun _ _ _ h => h) (Or.inl ⟨by rfl, fun W hSw => by go_simp⟩) hH ?_
        try simp only [put_some, List.set_cons_zero, List.set_cons_succ]
        refine takeH (i := 4) (d := some 69) (v := .int .i64 ((j : Int) - 1)) rfl rfl (by kernel_rfl) (by kernel_rfl) (by kernel_rfl) (fun _ _ _ h => h) (Or.inl ⟨by rfl, fun W hSw => by go_simp⟩) hH ?_
        try simp only [put_some, List.set_cons_zero, List.set_cons_succ]
        refine takeH (i := 6) (d := some 71) (v := .int .i64 k) rfl rfl (by kernel_rfl) (by kernel_rfl) (by kernel_rfl) (fun _ _ _ h => h) (Or.inl ⟨by rfl, fun W hSw => by go_simp⟩) hH ?_
        try simp only [put_some, List.set_cons_zero, List.set_cons_succ]
        refine wpAnyH_ready (rs := [5]) (by kernel_rfl) (by simp) ?_
        refine AllReadyH.cons rfl (fun K hK => ?_) AllReadyH.nil
        go_simp
        go_at_call 57
        refine (HWD.out _).mono ?_
        rintro e w' ⟨rfl, rfl⟩
        go_wp2_with fail
        refine hK.out _ _ trivial (fun hH => ?_)
        clear hK K
        refine wpAnyH_ready (rs := [7]) (by kernel_rfl) (by simp) ?_
        refine AllReadyH.cons rfl (fun K hK => ?_) AllReadyH.nil
        go_simp
        go_at_call 69
        refine (HUN.out _ hB').mono ?_
        rintro e w2 ⟨v2, rfl, o2, hb2⟩
        simp only at o2
        have b2 := below_then hB' hb2 hB'.size
        have bz := Lib.hid b2
        clear hb2 hB' htl hwj HWD
        go_wp2_with fail
        refine hK.out _ _ trivial (fun hH => ?_)
        clear hK K
        refine takeH (i := 8) (d := some 64) (v := .tuple #[v2, .bool may]) rfl rfl (by kernel_rfl) (by kernel_rfl) (by kernel_rfl) (fun _ _ _ h => h) (Or.inl ⟨by rfl, fun W hSw => by go_simp⟩) hH ?_
        try simp only [put_some, List.set_cons_zero, List.set_cons_succ]
        refine takeH (i := 9) (d := some 73) (v := v2) rfl rfl (by kernel_rfl) (by kernel_rfl) (by kernel_rfl) (fun _ _ _ h => h) (Or.inl ⟨by rfl, fun W hSw => by go_simp⟩) hH ?_
        try simp only [put_some, List.set_cons_zero, List.set_cons_succ]
        refine takeH (i := 10) (d := some 74) (v := .bool may) rfl rfl (by kernel_rfl) (by kernel_rfl) (by kernel_rfl) (fun _ _ _ h => h) (Or.inl ⟨by rfl, fun W hSw => by go_simp⟩) hH ?_
        try simp only [put_some, List.set_cons_zero, List.set_cons_succ]
        refine takeH (i := 11) (d := some 17) (v := v2) rfl rfl (by kernel_rfl) (by kernel_rfl) (by kernel_rfl) (fun _ _ _ h => h) (Or.inl ⟨by rfl, fun W hSw => by go_simp⟩) hH ?_
        try simp only [put_some, List.set_cons_zero, List.set_cons_succ]
        refine takeH (i := 12) (d := some 18) (v := .bool may) rfl rfl (by kernel_rfl) (by kernel_rfl) (by kernel_rfl) (fun _ _ _ h => h) (Or.inl ⟨by rfl, fun W hSw => by go_simp⟩) hH ?_
        try simp only [put_some, List.set_cons_zero, List.set_cons_succ]
        refine wpAnyH_done (by kernel_rfl) ?_ _
        have HPK := Lib.hid (sPicked (.slice (some ⟨ga, 0, none⟩) j cga) v2 pre p w2 (by omega) (by rw [HPLN.out]; exact (HOWN.out.below b2 (Nat.le_refl _)).rd) o2.rd)
        have HLS := Lib.hid (picked_all (p := p) (q := fun v => v.s.size ≤ maxLen) HU.out)
        have hl64 := Nat.le_trans (picked_len pre p) hun64
        generalize pickedL pre p = pc at HPK HLS hl64 HEX
        obtain ⟨l, can⟩ := pc
        unfold RDs at HPK
        simp only at HPK HLS hl64 HEX
        have B2 := below_then hbr b2 hbr.size
        have hzr := Nat.le_trans hbr.size b2.size
        clear o2 b2
        go_wp2_with fail
        refine HPK.out.mono ?_
        rintro e w3 ⟨v3, rfl, o3, hb3⟩
        have b3 := below_then B2 hb3 B2.size
        have HOL := Lib.hid (o3.lower (show w.heap.size ≤ w2.heap.size by omega))
        have O3 := Lib.hid o3
        have HEN := Lib.hid (sEncDict v3 l w3 (by omega) HLS.out o3.rd)
        clear hb3 HPK o3
        by_cases hmc : may = true ∧ can = true
        · obtain ⟨rfl, rfl⟩ := hmc
          go_wp2_with fail
          refine HEN.out.mono ?_
          rintro e w4 ⟨v4, rfl, o4, hb4⟩
          have b4 := below_then b3 hb4 b3.size
          have OL4 := Lib.hid ((HOL.out.below hb4 (Nat.le_refl _)).wide hb4.size)
          have HSM := Lib.hid (l5Same v4 _ (encD l).length n (encD l) zs w4 rfl hz (encD_bytes l) hby o4.at (hat1.below b4))
          clear HEN hb4 HOL o4 O3
          by_cases hen : encD l = zs
          · rw [decide_eq_true hen] at HSM
            have HF : Hid (decD zs ty k = (l, true)) := by
              show _ = _
              rw [HEX.out]
              exact if_pos (by first | exact ⟨trivial, trivial, hen⟩ | exact ⟨rfl, rfl, hen⟩)
            go_wp2_with (go_at_call 70; refine HSM.out.mono ?_; rintro e w' ⟨rfl, rfl⟩)
            go_ret2
            rw [HF.out]
            exact ⟨_, rfl, OL4.out, below_then hb0 b4 hb0.size⟩
          · rw [decide_eq_false hen] at HSM
            have HF : Hid (decD zs ty k = ([], false)) := by
              show _ = _
              rw [HEX.out]
              exact if_neg (fun h => hen h.2.2)
            have HR := Lib.hid (HNO.out _ b4)
            go_wp2_with (go_at_call 70; refine HSM.out.mono ?_; rintro e w' ⟨rfl, rfl⟩)
            go_ret2
            exact HFIN.out _ _ HR.out HF.out
        · have HF : Hid (decD zs ty k = ([], false)) := by
            show _ = _
            rw [HEX.out]
            exact if_neg (fun h => hmc ⟨h.1, h.2.1⟩)
          have HR := Lib.hid (HNO.out _ b3)
          clear HEN HOL O3
          cases may with
          | false =>
            go_wp2
            go_ret2
            exact HFIN.out _ _ HR.out HF.out
          | true =>
            cases can with
            | true => exact absurd ⟨rfl, rfl⟩ hmc
            | false =>
              go_wp2
              go_ret2
              exact HFIN.out _ _ HR.out HF.out
  · have HF : Hid (decD zs ty k = ([], false)) := by
      show _ = _
      rw [HEX.out]
      exact if_neg hc
    have HR := Lib.hid (HNO.out _ (Below.refl _ _))
    have HRW : Hid (w.alloc (.cells #[] 37) = W1) := hW1
    clear hat1 HV hN hb0 hz hby h
    cases ok0 with
    | false =>
      go_enter Try.func41, Try.ntmps41
      go_wp2_with (first | (go_at_call 67; refine HG0.out.mono ?_; rintro e w' ⟨rfl, rfl⟩))
      go_ret2
      exact HFIN.out _ _ HR.out HF.out
    | true =>
      cases hk : Num.inB k 1 64 with
      | false =>
        rw [hk] at HIK
        clear hk hc
        go_enter Try.func41, Try.ntmps41
        go_wp2_with (first | (go_at_call 67; refine HG0.out.mono ?_; rintro e w' ⟨rfl, rfl⟩) | (go_at_call 66; refine (HIK.out _).mono ?_; clear HIK; rintro e w' ⟨rfl, rfl⟩))
        go_ret2
        exact HFIN.out _ _ HR.out HF.out
      | true =>
        cases hx : Num.inB x0 1 k with
        | true => exact absurd ⟨rfl, hk, hx⟩ hc
        | false =>
          rw [hk] at HIK
          rw [hx] at HIN
          clear hk hx hc
          go_enter Try.func41, Try.ntmps41
          go_wp2_with (first | (go_at_call 67; refine HG0.out.mono ?_; rintro e w' ⟨rfl, rfl⟩) | (go_at_call 66; refine (HIK.out _).mono ?_; clear HIK; rintro e w' ⟨rfl, rfl⟩) | (go_at_call 66; refine (HIN.out _).mono ?_; rintro e w' ⟨rfl, rfl⟩))
          go_ret2
          exact HFIN.out _ _ HR.out HF.out

end Go.Proofs.Ytoidpibdjijamaa

/- The exact laws of PutVal, GetVal, EncPlain and DecPlain, walked; the program's own contracts come as hypotheses. -/
namespace Go.Proofs.Ytoidpibdjijamaa
open Go.RowKit

def CGetVal : Prop := ∀ (u : Value) (n : Nat) (zs : List Int) (i ty : Int) (w : World), n ≤ 1048576 → zs.length = n → Num.Bytes zs → At 1 w u n (ints .u8 zs) → Calls Try.prog 92 #[u, .int .i64 i, .int .i64 ty] w fun e w' => e = .returned (rGet (getV zs i ty)) ∧ Below w.heap.size w w'
theorem encP_len (l : List V) : (encP l).length ≤ 7 * l.length := by
  unfold encP
  split
  · simp
  · exact encAll_len l
theorem decL_len {zs : List Int} {ty : Int} : ∀ {k : Nat} {i : Int} {r : List V × Int}, decL zs ty k i = some r → r.1.length = k := by
  intro k
  induction k with
  | zero =>
    intro i r h
    simp only [decL, Option.some.injEq] at h
    subst h
    rfl
  | succ k ih =>
    intro i r h
    rw [decL] at h
    split at h
    · obtain ⟨q, hq, rfl⟩ := Option.map_eq_some_iff.1 h
      simp [ih hq]
    · cases h
theorem decP_len (zs : List Int) (ty k : Int) : (decP zs ty k).1.length ≤ 64 := by
  unfold decP
  split
  · rename_i h
    have := Num.inB_true.1 h
    split
    · rename_i r hr
      have hl := decL_len hr
      split
      · simp only
        omega
      · simp
    · simp
  · simp

theorem Held.under {W W' : World} {b B : Nat} {v : V} (h : Held W b v) (hb : Below B W W') (hlt : b < B) : Held W' b v :=
  ⟨⟨(hb.cell (p := ⟨b, 0, none⟩) hlt).trans h.1.1, (hb.cell (p := ⟨b, 1, none⟩) hlt).trans h.1.2.1, (hb.cell (p := ⟨b, 2, none⟩) hlt).trans h.1.2.2⟩,
    (hb.frozen (p := ⟨b, 0, none⟩) hlt).trans h.2.1, (hb.frozen (p := ⟨b, 1, none⟩) hlt).trans h.2.2.1, (hb.frozen (p := ⟨b, 2, none⟩) hlt).trans h.2.2.2⟩

end Go.Proofs.Ytoidpibdjijamaa

/- Chapter 7's exact laws, walked; the program's own contracts come as hypotheses. -/
namespace Go.Proofs.Ytoidpibdjijamaa
open Go.RowKit

def CDict : Prop := ∀ (u : Value) (l : List V) (w : World), l.length ≤ 1048576 → (∀ v ∈ l, v.s.size ≤ maxLen) → Rd 3 w u l.length (vals l) → Calls Try.prog 12 #[u] w fun e w' => ∃ v', e = .returned v' ∧ Own 37 3 w.heap.size w'.heap.size w' v' (dictL l).length (vals (dictL l)) ∧ Below w.heap.size w w'
def CInDict : Prop := ∀ (u : Value) (d : List V) (x : V) (w : World), d.length ≤ 1048576 → Rd 3 w u d.length (vals d) → Calls Try.prog 31 #[u, x.agg] w fun e w' => e = .returned (.int .i64 (inI d x)) ∧ Below w.heap.size w w'
def CPlaces : Prop := ∀ (u v : Value) (d l : List V) (w : World), d.length ≤ 1048576 → l.length ≤ 1048576 → Rd 3 w u d.length (vals d) → Rd 3 w v l.length (vals l) → Calls Try.prog 14 #[u, v] w (Unpacked w (placesL d l))
def CPicked : Prop := ∀ (u v : Value) (d : List V) (l : List Int) (w : World), d.length ≤ 1048576 → l.length ≤ 1048576 → Rd 3 w u d.length (vals d) → Rd 1 w v l.length (ints .i64 l) → Calls Try.prog 15 #[u, v] w fun e w' => RDs w w' e (pickedL d l)
def CEncDict : Prop := ∀ (u : Value) (l : List V) (w : World), l.length ≤ 1048576 → (∀ v ∈ l, v.s.size ≤ maxLen) → Rd 3 w u l.length (vals l) → Calls Try.prog 13 #[u] w fun e w' => ∃ v', e = .returned v' ∧ Own 5 1 w.heap.size w'.heap.size w' v' (encD l).length (ints .u8 (encD l)) ∧ Below w.heap.size w w'
def CDecDict : Prop := ∀ (u : Value) (n : Nat) (zs : List Int) (ty k : Int) (w : World), n ≤ 1048576 → zs.length = n → Num.Bytes zs → At 1 w u n (ints .u8 zs) → Calls Try.prog 22 #[u, .int .i64 ty, .int .i64 k] w fun e w' => RDs w w' e (decD zs ty k)
theorem encD_len' (l : List V) : (encD l).length ≤ 1024 + l.length := by
  have := encD_len l
  omega

set_option maxHeartbeats 4000000 in
theorem lawInDict (hi : CInDict) (a : Option Addr) (lena capa : Nat) (d : List V) (x : V) (w : World) (hla : lena ≤ maxLen) (hsa : ∀ v ∈ d, v.s.size ≤ maxLen) (hza : d.length = lena) (haA : ArgS 3 w a lena (vals d)) (hs : x.s.size ≤ maxLen) :
    Calls Try.prog 5 #[.slice a lena capa, x.agg] w fun e w' => e = .returned (.bool true) ∧ Below w.heap.size w w' := by
  unfold CInDict at hi
  have HLa := Lib.hid hza
  have HSa := Lib.hid hsa
  have HSX := Lib.hid hs
  have hqq : (inI d x != inI d x) = false := by simp
  have T0 := held_new w x 45
  have bt := below_alloc w (.cells #[.int .i64 x.ty, .int .i64 x.n, .string x.s] 45)
  have hs0 : (w.alloc (.cells #[.int .i64 x.ty, .int .i64 x.n, .string x.s] 45)).heap.size = w.heap.size + 1 := by simp
  obtain ⟨w0, hw0⟩ : ∃ w0, w.alloc (.cells #[.int .i64 x.ty, .int .i64 x.n, .string x.s] 45) = w0 := ⟨_, rfl⟩
  rw [hw0] at T0 bt hs0
  clear hs hsa hza
  obtain ⟨t, n1, s⟩ := x
  simp only at T0 hw0 HSX
  go_enter Try.func5, Try.ntmps5
  go_wp2_with fail
  refine (szValS a lena capa d 1048576 w0 (by omega) (by omega) hla HSa.out HLa.out (haA.below bt)).mono ?_
  rintro e w1 ⟨ra, rfl, hra, hb⟩
  have z1 := hb.size
  replace T0 := T0.below hb
  replace bt := below_then bt hb (by omega)
  clear hb
  by_cases hnra : ra < 0
  · go_wp2
    go_ret
    exact ⟨rfl, bt⟩
  have hbra : lena ≤ 1048576 := by omega
  have hlra : ra ≤ 1048576 := by omega
  clear hra
  obtain ⟨⟨T0a, T0b, T0c⟩, T0d, T0e, T0f⟩ := id T0
  go_wp2_with fail
  refine (szVal ⟨t, n1, s⟩ ra w1 (by omega) (by omega) HSX.out).mono ?_
  rintro e w2 ⟨rfl, hb⟩
  clear T0a T0b T0c T0d T0e T0f
  have z2 := hb.size
  replace T0 := T0.below hb
  replace bt := below_then bt hb (by omega)
  clear hb
  by_cases hneg : szV ⟨t, n1, s⟩ ra < 0
  · go_wp2
    go_ret
    exact ⟨rfl, bt⟩
  have HC : Hid (∀ W, Below w2.heap.size w2 W → W.cell? ⟨w.heap.size, 0, none⟩ = some (.int .i64 t) ∧ W.cell? ⟨w.heap.size, 1, none⟩ = some (.int .i64 n1) ∧ W.cell? ⟨w.heap.size, 2, none⟩ = some (.string s)) := fun W h => (T0.below h).1
  have hB' := (Below.refl w2.heap.size w2).drew
  go_wp2_with fail
  go_region_held3 (fun W => W.cell? ⟨w.heap.size, 0, none⟩ = some (.int .i64 t) ∧ W.cell? ⟨w.heap.size, 1, none⟩ = some (.int .i64 n1) ∧ W.cell? ⟨w.heap.size, 2, none⟩ = some (.string s)) (exact HC.out _ hB') (first | (go_at_call 24; (with_reducible refine (toValS a lena capa d _ (by omega) HLa.out (haA.below (below_then bt hB' (by omega)))).mono ?_); rintro e u1 ⟨t1, rfl, o1, hb⟩; replace hB' := below_then hB' hb hB'.size) | (go_at_call 30; (with_reducible refine (toVal ⟨t, n1, s⟩ _).mono ?_); rintro e u2 ⟨rfl, hb⟩; try replace o1 := o1.below hb (Nat.le_refl _); have zz := hb.size; replace hB' := below_then hB' hb hB'.size) | (go_at_call 29; (with_reducible refine (sInDict t1 d ⟨t, n1, s⟩ _ (by rw [HLa.out]; exact o1.rd)).mono ?_); rintro e u3 ⟨rfl, hb⟩; have zy := hb.size; have zx := hB'.size; replace hB' := below_then hB' hb hB'.size))
  clear HC o1
  have zu := hB'.size
  replace T0 := T0.below hB'
  replace bt := below_then bt hB' (by omega)
  clear hB'
  go_wp2_with fail
  refine (toValS a lena capa d u3 (by omega) HLa.out (haA.below bt)).mono ?_
  rintro e w3 ⟨x0, rfl, ox, hb⟩
  have z3 := hb.size
  replace T0 := T0.below hb
  replace bt := below_then bt hb (by omega)
  clear hb
  obtain ⟨⟨T0a, T0b, T0c⟩, T0d, T0e, T0f⟩ := id T0
  go_wp2_with fail
  refine (toVal ⟨t, n1, s⟩ w3).mono ?_
  rintro e w4 ⟨rfl, hb⟩
  clear T0a T0b T0c T0d T0e T0f
  have z4 := hb.size
  replace ox := ox.below hb (by omega)
  replace T0 := T0.below hb
  replace bt := below_then bt hb (by omega)
  clear hb
  go_wp2_with fail
  refine (hi x0 d ⟨t, n1, s⟩ w4 (by rw [HLa.out]; omega) (by rw [HLa.out]; exact ox.rd)).mono ?_
  rintro e w5 ⟨rfl, hb⟩
  have z5 := hb.size
  replace ox := ox.below hb (by omega)
  replace T0 := T0.below hb
  replace bt := below_then bt hb (by omega)
  clear hb
  go_wp2_with fail
  refine (toValS a lena capa d w5 (by omega) HLa.out (haA.below bt)).mono ?_
  rintro e w6 ⟨t2, rfl, o2, hb⟩
  have z6 := hb.size
  replace ox := ox.below hb (by omega)
  replace T0 := T0.below hb
  replace bt := below_then bt hb (by omega)
  clear hb
  go_wp2_with fail
  refine (eqValS x0 t2 lena d w6 HLa.out ox.at o2.at).mono ?_
  rintro e w7 ⟨rfl, hb⟩
  have z7 := hb.size
  replace ox := ox.below hb (by omega)
  replace o2 := o2.below hb (by omega)
  replace T0 := T0.below hb
  replace bt := below_then bt hb (by omega)
  clear hb
  clear o2
  go_wp2
  go_ret
  exact ⟨rfl, bt⟩

set_option maxHeartbeats 2000000 in
theorem lawDict (hi : CDict) (b : Option Addr) (lenb capb : Nat) (l : List V) (w : World) (hlb : lenb ≤ maxLen) (hsb : ∀ v ∈ l, v.s.size ≤ maxLen) (hzb : l.length = lenb) (hbB : ArgS 3 w b lenb (vals l)) :
    Calls Try.prog 4 #[.slice b lenb capb] w fun e w' => e = .returned (.bool true) ∧ Below w.heap.size w w' := by
  have HL := Lib.hid hzb
  have HSS := Lib.hid hsb
  have hPl := dict_len l
  rw [hzb] at hPl
  generalize hP : dictL l = P at hPl
  have HP := Lib.hid hP
  clear hP
  generalize hn : P.length = n at hPl
  have HN := Lib.hid hn
  clear hn hsb hzb
  go_enter Try.func4, Try.ntmps4
  have bt := Below.refl w.heap.size w
  go_wp2_with fail
  refine (szValS b lenb capb l 1048576 w (by omega) (by omega) hlb HSS.out HL.out (hbB.below bt)).mono ?_
  rintro e w1 ⟨rb, rfl, hrb, hb⟩
  have z1 := hb.size
  replace bt := below_then bt hb (by omega)
  clear hb
  by_cases hnrb : rb < 0
  · go_wp2
    go_ret
    exact ⟨rfl, bt⟩
  have hbrb : lenb ≤ 1048576 := by omega
  have hlrb : rb ≤ 1048576 := by omega
  clear hrb
  go_wp2_with fail
  refine (toValS b lenb capb l w1 (by omega) HL.out (hbB.below bt)).mono ?_
  rintro e w2 ⟨t1, rfl, o1, hb⟩
  have z2 := hb.size
  replace bt := below_then bt hb (by omega)
  clear hb
  go_wp2_with fail
  refine (sDict t1 l w2 (by rw [HL.out]; omega) (by rw [HL.out]; exact o1.rd)).mono ?_
  rintro e w3 ⟨v0, rfl, ov, hb⟩
  have z3 := hb.size
  replace o1 := o1.below hb (by omega)
  replace bt := below_then bt hb (by omega)
  clear hb
  rw [HP.out, HN.out] at ov
  clear o1
  go_wp2_with fail
  refine (toValS b lenb capb l w3 (by omega) HL.out (hbB.below bt)).mono ?_
  rintro e w4 ⟨x0, rfl, ox, hb⟩
  have z4 := hb.size
  replace ov := ov.below hb (by omega)
  replace bt := below_then bt hb (by omega)
  clear hb
  go_wp2_with fail
  refine (hi x0 l w4 (by rw [HL.out]; omega) HSS.out (by rw [HL.out]; exact ox.rd)).mono ?_
  rintro e w5 ⟨g0, rfl, og, hb⟩
  have z5 := hb.size
  replace ov := ov.below hb (by omega)
  replace ox := ox.below hb (by omega)
  replace bt := below_then bt hb (by omega)
  clear hb
  rw [HP.out, HN.out] at og
  go_wp2_with fail
  refine (eqValS g0 v0 n P w5 HN.out og.at ov.at).mono ?_
  rintro e w6 ⟨rfl, hb⟩
  have z6 := hb.size
  replace ov := ov.below hb (by omega)
  replace ox := ox.below hb (by omega)
  replace og := og.below hb (by omega)
  replace bt := below_then bt hb (by omega)
  clear hb
  go_wp2_with fail
  refine (toValS b lenb capb l w6 (by omega) HL.out (hbB.below bt)).mono ?_
  rintro e w7 ⟨t2, rfl, o2, hb⟩
  have z7 := hb.size
  replace ov := ov.below hb (by omega)
  replace ox := ox.below hb (by omega)
  replace og := og.below hb (by omega)
  replace bt := below_then bt hb (by omega)
  clear hb
  go_wp2_with fail
  refine (eqValS x0 t2 lenb l w7 HL.out ox.at o2.at).mono ?_
  rintro e w8 ⟨rfl, hb⟩
  have z8 := hb.size
  replace ov := ov.below hb (by omega)
  replace ox := ox.below hb (by omega)
  replace og := og.below hb (by omega)
  replace o2 := o2.below hb (by omega)
  replace bt := below_then bt hb (by omega)
  clear hb
  clear o2
  go_wp2_with fail
  refine (markValS x0 lenb _ _ l 1 w8 (by omega) (by omega) (by omega) HL.out ox).mono ?_
  rintro e w9 ⟨rfl, ⟨l2, hl2, hnew⟩, hg⟩
  have z9 := hg.size
  replace ov := ov.apart ox (by omega) hg
  replace og := og.apart ox (by omega) hg
  have bg := below_grown_own ox hg (by omega) (by omega)
  replace bt := bt.trans (below_grown_own ox hg (by omega) (by omega))
  clear hg bg ox
  clear hnew hl2
  go_wp2_with fail
  refine (eqValS g0 v0 n P w9 HN.out og.at ov.at).mono ?_
  rintro e w10 ⟨rfl, hb⟩
  have z10 := hb.size
  replace ov := ov.below hb (by omega)
  replace og := og.below hb (by omega)
  replace bt := below_then bt hb (by omega)
  clear hb
  go_wp2_with fail
  refine (markValM g0 n _ _ P 1 w10 (by omega) (by omega) (by omega) HN.out og).mono ?_
  rintro e w11 ⟨rfl, hnew, hg⟩
  have z11 := hg.size
  replace ov := ov.apart og (by omega) hg
  have bg := below_grown_own og hg (by omega) (by omega)
  replace bt := bt.trans (below_grown_own og hg (by omega) (by omega))
  clear hg bg og
  have og := hnew
  clear hnew
  go_wp2_with fail
  refine (heldValS g0 n 1 w11 (by omega) (by omega) (by omega) og.rd).mono ?_
  rintro e w12 ⟨rfl, hb⟩
  have z12 := hb.size
  replace ov := ov.below hb (by omega)
  replace og := og.below hb (by omega)
  replace bt := below_then bt hb (by omega)
  clear hb
  go_wp2_with fail
  refine (toValS b lenb capb l w12 (by omega) HL.out (hbB.below bt)).mono ?_
  rintro e w13 ⟨t3, rfl, o3, hb⟩
  have z13 := hb.size
  replace ov := ov.below hb (by omega)
  replace og := og.below hb (by omega)
  replace bt := below_then bt hb (by omega)
  clear hb
  go_wp2_with fail
  refine (hi t3 l w13 (by rw [HL.out]; omega) HSS.out (by rw [HL.out]; exact o3.rd)).mono ?_
  rintro e w14 ⟨h0, rfl, oh, hb⟩
  have z14 := hb.size
  replace ov := ov.below hb (by omega)
  replace og := og.below hb (by omega)
  replace o3 := o3.below hb (by omega)
  replace bt := below_then bt hb (by omega)
  clear hb
  rw [HP.out, HN.out] at oh
  clear o3
  go_wp2_with fail
  refine (eqValS h0 v0 n P w14 HN.out oh.at ov.at).mono ?_
  rintro e w15 ⟨rfl, hb⟩
  have z15 := hb.size
  replace ov := ov.below hb (by omega)
  replace og := og.below hb (by omega)
  replace oh := oh.below hb (by omega)
  replace bt := below_then bt hb (by omega)
  clear hb
  go_wp2_with fail
  refine (heldValS g0 n 1 w15 (by omega) (by omega) (by omega) og.rd).mono ?_
  rintro e w16 ⟨rfl, hb⟩
  have z16 := hb.size
  replace ov := ov.below hb (by omega)
  replace og := og.below hb (by omega)
  replace oh := oh.below hb (by omega)
  replace bt := below_then bt hb (by omega)
  clear hb
  go_wp2
  go_ret
  exact ⟨rfl, bt⟩

set_option maxHeartbeats 4000000 in
theorem lawPlaces (hi : CPlaces) (a : Option Addr) (lena capa : Nat) (d : List V) (b : Option Addr) (lenb capb : Nat) (l : List V) (w : World) (hla : lena ≤ maxLen) (hsa : ∀ v ∈ d, v.s.size ≤ maxLen) (hza : d.length = lena) (haA : ArgS 3 w a lena (vals d)) (hlb : lenb ≤ maxLen) (hsb : ∀ v ∈ l, v.s.size ≤ maxLen) (hzb : l.length = lenb) (hbB : ArgS 3 w b lenb (vals l)) :
    Calls Try.prog 6 #[.slice a lena capa, .slice b lenb capb] w fun e w' => e = .returned (.bool true) ∧ Below w.heap.size w w' := by
  have HLa := Lib.hid hza
  have HSa := Lib.hid hsa
  have HL := Lib.hid hzb
  have HSS := Lib.hid hsb
  have hPl := places_len d l
  rw [hzb] at hPl
  have hqq : ((placesL d l).2 != (placesL d l).2) = false := by simp
  generalize hP : (placesL d l).1 = P at hPl
  have HP := Lib.hid hP
  clear hP
  generalize hn : P.length = n at hPl
  have HN := Lib.hid hn
  clear hn hsb hzb hsa hza
  go_enter Try.func6, Try.ntmps6
  have bt := Below.refl w.heap.size w
  go_wp2_with fail
  refine (szValS a lena capa d 1048576 w (by omega) (by omega) hla HSa.out HLa.out (haA.below bt)).mono ?_
  rintro e w1 ⟨ra, rfl, hra, hb⟩
  have z1 := hb.size
  replace bt := below_then bt hb (by omega)
  clear hb
  by_cases hnra : ra < 0
  · go_wp2
    go_ret
    exact ⟨rfl, bt⟩
  have hbra : lena ≤ 1048576 := by omega
  have hlra : ra ≤ 1048576 := by omega
  clear hra
  go_wp2_with fail
  refine (szValS b lenb capb l ra w1 (by omega) (by omega) hlb HSS.out HL.out (hbB.below bt)).mono ?_
  rintro e w2 ⟨rb, rfl, hrb, hb⟩
  have z2 := hb.size
  replace bt := below_then bt hb (by omega)
  clear hb
  by_cases hnrb : rb < 0
  · go_wp2
    go_ret
    exact ⟨rfl, bt⟩
  have hbrb : lenb ≤ 1048576 := by omega
  have hlrb : rb ≤ 1048576 := by omega
  clear hrb
  go_wp2_with fail
  refine (toValS a lena capa d w2 (by omega) HLa.out (haA.below bt)).mono ?_
  rintro e w3 ⟨s1, rfl, p1, hb⟩
  have z3 := hb.size
  replace bt := below_then bt hb (by omega)
  clear hb
  go_wp2_with fail
  refine (toValS b lenb capb l w3 (by omega) HL.out (hbB.below bt)).mono ?_
  rintro e w4 ⟨t1, rfl, o1, hb⟩
  have z4 := hb.size
  replace p1 := p1.below hb (by omega)
  replace bt := below_then bt hb (by omega)
  clear hb
  go_wp2_with fail
  refine (sPlaces s1 t1 d l w4 (by rw [HL.out]; omega) (by rw [HLa.out]; exact p1.rd) (by rw [HL.out]; exact o1.rd)).mono ?_
  rintro e w5 ⟨v0, rfl, ov, hb⟩
  have z5 := hb.size
  replace p1 := p1.below hb (by omega)
  replace o1 := o1.below hb (by omega)
  replace bt := below_then bt hb (by omega)
  clear hb
  rw [HP.out, HN.out] at ov
  clear o1 p1
  go_wp2_with fail
  refine (toValS a lena capa d w5 (by omega) HLa.out (haA.below bt)).mono ?_
  rintro e w6 ⟨x0, rfl, ox, hb⟩
  have z6 := hb.size
  replace ov := ov.below hb (by omega)
  replace bt := below_then bt hb (by omega)
  clear hb
  go_wp2_with fail
  refine (toValS b lenb capb l w6 (by omega) HL.out (hbB.below bt)).mono ?_
  rintro e w7 ⟨x1, rfl, oy, hb⟩
  have z7 := hb.size
  replace ov := ov.below hb (by omega)
  replace ox := ox.below hb (by omega)
  replace bt := below_then bt hb (by omega)
  clear hb
  go_wp2_with fail
  refine (hi x0 x1 d l w7 (by rw [HLa.out]; omega) (by rw [HL.out]; omega) (by rw [HLa.out]; exact ox.rd) (by rw [HL.out]; exact oy.rd)).mono ?_
  rintro e w8 ⟨g0, rfl, og, hb⟩
  have z8 := hb.size
  replace ov := ov.below hb (by omega)
  replace ox := ox.below hb (by omega)
  replace oy := oy.below hb (by omega)
  replace bt := below_then bt hb (by omega)
  clear hb
  rw [HP.out, HN.out] at og
  go_wp2_with fail
  refine (eqIntS g0 v0 n P w8 HN.out og.at ov.at).mono ?_
  rintro e w9 ⟨rfl, hb⟩
  have z9 := hb.size
  replace ov := ov.below hb (by omega)
  replace ox := ox.below hb (by omega)
  replace oy := oy.below hb (by omega)
  replace og := og.below hb (by omega)
  replace bt := below_then bt hb (by omega)
  clear hb
  go_wp2_with fail
  refine (toValS a lena capa d w9 (by omega) HLa.out (haA.below bt)).mono ?_
  rintro e w10 ⟨t2, rfl, o2, hb⟩
  have z10 := hb.size
  replace ov := ov.below hb (by omega)
  replace ox := ox.below hb (by omega)
  replace oy := oy.below hb (by omega)
  replace og := og.below hb (by omega)
  replace bt := below_then bt hb (by omega)
  clear hb
  go_wp2_with fail
  refine (eqValS x0 t2 lena d w10 HLa.out ox.at o2.at).mono ?_
  rintro e w11 ⟨rfl, hb⟩
  have z11 := hb.size
  replace ov := ov.below hb (by omega)
  replace ox := ox.below hb (by omega)
  replace oy := oy.below hb (by omega)
  replace og := og.below hb (by omega)
  replace o2 := o2.below hb (by omega)
  replace bt := below_then bt hb (by omega)
  clear hb
  clear o2
  go_wp2_with fail
  refine (toValS b lenb capb l w11 (by omega) HL.out (hbB.below bt)).mono ?_
  rintro e w12 ⟨t3, rfl, o3, hb⟩
  have z12 := hb.size
  replace ov := ov.below hb (by omega)
  replace ox := ox.below hb (by omega)
  replace oy := oy.below hb (by omega)
  replace og := og.below hb (by omega)
  replace bt := below_then bt hb (by omega)
  clear hb
  go_wp2_with fail
  refine (eqValS x1 t3 lenb l w12 HL.out oy.at o3.at).mono ?_
  rintro e w13 ⟨rfl, hb⟩
  have z13 := hb.size
  replace ov := ov.below hb (by omega)
  replace ox := ox.below hb (by omega)
  replace oy := oy.below hb (by omega)
  replace og := og.below hb (by omega)
  replace o3 := o3.below hb (by omega)
  replace bt := below_then bt hb (by omega)
  clear hb
  clear o3
  go_wp2_with fail
  refine (markValS x0 lena _ _ d 1 w13 (by omega) (by omega) (by omega) HLa.out ox).mono ?_
  rintro e w14 ⟨rfl, ⟨l2, hl2, hnew⟩, hg⟩
  have z14 := hg.size
  replace ov := ov.apart ox (by omega) hg
  replace oy := oy.apart ox (by omega) hg
  replace og := og.apart ox (by omega) hg
  have bg := below_grown_own ox hg (by omega) (by omega)
  replace bt := bt.trans (below_grown_own ox hg (by omega) (by omega))
  clear hg bg ox
  clear hnew hl2
  have hs1 : 1 + 3 * lena ≤ 3145729 ∧ 0 < 1 + 3 * lena := by omega
  generalize 1 + 3 * lena = sm at hs1 ⊢
  go_wp2_with fail
  refine (markValS x1 lenb _ _ l sm w14 (by omega) (by omega) (by omega) HL.out oy).mono ?_
  rintro e w15 ⟨rfl, ⟨l2, hl2, hnew⟩, hg⟩
  have z15 := hg.size
  replace ov := ov.apart oy (by omega) hg
  replace og := og.apart oy (by omega) hg
  have bg := below_grown_own oy hg (by omega) (by omega)
  replace bt := bt.trans (below_grown_own oy hg (by omega) (by omega))
  clear hg bg oy
  clear hnew hl2
  go_wp2_with fail
  refine (eqIntS g0 v0 n P w15 HN.out og.at ov.at).mono ?_
  rintro e w16 ⟨rfl, hb⟩
  have z16 := hb.size
  replace ov := ov.below hb (by omega)
  replace og := og.below hb (by omega)
  replace bt := below_then bt hb (by omega)
  clear hb
  go_wp2_with fail
  refine (markIntS g0 n _ _ _ 1 w16 (by omega) (by omega) (by omega) og).mono ?_
  rintro e w17 ⟨rfl, hnew, hg⟩
  have z17 := hg.size
  replace ov := ov.apart og (by omega) hg
  have bg := below_grown_own og hg (by omega) (by omega)
  replace bt := bt.trans (below_grown_own og hg (by omega) (by omega))
  clear hg bg og
  have og := hnew
  clear hnew
  go_wp2_with fail
  refine (heldIntS g0 n 1 w17 (by omega) (by omega) (by omega) og.at).mono ?_
  rintro e w' ⟨rfl, rfl⟩
  go_wp2_with fail
  refine (toValS a lena capa d w17 (by omega) HLa.out (haA.below bt)).mono ?_
  rintro e w18 ⟨u1, rfl, q1, hb⟩
  have z18 := hb.size
  replace ov := ov.below hb (by omega)
  replace og := og.below hb (by omega)
  replace bt := below_then bt hb (by omega)
  clear hb
  go_wp2_with fail
  refine (toValS b lenb capb l w18 (by omega) HL.out (hbB.below bt)).mono ?_
  rintro e w19 ⟨u2, rfl, q2, hb⟩
  have z19 := hb.size
  replace ov := ov.below hb (by omega)
  replace og := og.below hb (by omega)
  replace q1 := q1.below hb (by omega)
  replace bt := below_then bt hb (by omega)
  clear hb
  go_wp2_with fail
  refine (hi u1 u2 d l w19 (by rw [HLa.out]; omega) (by rw [HL.out]; omega) (by rw [HLa.out]; exact q1.rd) (by rw [HL.out]; exact q2.rd)).mono ?_
  rintro e w20 ⟨h0, rfl, oh, hb⟩
  have z20 := hb.size
  replace ov := ov.below hb (by omega)
  replace og := og.below hb (by omega)
  replace q1 := q1.below hb (by omega)
  replace q2 := q2.below hb (by omega)
  replace bt := below_then bt hb (by omega)
  clear hb
  rw [HP.out, HN.out] at oh
  clear q1 q2
  go_wp2_with fail
  refine (eqIntS h0 v0 n P w20 HN.out oh.at ov.at).mono ?_
  rintro e w21 ⟨rfl, hb⟩
  have z21 := hb.size
  replace ov := ov.below hb (by omega)
  replace og := og.below hb (by omega)
  replace oh := oh.below hb (by omega)
  replace bt := below_then bt hb (by omega)
  clear hb
  go_wp2_with fail
  refine (heldIntS g0 n 1 w21 (by omega) (by omega) (by omega) og.at).mono ?_
  rintro e w' ⟨rfl, rfl⟩
  go_wp2
  go_ret
  exact ⟨rfl, bt⟩

set_option maxHeartbeats 4000000 in
theorem lawPicked (hi : CPicked) (a : Option Addr) (lena capa : Nat) (d : List V) (b : Option Addr) (len cap : Nat) (zs : List Int) (w : World) (hla : lena ≤ maxLen) (hsa : ∀ v ∈ d, v.s.size ≤ maxLen) (hza : d.length = lena) (haA : ArgS 3 w a lena (vals d)) (h : Arg .i64 w b len zs) :
    Calls Try.prog 7 #[.slice a lena capa, .slice b len cap] w fun e w' => e = .returned (.bool true) ∧ Below w.heap.size w w' := by
  by_cases hbig : 1048576 < len
  · go_enter Try.func7, Try.ntmps7
    go_wp2
    go_ret
    exact ⟨rfl, Below.refl _ _⟩
  · have HLa := Lib.hid hza
    have HSa := Lib.hid hsa
    have HZ : Hid (zs.length = len) := h.1
    have hPl := picked_len d zs
    rw [HZ.out] at hPl
    have hqq : ((pickedL d zs).2 != (pickedL d zs).2) = false := by simp
    generalize hP : (pickedL d zs).1 = P at hPl
    have HP := Lib.hid hP
    clear hP
    generalize hn : P.length = n at hPl
    have HN := Lib.hid hn
    clear hn hsa hza
    go_enter Try.func7, Try.ntmps7
    have bt := Below.refl w.heap.size w
    go_wp2_with fail
    refine (szValS a lena capa d 1048576 w (by omega) (by omega) hla HSa.out HLa.out (haA.below bt)).mono ?_
    rintro e w1 ⟨ra, rfl, hra, hb⟩
    have z1 := hb.size
    replace bt := below_then bt hb (by omega)
    clear hb
    by_cases hnra : ra < 0
    · go_wp2
      go_ret
      exact ⟨rfl, bt⟩
    have hbra : lena ≤ 1048576 := by omega
    have hlra : ra ≤ 1048576 := by omega
    clear hra
    go_wp2_with fail
    refine (toValS a lena capa d w1 (by omega) HLa.out (haA.below bt)).mono ?_
    rintro e w2 ⟨s1, rfl, p1, hb⟩
    have z2 := hb.size
    replace bt := below_then bt hb (by omega)
    clear hb
    go_wp2_with fail
    refine (toIntS b len cap zs w2 (by omega) (h.below bt)).mono ?_
    rintro e w3 ⟨t1, rfl, o1, hb⟩
    have z3 := hb.size
    replace p1 := p1.below hb (by omega)
    replace bt := below_then bt hb (by omega)
    clear hb
    go_wp2_with fail
    refine (sPicked s1 t1 d zs w3 (by rw [HZ.out]; omega) (by rw [HLa.out]; exact p1.rd) (by rw [HZ.out]; exact o1.rd)).mono ?_
    rintro e w4 ⟨v0, rfl, ov, hb⟩
    have z4 := hb.size
    replace p1 := p1.below hb (by omega)
    replace o1 := o1.below hb (by omega)
    replace bt := below_then bt hb (by omega)
    clear hb
    rw [HP.out, HN.out] at ov
    clear o1 p1
    go_wp2_with fail
    refine (toValS a lena capa d w4 (by omega) HLa.out (haA.below bt)).mono ?_
    rintro e w5 ⟨x0, rfl, ox, hb⟩
    have z5 := hb.size
    replace ov := ov.below hb (by omega)
    replace bt := below_then bt hb (by omega)
    clear hb
    go_wp2_with fail
    refine (toIntS b len cap zs w5 (by omega) (h.below bt)).mono ?_
    rintro e w6 ⟨x1, rfl, oy, hb⟩
    have z6 := hb.size
    replace ov := ov.below hb (by omega)
    replace ox := ox.below hb (by omega)
    replace bt := below_then bt hb (by omega)
    clear hb
    go_wp2_with fail
    refine (hi x0 x1 d zs w6 (by rw [HLa.out]; omega) (by rw [HZ.out]; omega) (by rw [HLa.out]; exact ox.rd) (by rw [HZ.out]; exact oy.rd)).mono ?_
    rintro e w7 ⟨g0, rfl, og, hb⟩
    have z7 := hb.size
    replace ov := ov.below hb (by omega)
    replace ox := ox.below hb (by omega)
    replace oy := oy.below hb (by omega)
    replace bt := below_then bt hb (by omega)
    clear hb
    rw [HP.out, HN.out] at og
    go_wp2_with fail
    refine (eqValS g0 v0 n P w7 HN.out og.at ov.at).mono ?_
    rintro e w8 ⟨rfl, hb⟩
    have z8 := hb.size
    replace ov := ov.below hb (by omega)
    replace ox := ox.below hb (by omega)
    replace oy := oy.below hb (by omega)
    replace og := og.below hb (by omega)
    replace bt := below_then bt hb (by omega)
    clear hb
    go_wp2_with fail
    refine (toValS a lena capa d w8 (by omega) HLa.out (haA.below bt)).mono ?_
    rintro e w9 ⟨t2, rfl, o2, hb⟩
    have z9 := hb.size
    replace ov := ov.below hb (by omega)
    replace ox := ox.below hb (by omega)
    replace oy := oy.below hb (by omega)
    replace og := og.below hb (by omega)
    replace bt := below_then bt hb (by omega)
    clear hb
    go_wp2_with fail
    refine (eqValS x0 t2 lena d w9 HLa.out ox.at o2.at).mono ?_
    rintro e w10 ⟨rfl, hb⟩
    have z10 := hb.size
    replace ov := ov.below hb (by omega)
    replace ox := ox.below hb (by omega)
    replace oy := oy.below hb (by omega)
    replace og := og.below hb (by omega)
    replace o2 := o2.below hb (by omega)
    replace bt := below_then bt hb (by omega)
    clear hb
    clear o2
    go_wp2_with fail
    refine (toIntS b len cap zs w10 (by omega) (h.below bt)).mono ?_
    rintro e w11 ⟨t3, rfl, o3, hb⟩
    have z11 := hb.size
    replace ov := ov.below hb (by omega)
    replace ox := ox.below hb (by omega)
    replace oy := oy.below hb (by omega)
    replace og := og.below hb (by omega)
    replace bt := below_then bt hb (by omega)
    clear hb
    go_wp2_with fail
    refine (eqIntS x1 t3 len zs w11 HZ.out oy.at o3.at).mono ?_
    rintro e w12 ⟨rfl, hb⟩
    have z12 := hb.size
    replace ov := ov.below hb (by omega)
    replace ox := ox.below hb (by omega)
    replace oy := oy.below hb (by omega)
    replace og := og.below hb (by omega)
    replace o3 := o3.below hb (by omega)
    replace bt := below_then bt hb (by omega)
    clear hb
    clear o3
    go_wp2_with fail
    refine (markValS x0 lena _ _ d 1 w12 (by omega) (by omega) (by omega) HLa.out ox).mono ?_
    rintro e w13 ⟨rfl, ⟨l2, hl2, hnew⟩, hg⟩
    have z13 := hg.size
    replace ov := ov.apart ox (by omega) hg
    replace oy := oy.apart ox (by omega) hg
    replace og := og.apart ox (by omega) hg
    have bg := below_grown_own ox hg (by omega) (by omega)
    replace bt := bt.trans (below_grown_own ox hg (by omega) (by omega))
    clear hg bg ox
    clear hnew hl2
    have hs1 : 1 + 3 * lena ≤ 3145729 ∧ 0 < 1 + 3 * lena := by omega
    generalize 1 + 3 * lena = sm at hs1 ⊢
    go_wp2_with fail
    refine (markIntS x1 len _ _ _ (sm : Int) w13 (by omega) (by omega) (by omega) oy).mono ?_
    rintro e w14 ⟨rfl, hnew, hg⟩
    have z14 := hg.size
    replace ov := ov.apart oy (by omega) hg
    replace og := og.apart oy (by omega) hg
    have bg := below_grown_own oy hg (by omega) (by omega)
    replace bt := bt.trans (below_grown_own oy hg (by omega) (by omega))
    clear hg bg oy
    clear hnew
    go_wp2_with fail
    refine (eqValS g0 v0 n P w14 HN.out og.at ov.at).mono ?_
    rintro e w15 ⟨rfl, hb⟩
    have z15 := hb.size
    replace ov := ov.below hb (by omega)
    replace og := og.below hb (by omega)
    replace bt := below_then bt hb (by omega)
    clear hb
    go_wp2_with fail
    refine (markValM g0 n _ _ P 1 w15 (by omega) (by omega) (by omega) HN.out og).mono ?_
    rintro e w16 ⟨rfl, hnew, hg⟩
    have z16 := hg.size
    replace ov := ov.apart og (by omega) hg
    have bg := below_grown_own og hg (by omega) (by omega)
    replace bt := bt.trans (below_grown_own og hg (by omega) (by omega))
    clear hg bg og
    have og := hnew
    clear hnew
    go_wp2_with fail
    refine (heldValS g0 n 1 w16 (by omega) (by omega) (by omega) og.rd).mono ?_
    rintro e w17 ⟨rfl, hb⟩
    have z17 := hb.size
    replace ov := ov.below hb (by omega)
    replace og := og.below hb (by omega)
    replace bt := below_then bt hb (by omega)
    clear hb
    go_wp2_with fail
    refine (toValS a lena capa d w17 (by omega) HLa.out (haA.below bt)).mono ?_
    rintro e w18 ⟨u1, rfl, q1, hb⟩
    have z18 := hb.size
    replace ov := ov.below hb (by omega)
    replace og := og.below hb (by omega)
    replace bt := below_then bt hb (by omega)
    clear hb
    go_wp2_with fail
    refine (toIntS b len cap zs w18 (by omega) (h.below bt)).mono ?_
    rintro e w19 ⟨u2, rfl, q2, hb⟩
    have z19 := hb.size
    replace ov := ov.below hb (by omega)
    replace og := og.below hb (by omega)
    replace q1 := q1.below hb (by omega)
    replace bt := below_then bt hb (by omega)
    clear hb
    go_wp2_with fail
    refine (hi u1 u2 d zs w19 (by rw [HLa.out]; omega) (by rw [HZ.out]; omega) (by rw [HLa.out]; exact q1.rd) (by rw [HZ.out]; exact q2.rd)).mono ?_
    rintro e w20 ⟨h0, rfl, oh, hb⟩
    have z20 := hb.size
    replace ov := ov.below hb (by omega)
    replace og := og.below hb (by omega)
    replace q1 := q1.below hb (by omega)
    replace q2 := q2.below hb (by omega)
    replace bt := below_then bt hb (by omega)
    clear hb
    rw [HP.out, HN.out] at oh
    clear q1 q2
    go_wp2_with fail
    refine (eqValS h0 v0 n P w20 HN.out oh.at ov.at).mono ?_
    rintro e w21 ⟨rfl, hb⟩
    have z21 := hb.size
    replace ov := ov.below hb (by omega)
    replace og := og.below hb (by omega)
    replace oh := oh.below hb (by omega)
    replace bt := below_then bt hb (by omega)
    clear hb
    go_wp2_with fail
    refine (heldValS g0 n 1 w21 (by omega) (by omega) (by omega) og.rd).mono ?_
    rintro e w22 ⟨rfl, hb⟩
    have z22 := hb.size
    replace ov := ov.below hb (by omega)
    replace og := og.below hb (by omega)
    replace oh := oh.below hb (by omega)
    replace bt := below_then bt hb (by omega)
    clear hb
    go_wp2
    go_ret
    exact ⟨rfl, bt⟩

set_option maxHeartbeats 2000000 in
theorem lawEncDict (hi : CEncDict) (b : Option Addr) (lenb capb : Nat) (l : List V) (w : World) (hlb : lenb ≤ maxLen) (hsb : ∀ v ∈ l, v.s.size ≤ maxLen) (hzb : l.length = lenb) (hbB : ArgS 3 w b lenb (vals l)) :
    Calls Try.prog 8 #[.slice b lenb capb] w fun e w' => e = .returned (.bool true) ∧ Below w.heap.size w w' := by
  have HL := Lib.hid hzb
  have HSS := Lib.hid hsb
  have hPl := encD_len' l
  rw [hzb] at hPl
  generalize hP : encD l = P at hPl
  have HP := Lib.hid hP
  clear hP
  generalize hn : P.length = n at hPl
  have HN := Lib.hid hn
  clear hn hsb hzb
  go_enter Try.func8, Try.ntmps8
  have bt := Below.refl w.heap.size w
  go_wp2_with fail
  refine (szValS b lenb capb l 1048576 w (by omega) (by omega) hlb HSS.out HL.out (hbB.below bt)).mono ?_
  rintro e w1 ⟨rb, rfl, hrb, hb⟩
  have z1 := hb.size
  replace bt := below_then bt hb (by omega)
  clear hb
  by_cases hnb : rb < 0
  · go_wp2
    go_ret
    exact ⟨rfl, bt⟩
  have hbb : lenb ≤ 1048576 := by omega
  clear hrb
  go_wp2_with fail
  refine (toValS b lenb capb l w1 (by omega) HL.out (hbB.below bt)).mono ?_
  rintro e w2 ⟨t1, rfl, o1, hb⟩
  have z2 := hb.size
  replace bt := below_then bt hb (by omega)
  clear hb
  go_wp2_with fail
  refine (sEncDict t1 l w2 (by rw [HL.out]; omega) HSS.out (by rw [HL.out]; exact o1.rd)).mono ?_
  rintro e w3 ⟨v0, rfl, ov, hb⟩
  have z3 := hb.size
  replace o1 := o1.below hb (by omega)
  replace bt := below_then bt hb (by omega)
  clear hb
  rw [HP.out, HN.out] at ov
  clear o1
  go_wp2_with fail
  refine (toValS b lenb capb l w3 (by omega) HL.out (hbB.below bt)).mono ?_
  rintro e w4 ⟨x0, rfl, ox, hb⟩
  have z4 := hb.size
  replace ov := ov.below hb (by omega)
  replace bt := below_then bt hb (by omega)
  clear hb
  go_wp2_with fail
  refine (hi x0 l w4 (by rw [HL.out]; omega) HSS.out (by rw [HL.out]; exact ox.rd)).mono ?_
  rintro e w5 ⟨g0, rfl, og, hb⟩
  have z5 := hb.size
  replace ov := ov.below hb (by omega)
  replace ox := ox.below hb (by omega)
  replace bt := below_then bt hb (by omega)
  clear hb
  rw [HP.out, HN.out] at og
  go_wp2_with fail
  refine (eqByteS g0 v0 n P w5 HN.out og.at ov.at).mono ?_
  rintro e w6 ⟨rfl, hb⟩
  have z6 := hb.size
  replace ov := ov.below hb (by omega)
  replace ox := ox.below hb (by omega)
  replace og := og.below hb (by omega)
  replace bt := below_then bt hb (by omega)
  clear hb
  go_wp2_with fail
  refine (toValS b lenb capb l w6 (by omega) HL.out (hbB.below bt)).mono ?_
  rintro e w7 ⟨t2, rfl, o2, hb⟩
  have z7 := hb.size
  replace ov := ov.below hb (by omega)
  replace ox := ox.below hb (by omega)
  replace og := og.below hb (by omega)
  replace bt := below_then bt hb (by omega)
  clear hb
  go_wp2_with fail
  refine (eqValS x0 t2 lenb l w7 HL.out ox.at o2.at).mono ?_
  rintro e w8 ⟨rfl, hb⟩
  have z8 := hb.size
  replace ov := ov.below hb (by omega)
  replace ox := ox.below hb (by omega)
  replace og := og.below hb (by omega)
  replace o2 := o2.below hb (by omega)
  replace bt := below_then bt hb (by omega)
  clear hb
  clear o2
  go_wp2_with fail
  refine (markValS x0 lenb _ _ l 1 w8 (by omega) (by omega) (by omega) HL.out ox).mono ?_
  rintro e w9 ⟨rfl, ⟨l2, hl2, hnew⟩, hg⟩
  have z9 := hg.size
  replace ov := ov.apart ox (by omega) hg
  replace og := og.apart ox (by omega) hg
  have bg := below_grown_own ox hg (by omega) (by omega)
  replace bt := bt.trans (below_grown_own ox hg (by omega) (by omega))
  clear hg bg ox
  clear hnew hl2
  go_wp2_with fail
  refine (eqByteS g0 v0 n P w9 HN.out og.at ov.at).mono ?_
  rintro e w10 ⟨rfl, hb⟩
  have z10 := hb.size
  replace ov := ov.below hb (by omega)
  replace og := og.below hb (by omega)
  replace bt := below_then bt hb (by omega)
  clear hb
  go_wp2_with fail
  refine (markByteS g0 n _ _ _ _ w10 (by omega) (by omega) (by omega) og).mono ?_
  rintro e w11 ⟨rfl, hnew, hg⟩
  have z11 := hg.size
  replace ov := ov.apart og (by omega) hg
  have bg := below_grown_own og hg (by omega) (by omega)
  replace bt := bt.trans (below_grown_own og hg (by omega) (by omega))
  clear hg bg og
  have og := hnew
  clear hnew
  go_wp2_with fail
  refine (heldByteS g0 n 1 w11 (by omega) (by omega) (by omega) og.at).mono ?_
  rintro e w' ⟨rfl, rfl⟩
  go_wp2_with fail
  refine (toValS b lenb capb l w11 (by omega) HL.out (hbB.below bt)).mono ?_
  rintro e w12 ⟨t3, rfl, o3, hb⟩
  have z12 := hb.size
  replace ov := ov.below hb (by omega)
  replace og := og.below hb (by omega)
  replace bt := below_then bt hb (by omega)
  clear hb
  go_wp2_with fail
  refine (hi t3 l w12 (by rw [HL.out]; omega) HSS.out (by rw [HL.out]; exact o3.rd)).mono ?_
  rintro e w13 ⟨h0, rfl, oh, hb⟩
  have z13 := hb.size
  replace ov := ov.below hb (by omega)
  replace og := og.below hb (by omega)
  replace o3 := o3.below hb (by omega)
  replace bt := below_then bt hb (by omega)
  clear hb
  rw [HP.out, HN.out] at oh
  clear o3
  go_wp2_with fail
  refine (eqByteS h0 v0 n P w13 HN.out oh.at ov.at).mono ?_
  rintro e w14 ⟨rfl, hb⟩
  have z14 := hb.size
  replace ov := ov.below hb (by omega)
  replace og := og.below hb (by omega)
  replace oh := oh.below hb (by omega)
  replace bt := below_then bt hb (by omega)
  clear hb
  go_wp2_with fail
  refine (heldByteS g0 n 1 w14 (by omega) (by omega) (by omega) og.at).mono ?_
  rintro e w' ⟨rfl, rfl⟩
  go_wp2
  go_ret
  exact ⟨rfl, bt⟩

set_option maxHeartbeats 2000000 in
theorem lawDecDict (hi : CDecDict) (a : Option Addr) (len cap : Nat) (zs : List Int) (ty k : Int) (w : World) (h : Arg .u8 w a len zs) (hby : Num.Bytes zs) :
    Calls Try.prog 9 #[.slice a len cap, .int .i64 ty, .int .i64 k] w fun e w' => e = .returned (.bool true) ∧ Below w.heap.size w w' := by
  by_cases hbig : 1048576 < len
  · go_enter Try.func9, Try.ntmps9
    go_wp2
    go_ret
    exact ⟨rfl, Below.refl _ _⟩
  · have HZ : Hid (zs.length = len) := h.1
    have hPl := decD_len zs ty k
    have hqq : ((decD zs ty k).2 != (decD zs ty k).2) = false := by simp
    generalize hP : (decD zs ty k).1 = P at hPl
    have HP := Lib.hid hP
    clear hP
    generalize hn : P.length = n at hPl
    have HN := Lib.hid hn
    clear hn
    go_enter Try.func9, Try.ntmps9
    have bt := Below.refl w.heap.size w
    go_wp2_with fail
    refine (toByteS a len cap zs w (by omega) (h.below bt)).mono ?_
    rintro e w1 ⟨t1, rfl, o1, hb⟩
    have z1 := hb.size
    replace bt := below_then bt hb (by omega)
    clear hb
    go_wp2_with fail
    refine (sDecDict t1 len zs ty k w1 (by omega) HZ.out hby o1.at).mono ?_
    rintro e w2 ⟨v0, rfl, ov, hb⟩
    have z2 := hb.size
    replace o1 := o1.below hb (by omega)
    replace bt := below_then bt hb (by omega)
    clear hb
    rw [HP.out, HN.out] at ov
    clear o1
    go_wp2_with fail
    refine (toByteS a len cap zs w2 (by omega) (h.below bt)).mono ?_
    rintro e w3 ⟨x0, rfl, ox, hb⟩
    have z3 := hb.size
    replace ov := ov.below hb (by omega)
    replace bt := below_then bt hb (by omega)
    clear hb
    go_wp2_with fail
    refine (hi x0 len zs ty k w3 (by omega) HZ.out hby ox.at).mono ?_
    rintro e w4 ⟨g0, rfl, og, hb⟩
    have z4 := hb.size
    replace ov := ov.below hb (by omega)
    replace ox := ox.below hb (by omega)
    replace bt := below_then bt hb (by omega)
    clear hb
    rw [HP.out, HN.out] at og
    go_wp2_with fail
    refine (eqValS g0 v0 n P w4 HN.out og.at ov.at).mono ?_
    rintro e w5 ⟨rfl, hb⟩
    have z5 := hb.size
    replace ov := ov.below hb (by omega)
    replace ox := ox.below hb (by omega)
    replace og := og.below hb (by omega)
    replace bt := below_then bt hb (by omega)
    clear hb
    go_wp2_with fail
    refine (toByteS a len cap zs w5 (by omega) (h.below bt)).mono ?_
    rintro e w6 ⟨t2, rfl, o2, hb⟩
    have z6 := hb.size
    replace ov := ov.below hb (by omega)
    replace ox := ox.below hb (by omega)
    replace og := og.below hb (by omega)
    replace bt := below_then bt hb (by omega)
    clear hb
    go_wp2_with fail
    refine (eqByteS x0 t2 len zs w6 HZ.out ox.at o2.at).mono ?_
    rintro e w7 ⟨rfl, hb⟩
    have z7 := hb.size
    replace ov := ov.below hb (by omega)
    replace ox := ox.below hb (by omega)
    replace og := og.below hb (by omega)
    replace o2 := o2.below hb (by omega)
    replace bt := below_then bt hb (by omega)
    clear hb
    clear o2
    go_wp2_with fail
    refine (markByteS x0 len _ _ _ _ w7 (by omega) (by omega) (by omega) ox).mono ?_
    rintro e w8 ⟨rfl, hnew, hg⟩
    have z8 := hg.size
    replace ov := ov.apart ox (by omega) hg
    replace og := og.apart ox (by omega) hg
    have bg := below_grown_own ox hg (by omega) (by omega)
    replace bt := bt.trans (below_grown_own ox hg (by omega) (by omega))
    clear hg bg ox
    clear hnew
    go_wp2_with fail
    refine (eqValS g0 v0 n P w8 HN.out og.at ov.at).mono ?_
    rintro e w9 ⟨rfl, hb⟩
    have z9 := hb.size
    replace ov := ov.below hb (by omega)
    replace og := og.below hb (by omega)
    replace bt := below_then bt hb (by omega)
    clear hb
    go_wp2_with fail
    refine (markValM g0 n _ _ P 1 w9 (by omega) (by omega) (by omega) HN.out og).mono ?_
    rintro e w10 ⟨rfl, hnew, hg⟩
    have z10 := hg.size
    replace ov := ov.apart og (by omega) hg
    have bg := below_grown_own og hg (by omega) (by omega)
    replace bt := bt.trans (below_grown_own og hg (by omega) (by omega))
    clear hg bg og
    have og := hnew
    clear hnew
    go_wp2_with fail
    refine (heldValS g0 n 1 w10 (by omega) (by omega) (by omega) og.rd).mono ?_
    rintro e w11 ⟨rfl, hb⟩
    have z11 := hb.size
    replace ov := ov.below hb (by omega)
    replace og := og.below hb (by omega)
    replace bt := below_then bt hb (by omega)
    clear hb
    go_wp2_with fail
    refine (toByteS a len cap zs w11 (by omega) (h.below bt)).mono ?_
    rintro e w12 ⟨t3, rfl, o3, hb⟩
    have z12 := hb.size
    replace ov := ov.below hb (by omega)
    replace og := og.below hb (by omega)
    replace bt := below_then bt hb (by omega)
    clear hb
    go_wp2_with fail
    refine (hi t3 len zs ty k w12 (by omega) HZ.out hby o3.at).mono ?_
    rintro e w13 ⟨h0, rfl, oh, hb⟩
    have z13 := hb.size
    replace ov := ov.below hb (by omega)
    replace og := og.below hb (by omega)
    replace o3 := o3.below hb (by omega)
    replace bt := below_then bt hb (by omega)
    clear hb
    rw [HP.out, HN.out] at oh
    clear o3
    go_wp2_with fail
    refine (eqValS h0 v0 n P w13 HN.out oh.at ov.at).mono ?_
    rintro e w14 ⟨rfl, hb⟩
    have z14 := hb.size
    replace ov := ov.below hb (by omega)
    replace og := og.below hb (by omega)
    replace oh := oh.below hb (by omega)
    replace bt := below_then bt hb (by omega)
    clear hb
    go_wp2_with fail
    refine (heldValS g0 n 1 w14 (by omega) (by omega) (by omega) og.rd).mono ?_
    rintro e w15 ⟨rfl, hb⟩
    have z15 := hb.size
    replace ov := ov.below hb (by omega)
    replace og := og.below hb (by omega)
    replace oh := oh.below hb (by omega)
    replace bt := below_then bt hb (by omega)
    clear hb
    go_wp2
    go_ret
    exact ⟨rfl, bt⟩

end Go.Proofs.Ytoidpibdjijamaa

/- Plain mathematics of chapter 5: a Val's bytes, read again; the types of a list. -/
namespace Go.Proofs.Ytoidpibdjijamaa
open Go.RowKit

theorem okV_num {v : V} (h : okV v = true) (ht : v.ty = 1) : Num.ok v.n := by
  unfold okV at h
  rw [if_pos ht] at h
  simp only [Bool.and_eq_true] at h
  exact Num.okB_true.1 h.1
theorem getV_int {zs : List Int} {i : Int} : getV zs i 1 = if (Num.get zs i).2.2 = true then (⟨1, (Num.get zs i).1, ⟨#[]⟩⟩, (Num.get zs i).2.1, true) else (V.zero, 0, false) := if_pos rfl
theorem str_sbytes (s : ByteArray) : strOfNums (sbytes s) = s := by
  unfold strOfNums sbytes
  apply ByteArray.ext
  apply Array.toList_inj.1
  simp only [List.map_map]
  have : ((fun n : Int => UInt8.ofNat n.toNat) ∘ fun b : UInt8 => (b.toNat : Int)) = id := by
    funext b
    simp
  rw [this]
  simp
/-- A value's bytes. -/
def valB (v : V) : List Int := if v.ty = 1 then Num.grp 4 (Num.zig v.n) else (v.s.size : Int) :: sbytes v.s
theorem putV_val {v : V} (h : okV v = true) (zs : List Int) : putV zs v = zs ++ valB v := by
  unfold putV valB
  rw [if_pos h]
  split
  · rename_i ht
    exact Num.put_ok (okV_num h ht)
  · rfl
theorem get_grp {b rest : List Int} {n : Int} (h : Num.ok n) : Num.get (b ++ (Num.grp 4 (Num.zig n) ++ rest)) b.length = (n, ((b ++ Num.grp 4 (Num.zig n)).length : Int), true) := by
  have := Num.get_put (b := b) (rest := rest) h
  rw [Num.put_ok h, List.append_assoc] at this
  exact this
theorem getV_val {v : V} (h : okV v = true) (b rest : List Int) : getV (b ++ (valB v ++ rest)) b.length v.ty = (v, ((b ++ valB v).length : Int), true) := by
  obtain ⟨t, n, s⟩ := v
  unfold valB
  by_cases ht : t = 1
  · subst ht
    have hn := okV_num h rfl
    have hs : s = ⟨#[]⟩ := by
      unfold okV at h
      simp only [if_true, Bool.and_eq_true, beq_iff_eq] at h
      apply ByteArray.ext
      apply Array.eq_empty_of_size_eq_zero
      exact h.2
    subst hs
    simp only [if_true]
    rw [getV_int, get_grp hn]
    simp
  · have hsz := okV_txt h ht
    have h' := h
    unfold okV at h
    simp only [if_neg ht, Bool.and_eq_true, beq_iff_eq] at h
    obtain ⟨rfl, rfl, htx⟩ := h
    simp only [if_neg ht]
    unfold getV
    rw [if_neg ht, if_pos ⟨rfl, Num.inB_true.2 ⟨by omega, by simp; omega⟩⟩]
    unfold getT
    have e0 : (b ++ ((s.size : Int) :: sbytes s ++ rest)).getD (b.length : Int).toNat 0 = (s.size : Int) := by
      rw [Int.toNat_natCast]
      simp [List.getD]
    have e1 : ((b ++ ((s.size : Int) :: sbytes s ++ rest)).drop ((b.length : Int).toNat + 1)).take ((s.size : Int)).toNat = sbytes s := by
      rw [Int.toNat_natCast, Int.toNat_natCast, List.drop_append, List.drop_of_length_le (by omega), List.nil_append, Nat.add_sub_cancel_left]
      simp only [List.cons_append, List.drop_succ_cons, List.drop_zero]
      rw [← sbytes_len s, List.take_left]
    simp only [e0, e1, str_sbytes]
    rw [if_pos ⟨by
      simp only [List.length_append, List.length_cons, sbytes_len, Int.toNat_natCast]
      omega, h'⟩]
    simp only [List.length_append, List.length_cons, sbytes_len, Int.toNat_natCast]
    congr 2
    omega
theorem typeV_parts {l : List V} (h : ¬ typeV l = 0) : 1 ≤ l.length ∧ l.length ≤ 64 ∧ ∀ v ∈ l, okV v = true ∧ v.ty = typeV l := by
  unfold typeV at h ⊢
  by_cases hc : Num.inB l.length 1 64 = true ∧ l.all (ofB (l.getD 0 V.zero).ty) = true
  · rw [if_pos hc]
    have h1 := Num.inB_true.1 hc.1
    refine ⟨by omega, by omega, fun v hv => ?_⟩
    have := List.all_eq_true.1 hc.2 v hv
    unfold ofB at this
    simp only [Bool.and_eq_true, beq_iff_eq] at this
    exact this
  · rw [if_neg hc] at h
    exact absurd rfl h
theorem typeV_of {l : List V} {ty : Int} (h1 : 1 ≤ l.length) (h2 : l.length ≤ 64) (h : ∀ v ∈ l, okV v = true ∧ v.ty = ty) : typeV l = ty := by
  have e0 : l.getD 0 V.zero ∈ l := by
    have hl : 0 < l.length := by omega
    have e : l.getD 0 V.zero = l[0] := by simp [hl]
    rw [e]
    exact List.getElem_mem hl
  unfold typeV
  rw [if_pos, (h _ e0).2]
  refine ⟨Num.inB_true.2 ⟨by omega, by omega⟩, List.all_eq_true.2 (fun v hv => ?_)⟩
  unfold ofB
  rw [(h _ e0).2, (h v hv).1, (h v hv).2]
  simp
theorem getV_ok {zs : List Int} (hb : Num.Bytes zs) {i ty : Int} (h : (getV zs i ty).2.2 = true) : okV (getV zs i ty).1 = true ∧ (getV zs i ty).1.ty = ty := by
  unfold getV at h ⊢
  split
  · rename_i ht
    subst ht
    rw [if_pos rfl] at h
    split
    · rename_i hg
      have hp : Num.get zs i = ((Num.get zs i).1, (Num.get zs i).2.1, true) := by rw [← hg]
      have := (Num.put_get hb hp).2.2.2.2.1
      refine ⟨?_, rfl⟩
      unfold okV
      simp only [if_true, Bool.and_eq_true]
      exact ⟨Num.okB_true.2 this, rfl⟩
    · rename_i hg
      rw [if_neg hg] at h
      cases h
  · rename_i ht
    rw [if_neg ht] at h
    split
    · rename_i hc
      rw [if_pos hc] at h
      unfold getT at h ⊢
      split
      · rename_i hd
        exact ⟨hd.2, hc.1.symm⟩
      · rename_i hd
        rw [if_neg hd] at h
        cases h
    · rename_i hc
      rw [if_neg hc] at h
      cases h

end Go.Proofs.Ytoidpibdjijamaa

/- The contracts of impl's appendVal, PutVal, EncPlain. -/
namespace Go.Proofs.Ytoidpibdjijamaa
open Go.RowKit Go.Lib

/-- append(b, s...), s a string, as one operation: which block it may have written. -/
theorem appendS_grown {P : Program} {t u e : TypeId} (T : ElemT P t e (.int .u8 0) 1 1) (hu : P.underlying u = some .string) {w : World} {o : Oper} {a : Act} {K : Act → World → Prop} {Q : Exit → Act → World → Prop} (b x : Operand)
    (ho : o.op = .call { callee := .builtin .append, args := #[b, x], argTypes := #[t, u] })
    (lo hi : Nat) (v : Value) (n : Nat) (xs : List Value) (s : ByteArray) (hs : a.eval b = v) (hown : Own e 1 lo hi w v n xs)
    (hx : a.eval x = .string s) (h63 : n + s.size ≤ maxLen) (hbytes : n + s.size ≤ 140737488355328)
    (h : ∀ v' w', Own e 1 lo w'.heap.size w' v' (n + s.size) (xs ++ ints .u8 (sbytes s)) → w.grownBy w' v.ownBlock → K (a.put o.dst v') w') : Oper.wp P o a w K Q := by
  obtain ⟨i, hi', hz, hsz, hb⟩ := T.info
  obtain ⟨v', w', hr, h2, h3, h4⟩ := run_append_own_string (P := P) w lo t u o.type e i T.ht hu hi' hz hsz hb v n xs hown.row s h63 hbytes hown.lo
  rw [strCells_eq] at h2
  unfold Oper.wp execOp
  simp only [ho, resolve, invoke, builtin, Sem.run_bind, Sem.run_pure, Result.andThen_ok, List.map_toArray, List.map_cons, List.map_nil, hs, hx, hr]
  exact h v' w' (hown.append h2 h4) h3

theorem Ext.then_grown {w w1 w2 : World} {v v1 : Value} (h : Ext w w1 v v1) (k : w1.grownBy w2 v1.ownBlock) : w.grownBy w2 v.ownBlock := by
  have hs := h.grown.size
  refine ⟨k.os.trans h.grown.os, k.tape.trans h.grown.tape, k.output.trans h.grown.output, Nat.le_trans hs k.size, fun i hi hne => ?_⟩
  refine (k.block i (by omega) (fun e => ?_)).trans (h.grown.block i hi hne)
  rcases h.blk with hb | ⟨g, hb, hg⟩
  · exact hne (e.trans hb)
  · rw [hb] at e
    cases e
    omega

set_option maxHeartbeats 1000000 in
theorem appendValG (v : Value) (lo hi n : Nat) (zs : List Int) (x : V) (w : World) (hn : n ≤ 1073741824) (hz : zs.length = n) (hok : okV x = true) (h : Own 5 1 lo hi w v n (ints .u8 zs)) :
    Calls Try.prog 49 #[v, x.agg] w fun e w' => ∃ v', e = .returned v' ∧ Own 5 1 lo w'.heap.size w' v' (putV zs x).length (ints .u8 (putV zs x)) ∧ Below lo w w' ∧ w.grownBy w' v.ownBlock := by
  have HZ := Lib.hid hz
  have HE : Hid (putV zs x = if x.ty = 1 then Num.put zs x.n else zs ++ ((x.s.size : Int) :: sbytes x.s)) := if_pos hok
  have HSZ : Hid (¬ x.ty = 1 → x.s.size ≤ 6) := fun h2 => okV_txt hok h2
  have HON : Hid (x.ty = 1 → Num.ok x.n) := fun h2 => okV_num hok h2
  clear hz hok
  obtain ⟨t, xn, s⟩ := x
  simp only at HE HSZ HON
  obtain ⟨g, cap, rfl, g1, g2, g3⟩ := h
  have hgl := (g3.lt g rfl).2
  have h : Own 5 1 lo w.heap.size w (.slice (some ⟨g, 0, none⟩) n cap) n (ints .u8 zs) := ⟨g, cap, rfl, g1, hgl, g3⟩
  clear g1 g2 g3
  have B0 := below_alloc_own h (.cells #[.int .i64 t, .int .i64 xn, .string s] 37)
  have O0 := h.alloc (.cells #[.int .i64 t, .int .i64 xn, .string s] 37)
  have c0 : (w.alloc (.cells #[.int .i64 t, .int .i64 xn, .string s] 37)).cell? ⟨w.heap.size, 0, none⟩ = some (.int .i64 t) := by simp
  have c1 : (w.alloc (.cells #[.int .i64 t, .int .i64 xn, .string s] 37)).cell? ⟨w.heap.size, 1, none⟩ = some (.int .i64 xn) := by simp
  have c2 : (w.alloc (.cells #[.int .i64 t, .int .i64 xn, .string s] 37)).cell? ⟨w.heap.size, 2, none⟩ = some (.string s) := by simp
  have hszb : (w.alloc (.cells #[.int .i64 t, .int .i64 xn, .string s] 37)).heap.size = w.heap.size + 1 := World.size_alloc _ _
  have EX := Ext.alloc (w := w) (.slice (some ⟨g, 0, none⟩) n cap) (.cells #[.int .i64 t, .int .i64 xn, .string s] 37)
  generalize hwb : w.alloc (.cells #[.int .i64 t, .int .i64 xn, .string s] 37) = wb at B0 O0 c0 c1 c2 hszb EX
  have HW := Lib.hid hwb
  have HSB := Lib.hid hszb
  have HEX := Lib.hid EX
  clear hwb hszb h EX
  by_cases ht : t = 1
  · subst ht
    rw [if_pos rfl] at HE
    have HP : Hid (Num.put zs xn = Num.puts zs [xn]) := by
      show _ = _
      rw [Num.puts_one, Num.put_ok (HON.out rfl)]
    have hl : At 1 (wb.alloc (.cells #[.int .i64 xn] 3)) (.slice (some ⟨wb.heap.size, 0, none⟩) 1 1) 1 (ints .i64 [xn]) := (own_lit wb #[.int .i64 xn] 1 (by unfold maxLen; omega) rfl).at
    have HA := Lib.hid (appendNums (.slice (some ⟨g, 0, none⟩) n cap) _ lo _ n 1 zs [xn] _ HZ.out rfl (by omega) (by omega) (O0.alloc (.cells #[.int .i64 xn] 3)) hl (fun _ => own_ne O0 (by rw [HSB.out]; omega)))
    clear hl
    go_enter Try.func49, Try.ntmps49
    go_wp2_with fail
    rw [HW.out]
    have hsb := HSB.out
    simp only [hsb] at HA
    refine HA.out.mono ?_
    rintro e w2 ⟨v2, rfl, o2, e2⟩
    have b2 := (B0.alloc O0.lo _).trans (e2.below (O0.alloc _))
    rw [← HP.out, ← HE.out] at o2
    have O2 := Lib.hid o2
    have G2 := Lib.hid ((HEX.out.trans (Ext.alloc _ _)).trans e2).grown
    clear o2 e2 hsb HA
    go_wp2
    go_ret
    exact ⟨_, rfl, O2.out, b2, G2.out⟩
  · have htb : (t == 1) = false := by simpa using ht
    rw [if_neg ht] at HE
    have hs6 := HSZ.out ht
    have hwr : IntKind.u8.wrap (s.size : Int) = s.size := by
      simp only [IntKind.wrap, IntKind.bits, IntKind.signed, Bool.false_and, Bool.false_eq_true, if_false]
      omega
    go_enter Try.func49, Try.ntmps49
    go_wp2_with fail
    rw [HW.out]
    refine wp_region_held_drew (S := fun W => W.cell? ⟨w.heap.size, 2, none⟩ = some (.string s)) (by kernel_rfl) c2 (fun hHeld => ?_)
    refine takeH (i := 0) (d := some 13) (v := .slice (some ⟨g, 0, none⟩) n cap) rfl rfl (by kernel_rfl) (by kernel_rfl) (by kernel_rfl) (fun _ _ _ h => h) (Or.inl ⟨by rfl, fun W hSw => by go_simp⟩) hHeld ?_
    simp only [put_some, List.set_cons_zero, List.set_cons_succ]
    refine takeH (i := 1) (d := some 14) (v := .pointer (some ⟨w.heap.size, 2, none⟩)) rfl rfl (by kernel_rfl) (by kernel_rfl) (by kernel_rfl) (fun _ _ _ h => h) (Or.inl ⟨by rfl, fun W hSw => by go_simp⟩) hHeld ?_
    simp only [put_some, List.set_cons_zero, List.set_cons_succ]
    refine takeH (i := 2) (d := some 15) (v := .string s) rfl rfl (by kernel_rfl) (by kernel_rfl) (by kernel_rfl) (fun _ _ _ h => h) (Or.inl ⟨by rfl, fun W hSw => by go_simp⟩) hHeld ?_
    simp only [put_some, List.set_cons_zero, List.set_cons_succ]
    refine takeH (i := 3) (d := some 16) (v := .int .i64 (s.size : Int)) rfl rfl (by kernel_rfl) (by kernel_rfl) (by kernel_rfl) (fun _ _ _ h => h) (Or.inl ⟨by rfl, fun W hSw => by go_simp⟩) hHeld ?_
    simp only [put_some, List.set_cons_zero, List.set_cons_succ]
    refine takeH (i := 4) (d := some 17) (v := .int .u8 (s.size : Int)) rfl rfl (by kernel_rfl) (by kernel_rfl) (by kernel_rfl) (fun _ _ _ h => h) (Or.inl ⟨by rfl, fun W hSw => by go_simp⟩) hHeld ?_
    simp only [put_some, List.set_cons_zero, List.set_cons_succ]
    refine takeH (i := 7) (d := some 20) (v := .pointer (some ⟨w.heap.size, 2, none⟩)) rfl rfl (by kernel_rfl) (by kernel_rfl) (by kernel_rfl) (fun _ _ _ h => h) (Or.inl ⟨by rfl, fun W hSw => by go_simp⟩) hHeld ?_
    simp only [put_some, List.set_cons_zero, List.set_cons_succ]
    refine takeH (i := 8) (d := some 21) (v := .string s) rfl rfl (by kernel_rfl) (by kernel_rfl) (by kernel_rfl) (fun _ _ _ h => h) (Or.inl ⟨by rfl, fun W hSw => by go_simp⟩) hHeld ?_
    simp only [put_some, List.set_cons_zero, List.set_cons_succ]
    refine wpAnyH_ready (rs := [5]) (by kernel_rfl) (by simp) ?_
    refine AllReadyH.cons rfl (fun K hK => ?_) AllReadyH.nil
    go_simp
    refine hK.out _ _ ((below_alloc wb.drew _).cell (p := ⟨w.heap.size, 2, none⟩) (lt_of_cell hHeld) |>.trans hHeld) (fun hHeld => ?_)
    clear hK K
    refine wpAnyH_ready (rs := [6]) (by kernel_rfl) (by simp) ?_
    refine AllReadyH.cons rfl (fun K hK => ?_) AllReadyH.nil
    refine append1_op Try.elemBytes (.tmp 13) (.tmp 18) rfl lo w.heap.size (.slice (some ⟨g, 0, none⟩) n cap) n (ints .u8 zs) (.int .u8 (s.size : Int)) rfl rfl O0.drew rfl (by unfold maxLen; omega) (by omega) ?_
    intro v4 w4 o4 e4
    have hne4 : v4.ownBlock ≠ some w.heap.size := fun hb => by
      rcases e4.blk with h1 | ⟨g', h1, h2⟩
      · rw [hb] at h1
        simp [Value.ownBlock] at h1
        omega
      · rw [hb] at h1
        obtain rfl : w.heap.size = g' := by simpa using h1
        rw [World.size_alloc] at h2
        have := HSB.out
        have h3 : wb.drew.heap.size = wb.heap.size := rfl
        omega
    replace hHeld := (World.cell?_of_block (a := ⟨w.heap.size, 2, none⟩) (e4.grown.block w.heap.size (lt_of_cell hHeld) (by simp [Value.ownBlock]; omega))).trans hHeld
    have B4 : Below lo wb.drew w4 := ((Below.refl lo wb.drew).alloc O0.drew.lo _).trans (e4.below (O0.drew.alloc _))
    refine hK.out _ _ hHeld (fun hHeld => ?_)
    have HE4 := Lib.hid e4
    clear hK K e4
    obtain ⟨g4, cap4, rfl⟩ : ∃ g cp, v4 = .slice (some ⟨g, 0, none⟩) (n + 1) cp := by
      obtain ⟨g, cp, e, _⟩ := o4
      exact ⟨g, cp, e⟩
    refine wpAnyH_ready (rs := [9]) (by kernel_rfl) (by simp) ?_
    refine AllReadyH.cons rfl (fun K hK => ?_) AllReadyH.nil
    refine appendS_grown Try.elemBytes Try.underlying9 (.tmp 19) (.tmp 21) rfl lo w4.heap.size (.slice (some ⟨g4, 0, none⟩) (n + 1) cap4) (n + 1) (ints .u8 zs ++ [.int .u8 (s.size : Int)]) s rfl o4 rfl (by unfold maxLen; omega) (by omega) ?_
    intro v5 w5 o5 b5
    obtain ⟨g5, cap5, rfl⟩ : ∃ g cp, v5 = .slice (some ⟨g, 0, none⟩) (n + 1 + s.size) cp := by
      obtain ⟨g, cp, e, _⟩ := o5
      exact ⟨g, cp, e⟩
    have HC5 : Hid (w5.cell? ⟨w.heap.size, 2, none⟩ = some (.string s)) := (World.cell?_of_block (a := ⟨w.heap.size, 2, none⟩) (b5.block w.heap.size (lt_of_cell hHeld) (fun e => hne4 e.symm))).trans hHeld
    have B5 := Lib.hid (B0.trans (((Below.refl lo wb).drew.trans B4).trans ((Below.refl lo w4).grown b5 o4.lo o4.block)))
    have G5 := Lib.hid (((HEX.out.trans (Ext.of_below _ (below_drewN wb wb.heap.size 1))).trans ((Ext.alloc _ _).trans HE4.out)).then_grown b5)
    have O5 : Hid (Own 5 1 lo w5.heap.size w5 (.slice (some ⟨g5, 0, none⟩) (n + 1 + s.size) cap5) (putV zs ⟨t, xn, s⟩).length (ints .u8 (putV zs ⟨t, xn, s⟩))) := by
      show Own _ _ _ _ _ _ _ _
      rw [HE.out]
      have e1 : (zs ++ ((s.size : Int) :: sbytes s)).length = n + 1 + s.size := by
        simp only [List.length_append, List.length_cons, sbytes_len, HZ.out]
        omega
      have e2 : ints .u8 (zs ++ ((s.size : Int) :: sbytes s)) = ints .u8 zs ++ [.int .u8 (s.size : Int)] ++ ints .u8 (sbytes s) := by simp [ints]
      rw [e1, e2]
      exact o5
    clear o5 b5 B4 o4 hHeld
    go_simp
    refine hK.out _ _ HC5.out (fun hHeld => ?_)
    clear hK K
    refine takeH (i := 10) (d := some 4) (v := .slice (some ⟨g5, 0, none⟩) (n + 1 + s.size) cap5) rfl rfl (by kernel_rfl) (by kernel_rfl) (by kernel_rfl) (fun _ _ _ h => h) (Or.inl ⟨by rfl, fun W hSw => by go_simp⟩) hHeld ?_
    simp only [put_some, List.set_cons_zero, List.set_cons_succ]
    refine wpAnyH_done (by kernel_rfl) ?_ _
    go_wp2
    go_ret
    exact ⟨_, rfl, O5.out, B5.out, G5.out⟩
theorem appendVal (v : Value) (lo hi n : Nat) (zs : List Int) (x : V) (w : World) (hn : n ≤ 1073741824) (hz : zs.length = n) (hok : okV x = true) (h : Own 5 1 lo hi w v n (ints .u8 zs)) :
    Calls Try.prog 49 #[v, x.agg] w fun e w' => ∃ v', e = .returned v' ∧ Own 5 1 lo w'.heap.size w' v' (putV zs x).length (ints .u8 (putV zs x)) ∧ Below lo w w' :=
  (appendValG v lo hi n zs x w hn hz hok h).mono fun _ _ ⟨v', h1, h2, h3, _⟩ => ⟨v', h1, h2, h3⟩

theorem typeV_ok {l : List V} (h : ¬ typeV l = 0) {k : Nat} (hk : k < l.length) : okV (l.getD k V.zero) = true := by
  unfold typeV at h
  split at h
  · rename_i h2
    have e : l.getD k V.zero = l[k] := by simp [hk]
    have := List.all_eq_true.1 h2.2 _ (List.getElem_mem hk)
    rw [e]
    unfold ofB at this
    simp only [Bool.and_eq_true] at this
    exact this.1
  · exact absurd rfl h

end Go.Proofs.Ytoidpibdjijamaa

/- The contracts of impl's cutBytes, getText, GetVal. -/
namespace Go.Proofs.Ytoidpibdjijamaa
open Go.RowKit

/-- cutBytes where nothing is cut. -/
theorem cutNot (a : Option Addr) (n cap k : Nat) (i q : Int) (hq : q = k) (w : World) (_ : n ≤ 1073741824) (hk : k ≤ 255) (h : ¬ (0 ≤ i ∧ i + k ≤ n)) :
    Calls Try.prog 130 #[.slice a n cap, .int .i64 i, .int .i64 q] w fun e w' => e = .returned (.tuple #[.slice none 0 0, .bool false]) ∧ w = w' := by
  subst hq
  by_cases h0 : i < 0
  · go_enter Try.func130, Try.ntmps130
    go_wp2
    go_ret2
    exact ⟨rfl, rfl⟩
  · obtain ⟨I, rfl⟩ := Int.eq_ofNat_of_zero_le (show 0 ≤ i by omega)
    by_cases h1 : n < I
    · go_enter Try.func130, Try.ntmps130
      go_wp2
      go_ret2
      exact ⟨rfl, rfl⟩
    · have h2 : (n : Int) - I < k := by omega
      clear h h0
      go_enter Try.func130, Try.ntmps130
      go_wp2
      go_ret2
      exact ⟨rfl, rfl⟩

/-- cutBytes where bytes are cut. -/
theorem cutOk (b off n cap k I : Nat) (i q : Int) (hi : i = I) (hq : q = k) (w : World) (_ : n ≤ 1073741824) (hk : k ≤ 255) (hnc : n ≤ cap) (hcm : cap ≤ maxLen) (h : I + k ≤ n) :
    Calls Try.prog 130 #[.slice (some ⟨b, off, none⟩) n cap, .int .i64 i, .int .i64 q] w fun e w' => ∃ o, e = .returned (.tuple #[.slice (some ⟨b, o, none⟩) k k, .bool true]) ∧ (0 < k → o = off + I) ∧ w = w' := by
  subst hi hq
  unfold maxLen at hcm
  have h1 : ¬ ((n : Int) - I < k) := by omega
  by_cases h0 : k = 0
  · subst h0
    go_enter Try.func130, Try.ntmps130
    go_wp2
    go_ret2
    exact ⟨⟨_, rfl⟩, rfl⟩
  · go_enter Try.func130, Try.ntmps130
    go_wp2
    go_ret2
    exact ⟨_, rfl, fun _ => rfl, rfl⟩

/-- getText. -/
def textAt (zs : List Int) (I : Nat) : ByteArray := strOfNums ((zs.drop (I + 1)).take (zs.getD I 0).toNat)
def getS (zs : List Int) (i : Int) : ByteArray × Int × Bool :=
  if (0 ≤ i ∧ i + 1 ≤ zs.length) ∧ i + 1 + zs.getD i.toNat 0 ≤ zs.length ∧ txtB (textAt zs i.toNat) = true then (textAt zs i.toNat, i + 1 + zs.getD i.toNat 0, true) else (⟨#[]⟩, 0, false)
theorem getV_text {zs : List Int} {i : Int} : getV zs i 2 = if (getS zs i).2.2 = true then (⟨2, 0, (getS zs i).1⟩, (getS zs i).2.1, true) else (V.zero, 0, false) := by
  unfold getV
  rw [if_neg (by decide)]
  have hok : ∀ s, okV ⟨2, 0, s⟩ = txtB s := fun s => by simp [okV]
  by_cases h1 : 0 ≤ i ∧ i + 1 ≤ zs.length
  · obtain ⟨I, rfl⟩ := Int.eq_ofNat_of_zero_le h1.1
    rw [if_pos ⟨rfl, Num.inB_true.2 ⟨h1.1, by omega⟩⟩]
    have e0 : getT zs I = if zs.getD I 0 ≤ (zs.length : Int) - I - 1 ∧ txtB (textAt zs I) = true then (⟨2, 0, textAt zs I⟩, (I : Int) + 1 + zs.getD I 0, true) else (V.zero, 0, false) := by
      rw [← hok]
      rfl
    have e1 : getS zs I = if (0 ≤ (I : Int) ∧ (I : Int) + 1 ≤ zs.length) ∧ (I : Int) + 1 + zs.getD I 0 ≤ zs.length ∧ txtB (textAt zs I) = true then (textAt zs I, (I : Int) + 1 + zs.getD I 0, true) else (⟨#[]⟩, 0, false) := rfl
    rw [e1, Int.toNat_natCast, e0]
    by_cases h2 : (I : Int) + 1 + zs.getD I 0 ≤ zs.length ∧ txtB (textAt zs I) = true
    · rw [if_pos (c := _ ∧ _) ⟨by omega, h2.2⟩, if_pos (c := (0 ≤ (I : Int) ∧ (I : Int) + 1 ≤ zs.length) ∧ _) ⟨h1, h2⟩]
      rfl
    · rw [if_neg (c := zs.getD I 0 ≤ (zs.length : Int) - I - 1 ∧ _) (fun h => h2 ⟨by omega, h.2⟩), if_neg (c := (0 ≤ (I : Int) ∧ (I : Int) + 1 ≤ zs.length) ∧ _) (fun h => h2 h.2)]
      rfl
  · have e1 : getS zs i = (⟨#[]⟩, 0, false) := if_neg (fun h => h1 h.1)
    rw [e1, if_neg (fun h => h1 (by have := Num.inB_true.1 h.2; omega))]
    rfl
theorem getV_none {zs : List Int} {i ty : Int} (h1 : ¬ ty = 1) (h2 : ¬ ty = 2) : getV zs i ty = (V.zero, 0, false) := by
  unfold getV
  rw [if_neg h1, if_neg (fun h => h2 h.1)]

set_option maxHeartbeats 1000000 in
theorem getText (v : Value) (n : Nat) (zs : List Int) (i : Int) (w : World) (hn : n ≤ 1048576) (hz : zs.length = n) (hby : Num.Bytes zs) (h : At 1 w v n (ints .u8 zs)) :
    Calls Try.prog 122 #[v, .int .i64 i] w fun e w' => e = .returned (.tuple #[.string (getS zs i).1, .int .i64 (getS zs i).2.1, .bool (getS zs i).2.2]) ∧ w = w' := by
  obtain ⟨b, off, cap, rfl, hnc, hcm, _, hc⟩ := h
  by_cases h1 : 0 ≤ i ∧ i + 1 ≤ n
  · obtain ⟨I, rfl⟩ := Int.eq_ofNat_of_zero_le h1.1
    have hI : I < n := by omega
    have hcI := At.cell (k := .u8) (n := n) hc hz hI
    have hbI := hby _ (getD_mem (by omega : I < zs.length))
    have HE : Hid (getS zs I = if (I : Int) + 1 + zs.getD I 0 ≤ n ∧ txtB (textAt zs I) = true then (textAt zs I, (I : Int) + 1 + zs.getD I 0, true) else (⟨#[]⟩, 0, false)) := by
      show _ = _
      unfold getS
      rw [hz, Int.toNat_natCast]
      congr 1
      simp [h1]
    have HCV : Hid (∀ (C : Nat), zs.getD I 0 = (C : Int) → I + 1 + C ≤ n → ∀ (o cp : Nat), (0 < C → o = off + (I + 1)) → (convert 22 9 (.slice (some ⟨b, o, none⟩) C cp)).run Try.prog w = .ok (.string (textAt zs I)) w) := fun C hC hle o cp ho => by
      have e0 : textAt zs I = strOfNums ((zs.drop (I + 1)).take C) := by
        unfold textAt
        rw [hC, Int.toNat_natCast]
      rw [e0]
      refine run_convert_bytes_arg w 22 5 Try.underlying22 Try.underlying5 b o C cp ((zs.drop (I + 1)).take C) (by simp; omega) (fun j hj => ?_) 9 Try.underlying9
      have hjn : I + 1 + j < n := by omega
      have := At.cell (k := .u8) (n := n) hc hz hjn
      have e : ((zs.drop (I + 1)).take C).getD j 0 = zs.getD (I + 1 + j) 0 := by
        simp [hj]
      rw [e, ← this, ho (by omega), show off + (I + 1) + j = off + (I + 1 + j) by omega]
    have HSS : Hid ((textAt zs I).size ≤ maxLen) := by
      show _ ≤ _
      unfold textAt
      rw [strOfNums_size]
      unfold maxLen
      simp
      omega
    generalize zs.getD I 0 = c at hcI hbI HE HCV
    obtain ⟨c0, c1⟩ := hbI
    obtain ⟨C, rfl⟩ := Int.eq_ofNat_of_zero_le c0
    have HT := Lib.hid (fun W => iTextOk (textAt zs I) W HSS.out)
    generalize textAt zs I = s at HE HCV HSS HT
    have H1 := Lib.hid (fun W => cutOk b off n cap 1 I I 1 rfl rfl W (by omega) (by omega) hnc hcm (by omega))
    have HZ := Lib.hid hz
    clear hz hby hc c0
    by_cases h2 : I + 1 + C ≤ n
    · have H2 := Lib.hid (fun W => cutOk b off n cap C (I + 1) ((I : Int) + 1) C (by omega) rfl W (by omega) (by omega) hnc hcm (by omega))
      have HCW := Lib.hid (HCV.out C rfl h2)
      clear HCV
      cases ht : txtB s with
      | true =>
        rw [if_pos ⟨by omega, ht⟩] at HE
        rw [ht] at HT
        rw [HE.out]
        clear ht
        go_enter Try.func122, Try.ntmps122
        go_wp2_with fail
        refine (H1.out _).mono ?_
        rintro e w1 ⟨o1, rfl, ho1, rfl⟩
        obtain rfl := ho1 (by omega)
        clear ho1
        go_wp2_with fail
        refine (H2.out _).mono ?_
        rintro e w2 ⟨o2, rfl, ho2, rfl⟩
        have hcv := HCW.out o2 C ho2
        clear ho2
        go_wp2_with (go_at_call 90; refine (HT.out _).mono ?_; rintro e w3 ⟨rfl, rfl⟩)
        go_ret3
        exact ⟨rfl, rfl⟩
      | false =>
        rw [if_neg (fun h => by rw [ht] at h; cases h.2)] at HE
        rw [ht] at HT
        rw [HE.out]
        clear ht
        go_enter Try.func122, Try.ntmps122
        go_wp2_with fail
        refine (H1.out _).mono ?_
        rintro e w1 ⟨o1, rfl, ho1, rfl⟩
        obtain rfl := ho1 (by omega)
        clear ho1
        go_wp2_with fail
        refine (H2.out _).mono ?_
        rintro e w2 ⟨o2, rfl, ho2, rfl⟩
        have hcv := HCW.out o2 C ho2
        clear ho2
        go_wp2_with (go_at_call 90; refine (HT.out _).mono ?_; rintro e w3 ⟨rfl, rfl⟩)
        go_ret3
        exact ⟨rfl, rfl⟩
    · have H2 := Lib.hid (fun W => cutNot (some ⟨b, off, none⟩) n cap C ((I : Int) + 1) C rfl W (by omega) (by omega) (by omega))
      rw [if_neg (fun h => by have := h.1; omega)] at HE
      rw [HE.out]
      clear HCV HT HSS
      go_enter Try.func122, Try.ntmps122
      go_wp2_with fail
      refine (H1.out _).mono ?_
      rintro e w1 ⟨o1, rfl, ho1, rfl⟩
      obtain rfl := ho1 (by omega)
      clear ho1
      go_wp2_with fail
      refine (H2.out _).mono ?_
      rintro e w2 ⟨rfl, rfl⟩
      go_wp2
      go_ret3
      exact ⟨rfl, rfl⟩
  · have HE : Hid (getS zs i = (⟨#[]⟩, 0, false)) := if_neg (fun h => h1 (by rw [← hz]; exact h.1))
    have H1 := Lib.hid (fun W => cutNot (some ⟨b, off, none⟩) n cap 1 i 1 rfl W (by omega) (by omega) h1)
    rw [HE.out]
    clear hz hby hc
    go_enter Try.func122, Try.ntmps122
    go_wp2_with (go_at_call 130; refine (H1.out _).mono ?_; rintro e w1 ⟨rfl, rfl⟩)
    go_ret3
    exact ⟨rfl, rfl⟩

end Go.Proofs.Ytoidpibdjijamaa

/- The contracts of impl's GetVal and DecPlain. -/
namespace Go.Proofs.Ytoidpibdjijamaa
open Go.RowKit

set_option maxHeartbeats 1000000 in
theorem iGetVal : CGetVal := by
  intro u n zs i ty w hn hz hby h
  have HG := Lib.hid (fun W hW => iGetNum u n zs i W (by omega) hz hby (h.below hW))
  have HT := Lib.hid (fun W hW => getText u n zs i W (by omega) hz hby (h.below hW))
  obtain ⟨b, off, cap, rfl, _, _, _, _⟩ := h
  have HZ := Lib.hid hz
  clear hz hby
  have Z0 := held_new w V.zero 37
  have bt := below_alloc w (.cells #[.int .i64 0, .int .i64 0, .string ⟨#[]⟩] 37)
  simp only [V.zero] at Z0
  obtain ⟨⟨p0, p1, p2⟩, p3, p4, p5⟩ := id Z0
  simp only at p0 p1 p2
  by_cases ht : ty = 1
  · subst ht
    have HE := Lib.hid (getV_int (zs := zs) (i := i))
    generalize Num.get zs i = r at HG HE
    obtain ⟨x, nx, ok⟩ := r
    unfold getRes at HG
    simp only at HG HE
    cases ok with
    | true =>
      rw [if_pos rfl] at HE
      rw [HE.out]
      go_enter Try.func92, Try.ntmps92
      go_wp2_with (first | (go_at_call 91; refine (HG.out _ bt).mono ?_; rintro e w' ⟨rfl, rfl⟩) | (go_at_call 87; refine (iIntVal _ _).mono ?_; rintro e w1 ⟨rfl, hb⟩; replace bt := below_then bt hb bt.size; obtain ⟨⟨q0, q1, q2⟩, q3, q4, q5⟩ := Z0.below hb; simp only at q0 q1 q2; clear p0 p1 p2 p3 p4 p5 hb Z0))
      exact bodyPost_ret (v := .tuple #[.agg #[.int .i64 1, .int .i64 x, .string ⟨#[]⟩], .int .i64 nx, .bool true]) (by simp [results, Try.results92, go_sem, *]) rfl ⟨rfl, ((bt.setCell (by simp) _).setCell (by simp) _).setCell (by simp) _⟩
    | false =>
      rw [if_neg (by simp)] at HE
      rw [HE.out]
      go_enter Try.func92, Try.ntmps92
      go_wp2_with (go_at_call 91; refine (HG.out _ bt).mono ?_; rintro e w' ⟨rfl, rfl⟩)
      exact bodyPost_ret (v := .tuple #[.agg #[.int .i64 0, .int .i64 0, .string ⟨#[]⟩], .int .i64 0, .bool false]) (by simp [results, Try.results92, go_sem, *]) rfl ⟨rfl, bt⟩
  by_cases h2 : ty = 2
  · subst h2
    have HE := Lib.hid (getV_text (zs := zs) (i := i))
    generalize getS zs i = r at HT HE
    obtain ⟨x, nx, ok⟩ := r
    simp only at HT HE
    cases ok with
    | true =>
      rw [if_pos rfl] at HE
      rw [HE.out]
      go_enter Try.func92, Try.ntmps92
      go_wp2_with (first | (go_at_call 122; refine (HT.out _ bt).mono ?_; rintro e w' ⟨rfl, rfl⟩) | (go_at_call 89; refine (iTextVal _ _).mono ?_; rintro e w1 ⟨rfl, hb⟩; replace bt := below_then bt hb bt.size; obtain ⟨⟨q0, q1, q2⟩, q3, q4, q5⟩ := Z0.below hb; simp only at q0 q1 q2; clear p0 p1 p2 p3 p4 p5 hb Z0))
      exact bodyPost_ret (v := .tuple #[.agg #[.int .i64 2, .int .i64 0, .string x], .int .i64 nx, .bool true]) (by simp [results, Try.results92, go_sem, *]) rfl ⟨rfl, ((bt.setCell (by simp) _).setCell (by simp) _).setCell (by simp) _⟩
    | false =>
      rw [if_neg (by simp)] at HE
      rw [HE.out]
      go_enter Try.func92, Try.ntmps92
      go_wp2_with (go_at_call 122; refine (HT.out _ bt).mono ?_; rintro e w' ⟨rfl, rfl⟩)
      exact bodyPost_ret (v := .tuple #[.agg #[.int .i64 0, .int .i64 0, .string ⟨#[]⟩], .int .i64 0, .bool false]) (by simp [results, Try.results92, go_sem, *]) rfl ⟨rfl, bt⟩
  · have HE := Lib.hid (getV_none (zs := zs) (i := i) ht h2)
    have h1b : (ty == 1) = false := by simpa using ht
    have h2b : (ty == 2) = false := by simpa using h2
    rw [HE.out]
    go_enter Try.func92, Try.ntmps92
    go_wp2
    exact bodyPost_ret (v := .tuple #[.agg #[.int .i64 0, .int .i64 0, .string ⟨#[]⟩], .int .i64 0, .bool false]) (by simp [results, Try.results92, go_sem, *]) rfl ⟨rfl, bt⟩

/-- A list that is filled from its start on. -/
def fillV (pre : List V) (K : Nat) : List V := pre ++ List.replicate (K - pre.length) V.zero
theorem fillV_len {pre : List V} {K : Nat} (h : pre.length ≤ K) : (fillV pre K).length = K := by
  simp [fillV]
  omega
theorem fillV_set {pre : List V} {K : Nat} (x : V) (h : pre.length < K) : (fillV pre K).set pre.length x = fillV (pre ++ [x]) K := by
  unfold fillV
  rw [List.set_append_right _ _ (Nat.le_refl _), Nat.sub_self, show K - pre.length = (K - (pre ++ [x]).length) + 1 by simp; omega, List.replicate_succ, List.set_cons_zero]
  simp
theorem fillV_all {pre : List V} {K : Nat} (h : pre.length = K) : fillV pre K = pre := by simp [fillV, h]

end Go.Proofs.Ytoidpibdjijamaa

/- The contracts of impl's InDict (with slices.Index) and Picked. -/
namespace Go.Proofs.Ytoidpibdjijamaa
open Go.RowKit

theorem eqB_comm (x y : V) : x.eqB y = y.eqB x := by
  cases h : y.eqB x with
  | true => exact eqB_true.2 (eqB_true.1 h).symm
  | false => exact eqB_false.2 (fun e => eqB_false.1 h e.symm)

set_option maxHeartbeats 1000000 in
theorem iIndex (u : Value) (d : List V) (x : V) (w : World) (h : Rd 3 w u d.length (vals d)) :
    Calls Try.prog 65 #[u, x.agg] w fun e w' => e = .returned (.int .i64 (inI d x)) ∧ Below w.heap.size w w' := by
  generalize hl : d.length = n at h
  obtain ⟨a, cap, rfl, hm, HC⟩ := h.vals hl
  unfold maxLen at hm
  have HL := Lib.hid hl
  have HE : Hid (∀ i, i < n → (d.getD i V.zero).eqB x = true → (∀ j, j < i → (d.getD j V.zero).eqB x = false) → inI d x = i) := fun i hi h1 h2 => inI_some (inD_first (by omega) h1 h2)
  have HN : Hid ((∀ j, j < n → (d.getD j V.zero).eqB x = false) → inI d x = -1) := fun h1 => inI_none (inD_none.2 (fun j hj => h1 j (by omega)))
  have hx0 := held_new w x 37
  have hb0 := below_alloc w (.cells #[.int .i64 x.ty, .int .i64 x.n, .string x.s] 37)
  generalize inI d x = r at HE HN
  obtain ⟨xt, xn, xs⟩ := x
  clear h hl
  go_enter Try.func65, Try.ntmps65
  go_wp2
  generalize hW : w.alloc (.cells #[.int .i64 xt, .int .i64 xn, .string xs] 37) = W at hx0 hb0 ⊢
  have HW := Lib.hid hW
  clear hW
  go_loopw [8] (fun i wr => ∃ k : Nat, k ≤ n ∧ i = .int .i64 k ∧ (∀ j, j < k → (d.getD j V.zero).eqB ⟨xt, xn, xs⟩ = false) ∧ Below W.heap.size W wr) (fun i _ => n - (intOf i).toNat)
  case atStart => exact ⟨0, Nat.zero_le _, rfl, fun j hj => by omega, Below.refl _ _⟩
  case round =>
    obtain ⟨k, hk, rfl, hno, hbr⟩ := hrel
    have HNO := Lib.hid hno
    clear hno
    by_cases hlt : k < n
    · obtain ⟨b, off, rfl, p0, p1, p2⟩ := HC.out k hlt
      have hbr2 := hb0.trans (hbr.mono hb0.size)
      replace p0 := (hbr2.cell (p := ⟨b, off + k * 3, none⟩) (lt_of_cell p0)).trans p0
      replace p1 := (hbr2.cell (p := ⟨b, off + k * 3 + 1, none⟩) (lt_of_cell p1)).trans p1
      replace p2 := (hbr2.cell (p := ⟨b, off + k * 3 + 2, none⟩) (lt_of_cell p2)).trans p2
      obtain ⟨⟨q0, q1, q2⟩, _⟩ := hx0.below hbr
      have HEK := Lib.hid (HE.out k hlt)
      have HNK : Hid ((d.getD k V.zero).eqB ⟨xt, xn, xs⟩ = false → ∀ j, j < k + 1 → (d.getD j V.zero).eqB ⟨xt, xn, xs⟩ = false) := fun h1 j hj => by
        by_cases e : j = k
        · subst e; exact h1
        · exact HNO.out j (by omega)
      have hq := fun W => run_eql_val ⟨xt, xn, xs⟩ (d.getD k V.zero) W
      rw [eqB_comm] at hq
      generalize d.getD k V.zero = y at p0 p1 p2 HEK HNK hq
      cases he : y.eqB ⟨xt, xn, xs⟩ with
      | true =>
        have HR := Lib.hid (HEK.out he HNO.out)
        rw [he] at hq
        obtain ⟨t1, n1, s1⟩ := y
        have HB := Lib.hid hbr2
        clear he HEK HNK hx0 hb0 hbr hbr2
        simp only at q0 q1 q2
        go_wp2
        go_quiet (fail)
        go_wp2
        go_ret
        exact ⟨ret_int HR.out.symm, HB.out.trans (below_drewN _ _ _)⟩
      | false =>
        have HS := Lib.hid (HNK.out he)
        rw [he] at hq
        obtain ⟨t1, n1, s1⟩ := y
        clear he HEK HNK hx0 hb0
        simp only at q0 q1 q2
        go_wp2
        go_quiet (fail)
        go_wp2
        go_roundw
        case rel => exact ⟨k + 1, by omega, by go_num, HS.out, hbr.trans (below_drewN _ _ _)⟩
        case measure => simp [intOf]; omega
    · obtain rfl : k = n := by omega
      have HR := Lib.hid (HN.out HNO.out)
      have hbr2 := hb0.trans (hbr.mono hb0.size)
      go_wp2
      go_ret
      exact ⟨ret_int HR.out.symm, hbr2⟩


theorem iInDict : CInDict := by
  intro u d x w hn h
  have hx0 := held_new w x 37
  have hb0 := below_alloc w (.cells #[.int .i64 x.ty, .int .i64 x.n, .string x.s] 37)
  have HI := Lib.hid (iIndex u d x _ (h.below hb0))
  generalize inI d x = r at HI
  obtain ⟨xt, xn, xs⟩ := x
  go_enter Try.func31, Try.ntmps31
  go_wp2_with fail
  refine HI.out.mono ?_
  rintro e w2 ⟨rfl, hb2⟩
  have B2 := below_then hb0 hb2 hb0.size
  go_wp2
  go_ret
  exact ⟨rfl, B2⟩

set_option maxHeartbeats 2000000 in
theorem iPicked : CPicked := by
  intro u v d l w hdn hn hd h
  generalize hdl : d.length = m at hd hdn
  obtain ⟨da, dcap, rfl, hdm, HDC⟩ := hd.vals hdl
  generalize hl : l.length = K at h hn
  obtain ⟨a, cap, rfl, hm, HC⟩ := h.ints hl
  unfold maxLen at hm hdm
  have HL := Lib.hid hl
  have HPB : Hid (∀ x : Int, 0 ≤ x → x < m → pickB d x = true) := fun x h0 h1 => decide_eq_true ⟨h0, by omega⟩
  have HPN : Hid (∀ x : Int, (x < 0 ∨ (m : Int) ≤ x) → pickB d x = false) := fun x h1 => decide_eq_false (fun h2 => by omega)
  have HNO : Hid (∀ k, k < K → pickB d (l.getD k 0) = false → pickedL d l = ([], false)) := fun k hk h1 => picked_no (by omega) h1
  have HYES : Hid ((∀ k, k < K → pickB d (l.getD k 0) = true) → pickedL d l = (l.map (fun x => d.getD x.toNat V.zero), true)) := fun h1 => picked_yes (fun k hk => h1 k (by omega))
  have HS : Hid (∀ k, k < K → pkK d l (k + 1) = pkK d l k ++ [d.getD (l.getD k 0).toNat V.zero]) := fun k hk => by
    unfold pkK
    exact map_snoc _ _ 0 _ (by omega)
  have HKL : Hid (∀ k, k ≤ K → (pkK d l k).length = k) := fun k hk => by simp [pkK]; omega
  have HPK0 : Hid (pkK d l 0 = []) := by show _ = _; simp [pkK]
  have HPKE : Hid (pkK d l K = l.map (fun x => d.getD x.toNat V.zero)) := by show _ = _; unfold pkK; rw [← hl, List.take_length]
  generalize pickedL d l = R at HNO HYES
  clear h hl hd hdl
  go_enter Try.func15, Try.ntmps15
  go_wp2_with (at_make; refine make_law Try.elemVals rfl _ _ rfl .i64 .i64 _ _ K rfl rfl rfl rfl (by omega) (by unfold maxLen; omega) ?_)
  intro w1 hown1 hb1
  have hown0 : Own 37 3 w.heap.size w1.heap.size w1 (.slice (some ⟨w.heap.size, 0, none⟩) K K) K (vals (fillV (pkK d l 0) K)) := by
    have e : vals (fillV (pkK d l 0) K) = (madeCells V.zero.cs.toArray (K * 3)).toList := by
      rw [made_flat V.cs V.zero 3 K (by omega) (fun _ => rfl), HPK0.out]
      simp [fillV, vals]
    rw [e]
    exact hown1
  clear hown1
  go_wp2
  go_loopw [14] (fun i wr => ∃ j : Nat, j ≤ K ∧ i = .int .i64 j ∧ (∀ i, i < j → pickB d (l.getD i 0) = true) ∧ wr.ownsRow w.heap.size 37 3 (.slice (some ⟨w.heap.size, 0, none⟩) K K) K (vals (fillV (pkK d l j) K)) ∧ Below w.heap.size w wr) (fun i _ => K - (intOf i).toNat)
  case atStart => exact ⟨0, Nat.zero_le _, rfl, fun i hi => by omega, hown0.row, hb1⟩
  case round =>
    obtain ⟨j, hj, rfl, hno, hown, hbr⟩ := hrel
    have HK := Lib.hid hno
    clear hown0 hb1 hno
    by_cases hlt : j < K
    · obtain ⟨b, off, rfl, p0⟩ := HC.out j hlt
      replace p0 := (hbr.cell (p := ⟨b, off + j, none⟩) (lt_of_cell p0)).trans p0
      have HSJ := Lib.hid (HS.out j hlt)
      have HKJ := Lib.hid (HKL.out j hj)
      have HSET := Lib.hid (fun x => fillV_set (pre := pkK d l j) (K := K) x (by rw [HKJ.out]; exact hlt))
      rw [HKJ.out] at HSET
      have HFL := Lib.hid (fillV_len (pre := pkK d l j) (K := K) (by rw [HKJ.out]; exact hj))
      have HNK := Lib.hid (HNO.out j hlt)
      have HKK : Hid (pickB d (l.getD j 0) = true → ∀ i, i < j + 1 → pickB d (l.getD i 0) = true) := fun h1 i hi => by
        by_cases e : i = j
        · subst e; exact h1
        · exact HK.out i (by omega)
      have HPZ := Lib.hid (HPB.out (l.getD j 0))
      have HPM := Lib.hid (HPN.out (l.getD j 0))
      generalize l.getD j 0 = z at p0 HSJ HNK HKK HPZ HPM
      by_cases hz : z < 0 ∨ (m : Int) ≤ z
      · have HR := Lib.hid (HNK.out (HPM.out hz))
        have OL := own_lit (e := 37) (size := 3) wr #[] 0 (Nat.zero_le _) rfl
        have BL := hbr.alloc hbr.size (.cells #[] 37)
        have hzz := hbr.size
        clear hown
        by_cases hz0 : z < 0
        · go_wp2
          go_ret2
          rw [HR.out]
          exact ⟨_, rfl, OL.lower hzz, BL⟩
        · have hz1 : (m : Int) ≤ z := by omega
          clear hz
          go_wp2
          go_ret2
          rw [HR.out]
          exact ⟨_, rfl, OL.lower hzz, BL⟩
      · have HK2 := Lib.hid (HKK.out (HPZ.out (by omega) (by omega)))
        obtain ⟨A, rfl⟩ := Int.eq_ofNat_of_zero_le (show 0 ≤ z by omega)
        have hAm : A < m := by omega
        obtain ⟨db, doff, rfl, d0, d1, d2⟩ := HDC.out A hAm
        replace d0 := (hbr.cell (p := ⟨db, doff + A * 3, none⟩) (lt_of_cell d0)).trans d0
        replace d1 := (hbr.cell (p := ⟨db, doff + A * 3 + 1, none⟩) (lt_of_cell d1)).trans d1
        replace d2 := (hbr.cell (p := ⟨db, doff + A * 3 + 2, none⟩) (lt_of_cell d2)).trans d2
        rw [Int.toNat_natCast] at HSJ
        generalize d.getD A V.zero = y at d0 d1 d2 HSJ
        obtain ⟨t1, n1, s1⟩ := y
        simp only at d0 d1 d2
        have R := Lib.hid (stored3 hown j ⟨t1, n1, s1⟩ (by rw [HFL.out]; exact hlt))
        rw [HSET.out, ← HSJ.out] at R
        obtain ⟨x0, s0⟩ := cellAt_some hown (j * 3) (by omega)
        obtain ⟨x1, s1'⟩ := cellAt_some hown (j * 3 + 1) (by omega)
        obtain ⟨x2, s2⟩ := cellAt_some hown (j * 3 + 2) (by omega)
        have f0 := hown.frozenAt (j * 3)
        have f1 := hown.frozenAt (j * 3 + 1)
        have f2 := hown.frozenAt (j * 3 + 2)
        have b3 := Lib.hid (((hbr.setCell (p := ⟨w.heap.size, j * 3, none⟩) (Nat.le_refl _) (.int .i64 t1)).setCell (p := ⟨w.heap.size, j * 3 + 1, none⟩) (Nat.le_refl _) (.int .i64 n1)).setCell (p := ⟨w.heap.size, j * 3 + 2, none⟩) (Nat.le_refl _) (.string s1))
        clear hown hbr hz
        go_wp2
        go_roundw
        case rel => exact ⟨j + 1, by omega, by go_num, HK2.out, R.out.1, b3.out⟩
        case measure => simp [intOf]; omega
    · obtain rfl : j = K := by omega
      have HR := Lib.hid (HYES.out HK.out)
      have OO := Lib.hid (own_of_row hown (Nat.le_refl _))
      have HKJ := Lib.hid (HKL.out j hj)
      clear hown
      go_wp2
      go_ret2
      rw [HR.out]
      refine ⟨_, rfl, ?_, hbr⟩
      have := OO.out
      rw [fillV_all HKJ.out, HPKE.out] at this
      show Own _ _ _ _ _ _ (l.map _).length _
      rw [List.length_map, HL.out]
      exact this

end Go.Proofs.Ytoidpibdjijamaa

/- The contract of bytes.Equal, as the program calls it. -/
namespace Go.Proofs.Ytoidpibdjijamaa
open Go.RowKit

theorem set_same {α : Type} {l : List α} {i : Nat} {x : α} (h : l[i]? = some x) : l.set i x = l := by
  apply List.ext_getElem?
  intro j
  rw [List.getElem?_set]
  split
  · rename_i e
    subst e
    rw [h]
    split
    · rfl
    · rename_i hl
      rw [List.getElem?_eq_none (by omega)] at h
      cases h
  · rfl
theorem bytesEqual (u v : Value) (n m : Nat) (xs ys : List Int) (w : World) (hxl : xs.length = n) (hyl : ys.length = m) (hx : Num.Bytes xs) (hy : Num.Bytes ys) (h1 : At 1 w u n (ints .u8 xs)) (h2 : At 1 w v m (ints .u8 ys)) :
    Calls Try.prog 62 #[u, v] w fun e w' => e = .returned (.bool (decide (xs = ys))) ∧ w = w' := by
  have k1 := conv_at hxl h1
  have k2 := conv_at hyl h2
  have HX : Hid (((strOfNums xs).toList == (strOfNums ys).toList) = decide (xs = ys)) := by
    show _ = _
    by_cases he : xs = ys
    · subst he
      simp
    · rw [bstr_ne (fun h => he (strOfNums_inj hx hy h)), decide_eq_false he]
  obtain ⟨b1, o1, c1, rfl, _, _, _, _⟩ := h1
  obtain ⟨b2, o2, c2, rfl, _, _, _, _⟩ := h2
  generalize strOfNums xs = s1 at k1 HX
  generalize strOfNums ys = s2 at k2 HX
  generalize decide (xs = ys) = q at HX
  clear hx hy hxl hyl
  go_enter Try.func62, Try.ntmps62
  go_wp2
  go_ret
  exact ⟨ret_bool HX.out, rfl⟩
theorem putNum_puts {zs : List Int} {x : Int} (h : Num.ok x) : Num.put zs x = Num.puts zs [x] := by
  rw [Num.puts_one, Num.put_ok h]

end Go.Proofs.Ytoidpibdjijamaa
