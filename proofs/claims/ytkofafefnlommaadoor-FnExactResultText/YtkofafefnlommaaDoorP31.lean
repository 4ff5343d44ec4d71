/- Texts of this claim, one behind the other: M12x, S12x. -/
import Derived.Test.YtkofafefnlommaaDoorP30
import Derived.Test.YtkofafefnlommaaDoorP15
import Derived.Lib.Join
import Derived.Lib.ItoaLen
import Derived.Test.YtkofafefnlommaaDoorP3

/- ResultText: plain mathematics: the texts of rows, one behind the other. -/
namespace Go.Proofs.YtkofafefnlommaaDoor
open Go.RowKit

/-- The texts of the first k rows. -/
def rowsK (l : List R) : Nat → ByteArray
  | 0 => ⟨#[]⟩
  | k + 1 => (if 0 < k then rowsK l k ++ ⟨#[59, 32]⟩ else rowsK l k) ++ rowText (l.getD k R.zero)
/-- ResultText. -/
def resT (k : Int) (r : Rs) : ByteArray :=
  if k = 1 then (if r.rows.length = 0 then ⟨#[45]⟩ else rowsK r.rows r.rows.length)
  else if k = 2 ∨ k = 3 then ⟨(Lib.itoa r.n).toArray⟩
  else if k = 4 ∨ k = 5 then (if r.has = true then valText r.v else ⟨#[110, 111, 110, 101]⟩)
  else ⟨#[]⟩

theorem rowText_size {r : R} (h0 : -9223372036854775808 ≤ r.id) (h1 : r.id ≤ 9223372036854775807) : (rowText r).size ≤ 22 + 12 * r.l.length := by
  have h2 := foldText_size r.l (⟨#[35]⟩ ++ ⟨(Lib.itoa r.id).toArray⟩)
  have h3 : (Lib.itoa r.id).length ≤ 21 := Lib.itoa_length_le r.id h0 h1
  have h4 : (⟨#[35]⟩ ++ ⟨(Lib.itoa r.id).toArray⟩ : ByteArray).size = 1 + (Lib.itoa r.id).length := by rw [ByteArray.size_append]; simp [ByteArray.size]
  unfold rowText
  omega
theorem rowsK_size {l : List R} (h : ∀ r ∈ l, -9223372036854775808 ≤ r.id ∧ r.id ≤ 9223372036854775807 ∧ r.l.length ≤ 1048576) : ∀ k, k ≤ l.length → (rowsK l k).size ≤ 12582936 * k
  | 0, _ => by simp [rowsK, ByteArray.size]
  | k + 1, hk => by
    have h1 := rowsK_size h k (by omega)
    have hk' : k < l.length := by omega
    have e : l.getD k R.zero = l[k] := by simp [hk']
    obtain ⟨a1, a2, a3⟩ := h _ (List.getElem_mem hk')
    have h2 := rowText_size a1 a2
    have h3 : (⟨#[59, 32]⟩ : ByteArray).size = 2 := rfl
    unfold rowsK
    rw [e, ByteArray.size_append]
    split
    · rw [ByteArray.size_append]; omega
    · omega
theorem joinTail_snoc (sep : List UInt8) (t : List (List UInt8)) (x : List UInt8) : Lib.joinTail sep (t ++ [x]) = Lib.joinTail sep t ++ (sep ++ x) := by
  simp [Lib.joinTail]
theorem rowsK_join {l : List R} : ∀ k, k ≤ l.length → (rowsK l k).data.toList = Lib.join (((l.take k).map rowText).map (·.data.toList)) [59, 32]
  | 0, _ => by simp [rowsK, Lib.join_nil]
  | k + 1, hk => by
    have h1 := rowsK_join (l := l) k (by omega)
    have hk' : k < l.length := by omega
    have e : l.getD k R.zero = l[k] := by simp [hk']
    rw [List.take_succ_eq_append_getElem hk', List.map_append, List.map_append]
    unfold rowsK
    rw [e]
    rcases Nat.eq_zero_or_pos k with rfl | hk0
    · simp [rowsK, Lib.join_one]
    · rw [if_pos hk0]
      obtain ⟨x, t, hxt⟩ : ∃ x t, ((l.take k).map rowText).map (·.data.toList) = x :: t := by
        cases hh : ((l.take k).map rowText).map (·.data.toList) with
        | nil =>
          have := congrArg List.length hh
          simp at this
          rcases this with h | h
          · omega
          · subst h
            simp at hk'
        | cons x t => exact ⟨x, t, rfl⟩
      rw [hxt] at h1 ⊢
      rw [List.cons_append, Lib.join_cons]
      rw [Lib.join_cons] at h1
      simp only [List.map_cons, List.map_nil]
      rw [joinTail_snoc, ← List.append_assoc, ← h1]
      simp
theorem rowsK_full {l : List R} : rowsK l l.length = ⟨(Lib.join ((l.map rowText).map (·.data.toList)) [59, 32]).toArray⟩ := by
  have h := rowsK_join (l := l) l.length (Nat.le_refl _)
  rw [List.take_length] at h
  rw [← h]

def CResT (f : Nat) : Prop := ∀ (qk qc : Int) (t : T) (u o v : Value) (r : Rs) (ps : List P) (w : World), RdRs w v ps → ps.map (·.1) = r.rows → ps.length ≤ 1048576 → (∀ p ∈ ps, -9223372036854775808 ≤ p.1.id ∧ p.1.id ≤ 9223372036854775807 ∧ p.1.l.length ≤ 1048576 ∧ ∀ x ∈ p.1.l, x.s.size ≤ maxLen) → -9223372036854775808 ≤ r.n → r.n ≤ 9223372036854775807 → r.v.s.size ≤ maxLen → Tab w →
  Calls Tryd.prog f #[.agg #[.int .i64 qk, .int .i64 t.kind, .int .i64 t.col, .int .i64 t.op, .int .i64 t.v.ty, .int .i64 t.v.n, .string t.v.s, u, .int .i64 qc, o], .agg #[v, .int .i64 r.n, .bool r.has, .int .i64 r.v.ty, .int .i64 r.v.n, .string r.v.s]] w fun e w' => e = .returned (.string (resT qk r)) ∧ Below w.heap.size w w'

end Go.Proofs.YtkofafefnlommaaDoor

/- The model's ResultText. -/
namespace Go.Proofs.YtkofafefnlommaaDoor
open Go.RowKit

set_option maxRecDepth 100000 in
set_option maxHeartbeats 1600000 in
theorem sResultText : CResT 13 := by
  intro qk qc t u o v r ps w h hps hn hp h0 h1 hs _
  obtain ⟨rows, rn, rh, ⟨vt, vn, vs⟩⟩ := r
  simp only at hps h0 h1 hs ⊢
  subst hps
  have HRT : Hid (∀ (k : Nat), k < ps.length → ∀ W, (ps.getD k P.zero).1.rd W (ps.getD k P.zero).2 → Calls Tryd.prog 40 #[(ps.getD k P.zero).1.agg (ps.getD k P.zero).2] W fun e w' => e = .returned (.string (rowText (ps.getD k P.zero).1)) ∧ Below W.heap.size W w') := fun k hk W hr => by
    have hk' : k < ps.length := hk
    have e : ps.getD k P.zero = ps[k] := by simp [hk']
    rw [e] at hr ⊢
    obtain ⟨a1, a2, a3, a4⟩ := hp _ (List.getElem_mem hk')
    exact sRowText ps[k].1 ps[k].2 W a1 a2 (by omega) a4 hr
  have HZ : Hid (∀ k, k ≤ ps.length → (rowsK (ps.map (·.1)) k).size ≤ 12582936 * k) := fun k hk => rowsK_size (fun r hr => by
    obtain ⟨p, hp', rfl⟩ := List.mem_map.1 hr
    obtain ⟨a1, a2, a3, _⟩ := hp p hp'
    exact ⟨a1, a2, a3⟩) k (by rw [List.length_map]; exact hk)
  have HZ1 : Hid (∀ k, k < ps.length → (rowText (ps.getD k P.zero).1).size ≤ 12582934) := fun k hk => by
    have e : ps.getD k P.zero = ps[k] := by simp [hk]
    rw [e]
    obtain ⟨a1, a2, a3, _⟩ := hp _ (List.getElem_mem hk)
    have := rowText_size a1 a2
    omega
  have HSK : Hid (∀ k, rowsK (ps.map (·.1)) (k + 1) = (if 0 < k then rowsK (ps.map (·.1)) k ++ ⟨#[59, 32]⟩ else rowsK (ps.map (·.1)) k) ++ rowText (ps.getD k P.zero).1) := fun k => by
    show (if 0 < k then _ else _) ++ rowText ((ps.map (·.1)).getD k R.zero) = _
    have e : (ps.map (·.1)).getD k R.zero = (ps.getD k P.zero).1 := by
      rw [List.getD_eq_getElem?_getD, List.getElem?_map, List.getD_eq_getElem?_getD]
      cases ps[k]? <;> rfl
    rw [e]
  have HNT := Lib.hid (fun W => sNumText rn W h0 h1)
  have HVT := Lib.hid (fun W => sValText ⟨vt, vn, vs⟩ W hs)
  have C0 := (blk_new w [.int .i64 qk, .int .i64 t.kind, .int .i64 t.col, .int .i64 t.op, .int .i64 t.v.ty, .int .i64 t.v.n, .string t.v.s, u, .int .i64 qc, o] 46).below (below_alloc _ (.cells #[v, .int .i64 rn, .bool rh, .int .i64 vt, .int .i64 vn, .string vs] 50))
  have C1 := blk_new (w.alloc (.cells #[.int .i64 qk, .int .i64 t.kind, .int .i64 t.col, .int .i64 t.op, .int .i64 t.v.ty, .int .i64 t.v.n, .string t.v.s, u, .int .i64 qc, o] 46)) [v, .int .i64 rn, .bool rh, .int .i64 vt, .int .i64 vn, .string vs] 50
  have B0 := below_alloc2 w (.cells #[.int .i64 qk, .int .i64 t.kind, .int .i64 t.col, .int .i64 t.op, .int .i64 t.v.ty, .int .i64 t.v.n, .string t.v.s, u, .int .i64 qc, o] 46) (.cells #[v, .int .i64 rn, .bool rh, .int .i64 vt, .int .i64 vn, .string vs] 50)
  simp only [World.size_alloc] at C1
  generalize hw0 : (w.alloc (.cells #[.int .i64 qk, .int .i64 t.kind, .int .i64 t.col, .int .i64 t.op, .int .i64 t.v.ty, .int .i64 t.v.n, .string t.v.s, u, .int .i64 qc, o] 46)).alloc (.cells #[v, .int .i64 rn, .bool rh, .int .i64 vt, .int .i64 vn, .string vs] 50) = w0 at C0 C1 B0
  have HW0 := Lib.hid hw0
  clear hw0 hp hs h0 h1
  obtain ⟨k0, _⟩ := C0 0 _ rfl
  have c0 := (C1 0 _ rfl).1
  have c1 := (C1 1 _ rfl).1
  have c2 := (C1 2 _ rfl).1
  have c3 := (C1 3 _ rfl).1
  have c4 := (C1 4 _ rfl).1
  have c5 := (C1 5 _ rfl).1
  generalize hl : ps.length = n at hn HRT HZ HZ1
  obtain ⟨a, cap, rfl, _, HC⟩ := h.walk hl
  have HL := Lib.hid hl
  clear h hl C0
  by_cases hk1 : qk = 1
  · subst hk1
    by_cases hn0 : n = 0
    · have HR : Hid (resT 1 ⟨ps.map (·.1), rn, rh, ⟨vt, vn, vs⟩⟩ = ⟨#[45]⟩) := by
        show _ = _
        unfold resT
        rw [if_pos rfl, if_pos (by simp only [List.length_map]; rw [HL.out, hn0])]
      rw [HR.out]
      subst hn0
      clear C1
      go_enter Tryd.func13, Tryd.ntmps13
      go_wp2_with (rw [HW0.out])
      go_ret
      exact ⟨rfl, B0⟩
    · have HR : Hid (resT 1 ⟨ps.map (·.1), rn, rh, ⟨vt, vn, vs⟩⟩ = rowsK (ps.map (·.1)) n) := by
        show _ = _
        unfold resT
        rw [if_pos rfl, if_neg (by simp only [List.length_map]; rw [HL.out]; exact hn0)]
        simp only [List.length_map]
        rw [HL.out]
      rw [HR.out]
      have HN0 := Lib.hid hn0
      have hni : ¬ ((n : Int) = 0) := by omega
      clear hn0
      go_enter Tryd.func13, Tryd.ntmps13
      go_wp2
      rw [HW0.out]
      go_loopw [5, 6] (fun s i wr => ∃ k : Nat, k ≤ n ∧ i = .int .i64 k ∧ s = .string (rowsK (ps.map (·.1)) k) ∧ Below w0.heap.size w0 wr) (fun _ i _ => n - (intOf i).toNat)
      case atStart => exact ⟨0, Nat.zero_le _, rfl, rfl, Below.refl _ _⟩
      case round =>
        obtain ⟨k, hk, rfl, rfl, hbr⟩ := hrel
        have r0 := ((C1.below hbr) 0 _ rfl).1
        have hzk := HZ.out k hk
        have hbw := below_then B0 hbr B0.size
        by_cases hlt : k < n
        · obtain ⟨b, off, rfl, p0, p1, hrd⟩ := HC.out k hlt wr hbw
          have HR1 := Lib.hid (fun W => HRT.out k hlt W)
          have HRD := Lib.hid hrd
          have hz1 := HZ1.out k hlt
          have HSKK := Lib.hid (HSK.out k)
          have HKEEP : Hid (∀ W, Below wr.heap.size wr W → (ps.getD k P.zero).1.rd W (ps.getD k P.zero).2) := fun W hW => hrd.below hW
          generalize ps.getD k P.zero = pk at p0 p1 HR1 hz1 HSKK HKEEP HRD
          obtain ⟨⟨ri, rl⟩, ru⟩ := pk
          simp only at p0 p1 HR1 hz1 HSKK
          generalize rowText ⟨ri, rl⟩ = y at HR1 hz1 HSKK
          generalize hsk : rowsK (ps.map (·.1)) k = s at hzk HSKK
          clear hrd hsk
          by_cases hk0 : 0 < k
          · have hki : (0 : Int) < (k : Int) := by omega
            have hn1 : ¬ 9223372036854775807 < s.size + 2 := by omega
            have hn2 : ¬ 9223372036854775807 < s.size + 2 + y.size := by omega
            go_wp2_with fail
            refine (HR1.out _ HRD.out).mono ?_
            rintro e w2 ⟨rfl, hb2⟩
            clear p0 p1 r0 HR1
            go_wp2
            go_roundw
            case rel => exact ⟨k + 1, by omega, by go_num, by rw [HSKK.out, if_pos hk0], below_then hbr hb2 hbr.size⟩
            case measure => simp [intOf]; omega
          · have hki : ¬ (0 : Int) < (k : Int) := by omega
            have hn2 : ¬ 9223372036854775807 < s.size + y.size := by omega
            go_wp2_with fail
            refine (HR1.out _ HRD.out).mono ?_
            rintro e w2 ⟨rfl, hb2⟩
            clear p0 p1 r0 HR1
            go_wp2
            go_roundw
            case rel => exact ⟨k + 1, by omega, by go_num, by rw [HSKK.out, if_neg hk0], below_then hbr hb2 hbr.size⟩
            case measure => simp [intOf]; omega
        · obtain rfl : k = n := by omega
          go_wp2
          go_ret
          exact ⟨rfl, hbw⟩
  · clear HRT HZ HZ1 HSK HC C1
    by_cases hk2 : qk = 2 ∨ qk = 3
    · have HR : Hid (resT qk ⟨ps.map (·.1), rn, rh, ⟨vt, vn, vs⟩⟩ = ⟨(Lib.itoa rn).toArray⟩) := by
        show _ = _
        unfold resT
        rw [if_neg hk1, if_pos hk2]
      rw [HR.out]
      generalize (⟨(Lib.itoa rn).toArray⟩ : ByteArray) = d at HNT ⊢
      clear HR HVT
      rcases hk2 with rfl | rfl
      · clear hk1
        go_enter Tryd.func13, Tryd.ntmps13
        go_wp2_with fail
        rw [HW0.out]
        refine (HNT.out _).mono ?_
        rintro e w2 ⟨rfl, hb2⟩
        clear c0 c1 c2 c3 c4 c5 k0
        go_wp2
        go_ret
        exact ⟨rfl, below_then B0 hb2 B0.size⟩
      · clear hk1
        go_enter Tryd.func13, Tryd.ntmps13
        go_wp2_with fail
        rw [HW0.out]
        refine (HNT.out _).mono ?_
        rintro e w2 ⟨rfl, hb2⟩
        clear c0 c1 c2 c3 c4 c5 k0
        go_wp2
        go_ret
        exact ⟨rfl, below_then B0 hb2 B0.size⟩
    · by_cases hk4 : qk = 4 ∨ qk = 5
      · have HR : Hid (resT qk ⟨ps.map (·.1), rn, rh, ⟨vt, vn, vs⟩⟩ = if rh = true then valText ⟨vt, vn, vs⟩ else ⟨#[110, 111, 110, 101]⟩) := by
          show _ = _
          unfold resT
          rw [if_neg hk1, if_neg hk2, if_pos hk4]
        rw [HR.out]
        generalize valText ⟨vt, vn, vs⟩ = d at HVT ⊢
        clear HR HNT hk2
        simp only [V.agg] at HVT
        rcases hk4 with rfl | rfl <;> cases rh
        · clear hk1
          go_enter Tryd.func13, Tryd.ntmps13
          go_wp2
          rw [HW0.out]
          go_ret
          exact ⟨rfl, B0⟩
        · clear hk1
          go_enter Tryd.func13, Tryd.ntmps13
          go_wp2_with fail
          rw [HW0.out]
          refine (HVT.out _).mono ?_
          rintro e w2 ⟨rfl, hb2⟩
          clear c0 c1 c2 c3 c4 c5 k0
          go_wp2
          go_ret
          exact ⟨rfl, below_then B0 hb2 B0.size⟩
        · clear hk1
          go_enter Tryd.func13, Tryd.ntmps13
          go_wp2
          rw [HW0.out]
          go_ret
          exact ⟨rfl, B0⟩
        · clear hk1
          go_enter Tryd.func13, Tryd.ntmps13
          go_wp2_with fail
          rw [HW0.out]
          refine (HVT.out _).mono ?_
          rintro e w2 ⟨rfl, hb2⟩
          clear c0 c1 c2 c3 c4 c5 k0
          go_wp2
          go_ret
          exact ⟨rfl, below_then B0 hb2 B0.size⟩
      · have HR : Hid (resT qk ⟨ps.map (·.1), rn, rh, ⟨vt, vn, vs⟩⟩ = ⟨#[]⟩) := by
          show _ = _
          unfold resT
          rw [if_neg hk1, if_neg hk2, if_neg hk4]
        rw [HR.out]
        have h2 : ¬ qk = 2 := fun e => hk2 (.inl e)
        have h3 : ¬ qk = 3 := fun e => hk2 (.inr e)
        have h4 : ¬ qk = 4 := fun e => hk4 (.inl e)
        have h5 : ¬ qk = 5 := fun e => hk4 (.inr e)
        clear hk2 hk4 HR HNT HVT
        go_enter Tryd.func13, Tryd.ntmps13
        go_wp2
        rw [HW0.out]
        go_ret
        exact ⟨rfl, B0⟩

end Go.Proofs.YtkofafefnlommaaDoor
