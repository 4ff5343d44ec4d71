/- Texts of this claim, one behind the other: I12x, J12x. -/
import Derived.Test.YtkofafefnlommaaDoorP31
import Derived.Test.YtkofafefnlommaaDoorP32
import Derived.Test.YtkofafefnlommaaDoorP15
import Derived.Test.YtkofafefnlommaaDoorP3
import Derived.Test.YtkofafefnlommaaDoorP9
import Derived.Test.YtkofafefnlommaaDoorP30

/- The program's rowsText, numText, valText, ResultText (written by mk_I12x.py). -/
namespace Go.Proofs.YtkofafefnlommaaDoor
open Go.RowKit

theorem strs_take {l : List R} {k : Nat} (hk : k < l.length) : strs ((l.map rowText).take (k + 1)) = strs ((l.map rowText).take k) ++ [.string (rowText (l.getD k R.zero))] := by
  rw [← List.map_take, ← List.map_take]
  rw [List.take_succ_eq_append_getElem hk, List.map_append]
  unfold strs
  rw [List.map_append]
  have e : l.getD k R.zero = l[k] := by simp [hk]
  rw [e]
  rfl
set_option maxRecDepth 100000 in
set_option maxHeartbeats 1600000 in
theorem iRowsText (v : Value) (rn : Int) (rh : Bool) (vt vn : Int) (vs : ByteArray) (ps : List P) (w : World) (h : RdRs w v ps) (hn : ps.length ≤ 1048576) (hp : ∀ p ∈ ps, -9223372036854775808 ≤ p.1.id ∧ p.1.id ≤ 9223372036854775807 ∧ p.1.l.length ≤ 1048576 ∧ ∀ x ∈ p.1.l, x.s.size ≤ maxLen) (hT : Tab w) :
    Calls Tryd.prog 64 #[.agg #[v, .int .i64 rn, .bool rh, .int .i64 vt, .int .i64 vn, .string vs]] w fun e w' => e = .returned (.string (if ps.length = 0 then ⟨#[45]⟩ else rowsK (ps.map (·.1)) ps.length)) ∧ Below w.heap.size w w' := by
  have HTB := Lib.hid hT
  have HRT : Hid (∀ (k : Nat), k < ps.length → ∀ W, (ps.getD k P.zero).1.rd W (ps.getD k P.zero).2 → Below w.heap.size w W → Calls Tryd.prog 91 #[(ps.getD k P.zero).1.agg (ps.getD k P.zero).2] W fun e w' => e = .returned (.string (rowText (ps.getD k P.zero).1)) ∧ Below W.heap.size W w') := fun k hk W hr hW => by
    have hk' : k < ps.length := hk
    have e : ps.getD k P.zero = ps[k] := by simp [hk']
    rw [e] at hr ⊢
    obtain ⟨a1, a2, a3, a4⟩ := hp _ (List.getElem_mem hk')
    exact iRowText ps[k].1 ps[k].2 W a1 a2 a3 a4 hr (HTB.out.below hW)
  have HZ : Hid ((rowsK (ps.map (·.1)) ps.length).size ≤ 12582936 * ps.length) := rowsK_size (fun r hr => by
    obtain ⟨p, hp', rfl⟩ := List.mem_map.1 hr
    obtain ⟨a1, a2, a3, _⟩ := hp p hp'
    exact ⟨a1, a2, a3⟩) ps.length (by rw [List.length_map]; exact Nat.le_refl _)
  have HSK : Hid (∀ k, k < ps.length → strs (((ps.map (·.1)).map rowText).take (k + 1)) = strs (((ps.map (·.1)).map rowText).take k) ++ [.string (rowText (ps.getD k P.zero).1)]) := fun k hk => by
    have e : (ps.map (·.1)).getD k R.zero = (ps.getD k P.zero).1 := by
      rw [List.getD_eq_getElem?_getD, List.getElem?_map, List.getD_eq_getElem?_getD]
      cases ps[k]? <;> rfl
    rw [strs_take (by rw [List.length_map]; exact hk), e]
  have HJN : Hid (rowsK (ps.map (·.1)) ps.length = ⟨(Lib.join (((ps.map (·.1)).map rowText).map (·.data.toList)) [59, 32]).toArray⟩) := by
    have := rowsK_full (l := ps.map (·.1))
    rw [List.length_map] at this
    exact this
  have HTK : Hid (((ps.map (·.1)).map rowText).take ps.length = (ps.map (·.1)).map rowText) := by
    show _ = _
    rw [List.take_of_length_le (by rw [List.length_map, List.length_map]; exact Nat.le_refl _)]
  have HLM : Hid (((ps.map (·.1)).map rowText).length = ps.length) := by show _ = _; rw [List.length_map, List.length_map]
  have C1 := blk_new w [v, .int .i64 rn, .bool rh, .int .i64 vt, .int .i64 vn, .string vs] 50
  have B0 := below_alloc w (.cells #[v, .int .i64 rn, .bool rh, .int .i64 vt, .int .i64 vn, .string vs] 50)
  have hz0 : (w.alloc (.cells #[v, .int .i64 rn, .bool rh, .int .i64 vt, .int .i64 vn, .string vs] 50)).heap.size = w.heap.size + 1 := World.size_alloc _ _
  generalize hw0 : w.alloc (.cells #[v, .int .i64 rn, .bool rh, .int .i64 vt, .int .i64 vn, .string vs] 50) = w0 at C1 B0 hz0
  have HW0 := Lib.hid hw0
  clear hw0 hp hT
  have c0 := (C1 0 _ rfl).1
  generalize hl : ps.length = n at hn HRT HZ HSK HJN HTK HLM ⊢
  obtain ⟨a, cap, rfl, _, HC⟩ := h.walk hl
  generalize ps.map (·.1) = LL at HZ HSK HJN HTK HLM ⊢
  clear h hl
  by_cases hn0 : n = 0
  · rw [if_pos hn0]
    subst hn0
    clear C1
    go_enter Tryd.func64, Tryd.ntmps64
    go_wp2
    rw [HW0.out]
    go_ret
    exact ⟨rfl, B0⟩
  rw [if_neg hn0]
  have hni : ¬ ((n : Int) = 0) := by omega
  have O1 := own_lit (e := 9) (size := 1) w0 #[] 0 (Nat.zero_le _) rfl
  have B1 := below_alloc w0 (.cells #[] 9)
  generalize hw1 : w0.alloc (.cells #[] 9) = w1 at O1 B1
  have HW1 := Lib.hid hw1
  have c0' := ((C1.below B1) 0 _ rfl).1
  rw [hz0] at O1 B1
  have HZ0 := Lib.hid hz0
  have B1' : Below (w.heap.size + 1) w0 w1 := B1
  clear hw1 hn0
  go_enter Tryd.func64, Tryd.ntmps64
  go_wp2
  rw [HW0.out, HW1.out]
  try rw [HZ0.out]
  go_loopw [3, 14] (fun s i wr => ∃ k : Nat, k ≤ n ∧ i = .int .i64 k ∧ (∃ g cp, s = .slice (some ⟨g, 0, none⟩) k cp) ∧ Own 9 1 (w.heap.size + 1) wr.heap.size wr s k (strs ((LL.map rowText).take k)) ∧ Below (w.heap.size + 1) w0 wr) (fun _ i _ => n - (intOf i).toNat)
  case atStart => exact ⟨0, Nat.zero_le _, rfl, ⟨_, _, rfl⟩, by simpa [strs] using O1, B1'⟩
  case round =>
    obtain ⟨k, hk, rfl, ⟨og, oc, rfl⟩, hown, hbr⟩ := hrel
    clear O1 B1 B1' c0'
    have hb2 : Below w.heap.size w wr := B0.trans (hbr.mono (by omega))
    by_cases hlt : k < n
    · obtain ⟨b, off, rfl, p0, p1, hrd⟩ := HC.out k hlt wr hb2
      have HR1 := Lib.hid (fun W => HRT.out k hlt W)
      have HSKK := Lib.hid (HSK.out k hlt)
      have HKEEP : Hid (∀ W, Below wr.heap.size wr W → (ps.getD k P.zero).1.rd W (ps.getD k P.zero).2) := fun W hW => hrd.below hW
      obtain ⟨xa, xc, hx, _⟩ := hrd
      generalize ps.getD k P.zero = pk at p0 p1 HR1 HSKK HKEEP hx
      obtain ⟨⟨ri, rl⟩, ru⟩ := pk
      simp only at p0 p1 HR1 HSKK hx
      generalize hxn : rl.length = xn at hx
      subst hx
      generalize rowText ⟨ri, rl⟩ = y at HR1 HSKK
      clear hxn
      have BX := below_alloc wr (.cells #[.int .i64 ri, .slice xa xn xc] 91)
      have T2 := two_new wr (.int .i64 ri) (.slice xa xn xc) 91
      have O2 := (hown.below BX (Nat.le_refl _)).wide BX.size
      have B2 := hbr.trans (BX.mono (by have := hbr.size; omega))
      have b2' := below_then hb2 BX hb2.size
      have HR2 := Lib.hid (HR1.out _ (HKEEP.out _ BX) b2')
      generalize hwa : wr.alloc (.cells #[.int .i64 ri, .slice xa xn xc] 91) = wa at O2 B2 T2 HR2
      have HWA := Lib.hid hwa
      obtain ⟨⟨t0, t1⟩, t2, t3⟩ := T2
      clear hwa hown BX HR1 HKEEP
      go_wp2_with fail
      rw [HWA.out]
      refine HR2.out.mono ?_
      rintro e w2 ⟨rfl, bx⟩
      have O3 := (O2.below bx (Nat.le_refl _)).wide bx.size
      have B3 := B2.trans (bx.mono (by have := B2.size; omega))
      clear p0 p1 t0 t1 t2 t3 O2 B2 bx HR2
      go_wp2_with (at_builtin; refine append1_law Tryd.elemStrs rfl _ _ rfl _ _ _ _ _ (.string y) rfl rfl O3 rfl (by unfold maxLen; omega) (by omega) ?_)
      intro v5 w5 o5 e5
      have HF : Hid (Own 9 1 (w.heap.size + 1) w5.heap.size w5 v5 (k + 1) (strs ((LL.map rowText).take (k + 1))) ∧ Below (w.heap.size + 1) w0 w5) := by
        refine ⟨?_, B3.grown e5.grown (by have := B3.size; omega) (fun j hj => by
          obtain ⟨g, cp, e, h1, _⟩ := O3
          rw [e] at hj
          simp [Value.ownBlock] at hj
          omega)⟩
        rw [HSKK.out]
        exact o5
      obtain ⟨vb, vc, hv5⟩ : ∃ g cp, v5 = .slice (some ⟨g, 0, none⟩) (k + 1) cp := by obtain ⟨g, cp, e, _⟩ := o5; exact ⟨g, cp, e⟩
      subst hv5
      clear o5 e5 O3 B3
      go_wp2
      go_roundw
      case rel => exact ⟨k + 1, by omega, by go_num, ⟨_, _, rfl⟩, HF.out.1, HF.out.2⟩
      case measure => simp [intOf]; omega
    · obtain rfl : k = n := by omega
      rw [HTK.out] at hown
      have HJ : Hid (Calls Tryd.prog 92 #[.slice (some ⟨og, 0, none⟩) k oc, .string ⟨#[59, 32]⟩] wr fun e w' => e = .returned (.string (rowsK LL k)) ∧ Below wr.heap.size wr w') := by
        obtain ⟨b, off, cp', e, r1, r2, r3, r4⟩ := hown.at
        obtain ⟨g2, c2, e2, _, hlt2, _⟩ := id hown
        simp only [Value.slice.injEq, Option.some.injEq, Addr.mk.injEq, and_true, true_and] at e e2
        obtain ⟨⟨rfl, rfl⟩, rfl⟩ := e
        obtain ⟨rfl, rfl⟩ := e2
        have hlen : (Lib.join ((LL.map rowText).map (·.data.toList)) [59, 32]).length ≤ 140737488355328 := by
          have h5 := HZ.out
          rw [HJN.out] at h5
          simp only [ByteArray.size, List.size_toArray] at h5
          omega
        have hlm := HLM.out
        have hj := Tryd.strings_Join og 0 oc (LL.map rowText) ⟨#[59, 32]⟩ wr (fun j x hx => r4 j _ (by unfold strs; rw [List.getElem?_map, hx]; rfl)) hlt2 (by rw [hlm]; omega) (by rw [hlm]; exact r1) hlen
        rw [hlm] at hj
        show Calls _ _ _ _ _
        rw [HJN.out]
        exact hj
      clear hown
      go_wp2_with fail
      refine HJ.out.mono ?_
      rintro e w2 ⟨rfl, bx⟩
      go_wp2
      go_ret
      exact ⟨rfl, below_then hb2 bx hb2.size⟩

end Go.Proofs.YtkofafefnlommaaDoor

/- The program's numText, valText, ResultText (written by mk_I12x.py). -/
namespace Go.Proofs.YtkofafefnlommaaDoor
open Go.RowKit

set_option maxRecDepth 100000 in
set_option maxHeartbeats 800000 in
theorem iNumT (v : Value) (rn : Int) (rh : Bool) (vt vn : Int) (vs : ByteArray) (w : World) (h0 : -9223372036854775808 ≤ rn) (h1 : rn ≤ 9223372036854775807) (hT : Tab w) :
    Calls Tryd.prog 68 #[.agg #[v, .int .i64 rn, .bool rh, .int .i64 vt, .int .i64 vn, .string vs]] w fun e w' => e = .returned (.string (⟨(Lib.itoa rn).toArray⟩)) ∧ Below w.heap.size w w' := by
  have C1 := blk_new w [v, .int .i64 rn, .bool rh, .int .i64 vt, .int .i64 vn, .string vs] 50
  have B0 := below_alloc w (.cells #[v, .int .i64 rn, .bool rh, .int .i64 vt, .int .i64 vn, .string vs] 50)
  have HTB := Lib.hid (hT.below B0)
  generalize hw0 : w.alloc (.cells #[v, .int .i64 rn, .bool rh, .int .i64 vt, .int .i64 vn, .string vs] 50) = w0 at C1 B0 HTB
  have HW0 := Lib.hid hw0
  have c1 := (C1 1 _ rfl).1
  have c2 := (C1 2 _ rfl).1
  have c3 := (C1 3 _ rfl).1
  have c4 := (C1 4 _ rfl).1
  have c5 := (C1 5 _ rfl).1
  clear hw0 hT
  have HN := Lib.hid (iNumText rn w0 h0 h1 HTB.out)
  clear h0 h1
  generalize (⟨(Lib.itoa rn).toArray⟩ : ByteArray) = d at HN ⊢
  go_enter Tryd.func68, Tryd.ntmps68
  go_wp2_with fail
  rw [HW0.out]
  refine HN.out.mono ?_
  rintro e w2 ⟨rfl, b2⟩
  clear c1 c2 c3 c4 c5
  go_wp2
  go_ret
  exact ⟨rfl, below_then B0 b2 B0.size⟩

set_option maxRecDepth 100000 in
set_option maxHeartbeats 800000 in
theorem iValT (v : Value) (rn : Int) (rh : Bool) (vt vn : Int) (vs : ByteArray) (w : World) (hs : vs.size ≤ maxLen) (hT : Tab w) :
    Calls Tryd.prog 74 #[.agg #[v, .int .i64 rn, .bool rh, .int .i64 vt, .int .i64 vn, .string vs]] w fun e w' => e = .returned (.string (if rh = true then valText ⟨vt, vn, vs⟩ else ⟨#[110, 111, 110, 101]⟩)) ∧ Below w.heap.size w w' := by
  have C1 := blk_new w [v, .int .i64 rn, .bool rh, .int .i64 vt, .int .i64 vn, .string vs] 50
  have B0 := below_alloc w (.cells #[v, .int .i64 rn, .bool rh, .int .i64 vt, .int .i64 vn, .string vs] 50)
  have HTB := Lib.hid (hT.below B0)
  generalize hw0 : w.alloc (.cells #[v, .int .i64 rn, .bool rh, .int .i64 vt, .int .i64 vn, .string vs] 50) = w0 at C1 B0 HTB
  have HW0 := Lib.hid hw0
  have c1 := (C1 1 _ rfl).1
  have c2 := (C1 2 _ rfl).1
  have c3 := (C1 3 _ rfl).1
  have c4 := (C1 4 _ rfl).1
  have c5 := (C1 5 _ rfl).1
  clear hw0 hT
  have HN := Lib.hid (iValText ⟨vt, vn, vs⟩ w0 hs HTB.out)
  clear hs
  generalize valText ⟨vt, vn, vs⟩ = d at HN ⊢
  simp only [V.agg] at HN
  cases rh with
  | false =>
    go_enter Tryd.func74, Tryd.ntmps74
    go_wp2
    rw [HW0.out]
    go_ret
    exact ⟨rfl, B0⟩
  | true =>
    go_enter Tryd.func74, Tryd.ntmps74
    go_wp2_with fail
    rw [HW0.out]
    refine HN.out.mono ?_
    rintro e w2 ⟨rfl, b2⟩
    clear c1 c2 c3 c4 c5
    go_wp2
    go_ret
    exact ⟨rfl, below_then B0 b2 B0.size⟩

set_option maxRecDepth 100000 in
set_option maxHeartbeats 1600000 in
theorem iRes1 (qc : Int) (t : T) (u o : Value) (va : Option Addr) (vl vc : Nat) (rn : Int) (rh : Bool) (vt vn : Int) (vs d : ByteArray) (w : World) (HX : Hid (∀ W, Below w.heap.size w W → Calls Tryd.prog 64 #[.agg #[.slice va vl vc, .int .i64 rn, .bool rh, .int .i64 vt, .int .i64 vn, .string vs]] W fun e w' => e = .returned (.string d) ∧ Below W.heap.size W w')) :
    Calls Tryd.prog 16 #[.agg #[.int .i64 1, .int .i64 t.kind, .int .i64 t.col, .int .i64 t.op, .int .i64 t.v.ty, .int .i64 t.v.n, .string t.v.s, u, .int .i64 qc, o], .agg #[.slice va vl vc, .int .i64 rn, .bool rh, .int .i64 vt, .int .i64 vn, .string vs]] w fun e w' => e = .returned (.string d) ∧ Below w.heap.size w w' := by
  have HA := Lib.hid (fun W => aggOf1 W)
  have C0 := (blk_new w [.int .i64 1, .int .i64 t.kind, .int .i64 t.col, .int .i64 t.op, .int .i64 t.v.ty, .int .i64 t.v.n, .string t.v.s, u, .int .i64 qc, o] 46).below (below_alloc _ (.cells #[.slice va vl vc, .int .i64 rn, .bool rh, .int .i64 vt, .int .i64 vn, .string vs] 50))
  have C1 := blk_new (w.alloc (.cells #[.int .i64 1, .int .i64 t.kind, .int .i64 t.col, .int .i64 t.op, .int .i64 t.v.ty, .int .i64 t.v.n, .string t.v.s, u, .int .i64 qc, o] 46)) [.slice va vl vc, .int .i64 rn, .bool rh, .int .i64 vt, .int .i64 vn, .string vs] 50
  have B0 := below_alloc2 w (.cells #[.int .i64 1, .int .i64 t.kind, .int .i64 t.col, .int .i64 t.op, .int .i64 t.v.ty, .int .i64 t.v.n, .string t.v.s, u, .int .i64 qc, o] 46) (.cells #[.slice va vl vc, .int .i64 rn, .bool rh, .int .i64 vt, .int .i64 vn, .string vs] 50)
  simp only [World.size_alloc] at C1
  generalize hw0 : (w.alloc (.cells #[.int .i64 1, .int .i64 t.kind, .int .i64 t.col, .int .i64 t.op, .int .i64 t.v.ty, .int .i64 t.v.n, .string t.v.s, u, .int .i64 qc, o] 46)).alloc (.cells #[.slice va vl vc, .int .i64 rn, .bool rh, .int .i64 vt, .int .i64 vn, .string vs] 50) = w0 at C0 C1 B0
  have HW0 := Lib.hid hw0
  have k0 := (C0 0 _ rfl).1
  have hst : ∀ fn f c a W, Sem.run Tryd.prog (store a (.func fn f c)) W = stored Tryd.prog W a (.func fn f c) .plain := fun _ _ _ _ _ => run_store _ _ _ _ _ rfl
  clear hw0 C0
  go_enter Tryd.func16, Tryd.ntmps16
  go_wp2_with fail
  rw [HW0.out]
  refine (HA.out _).mono ?_
  rintro e w1 ⟨rfl, b1⟩
  have A2 := below_alloc w1 (.cells #[.func (.func 61) #[] #[], .func (.func 62) #[] #[], .func (.func 63) #[] #[], .func (.func 64) #[] #[]] 99)
  have B1 := below_then B0 b1 B0.size
  have B2 := below_then B1 A2 B1.size
  have D := blk_new w1 [.func (.func 61) #[] #[], .func (.func 62) #[] #[], .func (.func 63) #[] #[], .func (.func 64) #[] #[]] 99
  have C1' := C1.below (below_then b1 A2 b1.size)
  have r0 := (C1' 0 _ rfl).1
  have r1 := (C1' 1 _ rfl).1
  have r2 := (C1' 2 _ rfl).1
  have r3 := (C1' 3 _ rfl).1
  have r4 := (C1' 4 _ rfl).1
  have r5 := (C1' 5 _ rfl).1
  have g3 := (D 3 _ rfl).1
  have HX2 := Lib.hid (HX.out _ B2)
  clear k0 b1 A2 B1 C1 C1' D HA HX
  go_wp2_with fail
  refine HX2.out.mono ?_
  rintro e w3 ⟨rfl, b3⟩
  clear r0 r1 r2 r3 r4 r5 g3
  go_wp2
  go_ret
  exact ⟨rfl, below_then B2 b3 B2.size⟩

set_option maxRecDepth 100000 in
set_option maxHeartbeats 1600000 in
theorem iRes2 (qc : Int) (t : T) (u o : Value) (va : Option Addr) (vl vc : Nat) (rn : Int) (rh : Bool) (vt vn : Int) (vs d : ByteArray) (w : World) (HX : Hid (∀ W, Below w.heap.size w W → Calls Tryd.prog 68 #[.agg #[.slice va vl vc, .int .i64 rn, .bool rh, .int .i64 vt, .int .i64 vn, .string vs]] W fun e w' => e = .returned (.string d) ∧ Below W.heap.size W w')) :
    Calls Tryd.prog 16 #[.agg #[.int .i64 2, .int .i64 t.kind, .int .i64 t.col, .int .i64 t.op, .int .i64 t.v.ty, .int .i64 t.v.n, .string t.v.s, u, .int .i64 qc, o], .agg #[.slice va vl vc, .int .i64 rn, .bool rh, .int .i64 vt, .int .i64 vn, .string vs]] w fun e w' => e = .returned (.string d) ∧ Below w.heap.size w w' := by
  have HA := Lib.hid (fun W => aggOf2 W)
  have C0 := (blk_new w [.int .i64 2, .int .i64 t.kind, .int .i64 t.col, .int .i64 t.op, .int .i64 t.v.ty, .int .i64 t.v.n, .string t.v.s, u, .int .i64 qc, o] 46).below (below_alloc _ (.cells #[.slice va vl vc, .int .i64 rn, .bool rh, .int .i64 vt, .int .i64 vn, .string vs] 50))
  have C1 := blk_new (w.alloc (.cells #[.int .i64 2, .int .i64 t.kind, .int .i64 t.col, .int .i64 t.op, .int .i64 t.v.ty, .int .i64 t.v.n, .string t.v.s, u, .int .i64 qc, o] 46)) [.slice va vl vc, .int .i64 rn, .bool rh, .int .i64 vt, .int .i64 vn, .string vs] 50
  have B0 := below_alloc2 w (.cells #[.int .i64 2, .int .i64 t.kind, .int .i64 t.col, .int .i64 t.op, .int .i64 t.v.ty, .int .i64 t.v.n, .string t.v.s, u, .int .i64 qc, o] 46) (.cells #[.slice va vl vc, .int .i64 rn, .bool rh, .int .i64 vt, .int .i64 vn, .string vs] 50)
  simp only [World.size_alloc] at C1
  generalize hw0 : (w.alloc (.cells #[.int .i64 2, .int .i64 t.kind, .int .i64 t.col, .int .i64 t.op, .int .i64 t.v.ty, .int .i64 t.v.n, .string t.v.s, u, .int .i64 qc, o] 46)).alloc (.cells #[.slice va vl vc, .int .i64 rn, .bool rh, .int .i64 vt, .int .i64 vn, .string vs] 50) = w0 at C0 C1 B0
  have HW0 := Lib.hid hw0
  have k0 := (C0 0 _ rfl).1
  have hst : ∀ fn f c a W, Sem.run Tryd.prog (store a (.func fn f c)) W = stored Tryd.prog W a (.func fn f c) .plain := fun _ _ _ _ _ => run_store _ _ _ _ _ rfl
  clear hw0 C0
  go_enter Tryd.func16, Tryd.ntmps16
  go_wp2_with fail
  rw [HW0.out]
  refine (HA.out _).mono ?_
  rintro e w1 ⟨rfl, b1⟩
  have A2 := below_alloc w1 (.cells #[.func (.func 65) #[] #[], .func (.func 66) #[] #[], .func (.func 67) #[] #[], .func (.func 68) #[] #[]] 99)
  have B1 := below_then B0 b1 B0.size
  have B2 := below_then B1 A2 B1.size
  have D := blk_new w1 [.func (.func 65) #[] #[], .func (.func 66) #[] #[], .func (.func 67) #[] #[], .func (.func 68) #[] #[]] 99
  have C1' := C1.below (below_then b1 A2 b1.size)
  have r0 := (C1' 0 _ rfl).1
  have r1 := (C1' 1 _ rfl).1
  have r2 := (C1' 2 _ rfl).1
  have r3 := (C1' 3 _ rfl).1
  have r4 := (C1' 4 _ rfl).1
  have r5 := (C1' 5 _ rfl).1
  have g3 := (D 3 _ rfl).1
  have HX2 := Lib.hid (HX.out _ B2)
  clear k0 b1 A2 B1 C1 C1' D HA HX
  go_wp2_with fail
  refine HX2.out.mono ?_
  rintro e w3 ⟨rfl, b3⟩
  clear r0 r1 r2 r3 r4 r5 g3
  go_wp2
  go_ret
  exact ⟨rfl, below_then B2 b3 B2.size⟩

set_option maxRecDepth 100000 in
set_option maxHeartbeats 1600000 in
theorem iRes3 (qc : Int) (t : T) (u o : Value) (va : Option Addr) (vl vc : Nat) (rn : Int) (rh : Bool) (vt vn : Int) (vs d : ByteArray) (w : World) (HX : Hid (∀ W, Below w.heap.size w W → Calls Tryd.prog 68 #[.agg #[.slice va vl vc, .int .i64 rn, .bool rh, .int .i64 vt, .int .i64 vn, .string vs]] W fun e w' => e = .returned (.string d) ∧ Below W.heap.size W w')) :
    Calls Tryd.prog 16 #[.agg #[.int .i64 3, .int .i64 t.kind, .int .i64 t.col, .int .i64 t.op, .int .i64 t.v.ty, .int .i64 t.v.n, .string t.v.s, u, .int .i64 qc, o], .agg #[.slice va vl vc, .int .i64 rn, .bool rh, .int .i64 vt, .int .i64 vn, .string vs]] w fun e w' => e = .returned (.string d) ∧ Below w.heap.size w w' := by
  have HA := Lib.hid (fun W => aggOf3 W)
  have C0 := (blk_new w [.int .i64 3, .int .i64 t.kind, .int .i64 t.col, .int .i64 t.op, .int .i64 t.v.ty, .int .i64 t.v.n, .string t.v.s, u, .int .i64 qc, o] 46).below (below_alloc _ (.cells #[.slice va vl vc, .int .i64 rn, .bool rh, .int .i64 vt, .int .i64 vn, .string vs] 50))
  have C1 := blk_new (w.alloc (.cells #[.int .i64 3, .int .i64 t.kind, .int .i64 t.col, .int .i64 t.op, .int .i64 t.v.ty, .int .i64 t.v.n, .string t.v.s, u, .int .i64 qc, o] 46)) [.slice va vl vc, .int .i64 rn, .bool rh, .int .i64 vt, .int .i64 vn, .string vs] 50
  have B0 := below_alloc2 w (.cells #[.int .i64 3, .int .i64 t.kind, .int .i64 t.col, .int .i64 t.op, .int .i64 t.v.ty, .int .i64 t.v.n, .string t.v.s, u, .int .i64 qc, o] 46) (.cells #[.slice va vl vc, .int .i64 rn, .bool rh, .int .i64 vt, .int .i64 vn, .string vs] 50)
  simp only [World.size_alloc] at C1
  generalize hw0 : (w.alloc (.cells #[.int .i64 3, .int .i64 t.kind, .int .i64 t.col, .int .i64 t.op, .int .i64 t.v.ty, .int .i64 t.v.n, .string t.v.s, u, .int .i64 qc, o] 46)).alloc (.cells #[.slice va vl vc, .int .i64 rn, .bool rh, .int .i64 vt, .int .i64 vn, .string vs] 50) = w0 at C0 C1 B0
  have HW0 := Lib.hid hw0
  have k0 := (C0 0 _ rfl).1
  have hst : ∀ fn f c a W, Sem.run Tryd.prog (store a (.func fn f c)) W = stored Tryd.prog W a (.func fn f c) .plain := fun _ _ _ _ _ => run_store _ _ _ _ _ rfl
  clear hw0 C0
  go_enter Tryd.func16, Tryd.ntmps16
  go_wp2_with fail
  rw [HW0.out]
  refine (HA.out _).mono ?_
  rintro e w1 ⟨rfl, b1⟩
  have A2 := below_alloc w1 (.cells #[.func (.func 69) #[] #[], .func (.func 70) #[] #[], .func (.func 67) #[] #[], .func (.func 68) #[] #[]] 99)
  have B1 := below_then B0 b1 B0.size
  have B2 := below_then B1 A2 B1.size
  have D := blk_new w1 [.func (.func 69) #[] #[], .func (.func 70) #[] #[], .func (.func 67) #[] #[], .func (.func 68) #[] #[]] 99
  have C1' := C1.below (below_then b1 A2 b1.size)
  have r0 := (C1' 0 _ rfl).1
  have r1 := (C1' 1 _ rfl).1
  have r2 := (C1' 2 _ rfl).1
  have r3 := (C1' 3 _ rfl).1
  have r4 := (C1' 4 _ rfl).1
  have r5 := (C1' 5 _ rfl).1
  have g3 := (D 3 _ rfl).1
  have HX2 := Lib.hid (HX.out _ B2)
  clear k0 b1 A2 B1 C1 C1' D HA HX
  go_wp2_with fail
  refine HX2.out.mono ?_
  rintro e w3 ⟨rfl, b3⟩
  clear r0 r1 r2 r3 r4 r5 g3
  go_wp2
  go_ret
  exact ⟨rfl, below_then B2 b3 B2.size⟩

set_option maxRecDepth 100000 in
set_option maxHeartbeats 1600000 in
theorem iRes4 (qc : Int) (t : T) (u o : Value) (va : Option Addr) (vl vc : Nat) (rn : Int) (rh : Bool) (vt vn : Int) (vs d : ByteArray) (w : World) (HX : Hid (∀ W, Below w.heap.size w W → Calls Tryd.prog 74 #[.agg #[.slice va vl vc, .int .i64 rn, .bool rh, .int .i64 vt, .int .i64 vn, .string vs]] W fun e w' => e = .returned (.string d) ∧ Below W.heap.size W w')) :
    Calls Tryd.prog 16 #[.agg #[.int .i64 4, .int .i64 t.kind, .int .i64 t.col, .int .i64 t.op, .int .i64 t.v.ty, .int .i64 t.v.n, .string t.v.s, u, .int .i64 qc, o], .agg #[.slice va vl vc, .int .i64 rn, .bool rh, .int .i64 vt, .int .i64 vn, .string vs]] w fun e w' => e = .returned (.string d) ∧ Below w.heap.size w w' := by
  have HA := Lib.hid (fun W => aggOf4 W)
  have C0 := (blk_new w [.int .i64 4, .int .i64 t.kind, .int .i64 t.col, .int .i64 t.op, .int .i64 t.v.ty, .int .i64 t.v.n, .string t.v.s, u, .int .i64 qc, o] 46).below (below_alloc _ (.cells #[.slice va vl vc, .int .i64 rn, .bool rh, .int .i64 vt, .int .i64 vn, .string vs] 50))
  have C1 := blk_new (w.alloc (.cells #[.int .i64 4, .int .i64 t.kind, .int .i64 t.col, .int .i64 t.op, .int .i64 t.v.ty, .int .i64 t.v.n, .string t.v.s, u, .int .i64 qc, o] 46)) [.slice va vl vc, .int .i64 rn, .bool rh, .int .i64 vt, .int .i64 vn, .string vs] 50
  have B0 := below_alloc2 w (.cells #[.int .i64 4, .int .i64 t.kind, .int .i64 t.col, .int .i64 t.op, .int .i64 t.v.ty, .int .i64 t.v.n, .string t.v.s, u, .int .i64 qc, o] 46) (.cells #[.slice va vl vc, .int .i64 rn, .bool rh, .int .i64 vt, .int .i64 vn, .string vs] 50)
  simp only [World.size_alloc] at C1
  generalize hw0 : (w.alloc (.cells #[.int .i64 4, .int .i64 t.kind, .int .i64 t.col, .int .i64 t.op, .int .i64 t.v.ty, .int .i64 t.v.n, .string t.v.s, u, .int .i64 qc, o] 46)).alloc (.cells #[.slice va vl vc, .int .i64 rn, .bool rh, .int .i64 vt, .int .i64 vn, .string vs] 50) = w0 at C0 C1 B0
  have HW0 := Lib.hid hw0
  have k0 := (C0 0 _ rfl).1
  have hst : ∀ fn f c a W, Sem.run Tryd.prog (store a (.func fn f c)) W = stored Tryd.prog W a (.func fn f c) .plain := fun _ _ _ _ _ => run_store _ _ _ _ _ rfl
  clear hw0 C0
  go_enter Tryd.func16, Tryd.ntmps16
  go_wp2_with fail
  rw [HW0.out]
  refine (HA.out _).mono ?_
  rintro e w1 ⟨rfl, b1⟩
  have A2 := below_alloc w1 (.cells #[.func (.func 71) #[] #[], .func (.func 72) #[] #[], .func (.func 73) #[] #[], .func (.func 74) #[] #[]] 99)
  have B1 := below_then B0 b1 B0.size
  have B2 := below_then B1 A2 B1.size
  have D := blk_new w1 [.func (.func 71) #[] #[], .func (.func 72) #[] #[], .func (.func 73) #[] #[], .func (.func 74) #[] #[]] 99
  have C1' := C1.below (below_then b1 A2 b1.size)
  have r0 := (C1' 0 _ rfl).1
  have r1 := (C1' 1 _ rfl).1
  have r2 := (C1' 2 _ rfl).1
  have r3 := (C1' 3 _ rfl).1
  have r4 := (C1' 4 _ rfl).1
  have r5 := (C1' 5 _ rfl).1
  have g3 := (D 3 _ rfl).1
  have HX2 := Lib.hid (HX.out _ B2)
  clear k0 b1 A2 B1 C1 C1' D HA HX
  go_wp2_with fail
  refine HX2.out.mono ?_
  rintro e w3 ⟨rfl, b3⟩
  clear r0 r1 r2 r3 r4 r5 g3
  go_wp2
  go_ret
  exact ⟨rfl, below_then B2 b3 B2.size⟩

set_option maxRecDepth 100000 in
set_option maxHeartbeats 1600000 in
theorem iRes5 (qc : Int) (t : T) (u o : Value) (va : Option Addr) (vl vc : Nat) (rn : Int) (rh : Bool) (vt vn : Int) (vs d : ByteArray) (w : World) (HX : Hid (∀ W, Below w.heap.size w W → Calls Tryd.prog 74 #[.agg #[.slice va vl vc, .int .i64 rn, .bool rh, .int .i64 vt, .int .i64 vn, .string vs]] W fun e w' => e = .returned (.string d) ∧ Below W.heap.size W w')) :
    Calls Tryd.prog 16 #[.agg #[.int .i64 5, .int .i64 t.kind, .int .i64 t.col, .int .i64 t.op, .int .i64 t.v.ty, .int .i64 t.v.n, .string t.v.s, u, .int .i64 qc, o], .agg #[.slice va vl vc, .int .i64 rn, .bool rh, .int .i64 vt, .int .i64 vn, .string vs]] w fun e w' => e = .returned (.string d) ∧ Below w.heap.size w w' := by
  have HA := Lib.hid (fun W => aggOf5 W)
  have C0 := (blk_new w [.int .i64 5, .int .i64 t.kind, .int .i64 t.col, .int .i64 t.op, .int .i64 t.v.ty, .int .i64 t.v.n, .string t.v.s, u, .int .i64 qc, o] 46).below (below_alloc _ (.cells #[.slice va vl vc, .int .i64 rn, .bool rh, .int .i64 vt, .int .i64 vn, .string vs] 50))
  have C1 := blk_new (w.alloc (.cells #[.int .i64 5, .int .i64 t.kind, .int .i64 t.col, .int .i64 t.op, .int .i64 t.v.ty, .int .i64 t.v.n, .string t.v.s, u, .int .i64 qc, o] 46)) [.slice va vl vc, .int .i64 rn, .bool rh, .int .i64 vt, .int .i64 vn, .string vs] 50
  have B0 := below_alloc2 w (.cells #[.int .i64 5, .int .i64 t.kind, .int .i64 t.col, .int .i64 t.op, .int .i64 t.v.ty, .int .i64 t.v.n, .string t.v.s, u, .int .i64 qc, o] 46) (.cells #[.slice va vl vc, .int .i64 rn, .bool rh, .int .i64 vt, .int .i64 vn, .string vs] 50)
  simp only [World.size_alloc] at C1
  generalize hw0 : (w.alloc (.cells #[.int .i64 5, .int .i64 t.kind, .int .i64 t.col, .int .i64 t.op, .int .i64 t.v.ty, .int .i64 t.v.n, .string t.v.s, u, .int .i64 qc, o] 46)).alloc (.cells #[.slice va vl vc, .int .i64 rn, .bool rh, .int .i64 vt, .int .i64 vn, .string vs] 50) = w0 at C0 C1 B0
  have HW0 := Lib.hid hw0
  have k0 := (C0 0 _ rfl).1
  have hst : ∀ fn f c a W, Sem.run Tryd.prog (store a (.func fn f c)) W = stored Tryd.prog W a (.func fn f c) .plain := fun _ _ _ _ _ => run_store _ _ _ _ _ rfl
  clear hw0 C0
  go_enter Tryd.func16, Tryd.ntmps16
  go_wp2_with fail
  rw [HW0.out]
  refine (HA.out _).mono ?_
  rintro e w1 ⟨rfl, b1⟩
  have A2 := below_alloc w1 (.cells #[.func (.func 71) #[] #[], .func (.func 72) #[] #[], .func (.func 75) #[] #[], .func (.func 74) #[] #[]] 99)
  have B1 := below_then B0 b1 B0.size
  have B2 := below_then B1 A2 B1.size
  have D := blk_new w1 [.func (.func 71) #[] #[], .func (.func 72) #[] #[], .func (.func 75) #[] #[], .func (.func 74) #[] #[]] 99
  have C1' := C1.below (below_then b1 A2 b1.size)
  have r0 := (C1' 0 _ rfl).1
  have r1 := (C1' 1 _ rfl).1
  have r2 := (C1' 2 _ rfl).1
  have r3 := (C1' 3 _ rfl).1
  have r4 := (C1' 4 _ rfl).1
  have r5 := (C1' 5 _ rfl).1
  have g3 := (D 3 _ rfl).1
  have HX2 := Lib.hid (HX.out _ B2)
  clear k0 b1 A2 B1 C1 C1' D HA HX
  go_wp2_with fail
  refine HX2.out.mono ?_
  rintro e w3 ⟨rfl, b3⟩
  clear r0 r1 r2 r3 r4 r5 g3
  go_wp2
  go_ret
  exact ⟨rfl, below_then B2 b3 B2.size⟩

set_option maxRecDepth 100000 in
set_option maxHeartbeats 1600000 in
theorem iResNo (qk : Int) (hk : ¬ (1 ≤ qk ∧ qk ≤ 5)) (qc : Int) (t : T) (u o : Value) (va : Option Addr) (vl vc : Nat) (rn : Int) (rh : Bool) (vt vn : Int) (vs : ByteArray) (w : World) :
    Calls Tryd.prog 16 #[.agg #[.int .i64 qk, .int .i64 t.kind, .int .i64 t.col, .int .i64 t.op, .int .i64 t.v.ty, .int .i64 t.v.n, .string t.v.s, u, .int .i64 qc, o], .agg #[.slice va vl vc, .int .i64 rn, .bool rh, .int .i64 vt, .int .i64 vn, .string vs]] w fun e w' => e = .returned (.string ⟨#[]⟩) ∧ Below w.heap.size w w' := by
  have HA := Lib.hid (fun W => aggOfNo qk hk W)
  have C0 := (blk_new w [.int .i64 qk, .int .i64 t.kind, .int .i64 t.col, .int .i64 t.op, .int .i64 t.v.ty, .int .i64 t.v.n, .string t.v.s, u, .int .i64 qc, o] 46).below (below_alloc _ (.cells #[.slice va vl vc, .int .i64 rn, .bool rh, .int .i64 vt, .int .i64 vn, .string vs] 50))
  have B0 := below_alloc2 w (.cells #[.int .i64 qk, .int .i64 t.kind, .int .i64 t.col, .int .i64 t.op, .int .i64 t.v.ty, .int .i64 t.v.n, .string t.v.s, u, .int .i64 qc, o] 46) (.cells #[.slice va vl vc, .int .i64 rn, .bool rh, .int .i64 vt, .int .i64 vn, .string vs] 50)
  generalize hw0 : (w.alloc (.cells #[.int .i64 qk, .int .i64 t.kind, .int .i64 t.col, .int .i64 t.op, .int .i64 t.v.ty, .int .i64 t.v.n, .string t.v.s, u, .int .i64 qc, o] 46)).alloc (.cells #[.slice va vl vc, .int .i64 rn, .bool rh, .int .i64 vt, .int .i64 vn, .string vs] 50) = w0 at C0 B0
  have HW0 := Lib.hid hw0
  have k0 := (C0 0 _ rfl).1
  have hst2 : ∀ a W, Sem.run Tryd.prog (store a .nilFunc) W = stored Tryd.prog W a .nilFunc .plain := fun _ _ => run_store _ _ _ _ _ rfl
  clear hw0 C0 hk
  go_enter Tryd.func16, Tryd.ntmps16
  go_wp2_with fail
  rw [HW0.out]
  refine (HA.out _).mono ?_
  rintro e w1 ⟨rfl, b1⟩
  have A2 := below_alloc w1 (.cells #[.nilFunc, .nilFunc, .nilFunc, .nilFunc] 99)
  have B1 := below_then B0 b1 B0.size
  have B2 := below_then B1 A2 B1.size
  clear k0 b1 A2 B1 HA HW0
  go_wp2
  go_ret
  exact ⟨rfl, B2⟩

theorem iResultText : CResT 16 := by
  intro qk qc t u o v r ps w h hps hn hp h0 h1 hs hT
  obtain ⟨rows, rn, rh, ⟨vt, vn, vs⟩⟩ := r
  simp only at hps h0 h1 hs ⊢
  subst hps
  obtain ⟨va, vc, vl, rfl⟩ : ∃ va vc vl, v = .slice va vl vc := by
    obtain ⟨⟨a, cap, e, _⟩, _⟩ := id h
    exact ⟨a, cap, _, e⟩
  by_cases hk : 1 ≤ qk ∧ qk ≤ 5
  · rcases kinds5 hk with rfl | rfl | rfl | rfl | rfl
    · refine iRes1 qc t u o va vl vc rn rh vt vn vs _ w (fun W hW => ?_)
      have := iRowsText _ rn rh vt vn vs ps W (h.below hW) hn hp (hT.below hW)
      have e : resT 1 ⟨ps.map (·.1), rn, rh, ⟨vt, vn, vs⟩⟩ = if ps.length = 0 then ⟨#[45]⟩ else rowsK (ps.map (·.1)) ps.length := by
        unfold resT
        rw [if_pos rfl]
        simp only [List.length_map]
      rw [e]
      exact this
    · exact iRes2 qc t u o va vl vc rn rh vt vn vs _ w (fun W hW => iNumT _ rn rh vt vn vs W h0 h1 (hT.below hW))
    · exact iRes3 qc t u o va vl vc rn rh vt vn vs _ w (fun W hW => iNumT _ rn rh vt vn vs W h0 h1 (hT.below hW))
    · exact iRes4 qc t u o va vl vc rn rh vt vn vs _ w (fun W hW => iValT _ rn rh vt vn vs W hs (hT.below hW))
    · exact iRes5 qc t u o va vl vc rn rh vt vn vs _ w (fun W hW => iValT _ rn rh vt vn vs W hs (hT.below hW))
  · have e : resT qk ⟨ps.map (·.1), rn, rh, ⟨vt, vn, vs⟩⟩ = ⟨#[]⟩ := by
      unfold resT
      rw [if_neg (by omega), if_neg (by omega), if_neg (by omega)]
    rw [e]
    exact iResNo qk hk qc t u o va vl vc rn rh vt vn vs w

end Go.Proofs.YtkofafefnlommaaDoor
