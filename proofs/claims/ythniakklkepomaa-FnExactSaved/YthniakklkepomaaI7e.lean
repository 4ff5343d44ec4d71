/- The contract of impl's Dict. -/
import Derived.Test.YthniakklkepomaaI7c
namespace Go.Proofs.Ythniakklkepomaa
open Go.RowKit

theorem append_zero_law {P : Program} {t e : TypeId} {z : Value} {size bytes : Nat} (T : ElemT P t e z size bytes) {w : World} {ops : Array Oper} {rest : List Oper} {o : Oper} {a : Act} {Q : Exit → Act → World → Prop} (hgd : o.guard = none) (s x : Operand)
    (ho : o.op = .call { callee := .builtin .append, args := #[s, x], argTypes := #[t, t] })
    (lo hi : Nat) (v : Value) (n : Nat) (xs : List Value) (hs : a.eval s = v) (hown : Own e size lo hi w v n xs) (y : Option Addr) (c : Nat) (hx : a.eval x = .slice y 0 c)
    (h : wpList P ops Q rest (a.put o.dst v) w) : wpList P ops Q (o :: rest) a w := by
  obtain ⟨i, hi', _⟩ := T.info
  have hrun : (Builtin.append_ #[t, t] o.type #[v, .slice y 0 c]).run P w = .ok v w := by
    rcases hown.row.2 with ⟨rfl, rfl⟩ | ⟨g, cap, cur, rfl, _, _, hnc, _⟩
    · cases y <;> simp [Builtin.append_, run_underlying T.ht, sizeOf, typeInfo, hi', Builtin.lenOf, Builtin.firstCells, loadCells, loadCellsFrom]
    · cases y <;> simp [Builtin.append_, run_underlying T.ht, sizeOf, typeInfo, hi', Builtin.lenOf, Builtin.firstCells, hnc, storeCells, loadCells, loadCellsFrom]
  refine wpList_plain hgd fun K hK => ?_
  unfold Oper.wp
  simp [execOp, ho, resolve, invoke, builtin, hs, hx, hrun, Result.andThen]
  exact hK _ _ h
theorem own_grown_below {w0 w w' : World} {g : Nat} (hb : Below w0.heap.size w0 w) (hg : w.grownBy w' (some g)) (hlo : w0.heap.size ≤ g) : Below w0.heap.size w0 w' :=
  hb.trans ⟨hg.os, hg.tape, hg.output, hg.size, fun k hk => hg.block k (by have := hb.size; omega) (fun e => by simp at e; omega)⟩

set_option maxHeartbeats 2000000 in
theorem iDict : CDict := by
  intro u l w hn hss h
  have hown0 := own_lit (e := 41) (size := 3) w #[] 0 (Nat.zero_le _) rfl
  have hb0 := below_alloc w (.cells #[] 41)
  generalize hl : l.length = n at h hn
  have HL := Lib.hid hl
  obtain ⟨a, cap, rfl, hm, hlx, hor⟩ := h.below hb0
  have HV : Hid ((vals l).length = n * 3) := by show _ = _; rw [vals_len, hl]
  have HFIN : Hid (∀ (v : Value) (w2 : World), Own 41 3 w.heap.size w2.heap.size w2 v n (vals l) → Below w.heap.size w w2 →
      ∃ g cp, v = .slice (some ⟨g, 0, none⟩) n cp ∧ Calls Try.prog 74 #[v, .func (.func 75) #[] #[]] w2 fun e w3 => e = .returned (.tuple #[]) ∧ Below w.heap.size w w3 ∧
        Calls Try.prog 76 #[v] w3 fun e w4 => ∃ v', e = .returned v' ∧ Own 41 3 w.heap.size w4.heap.size w4 v' (dictL l).length (vals (dictL l)) ∧ Below w.heap.size w w4) := by
    intro v w2 o2 b2
    obtain ⟨g, cp, rfl, g1, g2, row⟩ := o2
    have hcp : n ≤ cp ∧ cp ≤ maxLen := by
      rcases row.2 with ⟨e, _⟩ | ⟨g', cap', cur, e, _, _, h1, h2, _⟩
      · cases e
      · cases e; exact ⟨h1, h2⟩
    refine ⟨g, cp, rfl, (sortVals hn hl row).mono ?_⟩
    rintro e w3 ⟨rfl, s, hp, hr, row3, hg3⟩
    have b3 := own_grown_below b2 hg3 g1
    have hsl : s.length = n := by rw [hp.length_eq]; exact hl
    refine ⟨rfl, b3, (iCompact hn hsl hcp.1 hcp.2 row3).mono ?_⟩
    rintro e w4 ⟨rfl, row4, hg4⟩
    have hcd : compK s n = dictL l := by rw [← hsl]; exact comp_dict hp hr
    rw [hcd] at row4
    rw [hcd]
    exact ⟨_, rfl, ⟨g, cp, rfl, g1, (row4.lt g rfl).2, row4⟩, own_grown_below b3 hg4 g1⟩
  clear hlx h hl hss
  unfold maxLen at hm
  rcases hor with h0 | ⟨b, off, rfl, hc⟩
  · subst h0
    have hvl : vals l = [] := List.length_eq_zero_iff.1 (by rw [HV.out])
    rw [hvl] at HFIN
    go_enter Try.func62, Try.ntmps62
    go_wp2_with (at_builtin; refine append_zero_law Try.elemVals rfl _ _ rfl _ _ _ 0 [] rfl hown0 a cap rfl ?_)
    obtain ⟨g, cp, e, HS⟩ := HFIN.out _ _ hown0 hb0
    have HS := Lib.hid HS
    clear e HFIN
    go_wp2_with fail
    refine HS.out.mono ?_
    rintro e w3 ⟨rfl, b3, hcm⟩
    have HCM := Lib.hid hcm
    clear hcm HS
    go_wp2_with fail
    refine HCM.out.mono ?_
    rintro e w4 ⟨v4, rfl, o4, b4⟩
    have O4 := Lib.hid o4
    clear o4 HCM
    go_wp2
    go_ret
    exact ⟨_, rfl, O4.out, b4⟩
  · have HC := Lib.hid hc
    clear hc
    go_enter Try.func62, Try.ntmps62
    go_wp2_with (at_builtin; refine append_law Try.elemVals rfl _ _ rfl _ _ _ 0 [] rfl hown0 b off n cap (vals l) rfl HV.out HC.out (vals_one l) (by unfold maxLen; omega) (by omega) ?_)
    intro v2 w2 o2 e2
    have b2 := hb0.trans (e2.below hown0)
    obtain ⟨g, cp, rfl, HS⟩ := HFIN.out _ _ o2 b2
    have HS := Lib.hid HS
    clear HFIN o2 e2 hown0
    go_wp2_with fail
    refine HS.out.mono ?_
    rintro e w3 ⟨rfl, b3, hcm⟩
    have HCM := Lib.hid hcm
    clear hcm HS
    go_wp2_with fail
    refine HCM.out.mono ?_
    rintro e w4 ⟨v4, rfl, o4, b4⟩
    have O4 := Lib.hid o4
    clear o4 HCM
    go_wp2
    go_ret
    exact ⟨_, rfl, O4.out, b4⟩

end Go.Proofs.Ythniakklkepomaa
