/- Texts of this claim, one behind the other: OpenQ. -/
import Derived.Test.YtkofafefnlommaaDoorP21
import Derived.Test.YtkofafefnlommaaDoorP20
import Derived.Test.YtkofafefnlommaaDoorP15
import Derived.ChangeSlices

/- Reading a Query and a Result: what the row's reading says of them. -/
namespace Go.Proofs.YtkofafefnlommaaDoor
open Go.RowKit Go.ChangeShapes Go.WideShapes Go.Deep

section
variable {H : Type} {enc : TypeId × Value → H} {w : World} {base : Nat} {spare : Nat → Bool} {held : Bool} {fuel : Nat} {cs : List Value} {x : DataW H × List MemPlace}

theorem trod_struct4' {P : Program} {t : TypeId} {f0 f1 f2 f3 : Field} {fuel : Nat} {cs : List Value} {x : DataW H × List MemPlace} (ht : P.underlying t = some (.struct #[f0, f1, f2, f3])) (h : DataW.trod enc P w base spare held fuel t cs = some x) :
    ∃ (y0 y1 y2 y3 : DataW H × List MemPlace) (n : Nat), fuel = n + 1 ∧ cs.length = P.cellsOf t ∧ DataW.trod enc P w base spare held n f0.type ((cs.drop f0.offset).take (P.cellsOf f0.type)) = some y0 ∧
      DataW.trod enc P w base spare held n f1.type ((cs.drop f1.offset).take (P.cellsOf f1.type)) = some y1 ∧ DataW.trod enc P w base spare held n f2.type ((cs.drop f2.offset).take (P.cellsOf f2.type)) = some y2 ∧
      DataW.trod enc P w base spare held n f3.type ((cs.drop f3.offset).take (P.cellsOf f3.type)) = some y3 := by
  obtain ⟨xs, n, hn, _, hl, hlen, hf⟩ := DataW.trod_struct ht h
  match xs, hlen with
  | [y0, y1, y2, y3], _ => exact ⟨y0, y1, y2, y3, n, hn, hl, by simpa using hf 0 f0 rfl, by simpa using hf 1 f1 rfl, by simpa using hf 2 f2 rfl, by simpa using hf 3 f3 rfl⟩

/-- A Query that the row reads. -/
def QueryArg (w : World) (qk qc : Int) (t : T) (u : Value) (a : Option Addr) (len : Nat) (zs : List Int) : Prop := T.wf w t u ∧ len ≤ maxLen ∧ Arg .i64 w a len zs ∧ (Lit.int .i64 qk).wf = true ∧ (Lit.int .i64 qc).wf = true ∧ ∀ n ∈ zs, (Lit.int .i64 n).wf = true
def qcs (qk qc : Int) (t : T) (u : Value) (a : Option Addr) (len cap : Nat) : List Value := [.int .i64 qk, .int .i64 t.kind, .int .i64 t.col, .int .i64 t.op, .int .i64 t.v.ty, .int .i64 t.v.n, .string t.v.s, u, .int .i64 qc, .slice a len cap]

set_option maxRecDepth 100000 in
set_option maxHeartbeats 1000000 in
theorem trod_query (h : DataW.trod enc Tryd.prog w base spare held fuel 38 cs = some x) : ∃ (qk qc : Int) (t : T) (u : Value) (a : Option Addr) (len cap : Nat) (zs : List Int), cs = qcs qk qc t u a len cap ∧ QueryArg w qk qc t u a len zs := by
  obtain ⟨y0, y1, y2, y3, n, _, hl, h0, h1, h2, h3⟩ := trod_struct4' Tryd.underlying38 h
  have hl10 : cs.length = 10 := hl.trans (by kernel_rfl)
  have e3 : Tryd.prog.cellsOf 3 = 1 := by kernel_rfl
  have ep : Tryd.prog.cellsOf 26 = 7 := by kernel_rfl
  have es : Tryd.prog.cellsOf 36 = 1 := by kernel_rfl
  match cs, hl10 with
  | [c0, c1, c2, c3, c4, c5, c6, c7, c8, c9], _ =>
    simp only [e3, ep, es, List.drop_zero, List.drop_succ_cons, List.take_succ_cons, List.take_zero] at h0 h1 h2 h3
    obtain ⟨k, hk, _, wk⟩ := DataW.trod_int Tryd.underlying3 h0
    obtain ⟨t, u, ht, hr, hw⟩ := trod_pred _ _ _ h1
    obtain ⟨c, hc, _, wc⟩ := DataW.trod_int Tryd.underlying3 h2
    simp only [List.cons.injEq, and_true] at hk hc
    subst hk hc
    simp only [T.cs, List.cons.injEq, and_true] at ht
    obtain ⟨rfl, rfl, rfl, rfl, rfl, rfl, rfl⟩ := ht
    rcases open_ints Tryd.underlying36 Tryd.underlying3 (by kernel_rfl) h3 with ⟨hcs, _⟩ | ⟨a, l, cp, zs, hcs, _, hlc, hm, hz, _, hcell, hwz⟩
    · simp only [List.cons.injEq, and_true] at hcs
      subst hcs
      exact ⟨k, c, t, _, none, 0, 0, [], rfl, ⟨hr, hw⟩, Nat.zero_le _, ⟨rfl, .inl rfl⟩, wk, wc, by simp⟩
    · simp only [List.cons.injEq, and_true] at hcs
      subst hcs
      have hlz : l ≤ zs.length := by rw [hz]; split <;> omega
      refine ⟨k, c, t, _, some a, l, cp, zs.take l, rfl, ⟨hr, hw⟩, by omega, ⟨by simp; omega, ?_⟩, wk, wc, fun n hn => hwz n (List.mem_of_mem_take hn)⟩
      by_cases h0 : l = 0
      · exact .inl h0
      · obtain ⟨b, off, spot⟩ := a
        have hc0 := hcell 0 (by omega)
        have hspot : spot = none := by simpa [Addr.add] using World.cell?_spot hc0
        subst hspot
        refine .inr ⟨b, off, rfl, fun i hi => ?_⟩
        have := hcell i (by omega)
        rw [addr_add] at this
        rw [this]
        simp [hi]

/-- A Result that the row reads. -/
def ResultArg (w : World) (a : Option Addr) (len : Nat) (ps : List P) (n : Int) (v : V) : Prop := (len ≤ maxLen ∧ ps.length = len ∧ (∀ p ∈ ps, P.wf w p) ∧ ArgS 2 w a len (prs ps)) ∧ (Lit.int .i64 n).wf = true ∧ v.wf
def scs (a : Option Addr) (len cap : Nat) (n : Int) (has : Bool) (v : V) : List Value := [.slice a len cap, .int .i64 n, .bool has, .int .i64 v.ty, .int .i64 v.n, .string v.s]

set_option maxRecDepth 100000 in
set_option maxHeartbeats 1000000 in
theorem trod_result (h : DataW.trod enc Tryd.prog w base spare held fuel 41 cs = some x) : ∃ (a : Option Addr) (len cap : Nat) (ps : List P) (n : Int) (has : Bool) (v : V), cs = scs a len cap n has v ∧ ResultArg w a len ps n v := by
  obtain ⟨y0, y1, y2, y3, n, _, hl, h0, h1, h2, h3⟩ := trod_struct4' Tryd.underlying41 h
  have hl6 : cs.length = 6 := hl.trans (by kernel_rfl)
  have e3 : Tryd.prog.cellsOf 3 = 1 := by kernel_rfl
  have eb : Tryd.prog.cellsOf 4 = 1 := by kernel_rfl
  have ev : Tryd.prog.cellsOf 23 = 3 := by kernel_rfl
  have es : Tryd.prog.cellsOf 39 = 1 := by kernel_rfl
  match cs, hl6 with
  | [c0, c1, c2, c3, c4, c5], _ =>
    simp only [e3, eb, ev, es, List.drop_zero, List.drop_succ_cons, List.take_succ_cons, List.take_zero] at h0 h1 h2 h3
    obtain ⟨a, len, cap, hs, hle, ps, hll, hq, harg⟩ := trod_rows h0
    obtain ⟨m, hm, _, wm⟩ := DataW.trod_int Tryd.underlying3 h1
    obtain ⟨b, hb, _⟩ := DataW.trod_bool Tryd.underlying4 h2
    obtain ⟨v, hv, wv⟩ := trod_val h3
    simp only [List.cons.injEq, and_true] at hs hm hb
    subst hs hm hb
    simp only [V.cs, List.cons.injEq, and_true] at hv
    obtain ⟨rfl, rfl, rfl⟩ := hv
    exact ⟨a, len, cap, ps, m, b, v, rfl, ⟨hle, hll, hq, harg⟩, wm, wv⟩
end

end Go.Proofs.YtkofafefnlommaaDoor
