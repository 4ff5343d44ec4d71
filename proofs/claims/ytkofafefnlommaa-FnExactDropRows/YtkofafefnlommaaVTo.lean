/- The laws' own helpers over one Val: szVal, toVal, eqVal. -/
import Derived.Test.YtkofafefnlommaaIn
namespace Go.Proofs.Ytkofafefnlommaa
open Go.RowKit

/-- A Val as the machine holds it. -/
structure V where
  ty : Int
  n : Int
  s : ByteArray
abbrev V.agg (v : V) : Value := .agg #[.int .i64 v.ty, .int .i64 v.n, .string v.s]
def V.cs (v : V) : List Value := [.int .i64 v.ty, .int .i64 v.n, .string v.s]
def V.zero : V := ⟨0, 0, ⟨#[]⟩⟩

theorem below_alloc2 (w : World) (o p : Obj) : Below w.heap.size w ((w.alloc o).alloc p) := (below_alloc w o).alloc (by simp) p
theorem below_alloc3 (w : World) (o p q : Obj) : Below w.heap.size w (((w.alloc o).alloc p).alloc q) := (below_alloc2 w o p).alloc (by simp; omega) q

theorem toVal (v : V) (w : World) : Calls Try.prog 76 #[v.agg] w fun e w' => e = .returned v.agg ∧ Below w.heap.size w w' := by
  obtain ⟨t, n, s⟩ := v
  go_enter Try.func76, Try.ntmps76
  go_wp2
  exact bodyPost_ret (v := .agg #[.int .i64 t, .int .i64 n, .string s]) (by simp [results, Try.results76, go_sem]) rfl ⟨rfl, below_alloc3 _ _ _ _⟩

/-- What szVal leaves. -/
def szV (v : V) (left : Int) : Int := if left - v.s.size < 0 then -1 else left - v.s.size
theorem szVal (v : V) (left : Int) (w : World) (h0 : 0 ≤ left) (h1 : left ≤ 1048576) (hs : v.s.size ≤ maxLen) :
    Calls Try.prog 75 #[v.agg, .int .i64 left] w fun e w' => e = .returned (.int .i64 (szV v left)) ∧ Below w.heap.size w w' := by
  obtain ⟨t, n, s⟩ := v
  simp only at hs
  unfold maxLen at hs
  by_cases hlt : left - (s.size : Int) < 0
  · have HZ : Hid (szV ⟨t, n, s⟩ left = -1) := if_pos hlt
    go_enter Try.func75, Try.ntmps75
    go_wp2
    go_ret
    exact ⟨ret_int HZ.out.symm, below_alloc _ _⟩
  · have HZ : Hid (szV ⟨t, n, s⟩ left = left - s.size) := if_neg hlt
    go_enter Try.func75, Try.ntmps75
    go_wp2
    go_ret
    exact ⟨ret_int HZ.out.symm, below_alloc _ _⟩

theorem eqVal (v : V) (w : World) : Calls Try.prog 73 #[v.agg, v.agg] w fun e w' => e = .returned (.bool true) ∧ Below w.heap.size w w' := by
  obtain ⟨t, n, s⟩ := v
  have h1 : (t != t) = false := by simp
  have h2 : (n != n) = false := by simp
  go_enter Try.func73, Try.ntmps73
  go_wp2
  go_ret
  exact ⟨rfl, below_alloc2 _ _ _⟩

/-- The cells of a list of Vals. -/
def vals (l : List V) : List Value := l.flatMap V.cs
/-- A slice argument that reads as the cells xs, c of them an element. -/
def ArgS (c : Nat) (w : World) (a : Option Addr) (len : Nat) (xs : List Value) : Prop :=
  xs.length = len * c ∧ (len = 0 ∨ ∃ b off, a = some ⟨b, off, none⟩ ∧ ∀ j u, xs[j]? = some u → w.cell? ⟨b, off + j, none⟩ = some u)

theorem flat_get {α : Type} (f : α → List Value) (c : Nat) (hf : ∀ x, (f x).length = c) : ∀ (l : List α) (k j : Nat) (hk : k < l.length), j < c → (l.flatMap f)[k * c + j]? = (f l[k])[j]?
  | [], k, _, hk, _ => by simp at hk
  | x :: r, 0, j, _, hj => by
    rw [List.flatMap_cons, Nat.zero_mul, Nat.zero_add, List.getElem?_append_left (by rw [hf]; exact hj)]
    rfl
  | x :: r, k + 1, j, hk, hj => by
    rw [List.flatMap_cons, List.getElem?_append_right (by rw [hf, Nat.succ_mul]; omega), hf, show (k + 1) * c + j - c = k * c + j by rw [Nat.succ_mul]; omega]
    exact flat_get f c hf r k j (by simpa using hk) hj
theorem flat_len {α : Type} (f : α → List Value) (c : Nat) (hf : ∀ x, (f x).length = c) : ∀ l : List α, (l.flatMap f).length = l.length * c
  | [] => by simp
  | x :: r => by rw [List.flatMap_cons, List.length_append, hf, flat_len f c hf r, List.length_cons, Nat.succ_mul, Nat.add_comm]
theorem vals_len (l : List V) : (vals l).length = l.length * 3 := flat_len V.cs 3 (fun _ => rfl) l
theorem vals_get {l : List V} {k j : Nat} (hk : k < l.length) (hj : j < 3) : (vals l)[k * 3 + j]? = l[k].cs[j]? := flat_get V.cs 3 (fun _ => rfl) l k j hk hj
/-- The three cells of element k. -/
theorem cells3 {w : World} {b off : Nat} {l : List V} (hc : ∀ j u, (vals l)[j]? = some u → w.cell? ⟨b, off + j, none⟩ = some u) {k : Nat} (hk : k < l.length) :
    w.cell? ⟨b, off + k * 3, none⟩ = some (.int .i64 l[k].ty) ∧ w.cell? ⟨b, off + k * 3 + 1, none⟩ = some (.int .i64 l[k].n) ∧ w.cell? ⟨b, off + k * 3 + 2, none⟩ = some (.string l[k].s) :=
  ⟨hc (k * 3) _ (vals_get (j := 0) hk (by omega)), hc (k * 3 + 1) _ (vals_get (j := 1) hk (by omega)), hc (k * 3 + 2) _ (vals_get (j := 2) hk (by omega))⟩

/-- What the sizes of a list come to. -/
def bulk (l : List V) : Nat := (l.map fun v => v.s.size).sum
theorem bulk_take_succ (l : List V) (k : Nat) (h : k < l.length) : bulk (l.take (k + 1)) = bulk (l.take k) + l[k].s.size := by
  unfold bulk
  rw [List.take_succ_eq_append_getElem h, List.map_append, List.sum_append]
  rfl

set_option maxHeartbeats 400000 in
theorem szValS (a : Option Addr) (len cap : Nat) (l : List V) (left : Int) (w : World) (h0 : 0 ≤ left) (h1 : left ≤ 1048576) (hle : len ≤ maxLen) (hss : ∀ v ∈ l, v.s.size ≤ maxLen) (hl : l.length = len) (h : ArgS 3 w a len (vals l)) :
    Calls Try.prog 59 #[.slice a len cap, .int .i64 left] w fun e w' => ∃ r : Int, e = .returned (.int .i64 r) ∧ (r < 0 ∨ (0 ≤ r ∧ (len : Int) + bulk l ≤ left - r)) ∧ Below w.heap.size w w' := by
  unfold maxLen at hle
  by_cases hbig : left - (len : Int) < 0
  · go_enter Try.func59, Try.ntmps59
    go_wp2
    go_ret
    exact ⟨_, rfl, .inl (by omega), Below.refl _ _⟩
  · have HL := Lib.hid hl
    have HS := Lib.hid hss
    obtain ⟨_, h⟩ := h
    have HC : Hid (∀ k (hk : k < l.length) (W : World), Below w.heap.size w W → ∃ b off, a = some ⟨b, off, none⟩ ∧ W.cell? ⟨b, off + k * 3, none⟩ = some (.int .i64 l[k].ty) ∧ W.cell? ⟨b, off + k * 3 + 1, none⟩ = some (.int .i64 l[k].n) ∧ W.cell? ⟨b, off + k * 3 + 2, none⟩ = some (.string l[k].s)) := by
      intro k hk W hW
      rcases h with h | ⟨b, off, rfl, hc⟩
      · omega
      · have c3 := cells3 hc hk
        exact ⟨b, off, rfl, (hW.cell (p := ⟨b, off + k * 3, none⟩) (lt_of_cell c3.1)).trans c3.1, (hW.cell (p := ⟨b, off + k * 3 + 1, none⟩) (lt_of_cell c3.2.1)).trans c3.2.1, (hW.cell (p := ⟨b, off + k * 3 + 2, none⟩) (lt_of_cell c3.2.2)).trans c3.2.2⟩
    clear hl hss h
    go_enter Try.func59, Try.ntmps59
    go_wp2
    go_loopw [1, 5] (fun r i wr => ∃ (k : Nat) (z : Int), k ≤ len ∧ 0 ≤ z ∧ z ≤ left ∧ (len : Int) + bulk (l.take k) = left - z ∧ r = .int .i64 z ∧ i = .int .i64 k ∧ Below w.heap.size w wr) (fun _ i _ => len - (intOf i).toNat)
    case atStart => exact ⟨0, _, Nat.zero_le _, by omega, by omega, by simp [bulk]; omega, rfl, rfl, Below.refl _ _⟩
    case round =>
      obtain ⟨k, z, hk, hz0, hz1, hzb, rfl, rfl, hbr⟩ := hrel
      by_cases hkl : k < len
      · have hkl' : k < l.length := by rw [HL.out]; exact hkl
        obtain ⟨b, off, rfl, c0, c1, c2⟩ := HC.out k hkl' wr hbr
        have hsz := HS.out l[k] (List.getElem_mem hkl')
        have HB := Lib.hid (bulk_take_succ l k hkl')
        have HZ := Lib.hid (szVal l[k] z wr hz0 (by omega) hsz)
        generalize l[k] = v at c0 c1 c2 hsz HB HZ
        obtain ⟨t, n, s⟩ := v
        simp only at c0 c1 c2 hsz HB
        unfold maxLen at hsz
        by_cases hneg : z - (s.size : Int) < 0
        · have HE : Hid (szV ⟨t, n, s⟩ z = -1) := if_pos hneg
          rw [HE.out] at HZ
          go_wp2_with (go_at_call 75; refine HZ.out.mono ?_; rintro e w2 ⟨rfl, hb2⟩)
          go_ret
          exact ⟨_, rfl, .inl (by omega), below_then hbr hb2 hbr.size⟩
        · have HE : Hid (szV ⟨t, n, s⟩ z = z - s.size) := if_neg hneg
          rw [HE.out] at HZ
          go_wp2_with (go_at_call 75; refine HZ.out.mono ?_; rintro e w2 ⟨rfl, hb2⟩)
          go_roundw
          case rel => exact ⟨k + 1, _, by omega, by omega, by omega, by rw [HB.out]; omega, rfl, by go_num, below_then hbr hb2 hbr.size⟩
          case measure => simp [intOf]; omega
      · obtain rfl : k = len := by omega
        go_wp2
        go_ret
        refine ⟨_, rfl, .inr ⟨hz0, ?_⟩, hbr⟩
        rw [← HL.out, List.take_length] at hzb
        rw [← HL.out]
        omega

end Go.Proofs.Ytkofafefnlommaa
