/- Texts of this claim, one behind the other: In, NumOk, Zig, Put, VTo, Rd, HeldV. -/
import Derived.Test.YtkofafefnlommaaRows
import Derived.Test.YtkofafefnlommaaP1
import Derived.Test.YtkofafefnlommaaP3
import Derived.WalkKit
import Derived.WalkSpells
import Derived.Lib.Hide
import Derived.OpenShut

/- The contract of the model's l1In. -/
namespace Go.Proofs.Ytkofafefnlommaa
open Go.RowKit

theorem bytes_of_wf {zs : List Int} (h : ∀ n ∈ zs, (Lit.int .u8 n).wf = true) : Num.Bytes zs := fun x hx => bounds_u8 (h x hx)

theorem l1In (x a b : Int) (w : World) : Calls Try.prog 71 #[.int .i64 x, .int .i64 a, .int .i64 b] w fun e w' => e = .returned (.bool (Num.inB x a b)) ∧ w = w' := by
  by_cases h1 : a ≤ x
  · by_cases h2 : x ≤ b
    · rw [Num.inB_true.2 ⟨h1, h2⟩]
      go_enter Try.func71, Try.ntmps71
      go_wp2
      go_ret
      exact ⟨rfl, rfl⟩
    · rw [Num.inB_false.2 (fun h => h2 h.2)]
      go_enter Try.func71, Try.ntmps71
      go_wp2
      go_ret
      exact ⟨rfl, rfl⟩
  · rw [Num.inB_false.2 (fun h => h1 h.1)]
    go_enter Try.func71, Try.ntmps71
    go_wp2
    go_ret
    exact ⟨rfl, rfl⟩

end Go.Proofs.Ytkofafefnlommaa

/- The contracts of numOk (the program's) and of l1Right (the model's). -/
namespace Go.Proofs.Ytkofafefnlommaa
open Go.RowKit

theorem numOk (n : Int) (w : World) : Calls Try.prog 90 #[.int .i64 n] w fun e w' => e = .returned (.bool (Num.okB n)) ∧ w = w' := by
  by_cases h1 : -1000000000 ≤ n
  · by_cases h2 : n ≤ 1000000000
    · have e : Num.okB n = true := Num.okB_true.2 ⟨h1, h2⟩
      rw [e]
      go_enter Try.func90, Try.ntmps90
      go_wp2
      go_ret
      exact ⟨rfl, rfl⟩
    · have e : Num.okB n = false := Num.okB_false.2 (fun h => h2 h.2)
      rw [e]
      go_enter Try.func90, Try.ntmps90
      go_wp2
      go_ret
      exact ⟨rfl, rfl⟩
  · have e : Num.okB n = false := Num.okB_false.2 (fun h => h1 h.1)
    rw [e]
    go_enter Try.func90, Try.ntmps90
    go_wp2
    go_ret
    exact ⟨rfl, rfl⟩

theorem l1Right (n : Int) (w : World) : Calls Try.prog 87 #[.int .i64 n] w fun e w' => e = .returned (.bool (Num.okB n)) ∧ w = w' := by
  go_enter Try.func87, Try.ntmps87
  go_wp2_with (go_at_call 71; refine (l1In _ _ _ _).mono ?_; rintro e w' ⟨rfl, rfl⟩)
  go_ret
  exact ⟨rfl, rfl⟩

end Go.Proofs.Ytkofafefnlommaa

/- The contracts of chapter 1's functions on plain integers: numOk, l1In, l1Right, ZigZag and ZagZig, of the program and of the model. -/
namespace Go.Proofs.Ytkofafefnlommaa
open Go.RowKit

theorem zag_odd {n : Int} (h0 : 0 ≤ n) (h : n ≤ 2000000000) (h1 : n % 2 = 1) : Num.zag n = wrap64 (-(n + 1).tdiv 2) := by
  unfold Num.zag; rw [if_pos ⟨h0, h⟩, if_pos h1, Int.tdiv_eq_ediv_of_nonneg (by omega), IntWalk.wrap64_in _ (by omega)]
theorem zag_even {n : Int} (h0 : 0 ≤ n) (h : n ≤ 2000000000) (h1 : ¬ n % 2 = 1) : Num.zag n = n / 2 := by
  unfold Num.zag; rw [if_pos ⟨h0, h⟩, if_neg h1]
theorem zag_no {n : Int} (h : ¬ (0 ≤ n ∧ n ≤ 2000000000)) : Num.zag n = 0 := by unfold Num.zag; rw [if_neg h]

end Go.Proofs.Ytkofafefnlommaa

/- The contracts of the program's ownBytes, appendGroups, appendNums and PutNum, and of the model's PutNum. -/
namespace Go.Proofs.Ytkofafefnlommaa
open Go.RowKit

theorem take_snoc (l : List Int) (k : Nat) (h : k < l.length) : l.take (k + 1) = l.take k ++ [l.getD k 0] := by
  rw [List.take_succ_eq_append_getElem h]; simp [h]

theorem own_ne {e size lo hi w v n xs} {g m c : Nat} (h : Own e size lo hi w v n xs) (hg : hi ≤ g) : Value.ownBlock (.slice (some ⟨g, 0, none⟩) m c) ≠ v.ownBlock := by
  obtain ⟨g', cap, rfl, h1, h2, h3⟩ := h
  simp [Value.ownBlock]
  omega

end Go.Proofs.Ytkofafefnlommaa

/- The laws' own helpers over one Val: szVal, toVal, eqVal. -/
namespace Go.Proofs.Ytkofafefnlommaa
open Go.RowKit

/-- A Val as the machine holds it. -/
structure V where
  ty : Int
  n : Int
  s : ByteArray
abbrev V.agg (v : V) : Value := .agg #[.int .i64 v.ty, .int .i64 v.n, .string v.s]
def V.cs (v : V) : List Value := [.int .i64 v.ty, .int .i64 v.n, .string v.s]
def V.zero : V := ⟨0, 0, ⟨#[]⟩⟩

theorem below_alloc2 (w : World) (o p : Obj) : Below w.heap.size w ((w.alloc o).alloc p) := (below_alloc w o).alloc (by simp) p
theorem below_alloc3 (w : World) (o p q : Obj) : Below w.heap.size w (((w.alloc o).alloc p).alloc q) := (below_alloc2 w o p).alloc (by simp; omega) q

theorem toVal (v : V) (w : World) : Calls Try.prog 76 #[v.agg] w fun e w' => e = .returned v.agg ∧ Below w.heap.size w w' := by
  obtain ⟨t, n, s⟩ := v
  go_enter Try.func76, Try.ntmps76
  go_wp2
  exact bodyPost_ret (v := .agg #[.int .i64 t, .int .i64 n, .string s]) (by simp [results, Try.results76, go_sem]) rfl ⟨rfl, below_alloc3 _ _ _ _⟩

/-- What szVal leaves. -/
def szV (v : V) (left : Int) : Int := if left - v.s.size < 0 then -1 else left - v.s.size
theorem szVal (v : V) (left : Int) (w : World) (h0 : 0 ≤ left) (h1 : left ≤ 1048576) (hs : v.s.size ≤ maxLen) :
    Calls Try.prog 75 #[v.agg, .int .i64 left] w fun e w' => e = .returned (.int .i64 (szV v left)) ∧ Below w.heap.size w w' := by
  obtain ⟨t, n, s⟩ := v
  simp only at hs
  unfold maxLen at hs
  by_cases hlt : left - (s.size : Int) < 0
  · have HZ : Hid (szV ⟨t, n, s⟩ left = -1) := if_pos hlt
    go_enter Try.func75, Try.ntmps75
    go_wp2
    go_ret
    exact ⟨ret_int HZ.out.symm, below_alloc _ _⟩
  · have HZ : Hid (szV ⟨t, n, s⟩ left = left - s.size) := if_neg hlt
    go_enter Try.func75, Try.ntmps75
    go_wp2
    go_ret
    exact ⟨ret_int HZ.out.symm, below_alloc _ _⟩

theorem eqVal (v : V) (w : World) : Calls Try.prog 73 #[v.agg, v.agg] w fun e w' => e = .returned (.bool true) ∧ Below w.heap.size w w' := by
  obtain ⟨t, n, s⟩ := v
  have h1 : (t != t) = false := by simp
  have h2 : (n != n) = false := by simp
  go_enter Try.func73, Try.ntmps73
  go_wp2
  go_ret
  exact ⟨rfl, below_alloc2 _ _ _⟩

/-- The cells of a list of Vals. -/
def vals (l : List V) : List Value := l.flatMap V.cs
/-- A slice argument that reads as the cells xs, c of them an element. -/
def ArgS (c : Nat) (w : World) (a : Option Addr) (len : Nat) (xs : List Value) : Prop :=
  xs.length = len * c ∧ (len = 0 ∨ ∃ b off, a = some ⟨b, off, none⟩ ∧ ∀ j u, xs[j]? = some u → w.cell? ⟨b, off + j, none⟩ = some u)

theorem flat_get {α : Type} (f : α → List Value) (c : Nat) (hf : ∀ x, (f x).length = c) : ∀ (l : List α) (k j : Nat) (hk : k < l.length), j < c → (l.flatMap f)[k * c + j]? = (f l[k])[j]?
  | [], k, _, hk, _ => by simp at hk
  | x :: r, 0, j, _, hj => by
    rw [List.flatMap_cons, Nat.zero_mul, Nat.zero_add, List.getElem?_append_left (by rw [hf]; exact hj)]
    rfl
  | x :: r, k + 1, j, hk, hj => by
    rw [List.flatMap_cons, List.getElem?_append_right (by rw [hf, Nat.succ_mul]; omega), hf, show (k + 1) * c + j - c = k * c + j by rw [Nat.succ_mul]; omega]
    exact flat_get f c hf r k j (by simpa using hk) hj
theorem flat_len {α : Type} (f : α → List Value) (c : Nat) (hf : ∀ x, (f x).length = c) : ∀ l : List α, (l.flatMap f).length = l.length * c
  | [] => by simp
  | x :: r => by rw [List.flatMap_cons, List.length_append, hf, flat_len f c hf r, List.length_cons, Nat.succ_mul, Nat.add_comm]
theorem vals_len (l : List V) : (vals l).length = l.length * 3 := flat_len V.cs 3 (fun _ => rfl) l
theorem vals_get {l : List V} {k j : Nat} (hk : k < l.length) (hj : j < 3) : (vals l)[k * 3 + j]? = l[k].cs[j]? := flat_get V.cs 3 (fun _ => rfl) l k j hk hj
/-- The three cells of element k. -/
theorem cells3 {w : World} {b off : Nat} {l : List V} (hc : ∀ j u, (vals l)[j]? = some u → w.cell? ⟨b, off + j, none⟩ = some u) {k : Nat} (hk : k < l.length) :
    w.cell? ⟨b, off + k * 3, none⟩ = some (.int .i64 l[k].ty) ∧ w.cell? ⟨b, off + k * 3 + 1, none⟩ = some (.int .i64 l[k].n) ∧ w.cell? ⟨b, off + k * 3 + 2, none⟩ = some (.string l[k].s) :=
  ⟨hc (k * 3) _ (vals_get (j := 0) hk (by omega)), hc (k * 3 + 1) _ (vals_get (j := 1) hk (by omega)), hc (k * 3 + 2) _ (vals_get (j := 2) hk (by omega))⟩

/-- What the sizes of a list come to. -/
def bulk (l : List V) : Nat := (l.map fun v => v.s.size).sum
theorem bulk_take_succ (l : List V) (k : Nat) (h : k < l.length) : bulk (l.take (k + 1)) = bulk (l.take k) + l[k].s.size := by
  unfold bulk
  rw [List.take_succ_eq_append_getElem h, List.map_append, List.sum_append]
  rfl

set_option maxHeartbeats 400000 in
theorem szValS (a : Option Addr) (len cap : Nat) (l : List V) (left : Int) (w : World) (h0 : 0 ≤ left) (h1 : left ≤ 1048576) (hle : len ≤ maxLen) (hss : ∀ v ∈ l, v.s.size ≤ maxLen) (hl : l.length = len) (h : ArgS 3 w a len (vals l)) :
    Calls Try.prog 59 #[.slice a len cap, .int .i64 left] w fun e w' => ∃ r : Int, e = .returned (.int .i64 r) ∧ (r < 0 ∨ (0 ≤ r ∧ (len : Int) + bulk l ≤ left - r)) ∧ Below w.heap.size w w' := by
  unfold maxLen at hle
  by_cases hbig : left - (len : Int) < 0
  · go_enter Try.func59, Try.ntmps59
    go_wp2
    go_ret
    exact ⟨_, rfl, .inl (by omega), Below.refl _ _⟩
  · have HL := Lib.hid hl
    have HS := Lib.hid hss
    obtain ⟨_, h⟩ := h
    have HC : Hid (∀ k (hk : k < l.length) (W : World), Below w.heap.size w W → ∃ b off, a = some ⟨b, off, none⟩ ∧ W.cell? ⟨b, off + k * 3, none⟩ = some (.int .i64 l[k].ty) ∧ W.cell? ⟨b, off + k * 3 + 1, none⟩ = some (.int .i64 l[k].n) ∧ W.cell? ⟨b, off + k * 3 + 2, none⟩ = some (.string l[k].s)) := by
      intro k hk W hW
      rcases h with h | ⟨b, off, rfl, hc⟩
      · omega
      · have c3 := cells3 hc hk
        exact ⟨b, off, rfl, (hW.cell (p := ⟨b, off + k * 3, none⟩) (lt_of_cell c3.1)).trans c3.1, (hW.cell (p := ⟨b, off + k * 3 + 1, none⟩) (lt_of_cell c3.2.1)).trans c3.2.1, (hW.cell (p := ⟨b, off + k * 3 + 2, none⟩) (lt_of_cell c3.2.2)).trans c3.2.2⟩
    clear hl hss h
    go_enter Try.func59, Try.ntmps59
    go_wp2
    go_loopw [1, 5] (fun r i wr => ∃ (k : Nat) (z : Int), k ≤ len ∧ 0 ≤ z ∧ z ≤ left ∧ (len : Int) + bulk (l.take k) = left - z ∧ r = .int .i64 z ∧ i = .int .i64 k ∧ Below w.heap.size w wr) (fun _ i _ => len - (intOf i).toNat)
    case atStart => exact ⟨0, _, Nat.zero_le _, by omega, by omega, by simp [bulk]; omega, rfl, rfl, Below.refl _ _⟩
    case round =>
      obtain ⟨k, z, hk, hz0, hz1, hzb, rfl, rfl, hbr⟩ := hrel
      by_cases hkl : k < len
      · have hkl' : k < l.length := by rw [HL.out]; exact hkl
        obtain ⟨b, off, rfl, c0, c1, c2⟩ := HC.out k hkl' wr hbr
        have hsz := HS.out l[k] (List.getElem_mem hkl')
        have HB := Lib.hid (bulk_take_succ l k hkl')
        have HZ := Lib.hid (szVal l[k] z wr hz0 (by omega) hsz)
        generalize l[k] = v at c0 c1 c2 hsz HB HZ
        obtain ⟨t, n, s⟩ := v
        simp only at c0 c1 c2 hsz HB
        unfold maxLen at hsz
        by_cases hneg : z - (s.size : Int) < 0
        · have HE : Hid (szV ⟨t, n, s⟩ z = -1) := if_pos hneg
          rw [HE.out] at HZ
          go_wp2_with (go_at_call 75; refine HZ.out.mono ?_; rintro e w2 ⟨rfl, hb2⟩)
          go_ret
          exact ⟨_, rfl, .inl (by omega), below_then hbr hb2 hbr.size⟩
        · have HE : Hid (szV ⟨t, n, s⟩ z = z - s.size) := if_neg hneg
          rw [HE.out] at HZ
          go_wp2_with (go_at_call 75; refine HZ.out.mono ?_; rintro e w2 ⟨rfl, hb2⟩)
          go_roundw
          case rel => exact ⟨k + 1, _, by omega, by omega, by omega, by rw [HB.out]; omega, rfl, by go_num, below_then hbr hb2 hbr.size⟩
          case measure => simp [intOf]; omega
      · obtain rfl : k = len := by omega
        go_wp2
        go_ret
        refine ⟨_, rfl, .inr ⟨hz0, ?_⟩, hbr⟩
        rw [← HL.out, List.take_length] at hzb
        rw [← HL.out]
        omega

end Go.Proofs.Ytkofafefnlommaa

/- Slices that are read, nil ones too. -/
namespace Go.Proofs.Ytkofafefnlommaa
open Go.RowKit

theorem ArgS.below {c : Nat} {w w' : World} {a : Option Addr} {len : Nat} {xs : List Value} (h : ArgS c w a len xs) (hb : Below w.heap.size w w') : ArgS c w' a len xs := by
  refine ⟨h.1, h.2.imp id ?_⟩
  rintro ⟨b, off, rfl, hc⟩
  exact ⟨b, off, rfl, fun j u hu => (hb.cell (p := ⟨b, off + j, none⟩) (lt_of_cell (hc j u hu))).trans (hc j u hu)⟩

/-- u is a slice of n elements, nil or not, that reads as the cells xs, c of them an element. -/
def Rd (c : Nat) (w : World) (u : Value) (n : Nat) (xs : List Value) : Prop := ∃ a cap, u = .slice a n cap ∧ n ≤ maxLen ∧ ArgS c w a n xs
theorem Rd.below {c : Nat} {w w' : World} {u : Value} {n : Nat} {xs : List Value} (h : Rd c w u n xs) (hb : Below w.heap.size w w') : Rd c w' u n xs := by
  obtain ⟨a, cap, rfl, hn, hx⟩ := h
  exact ⟨a, cap, rfl, hn, hx.below hb⟩
theorem Rd.len {c : Nat} {w : World} {u : Value} {n : Nat} {xs : List Value} (h : Rd c w u n xs) : n ≤ maxLen := by
  obtain ⟨a, cap, rfl, hn, hx⟩ := h
  exact hn
theorem Rd.of_arg {c : Nat} {w : World} {a : Option Addr} {n cap : Nat} {xs : List Value} (hn : n ≤ maxLen) (h : ArgS c w a n xs) : Rd c w (.slice a n cap) n xs := ⟨a, cap, rfl, hn, h⟩
theorem At.rd {c : Nat} {w : World} {u : Value} {n : Nat} {xs : List Value} (h : At c w u n xs) : Rd c w u n xs := by
  obtain ⟨b, off, cap, rfl, h1, h2, h3, h4⟩ := h
  exact ⟨_, _, rfl, Nat.le_trans h1 h2, h3, .inr ⟨b, off, rfl, h4⟩⟩
theorem AtN.rd {c : Nat} {w : World} {u : Value} {n : Nat} {xs : List Value} (h : AtN c w u n xs) : Rd c w u n xs := by
  rcases h with ⟨rfl, rfl, rfl⟩ | h
  · exact ⟨_, _, rfl, Nat.zero_le _, by simp, .inl rfl⟩
  · exact h.rd
theorem Own.rd {e size lo hi w v n xs} (h : Own e size lo hi w v n xs) : Rd size w v n xs := h.at.rd
/-- The slice of Vals, for a walk: its k-th element. -/
theorem Rd.vals {w : World} {u : Value} {n : Nat} {l : List V} (h : Rd 3 w u n (vals l)) (hl : l.length = n) :
    ∃ a cap, u = .slice a n cap ∧ n ≤ maxLen ∧ Hid (∀ k, k < n → ∃ b off, a = some ⟨b, off, none⟩ ∧ w.cell? ⟨b, off + k * 3, none⟩ = some (.int .i64 (l.getD k V.zero).ty) ∧ w.cell? ⟨b, off + k * 3 + 1, none⟩ = some (.int .i64 (l.getD k V.zero).n) ∧ w.cell? ⟨b, off + k * 3 + 2, none⟩ = some (.string (l.getD k V.zero).s)) := by
  obtain ⟨a, cap, rfl, hn, _, hx⟩ := h
  refine ⟨a, cap, rfl, hn, fun k hk => ?_⟩
  rcases hx with h0 | ⟨b, off, rfl, hc⟩
  · omega
  · have hk' : k < l.length := by omega
    have e : l.getD k V.zero = l[k] := by simp [hk']
    rw [e]
    exact ⟨b, off, rfl, cells3 hc hk'⟩
/-- The slice of integers, for a walk: its k-th element. -/
theorem Rd.ints {kd : IntKind} {w : World} {u : Value} {n : Nat} {zs : List Int} (h : Rd 1 w u n (ints kd zs)) (hl : zs.length = n) :
    ∃ a cap, u = .slice a n cap ∧ n ≤ maxLen ∧ Hid (∀ k, k < n → ∃ b off, a = some ⟨b, off, none⟩ ∧ w.cell? ⟨b, off + k, none⟩ = some (.int kd (zs.getD k 0))) := by
  obtain ⟨a, cap, rfl, hn, _, hx⟩ := h
  refine ⟨a, cap, rfl, hn, fun k hk => ?_⟩
  rcases hx with h0 | ⟨b, off, rfl, hc⟩
  · omega
  · exact ⟨b, off, rfl, hc k _ (ints_get (by omega))⟩

/-- Only blocks from lo to hi have changed. -/
def Within (lo hi : Nat) (w w' : World) : Prop := w'.os = w.os ∧ w'.tape = w.tape ∧ w'.output = w.output ∧ w.heap.size ≤ w'.heap.size ∧ ∀ j, j < w.heap.size → (j < lo ∨ hi ≤ j) → w'.heap[j]? = w.heap[j]?
theorem Within.refl (lo hi : Nat) (w : World) : Within lo hi w w := ⟨rfl, rfl, rfl, Nat.le_refl _, fun _ _ _ => rfl⟩
theorem Within.of_grown {lo hi : Nat} {w w' : World} {row : Option Nat} (h : w.grownBy w' row) (hr : ∀ g, row = some g → lo ≤ g ∧ g < hi) : Within lo hi w w' :=
  ⟨h.os, h.tape, h.output, h.size, fun j hj hjr => h.block j hj (fun e => by have := hr j e.symm; omega)⟩
theorem Within.trans {lo hi : Nat} {w w' w'' : World} (h : Within lo hi w w') (k : Within lo hi w' w'') : Within lo hi w w'' :=
  ⟨k.1.trans h.1, k.2.1.trans h.2.1, k.2.2.1.trans h.2.2.1, Nat.le_trans h.2.2.2.1 k.2.2.2.1, fun j hj hr => (k.2.2.2.2 j (Nat.lt_of_lt_of_le hj h.2.2.2.1) hr).trans (h.2.2.2.2 j hj hr)⟩
theorem Within.below {lo hi B : Nat} {w w' : World} (h : Within lo hi w w') (hB : B ≤ lo) (hs : B ≤ w.heap.size) : Below B w w' :=
  ⟨h.1, h.2.1, h.2.2.1, h.2.2.2.1, fun k hk => h.2.2.2.2 k (by omega) (.inl (by omega))⟩

theorem Own.other {e size lo hi w w' v n xs} {row : Option Nat} (h : Own e size lo hi w v n xs) (hg : w.grownBy w' row) (hne : row ≠ v.ownBlock) : Own e size lo hi w' v n xs := by
  obtain ⟨g, cap, rfl, h1, h2, h3⟩ := h
  exact ⟨g, cap, rfl, h1, h2, h3.kept hg (Or.inr fun e => hne e.symm)⟩
theorem Own.within {e size lo hi lo' hi' w w' v n xs} (h : Own e size lo hi w v n xs) (hw : Within lo' hi' w w') (hr : hi ≤ lo' ∨ hi' ≤ lo) : Own e size lo hi w' v n xs := by
  obtain ⟨g, cap, rfl, h1, h2, h3⟩ := h
  have hlt := (h3.lt g rfl).2
  obtain ⟨h4, h5⟩ := h3
  refine ⟨g, cap, rfl, h1, h2, h4, ?_⟩
  rcases h5 with ⟨h', _⟩ | ⟨g', cap', cur, h', hbg, hg, r⟩
  · simp at h'
  · simp only [Value.slice.injEq, Option.some.injEq, Addr.mk.injEq, and_true, true_and] at h'
    obtain ⟨rfl, rfl⟩ := h'
    exact .inr ⟨g, cap, cur, rfl, hbg, (hw.2.2.2.2 g hlt (by omega)).trans hg, r⟩
theorem Own.blocks_ne {e e' size size' lo hi lo' hi' w v v' n n' xs xs'} (h : Own e size lo hi w v n xs) (k : Own e' size' lo' hi' w v' n' xs') (hne : e ≠ e') : v.ownBlock ≠ v'.ownBlock := by
  obtain ⟨g, cap, rfl, _, _, _, h5⟩ := h
  obtain ⟨g', cap', rfl, _, _, _, k5⟩ := k
  rcases h5 with ⟨h', _⟩ | ⟨_, _, cur, h', _, hg, _⟩
  · simp at h'
  rcases k5 with ⟨k', _⟩ | ⟨_, _, cur', k', _, kg, _⟩
  · simp at k'
  simp only [Value.slice.injEq, Option.some.injEq, Addr.mk.injEq, and_true, true_and] at h' k'
  obtain ⟨rfl, rfl⟩ := h'
  obtain ⟨rfl, rfl⟩ := k'
  intro e0
  simp only [Value.ownBlock, Option.some.injEq] at e0
  subst e0
  rw [hg] at kg
  simp only [Option.some.injEq, Obj.cells.injEq] at kg
  exact hne kg.2.1

/-- append(s, x): x, a Val, has just been laid in a block of its own. -/
theorem appendV_law {P : Program} {t e : TypeId} {z : Value} {bytes : Nat} (T : ElemT P t e z 3 bytes) {w : World} {ops : Array Oper} {rest : List Oper} {o : Oper} {a : Act} {Q : Exit → Act → World → Prop} (hgd : o.guard = none) (s x : Operand)
    (ho : o.op = .call { callee := .builtin .append, args := #[s, x], argTypes := #[t, t] })
    (lo hi : Nat) (v : Value) (n : Nat) (xs : List Value) (u : V) (hs : a.eval s = v) (hown : Own e 3 lo hi w v n xs)
    (hx : a.eval x = .slice (some ⟨w.heap.size, 0, none⟩) 1 1)
    (h63 : n + 1 ≤ maxLen) (hbytes : (n + 1) * bytes ≤ 140737488355328)
    (h : ∀ v' w', Own e 3 lo w'.heap.size w' v' (n + 1) (xs ++ u.cs) → Ext w w' v v' → wpList P ops Q rest (a.put o.dst v') w') : wpList P ops Q (o :: rest) a (w.alloc (.cells #[.int .i64 u.ty, .int .i64 u.n, .string u.s] e)) := by
  refine append_law T hgd s x ho lo hi v n xs hs (hown.alloc _) w.heap.size 0 1 1 u.cs hx rfl ?_ ?_ h63 hbytes (fun v' w' h1 h2 => h v' w' h1 ((Ext.alloc v _).trans h2))
  · intro j y hj
    match j, hj with
    | 0, hj => simp [V.cs] at hj; subst hj; simp
    | 1, hj => simp [V.cs] at hj; subst hj; simp
    | 2, hj => simp [V.cs] at hj; subst hj; simp
    | j + 3, hj => simp [V.cs] at hj
  · intro y hy
    simp [V.cs] at hy
    rcases hy with rfl | rfl | rfl <;> rfl

/-- Two lists, element by element. -/
def all2 {α β : Type} (f : α → β → Bool) : List α → List β → Bool
  | [], [] => true
  | a :: l, b :: r => f a b && all2 f l r
  | _, _ => false
theorem all2_len {α β : Type} {f : α → β → Bool} {l : List α} {r : List β} (h : l.length ≠ r.length) : all2 f l r = false := by
  induction l generalizing r with
  | nil => cases r with
    | nil => simp at h
    | cons => rfl
  | cons a l ih => cases r with
    | nil => rfl
    | cons b r => rw [all2, ih (by simpa using h), Bool.and_false]
theorem all2_all {α β : Type} {f : α → β → Bool} {l : List α} {r : List β} (x : α) (y : β) (hn : l.length = r.length) (h : ∀ k, k < l.length → f (l.getD k x) (r.getD k y) = true) : all2 f l r = true := by
  induction l generalizing r with
  | nil => cases r with
    | nil => rfl
    | cons => simp at hn
  | cons a l ih => cases r with
    | nil => simp at hn
    | cons b r =>
      rw [all2, ih (by simpa using hn) (fun k hk => by simpa using h (k + 1) (by simpa using hk)), Bool.and_true]
      simpa using h 0 (by simp)
theorem all2_no {α β : Type} {f : α → β → Bool} {l : List α} {r : List β} (x : α) (y : β) {k : Nat} (hk : k < l.length) (hn : l.length = r.length) (h : f (l.getD k x) (r.getD k y) = false) : all2 f l r = false := by
  induction l generalizing r k with
  | nil => simp at hk
  | cons a l ih => cases r with
    | nil => simp at hn
    | cons b r =>
      cases k with
      | zero =>
        simp only [List.getD_cons_zero] at h
        rw [all2, h, Bool.false_and]
      | succ k => rw [all2, ih (k := k) (by simpa using hk) (by simpa using hn) (by simpa using h), Bool.and_false]

end Go.Proofs.Ytkofafefnlommaa

/- A Val in a block of the call's own. -/
namespace Go.Proofs.Ytkofafefnlommaa
open Go.RowKit

/-- A Val in a block of the call's own. -/
def Held (W : World) (b : Nat) (v : V) : Prop :=
  (W.cell? ⟨b, 0, none⟩ = some (.int .i64 v.ty) ∧ W.cell? ⟨b, 1, none⟩ = some (.int .i64 v.n) ∧ W.cell? ⟨b, 2, none⟩ = some (.string v.s)) ∧
  W.frozen? ⟨b, 0, none⟩ = false ∧ W.frozen? ⟨b, 1, none⟩ = false ∧ W.frozen? ⟨b, 2, none⟩ = false
theorem Held.below {W W' : World} {b : Nat} {v : V} (h : Held W b v) (hb : Below W.heap.size W W') : Held W' b v := by
  have hlt := lt_of_cell h.1.1
  exact ⟨⟨(hb.cell (p := ⟨b, 0, none⟩) hlt).trans h.1.1, (hb.cell (p := ⟨b, 1, none⟩) hlt).trans h.1.2.1, (hb.cell (p := ⟨b, 2, none⟩) hlt).trans h.1.2.2⟩,
    (hb.frozen (p := ⟨b, 0, none⟩) hlt).trans h.2.1, (hb.frozen (p := ⟨b, 1, none⟩) hlt).trans h.2.2.1, (hb.frozen (p := ⟨b, 2, none⟩) hlt).trans h.2.2.2⟩
theorem held_new (w : World) (v : V) (e : TypeId) : Held (w.alloc (.cells #[.int .i64 v.ty, .int .i64 v.n, .string v.s] e)) w.heap.size v :=
  ⟨⟨by simp, by simp, by simp⟩, by simp, by simp, by simp⟩

theorem Held.other {W : World} {b : Nat} {v : V} (h : Held W b v) {p : Addr} (hp : p.block ≠ b) (u : Value) : Held (W.setCell p u) b v := by
  have hne : ∀ o, p ≠ ⟨b, o, none⟩ := fun o e => hp (by rw [e])
  refine ⟨⟨?_, ?_, ?_⟩, ?_, ?_, ?_⟩
  · rw [World.cell?_setCell_other _ _ _ _ (hne 0)]; exact h.1.1
  · rw [World.cell?_setCell_other _ _ _ _ (hne 1)]; exact h.1.2.1
  · rw [World.cell?_setCell_other _ _ _ _ (hne 2)]; exact h.1.2.2
  · rw [World.frozen?_setCell]; exact h.2.1
  · rw [World.frozen?_setCell]; exact h.2.2.1
  · rw [World.frozen?_setCell]; exact h.2.2.2
theorem Held.setN {W : World} {b : Nat} {v : V} (h : Held W b v) (n : Int) : Held (W.setCell ⟨b, 1, none⟩ (.int .i64 n)) b ⟨v.ty, n, v.s⟩ := by
  refine ⟨⟨?_, ?_, ?_⟩, ?_, ?_, ?_⟩
  · rw [World.cell?_setCell_other _ _ _ _ (by simp)]; exact h.1.1
  · exact World.cell?_setCell_same _ _ _ h.1.2.1
  · rw [World.cell?_setCell_other _ _ _ _ (by simp)]; exact h.1.2.2
  · rw [World.frozen?_setCell]; exact h.2.1
  · rw [World.frozen?_setCell]; exact h.2.2.1
  · rw [World.frozen?_setCell]; exact h.2.2.2

end Go.Proofs.Ytkofafefnlommaa
