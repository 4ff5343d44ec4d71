/- Texts of this claim, one behind the other: In, VTo, Rd, NumOk, Zig, Put, Get, HeldV, Puts. -/
import Derived.Test.YtkofafefnlommaaGreatRows
import Derived.Test.YtkofafefnlommaaGreatP1
import Derived.Test.YtkofafefnlommaaGreatP4
import Derived.WalkKit
import Derived.WalkSpells
import Derived.Lib.Hide
import Derived.OpenShut

/- The contract of the model's l1In. -/
namespace Go.Proofs.YtkofafefnlommaaGreat
open Go.RowKit

theorem bytes_of_wf {zs : List Int} (h : ∀ n ∈ zs, (Lit.int .u8 n).wf = true) : Num.Bytes zs := fun x hx => bounds_u8 (h x hx)

theorem l1In (x a b : Int) (w : World) : Calls Tryz.prog 61 #[.int .i64 x, .int .i64 a, .int .i64 b] w fun e w' => e = .returned (.bool (Num.inB x a b)) ∧ w = w' := by
  by_cases h1 : a ≤ x
  · by_cases h2 : x ≤ b
    · rw [Num.inB_true.2 ⟨h1, h2⟩]
      go_enter Tryz.func61, Tryz.ntmps61
      go_wp2
      go_ret
      exact ⟨rfl, rfl⟩
    · rw [Num.inB_false.2 (fun h => h2 h.2)]
      go_enter Tryz.func61, Tryz.ntmps61
      go_wp2
      go_ret
      exact ⟨rfl, rfl⟩
  · rw [Num.inB_false.2 (fun h => h1 h.1)]
    go_enter Tryz.func61, Tryz.ntmps61
    go_wp2
    go_ret
    exact ⟨rfl, rfl⟩

end Go.Proofs.YtkofafefnlommaaGreat

/- The laws' own helpers over one Val: szVal, toVal, eqVal. -/
namespace Go.Proofs.YtkofafefnlommaaGreat
open Go.RowKit

/-- A Val as the machine holds it. -/
structure V where
  ty : Int
  n : Int
  s : ByteArray
abbrev V.agg (v : V) : Value := .agg #[.int .i64 v.ty, .int .i64 v.n, .string v.s]
def V.cs (v : V) : List Value := [.int .i64 v.ty, .int .i64 v.n, .string v.s]
def V.zero : V := ⟨0, 0, ⟨#[]⟩⟩

theorem below_alloc2 (w : World) (o p : Obj) : Below w.heap.size w ((w.alloc o).alloc p) := (below_alloc w o).alloc (by simp) p
theorem below_alloc3 (w : World) (o p q : Obj) : Below w.heap.size w (((w.alloc o).alloc p).alloc q) := (below_alloc2 w o p).alloc (by simp; omega) q

theorem toVal (v : V) (w : World) : Calls Tryz.prog 124 #[v.agg] w fun e w' => e = .returned v.agg ∧ Below w.heap.size w w' := by
  obtain ⟨t, n, s⟩ := v
  go_enter Tryz.func124, Tryz.ntmps124
  go_wp2
  exact bodyPost_ret (v := .agg #[.int .i64 t, .int .i64 n, .string s]) (by simp [results, Tryz.results124, go_sem]) rfl ⟨rfl, below_alloc3 _ _ _ _⟩

/-- What szVal leaves. -/
def szV (v : V) (left : Int) : Int := if left - v.s.size < 0 then -1 else left - v.s.size
theorem szVal (v : V) (left : Int) (w : World) (h0 : 0 ≤ left) (h1 : left ≤ 1048576) (hs : v.s.size ≤ maxLen) :
    Calls Tryz.prog 123 #[v.agg, .int .i64 left] w fun e w' => e = .returned (.int .i64 (szV v left)) ∧ Below w.heap.size w w' := by
  obtain ⟨t, n, s⟩ := v
  simp only at hs
  unfold maxLen at hs
  by_cases hlt : left - (s.size : Int) < 0
  · have HZ : Hid (szV ⟨t, n, s⟩ left = -1) := if_pos hlt
    go_enter Tryz.func123, Tryz.ntmps123
    go_wp2
    go_ret
    exact ⟨ret_int HZ.out.symm, below_alloc _ _⟩
  · have HZ : Hid (szV ⟨t, n, s⟩ left = left - s.size) := if_neg hlt
    go_enter Tryz.func123, Tryz.ntmps123
    go_wp2
    go_ret
    exact ⟨ret_int HZ.out.symm, below_alloc _ _⟩

theorem eqVal (v : V) (w : World) : Calls Tryz.prog 125 #[v.agg, v.agg] w fun e w' => e = .returned (.bool true) ∧ Below w.heap.size w w' := by
  obtain ⟨t, n, s⟩ := v
  have h1 : (t != t) = false := by simp
  have h2 : (n != n) = false := by simp
  go_enter Tryz.func125, Tryz.ntmps125
  go_wp2
  go_ret
  exact ⟨rfl, below_alloc2 _ _ _⟩

/-- The cells of a list of Vals. -/
def vals (l : List V) : List Value := l.flatMap V.cs
/-- A slice argument that reads as the cells xs, c of them an element. -/
def ArgS (c : Nat) (w : World) (a : Option Addr) (len : Nat) (xs : List Value) : Prop :=
  xs.length = len * c ∧ (len = 0 ∨ ∃ b off, a = some ⟨b, off, none⟩ ∧ ∀ j u, xs[j]? = some u → w.cell? ⟨b, off + j, none⟩ = some u)

theorem flat_get {α : Type} (f : α → List Value) (c : Nat) (hf : ∀ x, (f x).length = c) : ∀ (l : List α) (k j : Nat) (hk : k < l.length), j < c → (l.flatMap f)[k * c + j]? = (f l[k])[j]?
  | [], k, _, hk, _ => by simp at hk
  | x :: r, 0, j, _, hj => by
    rw [List.flatMap_cons, Nat.zero_mul, Nat.zero_add, List.getElem?_append_left (by rw [hf]; exact hj)]
    rfl
  | x :: r, k + 1, j, hk, hj => by
    rw [List.flatMap_cons, List.getElem?_append_right (by rw [hf, Nat.succ_mul]; omega), hf, show (k + 1) * c + j - c = k * c + j by rw [Nat.succ_mul]; omega]
    exact flat_get f c hf r k j (by simpa using hk) hj
theorem flat_len {α : Type} (f : α → List Value) (c : Nat) (hf : ∀ x, (f x).length = c) : ∀ l : List α, (l.flatMap f).length = l.length * c
  | [] => by simp
  | x :: r => by rw [List.flatMap_cons, List.length_append, hf, flat_len f c hf r, List.length_cons, Nat.succ_mul, Nat.add_comm]
theorem vals_len (l : List V) : (vals l).length = l.length * 3 := flat_len V.cs 3 (fun _ => rfl) l
theorem vals_get {l : List V} {k j : Nat} (hk : k < l.length) (hj : j < 3) : (vals l)[k * 3 + j]? = l[k].cs[j]? := flat_get V.cs 3 (fun _ => rfl) l k j hk hj
/-- The three cells of element k. -/
theorem cells3 {w : World} {b off : Nat} {l : List V} (hc : ∀ j u, (vals l)[j]? = some u → w.cell? ⟨b, off + j, none⟩ = some u) {k : Nat} (hk : k < l.length) :
    w.cell? ⟨b, off + k * 3, none⟩ = some (.int .i64 l[k].ty) ∧ w.cell? ⟨b, off + k * 3 + 1, none⟩ = some (.int .i64 l[k].n) ∧ w.cell? ⟨b, off + k * 3 + 2, none⟩ = some (.string l[k].s) :=
  ⟨hc (k * 3) _ (vals_get (j := 0) hk (by omega)), hc (k * 3 + 1) _ (vals_get (j := 1) hk (by omega)), hc (k * 3 + 2) _ (vals_get (j := 2) hk (by omega))⟩

/-- What the sizes of a list come to. -/
def bulk (l : List V) : Nat := (l.map fun v => v.s.size).sum
theorem bulk_take_succ (l : List V) (k : Nat) (h : k < l.length) : bulk (l.take (k + 1)) = bulk (l.take k) + l[k].s.size := by
  unfold bulk
  rw [List.take_succ_eq_append_getElem h, List.map_append, List.sum_append]
  rfl

set_option maxHeartbeats 400000 in
theorem szValS (a : Option Addr) (len cap : Nat) (l : List V) (left : Int) (w : World) (h0 : 0 ≤ left) (h1 : left ≤ 1048576) (hle : len ≤ maxLen) (hss : ∀ v ∈ l, v.s.size ≤ maxLen) (hl : l.length = len) (h : ArgS 3 w a len (vals l)) :
    Calls Tryz.prog 94 #[.slice a len cap, .int .i64 left] w fun e w' => ∃ r : Int, e = .returned (.int .i64 r) ∧ (r < 0 ∨ (0 ≤ r ∧ (len : Int) + bulk l ≤ left - r)) ∧ Below w.heap.size w w' := by
  unfold maxLen at hle
  by_cases hbig : left - (len : Int) < 0
  · go_enter Tryz.func94, Tryz.ntmps94
    go_wp2
    go_ret
    exact ⟨_, rfl, .inl (by omega), Below.refl _ _⟩
  · have HL := Lib.hid hl
    have HS := Lib.hid hss
    obtain ⟨_, h⟩ := h
    have HC : Hid (∀ k (hk : k < l.length) (W : World), Below w.heap.size w W → ∃ b off, a = some ⟨b, off, none⟩ ∧ W.cell? ⟨b, off + k * 3, none⟩ = some (.int .i64 l[k].ty) ∧ W.cell? ⟨b, off + k * 3 + 1, none⟩ = some (.int .i64 l[k].n) ∧ W.cell? ⟨b, off + k * 3 + 2, none⟩ = some (.string l[k].s)) := by
      intro k hk W hW
      rcases h with h | ⟨b, off, rfl, hc⟩
      · omega
      · have c3 := cells3 hc hk
        exact ⟨b, off, rfl, (hW.cell (p := ⟨b, off + k * 3, none⟩) (lt_of_cell c3.1)).trans c3.1, (hW.cell (p := ⟨b, off + k * 3 + 1, none⟩) (lt_of_cell c3.2.1)).trans c3.2.1, (hW.cell (p := ⟨b, off + k * 3 + 2, none⟩) (lt_of_cell c3.2.2)).trans c3.2.2⟩
    clear hl hss h
    go_enter Tryz.func94, Tryz.ntmps94
    go_wp2
    go_loopw [1, 5] (fun r i wr => ∃ (k : Nat) (z : Int), k ≤ len ∧ 0 ≤ z ∧ z ≤ left ∧ (len : Int) + bulk (l.take k) = left - z ∧ r = .int .i64 z ∧ i = .int .i64 k ∧ Below w.heap.size w wr) (fun _ i _ => len - (intOf i).toNat)
    case atStart => exact ⟨0, _, Nat.zero_le _, by omega, by omega, by simp [bulk]; omega, rfl, rfl, Below.refl _ _⟩
    case round =>
      obtain ⟨k, z, hk, hz0, hz1, hzb, rfl, rfl, hbr⟩ := hrel
      by_cases hkl : k < len
      · have hkl' : k < l.length := by rw [HL.out]; exact hkl
        obtain ⟨b, off, rfl, c0, c1, c2⟩ := HC.out k hkl' wr hbr
        have hsz := HS.out l[k] (List.getElem_mem hkl')
        have HB := Lib.hid (bulk_take_succ l k hkl')
        have HZ := Lib.hid (szVal l[k] z wr hz0 (by omega) hsz)
        generalize l[k] = v at c0 c1 c2 hsz HB HZ
        obtain ⟨t, n, s⟩ := v
        simp only at c0 c1 c2 hsz HB
        unfold maxLen at hsz
        by_cases hneg : z - (s.size : Int) < 0
        · have HE : Hid (szV ⟨t, n, s⟩ z = -1) := if_pos hneg
          rw [HE.out] at HZ
          go_wp2_with (go_at_call 123; refine HZ.out.mono ?_; rintro e w2 ⟨rfl, hb2⟩)
          go_ret
          exact ⟨_, rfl, .inl (by omega), below_then hbr hb2 hbr.size⟩
        · have HE : Hid (szV ⟨t, n, s⟩ z = z - s.size) := if_neg hneg
          rw [HE.out] at HZ
          go_wp2_with (go_at_call 123; refine HZ.out.mono ?_; rintro e w2 ⟨rfl, hb2⟩)
          go_roundw
          case rel => exact ⟨k + 1, _, by omega, by omega, by omega, by rw [HB.out]; omega, rfl, by go_num, below_then hbr hb2 hbr.size⟩
          case measure => simp [intOf]; omega
      · obtain rfl : k = len := by omega
        go_wp2
        go_ret
        refine ⟨_, rfl, .inr ⟨hz0, ?_⟩, hbr⟩
        rw [← HL.out, List.take_length] at hzb
        rw [← HL.out]
        omega

end Go.Proofs.YtkofafefnlommaaGreat

/- Slices that are read, nil ones too. -/
namespace Go.Proofs.YtkofafefnlommaaGreat
open Go.RowKit

theorem ArgS.below {c : Nat} {w w' : World} {a : Option Addr} {len : Nat} {xs : List Value} (h : ArgS c w a len xs) (hb : Below w.heap.size w w') : ArgS c w' a len xs := by
  refine ⟨h.1, h.2.imp id ?_⟩
  rintro ⟨b, off, rfl, hc⟩
  exact ⟨b, off, rfl, fun j u hu => (hb.cell (p := ⟨b, off + j, none⟩) (lt_of_cell (hc j u hu))).trans (hc j u hu)⟩

/-- u is a slice of n elements, nil or not, that reads as the cells xs, c of them an element. -/
def Rd (c : Nat) (w : World) (u : Value) (n : Nat) (xs : List Value) : Prop := ∃ a cap, u = .slice a n cap ∧ n ≤ maxLen ∧ ArgS c w a n xs
theorem Rd.below {c : Nat} {w w' : World} {u : Value} {n : Nat} {xs : List Value} (h : Rd c w u n xs) (hb : Below w.heap.size w w') : Rd c w' u n xs := by
  obtain ⟨a, cap, rfl, hn, hx⟩ := h
  exact ⟨a, cap, rfl, hn, hx.below hb⟩
theorem Rd.len {c : Nat} {w : World} {u : Value} {n : Nat} {xs : List Value} (h : Rd c w u n xs) : n ≤ maxLen := by
  obtain ⟨a, cap, rfl, hn, hx⟩ := h
  exact hn
theorem Rd.of_arg {c : Nat} {w : World} {a : Option Addr} {n cap : Nat} {xs : List Value} (hn : n ≤ maxLen) (h : ArgS c w a n xs) : Rd c w (.slice a n cap) n xs := ⟨a, cap, rfl, hn, h⟩
theorem At.rd {c : Nat} {w : World} {u : Value} {n : Nat} {xs : List Value} (h : At c w u n xs) : Rd c w u n xs := by
  obtain ⟨b, off, cap, rfl, h1, h2, h3, h4⟩ := h
  exact ⟨_, _, rfl, Nat.le_trans h1 h2, h3, .inr ⟨b, off, rfl, h4⟩⟩
theorem AtN.rd {c : Nat} {w : World} {u : Value} {n : Nat} {xs : List Value} (h : AtN c w u n xs) : Rd c w u n xs := by
  rcases h with ⟨rfl, rfl, rfl⟩ | h
  · exact ⟨_, _, rfl, Nat.zero_le _, by simp, .inl rfl⟩
  · exact h.rd
theorem Own.rd {e size lo hi w v n xs} (h : Own e size lo hi w v n xs) : Rd size w v n xs := h.at.rd
/-- The slice of Vals, for a walk: its k-th element. -/
theorem Rd.vals {w : World} {u : Value} {n : Nat} {l : List V} (h : Rd 3 w u n (vals l)) (hl : l.length = n) :
    ∃ a cap, u = .slice a n cap ∧ n ≤ maxLen ∧ Hid (∀ k, k < n → ∃ b off, a = some ⟨b, off, none⟩ ∧ w.cell? ⟨b, off + k * 3, none⟩ = some (.int .i64 (l.getD k V.zero).ty) ∧ w.cell? ⟨b, off + k * 3 + 1, none⟩ = some (.int .i64 (l.getD k V.zero).n) ∧ w.cell? ⟨b, off + k * 3 + 2, none⟩ = some (.string (l.getD k V.zero).s)) := by
  obtain ⟨a, cap, rfl, hn, _, hx⟩ := h
  refine ⟨a, cap, rfl, hn, fun k hk => ?_⟩
  rcases hx with h0 | ⟨b, off, rfl, hc⟩
  · omega
  · have hk' : k < l.length := by omega
    have e : l.getD k V.zero = l[k] := by simp [hk']
    rw [e]
    exact ⟨b, off, rfl, cells3 hc hk'⟩
/-- The slice of integers, for a walk: its k-th element. -/
theorem Rd.ints {kd : IntKind} {w : World} {u : Value} {n : Nat} {zs : List Int} (h : Rd 1 w u n (ints kd zs)) (hl : zs.length = n) :
    ∃ a cap, u = .slice a n cap ∧ n ≤ maxLen ∧ Hid (∀ k, k < n → ∃ b off, a = some ⟨b, off, none⟩ ∧ w.cell? ⟨b, off + k, none⟩ = some (.int kd (zs.getD k 0))) := by
  obtain ⟨a, cap, rfl, hn, _, hx⟩ := h
  refine ⟨a, cap, rfl, hn, fun k hk => ?_⟩
  rcases hx with h0 | ⟨b, off, rfl, hc⟩
  · omega
  · exact ⟨b, off, rfl, hc k _ (ints_get (by omega))⟩

/-- Only blocks from lo to hi have changed. -/
def Within (lo hi : Nat) (w w' : World) : Prop := w'.os = w.os ∧ w'.tape = w.tape ∧ w'.output = w.output ∧ w.heap.size ≤ w'.heap.size ∧ ∀ j, j < w.heap.size → (j < lo ∨ hi ≤ j) → w'.heap[j]? = w.heap[j]?
theorem Within.refl (lo hi : Nat) (w : World) : Within lo hi w w := ⟨rfl, rfl, rfl, Nat.le_refl _, fun _ _ _ => rfl⟩
theorem Within.of_grown {lo hi : Nat} {w w' : World} {row : Option Nat} (h : w.grownBy w' row) (hr : ∀ g, row = some g → lo ≤ g ∧ g < hi) : Within lo hi w w' :=
  ⟨h.os, h.tape, h.output, h.size, fun j hj hjr => h.block j hj (fun e => by have := hr j e.symm; omega)⟩
theorem Within.trans {lo hi : Nat} {w w' w'' : World} (h : Within lo hi w w') (k : Within lo hi w' w'') : Within lo hi w w'' :=
  ⟨k.1.trans h.1, k.2.1.trans h.2.1, k.2.2.1.trans h.2.2.1, Nat.le_trans h.2.2.2.1 k.2.2.2.1, fun j hj hr => (k.2.2.2.2 j (Nat.lt_of_lt_of_le hj h.2.2.2.1) hr).trans (h.2.2.2.2 j hj hr)⟩
theorem Within.below {lo hi B : Nat} {w w' : World} (h : Within lo hi w w') (hB : B ≤ lo) (hs : B ≤ w.heap.size) : Below B w w' :=
  ⟨h.1, h.2.1, h.2.2.1, h.2.2.2.1, fun k hk => h.2.2.2.2 k (by omega) (.inl (by omega))⟩

theorem Own.other {e size lo hi w w' v n xs} {row : Option Nat} (h : Own e size lo hi w v n xs) (hg : w.grownBy w' row) (hne : row ≠ v.ownBlock) : Own e size lo hi w' v n xs := by
  obtain ⟨g, cap, rfl, h1, h2, h3⟩ := h
  exact ⟨g, cap, rfl, h1, h2, h3.kept hg (Or.inr fun e => hne e.symm)⟩
theorem Own.within {e size lo hi lo' hi' w w' v n xs} (h : Own e size lo hi w v n xs) (hw : Within lo' hi' w w') (hr : hi ≤ lo' ∨ hi' ≤ lo) : Own e size lo hi w' v n xs := by
  obtain ⟨g, cap, rfl, h1, h2, h3⟩ := h
  have hlt := (h3.lt g rfl).2
  obtain ⟨h4, h5⟩ := h3
  refine ⟨g, cap, rfl, h1, h2, h4, ?_⟩
  rcases h5 with ⟨h', _⟩ | ⟨g', cap', cur, h', hbg, hg, r⟩
  · simp at h'
  · simp only [Value.slice.injEq, Option.some.injEq, Addr.mk.injEq, and_true, true_and] at h'
    obtain ⟨rfl, rfl⟩ := h'
    exact .inr ⟨g, cap, cur, rfl, hbg, (hw.2.2.2.2 g hlt (by omega)).trans hg, r⟩
theorem Own.blocks_ne {e e' size size' lo hi lo' hi' w v v' n n' xs xs'} (h : Own e size lo hi w v n xs) (k : Own e' size' lo' hi' w v' n' xs') (hne : e ≠ e') : v.ownBlock ≠ v'.ownBlock := by
  obtain ⟨g, cap, rfl, _, _, _, h5⟩ := h
  obtain ⟨g', cap', rfl, _, _, _, k5⟩ := k
  rcases h5 with ⟨h', _⟩ | ⟨_, _, cur, h', _, hg, _⟩
  · simp at h'
  rcases k5 with ⟨k', _⟩ | ⟨_, _, cur', k', _, kg, _⟩
  · simp at k'
  simp only [Value.slice.injEq, Option.some.injEq, Addr.mk.injEq, and_true, true_and] at h' k'
  obtain ⟨rfl, rfl⟩ := h'
  obtain ⟨rfl, rfl⟩ := k'
  intro e0
  simp only [Value.ownBlock, Option.some.injEq] at e0
  subst e0
  rw [hg] at kg
  simp only [Option.some.injEq, Obj.cells.injEq] at kg
  exact hne kg.2.1

/-- append(s, x): x, a Val, has just been laid in a block of its own. -/
theorem appendV_law {P : Program} {t e : TypeId} {z : Value} {bytes : Nat} (T : ElemT P t e z 3 bytes) {w : World} {ops : Array Oper} {rest : List Oper} {o : Oper} {a : Act} {Q : Exit → Act → World → Prop} (hgd : o.guard = none) (s x : Operand)
    (ho : o.op = .call { callee := .builtin .append, args := #[s, x], argTypes := #[t, t] })
    (lo hi : Nat) (v : Value) (n : Nat) (xs : List Value) (u : V) (hs : a.eval s = v) (hown : Own e 3 lo hi w v n xs)
    (hx : a.eval x = .slice (some ⟨w.heap.size, 0, none⟩) 1 1)
    (h63 : n + 1 ≤ maxLen) (hbytes : (n + 1) * bytes ≤ 140737488355328)
    (h : ∀ v' w', Own e 3 lo w'.heap.size w' v' (n + 1) (xs ++ u.cs) → Ext w w' v v' → wpList P ops Q rest (a.put o.dst v') w') : wpList P ops Q (o :: rest) a (w.alloc (.cells #[.int .i64 u.ty, .int .i64 u.n, .string u.s] e)) := by
  refine append_law T hgd s x ho lo hi v n xs hs (hown.alloc _) w.heap.size 0 1 1 u.cs hx rfl ?_ ?_ h63 hbytes (fun v' w' h1 h2 => h v' w' h1 ((Ext.alloc v _).trans h2))
  · intro j y hj
    match j, hj with
    | 0, hj => simp [V.cs] at hj; subst hj; simp
    | 1, hj => simp [V.cs] at hj; subst hj; simp
    | 2, hj => simp [V.cs] at hj; subst hj; simp
    | j + 3, hj => simp [V.cs] at hj
  · intro y hy
    simp [V.cs] at hy
    rcases hy with rfl | rfl | rfl <;> rfl

/-- Two lists, element by element. -/
def all2 {α β : Type} (f : α → β → Bool) : List α → List β → Bool
  | [], [] => true
  | a :: l, b :: r => f a b && all2 f l r
  | _, _ => false
theorem all2_len {α β : Type} {f : α → β → Bool} {l : List α} {r : List β} (h : l.length ≠ r.length) : all2 f l r = false := by
  induction l generalizing r with
  | nil => cases r with
    | nil => simp at h
    | cons => rfl
  | cons a l ih => cases r with
    | nil => rfl
    | cons b r => rw [all2, ih (by simpa using h), Bool.and_false]
theorem all2_all {α β : Type} {f : α → β → Bool} {l : List α} {r : List β} (x : α) (y : β) (hn : l.length = r.length) (h : ∀ k, k < l.length → f (l.getD k x) (r.getD k y) = true) : all2 f l r = true := by
  induction l generalizing r with
  | nil => cases r with
    | nil => rfl
    | cons => simp at hn
  | cons a l ih => cases r with
    | nil => simp at hn
    | cons b r =>
      rw [all2, ih (by simpa using hn) (fun k hk => by simpa using h (k + 1) (by simpa using hk)), Bool.and_true]
      simpa using h 0 (by simp)
theorem all2_no {α β : Type} {f : α → β → Bool} {l : List α} {r : List β} (x : α) (y : β) {k : Nat} (hk : k < l.length) (hn : l.length = r.length) (h : f (l.getD k x) (r.getD k y) = false) : all2 f l r = false := by
  induction l generalizing r k with
  | nil => simp at hk
  | cons a l ih => cases r with
    | nil => simp at hn
    | cons b r =>
      cases k with
      | zero =>
        simp only [List.getD_cons_zero] at h
        rw [all2, h, Bool.false_and]
      | succ k => rw [all2, ih (k := k) (by simpa using hk) (by simpa using hn) (by simpa using h), Bool.and_false]

end Go.Proofs.YtkofafefnlommaaGreat

/- The contracts of numOk (the program's) and of l1Right (the model's). -/
namespace Go.Proofs.YtkofafefnlommaaGreat
open Go.RowKit

theorem numOk (n : Int) (w : World) : Calls Tryz.prog 78 #[.int .i64 n] w fun e w' => e = .returned (.bool (Num.okB n)) ∧ w = w' := by
  by_cases h1 : -1000000000 ≤ n
  · by_cases h2 : n ≤ 1000000000
    · have e : Num.okB n = true := Num.okB_true.2 ⟨h1, h2⟩
      rw [e]
      go_enter Tryz.func78, Tryz.ntmps78
      go_wp2
      go_ret
      exact ⟨rfl, rfl⟩
    · have e : Num.okB n = false := Num.okB_false.2 (fun h => h2 h.2)
      rw [e]
      go_enter Tryz.func78, Tryz.ntmps78
      go_wp2
      go_ret
      exact ⟨rfl, rfl⟩
  · have e : Num.okB n = false := Num.okB_false.2 (fun h => h1 h.1)
    rw [e]
    go_enter Tryz.func78, Tryz.ntmps78
    go_wp2
    go_ret
    exact ⟨rfl, rfl⟩

theorem l1Right (n : Int) (w : World) : Calls Tryz.prog 81 #[.int .i64 n] w fun e w' => e = .returned (.bool (Num.okB n)) ∧ w = w' := by
  go_enter Tryz.func81, Tryz.ntmps81
  go_wp2_with (go_at_call 61; refine (l1In _ _ _ _).mono ?_; rintro e w' ⟨rfl, rfl⟩)
  go_ret
  exact ⟨rfl, rfl⟩

end Go.Proofs.YtkofafefnlommaaGreat

/- The contracts of chapter 1's functions on plain integers: numOk, l1In, l1Right, ZigZag and ZagZig, of the program and of the model. -/
namespace Go.Proofs.YtkofafefnlommaaGreat
open Go.RowKit

theorem iZigZag (n : Int) (w : World) : Calls Tryz.prog 103 #[.int .i64 n] w fun e w' => e = .returned (.int .i64 (Num.zig n)) ∧ w = w' := by
  by_cases h : Num.ok n
  · have hb : Num.okB n = true := Num.okB_true.2 h
    by_cases h0 : n < 0
    · have e : Num.zig n = -2 * n - 1 := by simp [Num.zig, h, h0]
      obtain ⟨h1, h2⟩ := h
      have E := Lib.hid e; clear e
      go_enter Tryz.func103, Tryz.ntmps103
      go_wp2_with (go_at_call 78; refine (numOk _ _).mono ?_; rintro e w' ⟨rfl, rfl⟩)
      go_ret
      exact ⟨ret_int (by rw [E.out]), rfl⟩
    · have e : Num.zig n = 2 * n := by simp [Num.zig, h, h0]
      obtain ⟨h1, h2⟩ := h
      have E := Lib.hid e; clear e
      go_enter Tryz.func103, Tryz.ntmps103
      go_wp2_with (go_at_call 78; refine (numOk _ _).mono ?_; rintro e w' ⟨rfl, rfl⟩)
      go_ret
      exact ⟨ret_int (by rw [E.out]), rfl⟩
  · have hb : Num.okB n = false := Num.okB_false.2 h
    have e : Num.zig n = 0 := by simp only [Num.zig]; exact if_neg h
    have E := Lib.hid e; clear e h
    go_enter Tryz.func103, Tryz.ntmps103
    go_wp2_with (go_at_call 78; refine (numOk _ _).mono ?_; rintro e w' ⟨rfl, rfl⟩)
    go_ret
    exact ⟨ret_int (by rw [E.out]), rfl⟩

theorem sZigZag (n : Int) (w : World) : Calls Tryz.prog 83 #[.int .i64 n] w fun e w' => e = .returned (.int .i64 (Num.zig n)) ∧ w = w' := by
  by_cases h : Num.ok n
  · have hb : Num.okB n = true := Num.okB_true.2 h
    by_cases h0 : n < 0
    · have e : Num.zig n = -2 * n - 1 := by simp [Num.zig, h, h0]
      obtain ⟨h1, h2⟩ := h
      have E := Lib.hid e; clear e
      go_enter Tryz.func83, Tryz.ntmps83
      go_wp2_with (go_at_call 81; refine (l1Right _ _).mono ?_; rintro e w' ⟨rfl, rfl⟩)
      go_ret
      exact ⟨ret_int (by rw [E.out]), rfl⟩
    · have e : Num.zig n = 2 * n := by simp [Num.zig, h, h0]
      obtain ⟨h1, h2⟩ := h
      have E := Lib.hid e; clear e
      go_enter Tryz.func83, Tryz.ntmps83
      go_wp2_with (go_at_call 81; refine (l1Right _ _).mono ?_; rintro e w' ⟨rfl, rfl⟩)
      go_ret
      exact ⟨ret_int (by rw [E.out]), rfl⟩
  · have hb : Num.okB n = false := Num.okB_false.2 h
    have e : Num.zig n = 0 := by simp only [Num.zig]; exact if_neg h
    have E := Lib.hid e; clear e h
    go_enter Tryz.func83, Tryz.ntmps83
    go_wp2_with (go_at_call 81; refine (l1Right _ _).mono ?_; rintro e w' ⟨rfl, rfl⟩)
    go_ret
    exact ⟨ret_int (by rw [E.out]), rfl⟩

theorem zag_odd {n : Int} (h0 : 0 ≤ n) (h : n ≤ 2000000000) (h1 : n % 2 = 1) : Num.zag n = wrap64 (-(n + 1).tdiv 2) := by
  unfold Num.zag; rw [if_pos ⟨h0, h⟩, if_pos h1, Int.tdiv_eq_ediv_of_nonneg (by omega), IntWalk.wrap64_in _ (by omega)]
theorem zag_even {n : Int} (h0 : 0 ≤ n) (h : n ≤ 2000000000) (h1 : ¬ n % 2 = 1) : Num.zag n = n / 2 := by
  unfold Num.zag; rw [if_pos ⟨h0, h⟩, if_neg h1]
theorem zag_no {n : Int} (h : ¬ (0 ≤ n ∧ n ≤ 2000000000)) : Num.zag n = 0 := by unfold Num.zag; rw [if_neg h]

theorem iZagZig (n : Int) (w : World) : Calls Tryz.prog 107 #[.int .i64 n] w fun e w' => e = .returned (.int .i64 (Num.zag n)) ∧ w = w' := by
  by_cases h : 0 ≤ n ∧ n ≤ 2000000000
  · obtain ⟨h0, h2⟩ := h
    by_cases h1 : n % 2 = 1
    · have E := Lib.hid (zag_odd h0 h2 h1)
      have hb : (n % 2 == 1) = true := by simp [h1]
      go_enter Tryz.func107, Tryz.ntmps107
      go_wp2
      go_ret
      exact ⟨ret_int (by rw [E.out]), rfl⟩
    · have E := Lib.hid (zag_even h0 h2 h1)
      have hb : (n % 2 == 1) = false := by simp [h1]
      go_enter Tryz.func107, Tryz.ntmps107
      go_wp2
      go_ret
      exact ⟨ret_int (by rw [E.out]), rfl⟩
  · have E := Lib.hid (zag_no h)
    by_cases h0 : n < 0
    · clear h
      go_enter Tryz.func107, Tryz.ntmps107
      go_wp2
      go_ret
      exact ⟨ret_int (by rw [E.out]), rfl⟩
    · have h2 : 2000000000 < n := by omega
      clear h
      go_enter Tryz.func107, Tryz.ntmps107
      go_wp2
      go_ret
      exact ⟨ret_int (by rw [E.out]), rfl⟩

theorem sZagZig (n : Int) (w : World) : Calls Tryz.prog 88 #[.int .i64 n] w fun e w' => e = .returned (.int .i64 (Num.zag n)) ∧ w = w' := by
  by_cases h : 0 ≤ n ∧ n ≤ 2000000000
  · have hi : Num.inB n 0 2000000000 = true := Num.inB_true.2 h
    obtain ⟨h0, h2⟩ := h
    by_cases h1 : n % 2 = 1
    · have E := Lib.hid (zag_odd h0 h2 h1)
      have hb : (n % 2 == 1) = true := by simp [h1]
      go_enter Tryz.func88, Tryz.ntmps88
      go_wp2_with (go_at_call 61; refine (l1In _ _ _ _).mono ?_; rintro e w' ⟨rfl, rfl⟩)
      go_ret
      exact ⟨ret_int (by rw [E.out]), rfl⟩
    · have E := Lib.hid (zag_even h0 h2 h1)
      have hb : (n % 2 == 1) = false := by simp [h1]
      go_enter Tryz.func88, Tryz.ntmps88
      go_wp2_with (go_at_call 61; refine (l1In _ _ _ _).mono ?_; rintro e w' ⟨rfl, rfl⟩)
      go_ret
      exact ⟨ret_int (by rw [E.out]), rfl⟩
  · have hi : Num.inB n 0 2000000000 = false := Num.inB_false.2 h
    have E := Lib.hid (zag_no h)
    clear h
    go_enter Tryz.func88, Tryz.ntmps88
    go_wp2_with (go_at_call 61; refine (l1In _ _ _ _).mono ?_; rintro e w' ⟨rfl, rfl⟩)
    go_ret
    exact ⟨ret_int (by rw [E.out]), rfl⟩

end Go.Proofs.YtkofafefnlommaaGreat

/- The contracts of the program's ownBytes, appendGroups, appendNums and PutNum, and of the model's PutNum. -/
namespace Go.Proofs.YtkofafefnlommaaGreat
open Go.RowKit

set_option maxHeartbeats 400000 in
theorem ownBytes (v : Value) (n : Nat) (zs : List Int) (w : World) (hn : n ≤ 1073741824) (hz : zs.length = n) (h : AtN 1 w v n (ints .u8 zs)) :
    Calls Tryz.prog 75 #[v] w fun e w' => ∃ v', e = .returned v' ∧ Own 5 1 w.heap.size w'.heap.size w' v' n (ints .u8 zs) ∧ Below w.heap.size w w' := by
  rcases h with ⟨rfl, rfl, h0⟩ | ⟨b, off, cap, rfl, h1, h2, h3, hc⟩
  · obtain rfl : zs = [] := List.length_eq_zero_iff.1 hz
    go_enter Tryz.func75, Tryz.ntmps75
    go_wp2_with (at_make; refine make0_law Tryz.elemBytes rfl _ _ rfl .i64 .i64 _ 5 rfl rfl (by omega) (by omega) (by unfold maxLen; omega) ?_)
    intro w1 hown hb
    go_wp2_with (at_builtin; refine append_nil_law Tryz.elemBytes rfl _ _ rfl _ _ _ _ _ rfl hown rfl ?_)
    go_ret
    exact ⟨_, rfl, hown, hb⟩
  · have HZ := Lib.hid hz
    clear hz
    go_enter Tryz.func75, Tryz.ntmps75
    go_wp2_with (at_make; refine make0_law Tryz.elemBytes rfl _ _ rfl .i64 .i64 _ (n + 5) rfl rfl (by omega) (by omega) (by unfold maxLen; omega) ?_)
    intro w1 hown hb
    have HC : Hid (∀ j u, (ints .u8 zs)[j]? = some u → w1.cell? ⟨b, off + j, none⟩ = some u) := fun j u hu => (hb.cell (p := ⟨b, off + j, none⟩) (lt_of_cell (hc j u hu))).trans (hc j u hu)
    have HLZ : Hid ((ints .u8 zs).length = n * 1) := h3
    clear hc h3
    go_wp2_with (at_builtin; refine append_law Tryz.elemBytes rfl _ _ rfl _ _ _ _ _ rfl hown b off n cap (ints .u8 zs) rfl HLZ.out HC.out (ints_one _ _) (by unfold maxLen; omega) (by omega) ?_)
    intro v' w2 hown' hext
    have hb2 := hb.trans (hext.below hown)
    clear hext hown
    have R0 : Own 5 1 w.heap.size w2.heap.size w2 v' n (ints .u8 zs) := by simpa using hown'
    have R := Lib.hid R0
    clear hown' R0
    go_wp2
    go_ret
    exact ⟨_, rfl, R.out, hb2⟩

set_option maxHeartbeats 400000 in
theorem appendGroups (v : Value) (lo hi : Nat) (zs : List Int) (u : Int) (w : World) (hn : zs.length ≤ 2147483648) (h0 : 0 ≤ u) (hu : u ≤ 2000000000) (h : Own 5 1 lo hi w v zs.length (ints .u8 zs)) :
    Calls Tryz.prog 102 #[v, .int .i64 u] w fun e w' => ∃ v', e = .returned v' ∧ Own 5 1 lo w'.heap.size w' v' (zs ++ Num.grp 4 u).length (ints .u8 (zs ++ Num.grp 4 u)) ∧ Ext w w' v v' := by
  go_enter Tryz.func102, Tryz.ntmps102
  go_wp2
  go_loopw [0, 1] (fun v1 t wr => ∃ (f : Nat) (pre : List Int) (x : Int), t = .int .i64 x ∧ 0 ≤ x ∧ x ≤ 2000000000 ∧ x < 128 ^ (f + 1) ∧ pre ++ Num.grp f x = Num.grp 4 u ∧ pre.length + f = 4 ∧ Own 5 1 lo wr.heap.size wr v1 (zs ++ pre).length (ints .u8 (zs ++ pre)) ∧ Ext w wr v v1) (fun _ t _ => (intOf t).toNat)
  case atStart => 
    refine ⟨4, [], u, rfl, h0, hu, ?_, by simp, rfl, ?_, Ext.refl _ _⟩
    · have : (128 : Int) ^ (4 + 1) = 34359738368 := by decide
      omega
    · obtain ⟨g, cap, rfl, a1, a2, a3⟩ := h
      simp only [List.append_nil]
      exact ⟨g, cap, rfl, a1, (a3.lt g rfl).2, a3⟩
  case round =>
    obtain ⟨f, pre, x, rfl, hx0, hx1, hx2, hg, hf, hown, hext⟩ := hrel
    have HG := Lib.hid hg
    have HF := Lib.hid hf
    have hpl : pre.length ≤ 4 := by omega
    clear hg hf
    have hlen : (zs ++ pre).length ≤ 2147483652 := by rw [List.length_append]; omega
    generalize hN : (zs ++ pre).length = N at hown hlen
    have HN := Lib.hid hN
    clear hN
    by_cases hlt : 128 ≤ x
    · go_wp2_with (at_builtin; refine append1_law Tryz.elemBytes rfl _ _ rfl _ _ _ _ _ (.int .u8 (x % 128 + 128)) rfl rfl hown rfl (by unfold maxLen; omega) (by omega) ?_)
      intro v' w1 hown' hext'
      have hx := hext.trans hext'
      have R := Lib.hid hown'
      clear hown' hext' hext hown
      go_wp2
      go_roundw
      case rel =>
        obtain ⟨f', rfl⟩ : ∃ f', f = f' + 1 := by
          cases f with
          | zero => exfalso; simp at hx2; omega
          | succ f' => exact ⟨f', rfl⟩
        have HF' := HF.out
        refine ⟨f', pre ++ [x % 128 + 128], x / 128, by go_num, by omega, by omega, ?_, ?_, by simp; omega, ?_, hx⟩
        · have : x < 128 ^ (f' + 1) * 128 := by rw [Int.pow_succ] at hx2; exact hx2
          omega
        · rw [← HG.out, Num.grp_step hlt]; simp
        · have e : (zs ++ (pre ++ [x % 128 + 128])).length = N + 1 := by rw [← HN.out]; simp; omega
          have e2 : ints .u8 (zs ++ (pre ++ [x % 128 + 128])) = ints .u8 (zs ++ pre) ++ [.int .u8 (x % 128 + 128)] := by simp [ints]
          rw [e, e2]
          exact R.out
      case measure => simp [intOf]; omega
    · go_wp2_with (at_builtin; refine append1_law Tryz.elemBytes rfl _ _ rfl _ _ _ _ _ (.int .u8 x) rfl rfl hown rfl (by unfold maxLen; omega) (by omega) ?_)
      intro v' w1 hown' hext'
      have hx := hext.trans hext'
      clear hext' hext hown
      have e : (zs ++ Num.grp 4 u).length = N + 1 := by rw [← HG.out, Num.grp_last (by omega), ← HN.out]; simp; omega
      have e2 : ints .u8 (zs ++ Num.grp 4 u) = ints .u8 (zs ++ pre) ++ [.int .u8 x] := by rw [← HG.out, Num.grp_last (by omega)]; simp [ints]
      rw [← e2, ← e] at hown'
      clear e e2
      have R := Lib.hid hown'
      clear hown'
      go_wp2
      go_ret
      exact ⟨_, rfl, R.out, hx⟩

theorem take_snoc (l : List Int) (k : Nat) (h : k < l.length) : l.take (k + 1) = l.take k ++ [l.getD k 0] := by
  rw [List.take_succ_eq_append_getElem h]; simp [h]

set_option maxHeartbeats 400000 in
theorem appendNums (v vl : Value) (lo hi n m : Nat) (zs l : List Int) (w : World) (hz : zs.length = n) (hm : l.length = m) (hn : n ≤ 1073741829) (hml : m ≤ 134217728) (h : Own 5 1 lo hi w v n (ints .u8 zs)) (hl : At 1 w vl m (ints .i64 l))
    (hne : 0 < m → vl.ownBlock ≠ v.ownBlock) :
    Calls Tryz.prog 76 #[v, vl] w fun e w' => ∃ v', e = .returned v' ∧ Own 5 1 lo w'.heap.size w' v' (Num.puts zs l).length (ints .u8 (Num.puts zs l)) ∧ Ext w w' v v' := by
  obtain ⟨b, off, cap, rfl, h1, h2, h3, hc⟩ := hl
  have HM := Lib.hid hm
  have HZ := Lib.hid hz
  clear hm hz h3
  go_enter Tryz.func76, Tryz.ntmps76
  go_wp2
  go_loopw [0, 9] (fun v1 i wr => ∃ k : Nat, k ≤ m ∧ i = .int .i64 k ∧ Own 5 1 lo wr.heap.size wr v1 (Num.puts zs (l.take k)).length (ints .u8 (Num.puts zs (l.take k))) ∧ Ext w wr v v1) (fun _ i _ => m - (intOf i).toNat)
  case atStart =>
    refine ⟨0, Nat.zero_le _, rfl, ?_, Ext.refl _ _⟩
    obtain ⟨g, cap, rfl, a1, a2, a3⟩ := h
    simp only [List.take_zero, Num.puts, List.foldl_nil]
    rw [HZ.out]
    exact ⟨g, cap, rfl, a1, (a3.lt g rfl).2, a3⟩
  case round =>
    obtain ⟨k, hk, rfl, hown, hext⟩ := hrel
    have hpl := (Num.puts_len zs (l.take k)).2
    have hzl : zs.length ≤ 1073741829 := by rw [HZ.out]; exact hn
    have htl : (l.take k).length ≤ 134217728 := by rw [List.length_take]; omega
    by_cases hlt : k < m
    · have hc0 : w.cell? ⟨b, off + k, none⟩ = some (.int .i64 (l.getD k 0)) := At.cell hc HM.out hlt
      have hcx : wr.cell? ⟨b, off + k, none⟩ = some (.int .i64 (l.getD k 0)) := (World.cell?_of_block (w := w) (hext.grown.block b (lt_of_cell hc0) (by simpa [Value.ownBlock] using hne (by omega)))).trans hc0
      have hts : Hid (l.take (k + 1) = l.take k ++ [l.getD k 0]) := take_snoc l k (by rw [HM.out]; exact hlt)
      generalize l.getD k 0 = x at hc0 hcx hts
      clear hc0 hc
      have hzb := Num.zig_bd x
      go_wp2_with (first | (go_at_call 103; refine (iZigZag _ _).mono ?_; rintro e w' ⟨rfl, rfl⟩) | (go_at_call 102; refine (appendGroups _ lo _ _ _ _ (by omega) hzb.1 hzb.2 hown).mono ?_; rintro e w2 ⟨v2, rfl, hown2, hext2⟩))
      go_roundw
      case rel =>
        refine ⟨k + 1, by omega, by go_num, ?_, hext.trans hext2⟩
        rw [hts.out, Num.puts_snoc]
        exact hown2
      case measure => simp [intOf]; omega
    · obtain rfl : k = m := by omega
      have e : l.take k = l := by rw [← HM.out]; exact List.take_length
      rw [e] at hown
      clear e
      go_wp2
      go_ret
      exact ⟨_, rfl, hown, hext⟩

theorem own_ne {e size lo hi w v n xs} {g m c : Nat} (h : Own e size lo hi w v n xs) (hg : hi ≤ g) : Value.ownBlock (.slice (some ⟨g, 0, none⟩) m c) ≠ v.ownBlock := by
  obtain ⟨g', cap, rfl, h1, h2, h3⟩ := h
  simp [Value.ownBlock]
  omega

set_option maxHeartbeats 400000 in
theorem iPutNum (v : Value) (n : Nat) (zs : List Int) (x : Int) (w : World) (hn : n ≤ 1073741824) (hz : zs.length = n) (h : AtN 1 w v n (ints .u8 zs)) :
    Calls Tryz.prog 41 #[v, .int .i64 x] w fun e w' => ∃ v', e = .returned v' ∧ Own 5 1 w.heap.size w'.heap.size w' v' (Num.put zs x).length (ints .u8 (Num.put zs x)) ∧ Below w.heap.size w w' := by
  have HZ := Lib.hid hz
  clear hz
  by_cases hx : Num.ok x
  · have hb : Num.okB x = true := Num.okB_true.2 hx
    have HP : Hid (Num.put zs x = zs ++ Num.grp 4 (Num.zig x)) := Num.put_ok hx
    clear hx
    go_enter Tryz.func41, Tryz.ntmps41
    go_wp2_with (first | (go_at_call 78; refine (numOk _ _).mono ?_; rintro e w' ⟨rfl, rfl⟩) | (go_at_call 75; refine (ownBytes _ n zs _ hn HZ.out h).mono ?_; rintro e w1 ⟨v1, rfl, hown1, hb1⟩))
    have hl : At 1 (w1.alloc (.cells #[.int .i64 x] 3)) (.slice (some ⟨w1.heap.size, 0, none⟩) 1 1) 1 (ints .i64 [x]) := (own_lit w1 #[.int .i64 x] 1 (by unfold maxLen; omega) rfl).at
    refine (appendNums _ _ w.heap.size _ n 1 zs [x] _ HZ.out rfl (by omega) (by omega) (hown1.alloc _) hl (fun _ => own_ne hown1 (Nat.le_refl _))).mono ?_
    rintro e w2 ⟨v2, rfl, hown2, hext2⟩
    have hb2 := (hb1.alloc hown1.lo _).trans (hext2.below (hown1.alloc _))
    clear hext2 hb1 hl hown1 h
    go_wp2
    go_ret
    refine ⟨_, rfl, ?_, hb2⟩
    rw [HP.out, ← Num.puts_one]
    exact hown2
  · have hb : Num.okB x = false := Num.okB_false.2 hx
    have HP : Hid (Num.put zs x = zs) := Num.put_no hx
    clear hx
    go_enter Tryz.func41, Tryz.ntmps41
    go_wp2_with (first | (go_at_call 78; refine (numOk _ _).mono ?_; rintro e w' ⟨rfl, rfl⟩) | (go_at_call 75; refine (ownBytes _ n zs _ hn HZ.out h).mono ?_; rintro e w1 ⟨v1, rfl, hown1, hb1⟩))
    go_ret
    refine ⟨_, rfl, ?_, hb1⟩
    rw [HP.out, HZ.out]
    exact hown1

set_option maxHeartbeats 400000 in
theorem sPutNum (v : Value) (n : Nat) (zs : List Int) (x : Int) (w : World) (hn : n ≤ 1073741824) (hz : zs.length = n) (h : At 1 w v n (ints .u8 zs)) :
    Calls Tryz.prog 50 #[v, .int .i64 x] w fun e w' => ∃ v', e = .returned v' ∧ Own 5 1 w.heap.size w'.heap.size w' v' (Num.put zs x).length (ints .u8 (Num.put zs x)) ∧ Below w.heap.size w w' := by
  have HZ := Lib.hid hz
  clear hz
  obtain ⟨b, off, cap, rfl, h1, h2, h3, hc⟩ := h
  have hown0 := own_lit (e := 5) (size := 1) w #[] 0 (Nat.zero_le _) rfl
  have hb0 := below_alloc w (.cells #[] 5)
  have HC : Hid (∀ j u, (ints .u8 zs)[j]? = some u → (w.alloc (.cells #[] 5)).cell? ⟨b, off + j, none⟩ = some u) := fun j u hu => (hb0.cell (p := ⟨b, off + j, none⟩) (lt_of_cell (hc j u hu))).trans (hc j u hu)
  have HLZ : Hid ((ints .u8 zs).length = n * 1) := h3
  clear hc h3
  go_enter Tryz.func50, Tryz.ntmps50
  go_wp2_with (at_builtin; refine append_law Tryz.elemBytes rfl _ _ rfl _ _ _ _ _ rfl hown0 b off n cap (ints .u8 zs) rfl HLZ.out HC.out (ints_one _ _) (by unfold maxLen; omega) (by omega) ?_)
  intro v1 w1 hown1 hext1
  have R0 : Own 5 1 w.heap.size w1.heap.size w1 v1 n (ints .u8 zs) := by simpa using hown1
  have hb1 := hb0.trans (hext1.below hown0)
  clear hown1 hext1 hown0 hb0
  by_cases hx : Num.ok x
  · have hb : Num.okB x = true := Num.okB_true.2 hx
    have HP : Hid (Num.put zs x = zs ++ Num.grp 4 (Num.zig x)) := Num.put_ok hx
    clear hx
    have hzb := Num.zig_bd x
    obtain ⟨u, hu⟩ : ∃ u, Num.zig x = u := ⟨_, rfl⟩
    have HU := Lib.hid hu
    rw [hu] at hzb
    clear hu
    obtain ⟨hz0, hz1⟩ := hzb
    go_wp2_with (first | (go_at_call 81; refine (l1Right _ _).mono ?_; rintro e w' ⟨rfl, rfl⟩) | (go_at_call 83; refine (sZigZag _ _).mono ?_; rw [HU.out]; rintro e w' ⟨rfl, rfl⟩))
    go_loopw [5, 6] (fun v2 t wr => ∃ (f : Nat) (pre : List Int) (y : Int), t = .int .i64 y ∧ 0 ≤ y ∧ y ≤ 2000000000 ∧ y < 128 ^ (f + 1) ∧ pre ++ Num.grp f y = Num.grp 4 u ∧ pre.length + f = 4 ∧ Own 5 1 w.heap.size wr.heap.size wr v2 (zs ++ pre).length (ints .u8 (zs ++ pre)) ∧ Below w.heap.size w wr) (fun _ t _ => (intOf t).toNat)
    case atStart =>
      refine ⟨4, [], u, rfl, hz0, hz1, ?_, by simp, rfl, ?_, hb1⟩
      · have : (128 : Int) ^ (4 + 1) = 34359738368 := by decide
        omega
      · simp only [List.append_nil]
        rw [HZ.out]
        exact R0
    case round =>
      obtain ⟨f, pre, y, rfl, hx0, hx1, hx2, hg, hf, hown, hbr⟩ := hrel
      have HG := Lib.hid hg
      have HF := Lib.hid hf
      have hpl : pre.length ≤ 4 := by omega
      clear hg hf
      have hlen : (zs ++ pre).length ≤ 2147483652 := by rw [List.length_append, HZ.out]; omega
      generalize hN : (zs ++ pre).length = N at hown hlen
      have HN := Lib.hid hN
      clear hN
      by_cases hlt : 127 < y
      · go_wp2_with (at_builtin; refine append1_law Tryz.elemBytes rfl _ _ rfl _ _ _ _ _ (.int .u8 (128 + y % 128)) rfl rfl hown rfl (by unfold maxLen; omega) (by omega) ?_)
        intro v' w2 hown' hext'
        have hb2 := hbr.trans (hext'.below hown)
        have R := Lib.hid hown'
        clear hown' hext' hown hbr
        go_wp2
        go_roundw
        case rel =>
          obtain ⟨f', rfl⟩ : ∃ f', f = f' + 1 := by
            cases f with
            | zero => exfalso; simp at hx2; omega
            | succ f' => exact ⟨f', rfl⟩
          have HF' := HF.out
          refine ⟨f', pre ++ [y % 128 + 128], y / 128, by go_num, by omega, by omega, ?_, ?_, by simp; omega, ?_, hb2⟩
          · have : y < 128 ^ (f' + 1) * 128 := by rw [Int.pow_succ] at hx2; exact hx2
            omega
          · rw [← HG.out, Num.grp_step (by omega)]; simp
          · have e : (zs ++ (pre ++ [y % 128 + 128])).length = N + 1 := by rw [← HN.out]; simp; omega
            have e2 : ints .u8 (zs ++ (pre ++ [y % 128 + 128])) = ints .u8 (zs ++ pre) ++ [.int .u8 (128 + y % 128)] := by rw [Int.add_comm 128]; simp [ints]
            rw [e, e2]
            exact R.out
        case measure => simp [intOf]; omega
      · go_wp2_with (at_builtin; refine append1_law Tryz.elemBytes rfl _ _ rfl _ _ _ _ _ (.int .u8 y) rfl rfl hown rfl (by unfold maxLen; omega) (by omega) ?_)
        intro v' w2 hown' hext'
        have hb2 := hbr.trans (hext'.below hown)
        clear hext' hbr hown
        have e : (zs ++ Num.grp 4 u).length = N + 1 := by rw [← HG.out, Num.grp_last (by omega), ← HN.out]; simp; omega
        have e2 : ints .u8 (zs ++ Num.grp 4 u) = ints .u8 (zs ++ pre) ++ [.int .u8 y] := by rw [← HG.out, Num.grp_last (by omega)]; simp [ints]
        rw [← e2, ← e] at hown'
        clear e e2
        have R := Lib.hid hown'
        clear hown'
        go_wp2
        go_ret
        refine ⟨_, rfl, ?_, hb2⟩
        rw [HP.out, HU.out]
        exact R.out
  · have hb : Num.okB x = false := Num.okB_false.2 hx
    have HP : Hid (Num.put zs x = zs) := Num.put_no hx
    clear hx
    go_wp2_with (go_at_call 81; refine (l1Right _ _).mono ?_; rintro e w' ⟨rfl, rfl⟩)
    go_ret
    refine ⟨_, rfl, ?_, hb1⟩
    rw [HP.out, HZ.out]
    exact R0

end Go.Proofs.YtkofafefnlommaaGreat

/- The contracts of the program's readGroups and GetNum, and of the model's GetNum. -/
namespace Go.Proofs.YtkofafefnlommaaGreat
open Go.RowKit

/-- What readGroups returns. -/
def rdRes : Option (Int × Nat) → Value
  | some (u, k) => .tuple #[.int .i64 u, .int .i64 k]
  | none => .tuple #[.int .i64 0, .int .i64 0]

theorem drop_cons {zs : List Int} {k : Nat} (h : k < zs.length) : zs.drop k = zs.getD k 0 :: zs.drop (k + 1) := by
  rw [List.drop_eq_getElem_cons h]; simp [h]
theorem getD_mem {zs : List Int} {k : Nat} (h : k < zs.length) : zs.getD k 0 ∈ zs := by
  simp [h]

theorem rd_sum {x c : Int} {k : Nat} (hk : k < 5) (hx0 : 0 ≤ x) (hx1 : x < 128 ^ k) :
    wrap64 (x + wrap64 (c % 128 * 2 ^ (7 * k))) = x + c % 128 * 128 ^ k ∧ 0 ≤ x + c % 128 * 128 ^ k ∧ x + c % 128 * 128 ^ k < 128 ^ (k + 1) := by
  have h5 : k = 0 ∨ k = 1 ∨ k = 2 ∨ k = 3 ∨ k = 4 := by omega
  rcases h5 with rfl | rfl | rfl | rfl | rfl <;> simp only [Nat.mul_zero, Nat.reduceMul, Nat.reduceAdd, Nat.zero_add, Int.reducePow, Int.pow_zero, Int.mul_one] at hx1 ⊢ <;>
    (first | rw [IntWalk.wrap64_in (c % 128) (by omega)] | rw [IntWalk.wrap64_in (c % 128 * _) (by omega)]) <;> (rw [IntWalk.wrap64_in _ (by omega)]; omega)

theorem rd_more {f i : Nat} {u c : Int} {r : List Int} (h : 128 ≤ c) : Num.rd (f + 1) i u (c :: r) = Num.rd f (i + 1) (u + c % 128 * 128 ^ i) r := by
  simp only [Num.rd]; rw [if_pos h]
theorem rd_zero {f i : Nat} {u : Int} {r : List Int} (h : 0 < i) : Num.rd (f + 1) i u (0 :: r) = none := by
  simp only [Num.rd]; rw [if_neg (by omega), if_pos (by simp [h])]
theorem rd_end {f i : Nat} {u c : Int} {r : List Int} (h : c < 128) (h2 : ¬ (c = 0 ∧ 0 < i)) : Num.rd (f + 1) i u (c :: r) = some (u + c % 128 * 128 ^ i, i + 1) := by
  simp only [Num.rd]; rw [if_neg (by omega), if_neg h2]
theorem rd_nil {f i : Nat} {u : Int} : Num.rd f i u [] = none := by cases f <;> rfl
theorem fuel {k : Nat} (h : k < 5) : 5 - k = (5 - (k + 1)) + 1 := by omega


set_option maxHeartbeats 400000 in
theorem readGroups (v : Value) (n : Nat) (zs : List Int) (w : World) (hz : zs.length = n) (hby : Num.Bytes zs) (h : At 1 w v n (ints .u8 zs)) :
    Calls Tryz.prog 106 #[v] w fun e w' => e = .returned (rdRes (Num.rd 5 0 0 zs)) ∧ w = w' := by
  obtain ⟨b, off, cap, rfl, h1, h2, h3, hc⟩ := h
  have HZ := Lib.hid hz
  clear hz h3
  unfold maxLen at h2
  by_cases h5 : n ≤ 5
  · go_enter Tryz.func106, Tryz.ntmps106
    go_wp2

    go_loop [4, 13] (fun t i => ∃ (k : Nat) (x : Int), k ≤ n ∧ i = .int .i64 k ∧ t = .int .i64 x ∧ 0 ≤ x ∧ x < 128 ^ k ∧ Num.rd (5 - k) k x (zs.drop k) = Num.rd 5 0 0 zs) (fun _ i => n - (intOf i).toNat)
    case atStart => exact ⟨0, 0, Nat.zero_le _, rfl, rfl, by omega, by simp, by simp⟩
    case round =>
      obtain ⟨k, x, hk, rfl, rfl, hx0, hx1, hrd⟩ := hrel
      by_cases hlt : k < n
      · have hcx : w.cell? ⟨b, off + k, none⟩ = some (.int .u8 (zs.getD k 0)) := At.cell hc HZ.out (by omega)
        have hdr := drop_cons (zs := zs) (k := k) (by rw [HZ.out]; omega)
        have hcb := hby (zs.getD k 0) (getD_mem (by rw [HZ.out]; omega))
        rw [hdr, fuel (by omega)] at hrd
        have HR := Lib.hid hrd
        clear hrd hdr hc
        generalize zs.getD k 0 = c at hcx hcb HR
        obtain ⟨hc0, hc1⟩ := hcb
        have hs := rd_sum (c := c) (by omega) hx0 hx1
        have HS := Lib.hid hs
        clear hs
        by_cases h128 : 128 ≤ c
        · go_wp2
          go_round
          case rel =>
            refine ⟨k + 1, _, by omega, by go_num, rfl, ?_, ?_, ?_⟩
            · rw [HS.out.1]; exact HS.out.2.1
            · rw [HS.out.1]; exact HS.out.2.2
            · rw [HS.out.1, ← HR.out, rd_more h128]
          case measure => simp [intOf]; omega
        · by_cases hcz : c = 0
          · subst hcz
            by_cases hk0 : 0 < k
            · go_wp2
              go_ret2
              exact ⟨by rw [← HR.out, rd_zero hk0]; rfl, rfl⟩
            · have hkz : decide ((0 : Int) < (k : Int)) = false := by simp; omega
              go_wp2
              go_ret2
              refine ⟨?_, rfl⟩
              rw [← HR.out, rd_end (by omega) (by omega)]
              have hkz' : k = 0 := by omega
              have hx2 : x < 1 := by rw [hkz'] at hx1; simpa using hx1
              have hwx : wrap64 x = x := IntWalk.wrap64_in _ (by omega)
              simp [rdRes, hwx]
          · have hcb : (c == 0) = false := by simp [hcz]
            go_wp2
            go_ret2
            refine ⟨?_, rfl⟩
            rw [← HR.out, rd_end (by omega) (by omega)]
            simp only [rdRes, ← HS.out.1]
            rfl
      · obtain rfl : k = n := by omega
        go_wp2
        go_ret2
        refine ⟨?_, rfl⟩
        rw [← hrd]
        rw [List.drop_eq_nil_of_le (by rw [HZ.out]; exact Nat.le_refl _), rd_nil]
        rfl

  · go_enter Tryz.func106, Tryz.ntmps106
    go_wp2

    go_loop [4, 13] (fun t i => ∃ (k : Nat) (x : Int), k ≤ 5 ∧ i = .int .i64 k ∧ t = .int .i64 x ∧ 0 ≤ x ∧ x < 128 ^ k ∧ Num.rd (5 - k) k x (zs.drop k) = Num.rd 5 0 0 zs) (fun _ i => 5 - (intOf i).toNat)
    case atStart => exact ⟨0, 0, Nat.zero_le _, rfl, rfl, by omega, by simp, by simp⟩
    case round =>
      obtain ⟨k, x, hk, rfl, rfl, hx0, hx1, hrd⟩ := hrel
      by_cases hlt : k < 5
      · have hcx : w.cell? ⟨b, off + k, none⟩ = some (.int .u8 (zs.getD k 0)) := At.cell hc HZ.out (by omega)
        have hdr := drop_cons (zs := zs) (k := k) (by rw [HZ.out]; omega)
        have hcb := hby (zs.getD k 0) (getD_mem (by rw [HZ.out]; omega))
        rw [hdr, fuel (by omega)] at hrd
        have HR := Lib.hid hrd
        clear hrd hdr hc
        generalize zs.getD k 0 = c at hcx hcb HR
        obtain ⟨hc0, hc1⟩ := hcb
        have hs := rd_sum (c := c) (by omega) hx0 hx1
        have HS := Lib.hid hs
        clear hs
        by_cases h128 : 128 ≤ c
        · go_wp2
          go_round
          case rel =>
            refine ⟨k + 1, _, by omega, by go_num, rfl, ?_, ?_, ?_⟩
            · rw [HS.out.1]; exact HS.out.2.1
            · rw [HS.out.1]; exact HS.out.2.2
            · rw [HS.out.1, ← HR.out, rd_more h128]
          case measure => simp [intOf]; omega
        · by_cases hcz : c = 0
          · subst hcz
            by_cases hk0 : 0 < k
            · go_wp2
              go_ret2
              exact ⟨by rw [← HR.out, rd_zero hk0]; rfl, rfl⟩
            · have hkz : decide ((0 : Int) < (k : Int)) = false := by simp; omega
              go_wp2
              go_ret2
              refine ⟨?_, rfl⟩
              rw [← HR.out, rd_end (by omega) (by omega)]
              have hkz' : k = 0 := by omega
              have hx2 : x < 1 := by rw [hkz'] at hx1; simpa using hx1
              have hwx : wrap64 x = x := IntWalk.wrap64_in _ (by omega)
              simp [rdRes, hwx]
          · have hcb : (c == 0) = false := by simp [hcz]
            go_wp2
            go_ret2
            refine ⟨?_, rfl⟩
            rw [← HR.out, rd_end (by omega) (by omega)]
            simp only [rdRes, ← HS.out.1]
            rfl
      · obtain rfl : k = 5 := by omega
        go_wp2
        go_ret2
        refine ⟨?_, rfl⟩
        rw [← hrd]
        simp only [Nat.sub_self, Num.rd]
        rfl


/-- What GetNum returns. -/
def getRes (r : Int × Int × Bool) : Value := .tuple #[.int .i64 r.1, .int .i64 r.2.1, .bool r.2.2]

theorem At.drop {k : IntKind} {w : World} {b off n cap m : Nat} {zs : List Int} (hz : zs.length = n) (hm : m ≤ n) (hn : n ≤ cap) (hc : cap ≤ maxLen) (h : ∀ j u, (ints k zs)[j]? = some u → w.cell? ⟨b, off + j, none⟩ = some u) :
    At 1 w (.slice (some ⟨b, off + m, none⟩) (n - m) (cap - m)) (n - m) (ints k (zs.drop m)) := by
  refine ⟨b, off + m, cap - m, rfl, by omega, by unfold maxLen at hc ⊢; omega, by simp [ints]; omega, fun j u hu => ?_⟩
  have := h (m + j) u (by simpa [ints, List.getElem?_drop] using hu)
  rw [Nat.add_assoc]
  exact this

theorem get_out {zs : List Int} {i : Int} (h : ¬ (0 ≤ i ∧ i ≤ zs.length)) : Num.get zs i = (0, 0, false) := by unfold Num.get; rw [if_neg h]
theorem get_end {zs : List Int} {i : Int} (h0 : 0 ≤ i) (h : (zs.length : Int) ≤ i) : Num.get zs i = (0, 0, false) := by
  unfold Num.get
  by_cases h2 : 0 ≤ i ∧ i ≤ zs.length
  · rw [if_pos h2, List.drop_eq_nil_of_le (by omega), rd_nil]
  · rw [if_neg h2]
theorem get_some {zs : List Int} {i : Nat} {u : Int} {k : Nat} (h : i ≤ zs.length) (hr : Num.rd 5 0 0 (zs.drop i) = some (u, k)) (hu : u ≤ 2000000000) : Num.get zs i = (Num.zag u, (i : Int) + k, true) := by
  unfold Num.get; rw [if_pos (by omega), Int.toNat_natCast, hr]; simp only; rw [if_pos hu]
theorem get_great {zs : List Int} {i : Nat} {u : Int} {k : Nat} (h : i ≤ zs.length) (hr : Num.rd 5 0 0 (zs.drop i) = some (u, k)) (hu : 2000000000 < u) : Num.get zs i = (0, 0, false) := by
  unfold Num.get; rw [if_pos (by omega), Int.toNat_natCast, hr]; simp only; rw [if_neg (by omega)]
theorem get_none {zs : List Int} {i : Nat} (h : i ≤ zs.length) (hr : Num.rd 5 0 0 (zs.drop i) = none) : Num.get zs i = (0, 0, false) := by
  unfold Num.get; rw [if_pos (by omega), Int.toNat_natCast, hr]

set_option maxHeartbeats 400000 in
theorem iGetNum (v : Value) (n : Nat) (zs : List Int) (i : Int) (w : World) (hn : n ≤ 1152921504606846976) (hz : zs.length = n) (hby : Num.Bytes zs) (h : At 1 w v n (ints .u8 zs)) :
    Calls Tryz.prog 79 #[v, .int .i64 i] w fun e w' => e = .returned (getRes (Num.get zs i)) ∧ w = w' := by
  obtain ⟨b, off, cap, rfl, h1, h2, h3, hc⟩ := h
  have HZ := Lib.hid hz
  clear hz h3
  by_cases hneg : i < 0
  · have HG := Lib.hid (get_out (zs := zs) (i := i) (by omega))
    go_enter Tryz.func79, Tryz.ntmps79
    go_wp2
    go_ret3
    exact ⟨by rw [HG.out]; rfl, rfl⟩
  · obtain ⟨m, rfl⟩ := Int.eq_ofNat_of_zero_le (by omega : 0 ≤ i)
    by_cases hge : n ≤ m
    · have HG := Lib.hid (get_end (zs := zs) (i := m) (by omega) (by rw [HZ.out]; omega))
      go_enter Tryz.func79, Tryz.ntmps79
      go_wp2
      go_ret3
      exact ⟨by rw [HG.out]; rfl, rfl⟩
    · have hat := At.drop (m := m) HZ.out (by omega) h1 h2 hc
      have hbd : Num.Bytes (zs.drop m) := fun x hx => hby x (List.mem_of_mem_drop hx)
      have hld : (zs.drop m).length = n - m := by rw [List.length_drop, HZ.out]
      have HLD := Lib.hid hld
      have HB := Lib.hid hbd
      clear hld hbd hc hby
      have hmz : m ≤ zs.length := by rw [HZ.out]; omega
      unfold maxLen at h2
      cases hr : Num.rd 5 0 0 (zs.drop m) with
      | none =>
        have HG := Lib.hid (get_none hmz hr)
        have HR := Lib.hid hr
        clear hr hmz
        go_enter Tryz.func79, Tryz.ntmps79
        go_wp2_with (go_at_call 106; refine (readGroups _ (n - m) (zs.drop m) _ HLD.out HB.out hat).mono ?_; rw [HR.out]; simp only [rdRes]; rintro e w' ⟨rfl, rfl⟩)
        go_ret3
        exact ⟨by rw [HG.out]; rfl, rfl⟩
      | some p =>
        obtain ⟨u, k⟩ := p
        have hb := Num.rd_bd hr HB.out (by omega)
        rw [HLD.out] at hb
        have hk0 : ((k : Int) == 0) = false := by simp; omega
        by_cases hu : u ≤ 2000000000
        · have HG := Lib.hid (get_some hmz hr hu)
          have HR := Lib.hid hr
          clear hr hmz
          obtain ⟨hb1, hb2, hb3, hb4⟩ := hb
          go_enter Tryz.func79, Tryz.ntmps79
          go_wp2_with (first | (go_at_call 106; refine (readGroups _ (n - m) (zs.drop m) _ HLD.out HB.out hat).mono ?_; rw [HR.out]; simp only [rdRes]; rintro e w' ⟨rfl, rfl⟩) | (go_at_call 107; refine (iZagZig _ _).mono ?_; rintro e w' ⟨rfl, rfl⟩))
          go_ret3
          exact ⟨by rw [HG.out]; rfl, rfl⟩
        · have HG := Lib.hid (get_great hmz hr (by omega))
          have HR := Lib.hid hr
          clear hr hmz
          obtain ⟨hb1, hb2, hb3, hb4⟩ := hb
          go_enter Tryz.func79, Tryz.ntmps79
          go_wp2_with (go_at_call 106; refine (readGroups _ (n - m) (zs.drop m) _ HLD.out HB.out hat).mono ?_; rw [HR.out]; simp only [rdRes]; rintro e w' ⟨rfl, rfl⟩)
          go_ret3
          exact ⟨by rw [HG.out]; rfl, rfl⟩

end Go.Proofs.YtkofafefnlommaaGreat

/- A Val in a block of the call's own. -/
namespace Go.Proofs.YtkofafefnlommaaGreat
open Go.RowKit

/-- A Val in a block of the call's own. -/
def Held (W : World) (b : Nat) (v : V) : Prop :=
  (W.cell? ⟨b, 0, none⟩ = some (.int .i64 v.ty) ∧ W.cell? ⟨b, 1, none⟩ = some (.int .i64 v.n) ∧ W.cell? ⟨b, 2, none⟩ = some (.string v.s)) ∧
  W.frozen? ⟨b, 0, none⟩ = false ∧ W.frozen? ⟨b, 1, none⟩ = false ∧ W.frozen? ⟨b, 2, none⟩ = false
theorem Held.below {W W' : World} {b : Nat} {v : V} (h : Held W b v) (hb : Below W.heap.size W W') : Held W' b v := by
  have hlt := lt_of_cell h.1.1
  exact ⟨⟨(hb.cell (p := ⟨b, 0, none⟩) hlt).trans h.1.1, (hb.cell (p := ⟨b, 1, none⟩) hlt).trans h.1.2.1, (hb.cell (p := ⟨b, 2, none⟩) hlt).trans h.1.2.2⟩,
    (hb.frozen (p := ⟨b, 0, none⟩) hlt).trans h.2.1, (hb.frozen (p := ⟨b, 1, none⟩) hlt).trans h.2.2.1, (hb.frozen (p := ⟨b, 2, none⟩) hlt).trans h.2.2.2⟩
theorem held_new (w : World) (v : V) (e : TypeId) : Held (w.alloc (.cells #[.int .i64 v.ty, .int .i64 v.n, .string v.s] e)) w.heap.size v :=
  ⟨⟨by simp, by simp, by simp⟩, by simp, by simp, by simp⟩

theorem Held.other {W : World} {b : Nat} {v : V} (h : Held W b v) {p : Addr} (hp : p.block ≠ b) (u : Value) : Held (W.setCell p u) b v := by
  have hne : ∀ o, p ≠ ⟨b, o, none⟩ := fun o e => hp (by rw [e])
  refine ⟨⟨?_, ?_, ?_⟩, ?_, ?_, ?_⟩
  · rw [World.cell?_setCell_other _ _ _ _ (hne 0)]; exact h.1.1
  · rw [World.cell?_setCell_other _ _ _ _ (hne 1)]; exact h.1.2.1
  · rw [World.cell?_setCell_other _ _ _ _ (hne 2)]; exact h.1.2.2
  · rw [World.frozen?_setCell]; exact h.2.1
  · rw [World.frozen?_setCell]; exact h.2.2.1
  · rw [World.frozen?_setCell]; exact h.2.2.2
theorem Held.setN {W : World} {b : Nat} {v : V} (h : Held W b v) (n : Int) : Held (W.setCell ⟨b, 1, none⟩ (.int .i64 n)) b ⟨v.ty, n, v.s⟩ := by
  refine ⟨⟨?_, ?_, ?_⟩, ?_, ?_, ?_⟩
  · rw [World.cell?_setCell_other _ _ _ _ (by simp)]; exact h.1.1
  · exact World.cell?_setCell_same _ _ _ h.1.2.1
  · rw [World.cell?_setCell_other _ _ _ _ (by simp)]; exact h.1.2.2
  · rw [World.frozen?_setCell]; exact h.2.1
  · rw [World.frozen?_setCell]; exact h.2.2.1
  · rw [World.frozen?_setCell]; exact h.2.2.2

end Go.Proofs.YtkofafefnlommaaGreat

/- The contracts of the program's numsOk and PutNums, and of the model's PutNums. -/
namespace Go.Proofs.YtkofafefnlommaaGreat
open Go.RowKit

theorem okAll_no {l : List Int} {k : Nat} (h : k < l.length) (hk : Num.okB (l.getD k 0) = false) : Num.okAll l = false := by
  unfold Num.okAll
  rw [List.all_eq_false]
  exact ⟨l.getD k 0, by simp [h], by rw [hk]; simp⟩

set_option maxHeartbeats 400000 in
theorem numsOk (v : Value) (m : Nat) (l : List Int) (w : World) (hm : l.length = m) (hl : At 1 w v m (ints .i64 l)) :
    Calls Tryz.prog 74 #[v] w fun e w' => e = .returned (.bool (Num.okAll l)) ∧ w = w' := by
  obtain ⟨b, off, cap, rfl, h1, h2, h3, hc⟩ := hl
  have HM := Lib.hid hm
  clear hm h3
  unfold maxLen at h2
  go_enter Tryz.func74, Tryz.ntmps74
  go_wp2
  go_loop [7] (fun i => ∃ k : Nat, k ≤ m ∧ i = .int .i64 k ∧ Num.okAll (l.take k) = true) (fun i => m - (intOf i).toNat)
  case atStart => exact ⟨0, Nat.zero_le _, rfl, rfl⟩
  case round =>
    obtain ⟨k, hk, rfl, hok⟩ := hrel
    have HOK := Lib.hid hok
    clear hok
    by_cases hlt : k < m
    · have hcx : w.cell? ⟨b, off + k, none⟩ = some (.int .i64 (l.getD k 0)) := At.cell hc HM.out hlt
      have hts : Hid (l.take (k + 1) = l.take k ++ [l.getD k 0]) := take_snoc l k (by rw [HM.out]; exact hlt)
      have hno : Hid (Num.okB (l.getD k 0) = false → Num.okAll l = false) := okAll_no (by rw [HM.out]; exact hlt)
      generalize l.getD k 0 = x at hcx hts hno
      clear hc
      cases hx : Num.okB x with
      | true =>
        go_wp2_with (go_at_call 78; refine (numOk _ _).mono ?_; rintro e w' ⟨rfl, rfl⟩)
        go_round
        case rel => exact ⟨k + 1, by omega, by go_num, by rw [hts.out, Num.okAll_snoc, HOK.out, hx]; rfl⟩
        case measure => simp [intOf]; omega
      | false =>
        have HN := Lib.hid (hno.out hx)
        go_wp2_with (go_at_call 78; refine (numOk _ _).mono ?_; rintro e w' ⟨rfl, rfl⟩)
        go_ret
        exact ⟨ret_bool HN.out.symm, rfl⟩
    · obtain rfl : k = m := by omega
      have e : l.take k = l := by rw [← HM.out]; exact List.take_length
      have HE := Lib.hid e
      clear e
      go_wp2
      go_ret
      exact ⟨ret_bool (by rw [← HOK.out, HE.out]), rfl⟩

set_option maxHeartbeats 400000 in
theorem iPutNums (v vl : Value) (n m : Nat) (zs l : List Int) (w : World) (hn : n ≤ 1073741824) (hml : m ≤ 134217728) (hz : zs.length = n) (hm : l.length = m) (h : AtN 1 w v n (ints .u8 zs)) (hl : At 1 w vl m (ints .i64 l)) :
    Calls Tryz.prog 37 #[v, vl] w fun e w' => ∃ v', e = .returned v' ∧ Own 5 1 w.heap.size w'.heap.size w' v' (Num.putL zs l).length (ints .u8 (Num.putL zs l)) ∧ Below w.heap.size w w' := by
  have HZ := Lib.hid hz
  have HM := Lib.hid hm
  clear hz hm
  have hla := hl
  obtain ⟨b, off, cap, rfl, h1, h2, h3, hc⟩ := hl
  clear h3 hc
  unfold maxLen at h2
  cases hx : Num.okAll l with
  | true =>
    have HP : Hid (Num.putL zs l = Num.puts (zs ++ Num.grp 4 (Num.zig m)) l) := (Num.putL_ok hx).trans (by rw [HM.out, Num.puts_cons])
    have hg := Num.grp_len 4 (Num.zig m)
    go_enter Tryz.func37, Tryz.ntmps37
    go_wp2_with (first | (go_at_call 74; refine (numsOk _ m l _ HM.out hla).mono ?_; rw [hx]; rintro e w' ⟨rfl, rfl⟩) | (go_at_call 75; refine (ownBytes _ n zs _ hn HZ.out h).mono ?_; rintro e w1 ⟨v1, rfl, hown1, hb1⟩))
    have hl1 : At 1 (w1.alloc (.cells #[.int .i64 m] 3)) (.slice (some ⟨w1.heap.size, 0, none⟩) 1 1) 1 (ints .i64 [(m : Int)]) := (own_lit w1 #[.int .i64 m] 1 (by unfold maxLen; omega) rfl).at
    refine (appendNums _ _ w.heap.size _ n 1 zs [(m : Int)] _ HZ.out rfl (by omega) (by omega) (hown1.alloc _) hl1 (fun _ => own_ne hown1 (Nat.le_refl _))).mono ?_
    rintro e w2 ⟨v2, rfl, hown2, hext2⟩
    have hb2 := (hb1.alloc hown1.lo _).trans (hext2.below (hown1.alloc _))
    clear hext2 hb1 hl1 hown1 h
    rw [Num.puts_one] at hown2
    have hlen : (zs ++ Num.grp 4 (Num.zig m)).length ≤ 1073741829 := by rw [List.length_append, HZ.out]; omega
    go_wp2_with fail
    refine (appendNums _ _ w.heap.size _ _ m _ l _ rfl HM.out hlen hml hown2 (hla.below hb2) (ne_of_own hla (Nat.le_refl _) hown2)).mono ?_
    rintro e w3 ⟨v3, rfl, hown3, hext3⟩
    have hb3 := hb2.trans (hext3.below hown2)
    clear hext3 hb2 hown2
    go_wp2
    go_ret
    refine ⟨_, rfl, ?_, hb3⟩
    rw [HP.out]
    exact hown3
  | false =>
    have HP : Hid (Num.putL zs l = zs) := Num.putL_no hx
    go_enter Tryz.func37, Tryz.ntmps37
    go_wp2_with (first | (go_at_call 74; refine (numsOk _ m l _ HM.out hla).mono ?_; rw [hx]; rintro e w' ⟨rfl, rfl⟩) | (go_at_call 75; refine (ownBytes _ n zs _ hn HZ.out h).mono ?_; rintro e w1 ⟨v1, rfl, hown1, hb1⟩))
    go_ret
    refine ⟨_, rfl, ?_, hb1⟩
    rw [HP.out, HZ.out]
    exact hown1

theorem okAll_take {l : List Int} (h : Num.okAll l = true) (k : Nat) : Num.okAll (l.take k) = true := by
  unfold Num.okAll at h ⊢
  rw [List.all_eq_true] at h ⊢
  exact fun x hx => h x (List.mem_of_mem_take hx)

set_option maxHeartbeats 400000 in
theorem sPutNums (v vl : Value) (n m : Nat) (zs l : List Int) (w : World) (hn : n ≤ 33554432) (hml : m ≤ 33554432) (hz : zs.length = n) (hm : l.length = m) (h : At 1 w v n (ints .u8 zs)) (hl : At 1 w vl m (ints .i64 l)) :
    Calls Tryz.prog 46 #[v, vl] w fun e w' => ∃ v', e = .returned v' ∧ Own 5 1 w.heap.size w'.heap.size w' v' (Num.putL zs l).length (ints .u8 (Num.putL zs l)) ∧ Below w.heap.size w w' := by
  have HZ := Lib.hid hz
  have HM := Lib.hid hm
  clear hz hm
  have hva := h
  obtain ⟨b0, off0, cap0, rfl, g1, g2, g3, gc⟩ := h
  obtain ⟨b, off, cap, rfl, h1, h2, h3, hc⟩ := hl
  clear h3
  unfold maxLen at h2
  have hmok : Num.ok m := ⟨by omega, by omega⟩
  go_enter Tryz.func46, Tryz.ntmps46
  go_wp2_with (go_at_call 50; refine (sPutNum _ n zs _ _ (by omega) HZ.out hva).mono ?_; rintro e w1 ⟨v1, rfl, hown1, hb1⟩)
  rw [Num.put_ok hmok, ← Num.puts_one] at hown1
  clear hmok
  go_loopw [5, 6] (fun v2 i wr => ∃ k : Nat, k ≤ m ∧ i = .int .i64 k ∧ Num.okAll (l.take k) = true ∧ Own 5 1 w.heap.size wr.heap.size wr v2 (Num.puts zs ((m : Int) :: l.take k)).length (ints .u8 (Num.puts zs ((m : Int) :: l.take k))) ∧ Below w.heap.size w wr) (fun _ i _ => m - (intOf i).toNat)
  case atStart => exact ⟨0, Nat.zero_le _, rfl, rfl, by simpa using hown1, hb1⟩
  case round =>
    obtain ⟨k, hk, rfl, hok, hown, hbr⟩ := hrel
    have HOK := Lib.hid hok
    clear hok hown1 hb1
    have hpl := (Num.puts_len zs ((m : Int) :: l.take k)).2
    rw [HZ.out, List.length_cons, List.length_take] at hpl
    have hpl2 : (Num.puts zs ((m : Int) :: l.take k)).length ≤ 1073741824 := by omega
    clear hpl
    by_cases hlt : k < m
    · have hc0 : w.cell? ⟨b, off + k, none⟩ = some (.int .i64 (l.getD k 0)) := At.cell hc HM.out hlt
      have hcx : wr.cell? ⟨b, off + k, none⟩ = some (.int .i64 (l.getD k 0)) := (hbr.cell (p := ⟨b, off + k, none⟩) (lt_of_cell hc0)).trans hc0
      have hts : Hid (l.take (k + 1) = l.take k ++ [l.getD k 0]) := take_snoc l k (by rw [HM.out]; exact hlt)
      have hno : Hid (Num.okB (l.getD k 0) = false → Num.okAll l = false) := okAll_no (by rw [HM.out]; exact hlt)
      generalize l.getD k 0 = x at hcx hts hno hc0
      clear hc hc0
      cases hx : Num.okB x with
      | true =>
        have hput : Hid (Num.put (Num.puts zs ((m : Int) :: l.take k)) x = Num.puts zs ((m : Int) :: l.take (k + 1))) := (Num.put_ok (Num.okB_true.1 hx)).trans (by rw [hts.out, ← List.cons_append, Num.puts_snoc])
        have hat := hown.at
        generalize Num.puts zs ((m : Int) :: l.take k) = pz at hat hput hpl2 hown
        clear hown
        go_wp2_with (first | (go_at_call 81; refine (l1Right _ _).mono ?_; rintro e w' ⟨rfl, rfl⟩) | (go_at_call 50; refine (sPutNum _ _ pz x _ hpl2 rfl hat).mono ?_; rintro e w2 ⟨v2, rfl, hown2, hb2⟩))
        rw [hput.out] at hown2
        have hb3 := below_then hbr hb2 hbr.size
        go_roundw
        case rel => exact ⟨k + 1, by omega, by go_num, by rw [hts.out, Num.okAll_snoc, HOK.out, hx]; rfl, hown2.lower hbr.size, hb3⟩
        case measure => simp [intOf]; omega
      | false =>
        have HP : Hid (Num.putL zs l = zs) := Num.putL_no (hno.out hx)
        have hown0 := own_lit (e := 5) (size := 1) wr #[] 0 (Nat.zero_le _) rfl
        have hb0 := hbr.alloc hbr.size (.cells #[] 5)
        have HC : Hid (∀ j u, (ints .u8 zs)[j]? = some u → (wr.alloc (.cells #[] 5)).cell? ⟨b0, off0 + j, none⟩ = some u) := fun j u hu => (hb0.cell (p := ⟨b0, off0 + j, none⟩) (lt_of_cell (gc j u hu))).trans (gc j u hu)
        have HLZ : Hid ((ints .u8 zs).length = n * 1) := g3
        clear gc g3 hown hva
        go_wp2_with (first | (go_at_call 81; refine (l1Right _ _).mono ?_; rintro e w' ⟨rfl, rfl⟩) | (at_builtin; refine append_law Tryz.elemBytes rfl _ _ rfl _ _ _ _ _ rfl hown0 b0 off0 n cap0 (ints .u8 zs) rfl HLZ.out HC.out (ints_one _ _) (by unfold maxLen; omega) (by omega) ?_))
        intro v3 w3 hown3 hext3
        have R0 : Own 5 1 w.heap.size w3.heap.size w3 v3 n (ints .u8 zs) := by
          have := hown3.lower hbr.size
          simpa using this
        have hb3 := hb0.trans ((hext3.below hown0).mono hbr.size)
        clear hown3 hext3 hown0 hb0
        go_wp2
        go_ret
        refine ⟨_, rfl, ?_, hb3⟩
        rw [HP.out, HZ.out]
        exact R0
    · obtain rfl : k = m := by omega
      have e : l.take k = l := by rw [← HM.out]; exact List.take_length
      rw [e] at hown HOK
      have HP : Hid (Num.putL zs l = Num.puts zs ((k : Int) :: l)) := (Num.putL_ok HOK.out).trans (by rw [HM.out])
      clear e
      go_wp2
      go_ret
      refine ⟨_, rfl, ?_, hbr⟩
      rw [HP.out]
      exact hown

end Go.Proofs.YtkofafefnlommaaGreat
