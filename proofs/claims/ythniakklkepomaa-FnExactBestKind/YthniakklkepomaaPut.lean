/- The contracts of the program's ownBytes, appendGroups, appendNums and PutNum, and of the model's PutNum. -/
import Derived.Test.YthniakklkepomaaZig
import Derived.Test.YthniakklkepomaaBytes
namespace Go.Proofs.Ythniakklkepomaa
open Go.RowKit

set_option maxHeartbeats 400000 in
theorem appendGroups (v : Value) (lo hi : Nat) (zs : List Int) (u : Int) (w : World) (hn : zs.length ≤ 2147483648) (h0 : 0 ≤ u) (hu : u ≤ 2000000000) (h : Own 5 1 lo hi w v zs.length (ints .u8 zs)) :
    Calls Try.prog 72 #[v, .int .i64 u] w fun e w' => ∃ v', e = .returned v' ∧ Own 5 1 lo w'.heap.size w' v' (zs ++ Num.grp 4 u).length (ints .u8 (zs ++ Num.grp 4 u)) ∧ Ext w w' v v' := by
  go_enter Try.func72, Try.ntmps72
  go_wp2
  go_loopw [0, 1] (fun v1 t wr => ∃ (f : Nat) (pre : List Int) (x : Int), t = .int .i64 x ∧ 0 ≤ x ∧ x ≤ 2000000000 ∧ x < 128 ^ (f + 1) ∧ pre ++ Num.grp f x = Num.grp 4 u ∧ pre.length + f = 4 ∧ Own 5 1 lo wr.heap.size wr v1 (zs ++ pre).length (ints .u8 (zs ++ pre)) ∧ Ext w wr v v1) (fun _ t _ => (intOf t).toNat)
  case atStart => 
    refine ⟨4, [], u, rfl, h0, hu, ?_, by simp, rfl, ?_, Ext.refl _ _⟩
    · have : (128 : Int) ^ (4 + 1) = 34359738368 := by decide
      omega
    · obtain ⟨g, cap, rfl, a1, a2, a3⟩ := h
      simp only [List.append_nil]
      exact ⟨g, cap, rfl, a1, (a3.lt g rfl).2, a3⟩
  case round =>
    obtain ⟨f, pre, x, rfl, hx0, hx1, hx2, hg, hf, hown, hext⟩ := hrel
    have HG := Lib.hid hg
    have HF := Lib.hid hf
    have hpl : pre.length ≤ 4 := by omega
    clear hg hf
    have hlen : (zs ++ pre).length ≤ 2147483652 := by rw [List.length_append]; omega
    generalize hN : (zs ++ pre).length = N at hown hlen
    have HN := Lib.hid hN
    clear hN
    by_cases hlt : 128 ≤ x
    · go_wp2_with (at_builtin; refine append1_law Try.elemBytes rfl _ _ rfl _ _ _ _ _ (.int .u8 (x % 128 + 128)) rfl rfl hown rfl (by unfold maxLen; omega) (by omega) ?_)
      intro v' w1 hown' hext'
      have hx := hext.trans hext'
      have R := Lib.hid hown'
      clear hown' hext' hext hown
      go_wp2
      go_roundw
      case rel =>
        obtain ⟨f', rfl⟩ : ∃ f', f = f' + 1 := by
          cases f with
          | zero => exfalso; simp at hx2; omega
          | succ f' => exact ⟨f', rfl⟩
        have HF' := HF.out
        refine ⟨f', pre ++ [x % 128 + 128], x / 128, by go_num, by omega, by omega, ?_, ?_, by simp; omega, ?_, hx⟩
        · have : x < 128 ^ (f' + 1) * 128 := by rw [Int.pow_succ] at hx2; exact hx2
          omega
        · rw [← HG.out, Num.grp_step hlt]; simp
        · have e : (zs ++ (pre ++ [x % 128 + 128])).length = N + 1 := by rw [← HN.out]; simp; omega
          have e2 : ints .u8 (zs ++ (pre ++ [x % 128 + 128])) = ints .u8 (zs ++ pre) ++ [.int .u8 (x % 128 + 128)] := by simp [ints]
          rw [e, e2]
          exact R.out
      case measure => simp [intOf]; omega
    · go_wp2_with (at_builtin; refine append1_law Try.elemBytes rfl _ _ rfl _ _ _ _ _ (.int .u8 x) rfl rfl hown rfl (by unfold maxLen; omega) (by omega) ?_)
      intro v' w1 hown' hext'
      have hx := hext.trans hext'
      clear hext' hext hown
      have e : (zs ++ Num.grp 4 u).length = N + 1 := by rw [← HG.out, Num.grp_last (by omega), ← HN.out]; simp; omega
      have e2 : ints .u8 (zs ++ Num.grp 4 u) = ints .u8 (zs ++ pre) ++ [.int .u8 x] := by rw [← HG.out, Num.grp_last (by omega)]; simp [ints]
      rw [← e2, ← e] at hown'
      clear e e2
      have R := Lib.hid hown'
      clear hown'
      go_wp2
      go_ret
      exact ⟨_, rfl, R.out, hx⟩

theorem take_snoc (l : List Int) (k : Nat) (h : k < l.length) : l.take (k + 1) = l.take k ++ [l.getD k 0] := by
  rw [List.take_succ_eq_append_getElem h]; simp [h]

set_option maxHeartbeats 400000 in
theorem appendNums (v vl : Value) (lo hi n m : Nat) (zs l : List Int) (w : World) (hz : zs.length = n) (hm : l.length = m) (hn : n ≤ 1073741829) (hml : m ≤ 134217728) (h : Own 5 1 lo hi w v n (ints .u8 zs)) (hl : At 1 w vl m (ints .i64 l))
    (hne : 0 < m → vl.ownBlock ≠ v.ownBlock) :
    Calls Try.prog 61 #[v, vl] w fun e w' => ∃ v', e = .returned v' ∧ Own 5 1 lo w'.heap.size w' v' (Num.puts zs l).length (ints .u8 (Num.puts zs l)) ∧ Ext w w' v v' := by
  obtain ⟨b, off, cap, rfl, h1, h2, h3, hc⟩ := hl
  have HM := Lib.hid hm
  have HZ := Lib.hid hz
  clear hm hz h3
  go_enter Try.func61, Try.ntmps61
  go_wp2
  go_loopw [0, 9] (fun v1 i wr => ∃ k : Nat, k ≤ m ∧ i = .int .i64 k ∧ Own 5 1 lo wr.heap.size wr v1 (Num.puts zs (l.take k)).length (ints .u8 (Num.puts zs (l.take k))) ∧ Ext w wr v v1) (fun _ i _ => m - (intOf i).toNat)
  case atStart =>
    refine ⟨0, Nat.zero_le _, rfl, ?_, Ext.refl _ _⟩
    obtain ⟨g, cap, rfl, a1, a2, a3⟩ := h
    simp only [List.take_zero, Num.puts, List.foldl_nil]
    rw [HZ.out]
    exact ⟨g, cap, rfl, a1, (a3.lt g rfl).2, a3⟩
  case round =>
    obtain ⟨k, hk, rfl, hown, hext⟩ := hrel
    have hpl := (Num.puts_len zs (l.take k)).2
    have hzl : zs.length ≤ 1073741829 := by rw [HZ.out]; exact hn
    have htl : (l.take k).length ≤ 134217728 := by rw [List.length_take]; omega
    by_cases hlt : k < m
    · have hc0 : w.cell? ⟨b, off + k, none⟩ = some (.int .i64 (l.getD k 0)) := At.cell hc HM.out hlt
      have hcx : wr.cell? ⟨b, off + k, none⟩ = some (.int .i64 (l.getD k 0)) := (World.cell?_of_block (w := w) (hext.grown.block b (lt_of_cell hc0) (by simpa [Value.ownBlock] using hne (by omega)))).trans hc0
      have hts : Hid (l.take (k + 1) = l.take k ++ [l.getD k 0]) := take_snoc l k (by rw [HM.out]; exact hlt)
      generalize l.getD k 0 = x at hc0 hcx hts
      clear hc0 hc
      have hzb := Num.zig_bd x
      go_wp2_with (first | (go_at_call 73; refine (iZigZag _ _).mono ?_; rintro e w' ⟨rfl, rfl⟩) | (go_at_call 72; refine (appendGroups _ lo _ _ _ _ (by omega) hzb.1 hzb.2 hown).mono ?_; rintro e w2 ⟨v2, rfl, hown2, hext2⟩))
      go_roundw
      case rel =>
        refine ⟨k + 1, by omega, by go_num, ?_, hext.trans hext2⟩
        rw [hts.out, Num.puts_snoc]
        exact hown2
      case measure => simp [intOf]; omega
    · obtain rfl : k = m := by omega
      have e : l.take k = l := by rw [← HM.out]; exact List.take_length
      rw [e] at hown
      clear e
      go_wp2
      go_ret
      exact ⟨_, rfl, hown, hext⟩

theorem own_ne {e size lo hi w v n xs} {g m c : Nat} (h : Own e size lo hi w v n xs) (hg : hi ≤ g) : Value.ownBlock (.slice (some ⟨g, 0, none⟩) m c) ≠ v.ownBlock := by
  obtain ⟨g', cap, rfl, h1, h2, h3⟩ := h
  simp [Value.ownBlock]
  omega

set_option maxHeartbeats 400000 in
theorem sPutNum (v : Value) (n : Nat) (zs : List Int) (x : Int) (w : World) (hn : n ≤ 1073741824) (hz : zs.length = n) (h : At 1 w v n (ints .u8 zs)) :
    Calls Try.prog 41 #[v, .int .i64 x] w fun e w' => ∃ v', e = .returned v' ∧ Own 5 1 w.heap.size w'.heap.size w' v' (Num.put zs x).length (ints .u8 (Num.put zs x)) ∧ Below w.heap.size w w' := by
  have HZ := Lib.hid hz
  clear hz
  obtain ⟨b, off, cap, rfl, h1, h2, h3, hc⟩ := h
  have hown0 := own_lit (e := 5) (size := 1) w #[] 0 (Nat.zero_le _) rfl
  have hb0 := below_alloc w (.cells #[] 5)
  have HC : Hid (∀ j u, (ints .u8 zs)[j]? = some u → (w.alloc (.cells #[] 5)).cell? ⟨b, off + j, none⟩ = some u) := fun j u hu => (hb0.cell (p := ⟨b, off + j, none⟩) (lt_of_cell (hc j u hu))).trans (hc j u hu)
  have HLZ : Hid ((ints .u8 zs).length = n * 1) := h3
  clear hc h3
  go_enter Try.func41, Try.ntmps41
  go_wp2_with (at_builtin; refine append_law Try.elemBytes rfl _ _ rfl _ _ _ _ _ rfl hown0 b off n cap (ints .u8 zs) rfl HLZ.out HC.out (ints_one _ _) (by unfold maxLen; omega) (by omega) ?_)
  intro v1 w1 hown1 hext1
  have R0 : Own 5 1 w.heap.size w1.heap.size w1 v1 n (ints .u8 zs) := by simpa using hown1
  have hb1 := hb0.trans (hext1.below hown0)
  clear hown1 hext1 hown0 hb0
  by_cases hx : Num.ok x
  · have hb : Num.okB x = true := Num.okB_true.2 hx
    have HP : Hid (Num.put zs x = zs ++ Num.grp 4 (Num.zig x)) := Num.put_ok hx
    clear hx
    have hzb := Num.zig_bd x
    obtain ⟨u, hu⟩ : ∃ u, Num.zig x = u := ⟨_, rfl⟩
    have HU := Lib.hid hu
    rw [hu] at hzb
    clear hu
    obtain ⟨hz0, hz1⟩ := hzb
    go_wp2_with (first | (go_at_call 55; refine (l1Right _ _).mono ?_; rintro e w' ⟨rfl, rfl⟩) | (go_at_call 56; refine (sZigZag _ _).mono ?_; rw [HU.out]; rintro e w' ⟨rfl, rfl⟩))
    go_loopw [5, 6] (fun v2 t wr => ∃ (f : Nat) (pre : List Int) (y : Int), t = .int .i64 y ∧ 0 ≤ y ∧ y ≤ 2000000000 ∧ y < 128 ^ (f + 1) ∧ pre ++ Num.grp f y = Num.grp 4 u ∧ pre.length + f = 4 ∧ Own 5 1 w.heap.size wr.heap.size wr v2 (zs ++ pre).length (ints .u8 (zs ++ pre)) ∧ Below w.heap.size w wr) (fun _ t _ => (intOf t).toNat)
    case atStart =>
      refine ⟨4, [], u, rfl, hz0, hz1, ?_, by simp, rfl, ?_, hb1⟩
      · have : (128 : Int) ^ (4 + 1) = 34359738368 := by decide
        omega
      · simp only [List.append_nil]
        rw [HZ.out]
        exact R0
    case round =>
      obtain ⟨f, pre, y, rfl, hx0, hx1, hx2, hg, hf, hown, hbr⟩ := hrel
      have HG := Lib.hid hg
      have HF := Lib.hid hf
      have hpl : pre.length ≤ 4 := by omega
      clear hg hf
      have hlen : (zs ++ pre).length ≤ 2147483652 := by rw [List.length_append, HZ.out]; omega
      generalize hN : (zs ++ pre).length = N at hown hlen
      have HN := Lib.hid hN
      clear hN
      by_cases hlt : 127 < y
      · go_wp2_with (at_builtin; refine append1_law Try.elemBytes rfl _ _ rfl _ _ _ _ _ (.int .u8 (128 + y % 128)) rfl rfl hown rfl (by unfold maxLen; omega) (by omega) ?_)
        intro v' w2 hown' hext'
        have hb2 := hbr.trans (hext'.below hown)
        have R := Lib.hid hown'
        clear hown' hext' hown hbr
        go_wp2
        go_roundw
        case rel =>
          obtain ⟨f', rfl⟩ : ∃ f', f = f' + 1 := by
            cases f with
            | zero => exfalso; simp at hx2; omega
            | succ f' => exact ⟨f', rfl⟩
          have HF' := HF.out
          refine ⟨f', pre ++ [y % 128 + 128], y / 128, by go_num, by omega, by omega, ?_, ?_, by simp; omega, ?_, hb2⟩
          · have : y < 128 ^ (f' + 1) * 128 := by rw [Int.pow_succ] at hx2; exact hx2
            omega
          · rw [← HG.out, Num.grp_step (by omega)]; simp
          · have e : (zs ++ (pre ++ [y % 128 + 128])).length = N + 1 := by rw [← HN.out]; simp; omega
            have e2 : ints .u8 (zs ++ (pre ++ [y % 128 + 128])) = ints .u8 (zs ++ pre) ++ [.int .u8 (128 + y % 128)] := by rw [Int.add_comm 128]; simp [ints]
            rw [e, e2]
            exact R.out
        case measure => simp [intOf]; omega
      · go_wp2_with (at_builtin; refine append1_law Try.elemBytes rfl _ _ rfl _ _ _ _ _ (.int .u8 y) rfl rfl hown rfl (by unfold maxLen; omega) (by omega) ?_)
        intro v' w2 hown' hext'
        have hb2 := hbr.trans (hext'.below hown)
        clear hext' hbr hown
        have e : (zs ++ Num.grp 4 u).length = N + 1 := by rw [← HG.out, Num.grp_last (by omega), ← HN.out]; simp; omega
        have e2 : ints .u8 (zs ++ Num.grp 4 u) = ints .u8 (zs ++ pre) ++ [.int .u8 y] := by rw [← HG.out, Num.grp_last (by omega)]; simp [ints]
        rw [← e2, ← e] at hown'
        clear e e2
        have R := Lib.hid hown'
        clear hown'
        go_wp2
        go_ret
        refine ⟨_, rfl, ?_, hb2⟩
        rw [HP.out, HU.out]
        exact R.out
  · have hb : Num.okB x = false := Num.okB_false.2 hx
    have HP : Hid (Num.put zs x = zs) := Num.put_no hx
    clear hx
    go_wp2_with (go_at_call 55; refine (l1Right _ _).mono ?_; rintro e w' ⟨rfl, rfl⟩)
    go_ret
    refine ⟨_, rfl, ?_, hb1⟩
    rw [HP.out, HZ.out]
    exact R0

end Go.Proofs.Ythniakklkepomaa
