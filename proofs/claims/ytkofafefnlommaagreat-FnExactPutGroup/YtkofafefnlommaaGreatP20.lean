/- Texts of this claim, one behind the other: S5p. -/
import Derived.Test.YtkofafefnlommaaGreatP16
import Derived.Test.YtkofafefnlommaaGreatP5
import Derived.Test.YtkofafefnlommaaGreatP7

/- The contract of the model's PutVal. -/
namespace Go.Proofs.YtkofafefnlommaaGreat
open Go.RowKit

/-- PutVal. -/
def putV (zs : List Int) (v : V) : List Int := if okV v = true then (if v.ty = 1 then Num.put zs v.n else zs ++ ((v.s.size : Int) :: sbytes v.s)) else zs
theorem okV_txt {v : V} (h : okV v = true) (ht : ¬ v.ty = 1) : v.s.size ≤ 6 := by
  unfold okV at h
  rw [if_neg ht] at h
  simp only [Bool.and_eq_true] at h
  have h2 := h.2.2
  unfold txtB at h2
  simp only [Bool.and_eq_true, decide_eq_true_eq] at h2
  first | exact h2.1 | exact h2.2
theorem putV_len (zs : List Int) (v : V) : zs.length ≤ (putV zs v).length ∧ (putV zs v).length ≤ zs.length + 7 := by
  unfold putV
  split
  · split
    · have := Num.put_len zs v.n
      omega
    · rename_i h ht
      have := okV_txt h ht
      simp only [List.length_append, List.length_cons, sbytes_len]
      omega
  · omega

theorem below_alloc_own {e size lo hi w v n xs} (h : Own e size lo hi w v n xs) (o : Obj) : Below lo w (w.alloc o) := (Below.refl lo w).alloc h.lo o

set_option maxHeartbeats 2000000 in
theorem sPutVal (v : Value) (n : Nat) (zs : List Int) (x : V) (w : World) (hn : n ≤ 1073741824) (hs : x.s.size ≤ maxLen) (hz : zs.length = n) (h : At 1 w v n (ints .u8 zs)) :
    Calls Tryz.prog 116 #[v, x.agg] w fun e w' => ∃ v', e = .returned v' ∧ Own 5 1 w.heap.size w'.heap.size w' v' (putV zs x).length (ints .u8 (putV zs x)) ∧ Below w.heap.size w w' := by
  have HZ := Lib.hid hz
  clear hz
  obtain ⟨b, off, cap, rfl, h1, h2, h3, hc⟩ := h
  obtain ⟨wb, hwb⟩ : ∃ wb, w.alloc (.cells #[.int .i64 x.ty, .int .i64 x.n, .string x.s] 77) = wb := ⟨_, rfl⟩
  have B0 := below_alloc w (.cells #[.int .i64 x.ty, .int .i64 x.n, .string x.s] 77)
  have HX0 : Hid (wb.cell? ⟨w.heap.size, 0, none⟩ = some (.int .i64 x.ty) ∧ wb.cell? ⟨w.heap.size, 1, none⟩ = some (.int .i64 x.n) ∧ wb.cell? ⟨w.heap.size, 2, none⟩ = some (.string x.s)) := by
    rw [← hwb]
    exact ⟨by simp, by simp, by simp⟩
  have hsz : wb.heap.size = w.heap.size + 1 := by rw [← hwb]; simp
  rw [hwb] at B0
  have hown0 := own_lit (e := 5) (size := 1) wb #[] 0 (Nat.zero_le _) rfl
  have hb0 := below_alloc wb (.cells #[] 5)
  have HC : Hid (∀ j u, (ints .u8 zs)[j]? = some u → (wb.alloc (.cells #[] 5)).cell? ⟨b, off + j, none⟩ = some u) := fun j u hu => by
    have := below_then B0 hb0 B0.size
    exact (this.cell (p := ⟨b, off + j, none⟩) (lt_of_cell (hc j u hu))).trans (hc j u hu)
  have HLZ : Hid ((ints .u8 zs).length = n * 1) := h3
  have HO := Lib.hid (fun W => sValOk x W hs)
  have HE : Hid (putV zs x = if okV x = true then (if x.ty = 1 then Num.put zs x.n else zs ++ ((x.s.size : Int) :: sbytes x.s)) else zs) := rfl
  have HSZ : Hid (okV x = true → ¬ x.ty = 1 → x.s.size ≤ 6) := fun h1 h2 => okV_txt h1 h2
  clear hc h3 hs
  obtain ⟨t, xn, s⟩ := x
  simp only at HX0 HE HSZ hwb
  rw [hsz] at hown0
  go_enter Tryz.func116, Tryz.ntmps116
  go_wp2_with (at_builtin; refine append_law Tryz.elemBytes rfl _ _ rfl _ _ _ _ _ rfl hown0 b off n cap (ints .u8 zs) rfl HLZ.out HC.out (ints_one _ _) (by unfold maxLen; omega) (by omega) ?_)
  intro v1 w1 hown1 hext1
  have R0 : Own 5 1 (w.heap.size + 1) w1.heap.size w1 v1 n (ints .u8 zs) := by simpa using hown1
  have hb1 : Below (w.heap.size + 1) wb w1 := ((Below.refl _ _).alloc (by omega) _).trans (hext1.below hown0)
  have B1 : Below w.heap.size w w1 := B0.trans (hb1.mono (by omega))
  have HX1 : Hid (w1.cell? ⟨w.heap.size, 0, none⟩ = some (.int .i64 t) ∧ w1.cell? ⟨w.heap.size, 1, none⟩ = some (.int .i64 xn) ∧ w1.cell? ⟨w.heap.size, 2, none⟩ = some (.string s)) :=
    ⟨(hb1.cell (p := ⟨w.heap.size, 0, none⟩) (by simp)).trans HX0.out.1, (hb1.cell (p := ⟨w.heap.size, 1, none⟩) (by simp)).trans HX0.out.2.1, (hb1.cell (p := ⟨w.heap.size, 2, none⟩) (by simp)).trans HX0.out.2.2⟩
  obtain ⟨g1, cap1, rfl⟩ : ∃ g cp, v1 = .slice (some ⟨g, 0, none⟩) n cp := by
    obtain ⟨g, cp, e, _⟩ := R0
    exact ⟨g, cp, e⟩
  have hw1 : w.heap.size + 1 ≤ w1.heap.size := by have := hb1.size; omega
  clear hown1 hext1 hown0 hb0 HX0 hb1 B0 HC hwb hsz
  clear wb
  obtain ⟨q0, q1, q2⟩ := HX1.out
  go_wp2_with fail
  refine (HO.out _).mono ?_
  rintro e w2 ⟨rfl, hb2⟩
  have R2 := (R0.below hb2 (Nat.le_refl _)).wide hb2.size
  have B2 := below_then B1 hb2 B1.size
  replace q0 := (hb2.cell (p := ⟨w.heap.size, 0, none⟩) (by simp; omega)).trans q0
  replace q1 := (hb2.cell (p := ⟨w.heap.size, 1, none⟩) (by simp; omega)).trans q1
  replace q2 := (hb2.cell (p := ⟨w.heap.size, 2, none⟩) (by simp; omega)).trans q2
  have hw2 : w.heap.size + 1 ≤ w2.heap.size := by have := hb2.size; omega
  have HLW := Lib.hid hw2
  clear R0 B1 HX1 hb2 hw1 HO
  cases hok : okV ⟨t, xn, s⟩ with
  | false =>
    rw [hok, if_neg (by simp)] at HE
    clear hok HSZ
    go_wp2
    go_ret
    refine ⟨_, rfl, ?_, B2⟩
    rw [HE.out, HZ.out]
    exact R2.lower (by omega)
  | true =>
    rw [hok, if_pos rfl] at HE
    by_cases ht : t = 1
    · subst ht
      rw [if_pos rfl] at HE
      have HP := Lib.hid (sPutNum (.slice (some ⟨g1, 0, none⟩) n cap1) n zs xn w2 hn HZ.out R2.at)
      clear hok HSZ
      go_wp2_with fail
      refine HP.out.mono ?_
      rintro e w3 ⟨v3, rfl, o3, hb3⟩
      have B3 := below_then B2 hb3 B2.size
      rw [← HE.out] at o3
      have O3 := Lib.hid o3
      clear o3 hb3 HP q0 q1 q2
      go_wp2
      go_ret
      exact ⟨_, rfl, O3.out.lower (by have := HLW.out; omega), B3⟩
    · have hs6 := HSZ.out hok ht
      rw [if_neg ht] at HE
      have htb : (t == 1) = false := by simpa using ht
      have hwr : IntKind.u8.wrap (s.size : Int) = s.size := by
        simp only [IntKind.wrap, IntKind.bits, IntKind.signed, Bool.false_and, Bool.false_eq_true, if_false]
        omega
      clear hok HSZ
      go_wp2
      refine wp_region_held_drew (S := fun W => W.cell? ⟨w.heap.size, 2, none⟩ = some (.string s)) (by kernel_rfl) q2 (fun hHeld => ?_)
      refine takeH (i := 0) (d := some 20) (v := .slice (some ⟨g1, 0, none⟩) n cap1) rfl rfl (by kernel_rfl) (by kernel_rfl) (by kernel_rfl) (fun _ _ _ h => h) (Or.inl ⟨by rfl, fun W hSw => by go_simp⟩) hHeld ?_
      simp only [put_some, List.set_cons_zero, List.set_cons_succ]
      refine takeH (i := 1) (d := some 21) (v := .pointer (some ⟨w.heap.size, 2, none⟩)) rfl rfl (by kernel_rfl) (by kernel_rfl) (by kernel_rfl) (fun _ _ _ h => h) (Or.inl ⟨by rfl, fun W hSw => by go_simp⟩) hHeld ?_
      simp only [put_some, List.set_cons_zero, List.set_cons_succ]
      refine takeH (i := 2) (d := some 22) (v := .string s) rfl rfl (by kernel_rfl) (by kernel_rfl) (by kernel_rfl) (fun _ _ _ h => h) (Or.inl ⟨by rfl, fun W hSw => by go_simp⟩) hHeld ?_
      simp only [put_some, List.set_cons_zero, List.set_cons_succ]
      refine takeH (i := 3) (d := some 23) (v := .int .i64 (s.size : Int)) rfl rfl (by kernel_rfl) (by kernel_rfl) (by kernel_rfl) (fun _ _ _ h => h) (Or.inl ⟨by rfl, fun W hSw => by go_simp⟩) hHeld ?_
      simp only [put_some, List.set_cons_zero, List.set_cons_succ]
      refine takeH (i := 4) (d := some 24) (v := .int .u8 (s.size : Int)) rfl rfl (by kernel_rfl) (by kernel_rfl) (by kernel_rfl) (fun _ _ _ h => h) (Or.inl ⟨by rfl, fun W hSw => by go_simp⟩) hHeld ?_
      simp only [put_some, List.set_cons_zero, List.set_cons_succ]
      refine takeH (i := 7) (d := some 27) (v := .pointer (some ⟨w.heap.size, 2, none⟩)) rfl rfl (by kernel_rfl) (by kernel_rfl) (by kernel_rfl) (fun _ _ _ h => h) (Or.inl ⟨by rfl, fun W hSw => by go_simp⟩) hHeld ?_
      simp only [put_some, List.set_cons_zero, List.set_cons_succ]
      refine takeH (i := 8) (d := some 28) (v := .string s) rfl rfl (by kernel_rfl) (by kernel_rfl) (by kernel_rfl) (fun _ _ _ h => h) (Or.inl ⟨by rfl, fun W hSw => by go_simp⟩) hHeld ?_
      simp only [put_some, List.set_cons_zero, List.set_cons_succ]
      refine wpAnyH_ready (rs := [5]) (by kernel_rfl) (by simp) ?_
      refine AllReadyH.cons rfl (fun K hK => ?_) AllReadyH.nil
      go_simp
      refine hK.out _ _ ((below_alloc w2.drew _).cell (p := ⟨w.heap.size, 2, none⟩) (lt_of_cell hHeld) |>.trans hHeld) (fun hHeld => ?_)
      clear hK K
      refine wpAnyH_ready (rs := [6]) (by kernel_rfl) (by simp) ?_
      refine AllReadyH.cons rfl (fun K hK => ?_) AllReadyH.nil
      refine append1_op Tryz.elemBytes (.tmp 20) (.tmp 25) rfl (w.heap.size + 1) w2.heap.size (.slice (some ⟨g1, 0, none⟩) n cap1) n (ints .u8 zs) (.int .u8 (s.size : Int)) rfl rfl R2.drew rfl (by unfold maxLen; omega) (by omega) ?_
      intro v4 w4 o4 e4
      obtain ⟨g4, cap4, rfl⟩ : ∃ g cp, v4 = .slice (some ⟨g, 0, none⟩) (n + 1) cp := by
        obtain ⟨g, cp, e, _⟩ := o4
        exact ⟨g, cp, e⟩
      have B4 : Below (w.heap.size + 1) w2.drew w4 := ((Below.refl _ _).alloc (by simpa using hw2) _).trans (e4.below (R2.drew.alloc _))
      refine hK.out _ _ ((B4.cell (p := ⟨w.heap.size, 2, none⟩) (by simp)).trans q2) (fun hHeld => ?_)
      clear hK K e4
      refine wpAnyH_ready (rs := [9]) (by kernel_rfl) (by simp) ?_
      refine AllReadyH.cons rfl (fun K hK => ?_) AllReadyH.nil
      refine appendS_op Tryz.elemBytes Tryz.underlying9 (.tmp 26) (.tmp 28) rfl (w.heap.size + 1) w4.heap.size (.slice (some ⟨g4, 0, none⟩) (n + 1) cap4) (n + 1) (ints .u8 zs ++ [.int .u8 (s.size : Int)]) s rfl o4 rfl (by unfold maxLen; omega) (by omega) ?_
      intro v5 w5 o5 b5
      obtain ⟨g5, cap5, rfl⟩ : ∃ g cp, v5 = .slice (some ⟨g, 0, none⟩) (n + 1 + s.size) cp := by
        obtain ⟨g, cp, e, _⟩ := o5
        exact ⟨g, cp, e⟩
      have B5 := Lib.hid (B2.drew.trans ((B4.trans b5).mono (Nat.le_succ _)))
      have HC5 : Hid (w5.cell? ⟨w.heap.size, 2, none⟩ = some (.string s)) := (b5.cell (p := ⟨w.heap.size, 2, none⟩) (by simp)).trans hHeld
      have O5 : Hid (Own 5 1 w.heap.size w5.heap.size w5 (.slice (some ⟨g5, 0, none⟩) (n + 1 + s.size) cap5) (putV zs ⟨t, xn, s⟩).length (ints .u8 (putV zs ⟨t, xn, s⟩))) := by
        show Own _ _ _ _ _ _ _ _
        rw [HE.out]
        have e1 : (zs ++ ((s.size : Int) :: sbytes s)).length = n + 1 + s.size := by
          simp only [List.length_append, List.length_cons, sbytes_len, HZ.out]
          omega
        have e2 : ints .u8 (zs ++ ((s.size : Int) :: sbytes s)) = ints .u8 zs ++ [.int .u8 (s.size : Int)] ++ ints .u8 (sbytes s) := by simp [ints]
        rw [e1, e2]
        exact o5.lower (by omega)
      clear o5 b5 B4 o4 hHeld
      go_simp
      refine hK.out _ _ HC5.out (fun hHeld => ?_)
      clear hK K
      refine takeH (i := 10) (d := some 4) (v := .slice (some ⟨g5, 0, none⟩) (n + 1 + s.size) cap5) rfl rfl (by kernel_rfl) (by kernel_rfl) (by kernel_rfl) (fun _ _ _ h => h) (Or.inl ⟨by rfl, fun W hSw => by go_simp⟩) hHeld ?_
      simp only [put_some, List.set_cons_zero, List.set_cons_succ]
      refine wpAnyH_done (by kernel_rfl) ?_ _
      go_wp2
      go_ret
      exact ⟨_, rfl, O5.out, B5.out⟩

end Go.Proofs.YtkofafefnlommaaGreat
