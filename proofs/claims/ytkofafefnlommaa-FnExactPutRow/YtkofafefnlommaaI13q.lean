/- The program's PutRow (written by mk_S13p.py). -/
import Derived.Test.YtkofafefnlommaaC13p
import Derived.Test.YtkofafefnlommaaI13i
import Derived.Test.YtkofafefnlommaaI13x
namespace Go.Proofs.Ytkofafefnlommaa
open Go.RowKit

set_option maxRecDepth 100000 in
set_option maxHeartbeats 1500000 in
theorem iPutRow : CPutRow 12 := by
  intro v u r ps ls w hn hli hv hr hrl hu hls
  subst hls
  have HRD : Hid (RdRsN w v ps) := ⟨hv.rd, hr⟩
  generalize hl : ps.length = n at hn hv
  have HLM : Hid ((ps.map (·.1)).length = n) := by show _ = _; rw [List.length_map, hl]
  have HCR := Lib.hid (fun W (hW : Below w.heap.size w W) => iCopyRows v ps W (by omega) hli (HRD.out.below hW))
  have HCP := Lib.hid (fun W (hW : Below w.heap.size w W) => iCopyRow r u W hrl (hu.below hW))
  obtain ⟨b, off, cap, rfl, _, _, _, _⟩ := hv
  obtain ⟨ua, uc, rfl⟩ := hu.sl
  obtain ⟨ri, rl⟩ := r
  generalize hrn : rl.length = rn at HCP hrl ⊢
  have HRN := Lib.hid hrn
  simp only at HCP hrl
  have B0 := below_alloc w (.cells #[.int .i64 ri, .slice ua rn uc] 27)
  have T0 := two_new w (.int .i64 ri) (.slice ua rn uc) 27
  have hz0 : (w.alloc (.cells #[.int .i64 ri, .slice ua rn uc] 27)).heap.size = w.heap.size + 1 := World.size_alloc _ _
  generalize hw0 : w.alloc (.cells #[.int .i64 ri, .slice ua rn uc] 27) = w0 at B0 T0 hz0
  have HW0 := Lib.hid hw0
  have hmf : ∀ fn first cap w, (Instr.makeFunc fn first cap).run Try.prog w = .ok (.func fn first cap) w := fun _ _ _ _ => rfl
  have hkle := putK_le (ps.map (·.1)) ri
  rw [HLM.out] at hkle
  have HAT : Hid ((putAt (ps.map (·.1)) ri = -1 ∧ putK (ps.map (·.1)) ri = n) ∨ putAt (ps.map (·.1)) ri = (putK (ps.map (·.1)) ri : Int)) := by
    show _ ∨ _
    unfold putAt
    rw [HLM.out]
    split
    · rename_i h; exact .inl ⟨rfl, h⟩
    · exact .inr rfl
  generalize hk : putK (ps.map (·.1)) ri = k at hkle HAT
  have HK := Lib.hid hk
  have HL := Lib.hid hl
  clear hw0 hl hr hli hu hrn hk
  go_enter Try.func12, Try.ntmps12
  go_wp2_with fail
  rw [HW0.out]
  refine (HCR.out _ B0).mono ?_
  rintro e w1 ⟨vo, qs, rfl, M1, e1, ⟨g1, c1, rfl⟩, b1⟩
  have T1 := T0.below b1
  have B1 := below_then B0 b1 B0.size
  have hz1 := b1.size
  have E1 := Lib.hid e1
  have HQL : Hid (qs.length = n) := by
    show _ = _
    have e := congrArg List.length e1
    rw [List.length_map, List.length_map, HL.out] at e
    exact e
  have hq48 : qs.length ≤ 1048576 := by rw [HQL.out]; exact hn
  have hkq : k ≤ qs.length := by rw [HQL.out]; exact hkle
  have HIX := Lib.hid (iIndexRow (.slice (some ⟨g1, 0, none⟩) qs.length c1) qs ri w.heap.size w1 (by omega) M1.rd T1.1.1)
  rw [e1] at HIX
  generalize putAt (ps.map (·.1)) ri = z at HIX HAT
  clear e1 b1 T0 HCR
  go_wp2_with fail
  refine HIX.out.mono ?_
  rintro e w2 ⟨rfl, b2⟩
  clear HIX
  rcases HAT.out with ⟨rfl, hkn⟩ | rfl
  · have HKE : Hid (putK (ps.map (·.1)) ri = qs.length) := by show _ = _; rw [HK.out, hkn]; exact HQL.out.symm
    clear hkn
    have OA : Own 27 2 w0.heap.size w1.heap.size w1 (.slice (some ⟨g1, 0, none⟩) qs.length c1) qs.length (prs qs) := M1.1.resolve_left (fun h => by cases h.1)
    obtain ⟨⟨q0, q1⟩, q2, q3⟩ := T1.below b2
    have B2 := below_then B1 b2 B1.size
    have M2 := M1.below b2 (Nat.le_refl _)
    have OA2 := OA.below b2 (Nat.le_refl _)
    have hz2 := b2.size
    have HCP2 := Lib.hid (HCP.out _ B2)
    clear b2 OA T1 M1
    go_wp2_with fail
    refine HCP2.out.mono ?_
    rintro e w3 ⟨y, rfl, oy, b3⟩
    obtain ⟨ya, yc, hy⟩ := oy.atN.sl
    rw [HRN.out] at hy
    subst hy
    clear q0 q1 q2 q3
    have B3 := below_then B2 b3 B2.size
    have M3 := M2.below b3 (by omega)
    have OA3 := OA2.below b3 (by omega)
    have hz3 := b3.size
    have A4 := below_alloc w3 (.cells #[.int .i64 ri, .slice ya rn yc] 27)
    have B4 := below_then B3 A4 B3.size
    have M4 := M3.below A4 (by omega)
    have OA4 := OA3.below A4 (by omega)
    have oy4 := (oy.below A4 (Nat.le_refl _)).wide (show w1.heap.size ≤ w2.heap.size by omega) A4.size
    have hz4 : (w3.alloc (.cells #[.int .i64 ri, .slice ya rn yc] 27)).heap.size = w3.heap.size + 1 := World.size_alloc _ _
    have hv4 : (w3.alloc (.cells #[.int .i64 ri, .slice ya rn yc] 27)).heap[w3.heap.size]? = some (.cells #[.int .i64 ri, .slice ya rn yc] 27 (0, 0)) := by
      show (w3.heap.push _)[w3.heap.size]? = _
      exact Array.getElem?_push_size
    generalize hw4 : w3.alloc (.cells #[.int .i64 ri, .slice ya rn yc] 27) = w4 at B4 M4 OA4 oy4 hz4 hv4
    have HW4 := Lib.hid hw4
    have HIN := Lib.hid (iInsert w0.heap.size w1.heap.size (.slice (some ⟨g1, 0, none⟩) qs.length c1) qs.length qs.length (prs qs) w3.heap.size ri (.slice ya rn yc) w4 OA4 hq48 (Nat.le_refl _) (prs_one M4) (by simp [Value.ownBlock]; obtain ⟨_, _, e, _, h, _⟩ := OA4; simp at e; omega) hv4 rfl)
    have HM4 := Lib.hid M4
    have HOY := Lib.hid oy4
    have HOA := Lib.hid OA4
    have HB4 := Lib.hid B4
    clear hw4 oy b3 B2 B3 M2 M3 M4 OA2 OA3 OA4 oy4 A4 hv4 B4 HCP2
    go_wp2_with fail
    rw [HW4.out]
    refine HIN.out.mono ?_
    rintro e w5 ⟨v5, rfl, o5, e5⟩
    have HF : Hid (MyRs w0.heap.size w5.heap.size w5 v5 (qs.take qs.length ++ (⟨ri, rl⟩, .slice ya rn yc) :: qs.drop qs.length) ∧ (qs.take qs.length ++ ((⟨ri, rl⟩ : R), Value.slice ya rn yc) :: qs.drop qs.length).map (·.1) = putL (ps.map (·.1)) ⟨ri, rl⟩ ∧ Below w.heap.size w w5) := by
      refine ⟨HM4.out.insert (by omega) HOY.out (by omega) (by rw [prs_put]; exact o5) e5, ?_, HB4.out.grown e5.grown HB4.out.size (fun j hj => by simp [Value.ownBlock] at hj; obtain ⟨_, _, e, h, _⟩ := HOA.out; simp at e; omega)⟩
      unfold putL
      rw [HKE.out, List.map_append, List.map_cons, List.map_take, List.map_drop, E1.out]
    obtain ⟨g5, c5, hv5⟩ : ∃ g c, v5 = .slice (some ⟨g, 0, none⟩) (qs.length + 1) c := by obtain ⟨g, c, e, _⟩ := o5; exact ⟨g, c, e⟩
    subst hv5
    clear o5 e5
    go_wp2
    go_ret
    exact ⟨_, rfl, _, HF.out.1.wide (by omega) (Nat.le_refl _), HF.out.2⟩
  · have hzz : ¬ ((k : Int) < 0) := by omega
    have OA : Own 27 2 w0.heap.size w1.heap.size w1 (.slice (some ⟨g1, 0, none⟩) qs.length c1) qs.length (prs qs) := M1.1.resolve_left (fun h => by cases h.1)
    obtain ⟨⟨q0, q1⟩, q2, q3⟩ := T1.below b2
    have B2 := below_then B1 b2 B1.size
    have M2 := M1.below b2 (Nat.le_refl _)
    have OA2 := OA.below b2 (Nat.le_refl _)
    have hz2 := b2.size
    have HCP2 := Lib.hid (HCP.out _ B2)
    clear b2 OA T1 M1
    go_wp2_with fail
    refine HCP2.out.mono ?_
    rintro e w3 ⟨y, rfl, oy, b3⟩
    obtain ⟨ya, yc, hy⟩ := oy.atN.sl
    rw [HRN.out] at hy
    subst hy
    clear q0 q1 q2 q3
    have B3 := below_then B2 b3 B2.size
    have M3 := M2.below b3 (by omega)
    have OA3 := OA2.below b3 (by omega)
    have hz3 := b3.size
    have A4 := below_alloc w3 (.cells #[.int .i64 ri, .slice ya rn yc] 27)
    have B4 := below_then B3 A4 B3.size
    have M4 := M3.below A4 (by omega)
    have OA4 := OA3.below A4 (by omega)
    have oy4 := (oy.below A4 (Nat.le_refl _)).wide (show w1.heap.size ≤ w2.heap.size by omega) A4.size
    have hz4 : (w3.alloc (.cells #[.int .i64 ri, .slice ya rn yc] 27)).heap.size = w3.heap.size + 1 := World.size_alloc _ _
    have hv4 : (w3.alloc (.cells #[.int .i64 ri, .slice ya rn yc] 27)).heap[w3.heap.size]? = some (.cells #[.int .i64 ri, .slice ya rn yc] 27 (0, 0)) := by
      show (w3.heap.push _)[w3.heap.size]? = _
      exact Array.getElem?_push_size
    generalize hw4 : w3.alloc (.cells #[.int .i64 ri, .slice ya rn yc] 27) = w4 at B4 M4 OA4 oy4 hz4 hv4
    have HW4 := Lib.hid hw4
    have HIN := Lib.hid (iInsert w0.heap.size w1.heap.size (.slice (some ⟨g1, 0, none⟩) qs.length c1) qs.length k (prs qs) w3.heap.size ri (.slice ya rn yc) w4 OA4 hq48 hkq (prs_one M4) (by simp [Value.ownBlock]; obtain ⟨_, _, e, _, h, _⟩ := OA4; simp at e; omega) hv4 rfl)
    have HM4 := Lib.hid M4
    have HOY := Lib.hid oy4
    have HOA := Lib.hid OA4
    have HB4 := Lib.hid B4
    clear hw4 oy b3 B2 B3 M2 M3 M4 OA2 OA3 OA4 oy4 A4 hv4 B4 HCP2
    go_wp2_with fail
    rw [HW4.out]
    refine HIN.out.mono ?_
    rintro e w5 ⟨v5, rfl, o5, e5⟩
    have HF : Hid (MyRs w0.heap.size w5.heap.size w5 v5 (qs.take k ++ (⟨ri, rl⟩, .slice ya rn yc) :: qs.drop k) ∧ (qs.take k ++ ((⟨ri, rl⟩ : R), Value.slice ya rn yc) :: qs.drop k).map (·.1) = putL (ps.map (·.1)) ⟨ri, rl⟩ ∧ Below w.heap.size w w5) := by
      refine ⟨HM4.out.insert (by omega) HOY.out (by omega) (by rw [prs_put]; exact o5) e5, ?_, HB4.out.grown e5.grown HB4.out.size (fun j hj => by simp [Value.ownBlock] at hj; obtain ⟨_, _, e, h, _⟩ := HOA.out; simp at e; omega)⟩
      unfold putL
      rw [HK.out, List.map_append, List.map_cons, List.map_take, List.map_drop, E1.out]
    obtain ⟨g5, c5, hv5⟩ : ∃ g c, v5 = .slice (some ⟨g, 0, none⟩) (qs.length + 1) c := by obtain ⟨g, c, e, _⟩ := o5; exact ⟨g, c, e⟩
    subst hv5
    clear o5 e5
    go_wp2
    go_ret
    exact ⟨_, rfl, _, HF.out.1.wide (by omega) (Nat.le_refl _), HF.out.2⟩

end Go.Proofs.Ytkofafefnlommaa
