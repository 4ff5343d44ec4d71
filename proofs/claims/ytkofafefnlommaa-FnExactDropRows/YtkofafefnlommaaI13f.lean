/- The program's FindRow (written by mk_S13b.py). -/
import Derived.Test.YtkofafefnlommaaC13
namespace Go.Proofs.Ytkofafefnlommaa
open Go.RowKit

set_option maxRecDepth 100000 in
set_option maxHeartbeats 4000000 in
theorem iFindRow : CFindRow 14 := by
  intro v id ps ls w hn hli h hls
  subst hls
  generalize hl : ps.length = n at hn
  obtain ⟨a, cap, rfl, _, HC⟩ := h.walk hl
  have HLI : Hid (∀ k, k < n → (ps.getD k P.zero).1.l.length ≤ 1048576) := fun k hk => by
    have hk' : k < ps.length := by omega
    have e : ps.getD k P.zero = ps[k] := by simp [hk']
    rw [e]
    exact hli _ (List.getElem_mem hk')
  have HHIT : Hid (∀ j, j < n → (∀ k, k < j → (ps.getD k P.zero).1.id ≠ id) → (ps.getD j P.zero).1.id = id → findL (ps.map (·.1)) id = some (ps.getD j P.zero).1) := fun j hj hk he => by
    have := find_hit (l := ps.map (·.1)) (n := id) (j := j) (by rw [List.length_map]; omega) (fun k hkj => by rw [getD_fstR]; exact hk k hkj) (by rw [getD_fstR]; exact he)
    rw [this, getD_fstR]
  have HNONE : Hid ((∀ k, k < n → (ps.getD k P.zero).1.id ≠ id) → findL (ps.map (·.1)) id = none) := fun hk => find_none (fun k hkj => by rw [getD_fstR]; exact hk k (by rw [List.length_map] at hkj; omega))
  have B1 := below_alloc w (.cells #[.int .i64 0, .slice none 0 0] 27)
  have T1 := two_new w (.int .i64 0) (.slice none 0 0) 27
  have hz1 : (w.alloc (.cells #[.int .i64 0, .slice none 0 0] 27)).heap.size = w.heap.size + 1 := World.size_alloc _ _
  generalize hw1 : w.alloc (.cells #[.int .i64 0, .slice none 0 0] 27) = w1 at B1 T1 hz1
  have HW1 := Lib.hid hw1
  clear hw1 hl h hli
  go_enter Try.func14, Try.ntmps14
  go_wp2
  rw [HW1.out]
  go_loopw [10] (fun i wr => ∃ j : Nat, j ≤ n ∧ i = .int .i64 j ∧ (∀ k, k < j → (ps.getD k P.zero).1.id ≠ id) ∧ Two wr w.heap.size (.int .i64 0) (.slice none 0 0) ∧ Below w.heap.size w wr ∧ w.heap.size + 1 ≤ wr.heap.size) (fun i _ => n - (intOf i).toNat)
  case atStart => exact ⟨0, Nat.zero_le _, rfl, fun k hk => by omega, T1, B1, by omega⟩
  case round =>
    obtain ⟨j, hj, rfl, hno, hT, hbr, hsz⟩ := hrel
    have HNO := Lib.hid hno
    clear hno T1 B1 hz1
    by_cases hlt : j < n
    · obtain ⟨b, off, rfl, c0, c1, hat⟩ := HC.out j hlt wr hbr
      have hll := HLI.out j hlt
      have HSTEP : Hid ((ps.getD j P.zero).1.id ≠ id → ∀ k, k < j + 1 → (ps.getD k P.zero).1.id ≠ id) := fun he k hk => by
        by_cases e : k = j
        · subst e; exact he
        · exact HNO.out k (by omega)
      have HFD := Lib.hid (HHIT.out j hlt HNO.out)
      generalize ps.getD j P.zero = pj at c0 c1 hat hll HSTEP HFD
      obtain ⟨r, x⟩ := pj
      simp only at c0 c1 hat hll HSTEP HFD
      obtain ⟨xa, xc, rfl⟩ := hat.sl
      have HAT := Lib.hid (fun W (hW : Below wr.heap.size wr W) => iCopyRow r (.slice xa r.l.length xc) W hll (hat.below hW))
      clear hat
      generalize hxl : r.l.length = xn at c1 hll HAT
      obtain ⟨ri, rl⟩ := r
      simp only at c0 c1 HAT HSTEP HFD
      clear hxl
      have BW := below_alloc wr (.cells #[.int .i64 ri, .slice xa xn xc] 27)
      have T2 := two_new wr (.int .i64 ri) (.slice xa xn xc) 27
      have T0 := hT.below BW
      generalize hwa : wr.alloc (.cells #[.int .i64 ri, .slice xa xn xc] 27) = wa at BW T2 T0
      have HWA := Lib.hid hwa
      obtain ⟨⟨t0, t1⟩, t2, t3⟩ := T2
      clear hwa
      by_cases he : ri = id
      · have HF := Lib.hid (HFD.out he)
        subst he
        have hb1 : (ri == ri) = true := by simp
        have HA2 := Lib.hid (HAT.out _ BW)
        have hT2 := T0
        have B2 := below_then hbr BW hbr.size
        have hs2 := BW.size
        clear HFD HSTEP HAT
        go_wp2_with fail
        rw [HWA.out]
        refine HA2.out.mono ?_
        rintro e w3 ⟨x3, rfl, o3, b3⟩
        clear c0 c1 t0 t1 t2 t3
        obtain ⟨ya, yc, hy⟩ := o3.atN.sl
        generalize rl.length = yn at hy
        subst hy
        have hs3 := b3.size
        have B3 := below_then B2 b3 B2.size
        have O3 := Lib.hid o3
        obtain ⟨⟨p0, p1⟩, p2, p3⟩ := hT2.below b3
        clear o3 b3 HA2 hT2
        go_wp2
        refine bodyPost_ret (v := .tuple #[.agg #[.int .i64 ri, .slice ya yn yc], .bool true]) (by simp [results, Try.results14, go_sem, *]) rfl ⟨.slice ya yn yc, ?_, ?_, ?_⟩
        · rw [HF.out]; rfl
        · rw [HF.out]
          exact ((O3.out.setBelow (by simp; omega) _).setBelow (by simp; omega) _).wide (by omega) (by simp)
        · exact (B3.setCell (by simp) _).setCell (by simp) _
      · have HS2 := Lib.hid (HSTEP.out he)
        have hb1 : (ri == id) = false := by simpa using he
        have hT2 := Lib.hid T0
        have B2 := below_then hbr BW hbr.size
        have hs2 := BW.size
        clear HFD HSTEP HAT he
        go_wp2
        rw [HWA.out]
        go_roundw
        case rel => exact ⟨j + 1, by omega, by go_num, HS2.out, hT2.out, B2, by omega⟩
        case measure => simp [intOf]; omega
    · obtain rfl : j = n := by omega
      have HF := Lib.hid (HNONE.out HNO.out)
      obtain ⟨⟨p0, p1⟩, p2, p3⟩ := hT
      go_wp2
      refine bodyPost_ret (v := .tuple #[.agg #[.int .i64 0, .slice none 0 0], .bool false]) (by simp [results, Try.results14, go_sem, *]) rfl ⟨.slice none 0 0, ?_, ?_, ?_⟩
      · rw [HF.out]; rfl
      · rw [HF.out]; exact .inl ⟨rfl, rfl, rfl⟩
      · exact (hbr.setCell (by simp) _).setCell (by simp) _

end Go.Proofs.Ytkofafefnlommaa
