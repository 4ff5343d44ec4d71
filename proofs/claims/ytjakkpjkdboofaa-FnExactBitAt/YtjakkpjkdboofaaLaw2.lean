/- The exact laws of chapter 2, walked. -/
import Derived.Test.YtjakkpjkdboofaaIUnpack
import Derived.Test.YtjakkpjkdboofaaBytes
import Derived.Test.YtjakkpjkdboofaaInts
namespace Go.Proofs.Ytjakkpjkdboofaa
open Go.RowKit

theorem lawWidthOf (n : Int) (w : World) : Calls Try.prog 5 #[.int .i64 n] w fun e w' => e = .returned (.bool true) ∧ w = w' := by
  go_enter Try.func5, Try.ntmps5
  go_wp2_with fail
  refine (sWidthOf n w).mono ?_
  rintro e w' ⟨rfl, rfl⟩
  go_wp2_with fail
  refine (iWidthOf n w).mono ?_
  rintro e w' ⟨rfl, rfl⟩
  generalize Bit.widthI n = q
  go_wp2
  go_ret
  exact ⟨rfl, rfl⟩

theorem lawBytesFor (k v : Int) (w : World) : Calls Try.prog 9 #[.int .i64 k, .int .i64 v] w fun e w' => e = .returned (.bool true) ∧ w = w' := by
  go_enter Try.func9, Try.ntmps9
  go_wp2_with fail
  refine (sBytesFor k v w).mono ?_
  rintro e w' ⟨rfl, rfl⟩
  go_wp2_with fail
  refine (iBytesFor k v w).mono ?_
  rintro e w' ⟨rfl, rfl⟩
  generalize Bit.bytesFor k v = q
  have hqq : (q != q) = false := by simp
  go_wp2
  go_ret
  exact ⟨rfl, rfl⟩

set_option maxHeartbeats 1000000 in
theorem lawWidthFor (a : Option Addr) (len cap : Nat) (zs : List Int) (w : World) (h : Arg .i64 w a len zs) :
    Calls Try.prog 6 #[.slice a len cap] w fun e w' => e = .returned (.bool true) ∧ Below w.heap.size w w' := by
  by_cases hbig : 1048576 < len
  · go_enter Try.func6, Try.ntmps6
    go_wp2
    go_ret
    exact ⟨rfl, Below.refl _ _⟩
  · have HZ : Hid (zs.length = len) := h.1
    obtain ⟨q, hq⟩ : ∃ q, Bit.widthFor zs = q := ⟨_, rfl⟩
    have HQ := Lib.hid hq
    clear hq
    go_enter Try.func6, Try.ntmps6
    have bt := Below.refl w.heap.size w
    go_wp2_with fail
    refine (toIntS a len cap zs w (by omega) (h.below bt)).mono ?_
    rintro e w1 ⟨t1, rfl, o1, hb⟩
    have z1 := hb.size
    replace bt := below_then bt hb (by omega)
    clear hb
    go_wp2_with fail
    refine (sWidthFor t1 len zs w1 HZ.out (.inr o1.at)).mono ?_
    rw [HQ.out]
    rintro e w' ⟨rfl, rfl⟩
    clear o1
    go_wp2_with fail
    refine (toIntS a len cap zs w1 (by omega) (h.below bt)).mono ?_
    rintro e w2 ⟨x0, rfl, ox, hb⟩
    have z2 := hb.size
    replace bt := below_then bt hb (by omega)
    clear hb
    go_wp2_with fail
    refine (iWidthFor x0 len zs w2 HZ.out (.inr ox.at)).mono ?_
    rw [HQ.out]
    rintro e w' ⟨rfl, rfl⟩
    go_wp2_with fail
    refine (toIntS a len cap zs w2 (by omega) (h.below bt)).mono ?_
    rintro e w3 ⟨t2, rfl, o2, hb⟩
    have z3 := hb.size
    replace ox := ox.below hb (by omega)
    replace bt := below_then bt hb (by omega)
    clear hb
    go_wp2_with fail
    refine (eqIntS x0 t2 len zs w3 HZ.out ox.at o2.at).mono ?_
    rintro e w4 ⟨rfl, hb⟩
    have z4 := hb.size
    replace ox := ox.below hb (by omega)
    replace o2 := o2.below hb (by omega)
    replace bt := below_then bt hb (by omega)
    clear hb
    go_wp2
    go_ret
    exact ⟨rfl, bt⟩

set_option maxHeartbeats 1000000 in
theorem lawBitAt (a : Option Addr) (len cap : Nat) (zs : List Int) (n : Int) (h0 : -9223372036854775808 ≤ n) (h1 : n ≤ 9223372036854775807) (w : World) (h : Arg .u8 w a len zs) (hby : Num.Bytes zs) :
    Calls Try.prog 10 #[.slice a len cap, .int .i64 n] w fun e w' => e = .returned (.bool true) ∧ Below w.heap.size w w' := by
  by_cases hbig : 1048576 < len
  · go_enter Try.func10, Try.ntmps10
    go_wp2
    go_ret
    exact ⟨rfl, Below.refl _ _⟩
  · have HZ : Hid (zs.length = len) := h.1
    obtain ⟨q, hq⟩ : ∃ q, Bit.bitAt zs n = q := ⟨_, rfl⟩
    have HQ := Lib.hid hq
    have hqq : (q != q) = false := by simp
    clear hq
    go_enter Try.func10, Try.ntmps10
    have bt := Below.refl w.heap.size w
    go_wp2_with fail
    refine (toByteS a len cap zs w (by omega) (h.below bt)).mono ?_
    rintro e w1 ⟨t1, rfl, o1, hb⟩
    have z1 := hb.size
    replace bt := below_then bt hb (by omega)
    clear hb
    go_wp2_with fail
    refine (sBitAt t1 len zs n w1 h0 h1 HZ.out hby (.inr o1.at)).mono ?_
    rw [HQ.out]
    rintro e w' ⟨rfl, rfl⟩
    clear o1
    go_wp2_with fail
    refine (toByteS a len cap zs w1 (by omega) (h.below bt)).mono ?_
    rintro e w2 ⟨x0, rfl, ox, hb⟩
    have z2 := hb.size
    replace bt := below_then bt hb (by omega)
    clear hb
    go_wp2_with fail
    refine (iBitAt x0 len zs n w2 h0 h1 HZ.out hby (.inr ox.at)).mono ?_
    rw [HQ.out]
    rintro e w' ⟨rfl, rfl⟩
    go_wp2_with fail
    refine (toByteS a len cap zs w2 (by omega) (h.below bt)).mono ?_
    rintro e w3 ⟨t2, rfl, o2, hb⟩
    have z3 := hb.size
    replace ox := ox.below hb (by omega)
    replace bt := below_then bt hb (by omega)
    clear hb
    go_wp2_with fail
    refine (eqByteS x0 t2 len zs w3 HZ.out ox.at o2.at).mono ?_
    rintro e w4 ⟨rfl, hb⟩
    have z4 := hb.size
    replace ox := ox.below hb (by omega)
    replace o2 := o2.below hb (by omega)
    replace bt := below_then bt hb (by omega)
    clear hb
    go_wp2
    go_ret
    exact ⟨rfl, bt⟩

set_option maxHeartbeats 1000000 in
theorem lawPackBits (a : Option Addr) (len cap : Nat) (zs : List Int) (v : Int) (w : World) (h : Arg .i64 w a len zs) :
    Calls Try.prog 7 #[.slice a len cap, .int .i64 v] w fun e w' => e = .returned (.bool true) ∧ Below w.heap.size w w' := by
  by_cases hbig : 1048576 < len
  · go_enter Try.func7, Try.ntmps7
    go_wp2
    go_ret
    exact ⟨rfl, Below.refl _ _⟩
  · have HZ : Hid (zs.length = len) := h.1
    have hle := Bit.pack_le zs v
    rw [HZ.out] at hle
    obtain ⟨r1, hr⟩ : ∃ r1, Bit.pack zs v = r1 := ⟨_, rfl⟩
    rw [hr] at hle
    have HR := Lib.hid hr
    clear hr
    generalize hn : r1.length = n at hle
    have HN := Lib.hid hn
    clear hn
    go_enter Try.func7, Try.ntmps7
    have bt := Below.refl w.heap.size w
    go_wp2_with fail
    refine (toIntS a len cap zs w (by omega) (h.below bt)).mono ?_
    rintro e w1 ⟨t1, rfl, o1, hb⟩
    have z1 := hb.size
    replace bt := below_then bt hb (by omega)
    clear hb
    go_wp2_with fail
    refine (sPackBits t1 len zs v w1 (by omega) HZ.out (.inr o1.at)).mono ?_
    rw [HR.out]
    rintro e w2 ⟨v0, rfl, ov, hb⟩
    rw [HN.out] at ov
    have z2 := hb.size
    replace o1 := o1.below hb (by omega)
    replace bt := below_then bt hb (by omega)
    clear hb
    clear o1
    go_wp2_with fail
    refine (toIntS a len cap zs w2 (by omega) (h.below bt)).mono ?_
    rintro e w3 ⟨x0, rfl, ox, hb⟩
    have z3 := hb.size
    replace ov := ov.below hb (by omega)
    replace bt := below_then bt hb (by omega)
    clear hb
    go_wp2_with fail
    refine (iPackBits x0 len zs v w3 (by omega) HZ.out (.inr ox.at)).mono ?_
    rw [HR.out]
    rintro e w4 ⟨g0, rfl, og, hb⟩
    rw [HN.out] at og
    have z4 := hb.size
    replace ov := ov.below hb (by omega)
    replace ox := ox.below hb (by omega)
    replace bt := below_then bt hb (by omega)
    clear hb
    go_wp2_with fail
    refine (eqByteS g0 v0 n r1 w4 HN.out og.at ov.at).mono ?_
    rintro e w5 ⟨rfl, hb⟩
    have z5 := hb.size
    replace ov := ov.below hb (by omega)
    replace ox := ox.below hb (by omega)
    replace og := og.below hb (by omega)
    replace bt := below_then bt hb (by omega)
    clear hb
    go_wp2_with fail
    refine (toIntS a len cap zs w5 (by omega) (h.below bt)).mono ?_
    rintro e w6 ⟨t2, rfl, o2, hb⟩
    have z6 := hb.size
    replace ov := ov.below hb (by omega)
    replace ox := ox.below hb (by omega)
    replace og := og.below hb (by omega)
    replace bt := below_then bt hb (by omega)
    clear hb
    go_wp2_with fail
    refine (eqIntS x0 t2 len zs w6 HZ.out ox.at o2.at).mono ?_
    rintro e w7 ⟨rfl, hb⟩
    have z7 := hb.size
    replace ov := ov.below hb (by omega)
    replace ox := ox.below hb (by omega)
    replace og := og.below hb (by omega)
    replace o2 := o2.below hb (by omega)
    replace bt := below_then bt hb (by omega)
    clear hb
    clear o2
    go_wp2_with fail
    refine (markIntS x0 len _ _ _ _ w7 (by omega) (by omega) (by omega) ox).mono ?_
    rintro e w8 ⟨rfl, hnew, hg⟩
    have z8 := hg.size
    replace ov := ov.apart ox (by omega) hg
    replace og := og.apart ox (by omega) hg
    replace bt := bt.trans (below_grown_own ox hg (by omega) (by omega))
    clear hg ox
    have ox := hnew
    clear hnew
    go_wp2_with fail
    refine (eqByteS g0 v0 n r1 w8 HN.out og.at ov.at).mono ?_
    rintro e w9 ⟨rfl, hb⟩
    have z9 := hb.size
    replace ov := ov.below hb (by omega)
    replace ox := ox.below hb (by omega)
    replace og := og.below hb (by omega)
    replace bt := below_then bt hb (by omega)
    clear hb
    clear ox
    go_wp2_with fail
    refine (markByteS g0 n _ _ _ _ w9 (by omega) (by omega) (by omega) og).mono ?_
    rintro e w10 ⟨rfl, hnew, hg⟩
    have z10 := hg.size
    replace ov := ov.apart og (by omega) hg
    replace bt := bt.trans (below_grown_own og hg (by omega) (by omega))
    clear hg og
    have og := hnew
    clear hnew
    go_wp2_with fail
    refine (heldByteS g0 n 1 w10 (by omega) (by omega) (by omega) og.at).mono ?_
    rintro e w' ⟨rfl, rfl⟩
    go_wp2_with fail
    refine (toIntS a len cap zs w10 (by omega) (h.below bt)).mono ?_
    rintro e w11 ⟨t3, rfl, o3, hb⟩
    have z11 := hb.size
    replace ov := ov.below hb (by omega)
    replace og := og.below hb (by omega)
    replace bt := below_then bt hb (by omega)
    clear hb
    go_wp2_with fail
    refine (iPackBits t3 len zs v w11 (by omega) HZ.out (.inr o3.at)).mono ?_
    rw [HR.out]
    rintro e w12 ⟨h0, rfl, oh, hb⟩
    rw [HN.out] at oh
    have z12 := hb.size
    replace ov := ov.below hb (by omega)
    replace og := og.below hb (by omega)
    replace o3 := o3.below hb (by omega)
    replace bt := below_then bt hb (by omega)
    clear hb
    clear o3
    go_wp2_with fail
    refine (eqByteS h0 v0 n r1 w12 HN.out oh.at ov.at).mono ?_
    rintro e w13 ⟨rfl, hb⟩
    have z13 := hb.size
    replace ov := ov.below hb (by omega)
    replace og := og.below hb (by omega)
    replace oh := oh.below hb (by omega)
    replace bt := below_then bt hb (by omega)
    clear hb
    go_wp2_with fail
    refine (heldByteS g0 n 1 w13 (by omega) (by omega) (by omega) og.at).mono ?_
    rintro e w' ⟨rfl, rfl⟩
    go_wp2
    go_ret
    exact ⟨rfl, bt⟩

set_option maxHeartbeats 1000000 in
theorem lawUnpackBits (a : Option Addr) (len cap : Nat) (zs : List Int) (v k : Int) (w : World) (h : Arg .u8 w a len zs) (hby : Num.Bytes zs) :
    Calls Try.prog 8 #[.slice a len cap, .int .i64 v, .int .i64 k] w fun e w' => e = .returned (.bool true) ∧ Below w.heap.size w w' := by
  by_cases hbig : 1048576 < len
  · go_enter Try.func8, Try.ntmps8
    go_wp2
    go_ret
    exact ⟨rfl, Below.refl _ _⟩
  · have HZ : Hid (zs.length = len) := h.1
    have hl64 := Bit.unpack_le zs v k
    obtain ⟨r1, r2, hr⟩ : ∃ r1 r2, Bit.unpack zs v k = (r1, r2) := ⟨_, _, rfl⟩
    rw [hr] at hl64
    simp only at hl64
    have HR := Lib.hid hr
    clear hr
    generalize hn : r1.length = n at hl64
    have HN := Lib.hid hn
    clear hn
    have e2 : (r2 != r2) = false := by simp
    go_enter Try.func8, Try.ntmps8
    have bt := Below.refl w.heap.size w
    go_wp2_with fail
    refine (toByteS a len cap zs w (by omega) (h.below bt)).mono ?_
    rintro e w1 ⟨t1, rfl, o1, hb⟩
    have z1 := hb.size
    replace bt := below_then bt hb (by omega)
    clear hb
    go_wp2_with fail
    refine (sUnpackBits t1 len zs v k w1 (by omega) HZ.out hby (.inr o1.at)).mono ?_
    rw [HR.out]
    rintro e w2 ⟨v0, rfl, ov, hb⟩
    simp only at ov ⊢
    rw [HN.out] at ov
    have z2 := hb.size
    replace o1 := o1.below hb (by omega)
    replace bt := below_then bt hb (by omega)
    clear hb
    clear o1
    go_wp2_with fail
    refine (toByteS a len cap zs w2 (by omega) (h.below bt)).mono ?_
    rintro e w3 ⟨x0, rfl, ox, hb⟩
    have z3 := hb.size
    replace ov := ov.below hb (by omega)
    replace bt := below_then bt hb (by omega)
    clear hb
    go_wp2_with fail
    refine (iUnpackBits x0 len zs v k w3 (by omega) HZ.out hby (.inr ox.at)).mono ?_
    rw [HR.out]
    rintro e w4 ⟨g0, rfl, og, hb⟩
    simp only at og ⊢
    rw [HN.out] at og
    have z4 := hb.size
    replace ov := ov.below hb (by omega)
    replace ox := ox.below hb (by omega)
    replace bt := below_then bt hb (by omega)
    clear hb
    go_wp2_with fail
    refine (eqIntS g0 v0 n r1 w4 HN.out og.at ov.at).mono ?_
    rintro e w5 ⟨rfl, hb⟩
    have z5 := hb.size
    replace ov := ov.below hb (by omega)
    replace ox := ox.below hb (by omega)
    replace og := og.below hb (by omega)
    replace bt := below_then bt hb (by omega)
    clear hb
    go_wp2_with fail
    refine (toByteS a len cap zs w5 (by omega) (h.below bt)).mono ?_
    rintro e w6 ⟨t2, rfl, o2, hb⟩
    have z6 := hb.size
    replace ov := ov.below hb (by omega)
    replace ox := ox.below hb (by omega)
    replace og := og.below hb (by omega)
    replace bt := below_then bt hb (by omega)
    clear hb
    go_wp2_with fail
    refine (eqByteS x0 t2 len zs w6 HZ.out ox.at o2.at).mono ?_
    rintro e w7 ⟨rfl, hb⟩
    have z7 := hb.size
    replace ov := ov.below hb (by omega)
    replace ox := ox.below hb (by omega)
    replace og := og.below hb (by omega)
    replace o2 := o2.below hb (by omega)
    replace bt := below_then bt hb (by omega)
    clear hb
    clear o2
    go_wp2_with fail
    refine (markByteS x0 len _ _ _ _ w7 (by omega) (by omega) (by omega) ox).mono ?_
    rintro e w8 ⟨rfl, hnew, hg⟩
    have z8 := hg.size
    replace ov := ov.apart ox (by omega) hg
    replace og := og.apart ox (by omega) hg
    replace bt := bt.trans (below_grown_own ox hg (by omega) (by omega))
    clear hg ox
    have ox := hnew
    clear hnew
    go_wp2_with fail
    refine (eqIntS g0 v0 n r1 w8 HN.out og.at ov.at).mono ?_
    rintro e w9 ⟨rfl, hb⟩
    have z9 := hb.size
    replace ov := ov.below hb (by omega)
    replace ox := ox.below hb (by omega)
    replace og := og.below hb (by omega)
    replace bt := below_then bt hb (by omega)
    clear hb
    clear ox
    go_wp2_with fail
    refine (markIntS g0 n _ _ _ _ w9 (by omega) (by omega) (by omega) og).mono ?_
    rintro e w10 ⟨rfl, hnew, hg⟩
    have z10 := hg.size
    replace ov := ov.apart og (by omega) hg
    replace bt := bt.trans (below_grown_own og hg (by omega) (by omega))
    clear hg og
    have og := hnew
    clear hnew
    go_wp2_with fail
    refine (heldIntS g0 n 1 w10 (by omega) (by omega) (by omega) og.at).mono ?_
    rintro e w' ⟨rfl, rfl⟩
    go_wp2_with fail
    refine (toByteS a len cap zs w10 (by omega) (h.below bt)).mono ?_
    rintro e w11 ⟨t3, rfl, o3, hb⟩
    have z11 := hb.size
    replace ov := ov.below hb (by omega)
    replace og := og.below hb (by omega)
    replace bt := below_then bt hb (by omega)
    clear hb
    go_wp2_with fail
    refine (iUnpackBits t3 len zs v k w11 (by omega) HZ.out hby (.inr o3.at)).mono ?_
    rw [HR.out]
    rintro e w12 ⟨h0, rfl, oh, hb⟩
    simp only at oh ⊢
    rw [HN.out] at oh
    have z12 := hb.size
    replace ov := ov.below hb (by omega)
    replace og := og.below hb (by omega)
    replace o3 := o3.below hb (by omega)
    replace bt := below_then bt hb (by omega)
    clear hb
    clear o3
    go_wp2_with fail
    refine (eqIntS h0 v0 n r1 w12 HN.out oh.at ov.at).mono ?_
    rintro e w13 ⟨rfl, hb⟩
    have z13 := hb.size
    replace ov := ov.below hb (by omega)
    replace og := og.below hb (by omega)
    replace oh := oh.below hb (by omega)
    replace bt := below_then bt hb (by omega)
    clear hb
    go_wp2_with fail
    refine (heldIntS g0 n 1 w13 (by omega) (by omega) (by omega) og.at).mono ?_
    rintro e w' ⟨rfl, rfl⟩
    go_wp2
    go_ret
    exact ⟨rfl, bt⟩

end Go.Proofs.Ytjakkpjkdboofaa
