/- The contracts of l1Raw, l1Num, l1One. -/
import Derived.Test.YtcnackecchjckaaDrawInt
namespace Go.Proofs.Ytcnackecchjckaa
open Go.RowKit

set_option maxHeartbeats 400000 in
theorem l1Raw (c : Code) (g : Nat) (w : World) (h : Cur c g w) :
    Calls Try.prog 93 #[.pointer (some ⟨g, 0, none⟩)] w (DrewInt c g w I64) := by
  go_enter Try.func93, Try.ntmps93
  go_wp2_with fail
  refine (l1Once c g _ _ h).mono ?_
  rintro e w1 ⟨b, rfl, hc1, hg1⟩
  cases b with
  | true =>
    go_wp2_with fail
    refine (l1Odd c g _ hc1).mono ?_
    rintro e w2 ⟨x, rfl, H, hc2, hg2⟩
    go_wp2
    go_ret
    exact ⟨_, rfl, H, hc2, hg1.trans hg2⟩
  | false =>
    go_wp2_with fail
    refine (l1IntLit c g [1000000001, -1000000001, 2000000000, 2000000001, 0, -1] 6 w1 rfl (by omega) (by omega) hc1 _ rfl).mono ?_
    rintro e w2 ⟨x, rfl, hx, hc2, hg2⟩
    have H := Lib.hid (I64.mk ((by decide +kernel : ∀ x ∈ ([1000000001, -1000000001, 2000000000, 2000000001, 0, -1] : List Int), -9223372036854775808 ≤ x) x hx) ((by decide +kernel : ∀ x ∈ ([1000000001, -1000000001, 2000000000, 2000000001, 0, -1] : List Int), x ≤ 9223372036854775807) x hx))
    clear hx
    go_wp2
    go_ret
    exact ⟨_, rfl, H.out, hc2, hg1.trans hg2⟩

set_option maxHeartbeats 1000000 in
theorem l1Num (c : Code) (g : Nat) (w : World) (h : Cur c g w) :
    Calls Try.prog 99 #[.pointer (some ⟨g, 0, none⟩)] w (DrewInt c g w I64) := by
  go_enter Try.func99, Try.ntmps99
  go_wp2_with fail
  refine (l1Below c g _ _ h).mono ?_
  rintro e w1 ⟨x, rfl, hx, hc1, hg1⟩
  have hx5 : x < 5 := by omega
  obtain ⟨hx0, _⟩ := hx
  by_cases e0 : x = 0
  · subst e0
    go_wp2_with fail
    refine (l1Below c g _ _ hc1).mono ?_
    rintro e w2 ⟨y, rfl, hy, hc2, hg2⟩
    go_wp2
    go_ret
    exact ⟨_, rfl, ⟨by omega, by omega⟩, hc2, hg1.trans hg2⟩
  · have b0 : (x == 0) = false := by simp [e0]
    by_cases e1 : x = 1
    · subst e1
      go_wp2_with fail
      refine (l1IntLit c g [0, -1, 1, 63, 64, -64, -65, 8191, 8192, 1000000000, -1000000000, 999999999] 12 w1 rfl (by omega) (by omega) hc1 _ rfl).mono ?_
      rintro e w2 ⟨y, rfl, hy, hc2, hg2⟩
      have H := Lib.hid (I64.mk ((by decide +kernel : ∀ x ∈ ([0, -1, 1, 63, 64, -64, -65, 8191, 8192, 1000000000, -1000000000, 999999999] : List Int), -9223372036854775808 ≤ x) y hy) ((by decide +kernel : ∀ x ∈ ([0, -1, 1, 63, 64, -64, -65, 8191, 8192, 1000000000, -1000000000, 999999999] : List Int), x ≤ 9223372036854775807) y hy))
      clear hy
      go_wp2
      go_ret
      exact ⟨_, rfl, H.out, hc2, hg1.trans hg2⟩
    · have b1 : (x == 1) = false := by simp [e1]
      by_cases e2 : x = 2
      · subst e2
        go_wp2_with fail
        refine (l1Below c g _ _ hc1).mono ?_
        rintro e w2 ⟨y, rfl, hy, hc2, hg2⟩
        go_wp2_with fail
        refine (l1Below c g _ _ hc2).mono ?_
        rintro e w3 ⟨z, rfl, hz, hc3, hg3⟩
        go_wp2
        go_ret
        exact ⟨_, rfl, ⟨(wrap64_bd _).1, (wrap64_bd _).2⟩, hc3, (hg1.trans hg2).trans hg3⟩
      · have b2 : (x == 2) = false := by simp [e2]
        clear e0 e1 e2
        go_wp2_with fail
        refine (l1Below c g _ _ hc1).mono ?_
        rintro e w2 ⟨y, rfl, hy, hc2, hg2⟩
        go_wp2
        go_ret
        exact ⟨_, rfl, ⟨by omega, by omega⟩, hc2, hg1.trans hg2⟩

/-- From a new cursor on: what was there before is untouched. -/
theorem below_cur {w w1 w2 : World} (hb : Below w.heap.size w w1) (hg : w1.grownBy w2 (some w.heap.size)) : Below w.heap.size w w2 :=
  hb.grown hg hb.size (by simp)

end Go.Proofs.Ytcnackecchjckaa
