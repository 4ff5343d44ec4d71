/- The contract of the model's KindText. -/
import Derived.Test.YthniakklkepomaaM9
namespace Go.Proofs.Ythniakklkepomaa
open Go.RowKit

theorem kindT_no {n : Int} (h : ¬ (0 ≤ n ∧ n ≤ 3)) : kindT n = ⟨#[]⟩ := by
  unfold kindT
  rw [if_neg (by omega), if_neg (by omega), if_neg (by omega), if_neg (by omega)]

set_option maxHeartbeats 1000000 in
theorem sKindText (n : Int) (w : World) : Calls Try.prog 21 #[.int .i64 n] w fun e w' => e = .returned (.string (kindT n)) ∧ Below w.heap.size w w' := by
  have HI := Lib.hid (fun W => l1In n 0 3 W)
  cases hk : Num.inB n 0 3 with
  | false =>
    rw [hk] at HI
    have HK := Lib.hid (kindT_no (Num.inB_false.1 hk))
    generalize kindT n = s at HK ⊢
    clear hk
    have B := below_alloc w (.cells #[.string ⟨#[112, 108, 97, 105, 110]⟩, .string ⟨#[114, 117, 110, 115]⟩, .string ⟨#[100, 105, 99, 116]⟩, .string ⟨#[102, 114, 97, 109, 101]⟩] 9)
    go_enter Try.func21, Try.ntmps21
    go_wp2_with (go_at_call 37; refine (HI.out _).mono ?_; clear HI; rintro e w' ⟨rfl, rfl⟩)
    go_ret
    exact ⟨by rw [HK.out]; rfl, B⟩
  | true =>
    have hb := Num.inB_true.1 hk
    rw [hk] at HI
    clear hk
    have B := below_alloc w (.cells #[.string ⟨#[112, 108, 97, 105, 110]⟩, .string ⟨#[114, 117, 110, 115]⟩, .string ⟨#[100, 105, 99, 116]⟩, .string ⟨#[102, 114, 97, 109, 101]⟩] 9)
    have h4 : n = 0 ∨ n = 1 ∨ n = 2 ∨ n = 3 := by omega
    clear hb
    rcases h4 with rfl | rfl | rfl | rfl
    all_goals
      go_enter Try.func21, Try.ntmps21
      go_wp2_with (go_at_call 37; refine (HI.out _).mono ?_; clear HI; rintro e w' ⟨rfl, rfl⟩)
      go_ret
      exact ⟨rfl, B⟩

end Go.Proofs.Ythniakklkepomaa
