/- The program's contract of KindText (written by mk_I9.py). -/
import Derived.Test.YthniakklkepomaaI9
namespace Go.Proofs.Ythniakklkepomaa
open Go.RowKit

set_option maxHeartbeats 1000000 in
theorem iKindText : CKindText := by
  intro n w
  have HI := Lib.hid (fun W => kindIs n W)
  cases hk : Num.inB n 0 3 with
  | false =>
    rw [hk] at HI
    have HK := Lib.hid (kindT_no (Num.inB_false.1 hk))
    generalize kindT n = s at HK ⊢
    clear hk
    go_enter Try.func22, Try.ntmps22
    go_wp2_with (go_at_call 31; refine (HI.out _).mono ?_; clear HI; rintro e w' ⟨rfl, rfl⟩)
    go_ret
    exact ⟨by rw [HK.out]; rfl, Below.refl _ _⟩
  | true =>
    have hb := Num.inB_true.1 hk
    rw [hk] at HI
    clear hk
    obtain ⟨⟨c0, c1, c2, c3⟩, f0, f1, f2, f3⟩ := quad_new w (.string ⟨#[]⟩) (.string ⟨#[]⟩) (.string ⟨#[]⟩) (.string ⟨#[]⟩) 51
    have B := below_alloc w (.cells #[.string ⟨#[112, 108, 97, 105, 110]⟩, .string ⟨#[114, 117, 110, 115]⟩, .string ⟨#[100, 105, 99, 116]⟩, .string ⟨#[102, 114, 97, 109, 101]⟩] 51)
    obtain ⟨⟨d0, d1, d2, d3⟩, _⟩ := quad_new w (.string ⟨#[112, 108, 97, 105, 110]⟩) (.string ⟨#[114, 117, 110, 115]⟩) (.string ⟨#[100, 105, 99, 116]⟩) (.string ⟨#[102, 114, 97, 109, 101]⟩) 51
    have h4 : n = 0 ∨ n = 1 ∨ n = 2 ∨ n = 3 := by omega
    clear hb
    rcases h4 with rfl | rfl | rfl | rfl
    all_goals
      go_enter Try.func22, Try.ntmps22
      go_wp2_with (go_at_call 31; refine (HI.out _).mono ?_; clear HI; rintro e w' ⟨rfl, rfl⟩)
      go_ret
      exact ⟨rfl, B⟩

end Go.Proofs.Ythniakklkepomaa
