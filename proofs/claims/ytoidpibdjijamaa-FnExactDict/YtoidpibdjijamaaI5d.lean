/- The contracts of impl's GetVal and DecPlain. -/
import Derived.Test.YtoidpibdjijamaaI5b
import Derived.Test.YtoidpibdjijamaaI5c
namespace Go.Proofs.Ytoidpibdjijamaa
open Go.RowKit

set_option maxHeartbeats 1000000 in
theorem iGetVal : CGetVal := by
  intro u n zs i ty w hn hz hby h
  have HG := Lib.hid (fun W hW => iGetNum u n zs i W (by omega) hz hby (h.below hW))
  have HT := Lib.hid (fun W hW => getText u n zs i W (by omega) hz hby (h.below hW))
  obtain ⟨b, off, cap, rfl, _, _, _, _⟩ := h
  have HZ := Lib.hid hz
  clear hz hby
  have Z0 := held_new w V.zero 37
  have bt := below_alloc w (.cells #[.int .i64 0, .int .i64 0, .string ⟨#[]⟩] 37)
  simp only [V.zero] at Z0
  obtain ⟨⟨p0, p1, p2⟩, p3, p4, p5⟩ := id Z0
  simp only at p0 p1 p2
  by_cases ht : ty = 1
  · subst ht
    have HE := Lib.hid (getV_int (zs := zs) (i := i))
    generalize Num.get zs i = r at HG HE
    obtain ⟨x, nx, ok⟩ := r
    unfold getRes at HG
    simp only at HG HE
    cases ok with
    | true =>
      rw [if_pos rfl] at HE
      rw [HE.out]
      go_enter Try.func92, Try.ntmps92
      go_wp2_with (first | (go_at_call 91; refine (HG.out _ bt).mono ?_; rintro e w' ⟨rfl, rfl⟩) | (go_at_call 87; refine (iIntVal _ _).mono ?_; rintro e w1 ⟨rfl, hb⟩; replace bt := below_then bt hb bt.size; obtain ⟨⟨q0, q1, q2⟩, q3, q4, q5⟩ := Z0.below hb; simp only at q0 q1 q2; clear p0 p1 p2 p3 p4 p5 hb Z0))
      exact bodyPost_ret (v := .tuple #[.agg #[.int .i64 1, .int .i64 x, .string ⟨#[]⟩], .int .i64 nx, .bool true]) (by simp [results, Try.results92, go_sem, *]) rfl ⟨rfl, ((bt.setCell (by simp) _).setCell (by simp) _).setCell (by simp) _⟩
    | false =>
      rw [if_neg (by simp)] at HE
      rw [HE.out]
      go_enter Try.func92, Try.ntmps92
      go_wp2_with (go_at_call 91; refine (HG.out _ bt).mono ?_; rintro e w' ⟨rfl, rfl⟩)
      exact bodyPost_ret (v := .tuple #[.agg #[.int .i64 0, .int .i64 0, .string ⟨#[]⟩], .int .i64 0, .bool false]) (by simp [results, Try.results92, go_sem, *]) rfl ⟨rfl, bt⟩
  by_cases h2 : ty = 2
  · subst h2
    have HE := Lib.hid (getV_text (zs := zs) (i := i))
    generalize getS zs i = r at HT HE
    obtain ⟨x, nx, ok⟩ := r
    simp only at HT HE
    cases ok with
    | true =>
      rw [if_pos rfl] at HE
      rw [HE.out]
      go_enter Try.func92, Try.ntmps92
      go_wp2_with (first | (go_at_call 122; refine (HT.out _ bt).mono ?_; rintro e w' ⟨rfl, rfl⟩) | (go_at_call 89; refine (iTextVal _ _).mono ?_; rintro e w1 ⟨rfl, hb⟩; replace bt := below_then bt hb bt.size; obtain ⟨⟨q0, q1, q2⟩, q3, q4, q5⟩ := Z0.below hb; simp only at q0 q1 q2; clear p0 p1 p2 p3 p4 p5 hb Z0))
      exact bodyPost_ret (v := .tuple #[.agg #[.int .i64 2, .int .i64 0, .string x], .int .i64 nx, .bool true]) (by simp [results, Try.results92, go_sem, *]) rfl ⟨rfl, ((bt.setCell (by simp) _).setCell (by simp) _).setCell (by simp) _⟩
    | false =>
      rw [if_neg (by simp)] at HE
      rw [HE.out]
      go_enter Try.func92, Try.ntmps92
      go_wp2_with (go_at_call 122; refine (HT.out _ bt).mono ?_; rintro e w' ⟨rfl, rfl⟩)
      exact bodyPost_ret (v := .tuple #[.agg #[.int .i64 0, .int .i64 0, .string ⟨#[]⟩], .int .i64 0, .bool false]) (by simp [results, Try.results92, go_sem, *]) rfl ⟨rfl, bt⟩
  · have HE := Lib.hid (getV_none (zs := zs) (i := i) ht h2)
    have h1b : (ty == 1) = false := by simpa using ht
    have h2b : (ty == 2) = false := by simpa using h2
    rw [HE.out]
    go_enter Try.func92, Try.ntmps92
    go_wp2
    exact bodyPost_ret (v := .tuple #[.agg #[.int .i64 0, .int .i64 0, .string ⟨#[]⟩], .int .i64 0, .bool false]) (by simp [results, Try.results92, go_sem, *]) rfl ⟨rfl, bt⟩

/-- A list that is filled from its start on. -/
def fillV (pre : List V) (K : Nat) : List V := pre ++ List.replicate (K - pre.length) V.zero
theorem fillV_len {pre : List V} {K : Nat} (h : pre.length ≤ K) : (fillV pre K).length = K := by
  simp [fillV]
  omega
theorem fillV_set {pre : List V} {K : Nat} (x : V) (h : pre.length < K) : (fillV pre K).set pre.length x = fillV (pre ++ [x]) K := by
  unfold fillV
  rw [List.set_append_right _ _ (Nat.le_refl _), Nat.sub_self, show K - pre.length = (K - (pre ++ [x]).length) + 1 by simp; omega, List.replicate_succ, List.set_cons_zero]
  simp
theorem fillV_all {pre : List V} {K : Nat} (h : pre.length = K) : fillV pre K = pre := by simp [fillV, h]

end Go.Proofs.Ytoidpibdjijamaa
