/- Texts of this claim, one behind the other: S5p. -/
import Derived.Test.YthdcggohibaipaaP14
import Derived.Test.YthdcggohibaipaaP4
import Derived.Test.YthdcggohibaipaaP6

/- The contract of the model's PutVal. -/
namespace Go.Proofs.Ythdcggohibaipaa
open Go.RowKit

/-- PutVal. -/
def putV (zs : List Int) (v : V) : List Int := if okV v = true then (if v.ty = 1 then Num.put zs v.n else zs ++ ((v.s.size : Int) :: sbytes v.s)) else zs
theorem okV_txt {v : V} (h : okV v = true) (ht : ¬ v.ty = 1) : v.s.size ≤ 6 := by
  unfold okV at h
  rw [if_neg ht] at h
  simp only [Bool.and_eq_true] at h
  have h2 := h.2.2
  unfold txtB at h2
  simp only [Bool.and_eq_true, decide_eq_true_eq] at h2
  first | exact h2.1 | exact h2.2
theorem putV_len (zs : List Int) (v : V) : zs.length ≤ (putV zs v).length ∧ (putV zs v).length ≤ zs.length + 7 := by
  unfold putV
  split
  · split
    · have := Num.put_len zs v.n
      omega
    · rename_i h ht
      have := okV_txt h ht
      simp only [List.length_append, List.length_cons, sbytes_len]
      omega
  · omega

theorem below_alloc_own {e size lo hi w v n xs} (h : Own e size lo hi w v n xs) (o : Obj) : Below lo w (w.alloc o) := (Below.refl lo w).alloc h.lo o

end Go.Proofs.Ythdcggohibaipaa
