/- The contract of bytes.Equal, as the program calls it. -/
import Derived.Test.YtoidpibdjijamaaL5S
namespace Go.Proofs.Ytoidpibdjijamaa
open Go.RowKit

theorem set_same {α : Type} {l : List α} {i : Nat} {x : α} (h : l[i]? = some x) : l.set i x = l := by
  apply List.ext_getElem?
  intro j
  rw [List.getElem?_set]
  split
  · rename_i e
    subst e
    rw [h]
    split
    · rfl
    · rename_i hl
      rw [List.getElem?_eq_none (by omega)] at h
      cases h
  · rfl
theorem bytesEqual (u v : Value) (n m : Nat) (xs ys : List Int) (w : World) (hxl : xs.length = n) (hyl : ys.length = m) (hx : Num.Bytes xs) (hy : Num.Bytes ys) (h1 : At 1 w u n (ints .u8 xs)) (h2 : At 1 w v m (ints .u8 ys)) :
    Calls Try.prog 62 #[u, v] w fun e w' => e = .returned (.bool (decide (xs = ys))) ∧ w = w' := by
  have k1 := conv_at hxl h1
  have k2 := conv_at hyl h2
  have HX : Hid (((strOfNums xs).toList == (strOfNums ys).toList) = decide (xs = ys)) := by
    show _ = _
    by_cases he : xs = ys
    · subst he
      simp
    · rw [bstr_ne (fun h => he (strOfNums_inj hx hy h)), decide_eq_false he]
  obtain ⟨b1, o1, c1, rfl, _, _, _, _⟩ := h1
  obtain ⟨b2, o2, c2, rfl, _, _, _, _⟩ := h2
  generalize strOfNums xs = s1 at k1 HX
  generalize strOfNums ys = s2 at k2 HX
  generalize decide (xs = ys) = q at HX
  clear hx hy hxl hyl
  go_enter Try.func62, Try.ntmps62
  go_wp2
  go_ret
  exact ⟨ret_bool HX.out, rfl⟩
theorem putNum_puts {zs : List Int} {x : Int} (h : Num.ok x) : Num.put zs x = Num.puts zs [x] := by
  rw [Num.puts_one, Num.put_ok h]

end Go.Proofs.Ytoidpibdjijamaa
