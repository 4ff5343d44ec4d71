/- The contracts of the program's and the model's ParseNum. -/
import Derived.Test.YtdclbpbjdaefhaaDoorDNum
import Derived.Test.YtdclbpbjdaefhaaDoorDig
import Derived.Test.YtdclbpbjdaefhaaDoorNumOk
import Derived.Lib.AtoiErrMem
namespace Go.Proofs.YtdclbpbjdaefhaaDoor
open Go.RowKit

/-- The library's sentinel lies where its text lays it. -/
def Syn (w : World) : Prop := ∃ tp p, w.var? Tryd.prog "strconv.ErrSyntax" = some #[.iface tp p]

/-- What ParseNum returns. -/
def pRes (r : Int × Bool) : Value := .tuple #[.int .i64 r.1, .bool r.2]

set_option maxHeartbeats 400000 in
theorem iParseNum (l : List UInt8) (w : World) (hl : l.length ≤ 9223372036854775807) (ht : Tab w) (hv : Syn w) :
    Calls Tryd.prog 42 #[.string ⟨l.toArray⟩] w fun e w' => e = .returned (pRes (Dig.parse l)) ∧ Below w.heap.size w w' := by
  by_cases h11 : l.length ≤ 11
  · cases ha : Lib.atoi l with
    | none =>
      have HP : Hid (Dig.parse l = (0, false)) := by
        show Dig.parse l = (0, false)
        unfold Dig.parse; rw [if_pos h11, ha]
      have HA := Lib.hid ha
      clear ha
      obtain ⟨tp, p, hvar⟩ := hv
      go_enter Tryd.func42, Tryd.ntmps42
      go_wp2_with fail
      refine (Tryd.strconv_Atoi_err_var ⟨l.toArray⟩ (by simp [ByteArray.size]; omega) HA.out tp p w hvar).mono ?_
      rintro e w1 ⟨N, rfl, _, _, hb⟩
      go_wp2
      go_ret2
      exact ⟨by rw [HP.out]; rfl, hb⟩
    | some n =>
      have hnb := Lib.atoi_bound ha (by omega)
      have HA := Lib.hid ha
      obtain ⟨hn0, hn1⟩ := hnb
      by_cases hok : Num.okB n = true
      · by_cases hi : Lib.itoa n = l
        · have HP : Hid (Dig.parse l = (n, true)) := by
            show Dig.parse l = (n, true)
            unfold Dig.parse; rw [if_pos h11, ha]; simp only; rw [if_pos ⟨hok, hi⟩]
          clear ha
          have HI := Lib.hid hi
          clear hi
          go_enter Tryd.func42, Tryd.ntmps42
          go_wp2_with fail
          refine (Tryd.strconv_Atoi ⟨l.toArray⟩ n (by simp [ByteArray.size]; omega) HA.out w).mono ?_
          rintro e w1 ⟨rfl, t, rfl⟩
          have hb := Lib.bytesWorld_below w 5 t
          generalize Lib.bytesWorld w 5 t = w1 at *
          go_wp2_with (go_at_call 47; refine (numOk _ _).mono ?_; rintro e w' ⟨rfl, rfl⟩)
          refine (iNumText n w1 (by omega) (by omega) (ht.below hb)).mono ?_
          rw [HI.out]
          rintro e w2 ⟨rfl, b2⟩
          have b3 := below_then hb b2 hb.size
          go_wp2
          go_ret2
          exact ⟨by rw [HP.out]; rfl, b3⟩
        · have HP : Hid (Dig.parse l = (0, false)) := by
            show Dig.parse l = (0, false)
            unfold Dig.parse; rw [if_pos h11, ha]; simp only; rw [if_neg (fun h => hi h.2)]
          clear ha
          have hib : (Lib.itoa n == l) = false := by simpa using hi
          clear hi
          go_enter Tryd.func42, Tryd.ntmps42
          go_wp2_with fail
          refine (Tryd.strconv_Atoi ⟨l.toArray⟩ n (by simp [ByteArray.size]; omega) HA.out w).mono ?_
          rintro e w1 ⟨rfl, t, rfl⟩
          have hb := Lib.bytesWorld_below w 5 t
          generalize Lib.bytesWorld w 5 t = w1 at *
          go_wp2_with (go_at_call 47; refine (numOk _ _).mono ?_; rintro e w' ⟨rfl, rfl⟩)
          refine (iNumText n w1 (by omega) (by omega) (ht.below hb)).mono ?_
          rintro e w2 ⟨rfl, b2⟩
          have b3 := below_then hb b2 hb.size
          go_wp2
          go_ret2
          exact ⟨by rw [HP.out]; rfl, b3⟩
      · have HP : Hid (Dig.parse l = (0, false)) := by
          show Dig.parse l = (0, false)
          unfold Dig.parse; rw [if_pos h11, ha]; simp only; rw [if_neg (fun h => hok h.1)]
        clear ha
        have hokb : Num.okB n = false := by simpa using hok
        clear hok
        go_enter Tryd.func42, Tryd.ntmps42
        go_wp2_with fail
        refine (Tryd.strconv_Atoi ⟨l.toArray⟩ n (by simp [ByteArray.size]; omega) HA.out w).mono ?_
        rintro e w1 ⟨rfl, t, rfl⟩
        have hb := Lib.bytesWorld_below w 5 t
        generalize Lib.bytesWorld w 5 t = w1 at *
        go_wp2_with (go_at_call 47; refine (numOk _ _).mono ?_; rintro e w' ⟨rfl, rfl⟩)
        go_ret2
        exact ⟨by rw [HP.out]; rfl, hb⟩
  · have HP : Hid (Dig.parse l = (0, false)) := by
      show Dig.parse l = (0, false)
      unfold Dig.parse; rw [if_neg h11]
    go_enter Tryd.func42, Tryd.ntmps42
    go_wp2
    go_ret2
    exact ⟨by rw [HP.out]; rfl, Below.refl _ _⟩

end Go.Proofs.YtdclbpbjdaefhaaDoor
