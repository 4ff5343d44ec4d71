/- The program's contracts of chapter 9 but DecCol's (written by mk_I9.py). -/
import Derived.Test.YthniakklkepomaaLaw9
import Derived.Test.YthniakklkepomaaI5b
import Derived.Test.YthniakklkepomaaI6e
import Derived.Test.YthniakklkepomaaI7g
import Derived.Test.YthniakklkepomaaI8e
namespace Go.Proofs.Ythniakklkepomaa
open Go.RowKit

theorem kindIs (k : Int) (w : World) : Calls Try.prog 31 #[.int .i64 k] w fun e w' => e = .returned (.bool (Num.inB k 0 3)) ∧ w = w' := by
  by_cases h0 : 0 ≤ k
  · by_cases h3 : k < 4
    · have e : Num.inB k 0 3 = true := Num.inB_true.2 ⟨h0, by omega⟩
      rw [e]
      go_enter Try.func31, Try.ntmps31
      go_wp2
      go_ret
      exact ⟨rfl, rfl⟩
    · have e : Num.inB k 0 3 = false := Num.inB_false.2 (by omega)
      rw [e]
      go_enter Try.func31, Try.ntmps31
      go_wp2
      go_ret
      exact ⟨rfl, rfl⟩
  · have e : Num.inB k 0 3 = false := Num.inB_false.2 (by omega)
    rw [e]
    go_enter Try.func31, Try.ntmps31
    go_wp2
    go_ret
    exact ⟨rfl, rfl⟩

/-- Four cells of a block that may be written. -/
def Quad (W : World) (b : Nat) (x y z u : Value) : Prop :=
  (W.cell? ⟨b, 0, none⟩ = some x ∧ W.cell? ⟨b, 1, none⟩ = some y ∧ W.cell? ⟨b, 2, none⟩ = some z ∧ W.cell? ⟨b, 3, none⟩ = some u) ∧
  W.frozen? ⟨b, 0, none⟩ = false ∧ W.frozen? ⟨b, 1, none⟩ = false ∧ W.frozen? ⟨b, 2, none⟩ = false ∧ W.frozen? ⟨b, 3, none⟩ = false
theorem quad_new (w : World) (x y z u : Value) (e : TypeId) : Quad (w.alloc (.cells #[x, y, z, u] e)) w.heap.size x y z u := ⟨⟨by simp, by simp, by simp, by simp⟩, by simp, by simp, by simp, by simp⟩
/-- A declared function as a value. -/
def fnV (f : FuncId) : Value := .func (.func f) #[] #[]

theorem encs (w : World) : Calls Try.prog 32 #[] w fun e w' => e = .returned (.agg #[.func (.func 38) #[] #[], .func (.func 49) #[] #[], .func (.func 50) #[] #[], .func (.func 51) #[] #[]]) ∧ Below w.heap.size w w' := by
  obtain ⟨⟨c0, c1, c2, c3⟩, f0, f1, f2, f3⟩ := quad_new w .nilFunc .nilFunc .nilFunc .nilFunc 44
  have hst : ∀ fn f c a W, Sem.run Try.prog (store a (.func fn f c)) W = stored Try.prog W a (.func fn f c) .plain := fun _ _ _ _ _ => run_store _ _ _ _ _ rfl
  go_enter Try.func32, Try.ntmps32
  go_wp2
  clear c0 c1 c2 c3 f0 f1 f2 f3
  obtain ⟨⟨c0, c1, c2, c3⟩, _⟩ := quad_new w (.func (.func 38) #[] #[]) (.func (.func 49) #[] #[]) (.func (.func 50) #[] #[]) (.func (.func 51) #[] #[]) 44
  exact bodyPost_ret (v := .agg #[.func (.func 38) #[] #[], .func (.func 49) #[] #[], .func (.func 50) #[] #[], .func (.func 51) #[] #[]]) (by simp [results, Try.results32, go_sem, *]) rfl ⟨rfl, below_alloc w _⟩
theorem encAt0 (W : World) : (Instr.index 44 (.agg #[.func (.func 38) #[] #[], .func (.func 49) #[] #[], .func (.func 50) #[] #[], .func (.func 51) #[] #[]]) (.int .i64 0)).run Try.prog W = .ok (.func (.func 38) #[] #[]) W := by kernel_rfl
theorem encAt1 (W : World) : (Instr.index 44 (.agg #[.func (.func 38) #[] #[], .func (.func 49) #[] #[], .func (.func 50) #[] #[], .func (.func 51) #[] #[]]) (.int .i64 1)).run Try.prog W = .ok (.func (.func 49) #[] #[]) W := by kernel_rfl
theorem encAt2 (W : World) : (Instr.index 44 (.agg #[.func (.func 38) #[] #[], .func (.func 49) #[] #[], .func (.func 50) #[] #[], .func (.func 51) #[] #[]]) (.int .i64 2)).run Try.prog W = .ok (.func (.func 50) #[] #[]) W := by kernel_rfl
theorem encAt3 (W : World) : (Instr.index 44 (.agg #[.func (.func 38) #[] #[], .func (.func 49) #[] #[], .func (.func 50) #[] #[], .func (.func 51) #[] #[]]) (.int .i64 3)).run Try.prog W = .ok (.func (.func 51) #[] #[]) W := by kernel_rfl

set_option maxHeartbeats 1000000 in
theorem iEncBy : CEncBy := by
  intro u k l w hn hss h
  have H0 : Hid (∀ W, Below w.heap.size w W → Calls Try.prog 38 #[u] W fun e w' => ∃ v', e = .returned v' ∧ Own 5 1 W.heap.size w'.heap.size w' v' (encB 0 l).length (ints .u8 (encB 0 l)) ∧ Below W.heap.size W w') := fun W hW => iEncPlain u l W hn hss (h.below hW)
  have H1 : Hid (∀ W, Below w.heap.size w W → Calls Try.prog 49 #[u] W fun e w' => ∃ v', e = .returned v' ∧ Own 5 1 W.heap.size w'.heap.size w' v' (encB 1 l).length (ints .u8 (encB 1 l)) ∧ Below W.heap.size W w') := fun W hW => iEncRuns u l W hn hss (h.below hW)
  have H2 : Hid (∀ W, Below w.heap.size w W → Calls Try.prog 50 #[u] W fun e w' => ∃ v', e = .returned v' ∧ Own 5 1 W.heap.size w'.heap.size w' v' (encB 2 l).length (ints .u8 (encB 2 l)) ∧ Below W.heap.size W w') := fun W hW => iEncDict u l W hn hss (h.below hW)
  have H3 : Hid (∀ W, Below w.heap.size w W → Calls Try.prog 51 #[u] W fun e w' => ∃ v', e = .returned v' ∧ Own 5 1 W.heap.size w'.heap.size w' v' (encB 3 l).length (ints .u8 (encB 3 l)) ∧ Below W.heap.size W w') := fun W hW => iEncFrame u l W hn hss (h.below hW)
  have HI := Lib.hid (fun W => kindIs k W)
  have HE := Lib.hid (fun W => encs W)
  cases hk : Num.inB k 0 3 with
  | false =>
    rw [hk] at HI
    rw [encB_no (Num.inB_false.1 hk)]
    have O1 := own_lit (e := 5) (size := 1) w #[] 0 (Nat.zero_le _) rfl
    have B1 := below_alloc w (.cells #[] 5)
    clear h hn hss hk
    go_enter Try.func11, Try.ntmps11
    go_wp2_with (go_at_call 31; refine (HI.out _).mono ?_; clear HI; rintro e w' ⟨rfl, rfl⟩)
    go_ret
    exact ⟨_, rfl, O1, B1⟩
  | true =>
    have hb := Num.inB_true.1 hk
    rw [hk] at HI
    have h4 : k = 0 ∨ k = 1 ∨ k = 2 ∨ k = 3 := by omega
    clear h hn hss hk hb
    rcases h4 with rfl | rfl | rfl | rfl
    · have hix := encAt0
      go_enter Try.func11, Try.ntmps11
      go_wp2_with fail
      refine (HI.out _).mono ?_
      rintro e w' ⟨rfl, rfl⟩
      clear HI
      go_wp2_with fail
      refine (HE.out _).mono ?_
      rintro e w1 ⟨rfl, b1⟩
      clear HE
      go_wp2_with fail
      refine (H0.out _ b1).mono ?_
      rintro e w2 ⟨v2, rfl, o2, b2⟩
      have B2 := below_then b1 b2 b1.size
      have z1 := b1.size
      go_wp2
      go_ret
      exact ⟨_, rfl, o2.lower z1, B2⟩
    · have hix := encAt1
      go_enter Try.func11, Try.ntmps11
      go_wp2_with fail
      refine (HI.out _).mono ?_
      rintro e w' ⟨rfl, rfl⟩
      clear HI
      go_wp2_with fail
      refine (HE.out _).mono ?_
      rintro e w1 ⟨rfl, b1⟩
      clear HE
      go_wp2_with fail
      refine (H1.out _ b1).mono ?_
      rintro e w2 ⟨v2, rfl, o2, b2⟩
      have B2 := below_then b1 b2 b1.size
      have z1 := b1.size
      go_wp2
      go_ret
      exact ⟨_, rfl, o2.lower z1, B2⟩
    · have hix := encAt2
      go_enter Try.func11, Try.ntmps11
      go_wp2_with fail
      refine (HI.out _).mono ?_
      rintro e w' ⟨rfl, rfl⟩
      clear HI
      go_wp2_with fail
      refine (HE.out _).mono ?_
      rintro e w1 ⟨rfl, b1⟩
      clear HE
      go_wp2_with fail
      refine (H2.out _ b1).mono ?_
      rintro e w2 ⟨v2, rfl, o2, b2⟩
      have B2 := below_then b1 b2 b1.size
      have z1 := b1.size
      go_wp2
      go_ret
      exact ⟨_, rfl, o2.lower z1, B2⟩
    · have hix := encAt3
      go_enter Try.func11, Try.ntmps11
      go_wp2_with fail
      refine (HI.out _).mono ?_
      rintro e w' ⟨rfl, rfl⟩
      clear HI
      go_wp2_with fail
      refine (HE.out _).mono ?_
      rintro e w1 ⟨rfl, b1⟩
      clear HE
      go_wp2_with fail
      refine (H3.out _ b1).mono ?_
      rintro e w2 ⟨v2, rfl, o2, b2⟩
      have B2 := below_then b1 b2 b1.size
      have z1 := b1.size
      go_wp2
      go_ret
      exact ⟨_, rfl, o2.lower z1, B2⟩

end Go.Proofs.Ythniakklkepomaa
