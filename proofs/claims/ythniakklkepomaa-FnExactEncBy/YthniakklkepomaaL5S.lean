/- The model's l5Same (two slices of bytes are the same), and small lemmas on bytes. -/
import Derived.Test.YthniakklkepomaaS5e
namespace Go.Proofs.Ythniakklkepomaa
open Go.RowKit

theorem Own.drewN {e size lo hi w v n xs} (h : Own e size lo hi w v n xs) (d : Nat) : Own e size lo hi (w.drewN d) v n xs := by
  obtain ⟨g, cap, rfl, h1, h2, h3⟩ := h
  exact ⟨g, cap, rfl, h1, h2, h3.1, h3.2⟩
theorem sbytes_bytes (s : ByteArray) : Num.Bytes (sbytes s) := by
  intro x hx
  unfold sbytes at hx
  obtain ⟨b, _, rfl⟩ := List.mem_map.1 hx
  have := b.toNat_lt
  omega
theorem bytes_append {a b : List Int} (ha : Num.Bytes a) (hb : Num.Bytes b) : Num.Bytes (a ++ b) := fun x hx => (List.mem_append.1 hx).elim (ha x) (hb x)
theorem putV_bytes {zs : List Int} (h : Num.Bytes zs) (v : V) : Num.Bytes (putV zs v) := by
  unfold putV
  split
  · rename_i hok
    split
    · exact Num.put_bytes h v.n
    · rename_i ht
      have := okV_txt hok ht
      refine bytes_append h (fun x hx => ?_)
      rcases List.mem_cons.1 hx with rfl | hx
      · omega
      · exact sbytes_bytes _ x hx
  · exact h
theorem nil_bytes : Num.Bytes [] := fun x hx => by cases hx
theorem strOfNums_inj {xs ys : List Int} (hx : Num.Bytes xs) (hy : Num.Bytes ys) (h : strOfNums xs = strOfNums ys) : xs = ys := by
  have h2 : xs.map (fun n => UInt8.ofNat n.toNat) = ys.map (fun n => UInt8.ofNat n.toNat) := by
    have := congrArg (fun s : ByteArray => s.data.toList) h
    simpa [strOfNums] using this
  induction xs generalizing ys with
  | nil => cases ys with
    | nil => rfl
    | cons => simp at h2
  | cons x xs ih => cases ys with
    | nil => simp at h2
    | cons y ys =>
      simp only [List.map_cons, List.cons.injEq] at h2
      have h1 := hx x List.mem_cons_self
      have h3 := hy y List.mem_cons_self
      have e : x.toNat = y.toNat := by
        have := congrArg UInt8.toNat h2.1
        simp only [UInt8.toNat_ofNat'] at this
        omega
      have hxs : strOfNums xs = strOfNums ys := by
        unfold strOfNums
        rw [h2.2]
      rw [show x = y by omega, ih (fun z hz => hx z (List.mem_cons_of_mem _ hz)) (fun z hz => hy z (List.mem_cons_of_mem _ hz)) hxs h2.2]
theorem bstr_ne {a b : ByteArray} (h : ¬ a = b) : (a.toList == b.toList) = false := by
  have : ¬ a.toList = b.toList := fun e => h (by
    rw [ByteArray.toList_eq, ByteArray.toList_eq] at e
    apply ByteArray.ext
    exact Array.toList_inj.1 e)
  simpa using this
theorem conv_at {w : World} {v : Value} {n : Nat} {zs : List Int} (hz : zs.length = n) (h : At 1 w v n (ints .u8 zs)) : (convert 24 9 v).run Try.prog w = .ok (.string (strOfNums zs)) w := by
  obtain ⟨b, off, cap, rfl, _, _, _, hc⟩ := h
  exact run_convert_bytes_arg w 24 5 Try.underlying24 Try.underlying5 b off n cap zs hz (fun j hj => At.cell hc hz hj) 9 Try.underlying9
theorem getV_size (zs : List Int) (i ty : Int) : (getV zs i ty).1.s.size ≤ maxLen := by
  have h6 : ∀ v : V, okV v = true → ¬ v.ty = 1 → v.s.size ≤ maxLen := fun v h ht => Nat.le_trans (okV_txt h ht) (by decide)
  unfold getV
  split
  · split
    · exact Nat.zero_le _
    · exact Nat.zero_le _
  · split
    · unfold getT
      split
      · rename_i h
        exact h6 _ h.2 (fun e => by simp at e)
      · exact Nat.zero_le _
    · exact Nat.zero_le _

end Go.Proofs.Ythniakklkepomaa
