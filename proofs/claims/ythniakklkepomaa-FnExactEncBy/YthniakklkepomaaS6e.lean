/- The contract of the model's EncRuns, and its comparison of bytes. -/
import Derived.Test.YthniakklkepomaaS6b
import Derived.Test.YthniakklkepomaaS5e
namespace Go.Proofs.Ythniakklkepomaa
open Go.RowKit

theorem addRun_mem {r : List U} {v : V} {p : V → Prop} (h : ∀ u ∈ r, p u.v) (hv : p v) : ∀ u ∈ addRun r v, p u.v := by
  intro u hu
  unfold addRun at hu
  split at hu
  · rename_i hc
    rcases List.mem_or_eq_of_mem_set hu with hu | rfl
    · exact h u hu
    · have hk : r.length - 1 < r.length := by omega
      have e : lastU r = r[r.length - 1] := by simp [lastU, hk]
      simp only
      rw [e]
      exact h _ (List.getElem_mem hk)
  · rcases List.mem_append.1 hu with hu | hu
    · exact h u hu
    · rw [List.mem_singleton.1 hu]
      exact hv
theorem runsL_all {l : List V} {p : V → Prop} (h : ∀ v ∈ l, p v) : ∀ u ∈ runsL l, p u.v := by
  have : ∀ (l : List V) (r : List U), (∀ u ∈ r, p u.v) → (∀ v ∈ l, p v) → ∀ u ∈ l.foldl addRun r, p u.v := by
    intro l
    induction l with
    | nil => intro r hr _; exact hr
    | cons v l ih =>
      intro r hr hl
      exact ih _ (addRun_mem hr (hl v List.mem_cons_self)) (fun x hx => hl x (List.mem_cons_of_mem _ hx))
  exact this l [] (by simp) h

/-- EncRuns. -/
def encU (b : List Int) (r : List U) : List Int := r.foldl (fun b u => putV (Num.put b u.k) u.v) b
theorem encU_snoc (b : List Int) (r : List U) (u : U) : encU b (r ++ [u]) = putV (Num.put (encU b r) u.k) u.v := by simp [encU]
theorem encU_len (b : List Int) (r : List U) : (encU b r).length ≤ b.length + 12 * r.length := by
  induction r generalizing b with
  | nil => simp [encU]
  | cons u r ih =>
    have h1 := ih (putV (Num.put b u.k) u.v)
    have h2 := (putV_len (Num.put b u.k) u.v).2
    have h3 := (Num.put_len b u.k).2
    have e : encU b (u :: r) = encU (putV (Num.put b u.k) u.v) r := rfl
    rw [e]
    simp only [List.length_cons]
    omega
def encR (l : List V) : List Int := if typeV l = 0 then [] else encU (Num.put [] (runsL l).length) (runsL l)

theorem encU_bytes {b : List Int} (h : Num.Bytes b) (r : List U) : Num.Bytes (encU b r) := by
  induction r generalizing b with
  | nil => exact h
  | cons u r ih => exact ih (putV_bytes (Num.put_bytes h _) _)
theorem encR_bytes (l : List V) : Num.Bytes (encR l) := by
  unfold encR
  split
  · exact nil_bytes
  · exact encU_bytes (Num.put_bytes nil_bytes _) _
theorem encR_len (l : List V) : (encR l).length ≤ 5 + 12 * 64 := by
  unfold encR
  split
  · simp
  · rename_i h
    have h1 := typeV_len h
    have h2 := runsL_len l
    have h3 := encU_len (Num.put [] (runsL l).length) (runsL l)
    have h4 := (Num.put_len [] (runsL l).length).2
    simp only [List.length_nil] at h4
    omega

set_option maxHeartbeats 2000000 in
theorem sEncRuns (u : Value) (l : List V) (w : World) (hn : l.length ≤ 1048576) (hss : ∀ v ∈ l, v.s.size ≤ maxLen) (h : Rd 3 w u l.length (vals l)) :
    Calls Try.prog 27 #[u] w fun e w' => ∃ v', e = .returned v' ∧ Own 5 1 w.heap.size w'.heap.size w' v' (encR l).length (ints .u8 (encR l)) ∧ Below w.heap.size w w' := by
  have HT := Lib.hid (sTypeOf u l w hss h)
  have HR := Lib.hid (fun W (hW : Below w.heap.size w W) => sRuns u l W hn (h.below hW))
  have HE : Hid (encR l = if typeV l = 0 then [] else encU (Num.put [] (runsL l).length) (runsL l)) := rfl
  have HRS := Lib.hid (runsL_all (p := fun v => v.s.size ≤ maxLen) hss)
  have HRL := Lib.hid (runsL_len l)
  have HTL : Hid (¬ typeV l = 0 → l.length ≤ 64) := typeV_len
  obtain ⟨a, cap, rfl, _, _⟩ := h
  generalize typeV l = ty at HT HE HTL
  generalize runsL l = r at HR HE HRS HRL
  clear hss
  generalize hln : l.length = n at *
  go_enter Try.func27, Try.ntmps27
  go_wp2_with fail
  refine HT.out.mono ?_
  rintro e w1 ⟨rfl, b1⟩
  clear HT
  by_cases ht : ty = 0
  · subst ht
    rw [if_pos rfl] at HE
    have OL := own_lit (e := 5) (size := 1) w1 #[] 0 (Nat.zero_le _) rfl
    have BL := b1.alloc b1.size (.cells #[] 5)
    have hzz := b1.size
    go_wp2
    go_ret
    rw [HE.out]
    exact ⟨_, rfl, OL.lower hzz, BL⟩
  · have htb : (ty == 0) = false := by simpa using ht
    have h64 := HTL.out ht
    have hrl := HRL.out
    rw [if_neg ht] at HE
    go_wp2_with fail
    refine (HR.out _ b1).mono ?_
    rintro e w2 ⟨v2, rfl, o2, b2⟩
    have B2 := below_then b1 b2 b1.size
    clear HR b2
    generalize hm : r.length = m at o2 hrl HE
    obtain ⟨a2, c2, rfl, _, HC⟩ := o2.rd.runs hm
    have HM := Lib.hid hm
    have hown0 := own_lit (e := 5) (size := 1) w2 #[] 0 (Nat.zero_le _) rfl
    have hb0 := below_alloc w2 (.cells #[] 5)
    have HP0 := Lib.hid (sPutNum _ 0 [] (m : Int) (w2.alloc (.cells #[] 5)) (by omega) rfl hown0.at)
    have HS : Hid (∀ k, k < m → encU (Num.put [] (m : Int)) (r.take (k + 1)) = putV (Num.put (encU (Num.put [] (m : Int)) (r.take k)) (r.getD k U.zero).k) (r.getD k U.zero).v) := fun k hk => by
      have hk' : k < r.length := by omega
      have e : r.getD k U.zero = r[k] := by simp [hk']
      rw [e, List.take_succ_eq_append_getElem hk', encU_snoc]
    have HSS : Hid (∀ k, k < m → (r.getD k U.zero).v.s.size ≤ maxLen) := fun k hk => by
      have hk' : k < r.length := by omega
      have e : r.getD k U.zero = r[k] := by simp [hk']
      rw [e]
      exact HRS.out _ (List.getElem_mem hk')
    have HEL : Hid (∀ k, k ≤ m → (encU (Num.put [] (m : Int)) (r.take k)).length ≤ 5 + 12 * k) := fun k hk => by
      have h1 := encU_len (Num.put [] (m : Int)) (r.take k)
      have h2 := (Num.put_len [] (m : Int)).2
      have e : (r.take k).length = k := by simp; omega
      rw [e] at h1
      simp only [List.length_nil] at h2
      omega
    have HZ : Hid (encU (Num.put [] (m : Int)) (r.take 0) = Num.put [] (m : Int)) := rfl
    clear hm o2 HRS
    have hcc : ((m : Nat) : Int) = m := rfl
    clear hcc
    go_wp2_with fail
    refine HP0.out.mono ?_
    rintro e w3 ⟨v3, rfl, o3, b3⟩
    have B23 := below_then hb0 b3 hb0.size
    rw [← HZ.out] at o3
    have O3 : Own 5 1 w2.heap.size w3.heap.size w3 v3 (encU (Num.put [] (m : Int)) (r.take 0)).length (ints .u8 (encU (Num.put [] (m : Int)) (r.take 0))) := o3.lower (by simp)
    clear HP0 b3 hb0 hown0 o3
    go_wp2
    go_loopw [4, 5] (fun o i wr => ∃ k : Nat, k ≤ m ∧ i = .int .i64 k ∧ Own 5 1 w2.heap.size wr.heap.size wr o (encU (Num.put [] (m : Int)) (r.take k)).length (ints .u8 (encU (Num.put [] (m : Int)) (r.take k))) ∧ Below w2.heap.size w2 wr) (fun _ i _ => m - (intOf i).toNat)
    case atStart => exact ⟨0, Nat.zero_le _, rfl, O3, B23⟩
    case round =>
      obtain ⟨k, hk, rfl, hown, hbr⟩ := hrel
      by_cases hlt : k < m
      · obtain ⟨b, off, rfl, _⟩ := HC.out k hlt wr hbr
        have HSK := Lib.hid (HS.out k hlt)
        have hel := HEL.out k hk
        have hsz := HSS.out k hlt
        have HK : Hid (∀ W, Below wr.heap.size wr W → W.cell? ⟨b, off + k * 4, none⟩ = some (.int .i64 (r.getD k U.zero).v.ty) ∧ W.cell? ⟨b, off + k * 4 + 1, none⟩ = some (.int .i64 (r.getD k U.zero).v.n) ∧ W.cell? ⟨b, off + k * 4 + 2, none⟩ = some (.string (r.getD k U.zero).v.s) ∧ W.cell? ⟨b, off + k * 4 + 3, none⟩ = some (.int .i64 (r.getD k U.zero).k)) := fun W hW => by
          obtain ⟨_, _, e1, d1⟩ := HC.out k hlt W (below_then hbr hW hbr.size)
          cases e1
          exact d1
        generalize r.getD k U.zero = x at HSK HK hsz
        obtain ⟨⟨t1, n1, s1⟩, q⟩ := x
        simp only at HSK HK hsz
        generalize encU (Num.put [] (m : Int)) (r.take k) = zs at hown hel HSK
        have hpl := (Num.put_len zs q).2
        have HP := Lib.hid (fun W (hW : Below wr.heap.size wr W) => sPutNum _ zs.length zs q W (by omega) rfl (hown.at.below hW))
        have HPV := Lib.hid (fun v W (h : At 1 W v (Num.put zs q).length (ints .u8 (Num.put zs q))) => sPutVal v (Num.put zs q).length (Num.put zs q) ⟨t1, n1, s1⟩ W (by omega) hsz rfl h)
        obtain ⟨g, cp, rfl, _, _, _⟩ := hown
        rw [← HSK.out] at HPV
        generalize Num.put zs q = zq at HP HPV
        have hB' := (Below.refl wr.heap.size wr).drew
        generalize zs.length = c at *
        go_wp2
        go_region_held3 (fun W => W.cell? ⟨b, off + k * 4, none⟩ = some (.int .i64 t1) ∧ W.cell? ⟨b, off + k * 4 + 1, none⟩ = some (.int .i64 n1) ∧ W.cell? ⟨b, off + k * 4 + 2, none⟩ = some (.string s1) ∧ W.cell? ⟨b, off + k * 4 + 3, none⟩ = some (.int .i64 q)) (exact HK.out _ hB') (first | (go_at_call 41; (with_reducible refine (HP.out _ hB').mono ?_); rintro e w4 ⟨v4, rfl, o4, hb4⟩; replace hB' := below_then hB' hb4 hB'.size) | (go_at_call 39; (with_reducible refine (HPV.out v4 _ o4.at).mono ?_); rintro e w5 ⟨v5, rfl, o5, hb5⟩; have z5 := hB'.size; replace hB' := below_then hB' hb5 hB'.size))
        have hz := hbr.size
        have O5 := Lib.hid (o5.lower (show w2.heap.size ≤ _ by omega))
        clear o5 o4
        go_wp2
        go_roundw
        case rel => exact ⟨k + 1, by omega, by go_num, O5.out, below_then hbr hB' hbr.size⟩
        case measure => simp [intOf]; omega
      · obtain rfl : k = m := by omega
        rw [← HM.out, List.take_length, HM.out, ← HE.out] at hown
        go_wp2
        go_ret
        exact ⟨_, rfl, hown.lower B2.size, below_then B2 hbr B2.size⟩

end Go.Proofs.Ythniakklkepomaa
