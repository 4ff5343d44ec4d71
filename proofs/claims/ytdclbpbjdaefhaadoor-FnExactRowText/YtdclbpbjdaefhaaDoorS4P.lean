/- The contracts of the model's l4Split and ParseVals. -/
import Derived.Test.YtdclbpbjdaefhaaDoorS4T
namespace Go.Proofs.YtdclbpbjdaefhaaDoor
open Go.RowKit

/-- The parts of a text between bytes. -/
def cuts (by_ : UInt8) : List UInt8 → List (List UInt8)
  | [] => [[]]
  | c :: r => if c = by_ then [] :: cuts by_ r else match cuts by_ r with
    | [] => [[c]]
    | p :: ps => (c :: p) :: ps
theorem cuts_ne (b : UInt8) (l : List UInt8) : cuts b l ≠ [] := by
  cases l with
  | nil => simp [cuts]
  | cons c r =>
    rw [cuts]
    split
    · simp
    · split <;> simp
theorem cuts_none {b : UInt8} {l : List UInt8} (h : ∀ k (hk : k < l.length), l[k] ≠ b) : cuts b l = [l] := by
  induction l with
  | nil => rfl
  | cons c r ih =>
    have h0 := h 0 (by simp)
    rw [cuts, if_neg (by simpa using h0), ih (fun k hk => h (k + 1) (by simpa using hk))]
theorem cuts_sep {b : UInt8} {l : List UInt8} {m : Nat} (hm : m < l.length) (h : ∀ k (hk : k < l.length), k < m → l[k] ≠ b) (hb : l[m] = b) : cuts b l = l.take m :: cuts b (l.drop (m + 1)) := by
  induction l generalizing m with
  | nil => simp at hm
  | cons c r ih =>
    cases m with
    | zero =>
      simp only [List.getElem_cons_zero] at hb
      rw [cuts, if_pos hb]
      simp
    | succ m =>
      have h0 := h 0 (by simp) (by omega)
      simp only [List.getElem_cons_zero] at h0
      rw [cuts, if_neg h0, ih (m := m) (by simpa using hm) (fun k hk hkm => h (k + 1) (by simpa using hk) (by omega)) (by simpa using hb)]
      simp
theorem cuts_len (b : UInt8) (l : List UInt8) : (cuts b l).length ≤ l.length + 1 := by
  induction l with
  | nil => simp [cuts]
  | cons c r ih =>
    rw [cuts]
    split
    · simp; omega
    · split
      · simp
      · rename_i p ps e
        rw [e] at ih
        simp at ih ⊢
        omega
theorem cuts_part {b : UInt8} {l : List UInt8} {p : List UInt8} (h : p ∈ cuts b l) : p.length ≤ l.length := by
  induction l generalizing p with
  | nil => simp [cuts] at h; simp [h]
  | cons c r ih =>
    rw [cuts] at h
    split at h
    · rcases List.mem_cons.1 h with rfl | h
      · simp
      · have := ih h
        simp; omega
    · split at h
      · simp at h
        simp [h]
      · rename_i q qs e
        rcases List.mem_cons.1 h with rfl | h
        · have := ih (p := q) (by rw [e]; simp)
          simp; omega
        · have := ih (p := p) (by rw [e]; exact List.mem_cons_of_mem _ h)
          simp; omega
/-- As strings. -/
def bas (l : List (List UInt8)) : List ByteArray := l.map fun p => ⟨p.toArray⟩

theorem extract_list (l : List UInt8) (f i : Nat) : (⟨l.toArray⟩ : ByteArray).extract f i = ⟨((l.drop f).take (i - f)).toArray⟩ := by
  apply ByteArray.ext
  apply Array.toList_inj.1
  simp [ByteArray.data_extract, List.take_drop]
  try (rw [List.take_drop])

/-- What l4Split has found when it stands at i, the part begun at f. -/
def SplitAt (b : UInt8) (l : List UInt8) (i f : Nat) (out : List (List UInt8)) : Prop :=
  (f ≤ i ∧ i ≤ l.length ∧ out ++ cuts b (l.drop f) = cuts b l ∧ ∀ k (hk : k < l.length), f ≤ k → k < i → l[k] ≠ b) ∨ (i = l.length + 1 ∧ out = cuts b l)
theorem SplitAt.on {b : UInt8} {l : List UInt8} {i f : Nat} {out : List (List UInt8)} (h : SplitAt b l i f out) (hi : i < l.length) (hne : l[i] ≠ b) : SplitAt b l (i + 1) f out := by
  rcases h with ⟨h1, h2, h3, h4⟩ | ⟨h1, _⟩
  · refine .inl ⟨by omega, by omega, h3, fun k hk hf hki => ?_⟩
    by_cases e : k = i
    · subst e; exact hne
    · exact h4 k hk hf (by omega)
  · omega
theorem SplitAt.cut {b : UInt8} {l : List UInt8} {i f : Nat} {out : List (List UInt8)} (h : SplitAt b l i f out) (hi : i < l.length) (he : l[i] = b) : SplitAt b l (i + 1) (i + 1) (out ++ [(l.drop f).take (i - f)]) := by
  rcases h with ⟨h1, h2, h3, h4⟩ | ⟨h1, _⟩
  · refine .inl ⟨Nat.le_refl _, by omega, ?_, fun k hk hf hki => by omega⟩
    have hs := cuts_sep (b := b) (l := l.drop f) (m := i - f) (by simp; omega) (fun k hk hkm => by
      rw [List.getElem_drop]
      exact h4 (f + k) (by simp at hk; omega) (by omega) (by omega)) (by
      rw [List.getElem_drop]
      simp only [show f + (i - f) = i by omega]
      exact he)
    rw [hs, List.drop_drop, show f + (i - f + 1) = i + 1 by omega] at h3
    rw [List.append_assoc]
    exact h3
  · omega
theorem SplitAt.last {b : UInt8} {l : List UInt8} {f : Nat} {out : List (List UInt8)} (h : SplitAt b l l.length f out) : SplitAt b l (l.length + 1) (l.length + 1) (out ++ [(l.drop f).take (l.length - f)]) := by
  rcases h with ⟨h1, h2, h3, h4⟩ | ⟨h1, _⟩
  · refine .inr ⟨rfl, ?_⟩
    rw [cuts_none (l := l.drop f) (fun k hk => by
      rw [List.getElem_drop]
      exact h4 (f + k) (by simp at hk; omega) (by omega) (by simp at hk; omega))] at h3
    rw [← h3, List.take_of_length_le (by simp)]
  · omega
theorem SplitAt.le {b : UInt8} {l : List UInt8} {i f : Nat} {out : List (List UInt8)} (h : SplitAt b l i f out) (hi : i ≤ l.length) : f ≤ i ∧ out.length ≤ l.length + 1 := by
  rcases h with ⟨h1, h2, h3, h4⟩ | ⟨h1, _⟩
  · have := congrArg List.length h3
    rw [List.length_append] at this
    have := cuts_len b l
    exact ⟨h1, by omega⟩
  · omega

set_option maxHeartbeats 1000000 in
theorem sSplit (l : List UInt8) (w : World) (hl : l.length ≤ 1073741824) :
    Calls Tryd.prog 23 #[.string ⟨l.toArray⟩, .int .u8 32] w fun e w' => ∃ v', e = .returned v' ∧ Own 9 1 w.heap.size w'.heap.size w' v' (cuts 32 l).length (strs (bas (cuts 32 l))) ∧ Below w.heap.size w w' := by
  have hown0 := own_lit (e := 9) (size := 1) w #[] 0 (Nat.zero_le _) rfl
  have hb0 := below_alloc w (.cells #[] 9)
  generalize hs : (⟨l.toArray⟩ : ByteArray) = s
  have hz : l.length = s.size := by rw [← hs]; simp [ByteArray.size]
  have HX : Hid (∀ f i, s.extract f i = ⟨((l.drop f).take (i - f)).toArray⟩) := fun f i => by rw [← hs]; exact extract_list l f i
  have HB : Hid (∀ k (hk : k < s.size) (hk' : k < l.length), s[k] = l[k]) := fun k hk hk' => by subst hs; rfl
  clear hs
  have hz' : s.size ≤ 1073741824 := by omega
  have HZ := Lib.hid hz
  clear hz hl
  go_enter Tryd.func23, Tryd.ntmps23
  go_wp2
  go_loopw [5, 6, 7] (fun o f i wr => ∃ (k f' : Nat) (out : List (List UInt8)), k ≤ s.size + 1 ∧ i = .int .i64 k ∧ f = .int .i64 f' ∧ SplitAt 32 l k f' out ∧ Own 9 1 w.heap.size wr.heap.size wr o out.length (strs (bas out)) ∧ Below w.heap.size w wr) (fun _ _ i _ => s.size + 1 - (intOf i).toNat)
  case atStart => exact ⟨0, 0, [], Nat.zero_le _, rfl, rfl, .inl ⟨Nat.le_refl _, Nat.zero_le _, rfl, fun k _ _ hk => by omega⟩, hown0, hb0⟩
  case round =>
    obtain ⟨k, f, out, hk, rfl, rfl, hsp, hown, hbr⟩ := hrel
    have HSP := Lib.hid hsp
    clear hsp
    by_cases hlt : k ≤ s.size
    · obtain ⟨hf, hol⟩ := HSP.out.le (by rw [HZ.out]; exact hlt)
      rw [HZ.out] at hol
      have HSN : Hid (strs (bas (out ++ [(l.drop f).take (k - f)])) = strs (bas out) ++ [.string (s.extract f k)]) := by
        show _ = _
        rw [HX.out f k]
        simp [bas, strs]
      have HLN : Hid ((out ++ [(l.drop f).take (k - f)]).length = out.length + 1) := by
        show _ = _
        simp
      generalize hxe : s.extract f k = x at HSN
      by_cases he : k = s.size
      · have hke : ((k : Int) == (s.size : Int)) = true := by rw [he]; simp
        have HS2 : Hid (SplitAt 32 l (k + 1) (k + 1) (out ++ [(l.drop f).take (k - f)])) := by
          have h1 := HSP.out
          have e : k = l.length := by rw [HZ.out]; exact he
          subst e
          exact h1.last
        clear he
        generalize hC : strs (bas out) = C at hown HSN
        generalize out.length = c at *
        clear hC
        go_wp2_with (at_builtin; refine append1_law Tryd.elemStrs rfl _ _ rfl _ _ _ _ _ (.string x) rfl rfl hown rfl (by unfold maxLen; omega) (by omega) ?_)
        intro v3 w3 o3 e3
        have b3 := hbr.trans (e3.below hown)
        have O3 := Lib.hid o3
        clear o3 e3 hown
        go_wp2
        go_roundw
        case rel => exact ⟨k + 1, k + 1, _, by omega, by go_num, by go_num, HS2.out, by rw [HLN.out, HSN.out]; exact O3.out, b3⟩
        case measure => simp [intOf]; omega
      · have hks : k < s.size := by omega
        have hkl : k < l.length := by rw [HZ.out]; exact hks
        have hke : ((k : Int) == (s.size : Int)) = false := by simp; omega
        by_cases hc : s[k] = 32
        · have hcc : ((s[k].toNat : Int) == 32) = true := by rw [hc]; rfl
          have HS2 : Hid (SplitAt 32 l (k + 1) (k + 1) (out ++ [(l.drop f).take (k - f)])) := HSP.out.cut hkl (by rw [← HB.out k hks hkl]; exact hc)
          generalize hC : strs (bas out) = C at hown HSN
          generalize out.length = c at *
          clear hC hc
          go_wp2_with (at_builtin; refine append1_law Tryd.elemStrs rfl _ _ rfl _ _ _ _ _ (.string x) rfl rfl hown rfl (by unfold maxLen; omega) (by omega) ?_)
          intro v3 w3 o3 e3
          have b3 := hbr.trans (e3.below hown)
          have O3 := Lib.hid o3
          clear o3 e3 hown
          go_wp2
          go_roundw
          case rel => exact ⟨k + 1, k + 1, _, by omega, by go_num, by go_num, HS2.out, by rw [HLN.out, HSN.out]; exact O3.out, b3⟩
          case measure => simp [intOf]; omega
        · have hcc : ((s[k].toNat : Int) == 32) = false := by
            have h2 : ¬ (s[k].toNat : Int) = 32 := fun e => hc (by
              apply UInt8.toNat_inj.1
              exact Int.ofNat.inj e)
            simpa using h2
          have HS2 : Hid (SplitAt 32 l (k + 1) f out) := HSP.out.on hkl (by rw [← HB.out k hks hkl]; exact hc)
          clear hc hxe HSN HLN
          go_wp2
          go_roundw
          case rel => exact ⟨k + 1, f, out, by omega, by go_num, rfl, HS2.out, hown, hbr⟩
          case measure => simp [intOf]; omega
    · obtain rfl : k = s.size + 1 := by omega
      have HO : Hid (out = cuts 32 l) := by
        rcases HSP.out with ⟨_, h2, _, _⟩ | ⟨_, h2⟩
        · rw [HZ.out] at h2; omega
        · exact h2
      rw [HO.out] at hown
      go_wp2
      go_ret
      exact ⟨_, rfl, hown, hbr⟩

/-- The values of a list of texts. -/
def parsesV (l : List (List UInt8)) : List V × Bool := if l.all (fun p => (parseV ⟨p.toArray⟩).2) = true then (l.map fun p => (parseV ⟨p.toArray⟩).1, true) else ([], false)
/-- ParseVals. -/
def parseVs (l : List UInt8) : List V × Bool := parsesV (cuts 32 l)
/-- What ParseVals returns. -/
def RVs (w w' : World) (e : Ending) (r : List V × Bool) : Prop := ∃ v', e = .returned (.tuple #[v', .bool r.2]) ∧ Own 42 3 w.heap.size w'.heap.size w' v' r.1.length (vals r.1) ∧ Below w.heap.size w w'
theorem Rd.strs {w : World} {u : Value} {n : Nat} {l : List ByteArray} (h : Rd 1 w u n (strs l)) (hl : l.length = n) :
    ∃ a cap, u = .slice a n cap ∧ n ≤ maxLen ∧ Hid (∀ k, k < n → ∃ b off, a = some ⟨b, off, none⟩ ∧ w.cell? ⟨b, off + k, none⟩ = some (.string (l.getD k ⟨#[]⟩))) := by
  obtain ⟨a, cap, rfl, hn, _, hx⟩ := h
  refine ⟨a, cap, rfl, hn, fun k hk => ?_⟩
  rcases hx with h0 | ⟨b, off, rfl, hc⟩
  · omega
  · exact ⟨b, off, rfl, hc k _ (strs_get (by omega))⟩

set_option maxHeartbeats 1000000 in
theorem sParseVals (l : List UInt8) (w : World) (hl : l.length ≤ 1048576) :
    Calls Tryd.prog 10 #[.string ⟨l.toArray⟩] w fun e w' => RVs w w' e (parseVs l) := by
  have hown0 := own_lit (e := 42) (size := 3) w #[] 0 (Nat.zero_le _) rfl
  have hb0 := below_alloc w (.cells #[] 42)
  have HSP := Lib.hid (sSplit l (w.alloc (.cells #[] 42)) (by omega))
  have HE : Hid (parseVs l = parsesV (cuts 32 l)) := rfl
  have hcl := cuts_len 32 l
  have HPS : Hid (∀ p ∈ cuts 32 l, p.length ≤ l.length) := fun p hp => cuts_part hp
  generalize (⟨l.toArray⟩ : ByteArray) = s0 at HSP ⊢
  generalize cuts 32 l = ps at HSP HE hcl HPS
  generalize hn : ps.length = n at HSP hcl
  have hn2 : n ≤ 1048577 := by omega
  have HN := Lib.hid hn
  have HSZ : Hid (∀ k, k < n → (⟨(ps.getD k []).toArray⟩ : ByteArray).size ≤ maxLen) := fun k hk => by
    have hk' : k < ps.length := by omega
    have e : ps.getD k [] = ps[k] := by simp [hk']
    have := HPS.out _ (List.getElem_mem hk')
    rw [e]
    simp only [ByteArray.size, List.size_toArray]
    unfold maxLen
    omega
  have HPV : Hid (∀ k, k < n → (parseV ⟨(ps.getD k []).toArray⟩).2 = false → parsesV ps = ([], false)) := fun k hk h => by
    have hk' : k < ps.length := by omega
    have e : ps.getD k [] = ps[k] := by simp [hk']
    rw [e] at h
    unfold parsesV
    rw [if_neg]
    rw [List.all_eq_true]
    intro hall
    have := hall _ (List.getElem_mem hk')
    rw [h] at this
    cases this
  have HPA : Hid ((∀ k, k < n → (parseV ⟨(ps.getD k []).toArray⟩).2 = true) → parsesV ps = (ps.map fun p => (parseV ⟨p.toArray⟩).1, true)) := fun h => by
    unfold parsesV
    rw [if_pos]
    rw [List.all_eq_true]
    intro p hp
    obtain ⟨k, hk, rfl⟩ := List.getElem_of_mem hp
    have := h k (by omega)
    simpa [hk] using this
  have HTK : Hid (∀ k, k < n → (ps.take (k + 1)).map (fun p => (parseV ⟨p.toArray⟩).1) = (ps.take k).map (fun p => (parseV ⟨p.toArray⟩).1) ++ [(parseV ⟨(ps.getD k []).toArray⟩).1]) := fun k hk => by
    have hk' : k < ps.length := by omega
    have e : ps.getD k [] = ps[k] := by simp [hk']
    rw [e, List.take_succ_eq_append_getElem hk', List.map_append]
    rfl
  clear hn hl hcl HPS
  rw [HE.out]
  clear HE
  go_enter Tryd.func10, Tryd.ntmps10
  go_wp2_with fail
  refine HSP.out.mono ?_
  rintro e w1 ⟨pv, rfl, op, b1⟩
  have B1 := below_then hb0 b1 hb0.size
  have o1 := hown0.below b1 (Nat.le_refl _)
  have z1 := b1.size
  simp only [World.size_alloc] at z1
  clear HSP b1 hb0 hown0
  obtain ⟨gp, cp, rfl⟩ : ∃ g cp, pv = .slice (some ⟨g, 0, none⟩) n cp := by
    obtain ⟨g, cp, e, _⟩ := op
    exact ⟨g, cp, e⟩
  have HOP := Lib.hid op
  have HO1 : Hid (Own 42 3 w.heap.size w1.heap.size w1 (.slice (some ⟨w.heap.size, 0, none⟩) 0 0) ((ps.take 0).map fun p => (parseV ⟨p.toArray⟩).1).length (vals ((ps.take 0).map fun p => (parseV ⟨p.toArray⟩).1))) := by
    have := o1.wide (hi' := w1.heap.size) (by simp; omega)
    exact this
  clear op o1
  go_wp2
  go_loopw [4, 6] (fun o i wr => ∃ k : Nat, k ≤ n ∧ i = .int .i64 k ∧ (∀ j, j < k → (parseV ⟨(ps.getD j []).toArray⟩).2 = true) ∧ Own 42 3 w.heap.size wr.heap.size wr o ((ps.take k).map fun p => (parseV ⟨p.toArray⟩).1).length (vals ((ps.take k).map fun p => (parseV ⟨p.toArray⟩).1))
    ∧ Own 9 1 (w.alloc (.cells #[] 42)).heap.size w1.heap.size wr (.slice (some ⟨gp, 0, none⟩) n cp) n (strs (bas ps)) ∧ Below w.heap.size w wr ∧ w1.heap.size ≤ wr.heap.size) (fun _ i _ => n - (intOf i).toNat)
  case atStart => exact ⟨0, Nat.zero_le _, rfl, fun j hj => by omega, HO1.out, HOP.out, B1, Nat.le_refl _⟩
  case round =>
    obtain ⟨k, hk, rfl, hok, hown, hop, hbr, hsz⟩ := hrel
    have HOK := Lib.hid hok
    clear hok
    by_cases hlt : k < n
    · obtain ⟨a', cap', hu, _, HC⟩ := hop.rd.strs (l := bas ps) (by simp [bas, HN.out])
      obtain ⟨b, off, ha', hc⟩ := HC.out k hlt
      simp only [Value.slice.injEq, true_and] at hu
      obtain ⟨hu1, hu2⟩ := hu
      rw [ha'] at hu1
      simp only [Option.some.injEq, Addr.mk.injEq, and_true] at hu1
      obtain ⟨rfl, rfl⟩ := hu1
      have hgd : (bas ps).getD k ⟨#[]⟩ = ⟨(ps.getD k []).toArray⟩ := by
        have hk' : k < ps.length := by rw [HN.out]; exact hlt
        simp [bas, hk']
      rw [hgd] at hc
      simp only [Nat.zero_add] at hc
      have HV := Lib.hid (fun W => sParseVal ⟨(ps.getD k []).toArray⟩ W (HSZ.out k hlt))
      have HFK := Lib.hid (HPV.out k hlt)
      have HTJ := Lib.hid (HTK.out k hlt)
      have HS : Hid ((parseV ⟨(ps.getD k []).toArray⟩).2 = true → ∀ j, j < k + 1 → (parseV ⟨(ps.getD j []).toArray⟩).2 = true) := fun h j hj => by
        by_cases e : j = k
        · subst e; exact h
        · exact HOK.out j (by omega)
      clear hu2 hgd ha' HC
      have hcl : ((ps.take k).map fun p => (parseV ⟨p.toArray⟩).1).length ≤ k := by simp; omega
      generalize (⟨(ps.getD k []).toArray⟩ : ByteArray) = q at hc HV HFK HTJ HS
      generalize parseV q = r at HV HFK HTJ HS
      obtain ⟨⟨xt, xn, xs⟩, ok⟩ := r
      simp only at HV HFK HTJ HS
      generalize hC : (ps.take k).map (fun p => (parseV ⟨p.toArray⟩).1) = C at hown HTJ hcl
      clear hC
      have HVA : Hid (vals C ++ V.cs ⟨xt, xn, xs⟩ = vals (C ++ [(⟨xt, xn, xs⟩ : V)])) := by
        show _ = _
        simp [vals]
      have HLN : Hid ((C ++ [(⟨xt, xn, xs⟩ : V)]).length = C.length + 1) := by
        show _ = _
        simp
      generalize C.length = c at hown HLN hcl
      go_wp2_with fail
      refine (HV.out _).mono ?_
      rintro e w2 ⟨rfl, hb2⟩
      have own2 := hown.below hb2 (Nat.le_refl _)
      have op2 := hop.below hb2 hsz
      have b2 := below_then hbr hb2 hbr.size
      have z2 := hb2.size
      clear hown hop hbr hb2 hc HV
      cases ok with
      | false =>
        have HF := Lib.hid (HFK.out rfl)
        have OL := own_lit (e := 42) (size := 3) (w2.alloc (.cells #[.int .i64 xt, .int .i64 xn, .string xs] 42)) #[] 0 (Nat.zero_le _) rfl
        have BL := (b2.alloc (by omega) (.cells #[.int .i64 xt, .int .i64 xn, .string xs] 42)).alloc (by simp; omega) (.cells #[] 42)
        have HSW : Hid ((w2.alloc (.cells #[.int .i64 xt, .int .i64 xn, .string xs] 42)).heap.size = w2.heap.size + 1) := World.size_alloc _ _
        clear own2 op2
        go_wp2
        go_ret2
        rw [HF.out]
        exact ⟨_, rfl, by have := OL.lower (lo' := w.heap.size) (by simp; omega); rw [HSW.out] at this; exact this, BL⟩
      | true =>
        have HS2 := Lib.hid (HS.out rfl)
        have own3 := own2.alloc (.cells #[.int .i64 xt, .int .i64 xn, .string xs] 42)
        have op3 := op2.alloc (.cells #[.int .i64 xt, .int .i64 xn, .string xs] 42)
        have b3 := b2.alloc (by omega) (.cells #[.int .i64 xt, .int .i64 xn, .string xs] 42)
        have hbn := Lib.hid (Own.blocks_ne own3 op3 (by decide))
        have HOP3 := Lib.hid op3
        clear own2 op2 op3 HFK HS
        go_wp2_with (at_builtin; refine appendV_law Tryd.elemVals rfl _ _ rfl _ _ _ _ _ ⟨xt, xn, xs⟩ rfl own3 (by show Value.slice (some ⟨w2.heap.size + 1, 0, none⟩) 1 1 = _; rw [World.size_alloc]) (by unfold maxLen; omega) (by omega) ?_)
        intro v4 w4 o4 e4
        have b4 := b3.trans (e4.below own3)
        have op4 := HOP3.out.other e4.grown hbn.out
        have z4 := e4.grown.size
        rw [HVA.out] at o4
        have O4 := Lib.hid o4
        have HOP4 := Lib.hid op4
        simp only [World.size_alloc] at z4
        clear o4 op4 e4 own3
        go_wp2
        go_roundw
        case rel => exact ⟨k + 1, by omega, by go_num, HS2.out, by rw [HTJ.out, HLN.out]; exact O4.out, HOP4.out, b4, by omega⟩
        case measure => simp [intOf]; omega
    · obtain rfl : k = n := by omega
      have HA := Lib.hid (HPA.out HOK.out)
      rw [← HN.out, List.take_length] at hown
      go_wp2
      go_ret2
      rw [HA.out]
      exact ⟨_, rfl, hown, hbr⟩

end Go.Proofs.YtdclbpbjdaefhaaDoor
