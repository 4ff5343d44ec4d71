/- Texts of this claim, one behind the other: Draw7, M5, M7b, Law7, I5b, I5c, I5d, I7, IEq. -/
import Derived.Test.YtoidpibdjijamaaP17
import Derived.Test.YtoidpibdjijamaaP10
import Derived.Test.YtoidpibdjijamaaP19
import Derived.Test.YtoidpibdjijamaaP18
import Derived.Test.YtoidpibdjijamaaP4
import Derived.Test.YtoidpibdjijamaaP15
import Derived.Laws.BytesArg

/- The contracts of DrawDict, DrawDecDict, l7Pair, DrawInDict, DrawPlaces, DrawPicked. -/
namespace Go.Proofs.Ytoidpibdjijamaa
open Go.RowKit

theorem drawDict (c : Code) (w : World) (h : c.In w) :
    Calls Try.prog 11 #[.slice c.a c.len c.cap] w fun e w' => ∃ (v : Value) (l : List V), e = .returned v ∧ AnyList l ∧ Own 37 3 w.heap.size w'.heap.size w' v l.length (vals l) ∧ Below w.heap.size w w' := by
  go_enter Try.func11, Try.ntmps11
  go_wp2_with fail
  refine (l1New c _ h).mono ?_
  rintro e w1 ⟨rfl, hc1, hb1⟩
  go_wp2_with fail
  refine (l5Any c _ _ hc1).mono ?_
  rintro e w2 ⟨v, l, rfl, H, o2, hc2, hg2⟩
  have O2 := o2.lower hb1.size
  go_wp2
  go_ret
  exact ⟨_, l, rfl, H, O2, below_cur hb1 hg2⟩

theorem At.from3 {w : World} {b off n cap A tl : Nat} {l : List V} (hz : l.length = n) (h : At 3 w (.slice (some ⟨b, off, none⟩) n cap) n (vals l)) (hA : A ≤ n) (ht : A < cap → tl = off + A * 3) : At 3 w (.slice (some ⟨b, tl, none⟩) (n - A) (cap - A)) (n - A) (vals (l.drop A)) := by
  obtain ⟨b', off', cap', e, h1, h2, h3, h4⟩ := h
  simp only [Value.slice.injEq, Option.some.injEq, Addr.mk.injEq, and_true, true_and] at e
  obtain ⟨⟨rfl, rfl⟩, rfl⟩ := e
  refine ⟨_, _, _, rfl, by omega, by omega, ?_, fun j u hu => ?_⟩
  · rw [vals_len, List.length_drop, hz]
  · have hlt := (List.getElem?_eq_some_iff.1 hu).1
    rw [vals_len, List.length_drop] at hlt
    rw [vals_drop, List.getElem?_drop] at hu
    have := h4 (A * 3 + j) u hu
    rw [ht (by omega), Nat.add_assoc]
    exact this
/-- What l7Pair draws. -/
structure Pair (g lo : Nat) (w : World) (vd vl : Value) (d l : List V) : Prop where
  dl : d.length ≤ 16
  ll : 1 ≤ l.length ∧ l.length ≤ 16
  ds : ∀ v ∈ d, v.s.size ≤ maxLen
  ls : ∀ v ∈ l, v.s.size ≤ maxLen
  da : At 3 w vd d.length (vals d)
  la : At 3 w vl l.length (vals l)
  dn : ∀ b, vd.ownBlock = some b → lo ≤ b
  ln : ∀ b, vl.ownBlock = some b → lo ≤ b
  gl : g < lo
  dh : ∀ b, vd.ownBlock = some b → b < w.heap.size
theorem Pair.draw {g lo : Nat} {w w' : World} {vd vl : Value} {d l : List V} (h : Pair g lo w vd vl d l) (hg : w.grownBy w' (some g)) : Pair g lo w' vd vl d l :=
  ⟨h.dl, h.ll, h.ds, h.ls, h.da.grown hg (fun e => by have := h.dn g e; have := h.gl; omega), h.la.grown hg (fun e => by have := h.ln g e; have := h.gl; omega), h.dn, h.ln, h.gl, fun b hb => Nat.lt_of_lt_of_le (h.dh b hb) hg.size⟩
theorem Pair.below {g lo : Nat} {w w' : World} {vd vl : Value} {d l : List V} (h : Pair g lo w vd vl d l) (hb : Below w.heap.size w w') : Pair g lo w' vd vl d l :=
  ⟨h.dl, h.ll, h.ds, h.ls, h.da.below hb, h.la.below hb, h.dn, h.ln, h.gl, fun b h2 => Nat.lt_of_lt_of_le (h.dh b h2) hb.size⟩

/-- What DrawPicked draws. -/
def Picks (w : World) (vd vp : Value) (d : List V) (p : List Int) : Prop := d.length ≤ 16 ∧ p.length ≤ 17 ∧ (∀ v ∈ d, v.s.size ≤ maxLen) ∧ At 3 w vd d.length (vals d) ∧ At 1 w vp p.length (ints .i64 p)
theorem Picks.below {w w' : World} {vd vp : Value} {d : List V} {p : List Int} (h : Picks w vd vp d p) (hb : Below w.heap.size w w') : Picks w' vd vp d p := ⟨h.1, h.2.1, h.2.2.1, h.2.2.2.1.below hb, h.2.2.2.2.below hb⟩

end Go.Proofs.Ytoidpibdjijamaa

/- Plain mathematics of chapter 5: a Val's bytes, read again; the types of a list. -/
namespace Go.Proofs.Ytoidpibdjijamaa
open Go.RowKit

theorem okV_num {v : V} (h : okV v = true) (ht : v.ty = 1) : Num.ok v.n := by
  unfold okV at h
  rw [if_pos ht] at h
  simp only [Bool.and_eq_true] at h
  exact Num.okB_true.1 h.1
theorem getV_int {zs : List Int} {i : Int} : getV zs i 1 = if (Num.get zs i).2.2 = true then (⟨1, (Num.get zs i).1, ⟨#[]⟩⟩, (Num.get zs i).2.1, true) else (V.zero, 0, false) := if_pos rfl
theorem str_sbytes (s : ByteArray) : strOfNums (sbytes s) = s := by
  unfold strOfNums sbytes
  apply ByteArray.ext
  apply Array.toList_inj.1
  simp only [List.map_map]
  have : ((fun n : Int => UInt8.ofNat n.toNat) ∘ fun b : UInt8 => (b.toNat : Int)) = id := by
    funext b
    simp
  rw [this]
  simp
/-- A value's bytes. -/
def valB (v : V) : List Int := if v.ty = 1 then Num.grp 4 (Num.zig v.n) else (v.s.size : Int) :: sbytes v.s
theorem putV_val {v : V} (h : okV v = true) (zs : List Int) : putV zs v = zs ++ valB v := by
  unfold putV valB
  rw [if_pos h]
  split
  · rename_i ht
    exact Num.put_ok (okV_num h ht)
  · rfl
theorem get_grp {b rest : List Int} {n : Int} (h : Num.ok n) : Num.get (b ++ (Num.grp 4 (Num.zig n) ++ rest)) b.length = (n, ((b ++ Num.grp 4 (Num.zig n)).length : Int), true) := by
  have := Num.get_put (b := b) (rest := rest) h
  rw [Num.put_ok h, List.append_assoc] at this
  exact this
theorem getV_val {v : V} (h : okV v = true) (b rest : List Int) : getV (b ++ (valB v ++ rest)) b.length v.ty = (v, ((b ++ valB v).length : Int), true) := by
  obtain ⟨t, n, s⟩ := v
  unfold valB
  by_cases ht : t = 1
  · subst ht
    have hn := okV_num h rfl
    have hs : s = ⟨#[]⟩ := by
      unfold okV at h
      simp only [if_true, Bool.and_eq_true, beq_iff_eq] at h
      apply ByteArray.ext
      apply Array.eq_empty_of_size_eq_zero
      exact h.2
    subst hs
    simp only [if_true]
    rw [getV_int, get_grp hn]
    simp
  · have hsz := okV_txt h ht
    have h' := h
    unfold okV at h
    simp only [if_neg ht, Bool.and_eq_true, beq_iff_eq] at h
    obtain ⟨rfl, rfl, htx⟩ := h
    simp only [if_neg ht]
    unfold getV
    rw [if_neg ht, if_pos ⟨rfl, Num.inB_true.2 ⟨by omega, by simp; omega⟩⟩]
    unfold getT
    have e0 : (b ++ ((s.size : Int) :: sbytes s ++ rest)).getD (b.length : Int).toNat 0 = (s.size : Int) := by
      rw [Int.toNat_natCast]
      simp [List.getD]
    have e1 : ((b ++ ((s.size : Int) :: sbytes s ++ rest)).drop ((b.length : Int).toNat + 1)).take ((s.size : Int)).toNat = sbytes s := by
      rw [Int.toNat_natCast, Int.toNat_natCast, List.drop_append, List.drop_of_length_le (by omega), List.nil_append, Nat.add_sub_cancel_left]
      simp only [List.cons_append, List.drop_succ_cons, List.drop_zero]
      rw [← sbytes_len s, List.take_left]
    simp only [e0, e1, str_sbytes]
    rw [if_pos ⟨by
      simp only [List.length_append, List.length_cons, sbytes_len, Int.toNat_natCast]
      omega, h'⟩]
    simp only [List.length_append, List.length_cons, sbytes_len, Int.toNat_natCast]
    congr 2
    omega
theorem typeV_parts {l : List V} (h : ¬ typeV l = 0) : 1 ≤ l.length ∧ l.length ≤ 64 ∧ ∀ v ∈ l, okV v = true ∧ v.ty = typeV l := by
  unfold typeV at h ⊢
  by_cases hc : Num.inB l.length 1 64 = true ∧ l.all (ofB (l.getD 0 V.zero).ty) = true
  · rw [if_pos hc]
    have h1 := Num.inB_true.1 hc.1
    refine ⟨by omega, by omega, fun v hv => ?_⟩
    have := List.all_eq_true.1 hc.2 v hv
    unfold ofB at this
    simp only [Bool.and_eq_true, beq_iff_eq] at this
    exact this
  · rw [if_neg hc] at h
    exact absurd rfl h
theorem typeV_of {l : List V} {ty : Int} (h1 : 1 ≤ l.length) (h2 : l.length ≤ 64) (h : ∀ v ∈ l, okV v = true ∧ v.ty = ty) : typeV l = ty := by
  have e0 : l.getD 0 V.zero ∈ l := by
    have hl : 0 < l.length := by omega
    have e : l.getD 0 V.zero = l[0] := by simp [hl]
    rw [e]
    exact List.getElem_mem hl
  unfold typeV
  rw [if_pos, (h _ e0).2]
  refine ⟨Num.inB_true.2 ⟨by omega, by omega⟩, List.all_eq_true.2 (fun v hv => ?_)⟩
  unfold ofB
  rw [(h _ e0).2, (h v hv).1, (h v hv).2]
  simp
theorem getV_ok {zs : List Int} (hb : Num.Bytes zs) {i ty : Int} (h : (getV zs i ty).2.2 = true) : okV (getV zs i ty).1 = true ∧ (getV zs i ty).1.ty = ty := by
  unfold getV at h ⊢
  split
  · rename_i ht
    subst ht
    rw [if_pos rfl] at h
    split
    · rename_i hg
      have hp : Num.get zs i = ((Num.get zs i).1, (Num.get zs i).2.1, true) := by rw [← hg]
      have := (Num.put_get hb hp).2.2.2.2.1
      refine ⟨?_, rfl⟩
      unfold okV
      simp only [if_true, Bool.and_eq_true]
      exact ⟨Num.okB_true.2 this, rfl⟩
    · rename_i hg
      rw [if_neg hg] at h
      cases h
  · rename_i ht
    rw [if_neg ht] at h
    split
    · rename_i hc
      rw [if_pos hc] at h
      unfold getT at h ⊢
      split
      · rename_i hd
        exact ⟨hd.2, hc.1.symm⟩
      · rename_i hd
        rw [if_neg hd] at h
        cases h
    · rename_i hc
      rw [if_neg hc] at h
      cases h

end Go.Proofs.Ytoidpibdjijamaa

/- Plain mathematics of chapter 7: decoding gives back what was encoded; what decodes is what its values encode to. -/
namespace Go.Proofs.Ytoidpibdjijamaa
open Go.RowKit

/-- The bytes of values. -/
def bodyV (d : List V) : List Int := d.flatMap valB
theorem putAll_body : ∀ (d : List V) (b : List Int), (∀ v ∈ d, okV v = true) → putAll b d = b ++ bodyV d
  | [], b, _ => by simp [putAll, bodyV]
  | v :: d, b, h => by
    have h1 := h v List.mem_cons_self
    have ih := putAll_body d (b ++ valB v) (fun x hx => h x (List.mem_cons_of_mem _ hx))
    unfold putAll at ih ⊢
    rw [List.foldl_cons, putV_val h1, ih]
    simp [bodyV]
theorem decL_body {ty : Int} : ∀ (d : List V) (b rest : List Int), (∀ v ∈ d, okV v = true ∧ v.ty = ty) → decL (b ++ (bodyV d ++ rest)) ty d.length b.length = some (d, ((b ++ bodyV d).length : Int))
  | [], b, rest, _ => by simp [decL, bodyV]
  | v :: d, b, rest, h => by
    have h1 := h v List.mem_cons_self
    have e1 : b ++ (bodyV (v :: d) ++ rest) = b ++ (valB v ++ (bodyV d ++ rest)) := by simp [bodyV]
    have e3 : b ++ (bodyV (v :: d) ++ rest) = (b ++ valB v) ++ (bodyV d ++ rest) := by simp [bodyV]
    have g : getV (b ++ (bodyV (v :: d) ++ rest)) b.length ty = (v, ((b ++ valB v).length : Int), true) := by
      rw [e1, ← h1.2]
      exact getV_val h1.1 _ _
    have ih := decL_body d (b ++ valB v) rest (fun x hx => h x (List.mem_cons_of_mem _ hx))
    rw [← e3] at ih
    rw [List.length_cons, decL, g]
    simp only [if_true]
    rw [ih]
    simp [bodyV]
theorem places_fit {D l : List V} (h : ∀ v ∈ l, v ∈ D) (h1 : 1 ≤ D.length) (h2 : D.length ≤ 64) : Bit.fitsB (l.map (inI D)) (Bit.widthI ((D.length : Int) - 1) : Nat) = true := by
  refine Bit.digs_fits (fun x hx => ?_) (Bit.widthI_le31 _)
  obtain ⟨v, hv, rfl⟩ := List.mem_map.1 hx
  obtain ⟨i, hi⟩ := inD_mem (h v hv)
  have hlt := (inD_some hi).1
  rw [inI_some hi]
  have hw := (Bit.widthI_in (x := (D.length : Int) - 1) (by omega) (by omega) (Bit.widthI ((D.length : Int) - 1))).1 (Nat.le_refl _)
  exact ⟨by omega, Bit.lt_of_toNat (by omega)⟩
theorem dec_encD {l : List V} (h : ¬ typeV l = 0) : decD (encD l) (typeV l) l.length = (l, true) := by
  obtain ⟨h1, h64, hall⟩ := typeV_parts h
  have hk : Num.inB (l.length : Int) 1 64 = true := Num.inB_true.2 ⟨by omega, by omega⟩
  have hD : ∀ v ∈ dictL l, okV v = true ∧ v.ty = typeV l := dict_all hall
  have hm : ∀ v ∈ l, v ∈ dictL l := fun v hv => mem_dict.2 hv
  have hl := dict_len l
  have hpos : 1 ≤ (dictL l).length := by
    have : l[0] ∈ dictL l := mem_dict.2 (List.getElem_mem _)
    have := List.length_pos_of_mem this
    omega
  have hfit := places_fit hm hpos (by omega)
  have hpm := places_mem hm
  have hpp := picked_places hm
  have hul := Bit.unpack_pack hfit (by simp; omega)
  rw [List.length_map] at hul
  have he : encD l = putAll (Num.put [] (dictL l).length) (dictL l) ++ Bit.pack (l.map (inI (dictL l))) (Bit.widthI ((dictL l).length - 1)) := by
    unfold encD
    rw [if_neg h, hpm]
  have hE := he
  generalize dictL l = D at *
  have hok : Num.ok (D.length : Int) := by unfold Num.ok; omega
  generalize hpk : Bit.pack (l.map (inI D)) (Bit.widthI ((D.length : Int) - 1) : Nat) = pk at *
  generalize hb0 : Num.grp 4 (Num.zig (D.length : Int)) = b0 at *
  have he2 : encD l = b0 ++ (bodyV D ++ pk) := by
    rw [he, putAll_body _ _ (fun v hv => (hD v hv).1), Num.put_ok hok, hb0]
    simp
  have hg : Num.get (encD l) 0 = ((D.length : Int), (b0.length : Int), true) := by
    have := get_grp (b := []) (rest := bodyV D ++ pk) hok
    rw [hb0] at this
    rw [he2]
    exact this
  have hd : decL (encD l) (typeV l) D.length b0.length = some (D, ((b0 ++ bodyV D).length : Int)) := by
    rw [he2]
    exact decL_body D b0 pk hD
  have hdrop : (encD l).drop (b0 ++ bodyV D).length = pk := by
    rw [he2, ← List.append_assoc]
    simp
  unfold decD
  rw [hg]
  simp only
  rw [if_pos ⟨trivial, hk, Num.inB_true.2 ⟨by omega, by omega⟩⟩, Int.toNat_natCast, hd]
  simp only
  unfold decT
  rw [Int.toNat_natCast, hdrop, hul]
  simp only
  rw [hpp]
  simp
theorem decL_ok {zs : List Int} (hb : Num.Bytes zs) {ty : Int} : ∀ {n : Nat} {i : Int} {r : List V × Int}, decL zs ty n i = some r → ∀ v ∈ r.1, okV v = true ∧ v.ty = ty := by
  intro n
  induction n with
  | zero =>
    intro i r h v hv
    simp only [decL, Option.some.injEq] at h
    subst h
    cases hv
  | succ n ih =>
    intro i r h v hv
    rw [decL] at h
    split at h
    · rename_i hg
      obtain ⟨q, hq, rfl⟩ := Option.map_eq_some_iff.1 h
      rcases List.mem_cons.1 hv with rfl | hv
      · exact getV_ok hb hg
      · exact ih hq v hv
    · cases h
theorem picked_true {d : List V} {p : List Int} (h : (pickedL d p).2 = true) : (pickedL d p).1.length = p.length := by
  unfold pickedL at h ⊢
  split
  · simp
  · rename_i hc
    rw [if_neg hc] at h
    cases h
theorem dec_okD {zs : List Int} (hb : Num.Bytes zs) {ty k : Int} (h : (decD zs ty k).2 = true) : encD (decD zs ty k).1 = zs ∧ ((decD zs ty k).1.length : Int) = k ∧ typeV (decD zs ty k).1 = ty := by
  unfold decD at h ⊢
  split
  · rename_i hc
    rw [if_pos hc] at h
    have hkk := Num.inB_true.1 hc.2.1
    split
    · rename_i r hr
      rw [hr] at h
      simp only at h ⊢
      unfold decT at h ⊢
      split
      · rename_i hq
        have hp := picked_true hq.2.1
        have hl : (((Bit.unpack (zs.drop r.2.toNat) (Bit.widthI ((r.1.length : Int) - 1)) k).1.length : Nat) : Int) = k :=
          (Bit.pack_unpack (fun x hx => hb x (List.mem_of_mem_drop hx)) (Prod.ext rfl hq.1)).2
        simp only
        refine ⟨hq.2.2, by rw [hp]; exact hl, typeV_of (by omega) (by omega) ?_⟩
        exact picked_all (decL_ok hb hr)
      · rename_i hq
        rw [if_neg hq] at h
        cases h
    · rename_i hr
      rw [hr] at h
      cases h
  · rename_i hc
    rw [if_neg hc] at h
    cases h
theorem asc_next {d : List V} (h : Asc d) {i : Nat} (hi : i + 1 < d.length) : lessV (d.getD i V.zero) (d.getD (i + 1) V.zero) = true := by
  rw [getDe d V.zero (by omega : i < d.length), getDe d V.zero hi]
  exact (List.pairwise_iff_getElem.1 h) i (i + 1) (by omega) hi (by omega)

end Go.Proofs.Ytoidpibdjijamaa

/- Chapter 7's exact laws, walked; the program's own contracts come as hypotheses. -/
namespace Go.Proofs.Ytoidpibdjijamaa
open Go.RowKit

def CDict : Prop := ∀ (u : Value) (l : List V) (w : World), l.length ≤ 1048576 → (∀ v ∈ l, v.s.size ≤ maxLen) → Rd 3 w u l.length (vals l) → Calls Try.prog 12 #[u] w fun e w' => ∃ v', e = .returned v' ∧ Own 37 3 w.heap.size w'.heap.size w' v' (dictL l).length (vals (dictL l)) ∧ Below w.heap.size w w'
def CInDict : Prop := ∀ (u : Value) (d : List V) (x : V) (w : World), d.length ≤ 1048576 → Rd 3 w u d.length (vals d) → Calls Try.prog 31 #[u, x.agg] w fun e w' => e = .returned (.int .i64 (inI d x)) ∧ Below w.heap.size w w'
def CPlaces : Prop := ∀ (u v : Value) (d l : List V) (w : World), d.length ≤ 1048576 → l.length ≤ 1048576 → Rd 3 w u d.length (vals d) → Rd 3 w v l.length (vals l) → Calls Try.prog 14 #[u, v] w (Unpacked w (placesL d l))
def CPicked : Prop := ∀ (u v : Value) (d : List V) (l : List Int) (w : World), d.length ≤ 1048576 → l.length ≤ 1048576 → Rd 3 w u d.length (vals d) → Rd 1 w v l.length (ints .i64 l) → Calls Try.prog 15 #[u, v] w fun e w' => RDs w w' e (pickedL d l)
def CEncDict : Prop := ∀ (u : Value) (l : List V) (w : World), l.length ≤ 1048576 → (∀ v ∈ l, v.s.size ≤ maxLen) → Rd 3 w u l.length (vals l) → Calls Try.prog 13 #[u] w fun e w' => ∃ v', e = .returned v' ∧ Own 5 1 w.heap.size w'.heap.size w' v' (encD l).length (ints .u8 (encD l)) ∧ Below w.heap.size w w'
def CDecDict : Prop := ∀ (u : Value) (n : Nat) (zs : List Int) (ty k : Int) (w : World), n ≤ 1048576 → zs.length = n → Num.Bytes zs → At 1 w u n (ints .u8 zs) → Calls Try.prog 22 #[u, .int .i64 ty, .int .i64 k] w fun e w' => RDs w w' e (decD zs ty k)
theorem encD_len' (l : List V) : (encD l).length ≤ 1024 + l.length := by
  have := encD_len l
  omega

set_option maxHeartbeats 4000000 in
theorem lawInDict (hi : CInDict) (a : Option Addr) (lena capa : Nat) (d : List V) (x : V) (w : World) (hla : lena ≤ maxLen) (hsa : ∀ v ∈ d, v.s.size ≤ maxLen) (hza : d.length = lena) (haA : ArgS 3 w a lena (vals d)) (hs : x.s.size ≤ maxLen) :
    Calls Try.prog 5 #[.slice a lena capa, x.agg] w fun e w' => e = .returned (.bool true) ∧ Below w.heap.size w w' := by
  unfold CInDict at hi
  have HLa := Lib.hid hza
  have HSa := Lib.hid hsa
  have HSX := Lib.hid hs
  have hqq : (inI d x != inI d x) = false := by simp
  have T0 := held_new w x 45
  have bt := below_alloc w (.cells #[.int .i64 x.ty, .int .i64 x.n, .string x.s] 45)
  have hs0 : (w.alloc (.cells #[.int .i64 x.ty, .int .i64 x.n, .string x.s] 45)).heap.size = w.heap.size + 1 := by simp
  obtain ⟨w0, hw0⟩ : ∃ w0, w.alloc (.cells #[.int .i64 x.ty, .int .i64 x.n, .string x.s] 45) = w0 := ⟨_, rfl⟩
  rw [hw0] at T0 bt hs0
  clear hs hsa hza
  obtain ⟨t, n1, s⟩ := x
  simp only at T0 hw0 HSX
  go_enter Try.func5, Try.ntmps5
  go_wp2_with fail
  refine (szValS a lena capa d 1048576 w0 (by omega) (by omega) hla HSa.out HLa.out (haA.below bt)).mono ?_
  rintro e w1 ⟨ra, rfl, hra, hb⟩
  have z1 := hb.size
  replace T0 := T0.below hb
  replace bt := below_then bt hb (by omega)
  clear hb
  by_cases hnra : ra < 0
  · go_wp2
    go_ret
    exact ⟨rfl, bt⟩
  have hbra : lena ≤ 1048576 := by omega
  have hlra : ra ≤ 1048576 := by omega
  clear hra
  obtain ⟨⟨T0a, T0b, T0c⟩, T0d, T0e, T0f⟩ := id T0
  go_wp2_with fail
  refine (szVal ⟨t, n1, s⟩ ra w1 (by omega) (by omega) HSX.out).mono ?_
  rintro e w2 ⟨rfl, hb⟩
  clear T0a T0b T0c T0d T0e T0f
  have z2 := hb.size
  replace T0 := T0.below hb
  replace bt := below_then bt hb (by omega)
  clear hb
  by_cases hneg : szV ⟨t, n1, s⟩ ra < 0
  · go_wp2
    go_ret
    exact ⟨rfl, bt⟩
  have HC : Hid (∀ W, Below w2.heap.size w2 W → W.cell? ⟨w.heap.size, 0, none⟩ = some (.int .i64 t) ∧ W.cell? ⟨w.heap.size, 1, none⟩ = some (.int .i64 n1) ∧ W.cell? ⟨w.heap.size, 2, none⟩ = some (.string s)) := fun W h => (T0.below h).1
  have hB' := (Below.refl w2.heap.size w2).drew
  go_wp2_with fail
  go_region_held3 (fun W => W.cell? ⟨w.heap.size, 0, none⟩ = some (.int .i64 t) ∧ W.cell? ⟨w.heap.size, 1, none⟩ = some (.int .i64 n1) ∧ W.cell? ⟨w.heap.size, 2, none⟩ = some (.string s)) (exact HC.out _ hB') (first | (go_at_call 24; (with_reducible refine (toValS a lena capa d _ (by omega) HLa.out (haA.below (below_then bt hB' (by omega)))).mono ?_); rintro e u1 ⟨t1, rfl, o1, hb⟩; replace hB' := below_then hB' hb hB'.size) | (go_at_call 30; (with_reducible refine (toVal ⟨t, n1, s⟩ _).mono ?_); rintro e u2 ⟨rfl, hb⟩; try replace o1 := o1.below hb (Nat.le_refl _); have zz := hb.size; replace hB' := below_then hB' hb hB'.size) | (go_at_call 29; (with_reducible refine (sInDict t1 d ⟨t, n1, s⟩ _ (by rw [HLa.out]; exact o1.rd)).mono ?_); rintro e u3 ⟨rfl, hb⟩; have zy := hb.size; have zx := hB'.size; replace hB' := below_then hB' hb hB'.size))
  clear HC o1
  have zu := hB'.size
  replace T0 := T0.below hB'
  replace bt := below_then bt hB' (by omega)
  clear hB'
  go_wp2_with fail
  refine (toValS a lena capa d u3 (by omega) HLa.out (haA.below bt)).mono ?_
  rintro e w3 ⟨x0, rfl, ox, hb⟩
  have z3 := hb.size
  replace T0 := T0.below hb
  replace bt := below_then bt hb (by omega)
  clear hb
  obtain ⟨⟨T0a, T0b, T0c⟩, T0d, T0e, T0f⟩ := id T0
  go_wp2_with fail
  refine (toVal ⟨t, n1, s⟩ w3).mono ?_
  rintro e w4 ⟨rfl, hb⟩
  clear T0a T0b T0c T0d T0e T0f
  have z4 := hb.size
  replace ox := ox.below hb (by omega)
  replace T0 := T0.below hb
  replace bt := below_then bt hb (by omega)
  clear hb
  go_wp2_with fail
  refine (hi x0 d ⟨t, n1, s⟩ w4 (by rw [HLa.out]; omega) (by rw [HLa.out]; exact ox.rd)).mono ?_
  rintro e w5 ⟨rfl, hb⟩
  have z5 := hb.size
  replace ox := ox.below hb (by omega)
  replace T0 := T0.below hb
  replace bt := below_then bt hb (by omega)
  clear hb
  go_wp2_with fail
  refine (toValS a lena capa d w5 (by omega) HLa.out (haA.below bt)).mono ?_
  rintro e w6 ⟨t2, rfl, o2, hb⟩
  have z6 := hb.size
  replace ox := ox.below hb (by omega)
  replace T0 := T0.below hb
  replace bt := below_then bt hb (by omega)
  clear hb
  go_wp2_with fail
  refine (eqValS x0 t2 lena d w6 HLa.out ox.at o2.at).mono ?_
  rintro e w7 ⟨rfl, hb⟩
  have z7 := hb.size
  replace ox := ox.below hb (by omega)
  replace o2 := o2.below hb (by omega)
  replace T0 := T0.below hb
  replace bt := below_then bt hb (by omega)
  clear hb
  clear o2
  go_wp2
  go_ret
  exact ⟨rfl, bt⟩

set_option maxHeartbeats 2000000 in
theorem lawDict (hi : CDict) (b : Option Addr) (lenb capb : Nat) (l : List V) (w : World) (hlb : lenb ≤ maxLen) (hsb : ∀ v ∈ l, v.s.size ≤ maxLen) (hzb : l.length = lenb) (hbB : ArgS 3 w b lenb (vals l)) :
    Calls Try.prog 4 #[.slice b lenb capb] w fun e w' => e = .returned (.bool true) ∧ Below w.heap.size w w' := by
  have HL := Lib.hid hzb
  have HSS := Lib.hid hsb
  have hPl := dict_len l
  rw [hzb] at hPl
  generalize hP : dictL l = P at hPl
  have HP := Lib.hid hP
  clear hP
  generalize hn : P.length = n at hPl
  have HN := Lib.hid hn
  clear hn hsb hzb
  go_enter Try.func4, Try.ntmps4
  have bt := Below.refl w.heap.size w
  go_wp2_with fail
  refine (szValS b lenb capb l 1048576 w (by omega) (by omega) hlb HSS.out HL.out (hbB.below bt)).mono ?_
  rintro e w1 ⟨rb, rfl, hrb, hb⟩
  have z1 := hb.size
  replace bt := below_then bt hb (by omega)
  clear hb
  by_cases hnrb : rb < 0
  · go_wp2
    go_ret
    exact ⟨rfl, bt⟩
  have hbrb : lenb ≤ 1048576 := by omega
  have hlrb : rb ≤ 1048576 := by omega
  clear hrb
  go_wp2_with fail
  refine (toValS b lenb capb l w1 (by omega) HL.out (hbB.below bt)).mono ?_
  rintro e w2 ⟨t1, rfl, o1, hb⟩
  have z2 := hb.size
  replace bt := below_then bt hb (by omega)
  clear hb
  go_wp2_with fail
  refine (sDict t1 l w2 (by rw [HL.out]; omega) (by rw [HL.out]; exact o1.rd)).mono ?_
  rintro e w3 ⟨v0, rfl, ov, hb⟩
  have z3 := hb.size
  replace o1 := o1.below hb (by omega)
  replace bt := below_then bt hb (by omega)
  clear hb
  rw [HP.out, HN.out] at ov
  clear o1
  go_wp2_with fail
  refine (toValS b lenb capb l w3 (by omega) HL.out (hbB.below bt)).mono ?_
  rintro e w4 ⟨x0, rfl, ox, hb⟩
  have z4 := hb.size
  replace ov := ov.below hb (by omega)
  replace bt := below_then bt hb (by omega)
  clear hb
  go_wp2_with fail
  refine (hi x0 l w4 (by rw [HL.out]; omega) HSS.out (by rw [HL.out]; exact ox.rd)).mono ?_
  rintro e w5 ⟨g0, rfl, og, hb⟩
  have z5 := hb.size
  replace ov := ov.below hb (by omega)
  replace ox := ox.below hb (by omega)
  replace bt := below_then bt hb (by omega)
  clear hb
  rw [HP.out, HN.out] at og
  go_wp2_with fail
  refine (eqValS g0 v0 n P w5 HN.out og.at ov.at).mono ?_
  rintro e w6 ⟨rfl, hb⟩
  have z6 := hb.size
  replace ov := ov.below hb (by omega)
  replace ox := ox.below hb (by omega)
  replace og := og.below hb (by omega)
  replace bt := below_then bt hb (by omega)
  clear hb
  go_wp2_with fail
  refine (toValS b lenb capb l w6 (by omega) HL.out (hbB.below bt)).mono ?_
  rintro e w7 ⟨t2, rfl, o2, hb⟩
  have z7 := hb.size
  replace ov := ov.below hb (by omega)
  replace ox := ox.below hb (by omega)
  replace og := og.below hb (by omega)
  replace bt := below_then bt hb (by omega)
  clear hb
  go_wp2_with fail
  refine (eqValS x0 t2 lenb l w7 HL.out ox.at o2.at).mono ?_
  rintro e w8 ⟨rfl, hb⟩
  have z8 := hb.size
  replace ov := ov.below hb (by omega)
  replace ox := ox.below hb (by omega)
  replace og := og.below hb (by omega)
  replace o2 := o2.below hb (by omega)
  replace bt := below_then bt hb (by omega)
  clear hb
  clear o2
  go_wp2_with fail
  refine (markValS x0 lenb _ _ l 1 w8 (by omega) (by omega) (by omega) HL.out ox).mono ?_
  rintro e w9 ⟨rfl, ⟨l2, hl2, hnew⟩, hg⟩
  have z9 := hg.size
  replace ov := ov.apart ox (by omega) hg
  replace og := og.apart ox (by omega) hg
  have bg := below_grown_own ox hg (by omega) (by omega)
  replace bt := bt.trans (below_grown_own ox hg (by omega) (by omega))
  clear hg bg ox
  clear hnew hl2
  go_wp2_with fail
  refine (eqValS g0 v0 n P w9 HN.out og.at ov.at).mono ?_
  rintro e w10 ⟨rfl, hb⟩
  have z10 := hb.size
  replace ov := ov.below hb (by omega)
  replace og := og.below hb (by omega)
  replace bt := below_then bt hb (by omega)
  clear hb
  go_wp2_with fail
  refine (markValM g0 n _ _ P 1 w10 (by omega) (by omega) (by omega) HN.out og).mono ?_
  rintro e w11 ⟨rfl, hnew, hg⟩
  have z11 := hg.size
  replace ov := ov.apart og (by omega) hg
  have bg := below_grown_own og hg (by omega) (by omega)
  replace bt := bt.trans (below_grown_own og hg (by omega) (by omega))
  clear hg bg og
  have og := hnew
  clear hnew
  go_wp2_with fail
  refine (heldValS g0 n 1 w11 (by omega) (by omega) (by omega) og.rd).mono ?_
  rintro e w12 ⟨rfl, hb⟩
  have z12 := hb.size
  replace ov := ov.below hb (by omega)
  replace og := og.below hb (by omega)
  replace bt := below_then bt hb (by omega)
  clear hb
  go_wp2_with fail
  refine (toValS b lenb capb l w12 (by omega) HL.out (hbB.below bt)).mono ?_
  rintro e w13 ⟨t3, rfl, o3, hb⟩
  have z13 := hb.size
  replace ov := ov.below hb (by omega)
  replace og := og.below hb (by omega)
  replace bt := below_then bt hb (by omega)
  clear hb
  go_wp2_with fail
  refine (hi t3 l w13 (by rw [HL.out]; omega) HSS.out (by rw [HL.out]; exact o3.rd)).mono ?_
  rintro e w14 ⟨h0, rfl, oh, hb⟩
  have z14 := hb.size
  replace ov := ov.below hb (by omega)
  replace og := og.below hb (by omega)
  replace o3 := o3.below hb (by omega)
  replace bt := below_then bt hb (by omega)
  clear hb
  rw [HP.out, HN.out] at oh
  clear o3
  go_wp2_with fail
  refine (eqValS h0 v0 n P w14 HN.out oh.at ov.at).mono ?_
  rintro e w15 ⟨rfl, hb⟩
  have z15 := hb.size
  replace ov := ov.below hb (by omega)
  replace og := og.below hb (by omega)
  replace oh := oh.below hb (by omega)
  replace bt := below_then bt hb (by omega)
  clear hb
  go_wp2_with fail
  refine (heldValS g0 n 1 w15 (by omega) (by omega) (by omega) og.rd).mono ?_
  rintro e w16 ⟨rfl, hb⟩
  have z16 := hb.size
  replace ov := ov.below hb (by omega)
  replace og := og.below hb (by omega)
  replace oh := oh.below hb (by omega)
  replace bt := below_then bt hb (by omega)
  clear hb
  go_wp2
  go_ret
  exact ⟨rfl, bt⟩

set_option maxHeartbeats 4000000 in
theorem lawPlaces (hi : CPlaces) (a : Option Addr) (lena capa : Nat) (d : List V) (b : Option Addr) (lenb capb : Nat) (l : List V) (w : World) (hla : lena ≤ maxLen) (hsa : ∀ v ∈ d, v.s.size ≤ maxLen) (hza : d.length = lena) (haA : ArgS 3 w a lena (vals d)) (hlb : lenb ≤ maxLen) (hsb : ∀ v ∈ l, v.s.size ≤ maxLen) (hzb : l.length = lenb) (hbB : ArgS 3 w b lenb (vals l)) :
    Calls Try.prog 6 #[.slice a lena capa, .slice b lenb capb] w fun e w' => e = .returned (.bool true) ∧ Below w.heap.size w w' := by
  have HLa := Lib.hid hza
  have HSa := Lib.hid hsa
  have HL := Lib.hid hzb
  have HSS := Lib.hid hsb
  have hPl := places_len d l
  rw [hzb] at hPl
  have hqq : ((placesL d l).2 != (placesL d l).2) = false := by simp
  generalize hP : (placesL d l).1 = P at hPl
  have HP := Lib.hid hP
  clear hP
  generalize hn : P.length = n at hPl
  have HN := Lib.hid hn
  clear hn hsb hzb hsa hza
  go_enter Try.func6, Try.ntmps6
  have bt := Below.refl w.heap.size w
  go_wp2_with fail
  refine (szValS a lena capa d 1048576 w (by omega) (by omega) hla HSa.out HLa.out (haA.below bt)).mono ?_
  rintro e w1 ⟨ra, rfl, hra, hb⟩
  have z1 := hb.size
  replace bt := below_then bt hb (by omega)
  clear hb
  by_cases hnra : ra < 0
  · go_wp2
    go_ret
    exact ⟨rfl, bt⟩
  have hbra : lena ≤ 1048576 := by omega
  have hlra : ra ≤ 1048576 := by omega
  clear hra
  go_wp2_with fail
  refine (szValS b lenb capb l ra w1 (by omega) (by omega) hlb HSS.out HL.out (hbB.below bt)).mono ?_
  rintro e w2 ⟨rb, rfl, hrb, hb⟩
  have z2 := hb.size
  replace bt := below_then bt hb (by omega)
  clear hb
  by_cases hnrb : rb < 0
  · go_wp2
    go_ret
    exact ⟨rfl, bt⟩
  have hbrb : lenb ≤ 1048576 := by omega
  have hlrb : rb ≤ 1048576 := by omega
  clear hrb
  go_wp2_with fail
  refine (toValS a lena capa d w2 (by omega) HLa.out (haA.below bt)).mono ?_
  rintro e w3 ⟨s1, rfl, p1, hb⟩
  have z3 := hb.size
  replace bt := below_then bt hb (by omega)
  clear hb
  go_wp2_with fail
  refine (toValS b lenb capb l w3 (by omega) HL.out (hbB.below bt)).mono ?_
  rintro e w4 ⟨t1, rfl, o1, hb⟩
  have z4 := hb.size
  replace p1 := p1.below hb (by omega)
  replace bt := below_then bt hb (by omega)
  clear hb
  go_wp2_with fail
  refine (sPlaces s1 t1 d l w4 (by rw [HL.out]; omega) (by rw [HLa.out]; exact p1.rd) (by rw [HL.out]; exact o1.rd)).mono ?_
  rintro e w5 ⟨v0, rfl, ov, hb⟩
  have z5 := hb.size
  replace p1 := p1.below hb (by omega)
  replace o1 := o1.below hb (by omega)
  replace bt := below_then bt hb (by omega)
  clear hb
  rw [HP.out, HN.out] at ov
  clear o1 p1
  go_wp2_with fail
  refine (toValS a lena capa d w5 (by omega) HLa.out (haA.below bt)).mono ?_
  rintro e w6 ⟨x0, rfl, ox, hb⟩
  have z6 := hb.size
  replace ov := ov.below hb (by omega)
  replace bt := below_then bt hb (by omega)
  clear hb
  go_wp2_with fail
  refine (toValS b lenb capb l w6 (by omega) HL.out (hbB.below bt)).mono ?_
  rintro e w7 ⟨x1, rfl, oy, hb⟩
  have z7 := hb.size
  replace ov := ov.below hb (by omega)
  replace ox := ox.below hb (by omega)
  replace bt := below_then bt hb (by omega)
  clear hb
  go_wp2_with fail
  refine (hi x0 x1 d l w7 (by rw [HLa.out]; omega) (by rw [HL.out]; omega) (by rw [HLa.out]; exact ox.rd) (by rw [HL.out]; exact oy.rd)).mono ?_
  rintro e w8 ⟨g0, rfl, og, hb⟩
  have z8 := hb.size
  replace ov := ov.below hb (by omega)
  replace ox := ox.below hb (by omega)
  replace oy := oy.below hb (by omega)
  replace bt := below_then bt hb (by omega)
  clear hb
  rw [HP.out, HN.out] at og
  go_wp2_with fail
  refine (eqIntS g0 v0 n P w8 HN.out og.at ov.at).mono ?_
  rintro e w9 ⟨rfl, hb⟩
  have z9 := hb.size
  replace ov := ov.below hb (by omega)
  replace ox := ox.below hb (by omega)
  replace oy := oy.below hb (by omega)
  replace og := og.below hb (by omega)
  replace bt := below_then bt hb (by omega)
  clear hb
  go_wp2_with fail
  refine (toValS a lena capa d w9 (by omega) HLa.out (haA.below bt)).mono ?_
  rintro e w10 ⟨t2, rfl, o2, hb⟩
  have z10 := hb.size
  replace ov := ov.below hb (by omega)
  replace ox := ox.below hb (by omega)
  replace oy := oy.below hb (by omega)
  replace og := og.below hb (by omega)
  replace bt := below_then bt hb (by omega)
  clear hb
  go_wp2_with fail
  refine (eqValS x0 t2 lena d w10 HLa.out ox.at o2.at).mono ?_
  rintro e w11 ⟨rfl, hb⟩
  have z11 := hb.size
  replace ov := ov.below hb (by omega)
  replace ox := ox.below hb (by omega)
  replace oy := oy.below hb (by omega)
  replace og := og.below hb (by omega)
  replace o2 := o2.below hb (by omega)
  replace bt := below_then bt hb (by omega)
  clear hb
  clear o2
  go_wp2_with fail
  refine (toValS b lenb capb l w11 (by omega) HL.out (hbB.below bt)).mono ?_
  rintro e w12 ⟨t3, rfl, o3, hb⟩
  have z12 := hb.size
  replace ov := ov.below hb (by omega)
  replace ox := ox.below hb (by omega)
  replace oy := oy.below hb (by omega)
  replace og := og.below hb (by omega)
  replace bt := below_then bt hb (by omega)
  clear hb
  go_wp2_with fail
  refine (eqValS x1 t3 lenb l w12 HL.out oy.at o3.at).mono ?_
  rintro e w13 ⟨rfl, hb⟩
  have z13 := hb.size
  replace ov := ov.below hb (by omega)
  replace ox := ox.below hb (by omega)
  replace oy := oy.below hb (by omega)
  replace og := og.below hb (by omega)
  replace o3 := o3.below hb (by omega)
  replace bt := below_then bt hb (by omega)
  clear hb
  clear o3
  go_wp2_with fail
  refine (markValS x0 lena _ _ d 1 w13 (by omega) (by omega) (by omega) HLa.out ox).mono ?_
  rintro e w14 ⟨rfl, ⟨l2, hl2, hnew⟩, hg⟩
  have z14 := hg.size
  replace ov := ov.apart ox (by omega) hg
  replace oy := oy.apart ox (by omega) hg
  replace og := og.apart ox (by omega) hg
  have bg := below_grown_own ox hg (by omega) (by omega)
  replace bt := bt.trans (below_grown_own ox hg (by omega) (by omega))
  clear hg bg ox
  clear hnew hl2
  have hs1 : 1 + 3 * lena ≤ 3145729 ∧ 0 < 1 + 3 * lena := by omega
  generalize 1 + 3 * lena = sm at hs1 ⊢
  go_wp2_with fail
  refine (markValS x1 lenb _ _ l sm w14 (by omega) (by omega) (by omega) HL.out oy).mono ?_
  rintro e w15 ⟨rfl, ⟨l2, hl2, hnew⟩, hg⟩
  have z15 := hg.size
  replace ov := ov.apart oy (by omega) hg
  replace og := og.apart oy (by omega) hg
  have bg := below_grown_own oy hg (by omega) (by omega)
  replace bt := bt.trans (below_grown_own oy hg (by omega) (by omega))
  clear hg bg oy
  clear hnew hl2
  go_wp2_with fail
  refine (eqIntS g0 v0 n P w15 HN.out og.at ov.at).mono ?_
  rintro e w16 ⟨rfl, hb⟩
  have z16 := hb.size
  replace ov := ov.below hb (by omega)
  replace og := og.below hb (by omega)
  replace bt := below_then bt hb (by omega)
  clear hb
  go_wp2_with fail
  refine (markIntS g0 n _ _ _ 1 w16 (by omega) (by omega) (by omega) og).mono ?_
  rintro e w17 ⟨rfl, hnew, hg⟩
  have z17 := hg.size
  replace ov := ov.apart og (by omega) hg
  have bg := below_grown_own og hg (by omega) (by omega)
  replace bt := bt.trans (below_grown_own og hg (by omega) (by omega))
  clear hg bg og
  have og := hnew
  clear hnew
  go_wp2_with fail
  refine (heldIntS g0 n 1 w17 (by omega) (by omega) (by omega) og.at).mono ?_
  rintro e w' ⟨rfl, rfl⟩
  go_wp2_with fail
  refine (toValS a lena capa d w17 (by omega) HLa.out (haA.below bt)).mono ?_
  rintro e w18 ⟨u1, rfl, q1, hb⟩
  have z18 := hb.size
  replace ov := ov.below hb (by omega)
  replace og := og.below hb (by omega)
  replace bt := below_then bt hb (by omega)
  clear hb
  go_wp2_with fail
  refine (toValS b lenb capb l w18 (by omega) HL.out (hbB.below bt)).mono ?_
  rintro e w19 ⟨u2, rfl, q2, hb⟩
  have z19 := hb.size
  replace ov := ov.below hb (by omega)
  replace og := og.below hb (by omega)
  replace q1 := q1.below hb (by omega)
  replace bt := below_then bt hb (by omega)
  clear hb
  go_wp2_with fail
  refine (hi u1 u2 d l w19 (by rw [HLa.out]; omega) (by rw [HL.out]; omega) (by rw [HLa.out]; exact q1.rd) (by rw [HL.out]; exact q2.rd)).mono ?_
  rintro e w20 ⟨h0, rfl, oh, hb⟩
  have z20 := hb.size
  replace ov := ov.below hb (by omega)
  replace og := og.below hb (by omega)
  replace q1 := q1.below hb (by omega)
  replace q2 := q2.below hb (by omega)
  replace bt := below_then bt hb (by omega)
  clear hb
  rw [HP.out, HN.out] at oh
  clear q1 q2
  go_wp2_with fail
  refine (eqIntS h0 v0 n P w20 HN.out oh.at ov.at).mono ?_
  rintro e w21 ⟨rfl, hb⟩
  have z21 := hb.size
  replace ov := ov.below hb (by omega)
  replace og := og.below hb (by omega)
  replace oh := oh.below hb (by omega)
  replace bt := below_then bt hb (by omega)
  clear hb
  go_wp2_with fail
  refine (heldIntS g0 n 1 w21 (by omega) (by omega) (by omega) og.at).mono ?_
  rintro e w' ⟨rfl, rfl⟩
  go_wp2
  go_ret
  exact ⟨rfl, bt⟩

set_option maxHeartbeats 4000000 in
theorem lawPicked (hi : CPicked) (a : Option Addr) (lena capa : Nat) (d : List V) (b : Option Addr) (len cap : Nat) (zs : List Int) (w : World) (hla : lena ≤ maxLen) (hsa : ∀ v ∈ d, v.s.size ≤ maxLen) (hza : d.length = lena) (haA : ArgS 3 w a lena (vals d)) (h : Arg .i64 w b len zs) :
    Calls Try.prog 7 #[.slice a lena capa, .slice b len cap] w fun e w' => e = .returned (.bool true) ∧ Below w.heap.size w w' := by
  by_cases hbig : 1048576 < len
  · go_enter Try.func7, Try.ntmps7
    go_wp2
    go_ret
    exact ⟨rfl, Below.refl _ _⟩
  · have HLa := Lib.hid hza
    have HSa := Lib.hid hsa
    have HZ : Hid (zs.length = len) := h.1
    have hPl := picked_len d zs
    rw [HZ.out] at hPl
    have hqq : ((pickedL d zs).2 != (pickedL d zs).2) = false := by simp
    generalize hP : (pickedL d zs).1 = P at hPl
    have HP := Lib.hid hP
    clear hP
    generalize hn : P.length = n at hPl
    have HN := Lib.hid hn
    clear hn hsa hza
    go_enter Try.func7, Try.ntmps7
    have bt := Below.refl w.heap.size w
    go_wp2_with fail
    refine (szValS a lena capa d 1048576 w (by omega) (by omega) hla HSa.out HLa.out (haA.below bt)).mono ?_
    rintro e w1 ⟨ra, rfl, hra, hb⟩
    have z1 := hb.size
    replace bt := below_then bt hb (by omega)
    clear hb
    by_cases hnra : ra < 0
    · go_wp2
      go_ret
      exact ⟨rfl, bt⟩
    have hbra : lena ≤ 1048576 := by omega
    have hlra : ra ≤ 1048576 := by omega
    clear hra
    go_wp2_with fail
    refine (toValS a lena capa d w1 (by omega) HLa.out (haA.below bt)).mono ?_
    rintro e w2 ⟨s1, rfl, p1, hb⟩
    have z2 := hb.size
    replace bt := below_then bt hb (by omega)
    clear hb
    go_wp2_with fail
    refine (toIntS b len cap zs w2 (by omega) (h.below bt)).mono ?_
    rintro e w3 ⟨t1, rfl, o1, hb⟩
    have z3 := hb.size
    replace p1 := p1.below hb (by omega)
    replace bt := below_then bt hb (by omega)
    clear hb
    go_wp2_with fail
    refine (sPicked s1 t1 d zs w3 (by rw [HZ.out]; omega) (by rw [HLa.out]; exact p1.rd) (by rw [HZ.out]; exact o1.rd)).mono ?_
    rintro e w4 ⟨v0, rfl, ov, hb⟩
    have z4 := hb.size
    replace p1 := p1.below hb (by omega)
    replace o1 := o1.below hb (by omega)
    replace bt := below_then bt hb (by omega)
    clear hb
    rw [HP.out, HN.out] at ov
    clear o1 p1
    go_wp2_with fail
    refine (toValS a lena capa d w4 (by omega) HLa.out (haA.below bt)).mono ?_
    rintro e w5 ⟨x0, rfl, ox, hb⟩
    have z5 := hb.size
    replace ov := ov.below hb (by omega)
    replace bt := below_then bt hb (by omega)
    clear hb
    go_wp2_with fail
    refine (toIntS b len cap zs w5 (by omega) (h.below bt)).mono ?_
    rintro e w6 ⟨x1, rfl, oy, hb⟩
    have z6 := hb.size
    replace ov := ov.below hb (by omega)
    replace ox := ox.below hb (by omega)
    replace bt := below_then bt hb (by omega)
    clear hb
    go_wp2_with fail
    refine (hi x0 x1 d zs w6 (by rw [HLa.out]; omega) (by rw [HZ.out]; omega) (by rw [HLa.out]; exact ox.rd) (by rw [HZ.out]; exact oy.rd)).mono ?_
    rintro e w7 ⟨g0, rfl, og, hb⟩
    have z7 := hb.size
    replace ov := ov.below hb (by omega)
    replace ox := ox.below hb (by omega)
    replace oy := oy.below hb (by omega)
    replace bt := below_then bt hb (by omega)
    clear hb
    rw [HP.out, HN.out] at og
    go_wp2_with fail
    refine (eqValS g0 v0 n P w7 HN.out og.at ov.at).mono ?_
    rintro e w8 ⟨rfl, hb⟩
    have z8 := hb.size
    replace ov := ov.below hb (by omega)
    replace ox := ox.below hb (by omega)
    replace oy := oy.below hb (by omega)
    replace og := og.below hb (by omega)
    replace bt := below_then bt hb (by omega)
    clear hb
    go_wp2_with fail
    refine (toValS a lena capa d w8 (by omega) HLa.out (haA.below bt)).mono ?_
    rintro e w9 ⟨t2, rfl, o2, hb⟩
    have z9 := hb.size
    replace ov := ov.below hb (by omega)
    replace ox := ox.below hb (by omega)
    replace oy := oy.below hb (by omega)
    replace og := og.below hb (by omega)
    replace bt := below_then bt hb (by omega)
    clear hb
    go_wp2_with fail
    refine (eqValS x0 t2 lena d w9 HLa.out ox.at o2.at).mono ?_
    rintro e w10 ⟨rfl, hb⟩
    have z10 := hb.size
    replace ov := ov.below hb (by omega)
    replace ox := ox.below hb (by omega)
    replace oy := oy.below hb (by omega)
    replace og := og.below hb (by omega)
    replace o2 := o2.below hb (by omega)
    replace bt := below_then bt hb (by omega)
    clear hb
    clear o2
    go_wp2_with fail
    refine (toIntS b len cap zs w10 (by omega) (h.below bt)).mono ?_
    rintro e w11 ⟨t3, rfl, o3, hb⟩
    have z11 := hb.size
    replace ov := ov.below hb (by omega)
    replace ox := ox.below hb (by omega)
    replace oy := oy.below hb (by omega)
    replace og := og.below hb (by omega)
    replace bt := below_then bt hb (by omega)
    clear hb
    go_wp2_with fail
    refine (eqIntS x1 t3 len zs w11 HZ.out oy.at o3.at).mono ?_
    rintro e w12 ⟨rfl, hb⟩
    have z12 := hb.size
    replace ov := ov.below hb (by omega)
    replace ox := ox.below hb (by omega)
    replace oy := oy.below hb (by omega)
    replace og := og.below hb (by omega)
    replace o3 := o3.below hb (by omega)
    replace bt := below_then bt hb (by omega)
    clear hb
    clear o3
    go_wp2_with fail
    refine (markValS x0 lena _ _ d 1 w12 (by omega) (by omega) (by omega) HLa.out ox).mono ?_
    rintro e w13 ⟨rfl, ⟨l2, hl2, hnew⟩, hg⟩
    have z13 := hg.size
    replace ov := ov.apart ox (by omega) hg
    replace oy := oy.apart ox (by omega) hg
    replace og := og.apart ox (by omega) hg
    have bg := below_grown_own ox hg (by omega) (by omega)
    replace bt := bt.trans (below_grown_own ox hg (by omega) (by omega))
    clear hg bg ox
    clear hnew hl2
    have hs1 : 1 + 3 * lena ≤ 3145729 ∧ 0 < 1 + 3 * lena := by omega
    generalize 1 + 3 * lena = sm at hs1 ⊢
    go_wp2_with fail
    refine (markIntS x1 len _ _ _ (sm : Int) w13 (by omega) (by omega) (by omega) oy).mono ?_
    rintro e w14 ⟨rfl, hnew, hg⟩
    have z14 := hg.size
    replace ov := ov.apart oy (by omega) hg
    replace og := og.apart oy (by omega) hg
    have bg := below_grown_own oy hg (by omega) (by omega)
    replace bt := bt.trans (below_grown_own oy hg (by omega) (by omega))
    clear hg bg oy
    clear hnew
    go_wp2_with fail
    refine (eqValS g0 v0 n P w14 HN.out og.at ov.at).mono ?_
    rintro e w15 ⟨rfl, hb⟩
    have z15 := hb.size
    replace ov := ov.below hb (by omega)
    replace og := og.below hb (by omega)
    replace bt := below_then bt hb (by omega)
    clear hb
    go_wp2_with fail
    refine (markValM g0 n _ _ P 1 w15 (by omega) (by omega) (by omega) HN.out og).mono ?_
    rintro e w16 ⟨rfl, hnew, hg⟩
    have z16 := hg.size
    replace ov := ov.apart og (by omega) hg
    have bg := below_grown_own og hg (by omega) (by omega)
    replace bt := bt.trans (below_grown_own og hg (by omega) (by omega))
    clear hg bg og
    have og := hnew
    clear hnew
    go_wp2_with fail
    refine (heldValS g0 n 1 w16 (by omega) (by omega) (by omega) og.rd).mono ?_
    rintro e w17 ⟨rfl, hb⟩
    have z17 := hb.size
    replace ov := ov.below hb (by omega)
    replace og := og.below hb (by omega)
    replace bt := below_then bt hb (by omega)
    clear hb
    go_wp2_with fail
    refine (toValS a lena capa d w17 (by omega) HLa.out (haA.below bt)).mono ?_
    rintro e w18 ⟨u1, rfl, q1, hb⟩
    have z18 := hb.size
    replace ov := ov.below hb (by omega)
    replace og := og.below hb (by omega)
    replace bt := below_then bt hb (by omega)
    clear hb
    go_wp2_with fail
    refine (toIntS b len cap zs w18 (by omega) (h.below bt)).mono ?_
    rintro e w19 ⟨u2, rfl, q2, hb⟩
    have z19 := hb.size
    replace ov := ov.below hb (by omega)
    replace og := og.below hb (by omega)
    replace q1 := q1.below hb (by omega)
    replace bt := below_then bt hb (by omega)
    clear hb
    go_wp2_with fail
    refine (hi u1 u2 d zs w19 (by rw [HLa.out]; omega) (by rw [HZ.out]; omega) (by rw [HLa.out]; exact q1.rd) (by rw [HZ.out]; exact q2.rd)).mono ?_
    rintro e w20 ⟨h0, rfl, oh, hb⟩
    have z20 := hb.size
    replace ov := ov.below hb (by omega)
    replace og := og.below hb (by omega)
    replace q1 := q1.below hb (by omega)
    replace q2 := q2.below hb (by omega)
    replace bt := below_then bt hb (by omega)
    clear hb
    rw [HP.out, HN.out] at oh
    clear q1 q2
    go_wp2_with fail
    refine (eqValS h0 v0 n P w20 HN.out oh.at ov.at).mono ?_
    rintro e w21 ⟨rfl, hb⟩
    have z21 := hb.size
    replace ov := ov.below hb (by omega)
    replace og := og.below hb (by omega)
    replace oh := oh.below hb (by omega)
    replace bt := below_then bt hb (by omega)
    clear hb
    go_wp2_with fail
    refine (heldValS g0 n 1 w21 (by omega) (by omega) (by omega) og.rd).mono ?_
    rintro e w22 ⟨rfl, hb⟩
    have z22 := hb.size
    replace ov := ov.below hb (by omega)
    replace og := og.below hb (by omega)
    replace oh := oh.below hb (by omega)
    replace bt := below_then bt hb (by omega)
    clear hb
    go_wp2
    go_ret
    exact ⟨rfl, bt⟩

set_option maxHeartbeats 2000000 in
theorem lawEncDict (hi : CEncDict) (b : Option Addr) (lenb capb : Nat) (l : List V) (w : World) (hlb : lenb ≤ maxLen) (hsb : ∀ v ∈ l, v.s.size ≤ maxLen) (hzb : l.length = lenb) (hbB : ArgS 3 w b lenb (vals l)) :
    Calls Try.prog 8 #[.slice b lenb capb] w fun e w' => e = .returned (.bool true) ∧ Below w.heap.size w w' := by
  have HL := Lib.hid hzb
  have HSS := Lib.hid hsb
  have hPl := encD_len' l
  rw [hzb] at hPl
  generalize hP : encD l = P at hPl
  have HP := Lib.hid hP
  clear hP
  generalize hn : P.length = n at hPl
  have HN := Lib.hid hn
  clear hn hsb hzb
  go_enter Try.func8, Try.ntmps8
  have bt := Below.refl w.heap.size w
  go_wp2_with fail
  refine (szValS b lenb capb l 1048576 w (by omega) (by omega) hlb HSS.out HL.out (hbB.below bt)).mono ?_
  rintro e w1 ⟨rb, rfl, hrb, hb⟩
  have z1 := hb.size
  replace bt := below_then bt hb (by omega)
  clear hb
  by_cases hnb : rb < 0
  · go_wp2
    go_ret
    exact ⟨rfl, bt⟩
  have hbb : lenb ≤ 1048576 := by omega
  clear hrb
  go_wp2_with fail
  refine (toValS b lenb capb l w1 (by omega) HL.out (hbB.below bt)).mono ?_
  rintro e w2 ⟨t1, rfl, o1, hb⟩
  have z2 := hb.size
  replace bt := below_then bt hb (by omega)
  clear hb
  go_wp2_with fail
  refine (sEncDict t1 l w2 (by rw [HL.out]; omega) HSS.out (by rw [HL.out]; exact o1.rd)).mono ?_
  rintro e w3 ⟨v0, rfl, ov, hb⟩
  have z3 := hb.size
  replace o1 := o1.below hb (by omega)
  replace bt := below_then bt hb (by omega)
  clear hb
  rw [HP.out, HN.out] at ov
  clear o1
  go_wp2_with fail
  refine (toValS b lenb capb l w3 (by omega) HL.out (hbB.below bt)).mono ?_
  rintro e w4 ⟨x0, rfl, ox, hb⟩
  have z4 := hb.size
  replace ov := ov.below hb (by omega)
  replace bt := below_then bt hb (by omega)
  clear hb
  go_wp2_with fail
  refine (hi x0 l w4 (by rw [HL.out]; omega) HSS.out (by rw [HL.out]; exact ox.rd)).mono ?_
  rintro e w5 ⟨g0, rfl, og, hb⟩
  have z5 := hb.size
  replace ov := ov.below hb (by omega)
  replace ox := ox.below hb (by omega)
  replace bt := below_then bt hb (by omega)
  clear hb
  rw [HP.out, HN.out] at og
  go_wp2_with fail
  refine (eqByteS g0 v0 n P w5 HN.out og.at ov.at).mono ?_
  rintro e w6 ⟨rfl, hb⟩
  have z6 := hb.size
  replace ov := ov.below hb (by omega)
  replace ox := ox.below hb (by omega)
  replace og := og.below hb (by omega)
  replace bt := below_then bt hb (by omega)
  clear hb
  go_wp2_with fail
  refine (toValS b lenb capb l w6 (by omega) HL.out (hbB.below bt)).mono ?_
  rintro e w7 ⟨t2, rfl, o2, hb⟩
  have z7 := hb.size
  replace ov := ov.below hb (by omega)
  replace ox := ox.below hb (by omega)
  replace og := og.below hb (by omega)
  replace bt := below_then bt hb (by omega)
  clear hb
  go_wp2_with fail
  refine (eqValS x0 t2 lenb l w7 HL.out ox.at o2.at).mono ?_
  rintro e w8 ⟨rfl, hb⟩
  have z8 := hb.size
  replace ov := ov.below hb (by omega)
  replace ox := ox.below hb (by omega)
  replace og := og.below hb (by omega)
  replace o2 := o2.below hb (by omega)
  replace bt := below_then bt hb (by omega)
  clear hb
  clear o2
  go_wp2_with fail
  refine (markValS x0 lenb _ _ l 1 w8 (by omega) (by omega) (by omega) HL.out ox).mono ?_
  rintro e w9 ⟨rfl, ⟨l2, hl2, hnew⟩, hg⟩
  have z9 := hg.size
  replace ov := ov.apart ox (by omega) hg
  replace og := og.apart ox (by omega) hg
  have bg := below_grown_own ox hg (by omega) (by omega)
  replace bt := bt.trans (below_grown_own ox hg (by omega) (by omega))
  clear hg bg ox
  clear hnew hl2
  go_wp2_with fail
  refine (eqByteS g0 v0 n P w9 HN.out og.at ov.at).mono ?_
  rintro e w10 ⟨rfl, hb⟩
  have z10 := hb.size
  replace ov := ov.below hb (by omega)
  replace og := og.below hb (by omega)
  replace bt := below_then bt hb (by omega)
  clear hb
  go_wp2_with fail
  refine (markByteS g0 n _ _ _ _ w10 (by omega) (by omega) (by omega) og).mono ?_
  rintro e w11 ⟨rfl, hnew, hg⟩
  have z11 := hg.size
  replace ov := ov.apart og (by omega) hg
  have bg := below_grown_own og hg (by omega) (by omega)
  replace bt := bt.trans (below_grown_own og hg (by omega) (by omega))
  clear hg bg og
  have og := hnew
  clear hnew
  go_wp2_with fail
  refine (heldByteS g0 n 1 w11 (by omega) (by omega) (by omega) og.at).mono ?_
  rintro e w' ⟨rfl, rfl⟩
  go_wp2_with fail
  refine (toValS b lenb capb l w11 (by omega) HL.out (hbB.below bt)).mono ?_
  rintro e w12 ⟨t3, rfl, o3, hb⟩
  have z12 := hb.size
  replace ov := ov.below hb (by omega)
  replace og := og.below hb (by omega)
  replace bt := below_then bt hb (by omega)
  clear hb
  go_wp2_with fail
  refine (hi t3 l w12 (by rw [HL.out]; omega) HSS.out (by rw [HL.out]; exact o3.rd)).mono ?_
  rintro e w13 ⟨h0, rfl, oh, hb⟩
  have z13 := hb.size
  replace ov := ov.below hb (by omega)
  replace og := og.below hb (by omega)
  replace o3 := o3.below hb (by omega)
  replace bt := below_then bt hb (by omega)
  clear hb
  rw [HP.out, HN.out] at oh
  clear o3
  go_wp2_with fail
  refine (eqByteS h0 v0 n P w13 HN.out oh.at ov.at).mono ?_
  rintro e w14 ⟨rfl, hb⟩
  have z14 := hb.size
  replace ov := ov.below hb (by omega)
  replace og := og.below hb (by omega)
  replace oh := oh.below hb (by omega)
  replace bt := below_then bt hb (by omega)
  clear hb
  go_wp2_with fail
  refine (heldByteS g0 n 1 w14 (by omega) (by omega) (by omega) og.at).mono ?_
  rintro e w' ⟨rfl, rfl⟩
  go_wp2
  go_ret
  exact ⟨rfl, bt⟩

set_option maxHeartbeats 2000000 in
theorem lawDecDict (hi : CDecDict) (a : Option Addr) (len cap : Nat) (zs : List Int) (ty k : Int) (w : World) (h : Arg .u8 w a len zs) (hby : Num.Bytes zs) :
    Calls Try.prog 9 #[.slice a len cap, .int .i64 ty, .int .i64 k] w fun e w' => e = .returned (.bool true) ∧ Below w.heap.size w w' := by
  by_cases hbig : 1048576 < len
  · go_enter Try.func9, Try.ntmps9
    go_wp2
    go_ret
    exact ⟨rfl, Below.refl _ _⟩
  · have HZ : Hid (zs.length = len) := h.1
    have hPl := decD_len zs ty k
    have hqq : ((decD zs ty k).2 != (decD zs ty k).2) = false := by simp
    generalize hP : (decD zs ty k).1 = P at hPl
    have HP := Lib.hid hP
    clear hP
    generalize hn : P.length = n at hPl
    have HN := Lib.hid hn
    clear hn
    go_enter Try.func9, Try.ntmps9
    have bt := Below.refl w.heap.size w
    go_wp2_with fail
    refine (toByteS a len cap zs w (by omega) (h.below bt)).mono ?_
    rintro e w1 ⟨t1, rfl, o1, hb⟩
    have z1 := hb.size
    replace bt := below_then bt hb (by omega)
    clear hb
    go_wp2_with fail
    refine (sDecDict t1 len zs ty k w1 (by omega) HZ.out hby o1.at).mono ?_
    rintro e w2 ⟨v0, rfl, ov, hb⟩
    have z2 := hb.size
    replace o1 := o1.below hb (by omega)
    replace bt := below_then bt hb (by omega)
    clear hb
    rw [HP.out, HN.out] at ov
    clear o1
    go_wp2_with fail
    refine (toByteS a len cap zs w2 (by omega) (h.below bt)).mono ?_
    rintro e w3 ⟨x0, rfl, ox, hb⟩
    have z3 := hb.size
    replace ov := ov.below hb (by omega)
    replace bt := below_then bt hb (by omega)
    clear hb
    go_wp2_with fail
    refine (hi x0 len zs ty k w3 (by omega) HZ.out hby ox.at).mono ?_
    rintro e w4 ⟨g0, rfl, og, hb⟩
    have z4 := hb.size
    replace ov := ov.below hb (by omega)
    replace ox := ox.below hb (by omega)
    replace bt := below_then bt hb (by omega)
    clear hb
    rw [HP.out, HN.out] at og
    go_wp2_with fail
    refine (eqValS g0 v0 n P w4 HN.out og.at ov.at).mono ?_
    rintro e w5 ⟨rfl, hb⟩
    have z5 := hb.size
    replace ov := ov.below hb (by omega)
    replace ox := ox.below hb (by omega)
    replace og := og.below hb (by omega)
    replace bt := below_then bt hb (by omega)
    clear hb
    go_wp2_with fail
    refine (toByteS a len cap zs w5 (by omega) (h.below bt)).mono ?_
    rintro e w6 ⟨t2, rfl, o2, hb⟩
    have z6 := hb.size
    replace ov := ov.below hb (by omega)
    replace ox := ox.below hb (by omega)
    replace og := og.below hb (by omega)
    replace bt := below_then bt hb (by omega)
    clear hb
    go_wp2_with fail
    refine (eqByteS x0 t2 len zs w6 HZ.out ox.at o2.at).mono ?_
    rintro e w7 ⟨rfl, hb⟩
    have z7 := hb.size
    replace ov := ov.below hb (by omega)
    replace ox := ox.below hb (by omega)
    replace og := og.below hb (by omega)
    replace o2 := o2.below hb (by omega)
    replace bt := below_then bt hb (by omega)
    clear hb
    clear o2
    go_wp2_with fail
    refine (markByteS x0 len _ _ _ _ w7 (by omega) (by omega) (by omega) ox).mono ?_
    rintro e w8 ⟨rfl, hnew, hg⟩
    have z8 := hg.size
    replace ov := ov.apart ox (by omega) hg
    replace og := og.apart ox (by omega) hg
    have bg := below_grown_own ox hg (by omega) (by omega)
    replace bt := bt.trans (below_grown_own ox hg (by omega) (by omega))
    clear hg bg ox
    clear hnew
    go_wp2_with fail
    refine (eqValS g0 v0 n P w8 HN.out og.at ov.at).mono ?_
    rintro e w9 ⟨rfl, hb⟩
    have z9 := hb.size
    replace ov := ov.below hb (by omega)
    replace og := og.below hb (by omega)
    replace bt := below_then bt hb (by omega)
    clear hb
    go_wp2_with fail
    refine (markValM g0 n _ _ P 1 w9 (by omega) (by omega) (by omega) HN.out og).mono ?_
    rintro e w10 ⟨rfl, hnew, hg⟩
    have z10 := hg.size
    replace ov := ov.apart og (by omega) hg
    have bg := below_grown_own og hg (by omega) (by omega)
    replace bt := bt.trans (below_grown_own og hg (by omega) (by omega))
    clear hg bg og
    have og := hnew
    clear hnew
    go_wp2_with fail
    refine (heldValS g0 n 1 w10 (by omega) (by omega) (by omega) og.rd).mono ?_
    rintro e w11 ⟨rfl, hb⟩
    have z11 := hb.size
    replace ov := ov.below hb (by omega)
    replace og := og.below hb (by omega)
    replace bt := below_then bt hb (by omega)
    clear hb
    go_wp2_with fail
    refine (toByteS a len cap zs w11 (by omega) (h.below bt)).mono ?_
    rintro e w12 ⟨t3, rfl, o3, hb⟩
    have z12 := hb.size
    replace ov := ov.below hb (by omega)
    replace og := og.below hb (by omega)
    replace bt := below_then bt hb (by omega)
    clear hb
    go_wp2_with fail
    refine (hi t3 len zs ty k w12 (by omega) HZ.out hby o3.at).mono ?_
    rintro e w13 ⟨h0, rfl, oh, hb⟩
    have z13 := hb.size
    replace ov := ov.below hb (by omega)
    replace og := og.below hb (by omega)
    replace o3 := o3.below hb (by omega)
    replace bt := below_then bt hb (by omega)
    clear hb
    rw [HP.out, HN.out] at oh
    clear o3
    go_wp2_with fail
    refine (eqValS h0 v0 n P w13 HN.out oh.at ov.at).mono ?_
    rintro e w14 ⟨rfl, hb⟩
    have z14 := hb.size
    replace ov := ov.below hb (by omega)
    replace og := og.below hb (by omega)
    replace oh := oh.below hb (by omega)
    replace bt := below_then bt hb (by omega)
    clear hb
    go_wp2_with fail
    refine (heldValS g0 n 1 w14 (by omega) (by omega) (by omega) og.rd).mono ?_
    rintro e w15 ⟨rfl, hb⟩
    have z15 := hb.size
    replace ov := ov.below hb (by omega)
    replace og := og.below hb (by omega)
    replace oh := oh.below hb (by omega)
    replace bt := below_then bt hb (by omega)
    clear hb
    go_wp2
    go_ret
    exact ⟨rfl, bt⟩

end Go.Proofs.Ytoidpibdjijamaa

/- The contracts of impl's appendVal, PutVal, EncPlain. -/
namespace Go.Proofs.Ytoidpibdjijamaa
open Go.RowKit Go.Lib

/-- append(b, s...), s a string, as one operation: which block it may have written. -/
theorem appendS_grown {P : Program} {t u e : TypeId} (T : ElemT P t e (.int .u8 0) 1 1) (hu : P.underlying u = some .string) {w : World} {o : Oper} {a : Act} {K : Act → World → Prop} {Q : Exit → Act → World → Prop} (b x : Operand)
    (ho : o.op = .call { callee := .builtin .append, args := #[b, x], argTypes := #[t, u] })
    (lo hi : Nat) (v : Value) (n : Nat) (xs : List Value) (s : ByteArray) (hs : a.eval b = v) (hown : Own e 1 lo hi w v n xs)
    (hx : a.eval x = .string s) (h63 : n + s.size ≤ maxLen) (hbytes : n + s.size ≤ 140737488355328)
    (h : ∀ v' w', Own e 1 lo w'.heap.size w' v' (n + s.size) (xs ++ ints .u8 (sbytes s)) → w.grownBy w' v.ownBlock → K (a.put o.dst v') w') : Oper.wp P o a w K Q := by
  obtain ⟨i, hi', hz, hsz, hb⟩ := T.info
  obtain ⟨v', w', hr, h2, h3, h4⟩ := run_append_own_string (P := P) w lo t u o.type e i T.ht hu hi' hz hsz hb v n xs hown.row s h63 hbytes hown.lo
  rw [strCells_eq] at h2
  unfold Oper.wp execOp
  simp only [ho, resolve, invoke, builtin, Sem.run_bind, Sem.run_pure, Result.andThen_ok, List.map_toArray, List.map_cons, List.map_nil, hs, hx, hr]
  exact h v' w' (hown.append h2 h4) h3

theorem Ext.then_grown {w w1 w2 : World} {v v1 : Value} (h : Ext w w1 v v1) (k : w1.grownBy w2 v1.ownBlock) : w.grownBy w2 v.ownBlock := by
  have hs := h.grown.size
  refine ⟨k.os.trans h.grown.os, k.tape.trans h.grown.tape, k.output.trans h.grown.output, Nat.le_trans hs k.size, fun i hi hne => ?_⟩
  refine (k.block i (by omega) (fun e => ?_)).trans (h.grown.block i hi hne)
  rcases h.blk with hb | ⟨g, hb, hg⟩
  · exact hne (e.trans hb)
  · rw [hb] at e
    cases e
    omega

set_option maxHeartbeats 1000000 in
theorem appendValG (v : Value) (lo hi n : Nat) (zs : List Int) (x : V) (w : World) (hn : n ≤ 1073741824) (hz : zs.length = n) (hok : okV x = true) (h : Own 5 1 lo hi w v n (ints .u8 zs)) :
    Calls Try.prog 49 #[v, x.agg] w fun e w' => ∃ v', e = .returned v' ∧ Own 5 1 lo w'.heap.size w' v' (putV zs x).length (ints .u8 (putV zs x)) ∧ Below lo w w' ∧ w.grownBy w' v.ownBlock := by
  have HZ := Lib.hid hz
  have HE : Hid (putV zs x = if x.ty = 1 then Num.put zs x.n else zs ++ ((x.s.size : Int) :: sbytes x.s)) := if_pos hok
  have HSZ : Hid (¬ x.ty = 1 → x.s.size ≤ 6) := fun h2 => okV_txt hok h2
  have HON : Hid (x.ty = 1 → Num.ok x.n) := fun h2 => okV_num hok h2
  clear hz hok
  obtain ⟨t, xn, s⟩ := x
  simp only at HE HSZ HON
  obtain ⟨g, cap, rfl, g1, g2, g3⟩ := h
  have hgl := (g3.lt g rfl).2
  have h : Own 5 1 lo w.heap.size w (.slice (some ⟨g, 0, none⟩) n cap) n (ints .u8 zs) := ⟨g, cap, rfl, g1, hgl, g3⟩
  clear g1 g2 g3
  have B0 := below_alloc_own h (.cells #[.int .i64 t, .int .i64 xn, .string s] 37)
  have O0 := h.alloc (.cells #[.int .i64 t, .int .i64 xn, .string s] 37)
  have c0 : (w.alloc (.cells #[.int .i64 t, .int .i64 xn, .string s] 37)).cell? ⟨w.heap.size, 0, none⟩ = some (.int .i64 t) := by simp
  have c1 : (w.alloc (.cells #[.int .i64 t, .int .i64 xn, .string s] 37)).cell? ⟨w.heap.size, 1, none⟩ = some (.int .i64 xn) := by simp
  have c2 : (w.alloc (.cells #[.int .i64 t, .int .i64 xn, .string s] 37)).cell? ⟨w.heap.size, 2, none⟩ = some (.string s) := by simp
  have hszb : (w.alloc (.cells #[.int .i64 t, .int .i64 xn, .string s] 37)).heap.size = w.heap.size + 1 := World.size_alloc _ _
  have EX := Ext.alloc (w := w) (.slice (some ⟨g, 0, none⟩) n cap) (.cells #[.int .i64 t, .int .i64 xn, .string s] 37)
  generalize hwb : w.alloc (.cells #[.int .i64 t, .int .i64 xn, .string s] 37) = wb at B0 O0 c0 c1 c2 hszb EX
  have HW := Lib.hid hwb
  have HSB := Lib.hid hszb
  have HEX := Lib.hid EX
  clear hwb hszb h EX
  by_cases ht : t = 1
  · subst ht
    rw [if_pos rfl] at HE
    have HP : Hid (Num.put zs xn = Num.puts zs [xn]) := by
      show _ = _
      rw [Num.puts_one, Num.put_ok (HON.out rfl)]
    have hl : At 1 (wb.alloc (.cells #[.int .i64 xn] 3)) (.slice (some ⟨wb.heap.size, 0, none⟩) 1 1) 1 (ints .i64 [xn]) := (own_lit wb #[.int .i64 xn] 1 (by unfold maxLen; omega) rfl).at
    have HA := Lib.hid (appendNums (.slice (some ⟨g, 0, none⟩) n cap) _ lo _ n 1 zs [xn] _ HZ.out rfl (by omega) (by omega) (O0.alloc (.cells #[.int .i64 xn] 3)) hl (fun _ => own_ne O0 (by rw [HSB.out]; omega)))
    clear hl
    go_enter Try.func49, Try.ntmps49
    go_wp2_with fail
    rw [HW.out]
    have hsb := HSB.out
    simp only [hsb] at HA
    refine HA.out.mono ?_
    rintro e w2 ⟨v2, rfl, o2, e2⟩
    have b2 := (B0.alloc O0.lo _).trans (e2.below (O0.alloc _))
    rw [← HP.out, ← HE.out] at o2
    have O2 := Lib.hid o2
    have G2 := Lib.hid ((HEX.out.trans (Ext.alloc _ _)).trans e2).grown
    clear o2 e2 hsb HA
    go_wp2
    go_ret
    exact ⟨_, rfl, O2.out, b2, G2.out⟩
  · have htb : (t == 1) = false := by simpa using ht
    rw [if_neg ht] at HE
    have hs6 := HSZ.out ht
    have hwr : IntKind.u8.wrap (s.size : Int) = s.size := by
      simp only [IntKind.wrap, IntKind.bits, IntKind.signed, Bool.false_and, Bool.false_eq_true, if_false]
      omega
    go_enter Try.func49, Try.ntmps49
    go_wp2_with fail
    rw [HW.out]
    refine wp_region_held_drew (S := fun W => W.cell? ⟨w.heap.size, 2, none⟩ = some (.string s)) (by kernel_rfl) c2 (fun hHeld => ?_)
    refine takeH (i := 0) (d := some 13) (v := .slice (some ⟨g, 0, none⟩) n cap) rfl rfl (by kernel_rfl) (by kernel_rfl) (by kernel_rfl) (fun _ _ _ h => h) (Or.inl ⟨by rfl, fun W hSw => by go_simp⟩) hHeld ?_
    simp only [put_some, List.set_cons_zero, List.set_cons_succ]
    refine takeH (i := 1) (d := some 14) (v := .pointer (some ⟨w.heap.size, 2, none⟩)) rfl rfl (by kernel_rfl) (by kernel_rfl) (by kernel_rfl) (fun _ _ _ h => h) (Or.inl ⟨by rfl, fun W hSw => by go_simp⟩) hHeld ?_
    simp only [put_some, List.set_cons_zero, List.set_cons_succ]
    refine takeH (i := 2) (d := some 15) (v := .string s) rfl rfl (by kernel_rfl) (by kernel_rfl) (by kernel_rfl) (fun _ _ _ h => h) (Or.inl ⟨by rfl, fun W hSw => by go_simp⟩) hHeld ?_
    simp only [put_some, List.set_cons_zero, List.set_cons_succ]
    refine takeH (i := 3) (d := some 16) (v := .int .i64 (s.size : Int)) rfl rfl (by kernel_rfl) (by kernel_rfl) (by kernel_rfl) (fun _ _ _ h => h) (Or.inl ⟨by rfl, fun W hSw => by go_simp⟩) hHeld ?_
    simp only [put_some, List.set_cons_zero, List.set_cons_succ]
    refine takeH (i := 4) (d := some 17) (v := .int .u8 (s.size : Int)) rfl rfl (by kernel_rfl) (by kernel_rfl) (by kernel_rfl) (fun _ _ _ h => h) (Or.inl ⟨by rfl, fun W hSw => by go_simp⟩) hHeld ?_
    simp only [put_some, List.set_cons_zero, List.set_cons_succ]
    refine takeH (i := 7) (d := some 20) (v := .pointer (some ⟨w.heap.size, 2, none⟩)) rfl rfl (by kernel_rfl) (by kernel_rfl) (by kernel_rfl) (fun _ _ _ h => h) (Or.inl ⟨by rfl, fun W hSw => by go_simp⟩) hHeld ?_
    simp only [put_some, List.set_cons_zero, List.set_cons_succ]
    refine takeH (i := 8) (d := some 21) (v := .string s) rfl rfl (by kernel_rfl) (by kernel_rfl) (by kernel_rfl) (fun _ _ _ h => h) (Or.inl ⟨by rfl, fun W hSw => by go_simp⟩) hHeld ?_
    simp only [put_some, List.set_cons_zero, List.set_cons_succ]
    refine wpAnyH_ready (rs := [5]) (by kernel_rfl) (by simp) ?_
    refine AllReadyH.cons rfl (fun K hK => ?_) AllReadyH.nil
    go_simp
    refine hK.out _ _ ((below_alloc wb.drew _).cell (p := ⟨w.heap.size, 2, none⟩) (lt_of_cell hHeld) |>.trans hHeld) (fun hHeld => ?_)
    clear hK K
    refine wpAnyH_ready (rs := [6]) (by kernel_rfl) (by simp) ?_
    refine AllReadyH.cons rfl (fun K hK => ?_) AllReadyH.nil
    refine append1_op Try.elemBytes (.tmp 13) (.tmp 18) rfl lo w.heap.size (.slice (some ⟨g, 0, none⟩) n cap) n (ints .u8 zs) (.int .u8 (s.size : Int)) rfl rfl O0.drew rfl (by unfold maxLen; omega) (by omega) ?_
    intro v4 w4 o4 e4
    have hne4 : v4.ownBlock ≠ some w.heap.size := fun hb => by
      rcases e4.blk with h1 | ⟨g', h1, h2⟩
      · rw [hb] at h1
        simp [Value.ownBlock] at h1
        omega
      · rw [hb] at h1
        obtain rfl : w.heap.size = g' := by simpa using h1
        rw [World.size_alloc] at h2
        have := HSB.out
        have h3 : wb.drew.heap.size = wb.heap.size := rfl
        omega
    replace hHeld := (World.cell?_of_block (a := ⟨w.heap.size, 2, none⟩) (e4.grown.block w.heap.size (lt_of_cell hHeld) (by simp [Value.ownBlock]; omega))).trans hHeld
    have B4 : Below lo wb.drew w4 := ((Below.refl lo wb.drew).alloc O0.drew.lo _).trans (e4.below (O0.drew.alloc _))
    refine hK.out _ _ hHeld (fun hHeld => ?_)
    have HE4 := Lib.hid e4
    clear hK K e4
    obtain ⟨g4, cap4, rfl⟩ : ∃ g cp, v4 = .slice (some ⟨g, 0, none⟩) (n + 1) cp := by
      obtain ⟨g, cp, e, _⟩ := o4
      exact ⟨g, cp, e⟩
    refine wpAnyH_ready (rs := [9]) (by kernel_rfl) (by simp) ?_
    refine AllReadyH.cons rfl (fun K hK => ?_) AllReadyH.nil
    refine appendS_grown Try.elemBytes Try.underlying9 (.tmp 19) (.tmp 21) rfl lo w4.heap.size (.slice (some ⟨g4, 0, none⟩) (n + 1) cap4) (n + 1) (ints .u8 zs ++ [.int .u8 (s.size : Int)]) s rfl o4 rfl (by unfold maxLen; omega) (by omega) ?_
    intro v5 w5 o5 b5
    obtain ⟨g5, cap5, rfl⟩ : ∃ g cp, v5 = .slice (some ⟨g, 0, none⟩) (n + 1 + s.size) cp := by
      obtain ⟨g, cp, e, _⟩ := o5
      exact ⟨g, cp, e⟩
    have HC5 : Hid (w5.cell? ⟨w.heap.size, 2, none⟩ = some (.string s)) := (World.cell?_of_block (a := ⟨w.heap.size, 2, none⟩) (b5.block w.heap.size (lt_of_cell hHeld) (fun e => hne4 e.symm))).trans hHeld
    have B5 := Lib.hid (B0.trans (((Below.refl lo wb).drew.trans B4).trans ((Below.refl lo w4).grown b5 o4.lo o4.block)))
    have G5 := Lib.hid (((HEX.out.trans (Ext.of_below _ (below_drewN wb wb.heap.size 1))).trans ((Ext.alloc _ _).trans HE4.out)).then_grown b5)
    have O5 : Hid (Own 5 1 lo w5.heap.size w5 (.slice (some ⟨g5, 0, none⟩) (n + 1 + s.size) cap5) (putV zs ⟨t, xn, s⟩).length (ints .u8 (putV zs ⟨t, xn, s⟩))) := by
      show Own _ _ _ _ _ _ _ _
      rw [HE.out]
      have e1 : (zs ++ ((s.size : Int) :: sbytes s)).length = n + 1 + s.size := by
        simp only [List.length_append, List.length_cons, sbytes_len, HZ.out]
        omega
      have e2 : ints .u8 (zs ++ ((s.size : Int) :: sbytes s)) = ints .u8 zs ++ [.int .u8 (s.size : Int)] ++ ints .u8 (sbytes s) := by simp [ints]
      rw [e1, e2]
      exact o5
    clear o5 b5 B4 o4 hHeld
    go_simp
    refine hK.out _ _ HC5.out (fun hHeld => ?_)
    clear hK K
    refine takeH (i := 10) (d := some 4) (v := .slice (some ⟨g5, 0, none⟩) (n + 1 + s.size) cap5) rfl rfl (by kernel_rfl) (by kernel_rfl) (by kernel_rfl) (fun _ _ _ h => h) (Or.inl ⟨by rfl, fun W hSw => by go_simp⟩) hHeld ?_
    simp only [put_some, List.set_cons_zero, List.set_cons_succ]
    refine wpAnyH_done (by kernel_rfl) ?_ _
    go_wp2
    go_ret
    exact ⟨_, rfl, O5.out, B5.out, G5.out⟩
theorem appendVal (v : Value) (lo hi n : Nat) (zs : List Int) (x : V) (w : World) (hn : n ≤ 1073741824) (hz : zs.length = n) (hok : okV x = true) (h : Own 5 1 lo hi w v n (ints .u8 zs)) :
    Calls Try.prog 49 #[v, x.agg] w fun e w' => ∃ v', e = .returned v' ∧ Own 5 1 lo w'.heap.size w' v' (putV zs x).length (ints .u8 (putV zs x)) ∧ Below lo w w' :=
  (appendValG v lo hi n zs x w hn hz hok h).mono fun _ _ ⟨v', h1, h2, h3, _⟩ => ⟨v', h1, h2, h3⟩

theorem typeV_ok {l : List V} (h : ¬ typeV l = 0) {k : Nat} (hk : k < l.length) : okV (l.getD k V.zero) = true := by
  unfold typeV at h
  split at h
  · rename_i h2
    have e : l.getD k V.zero = l[k] := by simp [hk]
    have := List.all_eq_true.1 h2.2 _ (List.getElem_mem hk)
    rw [e]
    unfold ofB at this
    simp only [Bool.and_eq_true] at this
    exact this.1
  · exact absurd rfl h

end Go.Proofs.Ytoidpibdjijamaa

/- The contracts of impl's cutBytes, getText, GetVal. -/
namespace Go.Proofs.Ytoidpibdjijamaa
open Go.RowKit

/-- cutBytes where nothing is cut. -/
theorem cutNot (a : Option Addr) (n cap k : Nat) (i q : Int) (hq : q = k) (w : World) (_ : n ≤ 1073741824) (hk : k ≤ 255) (h : ¬ (0 ≤ i ∧ i + k ≤ n)) :
    Calls Try.prog 130 #[.slice a n cap, .int .i64 i, .int .i64 q] w fun e w' => e = .returned (.tuple #[.slice none 0 0, .bool false]) ∧ w = w' := by
  subst hq
  by_cases h0 : i < 0
  · go_enter Try.func130, Try.ntmps130
    go_wp2
    go_ret2
    exact ⟨rfl, rfl⟩
  · obtain ⟨I, rfl⟩ := Int.eq_ofNat_of_zero_le (show 0 ≤ i by omega)
    by_cases h1 : n < I
    · go_enter Try.func130, Try.ntmps130
      go_wp2
      go_ret2
      exact ⟨rfl, rfl⟩
    · have h2 : (n : Int) - I < k := by omega
      clear h h0
      go_enter Try.func130, Try.ntmps130
      go_wp2
      go_ret2
      exact ⟨rfl, rfl⟩

/-- cutBytes where bytes are cut. -/
theorem cutOk (b off n cap k I : Nat) (i q : Int) (hi : i = I) (hq : q = k) (w : World) (_ : n ≤ 1073741824) (hk : k ≤ 255) (hnc : n ≤ cap) (hcm : cap ≤ maxLen) (h : I + k ≤ n) :
    Calls Try.prog 130 #[.slice (some ⟨b, off, none⟩) n cap, .int .i64 i, .int .i64 q] w fun e w' => ∃ o, e = .returned (.tuple #[.slice (some ⟨b, o, none⟩) k k, .bool true]) ∧ (0 < k → o = off + I) ∧ w = w' := by
  subst hi hq
  unfold maxLen at hcm
  have h1 : ¬ ((n : Int) - I < k) := by omega
  by_cases h0 : k = 0
  · subst h0
    go_enter Try.func130, Try.ntmps130
    go_wp2
    go_ret2
    exact ⟨⟨_, rfl⟩, rfl⟩
  · go_enter Try.func130, Try.ntmps130
    go_wp2
    go_ret2
    exact ⟨_, rfl, fun _ => rfl, rfl⟩

/-- getText. -/
def textAt (zs : List Int) (I : Nat) : ByteArray := strOfNums ((zs.drop (I + 1)).take (zs.getD I 0).toNat)
def getS (zs : List Int) (i : Int) : ByteArray × Int × Bool :=
  if (0 ≤ i ∧ i + 1 ≤ zs.length) ∧ i + 1 + zs.getD i.toNat 0 ≤ zs.length ∧ txtB (textAt zs i.toNat) = true then (textAt zs i.toNat, i + 1 + zs.getD i.toNat 0, true) else (⟨#[]⟩, 0, false)
theorem getV_text {zs : List Int} {i : Int} : getV zs i 2 = if (getS zs i).2.2 = true then (⟨2, 0, (getS zs i).1⟩, (getS zs i).2.1, true) else (V.zero, 0, false) := by
  unfold getV
  rw [if_neg (by decide)]
  have hok : ∀ s, okV ⟨2, 0, s⟩ = txtB s := fun s => by simp [okV]
  by_cases h1 : 0 ≤ i ∧ i + 1 ≤ zs.length
  · obtain ⟨I, rfl⟩ := Int.eq_ofNat_of_zero_le h1.1
    rw [if_pos ⟨rfl, Num.inB_true.2 ⟨h1.1, by omega⟩⟩]
    have e0 : getT zs I = if zs.getD I 0 ≤ (zs.length : Int) - I - 1 ∧ txtB (textAt zs I) = true then (⟨2, 0, textAt zs I⟩, (I : Int) + 1 + zs.getD I 0, true) else (V.zero, 0, false) := by
      rw [← hok]
      rfl
    have e1 : getS zs I = if (0 ≤ (I : Int) ∧ (I : Int) + 1 ≤ zs.length) ∧ (I : Int) + 1 + zs.getD I 0 ≤ zs.length ∧ txtB (textAt zs I) = true then (textAt zs I, (I : Int) + 1 + zs.getD I 0, true) else (⟨#[]⟩, 0, false) := rfl
    rw [e1, Int.toNat_natCast, e0]
    by_cases h2 : (I : Int) + 1 + zs.getD I 0 ≤ zs.length ∧ txtB (textAt zs I) = true
    · rw [if_pos (c := _ ∧ _) ⟨by omega, h2.2⟩, if_pos (c := (0 ≤ (I : Int) ∧ (I : Int) + 1 ≤ zs.length) ∧ _) ⟨h1, h2⟩]
      rfl
    · rw [if_neg (c := zs.getD I 0 ≤ (zs.length : Int) - I - 1 ∧ _) (fun h => h2 ⟨by omega, h.2⟩), if_neg (c := (0 ≤ (I : Int) ∧ (I : Int) + 1 ≤ zs.length) ∧ _) (fun h => h2 h.2)]
      rfl
  · have e1 : getS zs i = (⟨#[]⟩, 0, false) := if_neg (fun h => h1 h.1)
    rw [e1, if_neg (fun h => h1 (by have := Num.inB_true.1 h.2; omega))]
    rfl
theorem getV_none {zs : List Int} {i ty : Int} (h1 : ¬ ty = 1) (h2 : ¬ ty = 2) : getV zs i ty = (V.zero, 0, false) := by
  unfold getV
  rw [if_neg h1, if_neg (fun h => h2 h.1)]

set_option maxHeartbeats 1000000 in
theorem getText (v : Value) (n : Nat) (zs : List Int) (i : Int) (w : World) (hn : n ≤ 1048576) (hz : zs.length = n) (hby : Num.Bytes zs) (h : At 1 w v n (ints .u8 zs)) :
    Calls Try.prog 122 #[v, .int .i64 i] w fun e w' => e = .returned (.tuple #[.string (getS zs i).1, .int .i64 (getS zs i).2.1, .bool (getS zs i).2.2]) ∧ w = w' := by
  obtain ⟨b, off, cap, rfl, hnc, hcm, _, hc⟩ := h
  by_cases h1 : 0 ≤ i ∧ i + 1 ≤ n
  · obtain ⟨I, rfl⟩ := Int.eq_ofNat_of_zero_le h1.1
    have hI : I < n := by omega
    have hcI := At.cell (k := .u8) (n := n) hc hz hI
    have hbI := hby _ (getD_mem (by omega : I < zs.length))
    have HE : Hid (getS zs I = if (I : Int) + 1 + zs.getD I 0 ≤ n ∧ txtB (textAt zs I) = true then (textAt zs I, (I : Int) + 1 + zs.getD I 0, true) else (⟨#[]⟩, 0, false)) := by
      show _ = _
      unfold getS
      rw [hz, Int.toNat_natCast]
      congr 1
      simp [h1]
    have HCV : Hid (∀ (C : Nat), zs.getD I 0 = (C : Int) → I + 1 + C ≤ n → ∀ (o cp : Nat), (0 < C → o = off + (I + 1)) → (convert 22 9 (.slice (some ⟨b, o, none⟩) C cp)).run Try.prog w = .ok (.string (textAt zs I)) w) := fun C hC hle o cp ho => by
      have e0 : textAt zs I = strOfNums ((zs.drop (I + 1)).take C) := by
        unfold textAt
        rw [hC, Int.toNat_natCast]
      rw [e0]
      refine run_convert_bytes_arg w 22 5 Try.underlying22 Try.underlying5 b o C cp ((zs.drop (I + 1)).take C) (by simp; omega) (fun j hj => ?_) 9 Try.underlying9
      have hjn : I + 1 + j < n := by omega
      have := At.cell (k := .u8) (n := n) hc hz hjn
      have e : ((zs.drop (I + 1)).take C).getD j 0 = zs.getD (I + 1 + j) 0 := by
        simp [hj]
      rw [e, ← this, ho (by omega), show off + (I + 1) + j = off + (I + 1 + j) by omega]
    have HSS : Hid ((textAt zs I).size ≤ maxLen) := by
      show _ ≤ _
      unfold textAt
      rw [strOfNums_size]
      unfold maxLen
      simp
      omega
    generalize zs.getD I 0 = c at hcI hbI HE HCV
    obtain ⟨c0, c1⟩ := hbI
    obtain ⟨C, rfl⟩ := Int.eq_ofNat_of_zero_le c0
    have HT := Lib.hid (fun W => iTextOk (textAt zs I) W HSS.out)
    generalize textAt zs I = s at HE HCV HSS HT
    have H1 := Lib.hid (fun W => cutOk b off n cap 1 I I 1 rfl rfl W (by omega) (by omega) hnc hcm (by omega))
    have HZ := Lib.hid hz
    clear hz hby hc c0
    by_cases h2 : I + 1 + C ≤ n
    · have H2 := Lib.hid (fun W => cutOk b off n cap C (I + 1) ((I : Int) + 1) C (by omega) rfl W (by omega) (by omega) hnc hcm (by omega))
      have HCW := Lib.hid (HCV.out C rfl h2)
      clear HCV
      cases ht : txtB s with
      | true =>
        rw [if_pos ⟨by omega, ht⟩] at HE
        rw [ht] at HT
        rw [HE.out]
        clear ht
        go_enter Try.func122, Try.ntmps122
        go_wp2_with fail
        refine (H1.out _).mono ?_
        rintro e w1 ⟨o1, rfl, ho1, rfl⟩
        obtain rfl := ho1 (by omega)
        clear ho1
        go_wp2_with fail
        refine (H2.out _).mono ?_
        rintro e w2 ⟨o2, rfl, ho2, rfl⟩
        have hcv := HCW.out o2 C ho2
        clear ho2
        go_wp2_with (go_at_call 90; refine (HT.out _).mono ?_; rintro e w3 ⟨rfl, rfl⟩)
        go_ret3
        exact ⟨rfl, rfl⟩
      | false =>
        rw [if_neg (fun h => by rw [ht] at h; cases h.2)] at HE
        rw [ht] at HT
        rw [HE.out]
        clear ht
        go_enter Try.func122, Try.ntmps122
        go_wp2_with fail
        refine (H1.out _).mono ?_
        rintro e w1 ⟨o1, rfl, ho1, rfl⟩
        obtain rfl := ho1 (by omega)
        clear ho1
        go_wp2_with fail
        refine (H2.out _).mono ?_
        rintro e w2 ⟨o2, rfl, ho2, rfl⟩
        have hcv := HCW.out o2 C ho2
        clear ho2
        go_wp2_with (go_at_call 90; refine (HT.out _).mono ?_; rintro e w3 ⟨rfl, rfl⟩)
        go_ret3
        exact ⟨rfl, rfl⟩
    · have H2 := Lib.hid (fun W => cutNot (some ⟨b, off, none⟩) n cap C ((I : Int) + 1) C rfl W (by omega) (by omega) (by omega))
      rw [if_neg (fun h => by have := h.1; omega)] at HE
      rw [HE.out]
      clear HCV HT HSS
      go_enter Try.func122, Try.ntmps122
      go_wp2_with fail
      refine (H1.out _).mono ?_
      rintro e w1 ⟨o1, rfl, ho1, rfl⟩
      obtain rfl := ho1 (by omega)
      clear ho1
      go_wp2_with fail
      refine (H2.out _).mono ?_
      rintro e w2 ⟨rfl, rfl⟩
      go_wp2
      go_ret3
      exact ⟨rfl, rfl⟩
  · have HE : Hid (getS zs i = (⟨#[]⟩, 0, false)) := if_neg (fun h => h1 (by rw [← hz]; exact h.1))
    have H1 := Lib.hid (fun W => cutNot (some ⟨b, off, none⟩) n cap 1 i 1 rfl W (by omega) (by omega) h1)
    rw [HE.out]
    clear hz hby hc
    go_enter Try.func122, Try.ntmps122
    go_wp2_with (go_at_call 130; refine (H1.out _).mono ?_; rintro e w1 ⟨rfl, rfl⟩)
    go_ret3
    exact ⟨rfl, rfl⟩

end Go.Proofs.Ytoidpibdjijamaa

/- The contracts of impl's GetVal and DecPlain. -/
namespace Go.Proofs.Ytoidpibdjijamaa
open Go.RowKit

set_option maxHeartbeats 1000000 in
theorem iGetVal : CGetVal := by
  intro u n zs i ty w hn hz hby h
  have HG := Lib.hid (fun W hW => iGetNum u n zs i W (by omega) hz hby (h.below hW))
  have HT := Lib.hid (fun W hW => getText u n zs i W (by omega) hz hby (h.below hW))
  obtain ⟨b, off, cap, rfl, _, _, _, _⟩ := h
  have HZ := Lib.hid hz
  clear hz hby
  have Z0 := held_new w V.zero 37
  have bt := below_alloc w (.cells #[.int .i64 0, .int .i64 0, .string ⟨#[]⟩] 37)
  simp only [V.zero] at Z0
  obtain ⟨⟨p0, p1, p2⟩, p3, p4, p5⟩ := id Z0
  simp only at p0 p1 p2
  by_cases ht : ty = 1
  · subst ht
    have HE := Lib.hid (getV_int (zs := zs) (i := i))
    generalize Num.get zs i = r at HG HE
    obtain ⟨x, nx, ok⟩ := r
    unfold getRes at HG
    simp only at HG HE
    cases ok with
    | true =>
      rw [if_pos rfl] at HE
      rw [HE.out]
      go_enter Try.func92, Try.ntmps92
      go_wp2_with (first | (go_at_call 91; refine (HG.out _ bt).mono ?_; rintro e w' ⟨rfl, rfl⟩) | (go_at_call 87; refine (iIntVal _ _).mono ?_; rintro e w1 ⟨rfl, hb⟩; replace bt := below_then bt hb bt.size; obtain ⟨⟨q0, q1, q2⟩, q3, q4, q5⟩ := Z0.below hb; simp only at q0 q1 q2; clear p0 p1 p2 p3 p4 p5 hb Z0))
      exact bodyPost_ret (v := .tuple #[.agg #[.int .i64 1, .int .i64 x, .string ⟨#[]⟩], .int .i64 nx, .bool true]) (by simp [results, Try.results92, go_sem, *]) rfl ⟨rfl, ((bt.setCell (by simp) _).setCell (by simp) _).setCell (by simp) _⟩
    | false =>
      rw [if_neg (by simp)] at HE
      rw [HE.out]
      go_enter Try.func92, Try.ntmps92
      go_wp2_with (go_at_call 91; refine (HG.out _ bt).mono ?_; rintro e w' ⟨rfl, rfl⟩)
      exact bodyPost_ret (v := .tuple #[.agg #[.int .i64 0, .int .i64 0, .string ⟨#[]⟩], .int .i64 0, .bool false]) (by simp [results, Try.results92, go_sem, *]) rfl ⟨rfl, bt⟩
  by_cases h2 : ty = 2
  · subst h2
    have HE := Lib.hid (getV_text (zs := zs) (i := i))
    generalize getS zs i = r at HT HE
    obtain ⟨x, nx, ok⟩ := r
    simp only at HT HE
    cases ok with
    | true =>
      rw [if_pos rfl] at HE
      rw [HE.out]
      go_enter Try.func92, Try.ntmps92
      go_wp2_with (first | (go_at_call 122; refine (HT.out _ bt).mono ?_; rintro e w' ⟨rfl, rfl⟩) | (go_at_call 89; refine (iTextVal _ _).mono ?_; rintro e w1 ⟨rfl, hb⟩; replace bt := below_then bt hb bt.size; obtain ⟨⟨q0, q1, q2⟩, q3, q4, q5⟩ := Z0.below hb; simp only at q0 q1 q2; clear p0 p1 p2 p3 p4 p5 hb Z0))
      exact bodyPost_ret (v := .tuple #[.agg #[.int .i64 2, .int .i64 0, .string x], .int .i64 nx, .bool true]) (by simp [results, Try.results92, go_sem, *]) rfl ⟨rfl, ((bt.setCell (by simp) _).setCell (by simp) _).setCell (by simp) _⟩
    | false =>
      rw [if_neg (by simp)] at HE
      rw [HE.out]
      go_enter Try.func92, Try.ntmps92
      go_wp2_with (go_at_call 122; refine (HT.out _ bt).mono ?_; rintro e w' ⟨rfl, rfl⟩)
      exact bodyPost_ret (v := .tuple #[.agg #[.int .i64 0, .int .i64 0, .string ⟨#[]⟩], .int .i64 0, .bool false]) (by simp [results, Try.results92, go_sem, *]) rfl ⟨rfl, bt⟩
  · have HE := Lib.hid (getV_none (zs := zs) (i := i) ht h2)
    have h1b : (ty == 1) = false := by simpa using ht
    have h2b : (ty == 2) = false := by simpa using h2
    rw [HE.out]
    go_enter Try.func92, Try.ntmps92
    go_wp2
    exact bodyPost_ret (v := .tuple #[.agg #[.int .i64 0, .int .i64 0, .string ⟨#[]⟩], .int .i64 0, .bool false]) (by simp [results, Try.results92, go_sem, *]) rfl ⟨rfl, bt⟩

/-- A list that is filled from its start on. -/
def fillV (pre : List V) (K : Nat) : List V := pre ++ List.replicate (K - pre.length) V.zero
theorem fillV_len {pre : List V} {K : Nat} (h : pre.length ≤ K) : (fillV pre K).length = K := by
  simp [fillV]
  omega
theorem fillV_set {pre : List V} {K : Nat} (x : V) (h : pre.length < K) : (fillV pre K).set pre.length x = fillV (pre ++ [x]) K := by
  unfold fillV
  rw [List.set_append_right _ _ (Nat.le_refl _), Nat.sub_self, show K - pre.length = (K - (pre ++ [x]).length) + 1 by simp; omega, List.replicate_succ, List.set_cons_zero]
  simp
theorem fillV_all {pre : List V} {K : Nat} (h : pre.length = K) : fillV pre K = pre := by simp [fillV, h]

end Go.Proofs.Ytoidpibdjijamaa

/- The contracts of impl's InDict (with slices.Index) and Picked. -/
namespace Go.Proofs.Ytoidpibdjijamaa
open Go.RowKit

theorem eqB_comm (x y : V) : x.eqB y = y.eqB x := by
  cases h : y.eqB x with
  | true => exact eqB_true.2 (eqB_true.1 h).symm
  | false => exact eqB_false.2 (fun e => eqB_false.1 h e.symm)

set_option maxHeartbeats 1000000 in
theorem iIndex (u : Value) (d : List V) (x : V) (w : World) (h : Rd 3 w u d.length (vals d)) :
    Calls Try.prog 65 #[u, x.agg] w fun e w' => e = .returned (.int .i64 (inI d x)) ∧ Below w.heap.size w w' := by
  generalize hl : d.length = n at h
  obtain ⟨a, cap, rfl, hm, HC⟩ := h.vals hl
  unfold maxLen at hm
  have HL := Lib.hid hl
  have HE : Hid (∀ i, i < n → (d.getD i V.zero).eqB x = true → (∀ j, j < i → (d.getD j V.zero).eqB x = false) → inI d x = i) := fun i hi h1 h2 => inI_some (inD_first (by omega) h1 h2)
  have HN : Hid ((∀ j, j < n → (d.getD j V.zero).eqB x = false) → inI d x = -1) := fun h1 => inI_none (inD_none.2 (fun j hj => h1 j (by omega)))
  have hx0 := held_new w x 37
  have hb0 := below_alloc w (.cells #[.int .i64 x.ty, .int .i64 x.n, .string x.s] 37)
  generalize inI d x = r at HE HN
  obtain ⟨xt, xn, xs⟩ := x
  clear h hl
  go_enter Try.func65, Try.ntmps65
  go_wp2
  generalize hW : w.alloc (.cells #[.int .i64 xt, .int .i64 xn, .string xs] 37) = W at hx0 hb0 ⊢
  have HW := Lib.hid hW
  clear hW
  go_loopw [8] (fun i wr => ∃ k : Nat, k ≤ n ∧ i = .int .i64 k ∧ (∀ j, j < k → (d.getD j V.zero).eqB ⟨xt, xn, xs⟩ = false) ∧ Below W.heap.size W wr) (fun i _ => n - (intOf i).toNat)
  case atStart => exact ⟨0, Nat.zero_le _, rfl, fun j hj => by omega, Below.refl _ _⟩
  case round =>
    obtain ⟨k, hk, rfl, hno, hbr⟩ := hrel
    have HNO := Lib.hid hno
    clear hno
    by_cases hlt : k < n
    · obtain ⟨b, off, rfl, p0, p1, p2⟩ := HC.out k hlt
      have hbr2 := hb0.trans (hbr.mono hb0.size)
      replace p0 := (hbr2.cell (p := ⟨b, off + k * 3, none⟩) (lt_of_cell p0)).trans p0
      replace p1 := (hbr2.cell (p := ⟨b, off + k * 3 + 1, none⟩) (lt_of_cell p1)).trans p1
      replace p2 := (hbr2.cell (p := ⟨b, off + k * 3 + 2, none⟩) (lt_of_cell p2)).trans p2
      obtain ⟨⟨q0, q1, q2⟩, _⟩ := hx0.below hbr
      have HEK := Lib.hid (HE.out k hlt)
      have HNK : Hid ((d.getD k V.zero).eqB ⟨xt, xn, xs⟩ = false → ∀ j, j < k + 1 → (d.getD j V.zero).eqB ⟨xt, xn, xs⟩ = false) := fun h1 j hj => by
        by_cases e : j = k
        · subst e; exact h1
        · exact HNO.out j (by omega)
      have hq := fun W => run_eql_val ⟨xt, xn, xs⟩ (d.getD k V.zero) W
      rw [eqB_comm] at hq
      generalize d.getD k V.zero = y at p0 p1 p2 HEK HNK hq
      cases he : y.eqB ⟨xt, xn, xs⟩ with
      | true =>
        have HR := Lib.hid (HEK.out he HNO.out)
        rw [he] at hq
        obtain ⟨t1, n1, s1⟩ := y
        have HB := Lib.hid hbr2
        clear he HEK HNK hx0 hb0 hbr hbr2
        simp only at q0 q1 q2
        go_wp2
        go_quiet (fail)
        go_wp2
        go_ret
        exact ⟨ret_int HR.out.symm, HB.out.trans (below_drewN _ _ _)⟩
      | false =>
        have HS := Lib.hid (HNK.out he)
        rw [he] at hq
        obtain ⟨t1, n1, s1⟩ := y
        clear he HEK HNK hx0 hb0
        simp only at q0 q1 q2
        go_wp2
        go_quiet (fail)
        go_wp2
        go_roundw
        case rel => exact ⟨k + 1, by omega, by go_num, HS.out, hbr.trans (below_drewN _ _ _)⟩
        case measure => simp [intOf]; omega
    · obtain rfl : k = n := by omega
      have HR := Lib.hid (HN.out HNO.out)
      have hbr2 := hb0.trans (hbr.mono hb0.size)
      go_wp2
      go_ret
      exact ⟨ret_int HR.out.symm, hbr2⟩


theorem iInDict : CInDict := by
  intro u d x w hn h
  have hx0 := held_new w x 37
  have hb0 := below_alloc w (.cells #[.int .i64 x.ty, .int .i64 x.n, .string x.s] 37)
  have HI := Lib.hid (iIndex u d x _ (h.below hb0))
  generalize inI d x = r at HI
  obtain ⟨xt, xn, xs⟩ := x
  go_enter Try.func31, Try.ntmps31
  go_wp2_with fail
  refine HI.out.mono ?_
  rintro e w2 ⟨rfl, hb2⟩
  have B2 := below_then hb0 hb2 hb0.size
  go_wp2
  go_ret
  exact ⟨rfl, B2⟩

set_option maxHeartbeats 2000000 in
theorem iPicked : CPicked := by
  intro u v d l w hdn hn hd h
  generalize hdl : d.length = m at hd hdn
  obtain ⟨da, dcap, rfl, hdm, HDC⟩ := hd.vals hdl
  generalize hl : l.length = K at h hn
  obtain ⟨a, cap, rfl, hm, HC⟩ := h.ints hl
  unfold maxLen at hm hdm
  have HL := Lib.hid hl
  have HPB : Hid (∀ x : Int, 0 ≤ x → x < m → pickB d x = true) := fun x h0 h1 => decide_eq_true ⟨h0, by omega⟩
  have HPN : Hid (∀ x : Int, (x < 0 ∨ (m : Int) ≤ x) → pickB d x = false) := fun x h1 => decide_eq_false (fun h2 => by omega)
  have HNO : Hid (∀ k, k < K → pickB d (l.getD k 0) = false → pickedL d l = ([], false)) := fun k hk h1 => picked_no (by omega) h1
  have HYES : Hid ((∀ k, k < K → pickB d (l.getD k 0) = true) → pickedL d l = (l.map (fun x => d.getD x.toNat V.zero), true)) := fun h1 => picked_yes (fun k hk => h1 k (by omega))
  have HS : Hid (∀ k, k < K → pkK d l (k + 1) = pkK d l k ++ [d.getD (l.getD k 0).toNat V.zero]) := fun k hk => by
    unfold pkK
    exact map_snoc _ _ 0 _ (by omega)
  have HKL : Hid (∀ k, k ≤ K → (pkK d l k).length = k) := fun k hk => by simp [pkK]; omega
  have HPK0 : Hid (pkK d l 0 = []) := by show _ = _; simp [pkK]
  have HPKE : Hid (pkK d l K = l.map (fun x => d.getD x.toNat V.zero)) := by show _ = _; unfold pkK; rw [← hl, List.take_length]
  generalize pickedL d l = R at HNO HYES
  clear h hl hd hdl
  go_enter Try.func15, Try.ntmps15
  go_wp2_with (at_make; refine make_law Try.elemVals rfl _ _ rfl .i64 .i64 _ _ K rfl rfl rfl rfl (by omega) (by unfold maxLen; omega) ?_)
  intro w1 hown1 hb1
  have hown0 : Own 37 3 w.heap.size w1.heap.size w1 (.slice (some ⟨w.heap.size, 0, none⟩) K K) K (vals (fillV (pkK d l 0) K)) := by
    have e : vals (fillV (pkK d l 0) K) = (madeCells V.zero.cs.toArray (K * 3)).toList := by
      rw [made_flat V.cs V.zero 3 K (by omega) (fun _ => rfl), HPK0.out]
      simp [fillV, vals]
    rw [e]
    exact hown1
  clear hown1
  go_wp2
  go_loopw [14] (fun i wr => ∃ j : Nat, j ≤ K ∧ i = .int .i64 j ∧ (∀ i, i < j → pickB d (l.getD i 0) = true) ∧ wr.ownsRow w.heap.size 37 3 (.slice (some ⟨w.heap.size, 0, none⟩) K K) K (vals (fillV (pkK d l j) K)) ∧ Below w.heap.size w wr) (fun i _ => K - (intOf i).toNat)
  case atStart => exact ⟨0, Nat.zero_le _, rfl, fun i hi => by omega, hown0.row, hb1⟩
  case round =>
    obtain ⟨j, hj, rfl, hno, hown, hbr⟩ := hrel
    have HK := Lib.hid hno
    clear hown0 hb1 hno
    by_cases hlt : j < K
    · obtain ⟨b, off, rfl, p0⟩ := HC.out j hlt
      replace p0 := (hbr.cell (p := ⟨b, off + j, none⟩) (lt_of_cell p0)).trans p0
      have HSJ := Lib.hid (HS.out j hlt)
      have HKJ := Lib.hid (HKL.out j hj)
      have HSET := Lib.hid (fun x => fillV_set (pre := pkK d l j) (K := K) x (by rw [HKJ.out]; exact hlt))
      rw [HKJ.out] at HSET
      have HFL := Lib.hid (fillV_len (pre := pkK d l j) (K := K) (by rw [HKJ.out]; exact hj))
      have HNK := Lib.hid (HNO.out j hlt)
      have HKK : Hid (pickB d (l.getD j 0) = true → ∀ i, i < j + 1 → pickB d (l.getD i 0) = true) := fun h1 i hi => by
        by_cases e : i = j
        · subst e; exact h1
        · exact HK.out i (by omega)
      have HPZ := Lib.hid (HPB.out (l.getD j 0))
      have HPM := Lib.hid (HPN.out (l.getD j 0))
      generalize l.getD j 0 = z at p0 HSJ HNK HKK HPZ HPM
      by_cases hz : z < 0 ∨ (m : Int) ≤ z
      · have HR := Lib.hid (HNK.out (HPM.out hz))
        have OL := own_lit (e := 37) (size := 3) wr #[] 0 (Nat.zero_le _) rfl
        have BL := hbr.alloc hbr.size (.cells #[] 37)
        have hzz := hbr.size
        clear hown
        by_cases hz0 : z < 0
        · go_wp2
          go_ret2
          rw [HR.out]
          exact ⟨_, rfl, OL.lower hzz, BL⟩
        · have hz1 : (m : Int) ≤ z := by omega
          clear hz
          go_wp2
          go_ret2
          rw [HR.out]
          exact ⟨_, rfl, OL.lower hzz, BL⟩
      · have HK2 := Lib.hid (HKK.out (HPZ.out (by omega) (by omega)))
        obtain ⟨A, rfl⟩ := Int.eq_ofNat_of_zero_le (show 0 ≤ z by omega)
        have hAm : A < m := by omega
        obtain ⟨db, doff, rfl, d0, d1, d2⟩ := HDC.out A hAm
        replace d0 := (hbr.cell (p := ⟨db, doff + A * 3, none⟩) (lt_of_cell d0)).trans d0
        replace d1 := (hbr.cell (p := ⟨db, doff + A * 3 + 1, none⟩) (lt_of_cell d1)).trans d1
        replace d2 := (hbr.cell (p := ⟨db, doff + A * 3 + 2, none⟩) (lt_of_cell d2)).trans d2
        rw [Int.toNat_natCast] at HSJ
        generalize d.getD A V.zero = y at d0 d1 d2 HSJ
        obtain ⟨t1, n1, s1⟩ := y
        simp only at d0 d1 d2
        have R := Lib.hid (stored3 hown j ⟨t1, n1, s1⟩ (by rw [HFL.out]; exact hlt))
        rw [HSET.out, ← HSJ.out] at R
        obtain ⟨x0, s0⟩ := cellAt_some hown (j * 3) (by omega)
        obtain ⟨x1, s1'⟩ := cellAt_some hown (j * 3 + 1) (by omega)
        obtain ⟨x2, s2⟩ := cellAt_some hown (j * 3 + 2) (by omega)
        have f0 := hown.frozenAt (j * 3)
        have f1 := hown.frozenAt (j * 3 + 1)
        have f2 := hown.frozenAt (j * 3 + 2)
        have b3 := Lib.hid (((hbr.setCell (p := ⟨w.heap.size, j * 3, none⟩) (Nat.le_refl _) (.int .i64 t1)).setCell (p := ⟨w.heap.size, j * 3 + 1, none⟩) (Nat.le_refl _) (.int .i64 n1)).setCell (p := ⟨w.heap.size, j * 3 + 2, none⟩) (Nat.le_refl _) (.string s1))
        clear hown hbr hz
        go_wp2
        go_roundw
        case rel => exact ⟨j + 1, by omega, by go_num, HK2.out, R.out.1, b3.out⟩
        case measure => simp [intOf]; omega
    · obtain rfl : j = K := by omega
      have HR := Lib.hid (HYES.out HK.out)
      have OO := Lib.hid (own_of_row hown (Nat.le_refl _))
      have HKJ := Lib.hid (HKL.out j hj)
      clear hown
      go_wp2
      go_ret2
      rw [HR.out]
      refine ⟨_, rfl, ?_, hbr⟩
      have := OO.out
      rw [fillV_all HKJ.out, HPKE.out] at this
      show Own _ _ _ _ _ _ (l.map _).length _
      rw [List.length_map, HL.out]
      exact this

end Go.Proofs.Ytoidpibdjijamaa

/- The contract of bytes.Equal, as the program calls it. -/
namespace Go.Proofs.Ytoidpibdjijamaa
open Go.RowKit

theorem set_same {α : Type} {l : List α} {i : Nat} {x : α} (h : l[i]? = some x) : l.set i x = l := by
  apply List.ext_getElem?
  intro j
  rw [List.getElem?_set]
  split
  · rename_i e
    subst e
    rw [h]
    split
    · rfl
    · rename_i hl
      rw [List.getElem?_eq_none (by omega)] at h
      cases h
  · rfl
theorem bytesEqual (u v : Value) (n m : Nat) (xs ys : List Int) (w : World) (hxl : xs.length = n) (hyl : ys.length = m) (hx : Num.Bytes xs) (hy : Num.Bytes ys) (h1 : At 1 w u n (ints .u8 xs)) (h2 : At 1 w v m (ints .u8 ys)) :
    Calls Try.prog 62 #[u, v] w fun e w' => e = .returned (.bool (decide (xs = ys))) ∧ w = w' := by
  have k1 := conv_at hxl h1
  have k2 := conv_at hyl h2
  have HX : Hid (((strOfNums xs).toList == (strOfNums ys).toList) = decide (xs = ys)) := by
    show _ = _
    by_cases he : xs = ys
    · subst he
      simp
    · rw [bstr_ne (fun h => he (strOfNums_inj hx hy h)), decide_eq_false he]
  obtain ⟨b1, o1, c1, rfl, _, _, _, _⟩ := h1
  obtain ⟨b2, o2, c2, rfl, _, _, _, _⟩ := h2
  generalize strOfNums xs = s1 at k1 HX
  generalize strOfNums ys = s2 at k2 HX
  generalize decide (xs = ys) = q at HX
  clear hx hy hxl hyl
  go_enter Try.func62, Try.ntmps62
  go_wp2
  go_ret
  exact ⟨ret_bool HX.out, rfl⟩
theorem putNum_puts {zs : List Int} {x : Int} (h : Num.ok x) : Num.put zs x = Num.puts zs [x] := by
  rw [Num.puts_one, Num.put_ok h]

end Go.Proofs.Ytoidpibdjijamaa
