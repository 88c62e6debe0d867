import Derived.Test.YtkmkhfgoihfkjaaDoorZLH
namespace Go.Proofs.YtkmkhfgoihfkjaaDoor
open Go.RowKit

/- The variables that the code reads lie below the reader's block. -/
structure PGB (w : World) (b : Nat) : Prop where
  gp : GP w b
  l0 : 2 < b
  l1 : 3 < b
  l2 : 1 < b
  l3 : 0 < b
theorem pbelow_cell {w w' : World} {b k i : Nat} {v : Value} (hg : Below b w w') (hk : k < b) (h : w.cell? ⟨k, i, none⟩ = some v) : w'.cell? ⟨k, i, none⟩ = some v := (hg.cell (p := ⟨k, i, none⟩) hk).trans h
theorem PGB.below {w w' : World} {b : Nat} (h : PGB w b) (hg : Below b w w') : PGB w' b := by
  obtain ⟨m, hm⟩ := h.gp.mx
  have W := h.gp.words
  have E := h.gp.leads
  have V := h.gp.verbs
  exact ⟨⟨⟨pbelow_cell hg h.l0 W.c0, pbelow_cell hg h.l0 W.c1, pbelow_cell hg h.l0 W.c2, pbelow_cell hg h.l0 W.c3, pbelow_cell hg h.l0 W.c4, pbelow_cell hg h.l0 W.c5, pbelow_cell hg h.l0 W.c6, pbelow_cell hg h.l0 W.c7, pbelow_cell hg h.l0 W.c8, pbelow_cell hg h.l0 W.c9⟩,
    ⟨pbelow_cell hg h.l1 E.c0, pbelow_cell hg h.l1 E.c1, pbelow_cell hg h.l1 E.c2⟩,
    ⟨pbelow_cell hg h.l2 V.c0, pbelow_cell hg h.l2 V.c1, pbelow_cell hg h.l2 V.c2, pbelow_cell hg h.l2 V.c3⟩,
    ⟨m, pbelow_cell hg h.l3 hm⟩, h.gp.n0, h.gp.n1, h.gp.n2, h.gp.n3⟩, h.l0, h.l1, h.l2, h.l3⟩

/- A value's step, by what stands there. -/
theorem val_by (n nm pre w : List UInt8) : stepVal n nm pre w = match valS w with
    | none => none
    | some (v, q) => if linkNames.contains nm then some (pre ++ w.take (qn q), some (v, q), some (false, n), w.drop (v.length + 2 * qn q)) else some (pre ++ w.take (v.length + 2 * qn q), none, some (false, n), w.drop (v.length + 2 * qn q)) := by
  unfold stepVal valS
  cases w with
  | nil => rfl
  | cons q t =>
    simp only
    by_cases h1 : q = 34 ∨ q = 39
    · rw [if_pos h1, if_pos h1, findL_while]
      by_cases h2 : t.dropWhile (· != q) = []
      · rw [if_pos h2, if_pos h2]; rfl
      · rw [if_neg h2, if_neg h2]
        obtain ⟨d, r, hd⟩ : ∃ d r, t.dropWhile (· != q) = d :: r := by
          cases hh : t.dropWhile (· != q) with
          | nil => exact absurd hh h2
          | cons d r => exact ⟨d, r, rfl⟩
        have hdq : d = q := by
          have := dropWhile_head (p := (· != q)) t
          rw [hd] at this
          simpa using this
        subst hdq
        have ht : t = t.takeWhile (· != d) ++ d :: r := by rw [← hd, List.takeWhile_append_dropWhile]
        have hq1 : qn true = 1 := rfl
        simp only [Option.map_some, hd, hq1]
        generalize t.takeWhile (· != d) = V at ht ⊢
        clear hd h2
        subst ht
        have e : d :: (V ++ d :: r) = (d :: V ++ [d]) ++ r := by simp
        have hdr : (d :: (V ++ d :: r)).drop (V.length + 2 * 1) = r := by rw [e]; exact List.drop_left' (by simp)
        have htk : (d :: (V ++ d :: r)).take (V.length + 2 * 1) = d :: V ++ [d] := by rw [e]; exact List.take_left' (by simp)
        rw [hdr, htk]
        by_cases h3 : linkNames.contains nm = true
        · rw [if_pos h3, if_pos h3]; rfl
        · rw [if_neg h3, if_neg h3]; simp
    · rw [if_neg h1, if_neg h1]
      by_cases h2 : (q :: t).dropWhile bareC = []
      · rw [if_pos h2, if_pos h2]
      · rw [if_neg h2, if_neg h2]
        have hq0 : qn false = 0 := rfl
        have hs := List.takeWhile_append_dropWhile (p := bareC) (l := q :: t)
        have hdr : (q :: t).drop (((q :: t).takeWhile bareC).length + 2 * 0) = (q :: t).dropWhile bareC := by
          conv => lhs; rw [← hs]
          exact List.drop_left' (by rw [hs]; omega)
        have htk : (q :: t).take (((q :: t).takeWhile bareC).length + 2 * 0) = (q :: t).takeWhile bareC := by
          conv => lhs; rw [← hs]
          exact List.take_left' (by rw [hs]; omega)
        simp only [hq0]
        rw [hdr, htk]
        by_cases h3 : linkNames.contains nm = true
        · rw [if_pos h3, if_pos h3]; simp
        · rw [if_neg h3, if_neg h3]

theorem val_len (l v : List UInt8) (q : Bool) (h : valS l = some (v, q)) : v.length + 2 * qn q ≤ l.length := by
  cases l with
  | nil => cases h
  | cons d y =>
    rw [valS] at h
    by_cases h1 : d = 34 ∨ d = 39
    · rw [if_pos h1] at h
      by_cases h2 : y.dropWhile (· != d) = []
      · rw [if_pos h2] at h; cases h
      · rw [if_neg h2] at h
        simp only [Option.some.injEq, Prod.mk.injEq] at h
        obtain ⟨rfl, rfl⟩ := h
        have e4 := while_lenP (p := (· != d)) y
        have e5 := List.length_pos_iff.2 h2
        have : qn true = 1 := rfl
        rw [List.length_cons]
        omega
    · rw [if_neg h1] at h
      by_cases h2 : (d :: y).dropWhile bareC = []
      · rw [if_pos h2] at h; cases h
      · rw [if_neg h2] at h
        simp only [Option.some.injEq, Prod.mk.injEq] at h
        obtain ⟨rfl, rfl⟩ := h
        have e4 := while_lenP (p := bareC) (d :: y)
        have : qn false = 0 := rfl
        omega

def AttrPost (pg sm : ByteArray) (b a : Nat) (w : World) (ls : List Lk) : Option Out → Ending → World → Prop
  | none, e, w' => e = .returned (.tuple #[]) ∧ ∃ L', PR w' b pg sm pg.size L' ∧ OwnL w' (b + 1) L' ls ∧ Below b w w'
  | some (c, none, _, r), e, w' => e = .returned (.tuple #[]) ∧ ∃ L', PR w' b pg sm (a + c.length) L' ∧ OwnL w' (b + 1) L' ls ∧ pg.data.toList.drop (a + c.length) = r ∧ a + c.length ≤ pg.size ∧ Below b w w'
  | some (c, some (v, q), _, r), e, w' => e = .returned (.tuple #[]) ∧ ∃ L' V, PR w' b pg sm (a + c.length + v.length + qn q) L' ∧ OwnL w' (b + 1) L' (ls ++ [(a + c.length, v.length, V)]) ∧ V.data.toList = unescS v ∧ pg.data.toList.drop (a + c.length + v.length + qn q) = r ∧ a + c.length + v.length + qn q ≤ pg.size ∧ Below b w w'

theorem drop_while {p : UInt8 → Bool} (l : List UInt8) : l.drop (l.takeWhile p).length = l.dropWhile p := by
  have e := List.takeWhile_append_dropWhile (p := p) (l := l)
  exact (congrArg (List.drop (l.takeWhile p).length) e.symm).trans List.drop_left
theorem drop_on (l : List UInt8) (a : Nat) (x r : List UInt8) (h : l.drop a = x ++ r) : l.drop (a + x.length) = r := by
  rw [← List.drop_drop, h, List.drop_left]
theorem small_at (pg sm : ByteArray) (hsm : sm.data.toList = smallS pg.data.toList) (a n : Nat) : (sm.data.toList.drop a).take n = smallS ((pg.data.toList.drop a).take n) := by
  rw [hsm]; unfold smallS; rw [List.map_take, List.map_drop]

theorem attr_any (b a : Nat) (pg sm : ByteArray) (L : Value) (w : World) (h : PR w b pg sm a L) (hG : PGB w b) (hl : pg.size ≤ 100000000) (hsm : sm.data.toList = smallS pg.data.toList) (n t : List UInt8) (c : UInt8) (hd : pg.data.toList.drop a = c :: t) (hc : c ≠ 62) (hk : skipC c = false) (ls : List Lk) (hO : OwnL w (b + 1) L ls) (hls : ls.length + 1 ≤ 1000000000) :
    Calls Tryd.prog 26 #[.pointer (some ⟨b, 0, none⟩)] w (AttrPost pg sm b a w ls (stepTag n (c :: t))) := by
  have hs : sm.size = pg.size := by rw [← size_list, hsm, ← size_list]; unfold smallS; simp
  have hbl := h.cells.2.2.2.2.2.2
  have hln : (pg.data.toList.drop a).length = pg.size - a := by rw [List.length_drop, size_list]
  have ha : a < pg.size := by rw [hd] at hln; simp at hln; omega
  have hd1 : pg.data.toList.drop (a + 1) = t := drop_on _ a [c] t hd
  have hu : (a + 1) + untilN attrA.data.toList sm.data.toList (a + 1) = a + 1 + (t.takeWhile attrC).length := by
    have := until_small attrL attrC attr_c pg.data.toList (a + 1)
    rw [hd1, ← hsm] at this
    exact congrArg (a + 1 + ·) this
  have hdu : pg.data.toList.drop (a + 1 + (t.takeWhile attrC).length) = t.dropWhile attrC := drop_on _ (a + 1) _ _ (by rw [hd1, List.takeWhile_append_dropWhile])
  obtain ⟨u, hu'⟩ : ∃ u, a + 1 + (t.takeWhile attrC).length = u := ⟨_, rfl⟩
  rw [hu'] at hu hdu
  have hg : u + runN blanksA.data.toList sm.data.toList u = u + ((t.dropWhile attrC).takeWhile gapC).length := by
    have := run_small blanksL gapC gap_c pg.data.toList u
    rw [hdu, ← hsm] at this
    exact congrArg (u + ·) this
  have hdg : pg.data.toList.drop (u + ((t.dropWhile attrC).takeWhile gapC).length) = (t.dropWhile attrC).dropWhile gapC := drop_on _ u _ _ (by rw [hdu, List.takeWhile_append_dropWhile])
  obtain ⟨g, hg'⟩ : ∃ g, u + ((t.dropWhile attrC).takeWhile gapC).length = g := ⟨_, rfl⟩
  rw [hg'] at hg hdg
  have hq := isAt_small isA sm _ is_c pg.data.toList hsm g
  rw [hdg] at hq
  have htk : (c :: t).takeWhile skipC = [] := by rw [List.takeWhile_cons_of_neg (by rw [hk]; simp)]
  have hdk : (c :: t).dropWhile skipC = c :: t := by rw [List.dropWhile_cons_of_neg (by rw [hk]; simp)]
  unfold stepTag
  rw [htk, hdk]
  simp only [List.nil_append]
  rw [if_neg hc]
  by_cases h1 : t.dropWhile attrC = []
  · rw [if_pos h1]
    have hq0 : isAtB isA sm g = false := by rw [hq, h1]; rfl
    have hgs : g = pg.size := by
      have e1 := congrArg List.length hdu
      have e2 : u ≤ pg.size := by have := while_lenP (p := attrC) t; rw [hd] at hln; simp at hln; omega
      rw [h1, List.length_drop, size_list] at e1
      rw [h1] at hg'
      simp at e1 hg'
      omega
    refine (attr_plain b a u g pg sm L w h hl hs ha hu hg hq0).mono ?_
    rintro e w' ⟨rfl, hP, hw⟩
    rw [hgs] at hP
    exact ⟨rfl, L, hP, hO.kept hw (Nat.lt_succ_self b), below_of_grown hw (Nat.le_of_lt hbl)⟩
  · rw [if_neg h1]
    have hgl : g ≤ pg.size := by
      have e1 := while_lenP (p := attrC) t
      have e2 := while_lenP (p := gapC) (t.dropWhile attrC)
      rw [hd] at hln; simp at hln; omega
    by_cases h2 : ((t.dropWhile attrC).dropWhile gapC).head? = some 61
    · rw [if_pos h2]
      have hq1 : isAtB isA sm g = true := by rw [hq, h2]; rfl
      obtain ⟨x, hx⟩ : ∃ x, (t.dropWhile attrC).dropWhile gapC = 61 :: x := by
        cases hh : (t.dropWhile attrC).dropWhile gapC with
        | nil => rw [hh] at h2; cases h2
        | cons d x => rw [hh] at h2; simp at h2; rw [h2]; exact ⟨x, rfl⟩
      rw [hx] at hdg ⊢
      have hgl2 : g < pg.size := by
        have e1 := congrArg List.length hdg
        rw [List.length_drop, size_list] at e1
        simp at e1; omega
      have hdg1 : pg.data.toList.drop (g + 1) = x := drop_on _ g [61] x hdg
      have hkk : (g + 1) + runN blanksA.data.toList sm.data.toList (g + 1) = g + 1 + (x.takeWhile gapC).length := by
        have := run_small blanksL gapC gap_c pg.data.toList (g + 1)
        rw [hdg1, ← hsm] at this
        exact congrArg (g + 1 + ·) this
      have hdk2 : pg.data.toList.drop (g + 1 + (x.takeWhile gapC).length) = x.dropWhile gapC := drop_on _ (g + 1) _ _ (by rw [hdg1, List.takeWhile_append_dropWhile])
      obtain ⟨k, hk'⟩ : ∃ k, g + 1 + (x.takeWhile gapC).length = k := ⟨_, rfl⟩
      rw [hk'] at hkk hdk2
      have hnm : (sm.data.toList.drop a).take (u - a) = smallS (c :: t.takeWhile attrC) := by
        rw [small_at pg sm hsm, hd, show u - a = (t.takeWhile attrC).length + 1 from by omega, List.take_succ_cons, take_while]
      simp only [List.drop_succ_cons, List.drop_zero]
      obtain ⟨pre, hpre⟩ : ∃ pre, c :: t.takeWhile attrC ++ (t.dropWhile attrC).takeWhile gapC ++ [61] ++ x.takeWhile gapC = pre := ⟨_, rfl⟩
      have hpl : a + pre.length = k := by rw [← hpre, ← hk', ← hg', ← hu']; simp; omega
      rw [hpre, val_by, ← hdk2]
      cases hv : valS (pg.data.toList.drop k) with
      | none =>
        refine (attr_none b a u g k pg sm L w h hG.gp hl hsm ha hu hg hq1 hgl2 hkk hv).mono ?_
        rintro e w' ⟨rfl, hP, hw⟩
        exact ⟨rfl, L, hP, hO.kept hw (Nat.lt_succ_self b), below_of_grown hw (Nat.le_of_lt hbl)⟩
      | some vq =>
        obtain ⟨v, q⟩ := vq
        simp only
        have hvl : v.length + 2 * qn q ≤ (pg.data.toList.drop k).length := val_len _ v q hv
        have hql : qn q ≤ v.length + 2 * qn q := by omega
        cases hn : linkNames.contains (smallS (c :: t.takeWhile attrC)) with
        | true =>
          simp only [if_true]
          refine (attr_link b a u g k pg sm L w h hG.gp hl hsm ha hu hg hq1 hgl2 hkk v q hv (by rw [hnm]; exact hn) ls hO hls).mono ?_
          rintro e w' ⟨rfl, L', V, hP, hO', hV, hle, hb⟩
          have hcl : (pre ++ (pg.data.toList.drop k).take (qn q)).length = pre.length + qn q := by rw [List.length_append, List.length_take]; omega
          refine ⟨rfl, L', V, ?_, ?_, hV, ?_, ?_, hb⟩
          · rw [hcl, show a + (pre.length + qn q) + v.length + qn q = k + v.length + 2 * qn q from by omega]; exact hP
          · rw [hcl, show a + (pre.length + qn q) = k + qn q from by omega]; exact hO'
          · rw [hcl, List.drop_drop]; congr 1; omega
          · rw [hcl]; omega
        | false =>
          rw [if_neg (by simp)]
          refine (attr_pass b a u g k pg sm L w h hG.gp hl hsm ha hu hg hq1 hgl2 hkk v q hv (by rw [hnm]; exact hn)).mono ?_
          rintro e w' ⟨rfl, hP, hle, hw⟩
          have hcl : (pre ++ (pg.data.toList.drop k).take (v.length + 2 * qn q)).length = pre.length + (v.length + 2 * qn q) := by rw [List.length_append, List.length_take]; omega
          refine ⟨rfl, L, ?_, hO.kept hw (Nat.lt_succ_self b), ?_, ?_, below_of_grown hw (Nat.le_of_lt hbl)⟩
          · rw [hcl, show a + (pre.length + (v.length + 2 * qn q)) = k + v.length + 2 * qn q from by omega]; exact hP
          · rw [hcl, List.drop_drop]; congr 1; omega
          · rw [hcl]; omega
    · rw [if_neg h2]
      have hq0 : isAtB isA sm g = false := by
        rw [hq]
        cases hh : ((t.dropWhile attrC).dropWhile gapC).head? with
        | none => rfl
        | some d =>
          rw [hh] at h2
          simp only [Option.any_some, beq_eq_false_iff_ne]
          exact fun e => h2 (by rw [e])
      refine (attr_plain b a u g pg sm L w h hl hs ha hu hg hq0).mono ?_
      rintro e w' ⟨rfl, hP, hw⟩
      have hcl : a + (c :: t.takeWhile attrC ++ (t.dropWhile attrC).takeWhile gapC).length = g := by rw [← hg', ← hu']; simp; omega
      refine ⟨rfl, L, ?_, hO.kept hw (Nat.lt_succ_self b), ?_, ?_, below_of_grown hw (Nat.le_of_lt hbl)⟩
      · rw [hcl]; exact hP
      · rw [hcl]; exact hdg
      · rw [hcl]; exact hgl

end Go.Proofs.YtkmkhfgoihfkjaaDoor
