import Derived.Test.YtkmkhfgoihfkjaaDoorZLI
namespace Go.Proofs.YtkmkhfgoihfkjaaDoor
open Go.RowKit

/- A tag's steps. -/
theorem tag_mode (n t c' r : List UInt8) (c : UInt8) (e : Option (List UInt8 × Bool)) (m : Md) (hc : c ≠ 62) (hk : skipC c = false) (h : stepTag n (c :: t) = some (c', e, m, r)) : m = some (false, n) := by
  have htk : (c :: t).takeWhile skipC = [] := by rw [List.takeWhile_cons_of_neg (by rw [hk]; simp)]
  have hdk : (c :: t).dropWhile skipC = c :: t := by rw [List.dropWhile_cons_of_neg (by rw [hk]; simp)]
  unfold stepTag at h
  rw [htk, hdk] at h
  simp only [List.nil_append] at h
  rw [if_neg hc] at h
  by_cases h1 : t.dropWhile attrC = []
  · rw [if_pos h1] at h; cases h
  · rw [if_neg h1] at h
    by_cases h2 : ((t.dropWhile attrC).dropWhile gapC).head? = some 61
    · rw [if_pos h2, val_by] at h
      split at h
      · cases h
      · split at h
        · simp only [Option.some.injEq, Prod.mk.injEq] at h; exact h.2.2.1.symm
        · simp only [Option.some.injEq, Prod.mk.injEq] at h; exact h.2.2.1.symm
    · rw [if_neg h2] at h
      simp only [Option.some.injEq, Prod.mk.injEq] at h; exact h.2.2.1.symm
theorem tag_exit (n t : List UInt8) (its : List PItem) (tl : List UInt8) (hR : Run (some (false, n)) (62 :: t) its tl) :
    (skipNames.contains n = false → ∃ its' tl', Run none t its' tl' ∧ ∀ k, linksP k its = linksP (k + 1) its') ∧
    (skipNames.contains n = true → (findN (60 :: 47 :: n) (62 :: t) = none ∧ ∀ k, linksP k its = []) ∨ ∃ x y its' tl', findN (60 :: 47 :: n) (62 :: t) = some (x, y) ∧ Run none y its' tl' ∧ 62 :: t = x ++ y ∧ ∀ k, linksP k its = linksP (k + x.length) its') := by
  have hcl := tag_close n [] t (by simp)
  simp only [List.nil_append] at hcl
  cases hR with
  | stop _ _ h =>
    have h : stepTag n (62 :: t) = none := h
    rw [hcl] at h; cases h
  | go _ m' _ c r _ e its h hr =>
    have h : stepTag n (62 :: t) = some (c, e, m', r) := h
    rw [hcl] at h
    simp only [Option.some.injEq, Prod.mk.injEq] at h
    obtain ⟨rfl, rfl, rfl, rfl⟩ := h
    refine ⟨fun hn => ?_, fun hn => ?_⟩
    · rw [hn] at hr
      exact ⟨its, tl, hr, fun k => rfl⟩
    · rw [hn] at hr
      simp only [if_true] at hr
      rw [findN_gt]
      cases hr with
      | stop _ _ h =>
        have h : stepSkip n t = none := h
        unfold stepSkip at h
        rw [Option.map_eq_none_iff.1 h]
        exact .inl ⟨rfl, fun k => rfl⟩
      | go _ m2 _ c2 r2 _ e2 its2 h2 hr2 =>
        have h2 : stepSkip n t = some (c2, e2, m2, r2) := h2
        unfold stepSkip at h2
        obtain ⟨q, hq, he⟩ := Option.map_eq_some_iff.1 h2
        simp only [Prod.mk.injEq] at he
        obtain ⟨rfl, rfl, rfl, rfl⟩ := he
        rw [hq]
        refine .inr ⟨62 :: q.1, q.2, its2, tl, rfl, hr2, ?_, fun k => ?_⟩
        · rw [List.cons_append, ← (findN_some _ _ q.1 q.2 hq).1]
        · show linksP (k + 1 + q.1.length) its2 = _
          rw [List.length_cons, Nat.add_assoc k, Nat.add_comm 1]
theorem lk2_len (ls : List Lk) (k : Nat) (its : List PItem) (ALL : List (Nat × Nat × List UInt8)) (h : ls.map lk2 ++ linksP k its = ALL) (hA : ALL.length ≤ 100000000) : ls.length ≤ 100000000 := by
  have := congrArg List.length h
  rw [List.length_append, List.length_map] at this
  omega
def AttrNext (pg sm : ByteArray) (b k : Nat) (w : World) (n : List UInt8) (ALL : List (Nat × Nat × List UInt8)) (e : Ending) (w' : World) : Prop :=
  e = .returned (.tuple #[]) ∧ ∃ k1 L' ls' its' tl', PR w' b pg sm k1 L' ∧ OwnL w' (b + 1) L' ls' ∧ k < k1 ∧ k1 ≤ pg.size ∧ Run (some (false, n)) (pg.data.toList.drop k1) its' tl' ∧ ls'.map lk2 ++ linksP k1 its' = ALL ∧ Below b w w'
/-- An attribute: what is left is gone through as it was to be. -/
theorem attr_next (b k : Nat) (pg sm : ByteArray) (L : Value) (w : World) (h : PR w b pg sm k L) (hG : PGB w b) (hl : pg.size ≤ 100000000) (hsm : sm.data.toList = smallS pg.data.toList) (n t : List UInt8) (c : UInt8) (hd : pg.data.toList.drop k = c :: t) (hc : c ≠ 62) (hk : skipC c = false) (ls : List Lk) (hO : OwnL w (b + 1) L ls) (its : List PItem) (tl : List UInt8) (hR : Run (some (false, n)) (pg.data.toList.drop k) its tl) (ALL : List (Nat × Nat × List UInt8)) (hA : ls.map lk2 ++ linksP k its = ALL) (hAl : ALL.length ≤ 100000000) :
    Calls Tryd.prog 26 #[.pointer (some ⟨b, 0, none⟩)] w (AttrNext pg sm b k w n ALL) := by
  have hll := lk2_len ls k its ALL hA hAl
  have hkl : k < pg.size := by
    have e := congrArg List.length hd
    rw [List.length_drop, size_list, List.length_cons] at e
    omega
  refine (attr_any b k pg sm L w h hG hl hsm n t c hd hc hk ls hO (by omega)).mono ?_
  rw [hd] at hR
  intro e w' hp
  cases hR with
  | stop _ _ h0 =>
    have h0 : stepTag n (c :: t) = none := h0
    rw [h0] at hp
    obtain ⟨rfl, L', hP, hO', hb⟩ := hp
    refine ⟨rfl, pg.size, L', ls, [], [], hP, hO', hkl, Nat.le_refl _, ?_, hA, hb⟩
    rw [List.drop_of_length_le (by rw [size_list]; exact Nat.le_refl _)]
    exact run_nil _
  | go _ m' _ c' r _ e' its' h0 hr =>
    have h0 : stepTag n (c :: t) = some (c', e', m', r) := h0
    have hm := tag_mode n t c' r c e' m' hc hk h0
    subst hm
    rw [h0] at hp
    match e' with
    | none =>
      obtain ⟨rfl, L', hP, hO', hdr, hle, hb⟩ := hp
      have hne := List.length_pos_iff.2 (tag_none n _ c' r r _ h0 rfl).2.1
      exact ⟨rfl, _, L', ls, its', tl, hP, hO', by omega, hle, by rw [hdr]; exact hr, hA, hb⟩
    | some (v, q) =>
      obtain ⟨rfl, L', V, hP, hO', hV, hdr, hle, hb⟩ := hp
      have hne := List.length_pos_iff.2 (tag_some n _ c' r v q _ h0).2.1
      refine ⟨rfl, _, L', _, its', tl, hP, hO', by omega, hle, by rw [hdr]; exact hr, ?_, hb⟩
      rw [← hA, List.map_append, List.append_assoc]
      congr 1
      show [(k + c'.length, v.length, V.data.toList)] ++ _ = _
      rw [hV]
      rfl

end Go.Proofs.YtkmkhfgoihfkjaaDoor
