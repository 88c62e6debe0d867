import Derived.Test.YtkmkhfgoihfkjaaDoorZG1
namespace Go.Proofs.YtkmkhfgoihfkjaaDoor
open Go.RowKit

/- A tag, by what it is made of. -/
theorem dropWhile_head {p : UInt8 → Bool} (l : List UInt8) : (l.dropWhile p).head?.all (fun c => !p c) = true := by
  cases hw : l.dropWhile p with
  | nil => rfl
  | cons a b =>
    have := List.head_dropWhile_not p (l := l) (by rw [hw]; simp)
    simp only [hw, List.head_cons] at this
    simp [this]
theorem gap_attr (c : UInt8) (h : gapC c = true) : attrC c = false := by unfold attrC; rw [h]; rfl
theorem gap_bare (c : UInt8) (h : gapC c = true) : bareC c = false := by unfold bareC; rw [h]; rfl
theorem gaps_head (g z : List UInt8) (hg : ∀ c ∈ g, gapC c = true) (hz : g = [] → z.head?.all (fun c => !attrC c) = true) : (g ++ z).head?.all (fun c => !attrC c) = true := by
  cases g with
  | nil => exact hz rfl
  | cons c g => simp [gap_attr c (hg c (by simp))]
theorem tag_close (n a t : List UInt8) (ha : ∀ c ∈ a, skipC c = true) : stepTag n (a ++ 62 :: t) = some (a ++ [62], none, if skipNames.contains n then some (true, n) else none, t) := by
  obtain ⟨i1, i2⟩ := takeWhile_app (p := skipC) a (62 :: t) ha (by simp; decide)
  unfold stepTag
  rw [i2, i1]
  simp
theorem tag_name (n a b g z : List UInt8) (c : UInt8) (ha : ∀ c ∈ a, skipC c = true) (hc : skipC c = false) (hc2 : c ≠ 62) (hb : ∀ c ∈ b, attrC c = true) (hg : ∀ c ∈ g, gapC c = true)
    (h1 : (g ++ z).head?.all (fun c => !attrC c) = true) (h2 : g ++ z ≠ []) (h3 : z.head?.all (fun c => !gapC c) = true) (h4 : z.head? ≠ some 61) : stepTag n (a ++ c :: (b ++ (g ++ z))) = some (a ++ c :: b ++ g, none, some (false, n), z) := by
  obtain ⟨i1, i2⟩ := takeWhile_app (p := skipC) a (c :: (b ++ (g ++ z))) ha (by simp [hc])
  obtain ⟨j1, j2⟩ := takeWhile_app (p := attrC) b (g ++ z) hb h1
  obtain ⟨k1, k2⟩ := takeWhile_app (p := gapC) g z hg h3
  unfold stepTag
  rw [i2, i1]
  simp only
  rw [if_neg hc2, j2, j1, if_neg h2, k2, k1, if_neg h4]
theorem tag_val (n a b g h w : List UInt8) (c : UInt8) (ha : ∀ c ∈ a, skipC c = true) (hc : skipC c = false) (hc2 : c ≠ 62) (hb : ∀ c ∈ b, attrC c = true) (hg : ∀ c ∈ g, gapC c = true) (hh : ∀ c ∈ h, gapC c = true)
    (hw : w.head?.all (fun c => !gapC c) = true) : stepTag n (a ++ c :: (b ++ (g ++ 61 :: (h ++ w)))) = stepVal n (smallS (c :: b)) (a ++ c :: b ++ g ++ [61] ++ h) w := by
  obtain ⟨i1, i2⟩ := takeWhile_app (p := skipC) a (c :: (b ++ (g ++ 61 :: (h ++ w)))) ha (by simp [hc])
  obtain ⟨j1, j2⟩ := takeWhile_app (p := attrC) b (g ++ 61 :: (h ++ w)) hb (gaps_head g _ hg fun _ => by simp; decide)
  obtain ⟨k1, k2⟩ := takeWhile_app (p := gapC) g (61 :: (h ++ w)) hg (by simp; decide)
  obtain ⟨l1, l2⟩ := takeWhile_app (p := gapC) h w hh hw
  unfold stepTag
  rw [i2, i1]
  simp only
  rw [if_neg hc2, j2, j1, if_neg (by simp), k2, k1, if_pos (show (61 :: (h ++ w)).head? = some 61 from rfl)]
  simp only [List.drop_succ_cons, List.drop_zero]
  rw [l1, l2]
/-- What a step in a tag goes over. -/
theorem tag_forms (n s : List UInt8) (o : Out) (h : stepTag n s = some o) :
    (∃ a t, s = a ++ 62 :: t ∧ (∀ c ∈ a, skipC c = true))
    ∨ (∃ a b g z, ∃ c : UInt8, s = a ++ c :: (b ++ (g ++ z)) ∧ (∀ c ∈ a, skipC c = true) ∧ skipC c = false ∧ c ≠ 62 ∧ (∀ c ∈ b, attrC c = true) ∧ (∀ c ∈ g, gapC c = true) ∧ (g ++ z).head?.all (fun c => !attrC c) = true ∧ g ++ z ≠ [] ∧ z.head?.all (fun c => !gapC c) = true ∧ z.head? ≠ some 61)
    ∨ (∃ a b g h w, ∃ c : UInt8, s = a ++ c :: (b ++ (g ++ 61 :: (h ++ w))) ∧ (∀ c ∈ a, skipC c = true) ∧ skipC c = false ∧ c ≠ 62 ∧ (∀ c ∈ b, attrC c = true) ∧ (∀ c ∈ g, gapC c = true) ∧ (∀ c ∈ h, gapC c = true) ∧ w.head?.all (fun c => !gapC c) = true) := by
  have hs := List.takeWhile_append_dropWhile (p := skipC) (l := s)
  have hd := dropWhile_head (p := skipC) s
  unfold stepTag at h
  cases hx : s.dropWhile skipC with
  | nil => rw [hx] at h; cases h
  | cons c t =>
    rw [hx] at h hs hd
    simp only at h
    have hc : skipC c = false := by simpa using hd
    by_cases h62 : c = 62
    · subst h62
      exact .inl ⟨_, t, hs.symm, takeWhile_all _⟩
    · rw [if_neg h62] at h
      have ht := List.takeWhile_append_dropWhile (p := attrC) (l := t)
      have htd := dropWhile_head (p := attrC) t
      have hz := List.takeWhile_append_dropWhile (p := gapC) (l := t.dropWhile attrC)
      have hzd := dropWhile_head (p := gapC) (t.dropWhile attrC)
      by_cases he : t.dropWhile attrC = []
      · rw [if_pos he] at h; cases h
      · by_cases hq : ((t.dropWhile attrC).dropWhile gapC).head? = some 61
        · obtain ⟨v, hv⟩ : ∃ v, (t.dropWhile attrC).dropWhile gapC = 61 :: v := by
            cases hy : (t.dropWhile attrC).dropWhile gapC with
            | nil => rw [hy] at hq; cases hq
            | cons x v => rw [hy] at hq; simp at hq; exact ⟨v, by rw [hq]⟩
          rw [hv] at hz
          refine .inr (.inr ⟨s.takeWhile skipC, t.takeWhile attrC, (t.dropWhile attrC).takeWhile gapC, v.takeWhile gapC, v.dropWhile gapC, c, ?_, takeWhile_all _, hc, h62, takeWhile_all _, takeWhile_all _, takeWhile_all _, dropWhile_head _⟩)
          rw [List.takeWhile_append_dropWhile, hz, ht, hs]
        · refine .inr (.inl ⟨s.takeWhile skipC, t.takeWhile attrC, (t.dropWhile attrC).takeWhile gapC, (t.dropWhile attrC).dropWhile gapC, c, ?_, takeWhile_all _, hc, h62, takeWhile_all _, takeWhile_all _, ?_, ?_, hzd, hq⟩)
          · rw [hz, ht, hs]
          · rw [hz]; exact htd
          · rw [hz]; exact he

/-- A value that is no link is passed, whatever stands behind. -/
theorem val_none (n nm pre w c r r' : List UInt8) (m : Md) (h : stepVal n nm pre w = some (c, none, m, r)) (ha : r'.head? = r.head?) :
    ∃ x, c = pre ++ x ∧ w = x ++ r ∧ stepVal n nm pre (x ++ r') = some (c, none, m, r') := by
  unfold stepVal at h
  cases w with
  | nil => cases h
  | cons q t =>
    simp only at h
    by_cases hq : q = 34 ∨ q = 39
    · rw [if_pos hq] at h
      obtain ⟨f, hf, he⟩ := Option.map_eq_some_iff.1 h
      have hf : findL [q] t = some (f.1, f.2) := hf
      by_cases hl : linkNames.contains nm = true
      · rw [if_pos hl] at he; simp at he
      · rw [if_neg hl] at he
        simp only [Prod.mk.injEq] at he
        obtain ⟨rfl, _, rfl, rfl⟩ := he
        obtain ⟨z, hz⟩ := findL_one q t f.1 f.2 hf
        have ht := (findL_some _ _ _ _ hf).1
        rw [hz] at ht hf ⊢
        rw [ht] at hf
        refine ⟨[q] ++ f.1 ++ [q], by simp, by rw [ht]; simp, ?_⟩
        have e : [q] ++ f.1 ++ [q] ++ r' = q :: (f.1 ++ q :: r') := by simp
        rw [e]
        unfold stepVal
        simp only
        rw [if_pos hq, findL_oneLocal q f.1 z r' hf]
        simp only [Option.map_some, List.drop_succ_cons, List.drop_zero]
        rw [if_neg hl]
    · rw [if_neg hq] at h
      by_cases he : (q :: t).dropWhile bareC = []
      · rw [if_pos he] at h; cases h
      · rw [if_neg he] at h
        by_cases hl : linkNames.contains nm = true
        · rw [if_pos hl] at h; simp at h
        · rw [if_neg hl] at h
          simp only [Option.some.injEq, Prod.mk.injEq] at h
          obtain ⟨rfl, _, rfl, rfl⟩ := h
          have hs := List.takeWhile_append_dropWhile (p := bareC) (l := q :: t)
          refine ⟨(q :: t).takeWhile bareC, rfl, hs.symm, ?_⟩
          obtain ⟨i1, i2⟩ := takeWhile_app (p := bareC) ((q :: t).takeWhile bareC) r' (takeWhile_all _) (by rw [ha]; exact dropWhile_head _)
          have hne : r' ≠ [] := by
            intro e; rw [e] at ha
            cases hx : (q :: t).dropWhile bareC with
            | nil => exact he hx
            | cons a b => rw [hx] at ha; cases ha
          have hhd : ((q :: t).takeWhile bareC ++ r').head? = some q := by
            have h1 : ((q :: t).takeWhile bareC ++ r').head? = ((q :: t).takeWhile bareC ++ (q :: t).dropWhile bareC).head? := by
              rw [List.head?_append, List.head?_append, ha]
            rw [h1, hs]; rfl
          obtain ⟨y, hy⟩ : ∃ y, (q :: t).takeWhile bareC ++ r' = q :: y := by
            cases hx : (q :: t).takeWhile bareC ++ r' with
            | nil => rw [hx] at hhd; cases hhd
            | cons a b => rw [hx] at hhd; simp at hhd; exact ⟨b, by rw [hhd]⟩
          rw [hy]
          unfold stepVal
          simp only
          rw [if_neg hq, ← hy, i2, i1, if_neg hne, if_neg hl]
theorem val_some (n nm pre w c r v : List UInt8) (k : Bool) (m : Md) (h : stepVal n nm pre w = some (c, some (v, k), m, r)) :
    linkNames.contains nm = true ∧ m = some (false, n) ∧ ((k = true ∧ ∃ q : UInt8, (q = 34 ∨ q = 39) ∧ c = pre ++ [q] ∧ w = q :: (v ++ q :: r)) ∨ (k = false ∧ c = pre ∧ w = v ++ r)) := by
  unfold stepVal at h
  cases w with
  | nil => cases h
  | cons q t =>
    simp only at h
    by_cases hq : q = 34 ∨ q = 39
    · rw [if_pos hq] at h
      obtain ⟨f, hf, he⟩ := Option.map_eq_some_iff.1 h
      have hf : findL [q] t = some (f.1, f.2) := hf
      by_cases hl : linkNames.contains nm = true
      · rw [if_pos hl] at he
        simp only [Prod.mk.injEq, Option.some.injEq] at he
        obtain ⟨rfl, ⟨rfl, rfl⟩, rfl, rfl⟩ := he
        obtain ⟨z, hz⟩ := findL_one q t f.1 f.2 hf
        have ht := (findL_some _ _ _ _ hf).1
        rw [hz] at ht ⊢
        exact ⟨hl, rfl, .inl ⟨rfl, q, hq, rfl, by rw [ht]; rfl⟩⟩
      · rw [if_neg hl] at he; simp at he
    · rw [if_neg hq] at h
      by_cases he : (q :: t).dropWhile bareC = []
      · rw [if_pos he] at h; cases h
      · rw [if_neg he] at h
        by_cases hl : linkNames.contains nm = true
        · rw [if_pos hl] at h
          simp only [Option.some.injEq, Prod.mk.injEq] at h
          obtain ⟨rfl, ⟨rfl, rfl⟩, rfl, rfl⟩ := h
          exact ⟨hl, rfl, .inr ⟨rfl, rfl, (List.takeWhile_append_dropWhile (p := bareC) (l := q :: t)).symm⟩⟩
        · rw [if_neg hl] at h; simp at h
theorem findL_fresh (q : UInt8) (x r : List UInt8) (hx : q ∉ x) : findL [q] (x ++ q :: r) = some (x, q :: r) := by
  induction x with
  | nil => show findL [q] (q :: r) = _; unfold findL; simp
  | cons c x ih =>
    have hc : (q == c) = false := by
      rw [beq_eq_false_iff_ne]; intro e; exact hx (by simp [e])
    show findL [q] (c :: (x ++ q :: r)) = _
    unfold findL
    simp only [List.isPrefixOf, hc, Bool.false_and]
    rw [ih (fun h => hx (by simp [h]))]
    rfl
theorem val_put (n nm pre x r : List UInt8) (q : UInt8) (hq : q = 34 ∨ q = 39) (hl : linkNames.contains nm = true) (hx : q ∉ x) : stepVal n nm pre (q :: (x ++ q :: r)) = some (pre ++ [q], some (x, true), some (false, n), r) := by
  unfold stepVal
  simp only
  rw [if_pos hq, findL_fresh q x r hx]
  simp only [Option.map_some, List.drop_succ_cons, List.drop_zero]
  rw [if_pos hl]

theorem tag_none (n s c r r' : List UInt8) (m : Md) (h : stepTag n s = some (c, none, m, r)) (ha : r'.head? = r.head?) : s = c ++ r ∧ c ≠ [] ∧ stepTag n (c ++ r') = some (c, none, m, r') := by
  rcases tag_forms n s _ h with ⟨a, t, rfl, h1⟩ | ⟨a, b, g, z, d, rfl, h1, h2, h3, h4, h5, h6, h7, h8, h9⟩ | ⟨a, b, g, k, w, d, rfl, h1, h2, h3, h4, h5, h6, h7⟩
  · rw [tag_close n a t h1] at h
    simp only [Option.some.injEq, Prod.mk.injEq, true_and] at h
    obtain ⟨rfl, rfl, rfl⟩ := h
    refine ⟨by simp, by simp, ?_⟩
    have e : a ++ [62] ++ r' = a ++ 62 :: r' := by simp
    rw [e]; exact tag_close n a r' h1
  · rw [tag_name n a b g z d h1 h2 h3 h4 h5 h6 h7 h8 h9] at h
    simp only [Option.some.injEq, Prod.mk.injEq, true_and] at h
    obtain ⟨rfl, rfl, rfl⟩ := h
    refine ⟨by simp, by simp, ?_⟩
    have e : a ++ d :: b ++ g ++ r' = a ++ d :: (b ++ (g ++ r')) := by simp
    have hh : (g ++ r').head? = (g ++ z).head? := by rw [List.head?_append, List.head?_append, ha]
    rw [e]
    refine tag_name n a b g r' d h1 h2 h3 h4 h5 (by rw [hh]; exact h6) ?_ (by rw [ha]; exact h8) (by rw [ha]; exact h9)
    intro e0
    rw [e0] at hh
    cases hx : g ++ z with
    | nil => exact h7 hx
    | cons x y => rw [hx] at hh; cases hh
  · rw [tag_val n a b g k w d h1 h2 h3 h4 h5 h6 h7] at h
    obtain ⟨x, rfl, rfl, hv⟩ := val_none _ _ _ _ _ _ r' _ h ha
    refine ⟨by simp, by simp, ?_⟩
    have hh : (x ++ r').head? = (x ++ r).head? := by rw [List.head?_append, List.head?_append, ha]
    have e : a ++ d :: b ++ g ++ [61] ++ k ++ x ++ r' = a ++ d :: (b ++ (g ++ 61 :: (k ++ (x ++ r')))) := by simp
    rw [e, tag_val n a b g k (x ++ r') d h1 h2 h3 h4 h5 h6 (by rw [hh]; exact h7)]
    exact hv
/-- A link's value, and any other in its place. -/
theorem tag_some (n s c r v : List UInt8) (k : Bool) (m : Md) (h : stepTag n s = some (c, some (v, k), m, r)) : m = some (false, n) ∧ c ≠ [] ∧
    ((k = true ∧ ∃ q : UInt8, (q = 34 ∨ q = 39) ∧ c.getLast? = some q ∧ s = c ++ (v ++ q :: r) ∧ ∀ x r' : List UInt8, q ∉ x → stepTag n (c ++ (x ++ q :: r')) = some (c, some (x, true), m, r'))
    ∨ (k = false ∧ s = c ++ (v ++ r) ∧ ∀ x r' : List UInt8, 34 ∉ x → stepTag n (c ++ 34 :: (x ++ 34 :: r')) = some (c ++ [34], some (x, true), m, r'))) := by
  rcases tag_forms n s _ h with ⟨a, t, rfl, h1⟩ | ⟨a, b, g, z, d, rfl, h1, h2, h3, h4, h5, h6, h7, h8, h9⟩ | ⟨a, b, g, e, w, d, rfl, h1, h2, h3, h4, h5, h6, h7⟩
  · rw [tag_close n a t h1] at h
    simp at h
  · rw [tag_name n a b g z d h1 h2 h3 h4 h5 h6 h7 h8 h9] at h
    simp at h
  · rw [tag_val n a b g e w d h1 h2 h3 h4 h5 h6 h7] at h
    obtain ⟨hl, rfl, ⟨rfl, q, hq, rfl, rfl⟩ | ⟨rfl, rfl, rfl⟩⟩ := val_some _ _ _ _ _ _ _ _ _ h
    · refine ⟨rfl, by simp, .inl ⟨rfl, q, hq, by rw [List.getLast?_append]; rfl, by simp, fun x r' hx => ?_⟩⟩
      have e1 : a ++ d :: b ++ g ++ [61] ++ e ++ [q] ++ (x ++ q :: r') = a ++ d :: (b ++ (g ++ 61 :: (e ++ (q :: (x ++ q :: r'))))) := by simp
      rw [e1, tag_val n a b g e _ d h1 h2 h3 h4 h5 h6 (by rcases hq with rfl | rfl <;> simp <;> decide)]
      exact val_put _ _ _ _ _ _ hq hl hx
    · refine ⟨rfl, by simp, .inr ⟨rfl, by simp, fun x r' hx => ?_⟩⟩
      have e1 : a ++ d :: b ++ g ++ [61] ++ e ++ 34 :: (x ++ 34 :: r') = a ++ d :: (b ++ (g ++ 61 :: (e ++ (34 :: (x ++ 34 :: r'))))) := by simp
      rw [e1, tag_val n a b g e _ d h1 h2 h3 h4 h5 h6 (by simp; decide)]
      exact val_put _ _ _ _ _ _ (.inl rfl) hl hx

end Go.Proofs.YtkmkhfgoihfkjaaDoor
