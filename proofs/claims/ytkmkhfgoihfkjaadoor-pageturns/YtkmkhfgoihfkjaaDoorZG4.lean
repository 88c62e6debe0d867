import Derived.Test.YtkmkhfgoihfkjaaDoorZG3
namespace Go.Proofs.YtkmkhfgoihfkjaaDoor
open Go.RowKit

/- All steps of a page, and the page with other values. -/
abbrev PItem := List UInt8 × Option (List UInt8 × Bool)
inductive Run : Md → List UInt8 → List PItem → List UInt8 → Prop
  | stop (m : Md) (s : List UInt8) : stepG m s = none → Run m s [] s
  | go (m m' : Md) (s c r tl : List UInt8) (e : Option (List UInt8 × Bool)) (its : List PItem) : stepG m s = some (c, e, m', r) → Run m' r its tl → Run m s ((c, e) :: its) tl
/-- The page itself, by its steps. -/
def srcP : List PItem → List UInt8 → List UInt8
  | [], tl => tl
  | (c, none) :: its, tl => c ++ srcP its tl
  | (c, some (v, true)) :: its, tl => c ++ (v ++ c.getLast?.getD 0 :: srcP its tl)
  | (c, some (v, false)) :: its, tl => c ++ (v ++ srcP its tl)
/-- The page with other values. -/
def outP : List PItem → List (List UInt8) → List UInt8 → List UInt8
  | [], _, tl => tl
  | (c, none) :: its, vs, tl => c ++ outP its vs tl
  | (c, some (_, true)) :: its, vs, tl => c ++ (vs.headD [] ++ c.getLast?.getD 0 :: outP its vs.tail tl)
  | (c, some (_, false)) :: its, vs, tl => c ++ 34 :: (vs.headD [] ++ 34 :: outP its vs.tail tl)
/-- Its steps. -/
def turned : List PItem → List (List UInt8) → List PItem
  | [], _ => []
  | (c, none) :: its, vs => (c, none) :: turned its vs
  | (c, some (_, true)) :: its, vs => (c, some (vs.headD [], true)) :: turned its vs.tail
  | (c, some (_, false)) :: its, vs => (c ++ [34], some (vs.headD [], true)) :: turned its vs.tail
def GoodM (m : Md) : Prop := ∀ n, m = some (true, n) → skipNames.contains n = true

theorem step_good (m m' : Md) (s c r : List UInt8) (e : Option (List UInt8 × Bool)) (hg : GoodM m) (h : stepG m s = some (c, e, m', r)) : GoodM m' := by
  intro n hn
  subst hn
  match m with
  | none =>
    have h : stepTop s = some (c, e, some (true, n), r) := h
    unfold stepTop at h
    repeat' split at h
    all_goals first
      | (cases h; done)
      | (simp at h; done)
      | (obtain ⟨q, _, hq⟩ := Option.map_eq_some_iff.1 h; simp at hq)
  | some (true, n') =>
    have h : stepSkip n' s = some (c, e, some (true, n), r) := h
    unfold stepSkip at h
    obtain ⟨q, _, hq⟩ := Option.map_eq_some_iff.1 h
    simp at hq
  | some (false, n') =>
    have h : stepTag n' s = some (c, e, some (true, n), r) := h
    rcases tag_forms n' s _ h with ⟨a, t, rfl, h1⟩ | ⟨a, b, g, z, d, rfl, h1, h2, h3, h4, h5, h6, h7, h8, h9⟩ | ⟨a, b, g, k, w, d, rfl, h1, h2, h3, h4, h5, h6, h7⟩
    · rw [tag_close n' a t h1] at h
      simp only [Option.some.injEq, Prod.mk.injEq] at h
      have h3 := h.2.2.1
      split at h3
      · rename_i hc
        simp only [Option.some.injEq, Prod.mk.injEq, true_and] at h3
        rw [← h3]; exact hc
      · cases h3
    · rw [tag_name n' a b g z d h1 h2 h3 h4 h5 h6 h7 h8 h9] at h
      simp at h
    · rw [tag_val n' a b g k w d h1 h2 h3 h4 h5 h6 h7] at h
      cases e with
      | none =>
        unfold stepVal at h
        repeat' split at h
        all_goals first
          | (cases h; done)
          | (simp at h; done)
          | (obtain ⟨q, _, hq⟩ := Option.map_eq_some_iff.1 h; split at hq <;> simp at hq)
      | some v =>
        obtain ⟨_, hm, _⟩ := val_some _ _ _ _ _ _ v.1 v.2 _ h
        simp at hm

/-- A page with other values goes the same steps, and begins alike. -/
theorem run_turn (m : Md) (s : List UInt8) (its : List PItem) (tl : List UInt8) (hr : Run m s its tl) : ∀ vs : List (List UInt8), GoodM m → (∀ x ∈ vs, 34 ∉ x ∧ 39 ∉ x) → Run m (outP its vs tl) (turned its vs) tl ∧ Agree m s (outP its vs tl) ∧ s = srcP its tl := by
  induction hr with
  | stop m s h => intro vs _ _; exact ⟨Run.stop m s h, ⟨rfl, fun _ _ _ => rfl⟩, rfl⟩
  | go m m' s c r tl e its h hrun ih =>
    intro vs hg hv
    have hg' := step_good _ _ _ _ _ _ hg h
    have hvt : ∀ x ∈ vs.tail, 34 ∉ x ∧ 39 ∉ x := fun x hx => hv x (List.mem_of_mem_tail hx)
    have hvh : 34 ∉ vs.headD [] ∧ 39 ∉ vs.headD [] := by
      cases vs with
      | nil => simp
      | cons x vs => exact hv x (by simp)
    match m with
    | none =>
      obtain ⟨i1, i2, i3⟩ := ih vs hg' hv
      have h : stepTop s = some (c, e, m', r) := h
      obtain ⟨rfl, hs, hc, hl⟩ := top_local s c r (outP its vs tl) e m' h i2.1
      refine ⟨Run.go none m' _ c (outP its vs tl) tl none _ hl i1, ⟨?_, fun _ t ht => ?_⟩, by rw [hs, srcP, ← i3]⟩
      · rw [hs, outP]
        cases c with
        | nil => exact absurd rfl hc
        | cons a b => rfl
      · rw [ht] at h
        have := top_end t c r none m' h
        rw [hs, outP]
        exact takeWhile_in c _ _ this
    | some (true, n) =>
      obtain ⟨i1, i2, i3⟩ := ih vs hg' hv
      have h : stepSkip n s = some (c, e, m', r) := h
      have hm' : m' = none := by
        unfold stepSkip at h
        obtain ⟨q, _, hq⟩ := Option.map_eq_some_iff.1 h
        simp only [Prod.mk.injEq] at hq
        exact hq.2.2.1.symm
      subst hm'
      obtain ⟨rfl, _, hs, hl⟩ := skip_local n s c r (outP its vs tl) e none (hg n rfl) h i2
      refine ⟨Run.go (some (true, n)) none _ c (outP its vs tl) tl none _ hl i1, ⟨?_, fun hm => by cases hm⟩, by rw [hs, srcP, ← i3]⟩
      rw [hs, outP, List.head?_append, List.head?_append, i2.1]
    | some (false, n) =>
      have h : stepTag n s = some (c, e, m', r) := h
      match e with
      | none =>
        obtain ⟨i1, i2, i3⟩ := ih vs hg' hv
        obtain ⟨hs, hc, hl⟩ := tag_none n s c r (outP its vs tl) m' h i2.1
        refine ⟨Run.go (some (false, n)) m' _ c (outP its vs tl) tl none _ hl i1, ⟨?_, fun hm => by cases hm⟩, by rw [hs, srcP, ← i3]⟩
        rw [hs, outP]
        cases c with
        | nil => exact absurd rfl hc
        | cons a b => rfl
      | some (v, k) =>
        obtain ⟨i1, i2, i3⟩ := ih vs.tail hg' hvt
        obtain ⟨hm, hc, ⟨rfl, q, hq, hlast, hs, hl⟩ | ⟨rfl, hs, hl⟩⟩ := tag_some n s c r v k m' h
        · refine ⟨?_, ⟨?_, fun hm => by cases hm⟩, by rw [hs, srcP, ← i3, hlast]; rfl⟩
          · rw [outP, turned, hlast]
            exact Run.go (some (false, n)) m' _ c (outP its vs.tail tl) tl _ _ (hl _ _ (by rcases hq with rfl | rfl; exact hvh.1; exact hvh.2)) i1
          · rw [hs, outP]
            cases c with
            | nil => exact absurd rfl hc
            | cons a b => rfl
        · refine ⟨?_, ⟨?_, fun hm => by cases hm⟩, by rw [hs, srcP, ← i3]⟩
          · rw [outP, turned]
            exact Run.go (some (false, n)) m' _ (c ++ [34]) (outP its vs.tail tl) tl _ _ (hl _ _ hvh.1) i1
          · rw [hs, outP]
            cases c with
            | nil => exact absurd rfl hc
            | cons a b => rfl
/-- With the same values once more it is the same. -/
theorem out_turned : ∀ (its : List PItem) (vs : List (List UInt8)) (tl : List UInt8), outP (turned its vs) vs tl = outP its vs tl
  | [], _, _ => rfl
  | (c, none) :: its, vs, tl => by rw [turned, outP, outP, out_turned its vs tl]
  | (c, some (_, true)) :: its, vs, tl => by rw [turned, outP, outP, out_turned its vs.tail tl]
  | (c, some (_, false)) :: its, vs, tl => by
    rw [turned, outP, outP, out_turned its vs.tail tl, List.getLast?_append]
    simp
theorem run_det (m : Md) (s : List UInt8) (its : List PItem) (tl : List UInt8) (h : Run m s its tl) : ∀ its' tl', Run m s its' tl' → its' = its ∧ tl' = tl := by
  induction h with
  | stop m s h =>
    intro its' tl' h'
    cases h' with
    | stop _ _ _ => exact ⟨rfl, rfl⟩
    | go _ _ _ _ _ _ _ _ h2 _ => rw [h] at h2; cases h2
  | go m m' s c r tl e its h _ ih =>
    intro its' tl' h'
    cases h' with
    | stop _ _ h2 => rw [h] at h2; cases h2
    | go _ m2 _ c2 r2 _ e2 its2 h2 hr2 =>
      rw [h] at h2
      simp only [Option.some.injEq, Prod.mk.injEq] at h2
      obtain ⟨rfl, rfl, rfl, rfl⟩ := h2
      obtain ⟨j1, j2⟩ := ih _ _ hr2
      exact ⟨by rw [j1], j2⟩

end Go.Proofs.YtkmkhfgoihfkjaaDoor
