import Derived.Test.YtkmkhfgoihfkjaaDoorZG5
import Derived.Lib.IndexMore
namespace Go.Proofs.YtkmkhfgoihfkjaaDoor
open Go.RowKit

/- A page's steps, as the code goes them. -/
def preO (x : List UInt8) (o : Out) : Out := (x ++ o.1, o.2)
theorem dropWhile_idem {p : UInt8 → Bool} (s : List UInt8) : (s.dropWhile p).dropWhile p = s.dropWhile p ∧ (s.dropWhile p).takeWhile p = [] := by
  obtain ⟨h1, h2⟩ := takeWhile_app (p := p) [] (s.dropWhile p) (by simp) (dropWhile_head s)
  exact ⟨h2, h1⟩
theorem val_pre (n nm x pre t : List UInt8) : stepVal n nm (x ++ pre) t = (stepVal n nm pre t).map (preO x) := by
  unfold stepVal
  cases t with
  | nil => rfl
  | cons q t' =>
    simp only
    by_cases h1 : q = 34 ∨ q = 39
    · rw [if_pos h1, if_pos h1, Option.map_map]
      congr 1
      funext f
      simp only [Function.comp]
      split <;> simp [preO]
    · rw [if_neg h1, if_neg h1]
      by_cases h2 : (q :: t').dropWhile bareC = []
      · rw [if_pos h2, if_pos h2]; rfl
      · rw [if_neg h2, if_neg h2]
        by_cases h3 : linkNames.contains nm = true
        · rw [if_pos h3, if_pos h3]; simp [preO]
        · rw [if_neg h3, if_neg h3]; simp [preO]
theorem tag_skip (n s : List UInt8) : stepTag n s = (stepTag n (s.dropWhile skipC)).map (preO (s.takeWhile skipC)) := by
  obtain ⟨h1, h2⟩ := dropWhile_idem (p := skipC) s
  unfold stepTag
  rw [h1, h2]
  cases s.dropWhile skipC with
  | nil => rfl
  | cons c t =>
    simp only [List.nil_append]
    by_cases h3 : c = 62
    · rw [if_pos h3, if_pos h3]; simp [preO]
    · rw [if_neg h3, if_neg h3]
      by_cases h4 : t.dropWhile attrC = []
      · rw [if_pos h4, if_pos h4]; rfl
      · rw [if_neg h4, if_neg h4]
        by_cases h5 : ((t.dropWhile attrC).dropWhile gapC).head? = some 61
        · rw [if_pos h5, if_pos h5, ← val_pre]
          congr 1
          simp
        · rw [if_neg h5, if_neg h5]; simp [preO]
theorem links_pre (x c : List UInt8) (e : Option (List UInt8 × Bool)) (its : List PItem) (k : Nat) : linksP (k + x.length) ((c, e) :: its) = linksP k ((x ++ c, e) :: its) := by
  match e with
  | none => rw [linksP, linksP, List.length_append, Nat.add_assoc k]
  | some (v, b) => rw [linksP, linksP, List.length_append, Nat.add_assoc k]
/-- What is left out ahead of an attribute. -/
theorem run_skip (n s : List UInt8) (its : List PItem) (tl : List UInt8) (h : Run (some (false, n)) s its tl) : ∃ its' tl', Run (some (false, n)) (s.dropWhile skipC) its' tl' ∧ ∀ k, linksP (k + (s.takeWhile skipC).length) its' = linksP k its := by
  cases h with
  | stop _ _ h =>
    refine ⟨[], _, Run.stop _ _ ?_, fun k => rfl⟩
    have h : stepTag n s = none := h
    rw [tag_skip] at h
    exact Option.map_eq_none_iff.1 h
  | go _ m' _ c r _ e its h hr =>
    have h : stepTag n s = some (c, e, m', r) := h
    rw [tag_skip] at h
    obtain ⟨o, ho, he⟩ := Option.map_eq_some_iff.1 h
    obtain ⟨c1, e1, m1, r1⟩ := o
    simp only [preO, Prod.mk.injEq] at he
    obtain ⟨rfl, rfl, rfl, rfl⟩ := he
    exact ⟨_, _, Run.go _ _ _ c1 _ _ _ _ ho hr, fun k => links_pre _ _ _ _ _⟩
theorem findL_pre60 (d : UInt8) (u s : List UInt8) (h : d ∉ u) : findL [d] (u ++ s) = (findL [d] s).map fun q => (u ++ q.1, q.2) := by
  induction u with
  | nil => simp
  | cons c u ih =>
    have h1 : c ≠ d := fun e => h (by simp [e])
    have h2 : d ∉ u := fun e => h (by simp [e])
    show findL [d] (c :: (u ++ s)) = _
    conv => lhs; unfold findL
    have h3 : ([d] : List UInt8).isPrefixOf (c :: (u ++ s)) = false := by
      simp only [List.isPrefixOf, Bool.and_true, beq_eq_false_iff_ne]
      exact fun e => h1 e.symm
    rw [h3, ih h2, Option.map_map]
    rfl
theorem top_pre (u s : List UInt8) (h : 60 ∉ u) : stepTop (u ++ s) = (stepTop s).map (preO u) := by
  unfold stepTop
  rw [findL_pre60 60 u s h]
  cases findL [60] s with
  | none => rfl
  | some q =>
    obtain ⟨q1, q2⟩ := q
    simp only [Option.map_some]
    cases q2.drop 1 with
    | nil => rfl
    | cons c r =>
      simp only
      by_cases h1 : [33, 45, 45].isPrefixOf (c :: r) = true
      · rw [if_pos h1, if_pos h1, Option.map_map]
        congr 1
        funext f
        simp [preO]
      · rw [if_neg h1, if_neg h1]
        by_cases h2 : c = 47 ∨ c = 33 ∨ c = 63
        · rw [if_pos h2, if_pos h2, Option.map_map]
          congr 1
          funext f
          simp [preO]
        · rw [if_neg h2, if_neg h2]
          by_cases h3 : alphC c = true
          · rw [if_pos h3, if_pos h3]; simp [preO]
          · rw [if_neg h3, if_neg h3]; simp [preO]
/-- What stands ahead of a <. -/
theorem run_pre (u s : List UInt8) (hu : 60 ∉ u) (its : List PItem) (tl : List UInt8) (h : Run none (u ++ s) its tl) : ∃ its' tl', Run none s its' tl' ∧ ∀ k, linksP (k + u.length) its' = linksP k its := by
  cases h with
  | stop _ _ h =>
    refine ⟨[], _, Run.stop _ _ ?_, fun k => rfl⟩
    have h : stepTop (u ++ s) = none := h
    rw [top_pre u s hu] at h
    exact Option.map_eq_none_iff.1 h
  | go _ m' _ c r _ e its h hr =>
    have h : stepTop (u ++ s) = some (c, e, m', r) := h
    rw [top_pre u s hu] at h
    obtain ⟨o, ho, he⟩ := Option.map_eq_some_iff.1 h
    obtain ⟨c1, e1, m1, r1⟩ := o
    simp only [preO, Prod.mk.injEq] at he
    obtain ⟨rfl, rfl, rfl, rfl⟩ := he
    exact ⟨_, _, Run.go _ _ _ c1 _ _ _ _ ho hr, fun k => links_pre _ _ _ _ _⟩
theorem run_none (s : List UInt8) (h : 60 ∉ s) (its : List PItem) (tl : List UInt8) (hr : Run none s its tl) : its = [] := by
  cases hr with
  | stop _ _ h => rfl
  | go _ m' _ c r _ e its h2 _ =>
    have h2 : stepTop s = some (c, e, m', r) := h2
    have := top_pre s [] h
    rw [List.append_nil] at this
    rw [this] at h2
    cases h2
theorem run_nil (m : Md) : Run m [] [] [] := Run.stop m [] (by
  match m with
  | none => rfl
  | some (true, n) => rfl
  | some (false, n) => rfl)

/- Where a text stands, in small letters. -/
theorem index_findN (sub l : List UInt8) (h0 : sub ≠ []) : Lib.index (smallS l) sub = match findN sub l with | none => -1 | some q => (q.1.length : Int) := by
  induction l with
  | nil =>
    show Lib.index [] sub = -1
    unfold Lib.index
    cases sub with
    | nil => exact absurd rfl h0
    | cons a b => rfl
  | cons c l ih =>
    have e : smallS (c :: l) = smallC c :: smallS l := rfl
    unfold findN
    rw [e]
    unfold Lib.index
    by_cases h : sub.isPrefixOf (smallC c :: smallS l) = true
    · rw [if_pos h, if_pos h]; rfl
    · rw [if_neg h, if_neg h, ih]
      cases findN sub l with
      | none => rfl
      | some q =>
        simp only [Option.map_some, List.length_cons]
        have h1 : ((q.1.length : Int) == -1) = false := by simp
        rw [h1]
        simp
def fixed (c : UInt8) : Prop := ∀ d, smallC d = c ↔ d = c
theorem fixed_of (c : UInt8) (h : ∀ n : Fin 256, decide (smallC (UInt8.ofNat n.val) = c ↔ UInt8.ofNat n.val = c) = true) : fixed c := by
  intro d
  have := h ⟨d.toNat, d.toNat_lt⟩
  have e : UInt8.ofNat d.toNat = d := by simp
  simp only [e] at this
  exact of_decide_eq_true this
theorem fixed60 : fixed 60 := fixed_of _ (by decide +kernel)
theorem fixed62 : fixed 62 := fixed_of _ (by decide +kernel)
theorem fixed45 : fixed 45 := fixed_of _ (by decide +kernel)
theorem prefix_fixed (sub : List UInt8) (h : ∀ c ∈ sub, fixed c) (s : List UInt8) : sub.isPrefixOf (smallS s) = sub.isPrefixOf s := by
  induction sub generalizing s with
  | nil => simp
  | cons c sub ih =>
    cases s with
    | nil => rfl
    | cons d s =>
      have e : smallS (d :: s) = smallC d :: smallS s := rfl
      rw [e]
      simp only [List.isPrefixOf]
      rw [ih (fun x hx => h x (by simp [hx])) s]
      congr 1
      rw [Bool.eq_iff_iff, beq_iff_eq, beq_iff_eq]
      have := h c (by simp) d
      constructor
      · intro e; exact (this.1 e.symm).symm
      · intro e; exact (this.2 e.symm).symm
theorem findN_fixed (sub : List UInt8) (h : ∀ c ∈ sub, fixed c) (s : List UInt8) : findN sub s = findL sub s := by
  induction s with
  | nil => rfl
  | cons c s ih =>
    unfold findN findL
    rw [prefix_fixed sub h, ih]
theorem findL_mem (d : UInt8) (s : List UInt8) (h : findL [d] s = none) : d ∉ s := by
  induction s with
  | nil => simp
  | cons c s ih =>
    unfold findL at h
    split at h
    · cases h
    · rename_i hp
      have h1 := ih (Option.map_eq_none_iff.1 h)
      intro hm
      rcases List.mem_cons.1 hm with e | e
      · apply hp
        simp [List.isPrefixOf, e]
      · exact h1 e
theorem findL_ahead (d : UInt8) (s a b : List UInt8) (h : findL [d] s = some (a, b)) : d ∉ a := by
  induction s generalizing a with
  | nil => cases h
  | cons c s ih =>
    unfold findL at h
    split at h
    · simp only [Option.some.injEq, Prod.mk.injEq] at h
      rw [← h.1]; simp
    · rename_i hp
      obtain ⟨q, hq1, hq2⟩ := Option.map_eq_some_iff.1 h
      simp only [Prod.mk.injEq] at hq2
      obtain ⟨rfl, rfl⟩ := hq2
      intro hm
      rcases List.mem_cons.1 hm with e | e
      · apply hp
        simp [List.isPrefixOf, e]
      · exact ih q.1 hq1 e
theorem findN_gt (n t : List UInt8) : findN (60 :: 47 :: n) (62 :: t) = (findN (60 :: 47 :: n) t).map fun q => (62 :: q.1, q.2) := by
  conv => lhs; unfold findN
  have : (60 :: 47 :: n).isPrefixOf (smallS (62 :: t)) = false := rfl
  rw [this]
  rfl

end Go.Proofs.YtkmkhfgoihfkjaaDoor
