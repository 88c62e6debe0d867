import Derived.Test.YtkmkhfgoihfkjaaDoorZG2
namespace Go.Proofs.YtkmkhfgoihfkjaaDoor
open Go.RowKit

/- A page, turned: its steps are the same. -/
theorem smallS_len (s : List UInt8) : (smallS s).length = s.length := by unfold smallS; simp
theorem smallS_app (a b : List UInt8) : smallS (a ++ b) = smallS a ++ smallS b := by unfold smallS; simp
theorem findN_some (sub s a b : List UInt8) (h : findN sub s = some (a, b)) : s = a ++ b ∧ sub.isPrefixOf (smallS b) = true := by
  induction s generalizing a with
  | nil => cases h
  | cons c s ih =>
    unfold findN at h
    split at h
    · rename_i hp
      simp only [Option.some.injEq, Prod.mk.injEq] at h
      obtain ⟨rfl, rfl⟩ := h
      exact ⟨rfl, hp⟩
    · obtain ⟨q, hq1, hq2⟩ := Option.map_eq_some_iff.1 h
      simp only [Prod.mk.injEq] at hq2
      obtain ⟨rfl, rfl⟩ := hq2
      obtain ⟨i1, i2⟩ := ih q.1 hq1
      exact ⟨by rw [List.cons_append, ← i1], i2⟩
theorem findN_local (sub : List UInt8) (y r r' : List UInt8) (hy : sub.length ≤ y.length) (hy0 : y ≠ []) : ∀ a : List UInt8, findN sub (a ++ (y ++ r)) = some (a, y ++ r) → findN sub (a ++ (y ++ r')) = some (a, y ++ r')
  | [], h => by
    cases hs : y with
    | nil => exact absurd hs hy0
    | cons c t =>
      have hp := (findN_some _ _ _ _ h).2
      rw [smallS_app] at hp
      rw [prefix_local sub (smallS y) (smallS r) (smallS r') (by rw [smallS_len]; exact hy), ← smallS_app, hs] at hp
      show findN sub (c :: (t ++ r')) = _
      have hp : sub.isPrefixOf (smallS (c :: (t ++ r'))) = true := hp
      unfold findN
      rw [if_pos hp]; rfl
  | c :: a, h => by
    have e : ∀ z : List UInt8, smallS (c :: (a ++ (y ++ z))) = smallS (c :: a ++ y) ++ smallS z := fun z => by rw [← smallS_app]; simp
    have hloc : sub.isPrefixOf (smallS (c :: (a ++ (y ++ r)))) = sub.isPrefixOf (smallS (c :: (a ++ (y ++ r')))) := by
      rw [e, e]
      exact prefix_local sub _ _ _ (by rw [smallS_len]; simp; omega)
    show findN sub (c :: (a ++ (y ++ r'))) = _
    have h' : findN sub (c :: (a ++ (y ++ r))) = some (c :: a, y ++ r) := h
    unfold findN at h' ⊢
    rw [← hloc]
    split at h'
    · simp at h'
    · rename_i hn
      rw [if_neg hn]
      obtain ⟨q, hq1, hq2⟩ := Option.map_eq_some_iff.1 h'
      simp only [Prod.mk.injEq, List.cons.injEq, true_and] at hq2
      obtain ⟨hq0, hq3⟩ := hq2
      have hq4 : findN sub (a ++ (y ++ r)) = some (a, y ++ r) := by rw [hq1, ← hq3, ← hq0]
      rw [findN_local sub y r r' hy hy0 a hq4]; rfl

theorem small_62 (c : UInt8) (h : smallC c = 62) : c = 62 := by
  have key : ∀ n : Fin 256, smallC (UInt8.ofNat n.val) = 62 → UInt8.ofNat n.val = 62 := by decide +kernel
  have := key ⟨c.toNat, c.toNat_lt⟩
  have e : UInt8.ofNat c.toNat = c := by simp
  simp only [e] at this
  exact this h
theorem small_60 (c : UInt8) (h : smallC c = 60) : c = 60 := by
  have key : ∀ n : Fin 256, smallC (UInt8.ofNat n.val) = 60 → UInt8.ofNat n.val = 60 := by decide +kernel
  have := key ⟨c.toNat, c.toNat_lt⟩
  have e : UInt8.ofNat c.toNat = c := by simp
  simp only [e] at this
  exact this h
theorem small_47 (c : UInt8) (h : smallC c = 47) : c = 47 := by
  have key : ∀ n : Fin 256, smallC (UInt8.ofNat n.val) = 47 → UInt8.ofNat n.val = 47 := by decide +kernel
  have := key ⟨c.toNat, c.toNat_lt⟩
  have e : UInt8.ofNat c.toNat = c := by simp
  simp only [e] at this
  exact this h
theorem skip_no62 (n : List UInt8) (h : skipNames.contains n = true) : 62 ∉ n := by
  have key : ∀ x ∈ skipNames, 62 ∉ x := by decide
  exact key n (by simpa using h)
theorem takeWhile_pre (x r : List UInt8) (h : 62 ∉ x) : (x ++ r).takeWhile (· != 62) = x ++ r.takeWhile (· != 62) := by
  induction x with
  | nil => rfl
  | cons c x ih =>
    have hc : (c != 62) = true := by simp only [bne_iff_ne]; intro e; exact h (by simp [e])
    rw [List.cons_append, List.takeWhile_cons, hc]
    simp only [↓reduceIte, List.cons_append]
    rw [ih (fun hx => h (by simp [hx]))]
theorem takeWhile_in (x r r' : List UInt8) (h : 62 ∈ x) : (x ++ r).takeWhile (· != 62) = (x ++ r').takeWhile (· != 62) := by
  induction x with
  | nil => cases h
  | cons c x ih =>
    rw [List.cons_append, List.cons_append, List.takeWhile_cons, List.takeWhile_cons]
    by_cases hc : c = 62
    · subst hc; rfl
    · have hc' : (c != 62) = true := by simpa using hc
      rw [hc']
      simp only [↓reduceIte, List.cons.injEq, true_and]
      exact ih (by simpa [Ne.symm hc] using h)
theorem skip_local (n s c r r' : List UInt8) (e : Option (List UInt8 × Bool)) (m : Md) (hn : skipNames.contains n = true) (h : stepSkip n s = some (c, e, m, r)) (ha : Agree none r r') : e = none ∧ m = none ∧ s = c ++ r ∧ stepSkip n (c ++ r') = some (c, none, none, r') := by
  unfold stepSkip at h
  obtain ⟨q, hq, he⟩ := Option.map_eq_some_iff.1 h
  simp only [Prod.mk.injEq] at he
  obtain ⟨rfl, rfl, rfl, rfl⟩ := he
  have hq : findN (60 :: 47 :: n) s = some (q.1, q.2) := hq
  obtain ⟨h1, h2⟩ := findN_some _ _ _ _ hq
  obtain ⟨t, ht⟩ := List.isPrefixOf_iff_prefix.1 h2
  have hlen : (60 :: 47 :: n).length ≤ q.2.length := by
    have := congrArg List.length ht
    rw [smallS_len, List.length_append] at this
    omega
  have hy : smallS (q.2.take (60 :: 47 :: n).length) = 60 :: 47 :: n := by
    have : smallS q.2 = smallS (q.2.take (60 :: 47 :: n).length) ++ smallS (q.2.drop (60 :: 47 :: n).length) := by rw [← smallS_app, List.take_append_drop]
    rw [this] at ht
    exact (List.append_inj_left ht (by rw [smallS_len, List.length_take]; omega)).symm
  have hno : 62 ∉ q.2.take (60 :: 47 :: n).length := by
    intro hm
    have : smallC 62 ∈ smallS (q.2.take (60 :: 47 :: n).length) := by unfold smallS; exact List.mem_map_of_mem hm
    rw [hy, show smallC 62 = 62 by decide] at this
    have h6 := skip_no62 n hn
    simp at this
    exact h6 this
  have hcut : q.2 = q.2.take (60 :: 47 :: n).length ++ q.2.drop (60 :: 47 :: n).length := (List.take_append_drop _ _).symm
  generalize q.2.take (60 :: 47 :: n).length = y at hy hno hcut
  generalize q.2.drop (60 :: 47 :: n).length = r1 at hcut
  obtain ⟨y2, rfl⟩ : ∃ y2, y = 60 :: 47 :: y2 := by
    match y, hy with
    | [], hy => cases hy
    | [a], hy => exact absurd (congrArg List.length hy) (by rw [smallS_len]; simp)
    | a :: b :: y2, hy =>
      have hy' : smallC a :: smallC b :: smallS y2 = 60 :: 47 :: n := hy
      simp only [List.cons.injEq] at hy'
      exact ⟨y2, by rw [small_60 a hy'.1, small_47 b hy'.2.1]⟩
  have htw := ha.2 rfl (y2 ++ r1) (by rw [hcut]; rfl)
  rw [hcut, takeWhile_pre _ r1 hno] at htw
  have hr' := List.takeWhile_append_dropWhile (p := (· != 62)) (l := r')
  rw [htw, List.append_assoc] at hr'
  generalize r1.takeWhile (· != 62) ++ r'.dropWhile (· != 62) = r2 at hr'
  refine ⟨rfl, rfl, h1, ?_⟩
  have hlen2 : (60 :: 47 :: n).length ≤ (60 :: 47 :: y2).length := by
    have := congrArg List.length hy
    rw [smallS_len] at this
    omega
  have hl := findN_local (60 :: 47 :: n) (60 :: 47 :: y2) r1 r2 hlen2 (by simp) q.1 (by rw [← hcut, ← h1]; exact hq)
  unfold stepSkip
  rw [← hr', hl]
  rfl
theorem top_end (t c r : List UInt8) (e : Option (List UInt8 × Bool)) (m : Md) (h : stepTop (60 :: 47 :: t) = some (c, e, m, r)) : 62 ∈ c := by
  unfold stepTop at h
  have hf : findL [60] (60 :: 47 :: t) = some ([], 60 :: 47 :: t) := by unfold findL; simp
  rw [hf] at h
  simp only [List.drop_succ_cons, List.drop_zero] at h
  rw [if_neg (by simp [List.isPrefixOf]), if_pos (.inl trivial)] at h
  obtain ⟨q, hq, he⟩ := Option.map_eq_some_iff.1 h
  simp only [Prod.mk.injEq] at he
  rw [← he.1]; simp

end Go.Proofs.YtkmkhfgoihfkjaaDoor
