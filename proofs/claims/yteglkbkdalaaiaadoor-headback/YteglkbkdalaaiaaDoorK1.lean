import Derived.Test.YteglkbkdalaaiaaDoorH15
namespace Go.Proofs.YteglkbkdalaaiaaDoor
open Go.RowKit

/- What a head is written as, line by line. -/
def onLines (ls : List (List UInt8)) : List UInt8 := (ls.map fun x => x ++ [13, 10]).flatten
theorem onLines_append (a b : List (List UInt8)) : onLines (a ++ b) = onLines a ++ onLines b := by simp [onLines]
theorem onLines_one (x : List UInt8) : onLines [x] = x ++ [13, 10] := by simp [onLines]
def stepL (q : List (List UInt8) × List UInt8 × Bool) (w : List UInt8) : List (List UInt8) × List UInt8 × Bool :=
  if q.2.2 && decide (76 < q.2.1.length + w.length) then (q.1 ++ [q.2.1], w, true) else (q.1, q.2.1 ++ w, true)
def foldL (n : List UInt8) (ws : List (List UInt8)) : List (List UInt8) × List UInt8 × Bool := ws.foldl stepL ([], n ++ [58, 32], false)
theorem foldL_snoc (n : List UInt8) (ws : List (List UInt8)) (x : List UInt8) : foldL n (ws ++ [x]) = stepL (foldL n ws) x := by unfold foldL; rw [List.foldl_append]; rfl
theorem foldL_lines (n : List UInt8) (ws : List (List UInt8)) : linesW n ws = (onLines (foldL n ws).1 ++ (foldL n ws).2.1, (foldL n ws).2.1.length, (foldL n ws).2.2) := by
  induction ws using snoc_ind with
  | h0 => simp [linesW, begin, foldL, onLines]
  | h1 ws x ih =>
    rw [linesW_snoc, foldL_snoc, ih]
    unfold stepW stepL
    split
    · simp [onLines]
    · simp
def fieldL (n v : List UInt8) : List (List UInt8) := (foldL n (wordsS v)).1 ++ [(foldL n (wordsS v)).2.1]
theorem fieldS_lines (n v : List UInt8) : fieldS n v = onLines (fieldL n v) := by
  unfold fieldS fieldL
  rw [foldL_lines, onLines_append, onLines_one]
  simp

/-- Blanks, one or more, and then none. -/
def Single (z : List UInt8) : Prop := ∃ k u, z = List.replicate (k + 1) 32 ++ u ∧ (32 : UInt8) ∉ u
/-- A line that goes on. -/
def Cont (z : List UInt8) : Prop := (∃ t, z = 32 :: t) ∧ (z.length ≤ 76 ∨ Single z)
theorem Single.head {z : List UInt8} (h : Single z) : ∃ t, z = 32 :: t := by
  obtain ⟨k, u, rfl, _⟩ := h
  exact ⟨List.replicate k 32 ++ u, by rw [List.replicate_succ]; rfl⟩

theorem words_single (v : List UInt8) (k : Nat) : ∀ ws wd, Phase v k ws wd → k ≤ v.length → (∀ w ∈ ws.tail, Single w) ∧ (ws ≠ [] → Single wd) := by
  induction k with
  | zero =>
    intro ws wd h _
    rcases h with ⟨_, f, h1, _⟩ | ⟨h, _⟩
    · have : ws = [] := (congrArg Prod.fst h1).symm
      rw [this]
      exact ⟨fun w hw => absurd hw (by simp), fun h => absurd rfl h⟩
    · omega
  | succ k ih =>
    intro ws wd h hk
    rcases h with ⟨_, f, h1, hwd⟩ | ⟨h, _⟩
    · obtain ⟨ws0, f0, h0⟩ : ∃ ws0 f0, wordsTo v k = (ws0, f0) := ⟨_, _, rfl⟩
      have hf0 := wordsTo_le v k
      rw [h0] at hf0
      simp only at hf0
      have hp : Phase v k ws0 ((v.drop f0).take (k - f0)) := .inl ⟨by omega, f0, h0, rfl⟩
      obtain ⟨i1, i2⟩ := ih _ _ hp (by omega)
      have hkl : k < v.length := by omega
      have hgk : v[k]? = some v[k] := List.getElem?_eq_getElem hkl
      rw [wordsTo_succ v k h0] at h1
      by_cases hc : cutP v k = true
      · rw [if_pos hc] at h1
        simp only [Prod.mk.injEq] at h1
        obtain ⟨rfl, rfl⟩ := h1
        constructor
        · intro w hw
          cases ws0 with
          | nil => simp at hw
          | cons a ws0 =>
            simp only [List.cons_append, List.tail_cons] at hw i1
            rcases List.mem_append.1 hw with h | h
            · exact i1 w h
            · rw [List.mem_singleton.1 h]
              exact i2 (by simp)
        · intro _
          have e : k + 1 - k = 0 + 1 := by omega
          rw [hwd, e, List.take_add_one, List.getElem?_drop, Nat.add_zero, hgk]
          have h32 : v[k] = 32 := by
            unfold cutP at hc
            simp only [Bool.and_eq_true] at hc
            have := hc.1.2
            rw [List.getD_eq_getElem?_getD, hgk] at this
            simpa using this
          exact ⟨0, [], by rw [h32]; rfl, by simp⟩
      · rw [if_neg hc] at h1
        simp only [Prod.mk.injEq] at h1
        obtain ⟨rfl, rfl⟩ := h1
        refine ⟨i1, fun hne => ?_⟩
        obtain ⟨j, u, hz, hu⟩ := i2 hne
        have e : k + 1 - f0 = k - f0 + 1 := by omega
        have e2 : f0 + (k - f0) = k := by omega
        have ew : wd = (v.drop f0).take (k - f0) ++ [v[k]] := by
          rw [hwd, e, List.take_add_one, List.getElem?_drop, e2, hgk]; rfl
        rw [hz] at ew
        by_cases h32 : v[k] = 32
        · have hu0 : u = [] := by
            rcases List.eq_nil_or_concat u with h | ⟨u', c, rfl⟩
            · exact h
            · exfalso
              have hc32 : c ≠ 32 := fun h => hu (by rw [h]; simp)
              have hlast : ((v.drop f0).take (k - f0)).getLast? = some c := by rw [hz]; simp
              have hfk : f0 < k := by
                rcases Nat.lt_or_ge f0 k with h | h
                · exact h
                · have : k - f0 = 0 := by omega
                  rw [this] at hlast
                  simp at hlast
              have hlen : ((v.drop f0).take (k - f0)).length = k - f0 := by rw [List.length_take, List.length_drop]; omega
              rw [List.getLast?_eq_getElem?, hlen, List.getElem?_take, if_pos (by omega), List.getElem?_drop] at hlast
              have e3 : f0 + (k - f0 - 1) = k - 1 := by omega
              rw [e3] at hlast
              apply hc
              unfold cutP
              rw [List.getD_eq_getElem?_getD, List.getD_eq_getElem?_getD, hgk, hlast, h32]
              have h0 : decide (0 < k) = true := decide_eq_true (by omega)
              rw [h0]
              simp [hc32]
          subst hu0
          refine ⟨j + 1, [], ?_, by simp⟩
          rw [ew, h32]
          simp [List.replicate_succ']
        · refine ⟨j, u ++ [v[k]], by rw [ew]; simp, ?_⟩
          intro hm
          rcases List.mem_append.1 hm with h | h
          · exact hu h
          · exact h32 (List.mem_singleton.1 h).symm
    · omega
theorem words_tail (v : List UInt8) : ∀ w ∈ (wordsS v).tail, Single w := by
  obtain ⟨ws, f, h⟩ : ∃ ws f, wordsTo v v.length = (ws, f) := ⟨_, _, rfl⟩
  have hp : Phase v v.length ws ((v.drop f).take (v.length - f)) := .inl ⟨Nat.le_refl _, f, h, rfl⟩
  obtain ⟨i1, i2⟩ := words_single v v.length _ _ hp (Nat.le_refl _)
  unfold wordsS
  rw [h]
  intro w hw
  cases ws with
  | nil => simp at hw
  | cons a ws =>
    simp only [List.cons_append, List.tail_cons] at hw i1
    rcases List.mem_append.1 hw with h | h
    · exact i1 w h
    · rw [List.mem_singleton.1 h]
      have := i2 (by simp)
      rw [List.take_of_length_le (by rw [List.length_drop]; exact Nat.le_refl _)] at this
      exact this

/-- A field's lines: the first one, those that go on. -/
def Shape (n : List UInt8) (ws ls : List (List UInt8)) : Prop := ∃ a zs, ls = (n ++ [58, 32] ++ a) :: zs ∧ a ++ zs.flatten = ws.flatten ∧ ∀ z ∈ zs, Cont z
theorem foldL_flag (n : List UInt8) (ws : List (List UInt8)) : (foldL n ws).2.2 = !ws.isEmpty := by
  induction ws using snoc_ind with
  | h0 => rfl
  | h1 ws x ih =>
    rw [foldL_snoc]
    unfold stepL
    split <;> simp
theorem shape_fold (n : List UInt8) (ws : List (List UInt8)) (h : ∀ w ∈ ws.tail, Single w) : Shape n ws ((foldL n ws).1 ++ [(foldL n ws).2.1]) := by
  induction ws using snoc_ind with
  | h0 => exact ⟨[], [], by simp [foldL], rfl, fun z hz => absurd hz (by simp)⟩
  | h1 ws x ih =>
    have ht : ∀ w ∈ ws.tail, Single w := fun w hw => h w (by
      cases ws with
      | nil => simp at hw
      | cons a ws => simp only [List.cons_append, List.tail_cons] at hw ⊢; exact List.mem_append_left _ hw)
    have hx : ws ≠ [] → Single x := fun hne => h x (by
      cases ws with
      | nil => exact absurd rfl hne
      | cons a ws => simp)
    obtain ⟨a, zs, h1, h2, h3⟩ := ih ht
    have hfl := foldL_flag n ws
    rw [foldL_snoc]
    generalize foldL n ws = q at h1 hfl
    obtain ⟨done, cur, b⟩ := q
    simp only at h1 hfl
    unfold stepL
    simp only
    split
    · rename_i hb
      simp only [Bool.and_eq_true, decide_eq_true_eq] at hb
      have hne : ws ≠ [] := by
        intro e
        rw [hfl, e] at hb
        exact absurd hb.1 (by simp)
      refine ⟨a, zs ++ [x], ?_, ?_, ?_⟩
      · simp only
        rw [h1]; rfl
      · simp only [List.flatten_append, List.flatten_cons, List.flatten_nil, List.append_nil]
        rw [← List.append_assoc, h2]
      · intro z hz
        rcases List.mem_append.1 hz with h | h
        · exact h3 z h
        · rw [List.mem_singleton.1 h]
          exact ⟨(hx hne).head, .inr (hx hne)⟩
    · rename_i hb
      simp only
      cases done with
      | nil =>
        simp only [List.nil_append, List.cons.injEq] at h1 ⊢
        obtain ⟨rfl, rfl⟩ := h1
        refine ⟨a ++ x, [], by simp, ?_, fun z hz => absurd hz (by simp)⟩
        simp only [List.flatten_nil, List.append_nil] at h2 ⊢
        rw [List.flatten_append, ← h2]; simp
      | cons d ds =>
        simp only [List.cons_append, List.cons.injEq] at h1
        obtain ⟨rfl, rfl⟩ := h1
        have hcur := h3 cur (by simp)
        have hne : ws ≠ [] := by
          intro e
          rw [e] at h2
          simp at h2
          obtain ⟨⟨t, ht'⟩, _⟩ := hcur
          have := h2.2.2
          rw [ht'] at this
          simp at this
        have hb' : ¬ 76 < cur.length + x.length := by
          intro hh
          apply hb
          rw [hfl]
          have : ws.isEmpty = false := by cases ws <;> simp_all
          rw [this]
          simp [hh]
        refine ⟨a, ds ++ [cur ++ x], by simp, ?_, ?_⟩
        · simp only [List.flatten_append, List.flatten_cons, List.flatten_nil, List.append_nil] at h2 ⊢
          rw [← h2]; simp
        · intro z hz
          rcases List.mem_append.1 hz with h | h
          · exact h3 z (List.mem_append_left _ h)
          · rw [List.mem_singleton.1 h]
            obtain ⟨⟨t, ht'⟩, _⟩ := hcur
            exact ⟨⟨t ++ x, by rw [ht']; rfl⟩, .inl (by rw [List.length_append]; omega)⟩
theorem field_shape (n v : List UInt8) : ∃ a zs, fieldL n v = (n ++ [58, 32] ++ a) :: zs ∧ a ++ zs.flatten = v ∧ ∀ z ∈ zs, Cont z := by
  obtain ⟨a, zs, h1, h2, h3⟩ := shape_fold n (wordsS v) (words_tail v)
  rw [wordsS_flat] at h2
  exact ⟨a, zs, h1, h2, h3⟩

end Go.Proofs.YteglkbkdalaaiaaDoor
