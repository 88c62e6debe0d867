import Derived.Test.YtnjjjkhhoaadfabGreatDoorZ3
namespace Go.Proofs.YtnjjjkhhoaadfabGreatDoor
open Go.RowKit

/- How long a value with another boundary is. -/
def sumP (ps : List PB) : Nat := (ps.map fun p => p.1.length + p.2.length + 2).sum
theorem sumP_cons (p : PB) (ps : List PB) : sumP (p :: ps) = p.1.length + p.2.length + 2 + sumP ps := by simp [sumP]
theorem xquoted_len : ∀ (r : List UInt8) (q : List UInt8 × List UInt8), quotedS r = some q → q.1.length + q.2.length + 1 ≤ r.length
  | [], q, h => by cases h
  | [c], q, h => by
    unfold quotedS at h
    split at h
    · cases h; simp
    · split at h
      · cases h
      · split at h
        · simp [quotedS] at h
        · cases h
  | c :: d :: r, q, h => by
    unfold quotedS at h
    split at h
    · cases h; simp
    · split at h
      · simp only at h
        split at h
        · simp only [Option.map_eq_some_iff] at h
          obtain ⟨a, ha, rfl⟩ := h
          have := xquoted_len r a ha
          simp; omega
        · cases h
      · split at h
        · simp only [Option.map_eq_some_iff] at h
          obtain ⟨a, ha, rfl⟩ := h
          have := xquoted_len (d :: r) a ha
          simp at this ⊢; omega
        · cases h
theorem xwhile_len (p : UInt8 → Bool) (l : List UInt8) : (l.takeWhile p).length + (l.dropWhile p).length = l.length := by
  conv => rhs; rw [← List.takeWhile_append_dropWhile (p := p) (l := l), List.length_append]
theorem xvalue_len (nm r : List UInt8) (q : PB × List UInt8) (h : valueP nm r = some q) : q.1.1.length = nm.length ∧ q.1.2.length + q.2.length ≤ r.length := by
  unfold valueP at h
  split at h
  · simp only [Option.map_eq_some_iff] at h
    obtain ⟨a, ha, rfl⟩ := h
    have h1 := xquoted_len _ a ha
    have h2 := dropB_len a.2
    rw [List.length_drop] at h1
    refine ⟨by simp [smallS], ?_⟩
    simp only
    omega
  · split at h
    · cases h
    · cases h
      have h1 := xwhile_len tokC r
      have h2 := dropB_len (r.dropWhile tokC)
      refine ⟨by simp [smallS], ?_⟩
      simp only
      omega
theorem xone_len (r : List UInt8) (q : PB × List UInt8) (h : oneP r = some q) : q.1.1.length + q.1.2.length + 1 + q.2.length ≤ r.length := by
  unfold oneP at h
  split at h
  · cases h
  · split at h
    · rename_i hh
      obtain ⟨h1, h2⟩ := xvalue_len _ _ q h
      have a1 := dropB_len r
      have a2 := xwhile_len tokC (dropB r)
      have a3 := dropB_len ((dropB r).dropWhile tokC)
      have a4 := dropB_len ((dropB ((dropB r).dropWhile tokC)).drop 1)
      have a5 : 1 ≤ (dropB ((dropB r).dropWhile tokC)).length := by
        cases hd : dropB ((dropB r).dropWhile tokC) with
        | nil => rw [hd] at hh; cases hh
        | cons _ _ => simp
      rw [List.length_drop] at a4
      omega
    · cases h
theorem xparams_len : ∀ (n : Nat) (l : List UInt8) (ps : List PB), paramsF n l = some ps → sumP ps ≤ l.length
  | 0, l, ps, h => by
    unfold paramsF at h
    split at h
    · cases h; simp [sumP]
    · cases h
  | n + 1, l, ps, h => by
    unfold paramsF at h
    split at h
    · cases h; simp [sumP]
    · split at h
      · rename_i h0 _
        simp only [Option.bind_eq_some_iff, Option.map_eq_some_iff] at h
        obtain ⟨q, hq, k, hk, rfl⟩ := h
        have h1 := xone_len _ q hq
        have h2 := xparams_len n q.2 k hk
        have h3 := List.length_pos_iff.2 h0
        rw [List.length_drop] at h1
        rw [sumP_cons]
        omega
      · cases h
theorem xreadK_len (s : List UInt8) (q : List UInt8 × List PB) (h : readK s = some q) : q.1.length + sumP q.2 ≤ s.length := by
  unfold readK at h
  split at h
  · simp only [Option.map_eq_some_iff] at h
    obtain ⟨k, hk, rfl⟩ := h
    have h1 := xparams_len _ _ _ hk
    have h2 := xwhile_len (· != 59) s
    have h3 := Nat.le_trans (dropE_len (dropB (s.takeWhile (· != 59)))) (dropB_len (s.takeWhile (· != 59)))
    have h4 : (smallS (trimS (s.takeWhile (· != 59)))).length = (trimS (s.takeWhile (· != 59))).length := by simp [smallS]
    have h5 : (trimS (s.takeWhile (· != 59))).length ≤ (s.takeWhile (· != 59)).length := h3
    simp only
    omega
  · cases h
theorem xesc_len (v : List UInt8) : (v.flatMap escC).length ≤ 2 * v.length := by
  induction v with
  | nil => simp
  | cons c v ih =>
    rw [List.flatMap_cons, List.length_append, List.length_cons]
    have : (escC c).length ≤ 2 := by unfold escC; split <;> simp
    omega
theorem xparamW_len (p : PB) : (paramW p).length ≤ 3 * (p.1.length + p.2.length + 2) := by
  unfold paramW valW
  have h := xesc_len p.2
  split
  · simp; omega
  · simp at h ⊢; omega
theorem xwriteK_len (m : List UInt8) (ps : List PB) : (writeK m ps).length ≤ m.length + 3 * sumP ps := by
  unfold writeK
  rw [List.length_append]
  have : (ps.flatMap paramW).length ≤ 3 * sumP ps := by
    induction ps with
    | nil => simp [sumP]
    | cons p ps ih =>
      rw [List.flatMap_cons, List.length_append, sumP_cons]
      have := xparamW_len p
      omega
  omega
theorem xsetP_len (bd : List UInt8) (ps : List PB) : sumP (setP bd ps) ≤ sumP ps + bd.length := by
  induction ps with
  | nil => simp [setP, sumP]
  | cons p ps ih =>
    unfold setP
    split
    · rw [sumP_cons, sumP_cons]; simp only; omega
    · rw [sumP_cons, sumP_cons]; omega
theorem xnewVal_len (bd v : List UInt8) : (newVal bd v).length ≤ 3 * (v.length + bd.length) := by
  unfold newVal
  cases h : readK v with
  | none => simp
  | some q =>
    simp only
    have h1 := xreadK_len v q h
    have h2 := xwriteK_len q.1 (setP bd q.2)
    have h3 := xsetP_len bd q.2
    omega
theorem setCT_len (bd : List UInt8) (L : List PB) (a b : Nat) (h : ∀ f ∈ L, f.1.length ≤ a ∧ f.2.length ≤ b) : (setCT bd L).length ≤ L.length ∧ ∀ f ∈ setCT bd L, f.1.length ≤ a ∧ f.2.length ≤ 3 * (b + bd.length) := by
  induction L with
  | nil => exact ⟨Nat.le_refl _, fun f hf => absurd hf (by simp [setCT])⟩
  | cons g L ih =>
    have hg := h g (by simp)
    obtain ⟨i1, i2⟩ := ih fun f hf => h f (by simp [hf])
    rw [setCT_cons]
    split
    · exact ⟨by simp; omega, i2⟩
    · split
      · refine ⟨?_, ?_⟩
        · rw [List.length_cons, List.length_cons]
          have : (stripH L).length ≤ L.length := List.length_filter_le _ _
          omega
        · intro f hf
          rcases List.mem_cons.1 hf with rfl | hf
          · have := xnewVal_len bd g.2
            exact ⟨hg.1, by simp only; omega⟩
          · have := h f (by simp [(List.mem_filter.1 hf).1])
            omega
      · refine ⟨by simp; omega, ?_⟩
        intro f hf
        rcases List.mem_cons.1 hf with rfl | hf
        · omega
        · exact i2 f hf

end Go.Proofs.YtnjjjkhhoaadfabGreatDoor
