import Derived.Test.YtkmkhfgoihfkjaaDoorZ1
namespace Go.Proofs.YtkmkhfgoihfkjaaDoor
open Go.RowKit

/- Words for signs in a page. -/
def signs : List (List UInt8 × UInt8) := [([38, 97, 109, 112, 59], 38), ([38, 113, 117, 111, 116, 59], 34), ([38, 35, 51, 57, 59], 39), ([38, 108, 116, 59], 60), ([38, 103, 116, 59], 62)]
def unescF : Nat → List UInt8 → List UInt8
  | 0, _ => []
  | n + 1, s => match s with
    | [] => []
    | c :: r => match signs.find? fun w => w.1.isPrefixOf (smallS (c :: r)) with
      | some w => w.2 :: unescF n ((c :: r).drop w.1.length)
      | none => c :: unescF n r
/-- What a value says. -/
def unescS (s : List UInt8) : List UInt8 := unescF s.length s
def escW (c : UInt8) : List UInt8 := if c = 38 then [38, 97, 109, 112, 59] else if c = 34 then [38, 113, 117, 111, 116, 59] else if c = 39 then [38, 35, 51, 57, 59] else if c = 60 then [38, 108, 116, 59] else if c = 62 then [38, 103, 116, 59] else [c]
def escS (s : List UInt8) : List UInt8 := s.flatMap escW

theorem escW_ne (c : UInt8) : escW c ≠ [] := by
  unfold escW
  repeat' split
  all_goals simp
theorem escW_plain (c d : UInt8) (h : d ∈ escW c) : d ≠ 34 ∧ d ≠ 39 ∧ d ≠ 60 ∧ d ≠ 62 := by
  have key : ∀ n : Fin 256, ∀ d ∈ escW (UInt8.ofNat n.val), d ≠ 34 ∧ d ≠ 39 ∧ d ≠ 60 ∧ d ≠ 62 := by decide +kernel
  have := key ⟨c.toNat, c.toNat_lt⟩
  have e : UInt8.ofNat c.toNat = c := by simp
  simp only [e] at this
  exact this d h
/-- No quote, no < or > stands in what is escaped. -/
theorem escS_plain (s : List UInt8) : ∀ d ∈ escS s, d ≠ 34 ∧ d ≠ 39 ∧ d ≠ 60 ∧ d ≠ 62 := by
  intro d hd
  obtain ⟨c, _, hc⟩ := List.mem_flatMap.1 hd
  exact escW_plain c d hc
theorem small_38 (c : UInt8) (h : smallC c = 38) : c = 38 := by
  have key : ∀ n : Fin 256, smallC (UInt8.ofNat n.val) = 38 → UInt8.ofNat n.val = 38 := by decide +kernel
  have := key ⟨c.toNat, c.toNat_lt⟩
  have e : UInt8.ofNat c.toNat = c := by simp
  simp only [e] at this
  exact this h
theorem find_other (c : UInt8) (r : List UInt8) (h : c ≠ 38) : (signs.find? fun w => w.1.isPrefixOf (smallS (c :: r))) = none := by
  have hb : (38 == smallC c) = false := by
    rw [beq_eq_false_iff_ne]
    exact fun e => h (small_38 c e.symm)
  have e : smallS (c :: r) = smallC c :: smallS r := rfl
  rw [e]
  simp [signs, List.isPrefixOf, hb]
theorem unesc_esc (s : List UInt8) : ∀ n, (escS s).length ≤ n → unescF n (escS s) = s := by
  induction s with
  | nil =>
    intro n _
    cases n <;> rfl
  | cons c s ih =>
    intro n hn
    have e : escS (c :: s) = escW c ++ escS s := rfl
    have hl : 1 ≤ (escW c).length := List.length_pos_iff.2 (escW_ne c)
    rw [e, List.length_append] at hn
    obtain ⟨m, rfl⟩ : ∃ m, n = m + 1 := ⟨n - 1, by omega⟩
    have hm : (escS s).length ≤ m := by omega
    have hi := ih m hm
    rw [e]
    by_cases h1 : c = 38
    · subst h1
      show unescF (m + 1) (38 :: 97 :: 109 :: 112 :: 59 :: escS s) = _
      have hf : (signs.find? fun w => w.1.isPrefixOf (smallS (38 :: 97 :: 109 :: 112 :: 59 :: escS s))) = some ([38, 97, 109, 112, 59], 38) := by rw [show smallS (38 :: 97 :: 109 :: 112 :: 59 :: escS s) = 38 :: 97 :: 109 :: 112 :: 59 :: smallS (escS s) from rfl]; simp [signs, List.isPrefixOf]
      unfold unescF
      simp only [hf]
      show (38 : UInt8) :: unescF m (escS s) = _
      rw [hi]
    · by_cases h2 : c = 34
      · subst h2
        show unescF (m + 1) (38 :: 113 :: 117 :: 111 :: 116 :: 59 :: escS s) = _
        have hf : (signs.find? fun w => w.1.isPrefixOf (smallS (38 :: 113 :: 117 :: 111 :: 116 :: 59 :: escS s))) = some ([38, 113, 117, 111, 116, 59], 34) := by rw [show smallS (38 :: 113 :: 117 :: 111 :: 116 :: 59 :: escS s) = 38 :: 113 :: 117 :: 111 :: 116 :: 59 :: smallS (escS s) from rfl]; simp [signs, List.isPrefixOf]
        unfold unescF
        simp only [hf]
        show (34 : UInt8) :: unescF m (escS s) = _
        rw [hi]
      · by_cases h3 : c = 39
        · subst h3
          show unescF (m + 1) (38 :: 35 :: 51 :: 57 :: 59 :: escS s) = _
          have hf : (signs.find? fun w => w.1.isPrefixOf (smallS (38 :: 35 :: 51 :: 57 :: 59 :: escS s))) = some ([38, 35, 51, 57, 59], 39) := by rw [show smallS (38 :: 35 :: 51 :: 57 :: 59 :: escS s) = 38 :: 35 :: 51 :: 57 :: 59 :: smallS (escS s) from rfl]; simp [signs, List.isPrefixOf]
          unfold unescF
          simp only [hf]
          show (39 : UInt8) :: unescF m (escS s) = _
          rw [hi]
        · by_cases h4 : c = 60
          · subst h4
            show unescF (m + 1) (38 :: 108 :: 116 :: 59 :: escS s) = _
            have hf : (signs.find? fun w => w.1.isPrefixOf (smallS (38 :: 108 :: 116 :: 59 :: escS s))) = some ([38, 108, 116, 59], 60) := by rw [show smallS (38 :: 108 :: 116 :: 59 :: escS s) = 38 :: 108 :: 116 :: 59 :: smallS (escS s) from rfl]; simp [signs, List.isPrefixOf]
            unfold unescF
            simp only [hf]
            show (60 : UInt8) :: unescF m (escS s) = _
            rw [hi]
          · by_cases h5 : c = 62
            · subst h5
              show unescF (m + 1) (38 :: 103 :: 116 :: 59 :: escS s) = _
              have hf : (signs.find? fun w => w.1.isPrefixOf (smallS (38 :: 103 :: 116 :: 59 :: escS s))) = some ([38, 103, 116, 59], 62) := by rw [show smallS (38 :: 103 :: 116 :: 59 :: escS s) = 38 :: 103 :: 116 :: 59 :: smallS (escS s) from rfl]; simp [signs, List.isPrefixOf]
              unfold unescF
              simp only [hf]
              show (62 : UInt8) :: unescF m (escS s) = _
              rw [hi]
            · have ec : escW c = [c] := by
                unfold escW
                rw [if_neg h1, if_neg h2, if_neg h3, if_neg h4, if_neg h5]
              rw [ec]
              show unescF (m + 1) (c :: escS s) = _
              unfold unescF
              simp only [find_other c (escS s) h1]
              rw [hi]
/-- What is escaped says what it was. -/
theorem unescS_esc (s : List UInt8) : unescS (escS s) = s := unesc_esc s _ (Nat.le_refl _)

end Go.Proofs.YtkmkhfgoihfkjaaDoor
