import Derived.Test.YtkgpmahlkglaaaaDoorM2
namespace Go.Proofs.YtkgpmahlkglaaaaDoor
open Go.RowKit

/-- What a quoted text is made of: a cut, a byte as it is, a byte by its digits. -/
abbrev Item := Option (UInt8 ⊕ UInt8)
abbrev Item.soft : Item := none
abbrev Item.lit (c : UInt8) : Item := some (.inl c)
abbrev Item.hex (c : UInt8) : Item := some (.inr c)

def Item.bytes : Item → List UInt8
  | none => [61, 13, 10]
  | some (.inl c) => [c]
  | some (.inr c) => [61, hexd (c.toNat / 16), hexd (c.toNat % 16)]
def Item.val : Item → List UInt8
  | none => []
  | some (.inl c) => [c]
  | some (.inr c) => [c]
def Item.ok : Item → Bool
  | some (.inl c) => isLetter c || isBlank c
  | _ => true
def Item.isSoft : Item → Bool
  | none => true
  | _ => false
/-- It may stand at a line's end. -/
def Item.ends : Item → Bool
  | some (.inl c) => isLetter c
  | _ => true

def flat (I : List Item) : List UInt8 := I.flatMap Item.bytes
def vals (I : List Item) : List UInt8 := I.flatMap Item.val
theorem flat_append (a b : List Item) : flat (a ++ b) = flat a ++ flat b := by simp [flat]
theorem vals_append (a b : List Item) : vals (a ++ b) = vals a ++ vals b := by simp [vals]

theorem hexv_hexd (n : Nat) (h : n < 16) : hexv (hexd n) = (n : Int) := by
  have : ∀ n : Fin 16, hexv (hexd n.val) = (n.val : Int) := by decide +kernel
  exact this ⟨n, h⟩
theorem hexd_ok (n : Nat) (h : n < 16) : isLetter (hexd n) = true ∧ hexd n ≠ 61 ∧ hexd n ≠ 13 ∧ 32 ≤ (hexd n).toNat ∧ (hexd n).toNat ≤ 126 ∧ hexd n ≠ 32 ∧ hexd n ≠ 9 := by
  have : ∀ n : Fin 16, isLetter (hexd n.val) = true ∧ hexd n.val ≠ 61 ∧ hexd n.val ≠ 13 ∧ 32 ≤ (hexd n.val).toNat ∧ (hexd n.val).toNat ≤ 126 ∧ hexd n.val ≠ 32 ∧ hexd n.val ≠ 9 := by decide +kernel
  exact this ⟨n, h⟩
theorem letter_ok (c : UInt8) (h : isLetter c = true) : c ≠ 61 ∧ c ≠ 13 ∧ 32 ≤ c.toNat ∧ c.toNat ≤ 126 ∧ c ≠ 32 ∧ c ≠ 9 := by
  unfold isLetter at h
  simp only [Bool.and_eq_true, decide_eq_true_eq, bne_iff_ne] at h
  obtain ⟨⟨h1, h2⟩, h3⟩ := h
  have a1 := UInt8.le_iff_toNat_le.1 h1
  have a2 := UInt8.le_iff_toNat_le.1 h2
  simp at a1 a2
  refine ⟨h3, ?_, by omega, by omega, ?_, ?_⟩ <;> (intro e; subst e; simp at a1)
theorem blank_ok (c : UInt8) (h : isBlank c = true) : c ≠ 61 ∧ c ≠ 13 ∧ okByte c := by
  unfold isBlank at h
  simp only [Bool.or_eq_true, beq_iff_eq] at h
  rcases h with rfl | rfl
  · exact ⟨by decide, by decide, .inl (by decide)⟩
  · exact ⟨by decide, by decide, .inr rfl⟩

def uf (q : Option (List UInt8 × Nat × Nat)) (c : UInt8) : Option (List UInt8 × Nat × Nat) := q.bind fun q => uqStep q c
theorem uf_some (q : List UInt8 × Nat × Nat) (c : UInt8) : uf (some q) c = uqStep q c := rfl
theorem uqAll_uf (l : List UInt8) : uqAll l = l.foldl uf (some ([], 0, 0)) := rfl

theorem uf_item (x : Item) (hx : x.ok = true) (hs : x.isSoft = false) (o : List UInt8) (V : Nat) : ∃ V', x.bytes.foldl uf (some (o, V, 0)) = some (o ++ x.val, V', 0) := by
  rcases x with _ | (c | c)
  · cases hs
  · skip
    refine ⟨V, ?_⟩
    have hx' : (isLetter c || isBlank c) = true := hx
    have h61 : c ≠ 61 := by
      simp only [Bool.or_eq_true] at hx'
      rcases hx' with h | h
      · exact (letter_ok c h).1
      · exact (blank_ok c h).1
    show uf (some (o, V, 0)) c = _
    rw [uf_some, uqStep_zero, if_neg h61, hx']
    rfl
  · skip
    have hc := c.toNat_lt
    refine ⟨c.toNat / 16 * 16 + c.toNat % 16, ?_⟩
    show uf (uf (uf (some (o, V, 0)) 61) (hexd (c.toNat / 16))) (hexd (c.toNat % 16)) = _
    rw [uf_some, uqStep_zero, if_pos rfl, uf_some, uqStep_two, hexv_hexd _ (by omega), if_neg (by omega), uf_some, uqStep_one, hexv_hexd _ (by omega), if_neg (by omega)]
    simp only [Int.toNat_natCast]
    rw [ofNat_eq _ c (by omega)]
    rfl

theorem uf_items (J : List Item) (hJ : ∀ x ∈ J, x.ok = true ∧ x.isSoft = false) (o : List UInt8) (V : Nat) : ∃ V', (flat J).foldl uf (some (o, V, 0)) = some (o ++ vals J, V', 0) := by
  induction J generalizing o V with
  | nil => exact ⟨V, by simp [flat, vals]⟩
  | cons x J ih =>
    obtain ⟨V1, h1⟩ := uf_item x (hJ x (by simp)).1 (hJ x (by simp)).2 o V
    obtain ⟨V2, h2⟩ := ih (fun y hy => hJ y (by simp [hy])) (o ++ x.val) V1
    refine ⟨V2, ?_⟩
    show (x.bytes ++ flat J).foldl uf _ = _
    rw [List.foldl_append, h1, h2, List.append_assoc]
    rfl

theorem unquoted_items (J : List Item) (hJ : ∀ x ∈ J, x.ok = true ∧ x.isSoft = false) : unquotedS (flat J) = some (vals J) := by
  obtain ⟨V, h⟩ := uf_items J hJ [] 0
  unfold unquotedS
  rw [uqAll_uf, h]
  simp

theorem item_no13 (x : Item) (hx : x.ok = true) (hs : x.isSoft = false) : ∀ c ∈ x.bytes, c ≠ 13 := by
  intro c hc
  rcases x with _ | (d | d)
  · cases hs
  · skip
    have hx' : (isLetter d || isBlank d) = true := hx
    simp only [Item.bytes, List.mem_cons, List.not_mem_nil, or_false] at hc
    subst hc
    simp only [Bool.or_eq_true] at hx'
    rcases hx' with h | h
    · exact (letter_ok c h).2.1
    · exact (blank_ok c h).2.1
  · skip
    have hd := d.toNat_lt
    simp only [Item.bytes, List.mem_cons, List.not_mem_nil, or_false] at hc
    rcases hc with rfl | rfl | rfl
    · decide
    · exact (hexd_ok _ (by omega)).2.2.1
    · exact (hexd_ok _ (by omega)).2.2.1

theorem flat_no13 (J : List Item) (hJ : ∀ x ∈ J, x.ok = true ∧ x.isSoft = false) : ∀ c ∈ flat J, c ≠ 13 := by
  intro c hc
  simp only [flat, List.mem_flatMap] at hc
  obtain ⟨x, hx, hc⟩ := hc
  exact item_no13 x (hJ x hx).1 (hJ x hx).2 c hc

theorem cut_hit (x r : List UInt8) (h : ∀ c ∈ x, c ≠ 13) : Lib.cut (x ++ [13, 10] ++ r) [13, 10] = (x, r, true) := by
  unfold Lib.cut
  rw [index_hitL x r h, if_pos (by omega), Int.toNat_natCast, drop_line]
  simp
theorem cut_miss (x : List UInt8) (h : ∀ c ∈ x, c ≠ 13) : Lib.cut x [13, 10] = (x, [], false) := by
  unfold Lib.cut
  rw [index_missL x h]
  rfl

theorem trim_last (l : List UInt8) (c : UInt8) (h1 : c ≠ 32) (h2 : c ≠ 9) : Lib.trimRightS (l ++ [c]) [32, 9] = l ++ [c] := by
  unfold Lib.trimRightS
  rw [List.reverse_append]
  simp only [List.reverse_cons, List.reverse_nil, List.nil_append, List.singleton_append]
  rw [List.dropWhile_cons_of_neg (by simp [h1, h2])]
  simp
theorem suffix_yes (l : List UInt8) (c : UInt8) : Lib.hasSuffix (l ++ [c]) [c] = true := by
  unfold Lib.hasSuffix
  rw [List.isSuffixOf_iff_suffix]
  exact List.suffix_append _ _

theorem lineOf_on (l : List UInt8) : lineOf (l ++ [61]) = l ∧ goesOn (l ++ [61]) = true := by
  unfold lineOf goesOn
  rw [trim_last l 61 (by decide) (by decide)]
  refine ⟨?_, suffix_yes l 61⟩
  unfold Lib.trimSuffix
  rw [suffix_yes, if_pos rfl]
  simp

/-- The last letter of what may stand at a line's end. -/
theorem item_last (x : Item) (hx : x.ends = true) (hs : x.isSoft = false) : ∃ l c, x.bytes = l ++ [c] ∧ c ≠ 61 ∧ c ≠ 32 ∧ c ≠ 9 := by
  rcases x with _ | (c | c)
  · cases hs
  · skip
    have := letter_ok c hx
    exact ⟨[], c, rfl, this.1, this.2.2.2.2.1, this.2.2.2.2.2⟩
  · skip
    have hc := c.toNat_lt
    have := hexd_ok (c.toNat % 16) (by omega)
    exact ⟨[61, hexd (c.toNat / 16)], _, rfl, this.2.1, this.2.2.2.2.2.1, this.2.2.2.2.2.2⟩

theorem lineOf_last (J : List Item) (hJ : ∀ x ∈ J, x.ok = true ∧ x.isSoft = false) (he : ∀ x, J.getLast? = some x → x.ends = true) : lineOf (flat J) = flat J := by
  rcases List.eq_nil_or_concat J with rfl | ⟨K, x, rfl⟩
  · rfl
  · rw [List.concat_eq_append] at hJ he ⊢
    obtain ⟨l, c, h1, h2, h3, h4⟩ := item_last x (he x (by simp)) (hJ x (by simp)).2
    have e : flat (K ++ [x]) = (flat K ++ l) ++ [c] := by
      rw [flat_append]
      show flat K ++ (x.bytes ++ []) = _
      rw [h1]
      simp
    rw [e]
    unfold lineOf
    rw [trim_last _ c h3 h4]
    unfold Lib.trimSuffix
    rw [suffix_one _ c 61 h2]
    rfl

/-- WHAT IS MADE OF ITEMS IS READ AS WHAT THEY STAND FOR. -/
theorem uqLoop_items (I J : List Item) (f : Nat) (out : List UInt8) (hI : ∀ x ∈ I, x.ok = true) (hJ : ∀ x ∈ J, x.ok = true ∧ x.isSoft = false)
    (he : ∀ x, (J ++ I).getLast? = some x → x.ends = true) (hf : (flat J ++ flat I).length < f) : uqLoop f (flat J ++ flat I) out = some (out ++ vals J ++ vals I) := by
  induction I generalizing J f out with
  | nil =>
    obtain ⟨f', rfl⟩ : ∃ f', f = f' + 1 := ⟨f - 1, by omega⟩
    have hc := cut_miss (flat J) (flat_no13 J hJ)
    have e : flat J ++ flat [] = flat J := by simp [flat]
    rw [e, uqLoop_end f' (flat J) out (flat J) [] (vals J) hc (by rw [lineOf_last J hJ (by simpa using he)]; exact unquoted_items J hJ)]
    simp [vals]
  | cons x I ih =>
    cases hs : x.isSoft with
    | false =>
      have := ih (J ++ [x]) f out (fun y hy => hI y (by simp [hy])) (by
        intro y hy
        rw [List.mem_append] at hy
        rcases hy with hy | hy
        · exact hJ y hy
        · simp at hy; subst hy; exact ⟨hI y (by simp), hs⟩) (by simpa using he) (by
        rw [flat_append, List.append_assoc, ← flat_append [x] I]
        exact hf)
      rw [flat_append, List.append_assoc, vals_append] at this
      rw [show flat (x :: I) = flat [x] ++ flat I from flat_append [x] I, show vals (x :: I) = vals [x] ++ vals I from vals_append [x] I, this]
      simp
    | true =>
      rcases x with _ | (c | c)
      rotate_left
      · cases hs
      · cases hs
      · skip
        obtain ⟨f', rfl⟩ : ∃ f', f = f' + 1 := ⟨f - 1, by omega⟩
        have e : flat J ++ flat (Item.soft :: I) = (flat J ++ [61]) ++ [13, 10] ++ flat I := by
          rw [show flat (Item.soft :: I) = [61, 13, 10] ++ flat I from flat_append [Item.soft] I]
          simp
        have hn : ∀ c ∈ flat J ++ [61], c ≠ 13 := by
          intro c hc
          rw [List.mem_append] at hc
          rcases hc with hc | hc
          · exact flat_no13 J hJ c hc
          · simp at hc; subst hc; decide
        have hc := cut_hit (flat J ++ [61]) (flat I) hn
        rw [e, uqLoop_on f' _ out _ _ (vals J) hc (by rw [(lineOf_on _).1]; exact unquoted_items J hJ), (lineOf_on _).2]
        have h1 := ih [] f' (out ++ vals J ++ if true = true then [] else [13, 10]) (fun y hy => hI y (by simp [hy])) (by simp) (by
          intro y hy
          cases I with
          | nil => cases hy
          | cons z I => 
            apply he y
            rw [List.getLast?_append]
            simp only [List.nil_append] at hy
            rw [List.getLast?_cons_cons, hy]
            rfl) (by
          rw [e] at hf
          simp [flat] at hf ⊢
          omega)
        rw [show flat [] ++ flat I = flat I from by simp [flat]] at h1
        rw [h1]
        simp [vals, Item.val]

theorem unquote_items (I : List Item) (hI : ∀ x ∈ I, x.ok = true) (he : ∀ x, I.getLast? = some x → x.ends = true) : unquoteS (flat I) = some (vals I) := by
  have := uqLoop_items I [] ((flat I).length + 1) [] hI (by simp) (by simpa using he) (by simp [flat])
  unfold unquoteS
  rw [show flat [] ++ flat I = flat I from by simp [flat]] at this
  rw [this]
  simp [vals]

end Go.Proofs.YtkgpmahlkglaaaaDoor
