import Derived.Test.YtkgpmahlkglaaaaDoorM3
namespace Go.Proofs.YtkgpmahlkglaaaaDoor
open Go.RowKit

/-- What a byte is quoted as, as an item. -/
def itemOf (c : UInt8) (last : Bool) : Item := if isLetter c || (isBlank c && !last) then Item.lit c else Item.hex c
theorem itemOf_bytes (c : UInt8) (last : Bool) : (itemOf c last).bytes = quotedL c last := by
  unfold itemOf quotedL; split <;> rfl
theorem itemOf_val (c : UInt8) (last : Bool) : (itemOf c last).val = [c] := by unfold itemOf; split <;> rfl
theorem itemOf_ok (c : UInt8) (last : Bool) : (itemOf c last).ok = true ∧ (itemOf c last).isSoft = false ∧ (itemOf c true).ends = true := by
  refine ⟨?_, ?_, ?_⟩
  · unfold itemOf
    split
    · rename_i h
      show (isLetter c || isBlank c) = true
      cases h1 : isLetter c <;> simp_all
    · rfl
  · unfold itemOf; split <;> rfl
  · unfold itemOf
    split
    · rename_i h
      show isLetter c = true
      simpa using h
    · rfl

theorem item_okByte (x : Item) (hx : x.ok = true) (hs : x.isSoft = false) : ∀ c ∈ x.bytes, okByte c := by
  intro c hc
  rcases x with _ | (d | d)
  · cases hs
  · skip
    have hx' : (isLetter d || isBlank d) = true := hx
    simp only [Item.bytes, List.mem_cons, List.not_mem_nil, or_false] at hc
    subst hc
    simp only [Bool.or_eq_true] at hx'
    rcases hx' with h | h
    · have := letter_ok c h
      exact .inl ⟨this.2.2.1, this.2.2.2.1⟩
    · exact (blank_ok c h).2.2
  · skip
    have hd := d.toNat_lt
    simp only [Item.bytes, List.mem_cons, List.not_mem_nil, or_false] at hc
    rcases hc with rfl | rfl | rfl
    · exact .inl (by decide)
    · have := hexd_ok (d.toNat / 16) (by omega)
      exact .inl ⟨this.2.2.2.1, this.2.2.2.2.1⟩
    · have := hexd_ok (d.toNat % 16) (by omega)
      exact .inl ⟨this.2.2.2.1, this.2.2.2.2.1⟩

/-- The shape of the first k bytes quoted. -/
structure Shape (b : List UInt8) (k : Nat) (o : List UInt8) (G : Nat) : Prop where
  items : ∃ I, flat I = o ∧ vals I = b.take k ∧ (∀ x ∈ I, x.ok = true) ∧ (k = b.length → ∀ x, I.getLast? = some x → x.ends = true)
  lines : ∃ Ls cur, o = joinLines Ls cur ∧ (∀ l ∈ Ls, okL l ∧ ∀ c ∈ l, c ≠ 13) ∧ cur.length = G ∧ (∀ c ∈ cur, okByte c ∧ c ≠ 13) ∧ (G ≤ 76 ∧ (k < b.length → G ≤ 75)) ∧ (k = b.length → okL cur)

theorem okL_61 (cur : List UInt8) (h : cur.length ≤ 75) (hb : ∀ c ∈ cur, okByte c) : okL (cur ++ [61]) := by
  refine ⟨by simp; omega, suffix_one _ 61 32 (by decide), suffix_one _ 61 9 (by decide), fun c hc => ?_⟩
  rw [List.mem_append] at hc
  rcases hc with hc | hc
  · exact hb c hc
  · simp at hc; subst hc; exact .inl (by decide)

theorem okL_last (cur : List UInt8) (x : Item) (hx : x.ends = true) (hs : x.isSoft = false) (hl : (cur ++ x.bytes).length ≤ 76) (hb : ∀ c ∈ cur ++ x.bytes, okByte c) : okL (cur ++ x.bytes) := by
  obtain ⟨l, c, h1, _, h3, h4⟩ := item_last x hx hs
  have e : cur ++ x.bytes = (cur ++ l) ++ [c] := by rw [h1]; simp
  refine ⟨hl, ?_, ?_, hb⟩
  · rw [e]; exact suffix_one _ c 32 h3
  · rw [e]; exact suffix_one _ c 9 h4

theorem quoteTo_shape (b : List UInt8) (k : Nat) (hk : k ≤ b.length) : Shape b k (quoteTo b k).1 (quoteTo b k).2 := by
  induction k with
  | zero =>
    refine ⟨⟨[], rfl, by simp [vals], by simp, by simp⟩, ⟨[], [], rfl, by simp, rfl, by simp, ⟨by simp [quoteTo], by simp [quoteTo]⟩, fun _ => ⟨by simp, rfl, rfl, by simp⟩⟩⟩
  | succ k ih =>
    obtain ⟨⟨I, i1, i2, i3, _⟩, ⟨Ls, cur, l1, l2, l3, l4, l5, _⟩⟩ := ih (by omega)
    have hk' : k < b.length := by omega
    have hg : b.getD k 0 = b[k] := by rw [List.getD_eq_getElem?_getD, List.getElem?_eq_getElem hk']; rfl
    have hG := l5.2 hk'
    rw [quoteTo, hg]
    obtain ⟨c, hc⟩ : ∃ c, c = b[k] := ⟨_, rfl⟩
    have ht : b.take (k + 1) = b.take k ++ [c] := by rw [hc]; exact take_snocL b k hk'
    obtain ⟨last, hlast⟩ : ∃ last, last = decide (k + 1 = b.length) := ⟨_, rfl⟩
    rw [← hc, ← hlast]
    have hx := itemOf_ok c last
    have hbytes := itemOf_bytes c last
    have hval := itemOf_val c last
    have h3 : (quotedL c last).length ≤ 3 := quotedL_length c last
    have hob : ∀ d ∈ quotedL c last, okByte d ∧ d ≠ 13 := by
      rw [← hbytes]
      exact fun d hd => ⟨item_okByte _ hx.1 hx.2.1 d hd, item_no13 _ hx.1 hx.2.1 d hd⟩
    have hend : k + 1 = b.length → (itemOf c last).ends = true := by
      intro h
      rw [hlast, decide_eq_true h]
      exact hx.2.2
    by_cases hov : (if k + 1 = b.length then 76 else 75) < (quoteTo b k).2 + (quotedL c last).length
    · rw [if_pos hov]
      refine ⟨⟨I ++ [Item.soft, itemOf c last], ?_, ?_, ?_, ?_⟩, ⟨Ls ++ [cur ++ [61]], quotedL c last, ?_, ?_, rfl, hob, ⟨by omega, by omega⟩, ?_⟩⟩
      · rw [flat_append, i1]
        show _ ++ ([61, 13, 10] ++ ((itemOf c last).bytes ++ [])) = _
        rw [hbytes]; simp
      · rw [vals_append, i2, ht]
        show _ ++ ([] ++ ((itemOf c last).val ++ [])) = _
        rw [hval]; simp
      · intro x hx'
        simp only [List.mem_append, List.mem_cons, List.not_mem_nil, or_false] at hx'
        rcases hx' with hx' | rfl | rfl
        · exact i3 x hx'
        · rfl
        · exact hx.1
      · intro h x hx'
        rw [List.getLast?_append] at hx'
        simp at hx'
        subst hx'
        exact hend h
      · have := joinLines_snoc Ls cur [61] (quotedL c last)
        rw [← this, l1]
        simp
      · intro l hl
        simp only [List.mem_append, List.mem_cons, List.not_mem_nil, or_false] at hl
        rcases hl with hl | rfl
        · exact l2 l hl
        · refine ⟨okL_61 cur (by omega) (fun c hc => (l4 c hc).1), fun d hd => ?_⟩
          rw [List.mem_append] at hd
          rcases hd with hd | hd
          · exact (l4 d hd).2
          · simp at hd; subst hd; decide
      · intro h
        have := okL_last [] (itemOf c last) (hend h) hx.2.1 (by rw [hbytes]; simp; omega) (by rw [hbytes]; simpa using fun d hd => (hob d hd).1)
        rw [hbytes] at this
        simpa using this
    · rw [if_neg hov]
      have hcb : ∀ d ∈ cur ++ quotedL c last, okByte d ∧ d ≠ 13 := by
        intro d hd
        rw [List.mem_append] at hd
        rcases hd with hd | hd
        · exact l4 d hd
        · exact hob d hd
      refine ⟨⟨I ++ [itemOf c last], ?_, ?_, ?_, ?_⟩, ⟨Ls, cur ++ quotedL c last, ?_, l2, by rw [List.length_append, l3], hcb, ?_, ?_⟩⟩
      · rw [flat_append, i1]
        show _ ++ ((itemOf c last).bytes ++ []) = _
        rw [hbytes]; simp
      · rw [vals_append, i2, ht]
        show _ ++ ((itemOf c last).val ++ []) = _
        rw [hval]; simp
      · intro x hx'
        simp only [List.mem_append, List.mem_cons, List.not_mem_nil, or_false] at hx'
        rcases hx' with hx' | rfl
        · exact i3 x hx'
        · exact hx.1
      · intro h x hx'
        rw [List.getLast?_append] at hx'
        simp at hx'
        subst hx'
        exact hend h
      · show (quoteTo b k).1 ++ quotedL c last = _
        rw [l1, joinLines_append]
      · show _ + _ ≤ 76 ∧ (_ → _ + _ ≤ 75)
        constructor
        · split at hov <;> omega
        · intro h
          rw [if_neg (by omega)] at hov
          omega
      · intro h
        rw [if_pos h] at hov
        have := okL_last cur (itemOf c last) (hend h) hx.2.1 (by rw [hbytes, List.length_append, l3]; omega) (by rw [hbytes]; exact fun d hd => (hcb d hd).1)
        rw [hbytes] at this
        exact this

theorem quote_ok (b : List UInt8) : ∃ Ls cur, quoteS b = joinLines Ls cur ∧ (∀ l ∈ Ls ++ [cur], ∀ c ∈ l, c ≠ 13) ∧ (∀ l ∈ Ls ++ [cur], okL l) := by
  obtain ⟨_, ⟨Ls, cur, h1, h2, h3, h4, h5, h6⟩⟩ := quoteTo_shape b b.length (Nat.le_refl _)
  refine ⟨Ls, cur, h1, ?_, ?_⟩
  · intro l hl
    simp only [List.mem_append, List.mem_cons, List.not_mem_nil, or_false] at hl
    rcases hl with hl | rfl
    · exact (h2 l hl).2
    · exact fun c hc => (h4 c hc).2
  · intro l hl
    simp only [List.mem_append, List.mem_cons, List.not_mem_nil, or_false] at hl
    rcases hl with hl | rfl
    · exact (h2 l hl).1
    · exact h6 rfl

theorem quote_items (b : List UInt8) : ∃ I, flat I = quoteS b ∧ vals I = b ∧ (∀ x ∈ I, x.ok = true) ∧ (∀ x, I.getLast? = some x → x.ends = true) := by
  obtain ⟨⟨I, h1, h2, h3, h4⟩, _⟩ := quoteTo_shape b b.length (Nat.le_refl _)
  exact ⟨I, h1, by rw [h2, List.take_length], h3, h4 rfl⟩

theorem unquote_quote (b : List UInt8) : unquoteS (quoteS b) = some b := by
  obtain ⟨I, h1, h2, h3, h4⟩ := quote_items b
  rw [← h1, unquote_items I h3 h4, h2]

/-- Back from a place inside an item to its beginning. -/
def s1 (t : List UInt8) (n k : Nat) : Nat := if n ≤ k ∧ t.getD (k - n) 0 = 61 then k - n else k
def s3 (t : List UInt8) (d : UInt8) (k : Nat) : Nat := if 0 < k ∧ t.getD (k - 1) 0 = d then k - 1 else k
def adj (t : List UInt8) (k : Nat) : Nat := s3 t 61 (s3 t 13 (s1 t 2 (s1 t 1 k)))

theorem item_bytes_last (x : Item) (hx : x.ok = true) : ∃ l c, x.bytes = l ++ [c] ∧ c ≠ 61 ∧ c ≠ 13 ∧ ∀ d, l.getLast? = some d → d ≠ 61 := by
  rcases x with _ | (c | c)
  · exact ⟨[61, 13], 10, rfl, by decide, by decide, by intro d hd; cases hd; decide⟩
  · skip
    have hx' : (isLetter c || isBlank c) = true := hx
    refine ⟨[], c, rfl, ?_, ?_, by simp⟩
    · simp only [Bool.or_eq_true] at hx'
      rcases hx' with h | h
      · exact (letter_ok c h).1
      · exact (blank_ok c h).1
    · simp only [Bool.or_eq_true] at hx'
      rcases hx' with h | h
      · exact (letter_ok c h).2.1
      · exact (blank_ok c h).2.1
  · skip
    have hc := c.toNat_lt
    have h1 := hexd_ok (c.toNat / 16) (by omega)
    have h2 := hexd_ok (c.toNat % 16) (by omega)
    exact ⟨[61, hexd (c.toNat / 16)], _, rfl, h2.2.1, h2.2.2.1, by intro d hd; cases hd; exact h1.2.1⟩

/-- The last two letters at a place between two items. -/
theorem bound_last (A : List Item) (hA : ∀ x ∈ A, x.ok = true) : (∀ c, (flat A).getLast? = some c → c ≠ 61 ∧ c ≠ 13) ∧ (∀ c, (flat A).dropLast.getLast? = some c → c ≠ 61) := by
  rcases List.eq_nil_or_concat A with rfl | ⟨A', x, rfl⟩
  · exact ⟨by simp [flat], by simp [flat]⟩
  · rw [List.concat_eq_append] at hA ⊢
    obtain ⟨l, c, h1, h2, h3, h4⟩ := item_bytes_last x (hA x (by simp))
    have e : flat (A' ++ [x]) = (flat A' ++ l) ++ [c] := by
      rw [flat_append]
      show flat A' ++ (x.bytes ++ []) = _
      rw [h1]; simp
    constructor
    · intro d hd
      rw [e] at hd
      simp at hd
      subst hd
      exact ⟨h2, h3⟩
    · intro d hd
      rw [e, List.dropLast_concat, List.getLast?_append] at hd
      cases hl : l.getLast? with
      | some q =>
        rw [hl] at hd
        cases hd
        exact h4 _ hl
      | none =>
        rw [hl] at hd
        have hd' : (flat A').getLast? = some d := hd
        clear hd
        rcases List.eq_nil_or_concat A' with rfl | ⟨A2, y, rfl⟩
        · cases hd'
        · rw [List.concat_eq_append] at hd' hA
          obtain ⟨l', c', g1, g2, _, _⟩ := item_bytes_last y (hA y (by simp))
          have e' : flat (A2 ++ [y]) = (flat A2 ++ l') ++ [c'] := by
            rw [flat_append]
            show flat A2 ++ (y.bytes ++ []) = _
            rw [g1]; simp
          rw [e'] at hd'
          simp at hd'
          subst hd'
          exact g2

theorem last_at (a r : List UInt8) (h : 0 < a.length) : ∃ c, (a ++ r).getD (a.length - 1) 0 = c ∧ a.getLast? = some c := by
  rcases List.eq_nil_or_concat a with rfl | ⟨a', c, rfl⟩
  · simp at h
  · rw [List.concat_eq_append]
    refine ⟨c, ?_, by simp⟩
    rw [List.getD_eq_getElem?_getD]
    simp
theorem last_at2 (a r : List UInt8) (h : 2 ≤ a.length) : ∃ c, (a ++ r).getD (a.length - 2) 0 = c ∧ a.dropLast.getLast? = some c := by
  rcases List.eq_nil_or_concat a with rfl | ⟨a', d, rfl⟩
  · simp at h
  · rw [List.concat_eq_append] at h ⊢
    rw [List.dropLast_concat]
    have h' : 0 < a'.length := by simp at h; omega
    obtain ⟨c, h1, h2⟩ := last_at a' ([d] ++ r) h'
    refine ⟨c, ?_, h2⟩
    rw [List.append_assoc, ← h1]
    congr 1
    simp

/-- A place between two items stays. -/
theorem adj_bound (A : List Item) (r : List UInt8) (hA : ∀ x ∈ A, x.ok = true) :
    s1 (flat A ++ r) 1 (flat A).length = (flat A).length ∧ s1 (flat A ++ r) 2 (flat A).length = (flat A).length ∧ s3 (flat A ++ r) 13 (flat A).length = (flat A).length ∧ s3 (flat A ++ r) 61 (flat A).length = (flat A).length := by
  obtain ⟨h1, h2⟩ := bound_last A hA
  refine ⟨?_, ?_, ?_, ?_⟩
  · unfold s1
    rw [if_neg]
    rintro ⟨a, b⟩
    obtain ⟨c, e1, e2⟩ := last_at (flat A) r a
    exact (h1 c e2).1 (e1 ▸ b)
  · unfold s1
    rw [if_neg]
    rintro ⟨a, b⟩
    obtain ⟨c, e1, e2⟩ := last_at2 (flat A) r a
    exact h2 c e2 (e1 ▸ b)
  · unfold s3
    rw [if_neg]
    rintro ⟨a, b⟩
    obtain ⟨c, e1, e2⟩ := last_at (flat A) r a
    exact (h1 c e2).2 (e1 ▸ b)
  · unfold s3
    rw [if_neg]
    rintro ⟨a, b⟩
    obtain ⟨c, e1, e2⟩ := last_at (flat A) r a
    exact (h1 c e2).1 (e1 ▸ b)

/-- Each place lies in an item. -/
theorem place_in (I : List Item) (k : Nat) (hk : k ≤ (flat I).length) : ∃ A R, I = A ++ R ∧ (k = (flat A).length ∨ ∃ x R', R = x :: R' ∧ ∃ r, 0 < r ∧ r < x.bytes.length ∧ k = (flat A).length + r) := by
  induction I generalizing k with
  | nil => exact ⟨[], [], rfl, .inl (by simpa [flat] using hk)⟩
  | cons x I ih =>
    by_cases h0 : k = 0
    · exact ⟨[], x :: I, rfl, .inl (by simp [flat, h0])⟩
    · by_cases h1 : k < x.bytes.length
      · exact ⟨[], x :: I, rfl, .inr ⟨x, I, rfl, k, by omega, h1, by simp [flat]⟩⟩
      · have hl : (flat (x :: I)).length = x.bytes.length + (flat I).length := by
          rw [show flat (x :: I) = x.bytes ++ flat I from rfl, List.length_append]
        obtain ⟨A, R, e, h⟩ := ih (k - x.bytes.length) (by omega)
        have ha : (flat (x :: A)).length = x.bytes.length + (flat A).length := by
          rw [show flat (x :: A) = x.bytes ++ flat A from rfl, List.length_append]
        refine ⟨x :: A, R, by rw [e]; rfl, ?_⟩
        rcases h with h | ⟨y, R', e1, r, r1, r2, r3⟩
        · exact .inl (by omega)
        · exact .inr ⟨y, R', e1, r, r1, r2, by omega⟩

/-- WHAT IS INSERTED STANDS BETWEEN TWO ITEMS. -/
theorem s12_between (I : List Item) (hI : ∀ x ∈ I, x.ok = true) (k : Nat) (hk : k ≤ (flat I).length) : ∃ A R, I = A ++ R ∧ s1 (flat I) 2 (s1 (flat I) 1 k) = (flat A).length := by
  obtain ⟨A, R, e, h⟩ := place_in I k hk
  have hA : ∀ x ∈ A, x.ok = true := fun x hx => hI x (by rw [e]; simp [hx])
  have hfl : flat I = flat A ++ flat R := by rw [e, flat_append]
  obtain ⟨b1, b2, _, _⟩ := adj_bound A (flat R) hA
  refine ⟨A, R, e, ?_⟩
  rw [hfl]
  rcases h with rfl | ⟨x, R', rfl, r, r1, r2, r3⟩
  · rw [b1, b2]
  · have hat : ∀ j, j < x.bytes.length → (flat A ++ flat (x :: R')).getD ((flat A).length + j) 0 = x.bytes.getD j 0 := by
      intro j hj
      rw [getD_append_right, show flat (x :: R') = x.bytes ++ flat R' from rfl, List.getD_eq_getElem?_getD, List.getD_eq_getElem?_getD, List.getElem?_append_left hj]
    have hx3 : x.bytes.length = 3 ∧ x.bytes.getD 0 0 = 61 ∧ x.bytes.getD 1 0 ≠ 61 := by
      rcases x with _ | (c | c)
      · exact ⟨rfl, rfl, by decide⟩
      · simp [Item.bytes] at r2; omega
      · exact ⟨rfl, rfl, (hexd_ok (c.toNat / 16) (by have := c.toNat_lt; omega)).2.1⟩
    obtain ⟨x3, x0, x1⟩ := hx3
    have h0 := hat 0 (by omega)
    have h1 := hat 1 (by omega)
    have hr : r = 1 ∨ r = 2 := by omega
    rcases hr with rfl | rfl
    · have : s1 (flat A ++ flat (x :: R')) 1 k = (flat A).length := by
        unfold s1
        rw [if_pos ⟨by omega, by rw [show k - 1 = (flat A).length + 0 from by omega, h0, x0]⟩]
        omega
      rw [this, b2]
    · have h1' : s1 (flat A ++ flat (x :: R')) 1 k = k := by
        unfold s1
        rw [if_neg]
        rintro ⟨_, q⟩
        rw [show k - 1 = (flat A).length + 1 from by omega, h1] at q
        exact x1 q
      have : s1 (flat A ++ flat (x :: R')) 2 k = (flat A).length := by
        unfold s1
        rw [if_pos ⟨by omega, by rw [show k - 2 = (flat A).length + 0 from by omega, h0, x0]⟩]
        omega
      rw [h1', this]

theorem quote_place (b : List UInt8) (k q : Nat) (hk : k ≤ (quoteS b).length) (hq : q = s1 (quoteS b) 2 (s1 (quoteS b) 1 k)) :
    q ≤ (quoteS b).length ∧ (q = 0 ∨ ((quoteS b).getD (q - 1) 0 ≠ 13 ∧ (quoteS b).getD (q - 1) 0 ≠ 61)) ∧ unquoteS ((quoteS b).take q ++ [61, 13, 10] ++ (quoteS b).drop q) = some b := by
  subst hq
  obtain ⟨I, h1, h2, h3, h4⟩ := quote_items b
  rw [← h1] at hk ⊢
  obtain ⟨A, R, e, ha⟩ := s12_between I h3 k hk
  rw [ha]
  have hfl : flat I = flat A ++ flat R := by rw [e, flat_append]
  refine ⟨by rw [hfl, List.length_append]; omega, ?_, ?_⟩
  · by_cases h0 : (flat A).length = 0
    · exact .inl h0
    · right
      obtain ⟨c, e1, e2⟩ := last_at (flat A) (flat R) (by omega)
      have := (bound_last A (fun x hx => h3 x (by rw [e]; simp [hx]))).1 c e2
      rw [hfl, e1]
      exact ⟨this.2, this.1⟩
  rw [hfl, List.take_left, List.drop_left]
  have hm : flat A ++ [61, 13, 10] ++ flat R = flat (A ++ Item.soft :: R) := by
    rw [flat_append, show flat (Item.soft :: R) = [61, 13, 10] ++ flat R from rfl, List.append_assoc]
  rw [hm, unquote_items (A ++ Item.soft :: R)]
  · rw [vals_append, show vals (Item.soft :: R) = vals R from rfl, ← vals_append, ← e, h2]
  · intro x hx
    simp only [List.mem_append, List.mem_cons] at hx
    rcases hx with hx | rfl | hx
    · exact h3 x (by rw [e]; simp [hx])
    · rfl
    · exact h3 x (by rw [e]; simp [hx])
  · intro x hx
    cases R with
    | nil =>
      rw [List.getLast?_append] at hx
      simp at hx
      subst hx
      rfl
    | cons y R =>
      apply h4
      rw [e, List.getLast?_append]
      rw [List.getLast?_append, List.getLast?_cons_cons] at hx
      exact hx

end Go.Proofs.YtkgpmahlkglaaaaDoor
