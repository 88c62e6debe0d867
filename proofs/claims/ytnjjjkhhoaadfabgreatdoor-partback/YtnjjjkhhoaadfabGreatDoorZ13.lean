import Derived.Test.YtnjjjkhhoaadfabGreatDoorZ12
import Derived.Lib.SplitLaws
namespace Go.Proofs.YtnjjjkhhoaadfabGreatDoor.Tx
open Go.RowKit Go.Proofs.Sx

/-- Lines, a line end behind each, and what stands behind the last one. -/
def joinLines (Ls : List (List UInt8)) (cur : List UInt8) : List UInt8 := Ls.flatMap (fun l => l ++ [13, 10]) ++ cur

theorem joinLines_cons (l : List UInt8) (Ls : List (List UInt8)) (cur : List UInt8) : joinLines (l :: Ls) cur = l ++ [13, 10] ++ joinLines Ls cur := by simp [joinLines]
theorem joinLines_append (Ls : List (List UInt8)) (cur x : List UInt8) : joinLines Ls cur ++ x = joinLines Ls (cur ++ x) := by simp [joinLines]
theorem joinLines_snoc (Ls : List (List UInt8)) (cur x y : List UInt8) : joinLines Ls cur ++ (x ++ [13, 10]) ++ y = joinLines (Ls ++ [cur ++ x]) y := by simp [joinLines]

theorem index_hitL (x r : List UInt8) (h : ∀ c ∈ x, c ≠ 13) : Lib.index (x ++ [13, 10] ++ r) [13, 10] = (x.length : Int) := by
  induction x with
  | nil => rw [List.nil_append]; show Lib.index (13 :: 10 :: r) [13, 10] = _; unfold Lib.index; simp
  | cons b x ih =>
    have hb : b ≠ 13 := h b (by simp)
    have ih' := ih (fun c hc => h c (by simp [hc]))
    have hp : ([13, 10] : List UInt8).isPrefixOf (b :: (x ++ [13, 10] ++ r)) = false := by simp [List.isPrefixOf, Ne.symm hb]
    show Lib.index (b :: (x ++ [13, 10] ++ r)) [13, 10] = _
    rw [Lib.index, hp, ih', if_neg (by simp), if_neg (by simp)]
    simp

theorem index_missL (x : List UInt8) (h : ∀ c ∈ x, c ≠ 13) : Lib.index x [13, 10] = -1 := by
  induction x with
  | nil => rfl
  | cons b x ih =>
    have hb : b ≠ 13 := h b (by simp)
    have ih' := ih (fun c hc => h c (by simp [hc]))
    have hp : ([13, 10] : List UInt8).isPrefixOf (b :: x) = false := by simp [List.isPrefixOf, Ne.symm hb]
    rw [Lib.index, hp, ih']
    rfl

theorem drop_line (l r : List UInt8) : (l ++ [13, 10] ++ r).drop (l.length + ([13, 10] : List UInt8).length) = r := by
  have : l.length + ([13, 10] : List UInt8).length = (l ++ [13, 10]).length := by simp
  rw [this, List.drop_left]

theorem split_lines (Ls : List (List UInt8)) (cur : List UInt8) (h : ∀ l ∈ Ls, ∀ c ∈ l, c ≠ 13) (hc : ∀ c ∈ cur, c ≠ 13) :
    Lib.count (joinLines Ls cur) [13, 10] = Ls.length ∧ Lib.splitK [13, 10] 0 Ls.length (joinLines Ls cur) = Ls ++ [cur] := by
  induction Ls with
  | nil =>
    refine ⟨?_, rfl⟩
    exact Lib.count_miss (index_missL cur hc)
  | cons l Ls ih =>
    have hi := index_hitL l (joinLines Ls cur) (h l (by simp))
    obtain ⟨i1, i2⟩ := ih (fun l hl => h l (by simp [hl]))
    rw [joinLines_cons]
    constructor
    · rw [Lib.count_hit (by simp) hi]
      rw [drop_line, i1]
      simp; omega
    · rw [List.length_cons, Lib.splitK, hi]
      rw [if_neg (by simp)]
      rw [Int.toNat_natCast, drop_line, i2]
      simp

def okL (p : List UInt8) : Prop := p.length ≤ 76 ∧ Lib.hasSuffix p [32] = false ∧ Lib.hasSuffix p [9] = false ∧ ∀ c ∈ p, okByte c

theorem okLine_of (p : ByteArray) (h : okL p.data.toList) : okLine p := by
  obtain ⟨h1, h2, h3, h4⟩ := h
  refine ⟨by rw [size_list] at h1; exact h1, h2, h3, fun k hk => ?_⟩
  exact h4 _ (List.getElem_mem (by rw [size_list]; exact hk))

theorem lines_of (s : ByteArray) (Ls : List (List UInt8)) (cur : List UInt8) (hs : s.data.toList = joinLines Ls cur) (h : ∀ l ∈ Ls ++ [cur], ∀ c ∈ l, c ≠ 13) (ho : ∀ l ∈ Ls ++ [cur], okL l) :
    (Lib.splitB ⟨#[13, 10]⟩ 0 (Lib.countB s ⟨#[13, 10]⟩) s).length = Lib.countB s ⟨#[13, 10]⟩ + 1 ∧ ∀ p ∈ Lib.splitB ⟨#[13, 10]⟩ 0 (Lib.countB s ⟨#[13, 10]⟩) s, okLine p := by
  refine ⟨Lib.splitB_all _ (by decide) 0 _ s rfl, ?_⟩
  obtain ⟨i1, i2⟩ := split_lines Ls cur (fun l hl => h l (by simp [hl])) (h cur (by simp))
  have hcnt : Lib.countB s ⟨#[13, 10]⟩ = Ls.length := by
    show Lib.count s.data.toList [13, 10] = _
    rw [hs, i1]
  have hd := Lib.splitB_data ⟨#[13, 10]⟩ 0 (Lib.countB s ⟨#[13, 10]⟩) s
  rw [hcnt, hs] at hd
  intro p hp
  rw [hcnt] at hp
  apply okLine_of
  apply ho
  rw [← i2]
  have hd' : List.map (fun x => x.data.toList) (Lib.splitB ⟨#[13, 10]⟩ 0 Ls.length s) = Lib.splitK [13, 10] 0 Ls.length (joinLines Ls cur) := hd
  rw [← hd']
  exact List.mem_map_of_mem hp

theorem suffix_one (l : List UInt8) (c d : UInt8) (h : c ≠ d) : Lib.hasSuffix (l ++ [c]) [d] = false := by
  unfold Lib.hasSuffix
  rw [Bool.eq_false_iff]
  intro hs
  rw [List.isSuffixOf_iff_suffix] at hs
  obtain ⟨t, ht⟩ := hs
  have := List.append_inj_right' ht rfl
  simp at this
  exact h this.symm

/-- The lines of what bytes are packed as. -/
theorem pack_lines (l : List UInt8) (hl : ∀ c ∈ l, b64 c = true) (k : Nat) (hk : k ≤ l.length) :
    ∃ Ls cur, inLinesTo l k = joinLines Ls cur ∧ (∀ p ∈ Ls ++ [cur], p.length ≤ 76 ∧ ∀ c ∈ p, b64 c = true) ∧ cur.length = (if k = l.length then 0 else k % 76) := by
  induction k with
  | zero => exact ⟨[], [], rfl, by simp, by simp⟩
  | succ k ih =>
    obtain ⟨Ls, cur, h1, h2, h3⟩ := ih (by omega)
    have hk' : k < l.length := by omega
    have hg : l.getD k 0 = l[k] := by rw [List.getD_eq_getElem?_getD, List.getElem?_eq_getElem hk']; rfl
    have hb : b64 l[k] = true := hl _ (List.getElem_mem hk')
    rw [if_neg (by omega)] at h3
    have hcl : (cur ++ [l[k]]).length ≤ 76 := by rw [List.length_append, h3]; simp; omega
    have hcb : ∀ c ∈ cur ++ [l[k]], b64 c = true := by
      intro c hc
      rw [List.mem_append] at hc
      rcases hc with hc | hc
      · exact (h2 cur (by simp)).2 c hc
      · simp at hc; subst hc; exact hb
    by_cases hcut : (k + 1) % 76 = 0 ∨ k + 1 = l.length
    · refine ⟨Ls ++ [cur ++ [l[k]]], [], ?_, ?_, ?_⟩
      · rw [inLinesTo_cut l k hcut, h1, hg]
        have := joinLines_snoc Ls cur [l[k]] []
        rw [List.append_nil] at this
        rw [← this, List.append_assoc]
      · intro p hp
        simp only [List.mem_append, List.mem_cons, List.not_mem_nil, or_false] at hp
        rcases hp with (hp | rfl) | rfl
        · exact h2 p (by simp [hp])
        · exact ⟨hcl, hcb⟩
        · exact ⟨by simp, by simp⟩
      · split
        · rfl
        · have : (k + 1) % 76 = 0 := by omega
          simp [this]
    · refine ⟨Ls, cur ++ [l[k]], ?_, ?_, ?_⟩
      · rw [inLinesTo_on l k hcut, h1, hg, joinLines_append]
      · intro p hp
        simp only [List.mem_append, List.mem_cons, List.not_mem_nil, or_false] at hp
        rcases hp with hp | rfl
        · exact h2 p (by simp [hp])
        · exact ⟨hcl, hcb⟩
      · rw [if_neg (by omega), List.length_append, h3]
        simp
        omega

theorem okL_b64 (p : List UInt8) (h1 : p.length ≤ 76) (h2 : ∀ c ∈ p, b64 c = true) : okL p := by
  refine ⟨h1, ?_, ?_, fun c hc => ?_⟩
  · rcases List.eq_nil_or_concat p with rfl | ⟨q, c, rfl⟩
    · rfl
    · rw [List.concat_eq_append]; exact suffix_one q c 32 (b64_skip c (h2 c (by simp))).2.2.2.2.1
  · rcases List.eq_nil_or_concat p with rfl | ⟨q, c, rfl⟩
    · rfl
    · rw [List.concat_eq_append]; exact suffix_one q c 9 (b64_skip c (h2 c (by simp))).2.2.2.2.2
  · have := b64_skip c (h2 c hc)
    exact .inl ⟨this.2.2.1, this.2.2.2.1⟩

theorem pack_ok (b : List UInt8) : ∃ Ls cur, packS b = joinLines Ls cur ∧ (∀ l ∈ Ls ++ [cur], ∀ c ∈ l, c ≠ 13) ∧ (∀ l ∈ Ls ++ [cur], okL l) := by
  obtain ⟨Ls, cur, h1, h2, _⟩ := pack_lines (packTo b ((b.length + 2) / 3)) (packTo_b64 _ _) _ (Nat.le_refl _)
  exact ⟨Ls, cur, h1, fun l hl c hc => (b64_skip c ((h2 l hl).2 c hc)).2.1, fun l hl => okL_b64 l (h2 l hl).1 (h2 l hl).2⟩

end Go.Proofs.YtnjjjkhhoaadfabGreatDoor.Tx

namespace Go.Proofs.YtnjjjkhhoaadfabGreatDoor.Tx
open Go.RowKit Go.Proofs.Sx

/-- What a quoted text is made of: a cut, a byte as it is, a byte by its digits. -/
abbrev Item := Option (UInt8 ⊕ UInt8)
abbrev Item.soft : Item := none
abbrev Item.lit (c : UInt8) : Item := some (.inl c)
abbrev Item.hex (c : UInt8) : Item := some (.inr c)

def Item.bytes : Item → List UInt8
  | none => [61, 13, 10]
  | some (.inl c) => [c]
  | some (.inr c) => [61, hexd (c.toNat / 16), hexd (c.toNat % 16)]
def Item.val : Item → List UInt8
  | none => []
  | some (.inl c) => [c]
  | some (.inr c) => [c]
def Item.ok : Item → Bool
  | some (.inl c) => isLetter c || isBlank c
  | _ => true
def Item.isSoft : Item → Bool
  | none => true
  | _ => false
/-- It may stand at a line's end. -/
def Item.ends : Item → Bool
  | some (.inl c) => isLetter c
  | _ => true

def flat (I : List Item) : List UInt8 := I.flatMap Item.bytes
def vals (I : List Item) : List UInt8 := I.flatMap Item.val
theorem flat_append (a b : List Item) : flat (a ++ b) = flat a ++ flat b := by simp [flat]
theorem vals_append (a b : List Item) : vals (a ++ b) = vals a ++ vals b := by simp [vals]

theorem hexv_hexd (n : Nat) (h : n < 16) : hexv (hexd n) = (n : Int) := by
  have : ∀ n : Fin 16, hexv (hexd n.val) = (n.val : Int) := by decide +kernel
  exact this ⟨n, h⟩
theorem hexd_ok (n : Nat) (h : n < 16) : isLetter (hexd n) = true ∧ hexd n ≠ 61 ∧ hexd n ≠ 13 ∧ 32 ≤ (hexd n).toNat ∧ (hexd n).toNat ≤ 126 ∧ hexd n ≠ 32 ∧ hexd n ≠ 9 := by
  have : ∀ n : Fin 16, isLetter (hexd n.val) = true ∧ hexd n.val ≠ 61 ∧ hexd n.val ≠ 13 ∧ 32 ≤ (hexd n.val).toNat ∧ (hexd n.val).toNat ≤ 126 ∧ hexd n.val ≠ 32 ∧ hexd n.val ≠ 9 := by decide +kernel
  exact this ⟨n, h⟩
theorem letter_ok (c : UInt8) (h : isLetter c = true) : c ≠ 61 ∧ c ≠ 13 ∧ 32 ≤ c.toNat ∧ c.toNat ≤ 126 ∧ c ≠ 32 ∧ c ≠ 9 := by
  unfold isLetter at h
  simp only [Bool.and_eq_true, decide_eq_true_eq, bne_iff_ne] at h
  obtain ⟨⟨h1, h2⟩, h3⟩ := h
  have a1 := UInt8.le_iff_toNat_le.1 h1
  have a2 := UInt8.le_iff_toNat_le.1 h2
  simp at a1 a2
  refine ⟨h3, ?_, by omega, by omega, ?_, ?_⟩ <;> (intro e; subst e; simp at a1)
theorem blank_ok (c : UInt8) (h : isBlank c = true) : c ≠ 61 ∧ c ≠ 13 ∧ okByte c := by
  unfold isBlank at h
  simp only [Bool.or_eq_true, beq_iff_eq] at h
  rcases h with rfl | rfl
  · exact ⟨by decide, by decide, .inl (by decide)⟩
  · exact ⟨by decide, by decide, .inr rfl⟩

def uf (q : Option (List UInt8 × Nat × Nat)) (c : UInt8) : Option (List UInt8 × Nat × Nat) := q.bind fun q => uqStep q c
theorem uf_some (q : List UInt8 × Nat × Nat) (c : UInt8) : uf (some q) c = uqStep q c := rfl
theorem uqAll_uf (l : List UInt8) : uqAll l = l.foldl uf (some ([], 0, 0)) := rfl

theorem uf_item (x : Item) (hx : x.ok = true) (hs : x.isSoft = false) (o : List UInt8) (V : Nat) : ∃ V', x.bytes.foldl uf (some (o, V, 0)) = some (o ++ x.val, V', 0) := by
  rcases x with _ | (c | c)
  · cases hs
  · skip
    refine ⟨V, ?_⟩
    have hx' : (isLetter c || isBlank c) = true := hx
    have h61 : c ≠ 61 := by
      simp only [Bool.or_eq_true] at hx'
      rcases hx' with h | h
      · exact (letter_ok c h).1
      · exact (blank_ok c h).1
    show uf (some (o, V, 0)) c = _
    rw [uf_some, uqStep_zero, if_neg h61, hx']
    rfl
  · skip
    have hc := c.toNat_lt
    refine ⟨c.toNat / 16 * 16 + c.toNat % 16, ?_⟩
    show uf (uf (uf (some (o, V, 0)) 61) (hexd (c.toNat / 16))) (hexd (c.toNat % 16)) = _
    rw [uf_some, uqStep_zero, if_pos rfl, uf_some, uqStep_two, hexv_hexd _ (by omega), if_neg (by omega), uf_some, uqStep_one, hexv_hexd _ (by omega), if_neg (by omega)]
    simp only [Int.toNat_natCast]
    rw [ofNat_eq _ c (by omega)]
    rfl

theorem uf_items (J : List Item) (hJ : ∀ x ∈ J, x.ok = true ∧ x.isSoft = false) (o : List UInt8) (V : Nat) : ∃ V', (flat J).foldl uf (some (o, V, 0)) = some (o ++ vals J, V', 0) := by
  induction J generalizing o V with
  | nil => exact ⟨V, by simp [flat, vals]⟩
  | cons x J ih =>
    obtain ⟨V1, h1⟩ := uf_item x (hJ x (by simp)).1 (hJ x (by simp)).2 o V
    obtain ⟨V2, h2⟩ := ih (fun y hy => hJ y (by simp [hy])) (o ++ x.val) V1
    refine ⟨V2, ?_⟩
    show (x.bytes ++ flat J).foldl uf _ = _
    rw [List.foldl_append, h1, h2, List.append_assoc]
    rfl

theorem unquoted_items (J : List Item) (hJ : ∀ x ∈ J, x.ok = true ∧ x.isSoft = false) : unquotedS (flat J) = some (vals J) := by
  obtain ⟨V, h⟩ := uf_items J hJ [] 0
  unfold unquotedS
  rw [uqAll_uf, h]
  simp

theorem item_no13 (x : Item) (hx : x.ok = true) (hs : x.isSoft = false) : ∀ c ∈ x.bytes, c ≠ 13 := by
  intro c hc
  rcases x with _ | (d | d)
  · cases hs
  · skip
    have hx' : (isLetter d || isBlank d) = true := hx
    simp only [Item.bytes, List.mem_cons, List.not_mem_nil, or_false] at hc
    subst hc
    simp only [Bool.or_eq_true] at hx'
    rcases hx' with h | h
    · exact (letter_ok c h).2.1
    · exact (blank_ok c h).2.1
  · skip
    have hd := d.toNat_lt
    simp only [Item.bytes, List.mem_cons, List.not_mem_nil, or_false] at hc
    rcases hc with rfl | rfl | rfl
    · decide
    · exact (hexd_ok _ (by omega)).2.2.1
    · exact (hexd_ok _ (by omega)).2.2.1

theorem flat_no13 (J : List Item) (hJ : ∀ x ∈ J, x.ok = true ∧ x.isSoft = false) : ∀ c ∈ flat J, c ≠ 13 := by
  intro c hc
  simp only [flat, List.mem_flatMap] at hc
  obtain ⟨x, hx, hc⟩ := hc
  exact item_no13 x (hJ x hx).1 (hJ x hx).2 c hc

theorem cut_hit (x r : List UInt8) (h : ∀ c ∈ x, c ≠ 13) : Lib.cut (x ++ [13, 10] ++ r) [13, 10] = (x, r, true) := by
  unfold Lib.cut
  rw [index_hitL x r h, if_pos (by omega), Int.toNat_natCast, drop_line]
  simp
theorem cut_miss (x : List UInt8) (h : ∀ c ∈ x, c ≠ 13) : Lib.cut x [13, 10] = (x, [], false) := by
  unfold Lib.cut
  rw [index_missL x h]
  rfl

theorem trim_last (l : List UInt8) (c : UInt8) (h1 : c ≠ 32) (h2 : c ≠ 9) : Lib.trimRightS (l ++ [c]) [32, 9] = l ++ [c] := by
  unfold Lib.trimRightS
  rw [List.reverse_append]
  simp only [List.reverse_cons, List.reverse_nil, List.nil_append, List.singleton_append]
  rw [List.dropWhile_cons_of_neg (by simp [h1, h2])]
  simp
theorem suffix_yes (l : List UInt8) (c : UInt8) : Lib.hasSuffix (l ++ [c]) [c] = true := by
  unfold Lib.hasSuffix
  rw [List.isSuffixOf_iff_suffix]
  exact List.suffix_append _ _

theorem lineOf_on (l : List UInt8) : lineOf (l ++ [61]) = l ∧ goesOn (l ++ [61]) = true := by
  unfold lineOf goesOn
  rw [trim_last l 61 (by decide) (by decide)]
  refine ⟨?_, suffix_yes l 61⟩
  unfold Lib.trimSuffix
  rw [suffix_yes, if_pos rfl]
  simp

/-- The last letter of what may stand at a line's end. -/
theorem item_last (x : Item) (hx : x.ends = true) (hs : x.isSoft = false) : ∃ l c, x.bytes = l ++ [c] ∧ c ≠ 61 ∧ c ≠ 32 ∧ c ≠ 9 := by
  rcases x with _ | (c | c)
  · cases hs
  · skip
    have := letter_ok c hx
    exact ⟨[], c, rfl, this.1, this.2.2.2.2.1, this.2.2.2.2.2⟩
  · skip
    have hc := c.toNat_lt
    have := hexd_ok (c.toNat % 16) (by omega)
    exact ⟨[61, hexd (c.toNat / 16)], _, rfl, this.2.1, this.2.2.2.2.2.1, this.2.2.2.2.2.2⟩

theorem lineOf_last (J : List Item) (hJ : ∀ x ∈ J, x.ok = true ∧ x.isSoft = false) (he : ∀ x, J.getLast? = some x → x.ends = true) : lineOf (flat J) = flat J := by
  rcases List.eq_nil_or_concat J with rfl | ⟨K, x, rfl⟩
  · rfl
  · rw [List.concat_eq_append] at hJ he ⊢
    obtain ⟨l, c, h1, h2, h3, h4⟩ := item_last x (he x (by simp)) (hJ x (by simp)).2
    have e : flat (K ++ [x]) = (flat K ++ l) ++ [c] := by
      rw [flat_append]
      show flat K ++ (x.bytes ++ []) = _
      rw [h1]
      simp
    rw [e]
    unfold lineOf
    rw [trim_last _ c h3 h4]
    unfold Lib.trimSuffix
    rw [suffix_one _ c 61 h2]
    rfl

/-- WHAT IS MADE OF ITEMS IS READ AS WHAT THEY STAND FOR. -/
theorem uqLoop_items (I J : List Item) (f : Nat) (out : List UInt8) (hI : ∀ x ∈ I, x.ok = true) (hJ : ∀ x ∈ J, x.ok = true ∧ x.isSoft = false)
    (he : ∀ x, (J ++ I).getLast? = some x → x.ends = true) (hf : (flat J ++ flat I).length < f) : uqLoop f (flat J ++ flat I) out = some (out ++ vals J ++ vals I) := by
  induction I generalizing J f out with
  | nil =>
    obtain ⟨f', rfl⟩ : ∃ f', f = f' + 1 := ⟨f - 1, by omega⟩
    have hc := cut_miss (flat J) (flat_no13 J hJ)
    have e : flat J ++ flat [] = flat J := by simp [flat]
    rw [e, uqLoop_end f' (flat J) out (flat J) [] (vals J) hc (by rw [lineOf_last J hJ (by simpa using he)]; exact unquoted_items J hJ)]
    simp [vals]
  | cons x I ih =>
    cases hs : x.isSoft with
    | false =>
      have := ih (J ++ [x]) f out (fun y hy => hI y (by simp [hy])) (by
        intro y hy
        rw [List.mem_append] at hy
        rcases hy with hy | hy
        · exact hJ y hy
        · simp at hy; subst hy; exact ⟨hI y (by simp), hs⟩) (by simpa using he) (by
        rw [flat_append, List.append_assoc, ← flat_append [x] I]
        exact hf)
      rw [flat_append, List.append_assoc, vals_append] at this
      rw [show flat (x :: I) = flat [x] ++ flat I from flat_append [x] I, show vals (x :: I) = vals [x] ++ vals I from vals_append [x] I, this]
      simp
    | true =>
      rcases x with _ | (c | c)
      rotate_left
      · cases hs
      · cases hs
      · skip
        obtain ⟨f', rfl⟩ : ∃ f', f = f' + 1 := ⟨f - 1, by omega⟩
        have e : flat J ++ flat (Item.soft :: I) = (flat J ++ [61]) ++ [13, 10] ++ flat I := by
          rw [show flat (Item.soft :: I) = [61, 13, 10] ++ flat I from flat_append [Item.soft] I]
          simp
        have hn : ∀ c ∈ flat J ++ [61], c ≠ 13 := by
          intro c hc
          rw [List.mem_append] at hc
          rcases hc with hc | hc
          · exact flat_no13 J hJ c hc
          · simp at hc; subst hc; decide
        have hc := cut_hit (flat J ++ [61]) (flat I) hn
        rw [e, uqLoop_on f' _ out _ _ (vals J) hc (by rw [(lineOf_on _).1]; exact unquoted_items J hJ), (lineOf_on _).2]
        have h1 := ih [] f' (out ++ vals J ++ if true = true then [] else [13, 10]) (fun y hy => hI y (by simp [hy])) (by simp) (by
          intro y hy
          cases I with
          | nil => cases hy
          | cons z I => 
            apply he y
            rw [List.getLast?_append]
            simp only [List.nil_append] at hy
            rw [List.getLast?_cons_cons, hy]
            rfl) (by
          rw [e] at hf
          simp [flat] at hf ⊢
          omega)
        rw [show flat [] ++ flat I = flat I from by simp [flat]] at h1
        rw [h1]
        simp [vals, Item.val]

theorem unquote_items (I : List Item) (hI : ∀ x ∈ I, x.ok = true) (he : ∀ x, I.getLast? = some x → x.ends = true) : unquoteS (flat I) = some (vals I) := by
  have := uqLoop_items I [] ((flat I).length + 1) [] hI (by simp) (by simpa using he) (by simp [flat])
  unfold unquoteS
  rw [show flat [] ++ flat I = flat I from by simp [flat]] at this
  rw [this]
  simp [vals]

end Go.Proofs.YtnjjjkhhoaadfabGreatDoor.Tx

namespace Go.Proofs.YtnjjjkhhoaadfabGreatDoor.Tx
open Go.RowKit Go.Proofs.Sx

/-- What a byte is quoted as, as an item. -/
def itemOf (c : UInt8) (last : Bool) : Item := if isLetter c || (isBlank c && !last) then Item.lit c else Item.hex c
theorem itemOf_bytes (c : UInt8) (last : Bool) : (itemOf c last).bytes = quotedL c last := by
  unfold itemOf quotedL; split <;> rfl
theorem itemOf_val (c : UInt8) (last : Bool) : (itemOf c last).val = [c] := by unfold itemOf; split <;> rfl
theorem itemOf_ok (c : UInt8) (last : Bool) : (itemOf c last).ok = true ∧ (itemOf c last).isSoft = false ∧ (itemOf c true).ends = true := by
  refine ⟨?_, ?_, ?_⟩
  · unfold itemOf
    split
    · rename_i h
      show (isLetter c || isBlank c) = true
      cases h1 : isLetter c <;> simp_all
    · rfl
  · unfold itemOf; split <;> rfl
  · unfold itemOf
    split
    · rename_i h
      show isLetter c = true
      simpa using h
    · rfl

theorem item_okByte (x : Item) (hx : x.ok = true) (hs : x.isSoft = false) : ∀ c ∈ x.bytes, okByte c := by
  intro c hc
  rcases x with _ | (d | d)
  · cases hs
  · skip
    have hx' : (isLetter d || isBlank d) = true := hx
    simp only [Item.bytes, List.mem_cons, List.not_mem_nil, or_false] at hc
    subst hc
    simp only [Bool.or_eq_true] at hx'
    rcases hx' with h | h
    · have := letter_ok c h
      exact .inl ⟨this.2.2.1, this.2.2.2.1⟩
    · exact (blank_ok c h).2.2
  · skip
    have hd := d.toNat_lt
    simp only [Item.bytes, List.mem_cons, List.not_mem_nil, or_false] at hc
    rcases hc with rfl | rfl | rfl
    · exact .inl (by decide)
    · have := hexd_ok (d.toNat / 16) (by omega)
      exact .inl ⟨this.2.2.2.1, this.2.2.2.2.1⟩
    · have := hexd_ok (d.toNat % 16) (by omega)
      exact .inl ⟨this.2.2.2.1, this.2.2.2.2.1⟩

/-- The shape of the first k bytes quoted. -/
structure Shape (b : List UInt8) (k : Nat) (o : List UInt8) (G : Nat) : Prop where
  items : ∃ I, flat I = o ∧ vals I = b.take k ∧ (∀ x ∈ I, x.ok = true) ∧ (k = b.length → ∀ x, I.getLast? = some x → x.ends = true)
  lines : ∃ Ls cur, o = joinLines Ls cur ∧ (∀ l ∈ Ls, okL l ∧ ∀ c ∈ l, c ≠ 13) ∧ cur.length = G ∧ (∀ c ∈ cur, okByte c ∧ c ≠ 13) ∧ (G ≤ 76 ∧ (k < b.length → G ≤ 75)) ∧ (k = b.length → okL cur)

theorem okL_61 (cur : List UInt8) (h : cur.length ≤ 75) (hb : ∀ c ∈ cur, okByte c) : okL (cur ++ [61]) := by
  refine ⟨by simp; omega, suffix_one _ 61 32 (by decide), suffix_one _ 61 9 (by decide), fun c hc => ?_⟩
  rw [List.mem_append] at hc
  rcases hc with hc | hc
  · exact hb c hc
  · simp at hc; subst hc; exact .inl (by decide)

theorem okL_last (cur : List UInt8) (x : Item) (hx : x.ends = true) (hs : x.isSoft = false) (hl : (cur ++ x.bytes).length ≤ 76) (hb : ∀ c ∈ cur ++ x.bytes, okByte c) : okL (cur ++ x.bytes) := by
  obtain ⟨l, c, h1, _, h3, h4⟩ := item_last x hx hs
  have e : cur ++ x.bytes = (cur ++ l) ++ [c] := by rw [h1]; simp
  refine ⟨hl, ?_, ?_, hb⟩
  · rw [e]; exact suffix_one _ c 32 h3
  · rw [e]; exact suffix_one _ c 9 h4

theorem quoteTo_shape (b : List UInt8) (k : Nat) (hk : k ≤ b.length) : Shape b k (quoteTo b k).1 (quoteTo b k).2 := by
  induction k with
  | zero =>
    refine ⟨⟨[], rfl, by simp [vals], by simp, by simp⟩, ⟨[], [], rfl, by simp, rfl, by simp, ⟨by simp [quoteTo], by simp [quoteTo]⟩, fun _ => ⟨by simp, rfl, rfl, by simp⟩⟩⟩
  | succ k ih =>
    obtain ⟨⟨I, i1, i2, i3, _⟩, ⟨Ls, cur, l1, l2, l3, l4, l5, _⟩⟩ := ih (by omega)
    have hk' : k < b.length := by omega
    have hg : b.getD k 0 = b[k] := by rw [List.getD_eq_getElem?_getD, List.getElem?_eq_getElem hk']; rfl
    have hG := l5.2 hk'
    rw [quoteTo, hg]
    obtain ⟨c, hc⟩ : ∃ c, c = b[k] := ⟨_, rfl⟩
    have ht : b.take (k + 1) = b.take k ++ [c] := by rw [hc]; exact take_snocL b k hk'
    obtain ⟨last, hlast⟩ : ∃ last, last = decide (k + 1 = b.length) := ⟨_, rfl⟩
    rw [← hc, ← hlast]
    have hx := itemOf_ok c last
    have hbytes := itemOf_bytes c last
    have hval := itemOf_val c last
    have h3 : (quotedL c last).length ≤ 3 := quotedL_length c last
    have hob : ∀ d ∈ quotedL c last, okByte d ∧ d ≠ 13 := by
      rw [← hbytes]
      exact fun d hd => ⟨item_okByte _ hx.1 hx.2.1 d hd, item_no13 _ hx.1 hx.2.1 d hd⟩
    have hend : k + 1 = b.length → (itemOf c last).ends = true := by
      intro h
      rw [hlast, decide_eq_true h]
      exact hx.2.2
    by_cases hov : (if k + 1 = b.length then 76 else 75) < (quoteTo b k).2 + (quotedL c last).length
    · rw [if_pos hov]
      refine ⟨⟨I ++ [Item.soft, itemOf c last], ?_, ?_, ?_, ?_⟩, ⟨Ls ++ [cur ++ [61]], quotedL c last, ?_, ?_, rfl, hob, ⟨by omega, by omega⟩, ?_⟩⟩
      · rw [flat_append, i1]
        show _ ++ ([61, 13, 10] ++ ((itemOf c last).bytes ++ [])) = _
        rw [hbytes]; simp
      · rw [vals_append, i2, ht]
        show _ ++ ([] ++ ((itemOf c last).val ++ [])) = _
        rw [hval]; simp
      · intro x hx'
        simp only [List.mem_append, List.mem_cons, List.not_mem_nil, or_false] at hx'
        rcases hx' with hx' | rfl | rfl
        · exact i3 x hx'
        · rfl
        · exact hx.1
      · intro h x hx'
        rw [List.getLast?_append] at hx'
        simp at hx'
        subst hx'
        exact hend h
      · have := joinLines_snoc Ls cur [61] (quotedL c last)
        rw [← this, l1]
        simp
      · intro l hl
        simp only [List.mem_append, List.mem_cons, List.not_mem_nil, or_false] at hl
        rcases hl with hl | rfl
        · exact l2 l hl
        · refine ⟨okL_61 cur (by omega) (fun c hc => (l4 c hc).1), fun d hd => ?_⟩
          rw [List.mem_append] at hd
          rcases hd with hd | hd
          · exact (l4 d hd).2
          · simp at hd; subst hd; decide
      · intro h
        have := okL_last [] (itemOf c last) (hend h) hx.2.1 (by rw [hbytes]; simp; omega) (by rw [hbytes]; simpa using fun d hd => (hob d hd).1)
        rw [hbytes] at this
        simpa using this
    · rw [if_neg hov]
      have hcb : ∀ d ∈ cur ++ quotedL c last, okByte d ∧ d ≠ 13 := by
        intro d hd
        rw [List.mem_append] at hd
        rcases hd with hd | hd
        · exact l4 d hd
        · exact hob d hd
      refine ⟨⟨I ++ [itemOf c last], ?_, ?_, ?_, ?_⟩, ⟨Ls, cur ++ quotedL c last, ?_, l2, by rw [List.length_append, l3], hcb, ?_, ?_⟩⟩
      · rw [flat_append, i1]
        show _ ++ ((itemOf c last).bytes ++ []) = _
        rw [hbytes]; simp
      · rw [vals_append, i2, ht]
        show _ ++ ((itemOf c last).val ++ []) = _
        rw [hval]; simp
      · intro x hx'
        simp only [List.mem_append, List.mem_cons, List.not_mem_nil, or_false] at hx'
        rcases hx' with hx' | rfl
        · exact i3 x hx'
        · exact hx.1
      · intro h x hx'
        rw [List.getLast?_append] at hx'
        simp at hx'
        subst hx'
        exact hend h
      · show (quoteTo b k).1 ++ quotedL c last = _
        rw [l1, joinLines_append]
      · show _ + _ ≤ 76 ∧ (_ → _ + _ ≤ 75)
        constructor
        · split at hov <;> omega
        · intro h
          rw [if_neg (by omega)] at hov
          omega
      · intro h
        rw [if_pos h] at hov
        have := okL_last cur (itemOf c last) (hend h) hx.2.1 (by rw [hbytes, List.length_append, l3]; omega) (by rw [hbytes]; exact fun d hd => (hcb d hd).1)
        rw [hbytes] at this
        exact this

theorem quote_ok (b : List UInt8) : ∃ Ls cur, quoteS b = joinLines Ls cur ∧ (∀ l ∈ Ls ++ [cur], ∀ c ∈ l, c ≠ 13) ∧ (∀ l ∈ Ls ++ [cur], okL l) := by
  obtain ⟨_, ⟨Ls, cur, h1, h2, h3, h4, h5, h6⟩⟩ := quoteTo_shape b b.length (Nat.le_refl _)
  refine ⟨Ls, cur, h1, ?_, ?_⟩
  · intro l hl
    simp only [List.mem_append, List.mem_cons, List.not_mem_nil, or_false] at hl
    rcases hl with hl | rfl
    · exact (h2 l hl).2
    · exact fun c hc => (h4 c hc).2
  · intro l hl
    simp only [List.mem_append, List.mem_cons, List.not_mem_nil, or_false] at hl
    rcases hl with hl | rfl
    · exact (h2 l hl).1
    · exact h6 rfl

theorem quote_items (b : List UInt8) : ∃ I, flat I = quoteS b ∧ vals I = b ∧ (∀ x ∈ I, x.ok = true) ∧ (∀ x, I.getLast? = some x → x.ends = true) := by
  obtain ⟨⟨I, h1, h2, h3, h4⟩, _⟩ := quoteTo_shape b b.length (Nat.le_refl _)
  exact ⟨I, h1, by rw [h2, List.take_length], h3, h4 rfl⟩

theorem unquote_quote (b : List UInt8) : unquoteS (quoteS b) = some b := by
  obtain ⟨I, h1, h2, h3, h4⟩ := quote_items b
  rw [← h1, unquote_items I h3 h4, h2]

/-- Back from a place inside an item to its beginning. -/
def s1 (t : List UInt8) (n k : Nat) : Nat := if n ≤ k ∧ t.getD (k - n) 0 = 61 then k - n else k
def s3 (t : List UInt8) (d : UInt8) (k : Nat) : Nat := if 0 < k ∧ t.getD (k - 1) 0 = d then k - 1 else k
def adj (t : List UInt8) (k : Nat) : Nat := s3 t 61 (s3 t 13 (s1 t 2 (s1 t 1 k)))

theorem item_bytes_last (x : Item) (hx : x.ok = true) : ∃ l c, x.bytes = l ++ [c] ∧ c ≠ 61 ∧ c ≠ 13 ∧ ∀ d, l.getLast? = some d → d ≠ 61 := by
  rcases x with _ | (c | c)
  · exact ⟨[61, 13], 10, rfl, by decide, by decide, by intro d hd; cases hd; decide⟩
  · skip
    have hx' : (isLetter c || isBlank c) = true := hx
    refine ⟨[], c, rfl, ?_, ?_, by simp⟩
    · simp only [Bool.or_eq_true] at hx'
      rcases hx' with h | h
      · exact (letter_ok c h).1
      · exact (blank_ok c h).1
    · simp only [Bool.or_eq_true] at hx'
      rcases hx' with h | h
      · exact (letter_ok c h).2.1
      · exact (blank_ok c h).2.1
  · skip
    have hc := c.toNat_lt
    have h1 := hexd_ok (c.toNat / 16) (by omega)
    have h2 := hexd_ok (c.toNat % 16) (by omega)
    exact ⟨[61, hexd (c.toNat / 16)], _, rfl, h2.2.1, h2.2.2.1, by intro d hd; cases hd; exact h1.2.1⟩

/-- The last two letters at a place between two items. -/
theorem bound_last (A : List Item) (hA : ∀ x ∈ A, x.ok = true) : (∀ c, (flat A).getLast? = some c → c ≠ 61 ∧ c ≠ 13) ∧ (∀ c, (flat A).dropLast.getLast? = some c → c ≠ 61) := by
  rcases List.eq_nil_or_concat A with rfl | ⟨A', x, rfl⟩
  · exact ⟨by simp [flat], by simp [flat]⟩
  · rw [List.concat_eq_append] at hA ⊢
    obtain ⟨l, c, h1, h2, h3, h4⟩ := item_bytes_last x (hA x (by simp))
    have e : flat (A' ++ [x]) = (flat A' ++ l) ++ [c] := by
      rw [flat_append]
      show flat A' ++ (x.bytes ++ []) = _
      rw [h1]; simp
    constructor
    · intro d hd
      rw [e] at hd
      simp at hd
      subst hd
      exact ⟨h2, h3⟩
    · intro d hd
      rw [e, List.dropLast_concat, List.getLast?_append] at hd
      cases hl : l.getLast? with
      | some q =>
        rw [hl] at hd
        cases hd
        exact h4 _ hl
      | none =>
        rw [hl] at hd
        have hd' : (flat A').getLast? = some d := hd
        clear hd
        rcases List.eq_nil_or_concat A' with rfl | ⟨A2, y, rfl⟩
        · cases hd'
        · rw [List.concat_eq_append] at hd' hA
          obtain ⟨l', c', g1, g2, _, _⟩ := item_bytes_last y (hA y (by simp))
          have e' : flat (A2 ++ [y]) = (flat A2 ++ l') ++ [c'] := by
            rw [flat_append]
            show flat A2 ++ (y.bytes ++ []) = _
            rw [g1]; simp
          rw [e'] at hd'
          simp at hd'
          subst hd'
          exact g2

theorem last_at (a r : List UInt8) (h : 0 < a.length) : ∃ c, (a ++ r).getD (a.length - 1) 0 = c ∧ a.getLast? = some c := by
  rcases List.eq_nil_or_concat a with rfl | ⟨a', c, rfl⟩
  · simp at h
  · rw [List.concat_eq_append]
    refine ⟨c, ?_, by simp⟩
    rw [List.getD_eq_getElem?_getD]
    simp
theorem last_at2 (a r : List UInt8) (h : 2 ≤ a.length) : ∃ c, (a ++ r).getD (a.length - 2) 0 = c ∧ a.dropLast.getLast? = some c := by
  rcases List.eq_nil_or_concat a with rfl | ⟨a', d, rfl⟩
  · simp at h
  · rw [List.concat_eq_append] at h ⊢
    rw [List.dropLast_concat]
    have h' : 0 < a'.length := by simp at h; omega
    obtain ⟨c, h1, h2⟩ := last_at a' ([d] ++ r) h'
    refine ⟨c, ?_, h2⟩
    rw [List.append_assoc, ← h1]
    congr 1
    simp

/-- A place between two items stays. -/
theorem adj_bound (A : List Item) (r : List UInt8) (hA : ∀ x ∈ A, x.ok = true) :
    s1 (flat A ++ r) 1 (flat A).length = (flat A).length ∧ s1 (flat A ++ r) 2 (flat A).length = (flat A).length ∧ s3 (flat A ++ r) 13 (flat A).length = (flat A).length ∧ s3 (flat A ++ r) 61 (flat A).length = (flat A).length := by
  obtain ⟨h1, h2⟩ := bound_last A hA
  refine ⟨?_, ?_, ?_, ?_⟩
  · unfold s1
    rw [if_neg]
    rintro ⟨a, b⟩
    obtain ⟨c, e1, e2⟩ := last_at (flat A) r a
    exact (h1 c e2).1 (e1 ▸ b)
  · unfold s1
    rw [if_neg]
    rintro ⟨a, b⟩
    obtain ⟨c, e1, e2⟩ := last_at2 (flat A) r a
    exact h2 c e2 (e1 ▸ b)
  · unfold s3
    rw [if_neg]
    rintro ⟨a, b⟩
    obtain ⟨c, e1, e2⟩ := last_at (flat A) r a
    exact (h1 c e2).2 (e1 ▸ b)
  · unfold s3
    rw [if_neg]
    rintro ⟨a, b⟩
    obtain ⟨c, e1, e2⟩ := last_at (flat A) r a
    exact (h1 c e2).1 (e1 ▸ b)

/-- Each place lies in an item. -/
theorem place_in (I : List Item) (k : Nat) (hk : k ≤ (flat I).length) : ∃ A R, I = A ++ R ∧ (k = (flat A).length ∨ ∃ x R', R = x :: R' ∧ ∃ r, 0 < r ∧ r < x.bytes.length ∧ k = (flat A).length + r) := by
  induction I generalizing k with
  | nil => exact ⟨[], [], rfl, .inl (by simpa [flat] using hk)⟩
  | cons x I ih =>
    by_cases h0 : k = 0
    · exact ⟨[], x :: I, rfl, .inl (by simp [flat, h0])⟩
    · by_cases h1 : k < x.bytes.length
      · exact ⟨[], x :: I, rfl, .inr ⟨x, I, rfl, k, by omega, h1, by simp [flat]⟩⟩
      · have hl : (flat (x :: I)).length = x.bytes.length + (flat I).length := by
          rw [show flat (x :: I) = x.bytes ++ flat I from rfl, List.length_append]
        obtain ⟨A, R, e, h⟩ := ih (k - x.bytes.length) (by omega)
        have ha : (flat (x :: A)).length = x.bytes.length + (flat A).length := by
          rw [show flat (x :: A) = x.bytes ++ flat A from rfl, List.length_append]
        refine ⟨x :: A, R, by rw [e]; rfl, ?_⟩
        rcases h with h | ⟨y, R', e1, r, r1, r2, r3⟩
        · exact .inl (by omega)
        · exact .inr ⟨y, R', e1, r, r1, r2, by omega⟩

/-- WHAT IS INSERTED STANDS BETWEEN TWO ITEMS. -/
theorem s12_between (I : List Item) (hI : ∀ x ∈ I, x.ok = true) (k : Nat) (hk : k ≤ (flat I).length) : ∃ A R, I = A ++ R ∧ s1 (flat I) 2 (s1 (flat I) 1 k) = (flat A).length := by
  obtain ⟨A, R, e, h⟩ := place_in I k hk
  have hA : ∀ x ∈ A, x.ok = true := fun x hx => hI x (by rw [e]; simp [hx])
  have hfl : flat I = flat A ++ flat R := by rw [e, flat_append]
  obtain ⟨b1, b2, _, _⟩ := adj_bound A (flat R) hA
  refine ⟨A, R, e, ?_⟩
  rw [hfl]
  rcases h with rfl | ⟨x, R', rfl, r, r1, r2, r3⟩
  · rw [b1, b2]
  · have hat : ∀ j, j < x.bytes.length → (flat A ++ flat (x :: R')).getD ((flat A).length + j) 0 = x.bytes.getD j 0 := by
      intro j hj
      rw [getD_append_right, show flat (x :: R') = x.bytes ++ flat R' from rfl, List.getD_eq_getElem?_getD, List.getD_eq_getElem?_getD, List.getElem?_append_left hj]
    have hx3 : x.bytes.length = 3 ∧ x.bytes.getD 0 0 = 61 ∧ x.bytes.getD 1 0 ≠ 61 := by
      rcases x with _ | (c | c)
      · exact ⟨rfl, rfl, by decide⟩
      · simp [Item.bytes] at r2; omega
      · exact ⟨rfl, rfl, (hexd_ok (c.toNat / 16) (by have := c.toNat_lt; omega)).2.1⟩
    obtain ⟨x3, x0, x1⟩ := hx3
    have h0 := hat 0 (by omega)
    have h1 := hat 1 (by omega)
    have hr : r = 1 ∨ r = 2 := by omega
    rcases hr with rfl | rfl
    · have : s1 (flat A ++ flat (x :: R')) 1 k = (flat A).length := by
        unfold s1
        rw [if_pos ⟨by omega, by rw [show k - 1 = (flat A).length + 0 from by omega, h0, x0]⟩]
        omega
      rw [this, b2]
    · have h1' : s1 (flat A ++ flat (x :: R')) 1 k = k := by
        unfold s1
        rw [if_neg]
        rintro ⟨_, q⟩
        rw [show k - 1 = (flat A).length + 1 from by omega, h1] at q
        exact x1 q
      have : s1 (flat A ++ flat (x :: R')) 2 k = (flat A).length := by
        unfold s1
        rw [if_pos ⟨by omega, by rw [show k - 2 = (flat A).length + 0 from by omega, h0, x0]⟩]
        omega
      rw [h1', this]

theorem quote_place (b : List UInt8) (k q : Nat) (hk : k ≤ (quoteS b).length) (hq : q = s1 (quoteS b) 2 (s1 (quoteS b) 1 k)) :
    q ≤ (quoteS b).length ∧ (q = 0 ∨ ((quoteS b).getD (q - 1) 0 ≠ 13 ∧ (quoteS b).getD (q - 1) 0 ≠ 61)) ∧ unquoteS ((quoteS b).take q ++ [61, 13, 10] ++ (quoteS b).drop q) = some b := by
  subst hq
  obtain ⟨I, h1, h2, h3, h4⟩ := quote_items b
  rw [← h1] at hk ⊢
  obtain ⟨A, R, e, ha⟩ := s12_between I h3 k hk
  rw [ha]
  have hfl : flat I = flat A ++ flat R := by rw [e, flat_append]
  refine ⟨by rw [hfl, List.length_append]; omega, ?_, ?_⟩
  · by_cases h0 : (flat A).length = 0
    · exact .inl h0
    · right
      obtain ⟨c, e1, e2⟩ := last_at (flat A) (flat R) (by omega)
      have := (bound_last A (fun x hx => h3 x (by rw [e]; simp [hx]))).1 c e2
      rw [hfl, e1]
      exact ⟨this.2, this.1⟩
  rw [hfl, List.take_left, List.drop_left]
  have hm : flat A ++ [61, 13, 10] ++ flat R = flat (A ++ Item.soft :: R) := by
    rw [flat_append, show flat (Item.soft :: R) = [61, 13, 10] ++ flat R from rfl, List.append_assoc]
  rw [hm, unquote_items (A ++ Item.soft :: R)]
  · rw [vals_append, show vals (Item.soft :: R) = vals R from rfl, ← vals_append, ← e, h2]
  · intro x hx
    simp only [List.mem_append, List.mem_cons] at hx
    rcases hx with hx | rfl | hx
    · exact h3 x (by rw [e]; simp [hx])
    · rfl
    · exact h3 x (by rw [e]; simp [hx])
  · intro x hx
    cases R with
    | nil =>
      rw [List.getLast?_append] at hx
      simp at hx
      subst hx
      rfl
    | cons y R =>
      apply h4
      rw [e, List.getLast?_append]
      rw [List.getLast?_append, List.getLast?_cons_cons] at hx
      exact hx

end Go.Proofs.YtnjjjkhhoaadfabGreatDoor.Tx

