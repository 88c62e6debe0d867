import Derived.Test.YtkgpmahlkglaaaaDoorW13
import Derived.Test.YtkgpmahlkglaaaaDoorM1
import Derived.Lib.SplitLaws
namespace Go.Proofs.YtkgpmahlkglaaaaDoor
open Go.RowKit

/-- Lines, a line end behind each, and what stands behind the last one. -/
def joinLines (Ls : List (List UInt8)) (cur : List UInt8) : List UInt8 := Ls.flatMap (fun l => l ++ [13, 10]) ++ cur

theorem joinLines_cons (l : List UInt8) (Ls : List (List UInt8)) (cur : List UInt8) : joinLines (l :: Ls) cur = l ++ [13, 10] ++ joinLines Ls cur := by simp [joinLines]
theorem joinLines_append (Ls : List (List UInt8)) (cur x : List UInt8) : joinLines Ls cur ++ x = joinLines Ls (cur ++ x) := by simp [joinLines]
theorem joinLines_snoc (Ls : List (List UInt8)) (cur x y : List UInt8) : joinLines Ls cur ++ (x ++ [13, 10]) ++ y = joinLines (Ls ++ [cur ++ x]) y := by simp [joinLines]

theorem index_hitL (x r : List UInt8) (h : ∀ c ∈ x, c ≠ 13) : Lib.index (x ++ [13, 10] ++ r) [13, 10] = (x.length : Int) := by
  induction x with
  | nil => rw [List.nil_append]; show Lib.index (13 :: 10 :: r) [13, 10] = _; unfold Lib.index; simp
  | cons b x ih =>
    have hb : b ≠ 13 := h b (by simp)
    have ih' := ih (fun c hc => h c (by simp [hc]))
    have hp : ([13, 10] : List UInt8).isPrefixOf (b :: (x ++ [13, 10] ++ r)) = false := by simp [List.isPrefixOf, Ne.symm hb]
    show Lib.index (b :: (x ++ [13, 10] ++ r)) [13, 10] = _
    rw [Lib.index, hp, ih', if_neg (by simp), if_neg (by simp)]
    simp

theorem index_missL (x : List UInt8) (h : ∀ c ∈ x, c ≠ 13) : Lib.index x [13, 10] = -1 := by
  induction x with
  | nil => rfl
  | cons b x ih =>
    have hb : b ≠ 13 := h b (by simp)
    have ih' := ih (fun c hc => h c (by simp [hc]))
    have hp : ([13, 10] : List UInt8).isPrefixOf (b :: x) = false := by simp [List.isPrefixOf, Ne.symm hb]
    rw [Lib.index, hp, ih']
    rfl

theorem drop_line (l r : List UInt8) : (l ++ [13, 10] ++ r).drop (l.length + ([13, 10] : List UInt8).length) = r := by
  have : l.length + ([13, 10] : List UInt8).length = (l ++ [13, 10]).length := by simp
  rw [this, List.drop_left]

theorem split_lines (Ls : List (List UInt8)) (cur : List UInt8) (h : ∀ l ∈ Ls, ∀ c ∈ l, c ≠ 13) (hc : ∀ c ∈ cur, c ≠ 13) :
    Lib.count (joinLines Ls cur) [13, 10] = Ls.length ∧ Lib.splitK [13, 10] 0 Ls.length (joinLines Ls cur) = Ls ++ [cur] := by
  induction Ls with
  | nil =>
    refine ⟨?_, rfl⟩
    exact Lib.count_miss (index_missL cur hc)
  | cons l Ls ih =>
    have hi := index_hitL l (joinLines Ls cur) (h l (by simp))
    obtain ⟨i1, i2⟩ := ih (fun l hl => h l (by simp [hl]))
    rw [joinLines_cons]
    constructor
    · rw [Lib.count_hit (by simp) hi]
      rw [drop_line, i1]
      simp; omega
    · rw [List.length_cons, Lib.splitK, hi]
      rw [if_neg (by simp)]
      rw [Int.toNat_natCast, drop_line, i2]
      simp

def okL (p : List UInt8) : Prop := p.length ≤ 76 ∧ Lib.hasSuffix p [32] = false ∧ Lib.hasSuffix p [9] = false ∧ ∀ c ∈ p, okByte c

theorem okLine_of (p : ByteArray) (h : okL p.data.toList) : okLine p := by
  obtain ⟨h1, h2, h3, h4⟩ := h
  refine ⟨by rw [size_list] at h1; exact h1, h2, h3, fun k hk => ?_⟩
  exact h4 _ (List.getElem_mem (by rw [size_list]; exact hk))

theorem lines_of (s : ByteArray) (Ls : List (List UInt8)) (cur : List UInt8) (hs : s.data.toList = joinLines Ls cur) (h : ∀ l ∈ Ls ++ [cur], ∀ c ∈ l, c ≠ 13) (ho : ∀ l ∈ Ls ++ [cur], okL l) :
    (Lib.splitB ⟨#[13, 10]⟩ 0 (Lib.countB s ⟨#[13, 10]⟩) s).length = Lib.countB s ⟨#[13, 10]⟩ + 1 ∧ ∀ p ∈ Lib.splitB ⟨#[13, 10]⟩ 0 (Lib.countB s ⟨#[13, 10]⟩) s, okLine p := by
  refine ⟨Lib.splitB_all _ (by decide) 0 _ s rfl, ?_⟩
  obtain ⟨i1, i2⟩ := split_lines Ls cur (fun l hl => h l (by simp [hl])) (h cur (by simp))
  have hcnt : Lib.countB s ⟨#[13, 10]⟩ = Ls.length := by
    show Lib.count s.data.toList [13, 10] = _
    rw [hs, i1]
  have hd := Lib.splitB_data ⟨#[13, 10]⟩ 0 (Lib.countB s ⟨#[13, 10]⟩) s
  rw [hcnt, hs] at hd
  intro p hp
  rw [hcnt] at hp
  apply okLine_of
  apply ho
  rw [← i2]
  have hd' : List.map (fun x => x.data.toList) (Lib.splitB ⟨#[13, 10]⟩ 0 Ls.length s) = Lib.splitK [13, 10] 0 Ls.length (joinLines Ls cur) := hd
  rw [← hd']
  exact List.mem_map_of_mem hp

theorem suffix_one (l : List UInt8) (c d : UInt8) (h : c ≠ d) : Lib.hasSuffix (l ++ [c]) [d] = false := by
  unfold Lib.hasSuffix
  rw [Bool.eq_false_iff]
  intro hs
  rw [List.isSuffixOf_iff_suffix] at hs
  obtain ⟨t, ht⟩ := hs
  have := List.append_inj_right' ht rfl
  simp at this
  exact h this.symm

/-- The lines of what bytes are packed as. -/
theorem pack_lines (l : List UInt8) (hl : ∀ c ∈ l, b64 c = true) (k : Nat) (hk : k ≤ l.length) :
    ∃ Ls cur, inLinesTo l k = joinLines Ls cur ∧ (∀ p ∈ Ls ++ [cur], p.length ≤ 76 ∧ ∀ c ∈ p, b64 c = true) ∧ cur.length = (if k = l.length then 0 else k % 76) := by
  induction k with
  | zero => exact ⟨[], [], rfl, by simp, by simp⟩
  | succ k ih =>
    obtain ⟨Ls, cur, h1, h2, h3⟩ := ih (by omega)
    have hk' : k < l.length := by omega
    have hg : l.getD k 0 = l[k] := by rw [List.getD_eq_getElem?_getD, List.getElem?_eq_getElem hk']; rfl
    have hb : b64 l[k] = true := hl _ (List.getElem_mem hk')
    rw [if_neg (by omega)] at h3
    have hcl : (cur ++ [l[k]]).length ≤ 76 := by rw [List.length_append, h3]; simp; omega
    have hcb : ∀ c ∈ cur ++ [l[k]], b64 c = true := by
      intro c hc
      rw [List.mem_append] at hc
      rcases hc with hc | hc
      · exact (h2 cur (by simp)).2 c hc
      · simp at hc; subst hc; exact hb
    by_cases hcut : (k + 1) % 76 = 0 ∨ k + 1 = l.length
    · refine ⟨Ls ++ [cur ++ [l[k]]], [], ?_, ?_, ?_⟩
      · rw [inLinesTo_cut l k hcut, h1, hg]
        have := joinLines_snoc Ls cur [l[k]] []
        rw [List.append_nil] at this
        rw [← this, List.append_assoc]
      · intro p hp
        simp only [List.mem_append, List.mem_cons, List.not_mem_nil, or_false] at hp
        rcases hp with (hp | rfl) | rfl
        · exact h2 p (by simp [hp])
        · exact ⟨hcl, hcb⟩
        · exact ⟨by simp, by simp⟩
      · split
        · rfl
        · have : (k + 1) % 76 = 0 := by omega
          simp [this]
    · refine ⟨Ls, cur ++ [l[k]], ?_, ?_, ?_⟩
      · rw [inLinesTo_on l k hcut, h1, hg, joinLines_append]
      · intro p hp
        simp only [List.mem_append, List.mem_cons, List.not_mem_nil, or_false] at hp
        rcases hp with hp | rfl
        · exact h2 p (by simp [hp])
        · exact ⟨hcl, hcb⟩
      · rw [if_neg (by omega), List.length_append, h3]
        simp
        omega

theorem okL_b64 (p : List UInt8) (h1 : p.length ≤ 76) (h2 : ∀ c ∈ p, b64 c = true) : okL p := by
  refine ⟨h1, ?_, ?_, fun c hc => ?_⟩
  · rcases List.eq_nil_or_concat p with rfl | ⟨q, c, rfl⟩
    · rfl
    · rw [List.concat_eq_append]; exact suffix_one q c 32 (b64_skip c (h2 c (by simp))).2.2.2.2.1
  · rcases List.eq_nil_or_concat p with rfl | ⟨q, c, rfl⟩
    · rfl
    · rw [List.concat_eq_append]; exact suffix_one q c 9 (b64_skip c (h2 c (by simp))).2.2.2.2.2
  · have := b64_skip c (h2 c hc)
    exact .inl ⟨this.2.2.1, this.2.2.2.1⟩

theorem pack_ok (b : List UInt8) : ∃ Ls cur, packS b = joinLines Ls cur ∧ (∀ l ∈ Ls ++ [cur], ∀ c ∈ l, c ≠ 13) ∧ (∀ l ∈ Ls ++ [cur], okL l) := by
  obtain ⟨Ls, cur, h1, h2, _⟩ := pack_lines (packTo b ((b.length + 2) / 3)) (packTo_b64 _ _) _ (Nat.le_refl _)
  exact ⟨Ls, cur, h1, fun l hl c hc => (b64_skip c ((h2 l hl).2 c hc)).2.1, fun l hl => okL_b64 l (h2 l hl).1 (h2 l hl).2⟩

end Go.Proofs.YtkgpmahlkglaaaaDoor
