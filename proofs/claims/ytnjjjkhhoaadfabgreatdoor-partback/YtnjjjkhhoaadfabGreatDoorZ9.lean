import Derived.Test.YtnjjjkhhoaadfabGreatDoorZ8
import Derived.Lib.Split
namespace Go.Proofs.YtnjjjkhhoaadfabGreatDoor
open Go.RowKit

/- What a head is written as, line by line. -/
def onLines (ls : List (List UInt8)) : List UInt8 := (ls.map fun x => x ++ [13, 10]).flatten
theorem onLines_append (a b : List (List UInt8)) : onLines (a ++ b) = onLines a ++ onLines b := by simp [onLines]
theorem onLines_one (x : List UInt8) : onLines [x] = x ++ [13, 10] := by simp [onLines]
def stepL (q : List (List UInt8) × List UInt8 × Bool) (w : List UInt8) : List (List UInt8) × List UInt8 × Bool :=
  if q.2.2 && decide (76 < q.2.1.length + w.length) then (q.1 ++ [q.2.1], w, true) else (q.1, q.2.1 ++ w, true)
def foldL (n : List UInt8) (ws : List (List UInt8)) : List (List UInt8) × List UInt8 × Bool := ws.foldl stepL ([], n ++ [58, 32], false)
theorem foldL_snoc (n : List UInt8) (ws : List (List UInt8)) (x : List UInt8) : foldL n (ws ++ [x]) = stepL (foldL n ws) x := by unfold foldL; rw [List.foldl_append]; rfl
theorem foldL_lines (n : List UInt8) (ws : List (List UInt8)) : linesW n ws = (onLines (foldL n ws).1 ++ (foldL n ws).2.1, (foldL n ws).2.1.length, (foldL n ws).2.2) := by
  induction ws using snoc_ind with
  | h0 => simp [linesW, begin, foldL, onLines]
  | h1 ws x ih =>
    rw [linesW_snoc, foldL_snoc, ih]
    unfold stepW stepL
    split
    · simp [onLines]
    · simp
def fieldL (n v : List UInt8) : List (List UInt8) := (foldL n (wordsS v)).1 ++ [(foldL n (wordsS v)).2.1]
theorem fieldS_lines (n v : List UInt8) : fieldS n v = onLines (fieldL n v) := by
  unfold fieldS fieldL
  rw [foldL_lines, onLines_append, onLines_one]
  simp

/-- Blanks, one or more, and then none. -/
def Single (z : List UInt8) : Prop := ∃ k u, z = List.replicate (k + 1) 32 ++ u ∧ (32 : UInt8) ∉ u
/-- A line that goes on. -/
def Cont (z : List UInt8) : Prop := (∃ t, z = 32 :: t) ∧ (z.length ≤ 76 ∨ Single z)
theorem Single.head {z : List UInt8} (h : Single z) : ∃ t, z = 32 :: t := by
  obtain ⟨k, u, rfl, _⟩ := h
  exact ⟨List.replicate k 32 ++ u, by rw [List.replicate_succ]; rfl⟩

theorem words_single (v : List UInt8) (k : Nat) : ∀ ws wd, Phase v k ws wd → k ≤ v.length → (∀ w ∈ ws.tail, Single w) ∧ (ws ≠ [] → Single wd) := by
  induction k with
  | zero =>
    intro ws wd h _
    rcases h with ⟨_, f, h1, _⟩ | ⟨h, _⟩
    · have : ws = [] := (congrArg Prod.fst h1).symm
      rw [this]
      exact ⟨fun w hw => absurd hw (by simp), fun h => absurd rfl h⟩
    · omega
  | succ k ih =>
    intro ws wd h hk
    rcases h with ⟨_, f, h1, hwd⟩ | ⟨h, _⟩
    · obtain ⟨ws0, f0, h0⟩ : ∃ ws0 f0, wordsTo v k = (ws0, f0) := ⟨_, _, rfl⟩
      have hf0 := wordsTo_le v k
      rw [h0] at hf0
      simp only at hf0
      have hp : Phase v k ws0 ((v.drop f0).take (k - f0)) := .inl ⟨by omega, f0, h0, rfl⟩
      obtain ⟨i1, i2⟩ := ih _ _ hp (by omega)
      have hkl : k < v.length := by omega
      have hgk : v[k]? = some v[k] := List.getElem?_eq_getElem hkl
      rw [wordsTo_succ v k h0] at h1
      by_cases hc : cutP v k = true
      · rw [if_pos hc] at h1
        simp only [Prod.mk.injEq] at h1
        obtain ⟨rfl, rfl⟩ := h1
        constructor
        · intro w hw
          cases ws0 with
          | nil => simp at hw
          | cons a ws0 =>
            simp only [List.cons_append, List.tail_cons] at hw i1
            rcases List.mem_append.1 hw with h | h
            · exact i1 w h
            · rw [List.mem_singleton.1 h]
              exact i2 (by simp)
        · intro _
          have e : k + 1 - k = 0 + 1 := by omega
          rw [hwd, e, List.take_add_one, List.getElem?_drop, Nat.add_zero, hgk]
          have h32 : v[k] = 32 := by
            unfold cutP at hc
            simp only [Bool.and_eq_true] at hc
            have := hc.1.2
            rw [List.getD_eq_getElem?_getD, hgk] at this
            simpa using this
          exact ⟨0, [], by rw [h32]; rfl, by simp⟩
      · rw [if_neg hc] at h1
        simp only [Prod.mk.injEq] at h1
        obtain ⟨rfl, rfl⟩ := h1
        refine ⟨i1, fun hne => ?_⟩
        obtain ⟨j, u, hz, hu⟩ := i2 hne
        have e : k + 1 - f0 = k - f0 + 1 := by omega
        have e2 : f0 + (k - f0) = k := by omega
        have ew : wd = (v.drop f0).take (k - f0) ++ [v[k]] := by
          rw [hwd, e, List.take_add_one, List.getElem?_drop, e2, hgk]; rfl
        rw [hz] at ew
        by_cases h32 : v[k] = 32
        · have hu0 : u = [] := by
            rcases List.eq_nil_or_concat u with h | ⟨u', c, rfl⟩
            · exact h
            · exfalso
              have hc32 : c ≠ 32 := fun h => hu (by rw [h]; simp)
              have hlast : ((v.drop f0).take (k - f0)).getLast? = some c := by rw [hz]; simp
              have hfk : f0 < k := by
                rcases Nat.lt_or_ge f0 k with h | h
                · exact h
                · have : k - f0 = 0 := by omega
                  rw [this] at hlast
                  simp at hlast
              have hlen : ((v.drop f0).take (k - f0)).length = k - f0 := by rw [List.length_take, List.length_drop]; omega
              rw [List.getLast?_eq_getElem?, hlen, List.getElem?_take, if_pos (by omega), List.getElem?_drop] at hlast
              have e3 : f0 + (k - f0 - 1) = k - 1 := by omega
              rw [e3] at hlast
              apply hc
              unfold cutP
              rw [List.getD_eq_getElem?_getD, List.getD_eq_getElem?_getD, hgk, hlast, h32]
              have h0 : decide (0 < k) = true := decide_eq_true (by omega)
              rw [h0]
              simp [hc32]
          subst hu0
          refine ⟨j + 1, [], ?_, by simp⟩
          rw [ew, h32]
          simp [List.replicate_succ']
        · refine ⟨j, u ++ [v[k]], by rw [ew]; simp, ?_⟩
          intro hm
          rcases List.mem_append.1 hm with h | h
          · exact hu h
          · exact h32 (List.mem_singleton.1 h).symm
    · omega
theorem words_tail (v : List UInt8) : ∀ w ∈ (wordsS v).tail, Single w := by
  obtain ⟨ws, f, h⟩ : ∃ ws f, wordsTo v v.length = (ws, f) := ⟨_, _, rfl⟩
  have hp : Phase v v.length ws ((v.drop f).take (v.length - f)) := .inl ⟨Nat.le_refl _, f, h, rfl⟩
  obtain ⟨i1, i2⟩ := words_single v v.length _ _ hp (Nat.le_refl _)
  unfold wordsS
  rw [h]
  intro w hw
  cases ws with
  | nil => simp at hw
  | cons a ws =>
    simp only [List.cons_append, List.tail_cons] at hw i1
    rcases List.mem_append.1 hw with h | h
    · exact i1 w h
    · rw [List.mem_singleton.1 h]
      have := i2 (by simp)
      rw [List.take_of_length_le (by rw [List.length_drop]; exact Nat.le_refl _)] at this
      exact this

/-- A field's lines: the first one, those that go on. -/
def Shape (n : List UInt8) (ws ls : List (List UInt8)) : Prop := ∃ a zs, ls = (n ++ [58, 32] ++ a) :: zs ∧ a ++ zs.flatten = ws.flatten ∧ ∀ z ∈ zs, Cont z
theorem foldL_flag (n : List UInt8) (ws : List (List UInt8)) : (foldL n ws).2.2 = !ws.isEmpty := by
  induction ws using snoc_ind with
  | h0 => rfl
  | h1 ws x ih =>
    rw [foldL_snoc]
    unfold stepL
    split <;> simp
theorem shape_fold (n : List UInt8) (ws : List (List UInt8)) (h : ∀ w ∈ ws.tail, Single w) : Shape n ws ((foldL n ws).1 ++ [(foldL n ws).2.1]) := by
  induction ws using snoc_ind with
  | h0 => exact ⟨[], [], by simp [foldL], rfl, fun z hz => absurd hz (by simp)⟩
  | h1 ws x ih =>
    have ht : ∀ w ∈ ws.tail, Single w := fun w hw => h w (by
      cases ws with
      | nil => simp at hw
      | cons a ws => simp only [List.cons_append, List.tail_cons] at hw ⊢; exact List.mem_append_left _ hw)
    have hx : ws ≠ [] → Single x := fun hne => h x (by
      cases ws with
      | nil => exact absurd rfl hne
      | cons a ws => simp)
    obtain ⟨a, zs, h1, h2, h3⟩ := ih ht
    have hfl := foldL_flag n ws
    rw [foldL_snoc]
    generalize foldL n ws = q at h1 hfl
    obtain ⟨done, cur, b⟩ := q
    simp only at h1 hfl
    unfold stepL
    simp only
    split
    · rename_i hb
      simp only [Bool.and_eq_true, decide_eq_true_eq] at hb
      have hne : ws ≠ [] := by
        intro e
        rw [hfl, e] at hb
        exact absurd hb.1 (by simp)
      refine ⟨a, zs ++ [x], ?_, ?_, ?_⟩
      · simp only
        rw [h1]; rfl
      · simp only [List.flatten_append, List.flatten_cons, List.flatten_nil, List.append_nil]
        rw [← List.append_assoc, h2]
      · intro z hz
        rcases List.mem_append.1 hz with h | h
        · exact h3 z h
        · rw [List.mem_singleton.1 h]
          exact ⟨(hx hne).head, .inr (hx hne)⟩
    · rename_i hb
      simp only
      cases done with
      | nil =>
        simp only [List.nil_append, List.cons.injEq] at h1 ⊢
        obtain ⟨rfl, rfl⟩ := h1
        refine ⟨a ++ x, [], by simp, ?_, fun z hz => absurd hz (by simp)⟩
        simp only [List.flatten_nil, List.append_nil] at h2 ⊢
        rw [List.flatten_append, ← h2]; simp
      | cons d ds =>
        simp only [List.cons_append, List.cons.injEq] at h1
        obtain ⟨rfl, rfl⟩ := h1
        have hcur := h3 cur (by simp)
        have hne : ws ≠ [] := by
          intro e
          rw [e] at h2
          simp at h2
          obtain ⟨⟨t, ht'⟩, _⟩ := hcur
          have := h2.2.2
          rw [ht'] at this
          simp at this
        have hb' : ¬ 76 < cur.length + x.length := by
          intro hh
          apply hb
          rw [hfl]
          have : ws.isEmpty = false := by cases ws <;> simp_all
          rw [this]
          simp [hh]
        refine ⟨a, ds ++ [cur ++ x], by simp, ?_, ?_⟩
        · simp only [List.flatten_append, List.flatten_cons, List.flatten_nil, List.append_nil] at h2 ⊢
          rw [← h2]; simp
        · intro z hz
          rcases List.mem_append.1 hz with h | h
          · exact h3 z (List.mem_append_left _ h)
          · rw [List.mem_singleton.1 h]
            obtain ⟨⟨t, ht'⟩, _⟩ := hcur
            exact ⟨⟨t ++ x, by rw [ht']; rfl⟩, .inl (by rw [List.length_append]; omega)⟩
theorem field_shape (n v : List UInt8) : ∃ a zs, fieldL n v = (n ++ [58, 32] ++ a) :: zs ∧ a ++ zs.flatten = v ∧ ∀ z ∈ zs, Cont z := by
  obtain ⟨a, zs, h1, h2, h3⟩ := shape_fold n (wordsS v) (words_tail v)
  rw [wordsS_flat] at h2
  exact ⟨a, zs, h1, h2, h3⟩

end Go.Proofs.YtnjjjkhhoaadfabGreatDoor

namespace Go.Proofs.YtnjjjkhhoaadfabGreatDoor
open Go.RowKit

theorem index_at (x t : List UInt8) (d : UInt8) (r : List UInt8) (h : ∀ c ∈ x, c ≠ d) : Lib.index (x ++ (d :: r) ++ t) (d :: r) = (x.length : Nat) := by
  refine Lib.index_first (by simp) ?_ ?_
  · unfold Lib.occAt
    rw [List.append_assoc, List.drop_left]
    simp
  · intro j hj
    unfold Lib.occAt
    have e : (x ++ (d :: r) ++ t).drop j = x[j] :: (x.drop (j + 1) ++ (d :: r) ++ t) := by
      rw [List.append_assoc, List.drop_append_of_le_length (by omega), List.drop_eq_getElem_cons hj, List.append_assoc]
      rfl
    rw [e]
    have hne : (d == x[j]) = false := by
      rw [beq_eq_false_iff_ne]
      exact fun e => h x[j] (List.getElem_mem hj) e.symm
    simp [List.isPrefixOf, hne]
theorem cut_first (x t : List UInt8) (d : UInt8) (r : List UInt8) (h : ∀ c ∈ x, c ≠ d) : Lib.cut (x ++ (d :: r) ++ t) (d :: r) = (x, t, true) := by
  have hi := index_at x t d r h
  unfold Lib.cut
  rw [hi, if_pos (by omega)]
  have e : ((x.length : Nat) : Int).toNat = x.length := by omega
  rw [e]
  have e1 : (x ++ (d :: r) ++ t).take x.length = x := by rw [List.append_assoc]; exact List.take_left
  have e2 : (x ++ (d :: r) ++ t).drop (x.length + (d :: r).length) = t := by
    rw [← List.length_append]
    exact List.drop_left
  rw [e1, e2]

theorem hl_join (ls : List (List UInt8)) (rest : List UInt8) (h1 : ∀ x ∈ ls, x ≠ []) (h2 : ∀ x ∈ ls, ∀ c ∈ x, c ≠ 13) : hl (onLines ls ++ [13, 10] ++ rest) = (ls, rest) := by
  induction ls with
  | nil =>
    have e : onLines [] ++ [13, 10] ++ rest = [] ++ (13 :: [10]) ++ rest := rfl
    have hc : Lib.cut ([] ++ (13 :: [10]) ++ rest) crlfL = ([], rest, true) := cut_first [] rest 13 [10] (by simp)
    rw [e, hl_stop _ (by simp) (by rw [hc]), hc]
  | cons x ls ih =>
    have e : onLines (x :: ls) ++ [13, 10] ++ rest = x ++ (13 :: [10]) ++ (onLines ls ++ [13, 10] ++ rest) := by simp [onLines]
    have hc : Lib.cut (x ++ (13 :: [10]) ++ (onLines ls ++ [13, 10] ++ rest)) crlfL = (x, onLines ls ++ [13, 10] ++ rest, true) := cut_first x _ 13 [10] (h2 x List.mem_cons_self)
    rw [e, hl_on _ (by simp) (by rw [hc]; exact h1 x List.mem_cons_self), hc, ih (fun y hy => h1 y (List.mem_cons_of_mem _ hy)) (fun y hy => h2 y (List.mem_cons_of_mem _ hy))]

def bodyF (f : Fl) : FB := (f.1.data.toList, 32 :: f.2.data.toList)
def allLines (L : List Fl) : List (List UInt8) := (L.map fun f => fieldL f.1.data.toList f.2.data.toList).flatten
theorem fieldsB_lines (L : List Fl) : fieldsB L = onLines (allLines L) := by
  induction L with
  | nil => rfl
  | cons f L ih =>
    have e1 : fieldsB (f :: L) = fieldS f.1.data.toList f.2.data.toList ++ fieldsB L := rfl
    have e2 : allLines (f :: L) = fieldL f.1.data.toList f.2.data.toList ++ allLines L := rfl
    rw [e1, e2, fieldS_lines, ih, onLines_append]

theorem nameC_ne {c : UInt8} (h : nameC c = true) : c ≠ 13 ∧ c ≠ 58 ∧ c ≠ 32 ∧ blk c = false := by
  simp only [nameC, Bool.and_eq_true, decide_eq_true_eq] at h
  have h13 : c ≠ 13 := fun e => by rw [e] at h; exact absurd h.1.1 (by decide)
  have h58 : c ≠ 58 := fun e => by rw [e] at h; exact absurd rfl h.2
  have h32 : c ≠ 32 := fun e => by rw [e] at h; exact absurd h.1.1 (by decide)
  have h9 : c ≠ 9 := fun e => by rw [e] at h; exact absurd h.1.1 (by decide)
  refine ⟨h13, h58, h32, ?_⟩
  unfold blk
  simp [h32, h9]
theorem sayC_ne {c : UInt8} (h : sayC c = true) : c ≠ 13 := by
  intro e
  rw [e] at h
  exact absurd h (by decide)
theorem right_parts {f : Fl} (h : rightF f = true) : f.1.data.toList ≠ [] ∧ (∀ c ∈ f.1.data.toList, nameC c = true) ∧ (∀ c ∈ f.2.data.toList, sayC c = true) ∧ trimS f.2.data.toList = f.2.data.toList ∧ nameS f.1.data.toList = true ∧ saysS f.2.data.toList = true := by
  unfold rightF at h
  simp only [Bool.and_eq_true] at h
  obtain ⟨hn, hs⟩ := h
  have hn' := hn
  have hs' := hs
  unfold nameS at hn
  unfold saysS at hs
  simp only [Bool.and_eq_true, Bool.not_eq_true', decide_eq_true_eq, List.all_eq_true] at hn hs
  refine ⟨fun e => ?_, hn.2, hs.1, hs.2, hn', hs'⟩
  rw [e] at hn
  exact absurd hn.1 (by simp)

theorem lines_plain (f : Fl) (h : rightF f = true) : ∀ x ∈ fieldL f.1.data.toList f.2.data.toList, x ≠ [] ∧ ∀ c ∈ x, c ≠ 13 := by
  obtain ⟨_, hn, hs, _⟩ := right_parts h
  obtain ⟨a, zs, h1, h2, h3⟩ := field_shape f.1.data.toList f.2.data.toList
  rw [h1]
  intro x hx
  rcases List.mem_cons.1 hx with rfl | hx
  · refine ⟨by simp, fun c hc => ?_⟩
    rcases List.mem_append.1 hc with hc | hc
    · rcases List.mem_append.1 hc with hc | hc
      · exact (nameC_ne (hn c hc)).1
      · have : c = 58 ∨ c = 32 := by simpa using hc
        rcases this with rfl | rfl <;> decide
    · exact sayC_ne (hs c (by rw [← h2]; exact List.mem_append_left _ hc))
  · obtain ⟨⟨t, ht⟩, _⟩ := h3 x hx
    refine ⟨by rw [ht]; simp, fun c hc => sayC_ne (hs c ?_)⟩
    rw [← h2]
    exact List.mem_append_right _ (List.mem_flatten.2 ⟨x, hx, hc⟩)
theorem all_plain (L : List Fl) (h : L.all rightF = true) : ∀ x ∈ allLines L, x ≠ [] ∧ ∀ c ∈ x, c ≠ 13 := by
  intro x hx
  unfold allLines at hx
  obtain ⟨l, hl, hx⟩ := List.mem_flatten.1 hx
  obtain ⟨f, hf, rfl⟩ := List.mem_map.1 hl
  exact lines_plain f (List.all_eq_true.1 h f hf) x hx

theorem refRun_one (f : Fl) (h : rightF f = true) (more : List (List UInt8)) (n : Nat) (acc : List FB) : ∃ m, refRun (fieldL f.1.data.toList f.2.data.toList ++ more) n acc = refRun more m (acc ++ [bodyF f]) := by
  obtain ⟨hne, hn, _, _, hnm, _⟩ := right_parts h
  obtain ⟨a, zs, h1, h2, h3⟩ := field_shape f.1.data.toList f.2.data.toList
  have hfo : fieldOf (f.1.data.toList ++ [58, 32] ++ a) = some (f.1.data.toList, 32 :: a) := by
    have hc : Lib.cut (f.1.data.toList ++ [58, 32] ++ a) [58] = (f.1.data.toList, 32 :: a, true) := by
      have e : f.1.data.toList ++ [58, 32] ++ a = f.1.data.toList ++ (58 :: []) ++ (32 :: a) := by simp
      rw [e]
      exact cut_first _ _ 58 [] fun c hc => (nameC_ne (hn c hc)).2.1
    exact fieldOf_some hc hnm
  have hgo : goes (f.1.data.toList ++ [58, 32] ++ a) = false := by
    cases hl : f.1.data.toList with
    | nil => exact absurd hl hne
    | cons c l => exact (nameC_ne (hn c (by rw [hl]; simp))).2.2.2
  have hz : ∀ z ∈ zs, goes z = true := fun z hz => by
    obtain ⟨⟨t, ht⟩, _⟩ := h3 z hz
    rw [ht]; rfl
  refine ⟨n + 1 + zs.length, ?_⟩
  rw [h1, List.cons_append, refRun_field hfo (by rw [hgo]; rfl), refRun_goes zs more (n + 1) acc _ hz]
  have : (32 :: a : List UInt8) ++ zs.flatten = 32 :: f.2.data.toList := by rw [← h2]; rfl
  rw [this]; rfl
theorem refRun_all (L : List Fl) (h : L.all rightF = true) : ∀ (n : Nat) (acc : List FB), refRun (allLines L) n acc = .ok (acc ++ L.map bodyF) := by
  induction L with
  | nil => intro n acc; simp [allLines, refRun]
  | cons f L ih =>
    intro n acc
    simp only [List.all_cons, Bool.and_eq_true] at h
    have e : allLines (f :: L) = fieldL f.1.data.toList f.2.data.toList ++ allLines L := rfl
    obtain ⟨m, hm⟩ := refRun_one f h.1 (allLines L) n acc
    rw [e, hm, ih h.2]
    simp

/-- What a head's lines are is that head. -/
theorem read_back (L : List Fl) (h : L.all rightF = true) (rest : List UInt8) : refRun (hl (fieldsB L ++ [13, 10] ++ rest)).1 0 [] = .ok (L.map bodyF) ∧ (hl (fieldsB L ++ [13, 10] ++ rest)).2 = rest := by
  rw [fieldsB_lines, hl_join _ rest (fun x hx => (all_plain L h x hx).1) (fun x hx => (all_plain L h x hx).2)]
  exact ⟨by rw [refRun_all L h]; rfl, rfl⟩
theorem trim_body (f : Fl) (h : rightF f = true) : trimS (32 :: f.2.data.toList) = f.2.data.toList := by
  obtain ⟨_, _, _, ht, _⟩ := right_parts h
  have e : dropB (32 :: f.2.data.toList) = dropB f.2.data.toList := rfl
  unfold trimS at ht ⊢
  rw [e, ht]
theorem clean_back (L M : List Fl) (h : L.all rightF = true) (hm : M.map fl2 = L.map bodyF) : firstP okC M = M.length ∧ M.map clF = L.map fl2 := by
  induction L generalizing M with
  | nil =>
    have : M = [] := by simpa using hm
    subst this
    exact ⟨rfl, rfl⟩
  | cons f L ih =>
    cases M with
    | nil => simp at hm
    | cons g M =>
      simp only [List.all_cons, Bool.and_eq_true] at h
      simp only [List.map_cons, List.cons.injEq] at hm
      obtain ⟨i1, i2⟩ := ih M h.2 hm.2
      have e1 : g.1.data.toList = f.1.data.toList := congrArg Prod.fst hm.1
      have e2 : g.2.data.toList = 32 :: f.2.data.toList := congrArg Prod.snd hm.1
      have e3 : trimS g.2.data.toList = f.2.data.toList := by rw [e2]; exact trim_body f h.1
      have ho : okC g = true := by
        unfold okC
        rw [e3]
        exact (right_parts h.1).2.2.2.2.2
      constructor
      · unfold firstP at i1 ⊢
        rw [List.takeWhile_cons, ho]
        show (M.takeWhile okC).length + 1 = M.length + 1
        rw [i1]
      · rw [List.map_cons, List.map_cons, i2]
        show (g.1.data.toList, trimS g.2.data.toList) :: _ = (f.1.data.toList, f.2.data.toList) :: _
        rw [e1, e3]

/-- A line that is no longer than it must be. -/
def Fine (x : List UInt8) : Prop := x.length ≤ 76 ∨ (∀ t, x ≠ 32 :: t) ∨ Single x
theorem all_fine (L : List Fl) (h : L.all rightF = true) : ∀ x ∈ allLines L, Fine x := by
  intro x hx
  unfold allLines at hx
  obtain ⟨l, hl, hx⟩ := List.mem_flatten.1 hx
  obtain ⟨f, hf, rfl⟩ := List.mem_map.1 hl
  obtain ⟨hne, hn, _⟩ := right_parts (List.all_eq_true.1 h f hf)
  obtain ⟨a, zs, h1, _, h3⟩ := field_shape f.1.data.toList f.2.data.toList
  rw [h1] at hx
  rcases List.mem_cons.1 hx with rfl | hx
  · right; left
    intro t e
    cases hl : f.1.data.toList with
    | nil => exact absurd hl hne
    | cons c l =>
      rw [hl] at e
      have : c = 32 := by simpa using congrArg List.head? e
      exact (nameC_ne (hn c (by rw [hl]; simp))).2.2.1 this
  · rcases (h3 x hx).2 with h | h
    · exact .inl h
    · exact .inr (.inr h)

theorem indexByte_none (l : List UInt8) (c : UInt8) (h : c ∉ l) : Lib.indexByte l c = -1 := by
  induction l with
  | nil => rfl
  | cons b l ih =>
    have hb : (b == c) = false := by
      rw [beq_eq_false_iff_ne]
      exact fun e => h (by rw [e]; simp)
    rw [Lib.indexByte, hb, ih (fun hm => h (List.mem_cons_of_mem _ hm))]
    rfl
theorem drop_single (k : Nat) (u : List UInt8) (h : (32 : UInt8) ∉ u) : (32 : UInt8) ∉ (List.replicate k (32 : UInt8) ++ u).dropWhile (· == 32) := by
  induction k with
  | zero =>
    cases u with
    | nil => simp
    | cons c u =>
      have hc : (c == 32) = false := by
        rw [beq_eq_false_iff_ne]
        exact fun e => h (by rw [e]; simp)
      simp only [List.replicate_zero, List.nil_append, List.dropWhile_cons, hc]
      exact h
  | succ k ih =>
    rw [List.replicate_succ, List.cons_append, List.dropWhile_cons]
    exact ih
theorem single_drop (x : List UInt8) (h : Single x) (m : Nat) : (32 : UInt8) ∉ (x.drop m).dropWhile (· == 32) := by
  obtain ⟨k, u, rfl, hu⟩ := h
  by_cases hm : m ≤ k + 1
  · rw [List.drop_append_of_le_length (by rw [List.length_replicate]; exact hm), List.drop_replicate]
    exact drop_single _ u hu
  · have e : (List.replicate (k + 1) (32 : UInt8) ++ u).drop m = u.drop (m - (k + 1)) := by
      rw [List.drop_append, List.drop_eq_nil_of_le (by rw [List.length_replicate]; omega), List.length_replicate]; rfl
    rw [e]
    have hd : (32 : UInt8) ∉ u.drop (m - (k + 1)) := fun hm => hu (List.mem_of_mem_drop hm)
    exact drop_single 0 _ hd

theorem ksplit_lines (ls : List (List UInt8)) (h : ∀ x ∈ ls, ∀ c ∈ x, c ≠ 13) : ∀ s : ByteArray, s.data.toList = onLines ls ++ [13, 10] → ∀ x ∈ Lib.splitB ⟨#[13, 10]⟩ 0 (Lib.countB s ⟨#[13, 10]⟩) s, x.data.toList ∈ ls ∨ x.data.toList = [] := by
  have key : ∀ (s : ByteArray) (y t : List UInt8), (∀ c ∈ y, c ≠ 13) → s.data.toList = y ++ [13, 10] ++ t → ∃ s' : ByteArray, s'.data.toList = t ∧ ∃ z : ByteArray, z.data.toList = y ∧ Lib.splitB ⟨#[13, 10]⟩ 0 (Lib.countB s ⟨#[13, 10]⟩) s = z :: Lib.splitB ⟨#[13, 10]⟩ 0 (Lib.countB s' ⟨#[13, 10]⟩) s' := by
    intro s y t hy hs
    have hix : Lib.indexB s ⟨#[13, 10]⟩ = (y.length : Nat) := by
      show Lib.index s.data.toList [13, 10] = _
      rw [hs]
      exact index_at y t 13 [10] hy
    have hcount := Lib.countB_hit s ⟨#[13, 10]⟩ y.length (by decide) hix
    have h2 : (ByteArray.mk #[13, 10]).size = 2 := rfl
    refine ⟨s.extract (y.length + 2) s.size, ?_, s.extract 0 (y.length + 0), ?_, ?_⟩
    · rw [extract_list, List.take_of_length_le (by rw [List.length_drop, size_list]; exact Nat.le_refl _), hs]
      simp
    · rw [extract_list, hs, List.append_assoc]
      simp
    · rw [hcount, Nat.add_comm, Lib.splitB_hit _ _ _ _ y.length hix, h2]
  induction ls with
  | nil =>
    intro s hs x hx
    obtain ⟨s', hs', z, hz, e⟩ := key s [] [] (by simp) (by rw [hs]; rfl)
    rw [e] at hx
    have hm : Lib.indexB s' ⟨#[13, 10]⟩ = -1 := by
      show Lib.index s'.data.toList [13, 10] = -1
      rw [hs']; rfl
    rw [Lib.splitB_miss _ _ _ _ hm] at hx
    rcases List.mem_cons.1 hx with rfl | hx
    · exact .inr hz
    · rw [List.mem_singleton.1 hx]; exact .inr hs'
  | cons y ls ih =>
    intro s hs x hx
    obtain ⟨s', hs', z, hz, e⟩ := key s y (onLines ls ++ [13, 10]) (h y List.mem_cons_self) (by rw [hs]; simp [onLines])
    rw [e] at hx
    rcases List.mem_cons.1 hx with rfl | hx
    · exact .inl (by rw [hz]; exact List.mem_cons_self)
    · rcases ih (fun a ha => h a (List.mem_cons_of_mem _ ha)) s' hs' x hx with h' | h'
      · exact .inl (List.mem_cons_of_mem _ h')
      · exact .inr h'

end Go.Proofs.YtnjjjkhhoaadfabGreatDoor

