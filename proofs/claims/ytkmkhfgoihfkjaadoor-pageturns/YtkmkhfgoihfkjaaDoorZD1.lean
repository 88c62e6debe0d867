import Derived.Test.YtkmkhfgoihfkjaaDoorZ1
import Derived.Lib.IndexMore
namespace Go.Proofs.YtkmkhfgoihfkjaaDoor
open Go.RowKit

/- Paths: cut at each slash, their dots left out, put together again. -/
def splitP : List UInt8 → List (List UInt8)
  | [] => [[]]
  | c :: l => if c = 47 then [] :: splitP l else match splitP l with | [] => [[c]] | x :: r => (c :: x) :: r
def joinP : List (List UInt8) → List UInt8
  | [] => []
  | [x] => x
  | x :: y :: r => x ++ 47 :: joinP (y :: r)
theorem splitP_slash (t : List UInt8) : splitP (47 :: t) = [] :: splitP t := by
  conv => lhs; unfold splitP
  rw [if_pos rfl]
theorem splitP_char (c : UInt8) (l : List UInt8) (h : c ≠ 47) : splitP (c :: l) = match splitP l with | [] => [[c]] | x :: r => (c :: x) :: r := by
  conv => lhs; unfold splitP
  rw [if_neg h]
theorem splitP_ne (l : List UInt8) : splitP l ≠ [] := by
  cases l with
  | nil => simp [splitP]
  | cons c l =>
    unfold splitP
    split
    · simp
    · split <;> simp
theorem joinP_cons (x : List UInt8) (r : List (List UInt8)) (h : r ≠ []) : joinP (x :: r) = x ++ 47 :: joinP r := by
  cases r with
  | nil => exact absurd rfl h
  | cons y r => rfl
theorem join_split (l : List UInt8) : joinP (splitP l) = l := by
  induction l with
  | nil => rfl
  | cons c l ih =>
    unfold splitP
    by_cases h : c = 47
    · rw [if_pos h, joinP_cons _ _ (splitP_ne l), ih, h]; rfl
    · rw [if_neg h]
      cases hs : splitP l with
      | nil => exact absurd hs (splitP_ne l)
      | cons x r =>
        rw [hs] at ih
        simp only
        cases r with
        | nil => simp only [joinP] at ih ⊢; rw [ih]
        | cons y r => rw [joinP_cons _ _ (by simp)] at ih ⊢; rw [← ih]; rfl
theorem split_noslash (x : List UInt8) (h : (47 : UInt8) ∉ x) : splitP x = [x] := by
  induction x with
  | nil => rfl
  | cons c x ih =>
    unfold splitP
    rw [if_neg (fun e => h (by rw [e]; simp)), ih (fun hm => h (List.mem_cons_of_mem _ hm))]
theorem split_at (x t : List UInt8) (h : (47 : UInt8) ∉ x) : splitP (x ++ 47 :: t) = x :: splitP t := by
  induction x with
  | nil => exact splitP_slash t
  | cons c x ih =>
    show splitP (c :: (x ++ 47 :: t)) = _
    rw [splitP_char _ _ (fun e => h (by rw [e]; simp)), ih (fun hm => h (List.mem_cons_of_mem _ hm))]
theorem split_join (o : List (List UInt8)) (h0 : o ≠ []) (h : ∀ x ∈ o, (47 : UInt8) ∉ x) : splitP (joinP o) = o := by
  induction o with
  | nil => exact absurd rfl h0
  | cons x r ih =>
    cases r with
    | nil => exact split_noslash x (h x List.mem_cons_self)
    | cons y r =>
      rw [joinP_cons _ _ (by simp), split_at _ _ (h x List.mem_cons_self), ih (by simp) (fun z hz => h z (List.mem_cons_of_mem _ hz))]
theorem split_mem (l : List UInt8) : ∀ x ∈ splitP l, (47 : UInt8) ∉ x ∧ ∀ c ∈ x, c ∈ l := by
  induction l with
  | nil => intro x hx; simp [splitP] at hx; subst hx; exact ⟨by simp, fun c hc => absurd hc (by simp)⟩
  | cons c l ih =>
    intro x hx
    unfold splitP at hx
    by_cases h : c = 47
    · rw [if_pos h] at hx
      rcases List.mem_cons.1 hx with rfl | hx
      · exact ⟨by simp, fun c hc => absurd hc (by simp)⟩
      · exact ⟨(ih x hx).1, fun d hd => List.mem_cons_of_mem _ ((ih x hx).2 d hd)⟩
    · rw [if_neg h] at hx
      cases hs : splitP l with
      | nil => exact absurd hs (splitP_ne l)
      | cons y r =>
        rw [hs] at hx ih
        simp only at hx
        rcases List.mem_cons.1 hx with rfl | hx
        · obtain ⟨i1, i2⟩ := ih y List.mem_cons_self
          refine ⟨fun hm => ?_, fun d hd => ?_⟩
          · rcases List.mem_cons.1 hm with e | hm
            · exact h e.symm
            · exact i1 hm
          · rcases List.mem_cons.1 hd with rfl | hd
            · exact List.mem_cons_self
            · exact List.mem_cons_of_mem _ (i2 d hd)
        · obtain ⟨i1, i2⟩ := ih x (List.mem_cons_of_mem _ hx)
          exact ⟨i1, fun d hd => List.mem_cons_of_mem _ (i2 d hd)⟩

def dot : List UInt8 := [46]
def dotdot : List UInt8 := [46, 46]
/-- Without the last one that stands ahead, but not without an empty first one. -/
def popP (o : List (List UInt8)) : List (List UInt8) := if o = [[]] then o else o.dropLast
/-- Part by part: what stands ahead so far, whether this is the first, the parts that are left. -/
def dotsG : List (List UInt8) → Bool → List (List UInt8) → List (List UInt8)
  | o, _, [] => o
  | o, f, x :: r => if x = [] ∧ r ≠ [] ∧ f = false then dotsG o false r
    else if x ≠ dot ∧ x ≠ dotdot then dotsG (o ++ [x]) false r
    else if r = [] then (if x = dotdot then popP o else o) ++ [[]]
    else dotsG (if x = dotdot then popP o else o) false r
def dotsS (p : List UInt8) : List UInt8 := joinP (dotsG [] true (splitP p))

/-- No dots; nothing empty between. -/
def Clean1 (x : List UInt8) : Prop := x ≠ dot ∧ x ≠ dotdot ∧ (47 : UInt8) ∉ x
/-- What stands ahead so far: only the first may be empty. -/
def Part1 (o : List (List UInt8)) : Prop := (∀ x ∈ o, Clean1 x) ∧ ∀ x ∈ o.tail, x ≠ []
/-- All: only the first and the last may be empty. -/
def Whole1 (o : List (List UInt8)) : Prop := o ≠ [] ∧ (∀ x ∈ o, Clean1 x) ∧ ∀ x ∈ o.dropLast.tail, x ≠ []
theorem popP_part {o : List (List UInt8)} (h : Part1 o) : Part1 (popP o) := by
  unfold popP
  split
  · exact h
  · refine ⟨fun x hx => h.1 x (List.dropLast_subset _ hx), fun x hx => h.2 x ?_⟩
    rw [List.tail_dropLast] at hx
    exact List.dropLast_subset _ hx
theorem part_whole {o : List (List UInt8)} (h : Part1 o) (x : List UInt8) (hx : Clean1 x) : Whole1 (o ++ [x]) := by
  refine ⟨by simp, fun y hy => ?_, fun y hy => ?_⟩
  · rcases List.mem_append.1 hy with hy | hy
    · exact h.1 y hy
    · rw [List.mem_singleton.1 hy]; exact hx
  · rw [List.dropLast_concat] at hy
    exact h.2 y hy
theorem clean_empty : Clean1 [] := ⟨by decide, by decide, by simp⟩
theorem part_snoc {o : List (List UInt8)} (h : Part1 o) (x : List UInt8) (hx : Clean1 x) (hne : o ≠ [] → x ≠ []) : Part1 (o ++ [x]) := by
  refine ⟨fun y hy => ?_, fun y hy => ?_⟩
  · rcases List.mem_append.1 hy with hy | hy
    · exact h.1 y hy
    · rw [List.mem_singleton.1 hy]; exact hx
  · cases o with
    | nil => simp at hy
    | cons a o =>
      simp only [List.cons_append, List.tail_cons] at hy
      rcases List.mem_append.1 hy with hy | hy
      · exact h.2 y hy
      · rw [List.mem_singleton.1 hy]; exact hne (by simp)
theorem dots_whole : ∀ (l o : List (List UInt8)) (f : Bool), l ≠ [] → Part1 o → (f = true → o = []) → (∀ x ∈ l, (47 : UInt8) ∉ x) → Whole1 (dotsG o f l)
  | [], o, f, h0, _, _, _ => absurd rfl h0
  | x :: r, o, f, _, ho, hf, hl => by
    have hx := hl x List.mem_cons_self
    have hr : ∀ y ∈ r, (47 : UInt8) ∉ y := fun y hy => hl y (List.mem_cons_of_mem _ hy)
    unfold dotsG
    by_cases h1 : x = [] ∧ r ≠ [] ∧ f = false
    · rw [if_pos h1]
      exact dots_whole r o false h1.2.1 ho (fun h => by cases h) hr
    · rw [if_neg h1]
      by_cases h2 : x ≠ dot ∧ x ≠ dotdot
      · rw [if_pos h2]
        by_cases h3 : r = []
        · subst h3
          exact part_whole ho x ⟨h2.1, h2.2, hx⟩
        · refine dots_whole r _ false h3 (part_snoc ho x ⟨h2.1, h2.2, hx⟩ fun hne hxe => ?_) (fun h => by cases h) hr
          apply h1
          refine ⟨hxe, h3, ?_⟩
          cases f
          · rfl
          · exact absurd (hf rfl) hne
      · rw [if_neg h2]
        have hp : Part1 (if x = dotdot then popP o else o) := by
          split
          · exact popP_part ho
          · exact ho
        by_cases h3 : r = []
        · rw [if_pos h3]
          exact part_whole hp [] clean_empty
        · rw [if_neg h3]
          exact dots_whole r _ false h3 hp (fun h => by cases h) hr

theorem dots_id : ∀ (l o : List (List UInt8)) (f : Bool), (∀ x ∈ l, Clean1 x) → (∀ x ∈ l.dropLast, f = false → x ≠ []) → (f = true → ∀ x ∈ l.dropLast.tail, x ≠ []) → dotsG o f l = o ++ l
  | [], o, f, _, _, _ => by unfold dotsG; simp
  | x :: r, o, f, h, h1, h2 => by
    have hx := h x List.mem_cons_self
    have hrc : ∀ y ∈ r, Clean1 y := fun y hy => h y (List.mem_cons_of_mem _ hy)
    unfold dotsG
    have hn : ¬ (x = [] ∧ r ≠ [] ∧ f = false) := by
      rintro ⟨a, b, c⟩
      refine h1 x ?_ c a
      cases r with
      | nil => exact absurd rfl b
      | cons y r => simp
    rw [if_neg hn, if_pos ⟨hx.1, hx.2.1⟩]
    have hmid : ∀ y ∈ r.dropLast, y ≠ [] := by
      intro y hy
      cases r with
      | nil => simp at hy
      | cons z r =>
        cases f with
        | false => exact h1 y (by simp only [List.dropLast_cons_cons]; exact List.mem_cons_of_mem _ hy) rfl
        | true => exact h2 rfl y (by simp only [List.dropLast_cons_cons, List.tail_cons]; exact hy)
    rw [dots_id r (o ++ [x]) false hrc (fun y hy _ => hmid y hy) (fun h => by cases h)]
    simp
theorem whole_id {o : List (List UInt8)} (h : Whole1 o) : dotsG [] true o = o := by
  rw [dots_id o [] true h.2.1 (fun _ _ h => by cases h) (fun _ => h.2.2)]; rfl
theorem dotsS_whole (p : List UInt8) : Whole1 (dotsG [] true (splitP p)) :=
  dots_whole _ [] true (splitP_ne p) ⟨fun x hx => absurd hx (by simp), fun x hx => absurd hx (by simp)⟩ (fun _ => rfl) (fun x hx => (split_mem p x hx).1)
theorem dotsS_split (p : List UInt8) : splitP (dotsS p) = dotsG [] true (splitP p) := by
  have h := dotsS_whole p
  exact split_join _ h.1 fun x hx => (h.2.1 x hx).2.2
/-- A path without dots keeps. -/
theorem dotsS_idem (p : List UInt8) : dotsS (dotsS p) = dotsS p := by
  show joinP (dotsG [] true (splitP (dotsS p))) = _
  rw [dotsS_split, whole_id (dotsS_whole p)]; rfl

/- What bytes it has, how it begins. -/
theorem join_mem (o : List (List UInt8)) (c : UInt8) (h : c ∈ joinP o) : c = 47 ∨ ∃ x ∈ o, c ∈ x := by
  induction o with
  | nil => simp [joinP] at h
  | cons x r ih =>
    cases r with
    | nil => exact .inr ⟨x, List.mem_cons_self, h⟩
    | cons y r =>
      rw [joinP_cons _ _ (by simp)] at h
      rcases List.mem_append.1 h with h | h
      · exact .inr ⟨x, List.mem_cons_self, h⟩
      · rcases List.mem_cons.1 h with h | h
        · exact .inl h
        · rcases ih h with h | ⟨z, hz, h⟩
          · exact .inl h
          · exact .inr ⟨z, List.mem_cons_of_mem _ hz, h⟩
theorem popP_mem {o : List (List UInt8)} {x : List UInt8} (h : x ∈ popP o) : x ∈ o := by
  unfold popP at h
  split at h
  · exact h
  · exact List.dropLast_subset _ h
theorem dots_mem : ∀ (l o : List (List UInt8)) (f : Bool) (x : List UInt8), x ∈ dotsG o f l → x = [] ∨ x ∈ o ∨ x ∈ l
  | [], o, f, x, h => by unfold dotsG at h; exact .inr (.inl h)
  | y :: r, o, f, x, h => by
    unfold dotsG at h
    split at h
    · rcases dots_mem r o false x h with h | h | h
      · exact .inl h
      · exact .inr (.inl h)
      · exact .inr (.inr (List.mem_cons_of_mem _ h))
    · split at h
      · rcases dots_mem r _ false x h with h | h | h
        · exact .inl h
        · rcases List.mem_append.1 h with h | h
          · exact .inr (.inl h)
          · rw [List.mem_singleton.1 h]; exact .inr (.inr List.mem_cons_self)
        · exact .inr (.inr (List.mem_cons_of_mem _ h))
      · have hp : ∀ z, z ∈ (if y = dotdot then popP o else o) → z ∈ o := fun z hz => by
          split at hz
          · exact popP_mem hz
          · exact hz
        split at h
        · rcases List.mem_append.1 h with h | h
          · exact .inr (.inl (hp x h))
          · exact .inl (List.mem_singleton.1 h)
        · rcases dots_mem r _ false x h with h | h | h
          · exact .inl h
          · exact .inr (.inl (hp x h))
          · exact .inr (.inr (List.mem_cons_of_mem _ h))
theorem dotsS_mem (p : List UInt8) (c : UInt8) (h : c ∈ dotsS p) : c = 47 ∨ c ∈ p := by
  rcases join_mem _ c h with h | ⟨x, hx, hc⟩
  · exact .inl h
  · rcases dots_mem _ _ _ x hx with h | h | h
    · rw [h] at hc; simp at hc
    · simp at h
    · exact .inr ((split_mem p x h).2 c hc)
theorem popP_first {o : List (List UInt8)} (h : ∃ t, o = [] :: t) : ∃ t, popP o = [] :: t := by
  obtain ⟨t, rfl⟩ := h
  unfold popP
  split
  · exact ⟨t, rfl⟩
  · rename_i hne
    cases t with
    | nil => exact absurd rfl hne
    | cons a t => exact ⟨(a :: t).dropLast, rfl⟩
theorem dots_first : ∀ (l o : List (List UInt8)), l ≠ [] → (∃ t, o = [] :: t) → ∃ t, t ≠ [] ∧ dotsG o false l = [] :: t
  | [], o, h0, _ => absurd rfl h0
  | x :: r, o, _, ho => by
    unfold dotsG
    split
    · rename_i h1
      exact dots_first r o h1.2.1 ho
    · split
      · by_cases h3 : r = []
        · subst h3
          obtain ⟨t, rfl⟩ := ho
          exact ⟨t ++ [x], by simp, rfl⟩
        · obtain ⟨t, rfl⟩ := ho
          exact dots_first r _ h3 ⟨t ++ [x], rfl⟩
      · have hp : ∃ t, (if x = dotdot then popP o else o) = [] :: t := by
          split
          · exact popP_first ho
          · exact ho
        split
        · obtain ⟨t, ht⟩ := hp
          rw [ht]
          exact ⟨t ++ [[]], by simp, rfl⟩
        · rename_i h3
          exact dots_first r _ h3 hp
/-- A path that begins with a slash still does, and with one alone. -/
theorem dotsS_slash (p : List UInt8) : ∃ q, dotsS (47 :: p) = 47 :: q := by
  have hs : splitP (47 :: p) = [] :: splitP p := splitP_slash p
  obtain ⟨t, ht, e⟩ := dots_first (splitP p) [[]] (splitP_ne p) ⟨[], rfl⟩
  have e2 : dotsG [] true (splitP (47 :: p)) = [] :: t := by
    rw [hs]
    unfold dotsG
    rw [if_neg (fun h => by cases h.2.2), if_pos ⟨by decide, by decide⟩]
    exact e
  unfold dotsS
  rw [e2, joinP_cons _ _ ht]
  exact ⟨_, rfl⟩
theorem dotsS_two (p : List UInt8) : ∀ q, dotsS p ≠ 47 :: 47 :: q := by
  intro q e
  have h := dotsS_whole p
  have hs := dotsS_split p
  rw [e] at hs
  have e1 : splitP (47 :: 47 :: q) = [] :: [] :: splitP q := by rw [splitP_slash, splitP_slash]
  rw [e1] at hs
  rw [← hs] at h
  cases hq : splitP q with
  | nil => exact absurd hq (splitP_ne q)
  | cons a b =>
    rw [hq] at h
    exact h.2.2 [] (by simp) rfl

end Go.Proofs.YtkmkhfgoihfkjaaDoor
