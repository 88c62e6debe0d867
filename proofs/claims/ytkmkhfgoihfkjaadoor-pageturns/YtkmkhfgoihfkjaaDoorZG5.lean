import Derived.Test.YtkmkhfgoihfkjaaDoorZG4
namespace Go.Proofs.YtkmkhfgoihfkjaaDoor
open Go.RowKit

/- Where a page leads: at which byte, how many, what it says. -/
def linksP : Nat → List PItem → List (Nat × Nat × List UInt8)
  | _, [] => []
  | k, (c, none) :: its => linksP (k + c.length) its
  | k, (c, some (v, b)) :: its => (k + c.length, v.length, unescS v) :: linksP (k + c.length + v.length + (if b then 1 else 0)) its
def countP : List PItem → Nat
  | [] => 0
  | (_, none) :: its => countP its
  | (_, some _) :: its => countP its + 1
theorem links_len : ∀ (its : List PItem) (k : Nat), (linksP k its).length = countP its
  | [], _ => rfl
  | (c, none) :: its, k => by rw [linksP, countP, links_len its]
  | (c, some (v, b)) :: its, k => by rw [linksP, countP, List.length_cons, links_len its]
theorem count_turned : ∀ (its : List PItem) (vs : List (List UInt8)), countP (turned its vs) = countP its
  | [], _ => rfl
  | (c, none) :: its, vs => by rw [turned, countP, countP, count_turned its]
  | (c, some (v, true)) :: its, vs => by rw [turned, countP, countP, count_turned its]
  | (c, some (v, false)) :: its, vs => by rw [turned, countP, countP, count_turned its]
/-- Up to the next link all is as it was; its value stands between two signs, or did in none. -/
theorem next_link : ∀ its : List PItem,
    (countP its = 0 ∧ ∀ (vs : List (List UInt8)) (tl : List UInt8), outP its vs tl = srcP its tl)
    ∨ ∃ (c v op cl cl' : List UInt8) (its' : List PItem), countP its = countP its' + 1
      ∧ ((op = [] ∧ cl' = cl ∧ cl.length = 1) ∨ (op = [34] ∧ cl = [] ∧ cl' = [34]))
      ∧ (∀ tl, srcP its tl = c ++ (v ++ (cl ++ srcP its' tl)))
      ∧ (∀ k, linksP k its = (k + c.length, v.length, unescS v) :: linksP (k + c.length + v.length + cl.length) its')
      ∧ (∀ (vs : List (List UInt8)) (tl : List UInt8), outP its vs tl = c ++ (op ++ (vs.headD [] ++ (cl' ++ outP its' vs.tail tl))))
      ∧ (∀ (vs : List (List UInt8)) (k : Nat), linksP k (turned its vs) = (k + c.length + op.length, (vs.headD []).length, unescS (vs.headD [])) :: linksP (k + c.length + op.length + (vs.headD []).length + cl'.length) (turned its' vs.tail))
  | [] => .inl ⟨rfl, fun _ _ => rfl⟩
  | (c, none) :: its => by
    rcases next_link its with ⟨h1, h2⟩ | ⟨c1, v, op, cl, cl', its', h0, h1, h2, h3, h4, h5⟩
    · exact .inl ⟨h1, fun vs tl => by rw [outP, srcP, h2]⟩
    · refine .inr ⟨c ++ c1, v, op, cl, cl', its', h0, h1, fun tl => ?_, fun k => ?_, fun vs tl => ?_, fun vs k => ?_⟩
      · rw [srcP, h2]; simp
      · rw [linksP, h3, List.length_append, Nat.add_assoc k]
      · rw [outP, h4]; simp
      · rw [turned, linksP, h5, List.length_append, Nat.add_assoc k]
  | (c, some (v, true)) :: its => by
    refine .inr ⟨c, v, [], [c.getLast?.getD 0], [c.getLast?.getD 0], its, rfl, .inl ⟨rfl, rfl, rfl⟩, fun tl => rfl, fun k => rfl, fun vs tl => rfl, fun vs k => rfl⟩
  | (c, some (v, false)) :: its => by
    refine .inr ⟨c, v, [34], [], [34], its, rfl, .inr ⟨rfl, rfl, rfl⟩, fun tl => rfl, fun k => rfl, fun vs tl => rfl, fun vs k => ?_⟩
    rw [turned, linksP, List.length_append]
    simp only [List.length_cons, List.length_nil, ↓reduceIte, Nat.add_assoc]
def modeW : Md → Nat
  | some (true, _) => 1
  | _ => 0
theorem modeW_le (m : Md) : modeW m ≤ 1 := by unfold modeW; split <;> omega
theorem run_ex : ∀ (k : Nat) (m : Md) (s : List UInt8), 2 * s.length + modeW m < k → ∃ its tl, Run m s its tl
  | 0, _, _, h => absurd h (by omega)
  | k + 1, m, s, h => by
    cases hs : stepG m s with
    | none => exact ⟨[], s, Run.stop m s hs⟩
    | some o =>
      obtain ⟨c, e, m', r⟩ := o
      have hlt : 2 * r.length + modeW m' < k := by
        have hle := modeW_le m'
        match m with
        | none =>
          have hs : stepTop s = some (c, e, m', r) := hs
          obtain ⟨_, h1, h2, _⟩ := top_local s c r r e m' hs rfl
          have := congrArg List.length h1
          have := List.length_pos_iff.2 h2
          simp only [List.length_append] at *
          omega
        | some (true, n) =>
          have hs : stepSkip n s = some (c, e, m', r) := hs
          unfold stepSkip at hs
          obtain ⟨q, hq, hq2⟩ := Option.map_eq_some_iff.1 hs
          simp only [Prod.mk.injEq] at hq2
          obtain ⟨rfl, _, rfl, rfl⟩ := hq2
          have h1 := (findN_some _ _ q.1 q.2 hq).1
          have hw : modeW (some (true, n)) = 1 := rfl
          have hw' : modeW none = 0 := rfl
          have := congrArg List.length h1
          simp only [List.length_append] at *
          omega
        | some (false, n) =>
          have hs : stepTag n s = some (c, e, m', r) := hs
          match e with
          | none =>
            obtain ⟨h1, h2, _⟩ := tag_none n s c r r m' hs rfl
            have := congrArg List.length h1
            have := List.length_pos_iff.2 h2
            simp only [List.length_append] at *
            omega
          | some (v, b) =>
            obtain ⟨_, h2, ⟨_, q, _, _, h1, _⟩ | ⟨_, h1, _⟩⟩ := tag_some n s c r v b m' hs
            all_goals
              have := congrArg List.length h1
              have := List.length_pos_iff.2 h2
              simp only [List.length_append, List.length_cons] at *
              omega
      obtain ⟨its, tl, hr⟩ := run_ex k m' r hlt
      exact ⟨_, tl, Run.go m m' s c r tl e its hs hr⟩
/-- Every page has its steps. -/
theorem run_all (s : List UInt8) : ∃ its tl, Run none s its tl := run_ex (2 * s.length + 1) none s (by show 2 * s.length + 0 < _; omega)
/-- The page with what is given, escaped, leads just there. -/
theorem page_turned (s : List UInt8) (its : List PItem) (tl : List UInt8) (h : Run none s its tl) (vs : List (List UInt8)) : s = srcP its tl ∧ Run none (outP its (vs.map escS) tl) (turned its (vs.map escS)) tl := by
  obtain ⟨h1, _, h3⟩ := run_turn none s its tl h (vs.map escS) (fun n hn => by cases hn) (by
    intro x hx
    obtain ⟨v, _, rfl⟩ := List.mem_map.1 hx
    exact ⟨fun h => (escS_plain v 34 h).1 rfl, fun h => (escS_plain v 39 h).2.1 rfl⟩)
  exact ⟨h3, h1⟩

end Go.Proofs.YtkmkhfgoihfkjaaDoor
