import Derived.Test.YtkmkhfgoihfkjaaDoorZC1
import Derived.Test.YtkmkhfgoihfkjaaDoorZG0
namespace Go.Proofs.YtkmkhfgoihfkjaaDoor
open Go.RowKit

/- A page, gone through from its beginning on. -/
abbrev Md := Option (Bool × List UInt8)
def gapC (c : UInt8) : Bool := c == 32 || c == 9 || c == 13 || c == 10
def alphC (c : UInt8) : Bool := decide (97 ≤ (smallC c).toNat) && decide ((smallC c).toNat ≤ 122)
def alnumC (c : UInt8) : Bool := alphC c || (decide (48 ≤ c.toNat) && decide (c.toNat ≤ 57))
def attrC (c : UInt8) : Bool := !gapC c && c != 47 && c != 61 && c != 62
def bareC (c : UInt8) : Bool := !gapC c && c != 62
def skipC (c : UInt8) : Bool := gapC c || c == 47
/-- Where a text stands first: what stands ahead, and all from there on. -/
def findL (sub : List UInt8) : List UInt8 → Option (List UInt8 × List UInt8)
  | [] => none
  | c :: s => if sub.isPrefixOf (c :: s) then some ([], c :: s) else (findL sub s).map fun q => (c :: q.1, q.2)
/-- The same, in small letters. -/
def findN (sub : List UInt8) : List UInt8 → Option (List UInt8 × List UInt8)
  | [] => none
  | c :: s => if sub.isPrefixOf (smallS (c :: s)) then some ([], c :: s) else (findN sub s).map fun q => (c :: q.1, q.2)

theorem prefix_local (sub x r r' : List UInt8) (h : sub.length ≤ x.length) : sub.isPrefixOf (x ++ r) = sub.isPrefixOf (x ++ r') := by
  induction sub generalizing x with
  | nil => simp
  | cons c sub ih =>
    cases x with
    | nil => simp at h
    | cons d x => simp only [List.cons_append, List.isPrefixOf]; rw [ih x (by simpa using h)]
theorem findL_some (sub s a b : List UInt8) (h : findL sub s = some (a, b)) : s = a ++ b ∧ sub.isPrefixOf b = true := by
  induction s generalizing a with
  | nil => cases h
  | cons c s ih =>
    unfold findL at h
    split at h
    · rename_i hp
      simp only [Option.some.injEq, Prod.mk.injEq] at h
      obtain ⟨rfl, rfl⟩ := h
      exact ⟨rfl, hp⟩
    · obtain ⟨q, hq1, hq2⟩ := Option.map_eq_some_iff.1 h
      simp only [Prod.mk.injEq] at hq2
      obtain ⟨rfl, rfl⟩ := hq2
      obtain ⟨i1, i2⟩ := ih q.1 hq1
      exact ⟨by rw [List.cons_append, ← i1], i2⟩
theorem findL_local (sub : List UInt8) (h0 : sub ≠ []) (r r' : List UInt8) : ∀ a : List UInt8, findL sub (a ++ (sub ++ r)) = some (a, sub ++ r) → findL sub (a ++ (sub ++ r')) = some (a, sub ++ r')
  | [], _ => by
    cases hs : sub with
    | nil => exact absurd hs h0
    | cons c t =>
      show findL (c :: t) (c :: (t ++ r')) = _
      unfold findL
      have : (c :: t).isPrefixOf (c :: (t ++ r')) = true := List.isPrefixOf_iff_prefix.2 ⟨r', rfl⟩
      rw [if_pos this]; rfl
  | c :: a, h => by
    have e : ∀ z : List UInt8, c :: a ++ (sub ++ z) = (c :: a ++ sub) ++ z := fun z => by simp
    have hloc := prefix_local sub (c :: a ++ sub) r r' (by simp; omega)
    rw [← e, ← e] at hloc
    show findL sub (c :: (a ++ (sub ++ r'))) = _
    have h' : findL sub (c :: (a ++ (sub ++ r))) = some (c :: a, sub ++ r) := h
    unfold findL at h' ⊢
    have hl2 : sub.isPrefixOf (c :: (a ++ (sub ++ r))) = sub.isPrefixOf (c :: (a ++ (sub ++ r'))) := hloc
    rw [← hl2]
    split at h'
    · simp at h'
    · rename_i hn
      rw [if_neg hn]
      obtain ⟨q, hq1, hq2⟩ := Option.map_eq_some_iff.1 h'
      simp only [Prod.mk.injEq, List.cons.injEq, true_and] at hq2
      obtain ⟨rfl, hq3⟩ := hq2
      have hq4 : findL sub (q.1 ++ (sub ++ r)) = some (q.1, sub ++ r) := by rw [hq1, ← hq3]
      rw [findL_local sub h0 r r' q.1 hq4]; rfl
theorem findL_one (d : UInt8) (s a b : List UInt8) (h : findL [d] s = some (a, b)) : ∃ r, b = d :: r := by
  have := (findL_some [d] s a b h).2
  cases b with
  | nil => simp at this
  | cons c r =>
    have : d = c := by simpa [List.isPrefixOf] using this
    exact ⟨r, by rw [this]⟩
theorem findL_oneLocal (d : UInt8) (a r r' : List UInt8) (h : findL [d] (a ++ d :: r) = some (a, d :: r)) : findL [d] (a ++ d :: r') = some (a, d :: r') := findL_local [d] (by simp) r r' a h
theorem findL_pre (sub s a b : List UInt8) (h : findL sub s = some (a, b)) : ∃ r, b = sub ++ r := by
  have := (findL_some sub s a b h).2
  obtain ⟨t, ht⟩ := List.isPrefixOf_iff_prefix.1 this
  exact ⟨t, ht.symm⟩

def skipNames : List (List UInt8) := [[115, 99, 114, 105, 112, 116], [115, 116, 121, 108, 101], [116, 101, 120, 116, 97, 114, 101, 97], [116, 105, 116, 108, 101]]
def linkNames : List (List UInt8) := [[115, 114, 99], [104, 114, 101, 102], [98, 97, 99, 107, 103, 114, 111, 117, 110, 100]]
/-- One step ahead: what is passed, a value that is met (and whether it stands in quotes), what comes then, and what is left. -/
abbrev Out := List UInt8 × Option (List UInt8 × Bool) × Md × List UInt8
def stepTop (s : List UInt8) : Option Out :=
  match findL [60] s with
  | none => none
  | some (u, r0) =>
    match r0.drop 1 with
    | [] => none
    | c :: r =>
      if [33, 45, 45].isPrefixOf (c :: r) then (findL [45, 45, 62] ((c :: r).drop 3)).map fun q => (u ++ [60, 33, 45, 45] ++ q.1 ++ [45, 45, 62], none, none, q.2.drop 3)
      else if c = 47 ∨ c = 33 ∨ c = 63 then (findL [62] (c :: r)).map fun q => (u ++ [60] ++ q.1 ++ [62], none, none, q.2.drop 1)
      else if alphC c then some (u ++ [60] ++ (c :: r).takeWhile alnumC, none, some (false, smallS ((c :: r).takeWhile alnumC)), (c :: r).dropWhile alnumC)
      else some (u ++ [60], none, none, c :: r)
def stepSkip (n s : List UInt8) : Option Out := (findN (60 :: 47 :: n) s).map fun q => (q.1, none, none, q.2)
/-- A value: behind all that is passed (pre), of an attribute nm. -/
def stepVal (n nm pre t : List UInt8) : Option Out :=
  match t with
  | [] => none
  | q :: t' =>
    if q = 34 ∨ q = 39 then (findL [q] t').map fun f => if linkNames.contains nm then (pre ++ [q], some (f.1, true), some (false, n), f.2.drop 1) else (pre ++ [q] ++ f.1 ++ [q], none, some (false, n), f.2.drop 1)
    else if (t.dropWhile bareC) = [] then none
    else if linkNames.contains nm then some (pre, some (t.takeWhile bareC, false), some (false, n), t.dropWhile bareC)
    else some (pre ++ t.takeWhile bareC, none, some (false, n), t.dropWhile bareC)
def stepTag (n s : List UInt8) : Option Out :=
  match s.dropWhile skipC with
  | [] => none
  | c :: t =>
    if c = 62 then some (s.takeWhile skipC ++ [62], none, if skipNames.contains n then some (true, n) else none, t)
    else if t.dropWhile attrC = [] then none
    else if ((t.dropWhile attrC).dropWhile gapC).head? = some 61 then
      stepVal n (smallS (c :: t.takeWhile attrC)) (s.takeWhile skipC ++ c :: t.takeWhile attrC ++ (t.dropWhile attrC).takeWhile gapC ++ [61] ++ (((t.dropWhile attrC).dropWhile gapC).drop 1).takeWhile gapC) ((((t.dropWhile attrC).dropWhile gapC).drop 1).dropWhile gapC)
    else some (s.takeWhile skipC ++ c :: t.takeWhile attrC ++ (t.dropWhile attrC).takeWhile gapC, none, some (false, n), (t.dropWhile attrC).dropWhile gapC)
def stepG (m : Md) (s : List UInt8) : Option Out := match m with | none => stepTop s | some (true, n) => stepSkip n s | some (false, n) => stepTag n s

/-- What stands behind agrees: where it begins; and whole to its next >, where it begins an end. -/
def Agree (m : Md) (r r' : List UInt8) : Prop := r'.head? = r.head? ∧ (m = none → ∀ t, r = 60 :: 47 :: t → r'.takeWhile (· != 62) = r.takeWhile (· != 62))

theorem top_local (s c r r' : List UInt8) (e : Option (List UInt8 × Bool)) (m : Md) (h : stepTop s = some (c, e, m, r)) (ha : r'.head? = r.head?) : e = none ∧ s = c ++ r ∧ c ≠ [] ∧ stepTop (c ++ r') = some (c, none, m, r') := by
  unfold stepTop at h
  cases hf : findL [60] s with
  | none => rw [hf] at h; cases h
  | some ur =>
    obtain ⟨u, r0⟩ := ur
    obtain ⟨r1, rfl⟩ := findL_one 60 s u r0 hf
    have hs := (findL_some _ _ _ _ hf).1
    have hf' : ∀ z, findL [60] (u ++ 60 :: z) = some (u, 60 :: z) := fun z => findL_oneLocal 60 u r1 z (by rw [← hs]; exact hf)
    rw [hf] at h
    simp only [List.drop_succ_cons, List.drop_zero] at h
    cases r1 with
    | nil => cases h
    | cons d t =>
      simp only at h
      split at h
      · rename_i hp
        obtain ⟨q, hq, heq⟩ := Option.map_eq_some_iff.1 h
        simp only [Prod.mk.injEq] at heq
        obtain ⟨rfl, rfl, rfl, rfl⟩ := heq
        obtain ⟨p3, hp3⟩ := List.isPrefixOf_iff_prefix.1 hp
        simp only [List.cons_append, List.nil_append, List.cons.injEq] at hp3
        obtain ⟨rfl, rfl⟩ := hp3
        have hq : findL [45, 45, 62] p3 = some (q.1, q.2) := hq
        obtain ⟨x, hx⟩ := findL_pre _ _ q.1 q.2 hq
        have hq' := (findL_some _ _ q.1 q.2 hq).1
        rw [hx] at hq hq' ⊢
        have hxd : ([45, 45, 62] ++ x).drop 3 = x := rfl
        rw [hxd]
        rw [hq'] at hq
        refine ⟨rfl, ?_, by simp, ?_⟩
        · rw [hs, hq']; simp
        · have hl := findL_local [45, 45, 62] (by simp) x r' q.1 hq
          have e1 : u ++ [60, 33, 45, 45] ++ q.1 ++ [45, 45, 62] ++ r' = u ++ 60 :: (33 :: 45 :: 45 :: (q.1 ++ ([45, 45, 62] ++ r'))) := by simp
          unfold stepTop
          rw [e1, hf']
          simp only [List.drop_succ_cons, List.drop_zero]
          have hpp : [33, 45, 45].isPrefixOf (33 :: 45 :: 45 :: (q.1 ++ ([45, 45, 62] ++ r'))) = true := List.isPrefixOf_iff_prefix.2 ⟨_, rfl⟩
          rw [if_pos hpp, hl]
          rfl
      · rename_i hp
        split at h
        · rename_i hc
          obtain ⟨q, hq, heq⟩ := Option.map_eq_some_iff.1 h
          simp only [Prod.mk.injEq] at heq
          obtain ⟨rfl, rfl, rfl, rfl⟩ := heq
          have hq : findL [62] (d :: t) = some (q.1, q.2) := hq
          obtain ⟨x, hx⟩ := findL_one 62 _ q.1 q.2 hq
          have hq' := (findL_some _ _ q.1 q.2 hq).1
          rw [hx] at hq hq' ⊢
          have hne : q.1 ≠ [] := by
            intro e0
            rw [e0] at hq'
            simp only [List.nil_append, List.cons.injEq] at hq'
            rcases hc with hc | hc | hc <;> rw [hc] at hq' <;> exact absurd hq'.1 (by decide)
          obtain ⟨d', q1, hq1⟩ : ∃ d' q1, q.1 = d' :: q1 := by
            cases hh : q.1 with
            | nil => exact absurd hh hne
            | cons a b => exact ⟨a, b, rfl⟩
          have hd : d' = d := by
            rw [hq1] at hq'
            simp only [List.cons_append, List.cons.injEq] at hq'
            exact hq'.1.symm
          subst hd
          rw [hq'] at hq
          refine ⟨rfl, ?_, by simp, ?_⟩
          · rw [hs, hq']; simp
          · have hl := findL_oneLocal 62 q.1 x r' hq
            have e1 : u ++ [60] ++ q.1 ++ [62] ++ r' = u ++ 60 :: (d' :: (q1 ++ 62 :: r')) := by rw [hq1]; simp
            have e2 : q.1 ++ 62 :: r' = d' :: (q1 ++ 62 :: r') := by rw [hq1]; rfl
            unfold stepTop
            rw [e1, hf']
            simp only [List.drop_succ_cons, List.drop_zero]
            rw [if_neg, if_pos hc, ← e2, hl]
            · rfl
            · intro hpp
              apply hp
              have ht : d' :: t = (d' :: q1) ++ 62 :: x := by rw [hq', hq1]
              rw [ht]
              obtain ⟨z, hz⟩ := List.isPrefixOf_iff_prefix.1 hpp
              -- the first three signs lie ahead of the >
              cases q1 with
              | nil =>
                simp only [List.nil_append, List.cons_append, List.cons.injEq] at hz
                exact absurd hz.2.1 (by decide)
              | cons a q1 =>
                cases q1 with
                | nil =>
                  simp only [List.nil_append, List.cons_append, List.cons.injEq] at hz
                  exact absurd hz.2.2.1 (by decide)
                | cons b q1 =>
                  simp only [List.cons_append, List.nil_append, List.cons.injEq] at hz
                  obtain ⟨rfl, rfl, rfl, _⟩ := hz
                  exact List.isPrefixOf_iff_prefix.2 ⟨q1 ++ 62 :: x, rfl⟩
        · rename_i hc
          split at h
          · rename_i hal
            simp only [Option.some.injEq, Prod.mk.injEq] at h
            obtain ⟨rfl, rfl, rfl, rfl⟩ := h
            have hd : alnumC d = true := by unfold alnumC; rw [hal]; rfl
            have hsp := List.takeWhile_append_dropWhile (p := alnumC) (l := d :: t)
            have hnm : (d :: t).takeWhile alnumC = d :: t.takeWhile alnumC := by rw [List.takeWhile_cons, hd]; rfl
            have hhead : ((d :: t).dropWhile alnumC).head?.all (fun c => !alnumC c) = true := by
              cases hw : (d :: t).dropWhile alnumC with
              | nil => rfl
              | cons a b =>
                have := List.head_dropWhile_not alnumC (l := d :: t) (by rw [hw]; simp)
                simp only [hw, List.head_cons] at this
                simp [this]
            refine ⟨rfl, ?_, by simp, ?_⟩
            · rw [hs]; simp only [List.append_assoc, List.cons_append, List.nil_append]; rw [hsp]
            · obtain ⟨i1, i2⟩ := takeWhile_app (p := alnumC) ((d :: t).takeWhile alnumC) r' (takeWhile_all _) (by rw [ha]; exact hhead)
              have e1 : u ++ [60] ++ (d :: t).takeWhile alnumC ++ r' = u ++ 60 :: ((d :: t).takeWhile alnumC ++ r') := by simp
              unfold stepTop
              rw [e1, hf']
              simp only [List.drop_succ_cons, List.drop_zero]
              have e2 : (d :: t).takeWhile alnumC ++ r' = d :: (t.takeWhile alnumC ++ r') := by rw [hnm]; rfl
              rw [e2]
              simp only
              rw [← e2, if_neg, if_neg hc, if_pos hal, i1, i2]
              rw [e2]
              intro hpp
              obtain ⟨z, hz⟩ := List.isPrefixOf_iff_prefix.1 hpp
              simp only [List.cons_append, List.nil_append, List.cons.injEq] at hz
              exact hc (.inr (.inl hz.1.symm))
          · rename_i hal
            simp only [Option.some.injEq, Prod.mk.injEq] at h
            obtain ⟨rfl, rfl, rfl, rfl⟩ := h
            refine ⟨rfl, by rw [hs]; simp, by simp, ?_⟩
            cases r' with
            | nil => simp at ha
            | cons d2 t2 =>
              have hd2 : d2 = d := by simpa using ha
              subst hd2
              have e1 : u ++ [60] ++ d2 :: t2 = u ++ 60 :: (d2 :: t2) := by simp
              unfold stepTop
              rw [e1, hf']
              simp only [List.drop_succ_cons, List.drop_zero]
              rw [if_neg, if_neg hc, if_neg hal]
              intro hpp
              obtain ⟨z, hz⟩ := List.isPrefixOf_iff_prefix.1 hpp
              simp only [List.cons_append, List.nil_append, List.cons.injEq] at hz
              exact hc (.inr (.inl hz.1.symm))

end Go.Proofs.YtkmkhfgoihfkjaaDoor
