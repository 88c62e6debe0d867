import Derived.Test.YtkmkhfgoihfkjaaDoorZC1
import Derived.Test.YtkmkhfgoihfkjaaDoorZD1
namespace Go.Proofs.YtkmkhfgoihfkjaaDoor
open Go.RowKit

/- Addresses: what the document says of them. -/
structure AB where
  sch : List UInt8
  hasA : Bool
  auth : List UInt8
  path : List UInt8
  hasQ : Bool
  query : List UInt8
  hasF : Bool
  frag : List UInt8
def in33 (c : UInt8) : Bool := decide (33 ≤ c.toNat) && decide (c.toNat ≤ 126)
def letC (c : UInt8) : Bool := decide (97 ≤ (smallC c).toNat) && decide ((smallC c).toNat ≤ 122)
def schC (c : UInt8) : Bool := letC c || (decide (48 ≤ c.toNat) && decide (c.toNat ≤ 57)) || c == 43 || c == 45 || c == 46
def schS (l : List UInt8) : Bool := match l with | [] => false | c :: r => letC c && r.all schC
def schOf (t : List UInt8) : List UInt8 × List UInt8 := if (Lib.cut t [58]).2.2 && schS (Lib.cut t [58]).1 then ((Lib.cut t [58]).1, (Lib.cut t [58]).2.1) else ([], t)
def authOf (t : List UInt8) : Bool × List UInt8 × List UInt8 := if t.take 2 = [47, 47] then (true, (t.drop 2).takeWhile (· != 47), (t.drop 2).dropWhile (· != 47)) else (false, [], t)
/-- The address that a text is. -/
def readA (s : List UInt8) : Option AB :=
  if s.all in33 then
    let f := Lib.cut s [35]
    let q := Lib.cut f.1 [63]
    let c := schOf q.1
    let a := authOf c.2
    some { sch := c.1, hasA := a.1, auth := a.2.1, path := a.2.2, hasQ := q.2.2, query := q.2.1, hasF := f.2.2, frag := f.2.1 }
  else none
def writeA (a : AB) : List UInt8 := (if a.sch = [] then [] else a.sch ++ [58]) ++ (if a.hasA then 47 :: 47 :: a.auth else []) ++ a.path ++ (if a.hasQ then 63 :: a.query else []) ++ (if a.hasF then 35 :: a.frag else [])

theorem index_first1 (x t : List UInt8) (d : UInt8) (h : ∀ c ∈ x, c ≠ d) : Lib.cut (x ++ d :: t) [d] = (x, t, true) := by
  have hi : Lib.index (x ++ d :: t) [d] = (x.length : Nat) := by
    refine Lib.index_first (by simp) ?_ ?_
    · unfold Lib.occAt
      rw [List.drop_left]
      simp
    · intro j hj
      unfold Lib.occAt
      have e : (x ++ d :: t).drop j = x[j] :: (x.drop (j + 1) ++ d :: t) := by
        rw [List.drop_append_of_le_length (by omega), List.drop_eq_getElem_cons hj]; rfl
      rw [e]
      have hne : (d == x[j]) = false := by
        rw [beq_eq_false_iff_ne]
        exact fun e => h x[j] (List.getElem_mem hj) e.symm
      simp [List.isPrefixOf, hne]
  unfold Lib.cut
  rw [hi, if_pos (by omega)]
  have e : ((x.length : Nat) : Int).toNat = x.length := by omega
  have e2 : (x ++ d :: t).drop (x.length + [d].length) = t := by
    have : x ++ d :: t = (x ++ [d]) ++ t := by simp
    rw [this, ← List.length_append]
    exact List.drop_left
  rw [e, e2, List.take_left]
theorem cut_none1 (x : List UInt8) (d : UInt8) (h : ∀ c ∈ x, c ≠ d) : Lib.cut x [d] = (x, [], false) := by
  have hi : Lib.index x [d] = -1 := by
    refine Lib.index_none fun j hj => ?_
    unfold Lib.occAt
    cases hd : x.drop j with
    | nil => rfl
    | cons c r =>
      have hc : c ∈ x := List.mem_of_mem_drop (by rw [hd]; exact List.mem_cons_self)
      have hne : (d == c) = false := by
        rw [beq_eq_false_iff_ne]
        exact fun e => h c hc e.symm
      simp [List.isPrefixOf, hne]
  unfold Lib.cut
  rw [hi, if_neg (by decide)]
/-- What a cut is: a text without the sign, or with it and what stands behind. -/
theorem cut_glue (s : List UInt8) (d : UInt8) : (∃ x y, s = x ++ d :: y ∧ (∀ c ∈ x, c ≠ d) ∧ Lib.cut s [d] = (x, y, true)) ∨ ((∀ c ∈ s, c ≠ d) ∧ Lib.cut s [d] = (s, [], false)) := by
  by_cases h : d ∈ s
  · left
    obtain ⟨x, y, hs, hx⟩ := List.append_of_mem h |>.elim fun a ⟨b, hb⟩ => by
      have key : ∀ s : List UInt8, d ∈ s → ∃ x y, s = x ++ d :: y ∧ ∀ c ∈ x, c ≠ d := by
        intro s
        induction s with
        | nil => intro h; simp at h
        | cons c s ih =>
          intro h
          by_cases hc : c = d
          · exact ⟨[], s, by rw [hc]; rfl, fun c hc => absurd hc (by simp)⟩
          · have : d ∈ s := by
              rcases List.mem_cons.1 h with h | h
              · exact absurd h.symm hc
              · exact h
            obtain ⟨x, y, h1, h2⟩ := ih this
            refine ⟨c :: x, y, by rw [h1]; rfl, fun e he => ?_⟩
            rcases List.mem_cons.1 he with rfl | he
            · exact hc
            · exact h2 e he
      exact key s h
    exact ⟨x, y, hs, hx, by rw [hs]; exact index_first1 x y d hx⟩
  · right
    have h' : ∀ c ∈ s, c ≠ d := fun c hc e => h (by rw [← e]; exact hc)
    exact ⟨h', cut_none1 s d h'⟩

theorem sch_glue (t : List UInt8) : (schOf t = ([], t)) ∨ ∃ x y, t = x ++ 58 :: y ∧ schOf t = (x, y) ∧ schS x = true ∧ ∀ c ∈ x, c ≠ 58 := by
  unfold schOf
  rcases cut_glue t 58 with ⟨x, y, h1, h2, h3⟩ | ⟨_, h3⟩
  · rw [h3]
    by_cases hs : schS x = true
    · right
      refine ⟨x, y, h1, ?_, hs, h2⟩
      simp [hs]
    · left
      simp [hs]
  · left
    rw [h3]
    simp
theorem auth_glue (t : List UInt8) : ((∀ q, t ≠ 47 :: 47 :: q) ∧ authOf t = (false, [], t)) ∨ ∃ x y, t = 47 :: 47 :: (x ++ y) ∧ authOf t = (true, x, y) ∧ (∀ c ∈ x, c ≠ 47) ∧ (y = [] ∨ ∃ z, y = 47 :: z) := by
  unfold authOf
  by_cases h : t.take 2 = [47, 47]
  · right
    rw [if_pos h]
    have ht : t = 47 :: 47 :: t.drop 2 := by
      have := List.take_append_drop 2 t
      rw [h] at this
      exact this.symm
    refine ⟨(t.drop 2).takeWhile (· != 47), (t.drop 2).dropWhile (· != 47), ?_, rfl, ?_, ?_⟩
    · rw [List.takeWhile_append_dropWhile]; exact ht
    · intro c hc
      have := takeWhile_all (p := fun c => c != 47) (t.drop 2) c hc
      simpa using this
    · cases hd : (t.drop 2).dropWhile (· != 47) with
      | nil => exact .inl rfl
      | cons a b =>
        have := List.head_dropWhile_not (fun x : UInt8 => x != 47) (l := t.drop 2) (by rw [hd]; simp)
        simp only [hd, List.head_cons] at this
        have ha : a = 47 := by simpa using this
        exact .inr ⟨b, by rw [ha]⟩
  · left
    rw [if_neg h]
    exact ⟨fun q e => h (by rw [e]; rfl), rfl⟩

/-- An address that may be, but for its scheme. -/
structure Fit0 (a : AB) : Prop where
  bytes : ∀ c, c ∈ a.sch ∨ c ∈ a.auth ∨ c ∈ a.path ∨ c ∈ a.query ∨ c ∈ a.frag → in33 c = true
  scheme : a.sch = [] ∨ schS a.sch = true
  auth1 : ∀ c ∈ a.auth, c ≠ 47 ∧ c ≠ 63 ∧ c ≠ 35
  path1 : ∀ c ∈ a.path, c ≠ 63 ∧ c ≠ 35
  query1 : ∀ c ∈ a.query, c ≠ 35
  auth0 : a.hasA = false → a.auth = []
  query0 : a.hasQ = false → a.query = []
  frag0 : a.hasF = false → a.frag = []
  path2 : a.hasA = true → a.path = [] ∨ ∃ z, a.path = 47 :: z
  path3 : a.hasA = false → ∀ q, a.path ≠ 47 :: 47 :: q

theorem schC_ne (c : UInt8) (h : schC c = true) : c ≠ 58 ∧ c ≠ 63 ∧ c ≠ 35 ∧ c ≠ 47 ∧ in33 c = true ∧ schC (smallC c) = true := by
  have key : ∀ n : Fin 256, schC (UInt8.ofNat n.val) = true → UInt8.ofNat n.val ≠ 58 ∧ UInt8.ofNat n.val ≠ 63 ∧ UInt8.ofNat n.val ≠ 35 ∧ UInt8.ofNat n.val ≠ 47 ∧ in33 (UInt8.ofNat n.val) = true ∧ schC (smallC (UInt8.ofNat n.val)) = true := by decide +kernel
  have := key ⟨c.toNat, c.toNat_lt⟩
  simpa using this (by simpa using h)
theorem letC_sch (c : UInt8) (h : letC c = true) : schC c = true ∧ letC (smallC c) = true := by
  refine ⟨by unfold schC; rw [h]; rfl, ?_⟩
  unfold letC at h ⊢
  rw [small_idem]
  exact h
theorem schS_all {l : List UInt8} (h : schS l = true) : l ≠ [] ∧ ∀ c ∈ l, schC c = true := by
  cases l with
  | nil => cases h
  | cons c r =>
    simp only [schS, Bool.and_eq_true, List.all_eq_true] at h
    refine ⟨by simp, fun d hd => ?_⟩
    rcases List.mem_cons.1 hd with rfl | hd
    · exact (letC_sch d h.1).1
    · exact h.2 d hd
theorem schS_small {l : List UInt8} (h : schS l = true) : schS (smallS l) = true := by
  cases l with
  | nil => cases h
  | cons c r =>
    simp only [schS, Bool.and_eq_true, List.all_eq_true] at h
    show schS (smallC c :: smallS r) = true
    simp only [schS, Bool.and_eq_true, List.all_eq_true]
    refine ⟨(letC_sch c h.1).2, fun d hd => ?_⟩
    obtain ⟨e, he, rfl⟩ := List.mem_map.1 hd
    exact (schC_ne e (h.2 e he)).2.2.2.2.2

/-- What a text is, is written as that text; it is an address that may be. -/
theorem read_write (s : List UInt8) (a : AB) (h : readA s = some a) : writeA a = s ∧ Fit0 a := by
  unfold readA at h
  split at h
  · rename_i hall
    have hin : ∀ c ∈ s, in33 c = true := List.all_eq_true.1 hall
    obtain ⟨fx, fb, fy, hf, hs1, hf1, hf0⟩ : ∃ fx fb fy, Lib.cut s [35] = (fx, fy, fb) ∧ s = fx ++ (if fb then 35 :: fy else []) ∧ (∀ c ∈ fx, c ≠ 35) ∧ (fb = false → fy = []) := by
      rcases cut_glue s 35 with ⟨x, y, h1, h2, h3⟩ | ⟨h2, h3⟩
      · exact ⟨x, true, y, h3, h1, h2, fun h => by cases h⟩
      · exact ⟨s, false, [], h3, by simp, h2, fun _ => rfl⟩
    obtain ⟨qx, qb, qy, hq, hs2, hq1, hq0⟩ : ∃ qx qb qy, Lib.cut fx [63] = (qx, qy, qb) ∧ fx = qx ++ (if qb then 63 :: qy else []) ∧ (∀ c ∈ qx, c ≠ 63) ∧ (qb = false → qy = []) := by
      rcases cut_glue fx 63 with ⟨x, y, h1, h2, h3⟩ | ⟨h2, h3⟩
      · exact ⟨x, true, y, h3, h1, h2, fun h => by cases h⟩
      · exact ⟨fx, false, [], h3, by simp, h2, fun _ => rfl⟩
    obtain ⟨sx, sy, hc, hs3, hsch⟩ : ∃ sx sy, schOf qx = (sx, sy) ∧ qx = (if sx = [] then [] else sx ++ [58]) ++ sy ∧ (sx = [] ∨ schS sx = true) := by
      rcases sch_glue qx with h3 | ⟨x, y, h1, h3, h4, _⟩
      · exact ⟨[], qx, h3, by simp, .inl rfl⟩
      · exact ⟨x, y, h3, by rw [if_neg (schS_all h4).1, h1]; simp, .inr h4⟩
    obtain ⟨ab, ax, ay, ha, hs4, ha0, ha1, ha2, ha3⟩ : ∃ ab ax ay, authOf sy = (ab, ax, ay) ∧ sy = (if ab then 47 :: 47 :: ax else []) ++ ay ∧ (ab = false → ax = []) ∧ (∀ c ∈ ax, c ≠ 47) ∧ (ab = true → ay = [] ∨ ∃ z, ay = 47 :: z) ∧ (ab = false → ∀ q, ay ≠ 47 :: 47 :: q) := by
      rcases auth_glue sy with ⟨h1, h2⟩ | ⟨x, y, h1, h2, h3, h4⟩
      · exact ⟨false, [], sy, h2, by simp, fun _ => rfl, fun c hc => absurd hc (by simp), fun h => (by cases h), fun _ => h1⟩
      · exact ⟨true, x, y, h2, by rw [h1]; simp, fun h => (by cases h), h3, fun _ => h4, fun h => by cases h⟩
    simp only [hf, hq, hc, ha, Option.some.injEq] at h
    subst h
    have hq2 : ∀ c ∈ qx, c ≠ 63 ∧ c ≠ 35 := fun c hcx => ⟨hq1 c hcx, hf1 c (by rw [hs2]; exact List.mem_append_left _ hcx)⟩
    have hsy : ∀ c ∈ sy, c ≠ 63 ∧ c ≠ 35 := fun c hcx => hq2 c (by rw [hs3]; exact List.mem_append_right _ hcx)
    refine ⟨?_, ?_, hsch, ?_, ?_, ?_, ha0, hq0, hf0, ha2, ha3⟩
    · show (if sx = [] then [] else sx ++ [58]) ++ (if ab = true then 47 :: 47 :: ax else []) ++ ay ++ (if qb = true then 63 :: qy else []) ++ (if fb = true then 35 :: fy else []) = s
      rw [hs1, hs2, hs3, hs4]
      simp only [List.append_assoc]
    · intro c hcx
      refine hin c ?_
      rw [hs1, hs2, hs3, hs4]
      rcases hcx with h | h | h | h | h
      · have h' : c ∈ sx := h
        have : sx ≠ [] := fun e => by rw [e] at h'; simp at h'
        rw [if_neg this]
        simp [h']
      · have h' : c ∈ ax := h
        have : ab = true := by
          cases ab
          · rw [ha0 rfl] at h'; simp at h'
          · rfl
        rw [this]
        simp [h']
      · have h' : c ∈ ay := h
        simp [h']
      · have h' : c ∈ qy := h
        have : qb = true := by
          cases qb
          · rw [hq0 rfl] at h'; simp at h'
          · rfl
        rw [this]
        simp [h']
      · have h' : c ∈ fy := h
        have : fb = true := by
          cases fb
          · rw [hf0 rfl] at h'; simp at h'
          · rfl
        rw [this]
        simp [h']
    · intro c hcx
      have hcx' : c ∈ ax := hcx
      have hab : ab = true := by
        cases ab
        · rw [ha0 rfl] at hcx'; simp at hcx'
        · rfl
      have := hsy c (by rw [hs4, hab]; simp [hcx'])
      exact ⟨ha1 c hcx', this.1, this.2⟩
    · intro c hcx
      exact hsy c (by rw [hs4]; exact List.mem_append_right _ hcx)
    · intro c hcx
      have hcx' : c ∈ qy := hcx
      have hqb : qb = true := by
        cases qb
        · rw [hq0 rfl] at hcx'; simp at hcx'
        · rfl
      exact hf1 c (by rw [hs2, hqb]; simp [hcx'])
  · cases h

/-- An address with a scheme that may be is what it is written as. -/
theorem write_read (a : AB) (h : Fit0 a) (hs : schS a.sch = true) : readA (writeA a) = some a := by
  obtain ⟨hne, hsc⟩ := schS_all hs
  obtain ⟨sch, hasA, auth, path, hasQ, query, hasF, frag⟩ := a
  simp only at hs hne hsc
  have hw : writeA ⟨sch, hasA, auth, path, hasQ, query, hasF, frag⟩ = ((sch ++ 58 :: ((if hasA then 47 :: 47 :: auth else []) ++ path)) ++ (if hasQ then 63 :: query else [])) ++ (if hasF then 35 :: frag else []) := by
    simp [writeA, hne]
  have hbase : ∀ c ∈ (if hasA then 47 :: 47 :: auth else []) ++ path, c ≠ 63 ∧ c ≠ 35 ∧ in33 c = true := by
    intro c hc
    rcases List.mem_append.1 hc with hc | hc
    · cases hasA
      · simp at hc
      · have : c = 47 ∨ c ∈ auth := by
          simp at hc
          exact hc
        rcases this with rfl | hc
        · exact ⟨by decide, by decide, by decide⟩
        · exact ⟨(h.auth1 c hc).2.1, (h.auth1 c hc).2.2, h.bytes c (.inr (.inl hc))⟩
    · exact ⟨(h.path1 c hc).1, (h.path1 c hc).2, h.bytes c (.inr (.inr (.inl hc)))⟩
  have hx1 : ∀ c ∈ sch ++ 58 :: ((if hasA then 47 :: 47 :: auth else []) ++ path), c ≠ 63 ∧ c ≠ 35 ∧ in33 c = true := by
    intro c hc
    rcases List.mem_append.1 hc with hc | hc
    · have := schC_ne c (hsc c hc)
      exact ⟨this.2.1, this.2.2.1, this.2.2.2.2.1⟩
    · rcases List.mem_cons.1 hc with rfl | hc
      · exact ⟨by decide, by decide, by decide⟩
      · exact hbase c hc
  have hx2 : ∀ c ∈ (sch ++ 58 :: ((if hasA then 47 :: 47 :: auth else []) ++ path)) ++ (if hasQ then 63 :: query else []), c ≠ 35 ∧ in33 c = true := by
    intro c hc
    rcases List.mem_append.1 hc with hc | hc
    · exact ⟨(hx1 c hc).2.1, (hx1 c hc).2.2⟩
    · cases hasQ
      · simp at hc
      · rcases List.mem_cons.1 hc with rfl | hc
        · exact ⟨by decide, by decide⟩
        · exact ⟨h.query1 c hc, h.bytes c (.inr (.inr (.inr (.inl hc))))⟩
  have hf : Lib.cut (writeA ⟨sch, hasA, auth, path, hasQ, query, hasF, frag⟩) [35] = ((sch ++ 58 :: ((if hasA then 47 :: 47 :: auth else []) ++ path)) ++ (if hasQ then 63 :: query else []), frag, hasF) := by
    rw [hw]
    cases hasF
    · have : frag = [] := h.frag0 rfl
      subst this
      simp only [Bool.false_eq_true, if_false, List.append_nil]
      exact cut_none1 _ 35 fun c hc => (hx2 c hc).1
    · exact index_first1 _ frag 35 fun c hc => (hx2 c hc).1
  have hq : Lib.cut ((sch ++ 58 :: ((if hasA then 47 :: 47 :: auth else []) ++ path)) ++ (if hasQ then 63 :: query else [])) [63] = (sch ++ 58 :: ((if hasA then 47 :: 47 :: auth else []) ++ path), query, hasQ) := by
    cases hasQ
    · have : query = [] := h.query0 rfl
      subst this
      simp only [Bool.false_eq_true, if_false, List.append_nil]
      exact cut_none1 _ 63 fun c hc => (hx1 c hc).1
    · exact index_first1 _ query 63 fun c hc => (hx1 c hc).1
  have hc : schOf (sch ++ 58 :: ((if hasA then 47 :: 47 :: auth else []) ++ path)) = (sch, (if hasA then 47 :: 47 :: auth else []) ++ path) := by
    unfold schOf
    rw [index_first1 sch _ 58 fun c hc => (schC_ne c (hsc c hc)).1]
    simp [hs]
  have ha : authOf ((if hasA then 47 :: 47 :: auth else []) ++ path) = (hasA, auth, path) := by
    cases hasA
    · have : auth = [] := h.auth0 rfl
      subst this
      simp only [Bool.false_eq_true, if_false, List.nil_append]
      rcases auth_glue path with ⟨_, e⟩ | ⟨x, y, e, _⟩
      · exact e
      · exact absurd e (h.path3 rfl _)
    · have hp : path.head?.all (fun c => !(c != 47)) = true := by
        rcases h.path2 rfl with e | ⟨z, e⟩
        · simp only at e; rw [e]; rfl
        · simp only at e; rw [e]; rfl
      have hau : ∀ c ∈ auth, (c != 47) = true := fun c hc => by simpa using (h.auth1 c hc).1
      obtain ⟨i1, i2⟩ := takeWhile_app (p := fun c => c != 47) auth path hau hp
      unfold authOf
      rw [if_pos (by simp)]
      show (true, (auth ++ path).takeWhile (· != 47), (auth ++ path).dropWhile (· != 47)) = _
      rw [i1, i2]
  have hall : (writeA ⟨sch, hasA, auth, path, hasQ, query, hasF, frag⟩).all in33 = true := by
    rw [hw, List.all_eq_true]
    intro c hc
    rcases List.mem_append.1 hc with hc | hc
    · exact (hx2 c hc).2
    · cases hasF
      · simp at hc
      · rcases List.mem_cons.1 hc with rfl | hc
        · decide
        · exact h.bytes c (.inr (.inr (.inr (.inr hc))))
  unfold readA
  rw [if_pos hall]
  simp only [hf, hq, hc, ha]

/- Where an address leads. -/
def dirS (p : List UInt8) : List UInt8 := (p.reverse.dropWhile (· != 47)).reverse
def dirA (b : AB) : List UInt8 := if b.hasA = true ∧ b.path = [] then [47] else dirS b.path
def resA (b a : AB) : AB :=
  if a.sch ≠ [] ∨ a.hasA = true then { a with sch := if a.sch = [] then b.sch else a.sch, path := dotsS a.path }
  else if a.path = [] then (if a.hasQ then { b with hasQ := a.hasQ, query := a.query, hasF := a.hasF, frag := a.frag } else { b with hasF := a.hasF, frag := a.frag })
  else { b with hasQ := a.hasQ, query := a.query, hasF := a.hasF, frag := a.frag, path := dotsS (if a.path.head? = some 47 then a.path else dirA b ++ a.path) }
def wholeA (a : AB) : AB := { sch := smallS a.sch, hasA := a.hasA, auth := smallS a.auth, path := a.path, hasQ := a.hasQ, query := a.query, hasF := false, frag := [] }

theorem dirS_mem (p : List UInt8) (c : UInt8) (h : c ∈ dirS p) : c ∈ p := by
  unfold dirS at h
  have h1 := List.mem_reverse.1 h
  have := (List.dropWhile_sublist (fun x : UInt8 => x != 47) (l := p.reverse)).subset h1
  exact List.mem_reverse.1 this
theorem dirS_slash (z : List UInt8) : ∃ t, dirS (47 :: z) = 47 :: t := by
  unfold dirS
  rw [List.reverse_cons, List.dropWhile_append]
  split
  · exact ⟨[], by simp⟩
  · exact ⟨(z.reverse.dropWhile (· != 47)).reverse, by simp⟩
theorem dots_slash_of {p : List UInt8} (h : ∃ z, p = 47 :: z) : ∃ z, dotsS p = 47 :: z := by
  obtain ⟨z, rfl⟩ := h
  exact dotsS_slash z

theorem res_fit (b a : AB) (hb : Fit0 b) (ha : Fit0 a) (hs : schS b.sch = true) : Fit0 (resA b a) ∧ schS (resA b a).sch = true := by
  have dots_ok : ∀ p : List UInt8, (∀ c ∈ p, in33 c = true ∧ c ≠ 63 ∧ c ≠ 35) → ∀ c ∈ dotsS p, in33 c = true ∧ c ≠ 63 ∧ c ≠ 35 := by
    intro p hp c hc
    rcases dotsS_mem p c hc with rfl | h
    · exact ⟨by decide, by decide, by decide⟩
    · exact hp c h
  unfold resA
  by_cases h1 : a.sch ≠ [] ∨ a.hasA = true
  · rw [if_pos h1]
    have hsch : schS (if a.sch = [] then b.sch else a.sch) = true := by
      by_cases h : a.sch = []
      · rw [if_pos h]; exact hs
      · rw [if_neg h]
        rcases ha.scheme with e | e
        · exact absurd e h
        · exact e
    have hp := dots_ok a.path fun c hc => ⟨ha.bytes c (.inr (.inr (.inl hc))), ha.path1 c hc⟩
    refine ⟨⟨?_, .inr hsch, ha.auth1, fun c hc => (hp c hc).2, ha.query1, ha.auth0, ha.query0, ha.frag0, ?_, fun _ => dotsS_two a.path⟩, hsch⟩
    · intro c hc
      rcases hc with hc | hc | hc | hc | hc
      · exact (schC_ne c ((schS_all hsch).2 c hc)).2.2.2.2.1
      · exact ha.bytes c (.inr (.inl hc))
      · exact (hp c hc).1
      · exact ha.bytes c (.inr (.inr (.inr (.inl hc))))
      · exact ha.bytes c (.inr (.inr (.inr (.inr hc))))
    · intro hA
      rcases ha.path2 hA with e | e
      · left
        show dotsS a.path = []
        rw [e]; rfl
      · exact .inr (dots_slash_of e)
  · rw [if_neg h1]
    by_cases h2 : a.path = []
    · rw [if_pos h2]
      split
      · refine ⟨⟨?_, hb.scheme, hb.auth1, hb.path1, ha.query1, hb.auth0, ha.query0, ha.frag0, hb.path2, hb.path3⟩, hs⟩
        intro c hc
        rcases hc with hc | hc | hc | hc | hc
        · exact hb.bytes c (.inl hc)
        · exact hb.bytes c (.inr (.inl hc))
        · exact hb.bytes c (.inr (.inr (.inl hc)))
        · exact ha.bytes c (.inr (.inr (.inr (.inl hc))))
        · exact ha.bytes c (.inr (.inr (.inr (.inr hc))))
      · refine ⟨⟨?_, hb.scheme, hb.auth1, hb.path1, hb.query1, hb.auth0, hb.query0, ha.frag0, hb.path2, hb.path3⟩, hs⟩
        intro c hc
        rcases hc with hc | hc | hc | hc | hc
        · exact hb.bytes c (.inl hc)
        · exact hb.bytes c (.inr (.inl hc))
        · exact hb.bytes c (.inr (.inr (.inl hc)))
        · exact hb.bytes c (.inr (.inr (.inr (.inl hc))))
        · exact ha.bytes c (.inr (.inr (.inr (.inr hc))))
    · rw [if_neg h2]
      have hpb : ∀ c ∈ (if a.path.head? = some 47 then a.path else dirA b ++ a.path), in33 c = true ∧ c ≠ 63 ∧ c ≠ 35 := by
        intro c hc
        have hap : ∀ c ∈ a.path, in33 c = true ∧ c ≠ 63 ∧ c ≠ 35 := fun c hc => ⟨ha.bytes c (.inr (.inr (.inl hc))), ha.path1 c hc⟩
        split at hc
        · exact hap c hc
        · rcases List.mem_append.1 hc with hc | hc
          · unfold dirA at hc
            split at hc
            · rw [List.mem_singleton.1 hc]; exact ⟨by decide, by decide, by decide⟩
            · have := dirS_mem _ c hc
              exact ⟨hb.bytes c (.inr (.inr (.inl this))), hb.path1 c this⟩
          · exact hap c hc
      have hp := dots_ok _ hpb
      refine ⟨⟨?_, hb.scheme, hb.auth1, fun c hc => (hp c hc).2, ha.query1, hb.auth0, ha.query0, ha.frag0, ?_, fun _ => dotsS_two _⟩, hs⟩
      · intro c hc
        rcases hc with hc | hc | hc | hc | hc
        · exact hb.bytes c (.inl hc)
        · exact hb.bytes c (.inr (.inl hc))
        · exact (hp c hc).1
        · exact ha.bytes c (.inr (.inr (.inr (.inl hc))))
        · exact ha.bytes c (.inr (.inr (.inr (.inr hc))))
      · intro hA
        right
        apply dots_slash_of
        split
        · rename_i hh
          cases hpth : a.path with
          | nil => rw [hpth] at hh; cases hh
          | cons c r =>
            rw [hpth] at hh
            have : c = 47 := by simpa using hh
            exact ⟨r, by rw [this]⟩
        · have hd : ∃ t, dirA b = 47 :: t := by
            unfold dirA
            split
            · exact ⟨[], rfl⟩
            · rename_i hn
              rcases hb.path2 hA with e | ⟨z, e⟩
              · exact absurd ⟨hA, e⟩ hn
              · rw [e]; exact dirS_slash z
          obtain ⟨t, ht⟩ := hd
          exact ⟨t ++ a.path, by rw [ht]; rfl⟩

/-- It leads there again from anywhere. -/
theorem res_again (z b a : AB) (hs : schS (resA b a).sch = true) (h : a.path ≠ [] ∨ a.sch ≠ [] ∨ a.hasA = true) : resA z (resA b a) = resA b a ∧ ∃ p, (resA b a).path = dotsS p := by
  have hp : ∃ p, (resA b a).path = dotsS p := by
    unfold resA
    split
    · exact ⟨a.path, rfl⟩
    · rename_i h1
      split
      · rename_i h2
        exfalso
        rcases h with h | h | h
        · exact h h2
        · exact h1 (.inl h)
        · exact h1 (.inr h)
      · exact ⟨_, rfl⟩
  refine ⟨?_, hp⟩
  obtain ⟨p, hp⟩ := hp
  have hne := (schS_all hs).1
  generalize resA b a = r at hp hne
  unfold resA
  rw [if_pos (.inl hne), if_neg hne, hp, dotsS_idem, ← hp]
theorem path_parts (p : List UInt8) (l : List (List UInt8)) (h : splitP (dotsS p) = l) : (∀ x ∈ l, x ≠ dot ∧ x ≠ dotdot) ∧ ∀ i x, l[i]? = some x → 0 < i → i + 1 < l.length → x ≠ [] := by
  rw [dotsS_split] at h
  have hw := dotsS_whole p
  rw [h] at hw
  refine ⟨fun x hx => ⟨(hw.2.1 x hx).1, (hw.2.1 x hx).2.1⟩, fun i x hi h0 h1 => hw.2.2 x ?_⟩
  refine List.mem_of_getElem? (i := i - 1) ?_
  rw [List.getElem?_tail, Nat.sub_add_cancel h0, List.getElem?_dropLast, if_pos (by omega)]
  exact hi
theorem small_ne (c : UInt8) : (in33 c = true → in33 (smallC c) = true) ∧ (c ≠ 47 → smallC c ≠ 47) ∧ (c ≠ 63 → smallC c ≠ 63) ∧ (c ≠ 35 → smallC c ≠ 35) := by
  have key : ∀ n : Fin 256, (in33 (UInt8.ofNat n.val) = true → in33 (smallC (UInt8.ofNat n.val)) = true) ∧ (UInt8.ofNat n.val ≠ 47 → smallC (UInt8.ofNat n.val) ≠ 47) ∧ (UInt8.ofNat n.val ≠ 63 → smallC (UInt8.ofNat n.val) ≠ 63) ∧ (UInt8.ofNat n.val ≠ 35 → smallC (UInt8.ofNat n.val) ≠ 35) := by decide +kernel
  have := key ⟨c.toNat, c.toNat_lt⟩
  have e : UInt8.ofNat c.toNat = c := by simp
  simp only [e] at this
  exact this
/-- The whole of an address that may be may be, and is its own whole. -/
theorem whole_fit (a : AB) (h : Fit0 a) (hs : schS a.sch = true) : Fit0 (wholeA a) ∧ schS (wholeA a).sch = true ∧ wholeA (wholeA a) = wholeA a := by
  have hs2 := schS_small hs
  refine ⟨⟨?_, .inr hs2, ?_, h.path1, h.query1, ?_, h.query0, fun _ => rfl, h.path2, h.path3⟩, hs2, ?_⟩
  · intro c hc
    rcases hc with hc | hc | hc | hc | hc
    · exact (schC_ne c ((schS_all hs2).2 c hc)).2.2.2.2.1
    · obtain ⟨d, hd, rfl⟩ := List.mem_map.1 hc
      exact (small_ne d).1 (h.bytes d (.inr (.inl hd)))
    · exact h.bytes c (.inr (.inr (.inl hc)))
    · exact h.bytes c (.inr (.inr (.inr (.inl hc))))
    · exact absurd hc (by simp [wholeA])
  · intro c hc
    obtain ⟨d, hd, rfl⟩ := List.mem_map.1 hc
    have := h.auth1 d hd
    exact ⟨(small_ne d).2.1 this.1, (small_ne d).2.2.1 this.2.1, (small_ne d).2.2.2 this.2.2⟩
  · intro hA
    have : a.auth = [] := h.auth0 hA
    show smallS a.auth = []
    rw [this]; rfl
  · unfold wholeA
    simp only [smallS_idem]

end Go.Proofs.YtkmkhfgoihfkjaaDoor
