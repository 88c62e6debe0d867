import Derived.Test.YtmjijnfhgedmlaaGreatDoorZ3
import Derived.Test.YtmjijnfhgedmlaaGreatDoorZ1
import Derived.Lib.Strings
namespace Go.Proofs.YtmjijnfhgedmlaaGreatDoor
open Go.RowKit

/- Heads of parts: what is looked up in them, what Write puts there. -/
def ctN : List UInt8 := [99, 111, 110, 116, 101, 110, 116, 45, 116, 121, 112, 101]
def cteN : List UInt8 := [99, 111, 110, 116, 101, 110, 116, 45, 116, 114, 97, 110, 115, 102, 101, 114, 45, 101, 110, 99, 111, 100, 105, 110, 103]
def cteB : List UInt8 := [67, 111, 110, 116, 101, 110, 116, 45, 84, 114, 97, 110, 115, 102, 101, 114, 45, 69, 110, 99, 111, 100, 105, 110, 103]
def multiN : List UInt8 := [109, 117, 108, 116, 105, 112, 97, 114, 116, 47]
def bdN : List UInt8 := [98, 111, 117, 110, 100, 97, 114, 121]
def bit7 : List UInt8 := [55, 98, 105, 116]
def bit8 : List UInt8 := [56, 98, 105, 116]
def binN : List UInt8 := [98, 105, 110, 97, 114, 121]
def b64N : List UInt8 := [98, 97, 115, 101, 54, 52]
def qpN : List UInt8 := [113, 117, 111, 116, 101, 100, 45, 112, 114, 105, 110, 116, 97, 98, 108, 101]
def rightB (f : PB) : Bool := nameS f.1 && saysS f.2
def getB (L : List PB) (n : List UInt8) : Option PB := L.find? fun f => decide (smallS f.1 = n)
def getPB (ps : List PB) : List UInt8 := ((ps.find? fun p => decide (p.1 = bdN)).map (·.2)).getD []
/-- Which boundary parts it, if it has parts. -/
def maniesS (L : List PB) : Except Nat (Option (List UInt8)) :=
  match getB L ctN with
  | none => .ok none
  | some f => match readK f.2 with
    | none => .error 3
    | some q => if multiN.isPrefixOf q.1 then (if 1 ≤ (getPB q.2).length ∧ (getPB q.2).length ≤ 70 ∧ (getPB q.2).getLast? ≠ some 32 then .ok (some (getPB q.2)) else .error 3) else .ok none
def stripH (L : List PB) : List PB := L.filter fun f => !decide (smallS f.1 = cteN)
def setP (bd : List UInt8) : List PB → List PB
  | [] => []
  | p :: ps => if p.1 = bdN then (p.1, bd) :: ps else p :: setP bd ps
def newVal (bd v : List UInt8) : List UInt8 := match readK v with | some q => writeK q.1 (setP bd q.2) | none => []
/-- A head with another boundary, in its first field of that name, and no word of how bytes are written. -/
def setCT (bd : List UInt8) : List PB → List PB
  | [] => []
  | f :: L => if smallS f.1 = cteN then setCT bd L else if smallS f.1 = ctN then (f.1, newVal bd f.2) :: stripH L else f :: setCT bd L
/-- The boundaries that are given. -/
def okBd (bd : List UInt8) : Prop := bd ≠ [] ∧ bd.length ≤ 70 ∧ ∀ c ∈ bd, tokC c = true

theorem okBd_no13 {bd : List UInt8} (h : okBd bd) : ∀ c ∈ bd, c ≠ 13 := by
  intro c hc e
  have := h.2.2 c hc
  rw [e] at this
  exact absurd this (by decide)
theorem okBd_in {bd : List UInt8} (h : okBd bd) : bd.all inC = true := by
  rw [List.all_eq_true]
  intro c hc
  exact (tok_cases c (h.2.2 c hc)).2.2.2.2.2.1
theorem okBd_last {bd : List UInt8} (h : okBd bd) : bd.getLast? ≠ some 32 := by
  intro e
  have := h.2.2 32 (List.mem_of_getLast? e)
  exact absurd this (by decide)
theorem setP_good (bd : List UInt8) (h : bd.all inC = true) (ps : List PB) (hp : ps.all goodP = true) : (setP bd ps).all goodP = true := by
  induction ps with
  | nil => rfl
  | cons p ps ih =>
    simp only [List.all_cons, Bool.and_eq_true] at hp
    unfold setP
    split
    · simp only [List.all_cons, Bool.and_eq_true]
      refine ⟨?_, hp.2⟩
      have := hp.1
      unfold goodP at this ⊢
      simp only [Bool.and_eq_true] at this ⊢
      exact ⟨this.1, h⟩
    · simp only [List.all_cons, Bool.and_eq_true]
      exact ⟨hp.1, ih hp.2⟩
theorem setP_again (b1 b2 : List UInt8) (ps : List PB) : setP b1 (setP b2 ps) = setP b1 ps := by
  induction ps with
  | nil => rfl
  | cons p ps ih =>
    by_cases h : p.1 = bdN
    · simp [setP, h]
    · simp [setP, h, ih]
theorem getP_set (bd : List UInt8) (ps : List PB) (h : getPB ps ≠ []) : getPB (setP bd ps) = bd := by
  induction ps with
  | nil => exact absurd rfl h
  | cons p ps ih =>
    by_cases hp : p.1 = bdN
    · simp [setP, hp, getPB]
    · have e1 : getPB (p :: ps) = getPB ps := by simp [getPB, hp]
      rw [e1] at h
      have e2 : getPB (setP bd (p :: ps)) = getPB (setP bd ps) := by simp [setP, hp, getPB]
      rw [e2, ih h]
theorem newVal_read (bd v : List UInt8) (m : List UInt8) (ps : List PB) (h : okBd bd) (hr : readK v = some (m, ps)) : readK (newVal bd v) = some (m, setP bd ps) := by
  unfold newVal
  rw [hr]
  simp only
  apply kind_back
  have hg := kind_good v m ps hr
  unfold goodK at hg ⊢
  simp only [Bool.and_eq_true] at hg ⊢
  exact ⟨hg.1, setP_good bd (okBd_in h) ps hg.2⟩
theorem newVal_at (bd v m : List UInt8) (ps : List PB) (hr : readK v = some (m, ps)) : newVal bd v = writeK m (setP bd ps) := by unfold newVal; rw [hr]
theorem newVal_again (b1 b2 v : List UInt8) (m : List UInt8) (ps : List PB) (h : okBd b2) (hr : readK v = some (m, ps)) : newVal b1 (newVal b2 v) = newVal b1 v := by
  rw [newVal_at b1 _ m _ (newVal_read b2 v m ps h hr), newVal_at b1 v m ps hr, setP_again]
theorem setCT_cons (bd : List UInt8) (f : PB) (L : List PB) : setCT bd (f :: L) = if smallS f.1 = cteN then setCT bd L else if smallS f.1 = ctN then (f.1, newVal bd f.2) :: stripH L else f :: setCT bd L := rfl
theorem ct_ne : ctN ≠ cteN := by decide
theorem getB_cons (f : PB) (L : List PB) (n : List UInt8) : getB (f :: L) n = if smallS f.1 = n then some f else getB L n := by
  unfold getB
  rw [List.find?_cons]
  by_cases h : smallS f.1 = n <;> simp [h]
theorem strip_cons (f : PB) (L : List PB) : stripH (f :: L) = if smallS f.1 = cteN then stripH L else f :: stripH L := by
  unfold stripH
  by_cases h : smallS f.1 = cteN <;> simp [h]
theorem getB_strip (L : List PB) : getB (stripH L) ctN = getB L ctN := by
  induction L with
  | nil => rfl
  | cons f L ih =>
    rw [strip_cons, getB_cons]
    by_cases h : smallS f.1 = cteN
    · rw [if_pos h, ih, if_neg (by rw [h]; exact Ne.symm ct_ne)]
    · rw [if_neg h, getB_cons, ih]
theorem getB_strip2 (L : List PB) : getB (stripH L) cteN = none := by
  induction L with
  | nil => rfl
  | cons f L ih =>
    rw [strip_cons]
    by_cases h : smallS f.1 = cteN
    · rw [if_pos h, ih]
    · rw [if_neg h, getB_cons, if_neg h, ih]
theorem getB_set (bd : List UInt8) (L : List PB) : getB (setCT bd L) ctN = (getB L ctN).map fun f => (f.1, newVal bd f.2) := by
  induction L with
  | nil => rfl
  | cons f L ih =>
    unfold setCT
    rw [getB_cons]
    by_cases h : smallS f.1 = cteN
    · rw [if_pos h, ih, if_neg (by rw [h]; exact Ne.symm ct_ne)]
    · rw [if_neg h]
      by_cases h2 : smallS f.1 = ctN
      · rw [if_pos h2, if_pos h2, getB_cons, if_pos h2]; rfl
      · rw [if_neg h2, if_neg h2, getB_cons, if_neg h2, ih]
theorem getB_append (L : List PB) (f : PB) (n : List UInt8) (h : smallS f.1 ≠ n) : getB (L ++ [f]) n = getB L n := by
  unfold getB
  rw [List.find?_append]
  simp [h]
theorem strip_strip (L : List PB) : stripH (stripH L) = stripH L := by unfold stripH; rw [List.filter_filter]; simp
theorem strip_append (a b : List PB) : stripH (a ++ b) = stripH a ++ stripH b := by unfold stripH; exact List.filter_append ..
theorem set_strip (bd : List UInt8) (L : List PB) : stripH (setCT bd L) = setCT bd L := by
  induction L with
  | nil => rfl
  | cons f L ih =>
    unfold setCT
    by_cases h : smallS f.1 = cteN
    · rw [if_pos h, ih]
    · rw [if_neg h]
      by_cases h2 : smallS f.1 = ctN
      · rw [if_pos h2, strip_cons, if_neg h, strip_strip]
      · rw [if_neg h2, strip_cons, if_neg h, ih]
theorem set_again (b1 b2 : List UInt8) (L : List PB) (h : okBd b2) (hr : ∀ f, getB L ctN = some f → (readK f.2).isSome = true) : setCT b1 (setCT b2 L) = setCT b1 L := by
  induction L with
  | nil => rfl
  | cons f L ih =>
    rw [getB_cons] at hr
    rw [setCT_cons b2, setCT_cons b1]
    by_cases hc : smallS f.1 = cteN
    · rw [if_pos hc, if_pos hc]
      exact ih fun g hg => hr g (by rw [if_neg (by rw [hc]; exact Ne.symm ct_ne)]; exact hg)
    · rw [if_neg hc, if_neg hc]
      by_cases h2 : smallS f.1 = ctN
      · rw [if_pos h2, if_pos h2]
        rw [if_pos h2] at hr
        obtain ⟨q, hq⟩ := Option.isSome_iff_exists.1 (hr f rfl)
        rw [setCT_cons, if_neg hc, if_pos h2, strip_strip, newVal_again b1 b2 f.2 q.1 q.2 h hq]
      · rw [if_neg h2, if_neg h2, setCT_cons, if_neg hc, if_neg h2]
        rw [if_neg h2] at hr
        rw [ih hr]
theorem manies_read (L : List PB) (o : Option (List UInt8)) (h : maniesS L = .ok o) : ∀ f, getB L ctN = some f → (readK f.2).isSome = true := by
  intro f hf
  unfold maniesS at h
  rw [hf] at h
  simp only at h
  cases hr : readK f.2 with
  | none => rw [hr] at h; cases h
  | some q => rfl
/-- With a boundary that is given it has parts by that. -/
theorem manies_set (bd b : List UInt8) (L : List PB) (hb : okBd bd) (h : maniesS L = .ok (some b)) : maniesS (setCT bd L) = .ok (some bd) := by
  unfold maniesS at h ⊢
  rw [getB_set]
  cases hg : getB L ctN with
  | none => rw [hg] at h; cases h
  | some f =>
    rw [hg] at h
    simp only [Option.map_some] at h ⊢
    cases hr : readK f.2 with
    | none => rw [hr] at h; cases h
    | some q =>
      rw [hr] at h
      simp only at h
      rw [newVal_read bd f.2 q.1 q.2 hb hr]
      simp only
      by_cases hm : multiN.isPrefixOf q.1 = true
      · rw [if_pos hm] at h ⊢
        by_cases hl : 1 ≤ (getPB q.2).length ∧ (getPB q.2).length ≤ 70 ∧ (getPB q.2).getLast? ≠ some 32
        · have hne : getPB q.2 ≠ [] := List.length_pos_iff.1 hl.1
          rw [getP_set bd q.2 hne, if_pos ⟨List.length_pos_iff.2 hb.1, hb.2.1, okBd_last hb⟩]
        · rw [if_neg hl] at h; cases h
      · rw [if_neg hm] at h; cases h
theorem manies_plain (L : List PB) (how : List UInt8) : maniesS (stripH L ++ [(cteB, how)]) = maniesS L := by
  unfold maniesS
  rw [getB_append _ _ _ (show smallS cteB ≠ ctN by decide), getB_strip]
theorem strip_plain (L : List PB) (how : List UInt8) : stripH (stripH L ++ [(cteB, how)]) = stripH L := by
  rw [strip_append, strip_strip]
  have : stripH [(cteB, how)] = [] := by rw [strip_cons, if_pos (show smallS cteB = cteN by decide)]; rfl
  rw [this, List.append_nil]
theorem getB_plain (L : List PB) (how : List UInt8) : getB (stripH L ++ [(cteB, how)]) cteN = some (cteB, how) := by
  have h := getB_strip2 L
  unfold getB at h ⊢
  rw [List.find?_append, h]
  have : decide (smallS cteB = cteN) = true := by decide
  simp [this]

end Go.Proofs.YtmjijnfhgedmlaaGreatDoor

namespace Go.Proofs.YtmjijnfhgedmlaaGreatDoor
open Go.RowKit

/- Parts in parts. -/
theorem in_say (c : UInt8) (h : inC c = true) : sayC c = true := by
  simp only [inC, Bool.and_eq_true, decide_eq_true_eq] at h
  simp only [sayC, Bool.and_eq_true, Bool.or_eq_true, decide_eq_true_eq]
  omega
theorem tok_in (c : UInt8) (h : tokC c = true) : inC c = true := (tok_cases c h).2.2.2.2.2.1
theorem valW_in (v : List UInt8) (h : v.all inC = true) : (∀ c ∈ valW v, inC c = true) ∧ ∃ u c, valW v = u ++ [c] ∧ blk c = false := by
  unfold valW
  by_cases ht : tokS v = true
  · rw [if_pos ht]
    obtain ⟨c0, r, hv, _, hall⟩ := tokS_parts ht
    refine ⟨fun c hc => tok_in c (hall c hc), v.dropLast, v.getLast (by rw [hv]; simp), (List.dropLast_concat_getLast _).symm, ?_⟩
    exact (tok_cases _ (hall _ (List.getLast_mem _))).1
  · rw [if_neg ht]
    refine ⟨?_, 34 :: v.flatMap escC, 34, rfl, by decide⟩
    intro c hc
    rcases List.mem_cons.1 hc with rfl | hc
    · decide
    · rcases List.mem_append.1 hc with hc | hc
      · obtain ⟨x, hx, hxc⟩ := List.mem_flatMap.1 hc
        unfold escC at hxc
        have hxi := List.all_eq_true.1 h x hx
        split at hxc
        · rcases List.mem_cons.1 hxc with rfl | hxc
          · decide
          · have : c = x := by simpa using hxc
            rw [this]; exact hxi
        · have : c = x := by simpa using hxc
          rw [this]; exact hxi
      · have : c = 34 := by simpa using hc
        rw [this]; decide
theorem write_says (m : List UInt8) (l : List PB) (h : goodK m l = true) : saysS (writeK m l) = true := by
  unfold goodK at h
  simp only [Bool.and_eq_true] at h
  obtain ⟨hm, hl⟩ := h
  unfold goodM at hm
  simp only [Bool.and_eq_true] at hm
  obtain ⟨m0, m1, m2, m3⟩ := main_ends m hm.1
  have hp : ∀ p ∈ l, (∀ c ∈ paramW p, inC c = true) ∧ ∃ u c, paramW p = u ++ [c] ∧ blk c = false := by
    intro p hp
    have hg := List.all_eq_true.1 hl p hp
    unfold goodP at hg
    simp only [Bool.and_eq_true] at hg
    obtain ⟨v1, u, c, hv, hb⟩ := valW_in p.2 hg.2
    obtain ⟨_, _, _, _, ht⟩ := tokS_parts hg.1.1
    refine ⟨?_, [59, 32] ++ p.1 ++ [61] ++ u, c, by unfold paramW; rw [hv]; simp, hb⟩
    intro d hd
    unfold paramW at hd
    simp only [List.mem_append, List.mem_cons, List.not_mem_nil, or_false] at hd
    rcases hd with (((rfl | rfl) | hd) | rfl) | hd
    · decide
    · decide
    · exact tok_in d (ht d hd)
    · decide
    · exact v1 d hd
  unfold saysS
  simp only [Bool.and_eq_true, decide_eq_true_eq]
  constructor
  · rw [List.all_eq_true]
    intro c hc
    apply in_say
    unfold writeK at hc
    rcases List.mem_append.1 hc with hc | hc
    · rcases m1 c hc with h | rfl
      · exact tok_in c h
      · decide
    · obtain ⟨p, hpm, hpc⟩ := List.mem_flatMap.1 hc
      exact (hp p hpm).1 c hpc
  · rw [trim_iff]
    unfold writeK
    constructor
    · cases m with
      | nil => exact absurd rfl m0
      | cons a b => simpa using m2
    · rcases List.eq_nil_or_concat l with rfl | ⟨l', p, rfl⟩
      · simpa using m3
      · obtain ⟨_, u, c, hu, hb⟩ := hp p (by simp)
        simp only [List.concat_eq_append, List.flatMap_append, List.flatMap_cons, List.flatMap_nil, List.append_nil]
        rw [hu, ← List.append_assoc, ← List.append_assoc, List.getLast?_append]
        simp [hb]
theorem right_strip (L : List PB) (h : L.all rightB = true) : (stripH L).all rightB = true := by
  rw [List.all_eq_true] at h ⊢
  intro f hf
  exact h f (List.mem_filter.1 hf).1
theorem right_set (bd : List UInt8) (hb : okBd bd) (L : List PB) (h : L.all rightB = true) (hr : ∀ f, getB L ctN = some f → (readK f.2).isSome = true) : (setCT bd L).all rightB = true := by
  induction L with
  | nil => rfl
  | cons f L ih =>
    simp only [List.all_cons, Bool.and_eq_true] at h
    rw [getB_cons] at hr
    rw [setCT_cons]
    by_cases hc : smallS f.1 = cteN
    · rw [if_pos hc]
      exact ih h.2 fun g hg => hr g (by rw [if_neg (by rw [hc]; exact Ne.symm ct_ne)]; exact hg)
    · rw [if_neg hc]
      by_cases h2 : smallS f.1 = ctN
      · rw [if_pos h2] at hr ⊢
        obtain ⟨q, hq⟩ := Option.isSome_iff_exists.1 (hr f rfl)
        simp only [List.all_cons, Bool.and_eq_true]
        refine ⟨?_, right_strip L h.2⟩
        have h1 := h.1
        unfold rightB at h1 ⊢
        simp only [Bool.and_eq_true] at h1 ⊢
        refine ⟨h1.1, ?_⟩
        rw [newVal_at bd f.2 q.1 q.2 hq]
        apply write_says
        have hg := kind_good f.2 q.1 q.2 hq
        unfold goodK at hg ⊢
        simp only [Bool.and_eq_true] at hg ⊢
        exact ⟨hg.1, setP_good bd (okBd_in hb) q.2 hg.2⟩
      · rw [if_neg h2] at hr ⊢
        simp only [List.all_cons, Bool.and_eq_true]
        exact ⟨h.1, ih h.2 hr⟩

/-- What stands beneath: heads, bytes as letters, boundaries. -/
structure Beneath where
  hw : List PB → List UInt8
  hr : List UInt8 → Except Nat (List PB × List UInt8)
  pk : List UInt8 → List UInt8
  up : List UInt8 → Option (List UInt8)
  qt : List UInt8 → List UInt8
  uq : List UInt8 → Option (List UInt8)
  bnd : List (List UInt8) → List UInt8
  back : ∀ L rest, L.all rightB = true → hr (hw L ++ rest) = .ok (L, rest)
  good : ∀ s L rest, hr s = .ok (L, rest) → L.all rightB = true
  up_pk : ∀ b, up (pk b) = some b
  uq_qt : ∀ b, uq (qt b) = some b
  bok : ∀ xs, xs.flatten.length ≤ 20000 → okBd (bnd xs)
  bap : ∀ xs, ∀ x ∈ xs, Apart (lead (bnd xs)) x
def asIsS : List UInt8 → Bool
  | [] => true
  | [c] => inC c || c == 9
  | c :: d :: r => if c = 13 ∧ d = 10 then asIsS r else (inC c || c == 9) && asIsS (d :: r)
def howW (Y : Beneath) (b : List UInt8) : List UInt8 × List UInt8 := if asIsS b then (bit7, b) else if (Y.pk b).length < (Y.qt b).length then (b64N, Y.pk b) else (qpN, Y.qt b)
def someOr (e : Nat) : Option (List UInt8) → Except Nat (List UInt8)
  | none => .error e
  | some b => .ok b
def decodeS (Y : Beneath) (L : List PB) (body : List UInt8) : Except Nat (List UInt8) :=
  match getB L cteN with
  | none => .ok body
  | some f => if smallS f.2 = bit7 ∨ smallS f.2 = bit8 ∨ smallS f.2 = binN then .ok body else if smallS f.2 = b64N then someOr 3 (Y.up body) else if smallS f.2 = qpN then someOr 3 (Y.uq body) else .error 5
inductive PT
  | mk (head : List PB) (body : List UInt8) (many : Bool) (parts : List PT)
def allG {α β : Type} (f : Nat → α → Except Nat (β × Nat)) : List α → Nat → Except Nat (List β × Nat)
  | [], n => .ok ([], n)
  | x :: xs, n => match f n x with
    | .error e => .error e
    | .ok q => match allG f xs q.2 with
      | .error e => .error e
      | .ok r => .ok (q.1 :: r.1, r.2)
/-- A part, read: how many may still stand in each other, how many were begun. -/
def readT (Y : Beneath) : Nat → Nat → List UInt8 → Except Nat (PT × Nat)
  | 0, _, _ => .error 4
  | d + 1, n, s => if 40 ≤ n then .error 4 else match Y.hr s with
    | .error e => .error e
    | .ok h => match maniesS h.1 with
      | .error e => .error e
      | .ok none => match decodeS Y h.1 h.2 with
        | .error e => .error e
        | .ok b => .ok (.mk h.1 b false [], n + 1)
      | .ok (some b) => match betweenS b h.2 with
        | none => .error 3
        | some xs => match allG (readT Y d) xs (n + 1) with
          | .error e => .error e
          | .ok r => .ok (.mk h.1 [] true r.1, r.2)
/-- A part, written. -/
def writeT (Y : Beneath) : Nat → Nat → PT → Except Nat (List UInt8 × Nat)
  | 0, _, _ => .error 4
  | d + 1, n, .mk L b many ps => if 40 ≤ n then .error 4 else match maniesS L with
    | .error _ => .error 1
    | .ok o => if L.all rightB = true ∧ o.isSome = many ∧ (many = true → b = []) ∧ (many = false → ps = []) then
        match allG (writeT Y d) ps (n + 1) with
        | .error e => .error e
        | .ok r => if many = true then .ok (Y.hw (setCT (Y.bnd r.1) L) ++ piecesW (Y.bnd r.1) r.1, r.2) else .ok (Y.hw (stripH L ++ [(cteB, (howW Y b).1)]) ++ (howW Y b).2, r.2)
      else .error 1
/-- What of a head is the writer's own. -/
def blankCT : List PB → List PB
  | [] => []
  | f :: L => if smallS f.1 = cteN then blankCT L else if smallS f.1 = ctN then (f.1, []) :: stripH L else f :: blankCT L
def oursH (many : Bool) (L : List PB) : List PB := if many then blankCT L else stripH L
mutual
inductive Likes : PT → PT → Prop
  | mk (L L' : List PB) (b : List UInt8) (many : Bool) (ps ps' : List PT) : oursH many L = oursH many L' → LikesL ps ps' → Likes (.mk L b many ps) (.mk L' b many ps')
inductive LikesL : List PT → List PT → Prop
  | nil : LikesL [] []
  | cons (p q : PT) (ps qs : List PT) : Likes p q → LikesL ps qs → LikesL (p :: ps) (q :: qs)
end
theorem blank_set (bd : List UInt8) (L : List PB) : blankCT (setCT bd L) = blankCT L := by
  have hc : ∀ (f : PB) (L : List PB), blankCT (f :: L) = if smallS f.1 = cteN then blankCT L else if smallS f.1 = ctN then (f.1, []) :: stripH L else f :: blankCT L := fun _ _ => rfl
  induction L with
  | nil => rfl
  | cons f L ih =>
    rw [setCT_cons, hc]
    by_cases h : smallS f.1 = cteN
    · rw [if_pos h, if_pos h, ih]
    · rw [if_neg h, if_neg h]
      by_cases h2 : smallS f.1 = ctN
      · rw [if_pos h2, if_pos h2, hc, if_neg h, if_pos h2, strip_strip]
      · rw [if_neg h2, if_neg h2, hc, if_neg h, if_neg h2, ih]
theorem decode_how (Y : Beneath) (L : List PB) (b : List UInt8) : decodeS Y (stripH L ++ [(cteB, (howW Y b).1)]) (howW Y b).2 = .ok b := by
  unfold decodeS
  rw [getB_plain]
  simp only
  unfold howW
  split
  · rw [if_pos (.inl (show smallS bit7 = bit7 by decide))]
  · split
    · rw [if_neg (show ¬ (smallS b64N = bit7 ∨ smallS b64N = bit8 ∨ smallS b64N = binN) by decide), if_pos (show smallS b64N = b64N by decide)]
      show someOr 3 (Y.up (Y.pk b)) = _
      rw [Y.up_pk]; rfl
    · rw [if_neg (show ¬ (smallS qpN = bit7 ∨ smallS qpN = bit8 ∨ smallS qpN = binN) by decide), if_neg (show ¬ smallS qpN = b64N by decide), if_pos (show smallS qpN = qpN by decide)]
      show someOr 3 (Y.uq (Y.qt b)) = _
      rw [Y.uq_qt]; rfl
theorem right_how (Y : Beneath) (L : List PB) (b : List UInt8) (h : L.all rightB = true) : (stripH L ++ [(cteB, (howW Y b).1)]).all rightB = true := by
  rw [List.all_append, right_strip L h]
  have : ∀ x, x = bit7 ∨ x = b64N ∨ x = qpN → rightB (cteB, x) = true := by rintro x (rfl | rfl | rfl) <;> decide
  simp only [List.all_cons, List.all_nil, Bool.and_true, Bool.true_and]
  apply this
  unfold howW
  split
  · exact .inl rfl
  · split
    · exact .inr (.inl rfl)
    · exact .inr (.inr rfl)

end Go.Proofs.YtmjijnfhgedmlaaGreatDoor

namespace Go.Proofs.YtmjijnfhgedmlaaGreatDoor.Tx
open Go.RowKit

def isBlank (c : UInt8) : Bool := c == 32 || c == 9
def isLetter (c : UInt8) : Bool := 33 ≤ c && c ≤ 126 && c != 61

theorem u8eq (c d : UInt8) : ((c.toNat : Int) == (d.toNat : Int)) = (c == d) := by
  rw [Bool.eq_iff_iff]; simp [← UInt8.toNat_inj]; omega

set_option maxHeartbeats 400000 in
theorem isBlank_any (c : UInt8) (w : World) :
    Calls Tryz.prog 54 #[.int .u8 (c.toNat : Int)] w fun e w' => e = .returned (.bool (isBlank c)) ∧ w' = w := by
  have e1 := u8eq c 32
  have e2 := u8eq c 9
  have H : Hid (isBlank c = (((c.toNat : Int) == 32) || ((c.toNat : Int) == 9))) := by
    show _ = _
    unfold isBlank
    rw [← e1, ← e2]; rfl
  clear e1 e2
  go_enter Tryz.func54, Tryz.ntmps54
  go_wp2
  all_goals
    go_ret
    exact ⟨ret_bool (by rw [H.out]; try simp [*]), rfl⟩

set_option maxHeartbeats 400000 in
theorem isLetter_any (c : UInt8) (w : World) :
    Calls Tryz.prog 53 #[.int .u8 (c.toNat : Int)] w fun e w' => e = .returned (.bool (isLetter c)) ∧ w' = w := by
  have H : Hid (isLetter c = (decide (33 ≤ (c.toNat : Int)) && decide ((c.toNat : Int) ≤ 126) && !((c.toNat : Int) == 61))) := by
    show _ = _
    have e1 := u8eq c 61
    unfold isLetter
    have e2 : decide (33 ≤ (c.toNat : Int)) = decide (33 ≤ c) := by rw [decide_eq_decide, UInt8.le_iff_toNat_le]; show (33 : Int) ≤ _ ↔ 33 ≤ c.toNat; omega
    have e3 : decide ((c.toNat : Int) ≤ 126) = decide (c ≤ 126) := by rw [decide_eq_decide, UInt8.le_iff_toNat_le]; show _ ≤ (126 : Int) ↔ c.toNat ≤ 126; omega
    rw [e2, e3, show (61 : Int) = ((61 : UInt8).toNat : Int) from rfl, e1]; rfl
  go_enter Tryz.func53, Tryz.ntmps53
  go_wp2
  all_goals
    go_ret
    refine ⟨ret_bool ?_, rfl⟩
    rw [H.out]
    have h0 : True := trivial
    simp [*, bne]
    try omega

end Go.Proofs.YtmjijnfhgedmlaaGreatDoor.Tx

namespace Go.Proofs.YtmjijnfhgedmlaaGreatDoor.Tx
open Go.RowKit

def digits : List UInt8 := [48, 49, 50, 51, 52, 53, 54, 55, 56, 57, 65, 66, 67, 68, 69, 70]
def hexd (n : Nat) : UInt8 := digits.getD n 0

theorem hexd_at (i : Nat) (h : i < (ByteArray.mk #[48, 49, 50, 51, 52, 53, 54, 55, 56, 57, 65, 66, 67, 68, 69, 70]).size) : (ByteArray.mk #[48, 49, 50, 51, 52, 53, 54, 55, 56, 57, 65, 66, 67, 68, 69, 70])[i] = hexd i := by
  have h' : i < 16 := h
  have : ∀ i : Fin 16, (ByteArray.mk #[48, 49, 50, 51, 52, 53, 54, 55, 56, 57, 65, 66, 67, 68, 69, 70])[i.val]'(i.isLt) = hexd i.val := by decide
  exact this ⟨i, h'⟩

/-- What a byte is quoted as. -/
def quotedL (c : UInt8) (last : Bool) : List UInt8 := if isLetter c || (isBlank c && !last) then [c] else [61, hexd (c.toNat / 16), hexd (c.toNat % 16)]

theorem quotedL_length (c : UInt8) (last : Bool) : (quotedL c last).length ≤ 3 := by unfold quotedL; split <;> simp

set_option maxHeartbeats 400000 in
theorem quoted_plain (c : UInt8) (last : Bool) (w : World) (h : (isLetter c || (isBlank c && !last)) = true) :
    Calls Tryz.prog 36 #[.int .u8 (c.toNat : Int), .bool last] w fun e w' => ∃ v, e = .returned v ∧ Own w' w.heap.size v [c] ∧ Below w.heap.size w w' := by
  by_cases h1 : isLetter c = true
  · clear h
    go_enter Tryz.func36, Tryz.ntmps36
    go_wp2_with (first | (go_at_call 53; refine (isLetter_any _ _).mono ?_; rintro e w' ⟨rfl, rfl⟩) | (go_at_call 54; refine (isBlank_any _ _).mono ?_; rintro e w' ⟨rfl, rfl⟩))
    go_ret
    exact ⟨_, rfl, Own.lit _ _ [c] 1 rfl (Nat.le_refl _) (by decide), (Below.refl _ _).alloc (Nat.le_refl _) _⟩
  · have h1 : isLetter c = false := by simpa using h1
    have h2 : isBlank c = true := by rw [h1] at h; simp at h; exact h.1
    have h3 : last = false := by rw [h1] at h; simp at h; exact h.2
    subst h3
    clear h
    go_enter Tryz.func36, Tryz.ntmps36
    go_wp2_with (first | (go_at_call 53; refine (isLetter_any _ _).mono ?_; rintro e w' ⟨rfl, rfl⟩) | (go_at_call 54; refine (isBlank_any _ _).mono ?_; rintro e w' ⟨rfl, rfl⟩))
    go_ret
    exact ⟨_, rfl, Own.lit _ _ [c] 1 rfl (Nat.le_refl _) (by decide), (Below.refl _ _).alloc (Nat.le_refl _) _⟩

set_option maxHeartbeats 400000 in
theorem quoted_code (c : UInt8) (last : Bool) (w : World) (h : (isLetter c || (isBlank c && !last)) = false) :
    Calls Tryz.prog 36 #[.int .u8 (c.toNat : Int), .bool last] w fun e w' => ∃ v, e = .returned v ∧ Own w' w.heap.size v [61, hexd (c.toNat / 16), hexd (c.toNat % 16)] ∧ Below w.heap.size w w' := by
  have hb : (c.toNat : Int) < 256 := by have := c.toNat_lt; omega
  have i1 : 0 ≤ (c.toNat : Int) / 16 := by omega
  have i2 : (c.toNat : Int) / 16 < 16 := by omega
  have i3 : 0 ≤ (c.toNat : Int) % 16 := by omega
  have i4 : (c.toNat : Int) % 16 < 16 := by omega
  have h1 : isLetter c = false := by cases hh : isLetter c <;> simp_all
  by_cases h2 : isBlank c = true
  · have h3 : last = true := by rw [h1, h2] at h; simpa using h
    subst h3
    clear h
    go_enter Tryz.func36, Tryz.ntmps36
    go_wp2_with (first | (go_at_call 53; refine (isLetter_any _ _).mono ?_; rintro e w' ⟨rfl, rfl⟩) | (go_at_call 54; refine (isBlank_any _ _).mono ?_; rintro e w' ⟨rfl, rfl⟩))
    go_region
    go_wp2
    go_ret
    simp only [hexd_at]
    exact ⟨_, rfl, Own.lit _ _ [61, _, _] 3 rfl (Nat.le_refl _) (by decide), ((Below.refl _ _).alloc (Nat.le_refl _) _).drew⟩
  · have h2 : isBlank c = false := by simpa using h2
    clear h
    go_enter Tryz.func36, Tryz.ntmps36
    go_wp2_with (first | (go_at_call 53; refine (isLetter_any _ _).mono ?_; rintro e w' ⟨rfl, rfl⟩) | (go_at_call 54; refine (isBlank_any _ _).mono ?_; rintro e w' ⟨rfl, rfl⟩))
    go_region
    go_wp2
    go_ret
    simp only [hexd_at]
    exact ⟨_, rfl, Own.lit _ _ [61, _, _] 3 rfl (Nat.le_refl _) (by decide), ((Below.refl _ _).alloc (Nat.le_refl _) _).drew⟩

theorem quoted_any (c : UInt8) (last : Bool) (w : World) :
    Calls Tryz.prog 36 #[.int .u8 (c.toNat : Int), .bool last] w fun e w' => ∃ v, e = .returned v ∧ Own w' w.heap.size v (quotedL c last) ∧ Below w.heap.size w w' := by
  unfold quotedL
  cases h : (isLetter c || (isBlank c && !last))
  · exact quoted_code c last w h
  · exact quoted_plain c last w h

/-- The first k letters in lines. -/
def inLinesTo (l : List UInt8) : Nat → List UInt8
  | 0 => []
  | k + 1 => inLinesTo l k ++ [l.getD k 0] ++ if (k + 1) % 76 = 0 ∨ k + 1 = l.length then [13, 10] else []

theorem inLinesTo_length (l : List UInt8) (k : Nat) : (inLinesTo l k).length ≤ 3 * k := by
  induction k with
  | zero => simp [inLinesTo]
  | succ k ih => simp only [inLinesTo, List.length_append, List.length_cons, List.length_nil]; split <;> simp <;> omega

theorem inLinesTo_cut (l : List UInt8) (k : Nat) (h : (k + 1) % 76 = 0 ∨ k + 1 = l.length) : inLinesTo l (k + 1) = inLinesTo l k ++ [l.getD k 0] ++ [13, 10] := by rw [inLinesTo, if_pos h]
theorem inLinesTo_on (l : List UInt8) (k : Nat) (h : ¬ ((k + 1) % 76 = 0 ∨ k + 1 = l.length)) : inLinesTo l (k + 1) = inLinesTo l k ++ [l.getD k 0] := by rw [inLinesTo, if_neg h, List.append_nil]

set_option maxHeartbeats 400000 in
theorem inLines_some (l : List UInt8) (g cap : Nat) (w : World) (hl : l.length ≤ 100000) (hg : g < w.heap.size) (hc : ∀ k (hk : k < l.length), w.cell? ⟨g, k, none⟩ = some (.int .u8 (l[k].toNat : Int))) :
    Calls Tryz.prog 35 #[.slice (some ⟨g, 0, none⟩) l.length cap] w fun e w' => e = .returned (.string ⟨(inLinesTo l l.length).toArray⟩) ∧ Below w.heap.size w w' := by
  go_enter Tryz.func35, Tryz.ntmps35
  go_wp2
  go_loopw [3, 7] (fun v i wr => ∃ k : Nat, k ≤ l.length ∧ i = .int .i64 k ∧ Own wr w.heap.size v (inLinesTo l k) ∧ Below w.heap.size w wr) (fun _ i _ => l.length - (intOf i).toNat)
  case atStart => exact ⟨0, Nat.zero_le _, rfl, Own.nil _ _, Below.refl _ _⟩
  case round =>
    obtain ⟨k, hk, rfl, hown, hb⟩ := hrel
    by_cases hlt : k < l.length
    · have hcx : wr.cell? ⟨g, k, none⟩ = some (.int .u8 (l[k].toNat : Int)) := (hb.cell (p := ⟨g, k, none⟩) hg).trans (hc k hlt)
      have hlen := inLinesTo_length l k
      have hsz := hb.size
      have hgd : l.getD k 0 = l[k] := by simp [hlt]
      have HG : Hid (l.getD k 0 = l[k]) := hgd
      clear hgd
      by_cases hcut : (k + 1) % 76 = 0 ∨ k + 1 = l.length
      · have HE : Hid (inLinesTo l (k + 1) = inLinesTo l k ++ [l[k]] ++ [13, 10]) := by show _ = _; rw [inLinesTo_cut l k hcut, HG.out]
        by_cases h76 : (k + 1) % 76 = 0
        · have n1 : (((k : Int) + 1) % 76 == 0) = true := by rw [beq_iff_eq]; omega
          clear hcut h76
          go_wp2_with (first | (at_builtin; refine wp_app1 wr w _ rfl (.tmp 10) (.tmp 15) rfl w.heap.size _ (inLinesTo l k) rfl hown rfl l[k] rfl (by omega) hsz hb ?_; intro v' w1 hown1 hb1) | (at_builtin; refine wp_appS _ w rfl (.tmp 28) _ rfl w.heap.size _ _ rfl hown1 ⟨#[13, 10]⟩ rfl (by simp [ByteArray.size]; omega) hb1.size hb1 ?_; intro v2 w2 hown2 hb2))
          go_roundw
          case rel => exact ⟨k + 1, by omega, by go_num, by rw [HE.out]; exact hown2, hb2⟩
          case measure => simp [intOf]; omega
        · have n1 : (((k : Int) + 1) % 76 == 0) = false := by rw [beq_eq_false_iff_ne]; omega
          have n2 : ((k : Int) + 1 == (l.length : Int)) = true := by rw [beq_iff_eq]; omega
          clear hcut h76
          go_wp2_with (first | (at_builtin; refine wp_app1 wr w _ rfl (.tmp 10) (.tmp 15) rfl w.heap.size _ (inLinesTo l k) rfl hown rfl l[k] rfl (by omega) hsz hb ?_; intro v' w1 hown1 hb1) | (at_builtin; refine wp_appS _ w rfl (.tmp 28) _ rfl w.heap.size _ _ rfl hown1 ⟨#[13, 10]⟩ rfl (by simp [ByteArray.size]; omega) hb1.size hb1 ?_; intro v2 w2 hown2 hb2))
          go_roundw
          case rel => exact ⟨k + 1, by omega, by go_num, by rw [HE.out]; exact hown2, hb2⟩
          case measure => simp [intOf]; omega
      · have HE : Hid (inLinesTo l (k + 1) = inLinesTo l k ++ [l[k]]) := by show _ = _; rw [inLinesTo_on l k hcut, HG.out]
        have n1 : (((k : Int) + 1) % 76 == 0) = false := by rw [beq_eq_false_iff_ne]; omega
        have n2 : ((k : Int) + 1 == (l.length : Int)) = false := by rw [beq_eq_false_iff_ne]; omega
        clear hcut
        go_wp2_with (first | (at_builtin; refine wp_app1 wr w _ rfl (.tmp 10) (.tmp 15) rfl w.heap.size _ (inLinesTo l k) rfl hown rfl l[k] rfl (by omega) hsz hb ?_; intro v' w1 hown1 hb1))
        go_roundw
        case rel => exact ⟨k + 1, by omega, by go_num, by rw [HE.out]; exact hown1, hb1⟩
        case measure => simp [intOf]; omega
    · have : k = l.length := by omega
      subst this
      have hcv := hown.string
      go_wp2
      go_ret
      exact ⟨rfl, hb⟩

end Go.Proofs.YtmjijnfhgedmlaaGreatDoor.Tx

namespace Go.Proofs.YtmjijnfhgedmlaaGreatDoor.Tx
open Go.RowKit

theorem wrap_i64_small (n : Int) (h0 : 0 ≤ n) (h : n < 9223372036854775808) : IntKind.i64.wrap n = n := by
  simp [IntKind.wrap, IntKind.bits, IntKind.signed]; omega

theorem or_i64 (i : Nat) (a b : Int) (ha : 0 ≤ a) (hb : 0 ≤ b) (hm : a % (2 ^ i : Nat) = 0) (hb2 : b < (2 ^ i : Nat)) (h1 : a + b < 9223372036854775808) : bits .or .i64 a b = a + b := by
  obtain ⟨m, rfl⟩ := Int.eq_ofNat_of_zero_le ha
  obtain ⟨n, rfl⟩ := Int.eq_ofNat_of_zero_le hb
  have e := nat_join i m n (by omega) (by omega)
  show IntKind.i64.wrap ((BitVec.ofInt 64 (m : Int) ||| BitVec.ofInt 64 (n : Int)).toNat : Int) = _
  rw [BitVec.toNat_or, ofInt_u64 m (by omega), ofInt_u64 n (by omega), e, wrap_i64_small _ (by omega) (by omega)]
  omega

theorem and_i64 (i : Nat) (a : Int) (ha : 0 ≤ a) (h1 : a < 9223372036854775808) (hi : i ≤ 62) : bits .and .i64 a ((2 ^ i - 1 : Nat) : Int) = a % (2 ^ i : Nat) := by
  obtain ⟨m, rfl⟩ := Int.eq_ofNat_of_zero_le ha
  have hp : 2 ^ i ≤ 2 ^ 62 := Nat.pow_le_pow_right (by omega) hi
  have e : m &&& (2 ^ i - 1) = m % 2 ^ i := Nat.and_two_pow_sub_one_eq_mod m i
  have hlt : m % 2 ^ i ≤ m := Nat.mod_le _ _
  show IntKind.i64.wrap ((BitVec.ofInt 64 (m : Int) &&& BitVec.ofInt 64 ((2 ^ i - 1 : Nat) : Int)).toNat : Int) = _
  rw [BitVec.toNat_and, ofInt_u64 m (by omega), ofInt_u64 (2 ^ i - 1) (by omega), e, wrap_i64_small _ (by omega) (by omega)]
  omega

theorem and63 (a : Int) (ha : 0 ≤ a) (h1 : a < 9223372036854775808) : bits .and .i64 a 63 = a % 64 := by simpa using and_i64 6 a ha h1 (by omega)

def letters : List UInt8 := [65, 66, 67, 68, 69, 70, 71, 72, 73, 74, 75, 76, 77, 78, 79, 80, 81, 82, 83, 84, 85, 86, 87, 88, 89, 90, 97, 98, 99, 100, 101, 102, 103, 104, 105, 106, 107, 108, 109, 110, 111, 112, 113, 114, 115, 116, 117, 118, 119, 120, 121, 122, 48, 49, 50, 51, 52, 53, 54, 55, 56, 57, 43, 47]
def lett (n : Nat) : UInt8 := letters.getD n 0
def lettB : ByteArray := ByteArray.mk #[65, 66, 67, 68, 69, 70, 71, 72, 73, 74, 75, 76, 77, 78, 79, 80, 81, 82, 83, 84, 85, 86, 87, 88, 89, 90, 97, 98, 99, 100, 101, 102, 103, 104, 105, 106, 107, 108, 109, 110, 111, 112, 113, 114, 115, 116, 117, 118, 119, 120, 121, 122, 48, 49, 50, 51, 52, 53, 54, 55, 56, 57, 43, 47]

theorem lett_at (i : Nat) (h : i < (ByteArray.mk #[65, 66, 67, 68, 69, 70, 71, 72, 73, 74, 75, 76, 77, 78, 79, 80, 81, 82, 83, 84, 85, 86, 87, 88, 89, 90, 97, 98, 99, 100, 101, 102, 103, 104, 105, 106, 107, 108, 109, 110, 111, 112, 113, 114, 115, 116, 117, 118, 119, 120, 121, 122, 48, 49, 50, 51, 52, 53, 54, 55, 56, 57, 43, 47]).size) : (ByteArray.mk #[65, 66, 67, 68, 69, 70, 71, 72, 73, 74, 75, 76, 77, 78, 79, 80, 81, 82, 83, 84, 85, 86, 87, 88, 89, 90, 97, 98, 99, 100, 101, 102, 103, 104, 105, 106, 107, 108, 109, 110, 111, 112, 113, 114, 115, 116, 117, 118, 119, 120, 121, 122, 48, 49, 50, 51, 52, 53, 54, 55, 56, 57, 43, 47])[i] = lett i := by
  have h' : i < 64 := h
  have : ∀ i : Fin 64, (ByteArray.mk #[65, 66, 67, 68, 69, 70, 71, 72, 73, 74, 75, 76, 77, 78, 79, 80, 81, 82, 83, 84, 85, 86, 87, 88, 89, 90, 97, 98, 99, 100, 101, 102, 103, 104, 105, 106, 107, 108, 109, 110, 111, 112, 113, 114, 115, 116, 117, 118, 119, 120, 121, 122, 48, 49, 50, 51, 52, 53, 54, 55, 56, 57, 43, 47])[i.val]'(i.isLt) = lett i.val := by decide
  exact this ⟨i, h'⟩

/-- Four letters of the bits N, n of them letters. -/
def fourN (N n : Nat) : List UInt8 := [lett (N / 262144 % 64), lett (N / 4096 % 64), if 2 ≤ n then lett (N / 64 % 64) else 61, if 3 ≤ n then lett (N % 64) else 61]
def bitsOf (b : List UInt8) : Nat := ((b.getD 0 0).toNat * 256 + (b.getD 1 0).toNat) * 256 + (b.getD 2 0).toNat
/-- One, two or three bytes as four letters. -/
def fourL (b : List UInt8) : List UInt8 := fourN (bitsOf b) b.length
theorem fourL_length (b : List UInt8) : (fourL b).length = 4 := rfl
def aggL (l : List UInt8) : Value := .agg (cs l).toArray

set_option maxHeartbeats 1600000 in
set_option maxRecDepth 100000 in
theorem four1 (x : UInt8) (w : World) :
    Calls Tryz.prog 34 #[.string ⟨#[x]⟩] w fun e w' => e = .returned (aggL (fourL [x])) ∧ Below w.heap.size w w' := by
  have hx : (x.toNat : Int) < 256 := by have := x.toNat_lt; omega
  have p0 : ∀ h, (ByteArray.mk #[x])[0]'h = x := fun _ => rfl
  have o1 : bits .or .i64 0 (x.toNat : Int) = (x.toNat : Int) := by simpa using or_i64 8 0 (x.toNat : Int) (by omega) (by omega) (by omega) (by simpa using hx) (by omega)
  go_enter Tryz.func34, Tryz.ntmps34
  go_wp2
  refine wp_loop_rounds 4 ?_
  rw [rounds_succ]
  go_wp2
  rw [rounds_succ]
  go_wp2
  rw [rounds_succ]
  go_wp2
  rw [rounds_succ]
  go_wp2
  clear o1 p0
  have hN1 : 0 ≤ (x.toNat : Int) * 256 * 256 := by omega
  have hN2 : (x.toNat : Int) * 256 * 256 < 16777216 := by omega
  have hN3 : (x.toNat : Int) * 256 * 256 = (bitsOf [x] : Nat) := by simp [bitsOf]
  have HN : Hid ((x.toNat : Int) * 256 * 256 = (bitsOf [x] : Nat)) := hN3
  clear hN3
  generalize (x.toNat : Int) * 256 * 256 = N at hN1 hN2 HN ⊢
  clear hx
  have a0 := and63 (N / 262144) (by omega) (by omega)
  have a1 := and63 (N / 4096) (by omega) (by omega)
  have a2 := and63 (N / 64) (by omega) (by omega)
  have a3 := and63 N (by omega) (by omega)
  have b0 : N / 262144 % 64 < 64 := by omega
  have b1 : N / 4096 % 64 < 64 := by omega
  have b2 : N / 64 % 64 < 64 := by omega
  have b3 : N % 64 < 64 := by omega
  have c0 : 0 ≤ N / 262144 % 64 := by omega
  have c1 : 0 ≤ N / 4096 % 64 := by omega
  have c2 : 0 ≤ N / 64 % 64 := by omega
  have c3 : 0 ≤ N % 64 := by omega
  refine wp_loop_rounds 5 ?_
  rw [rounds_succ]
  go_wp2
  simp only [lett_at]
  rw [rounds_succ]
  go_wp2
  simp only [lett_at]
  rw [rounds_succ]
  go_wp2
  rw [rounds_succ]
  go_wp2
  rw [rounds_succ]
  go_wp2
  have hN := HN.out
  subst hN
  have e0 : (((bitsOf [x] : Nat) : Int) / 262144 % 64).toNat = bitsOf [x] / 262144 % 64 := by omega
  have e1 : (((bitsOf [x] : Nat) : Int) / 4096 % 64).toNat = bitsOf [x] / 4096 % 64 := by omega
  simp only [e0, e1]
  exact bodyPost_ret (v := aggL (fourL [x])) (by simp [results, Tryz.results34, go_sem, aggL, fourL, fourN, cs]) rfl ⟨rfl, ((Below.refl _ _).alloc (Nat.le_refl _) _).alloc (by simp) _⟩

set_option maxHeartbeats 1600000 in
set_option maxRecDepth 100000 in
theorem four2 (x y : UInt8) (w : World) :
    Calls Tryz.prog 34 #[.string ⟨#[x, y]⟩] w fun e w' => e = .returned (aggL (fourL [x, y])) ∧ Below w.heap.size w w' := by
  have hx : (x.toNat : Int) < 256 := by have := x.toNat_lt; omega
  have hy : (y.toNat : Int) < 256 := by have := y.toNat_lt; omega
  have p0 : ∀ h, (ByteArray.mk #[x, y])[0]'h = x := fun _ => rfl
  have p1 : ∀ h, (ByteArray.mk #[x, y])[1]'h = y := fun _ => rfl
  have o1 : bits .or .i64 0 (x.toNat : Int) = (x.toNat : Int) := by simpa using or_i64 8 0 (x.toNat : Int) (by omega) (by omega) (by omega) (by simpa using hx) (by omega)
  have o2 : bits .or .i64 ((x.toNat : Int) * 256) (y.toNat : Int) = (x.toNat : Int) * 256 + (y.toNat : Int) := or_i64 8 _ _ (by omega) (by omega) (by omega) (by simpa using hy) (by omega)
  go_enter Tryz.func34, Tryz.ntmps34
  go_wp2
  refine wp_loop_rounds 4 ?_
  rw [rounds_succ]
  go_wp2
  rw [rounds_succ]
  go_wp2
  rw [rounds_succ]
  go_wp2
  rw [rounds_succ]
  go_wp2
  clear o1 o2 p0 p1
  have hN1 : 0 ≤ ((x.toNat : Int) * 256 + (y.toNat : Int)) * 256 := by omega
  have hN2 : ((x.toNat : Int) * 256 + (y.toNat : Int)) * 256 < 16777216 := by omega
  have hN3 : ((x.toNat : Int) * 256 + (y.toNat : Int)) * 256 = (bitsOf [x, y] : Nat) := by simp [bitsOf]
  have HN : Hid (((x.toNat : Int) * 256 + (y.toNat : Int)) * 256 = (bitsOf [x, y] : Nat)) := hN3
  clear hN3
  generalize ((x.toNat : Int) * 256 + (y.toNat : Int)) * 256 = N at hN1 hN2 HN ⊢
  clear hx hy
  have a0 := and63 (N / 262144) (by omega) (by omega)
  have a1 := and63 (N / 4096) (by omega) (by omega)
  have a2 := and63 (N / 64) (by omega) (by omega)
  have a3 := and63 N (by omega) (by omega)
  have b0 : N / 262144 % 64 < 64 := by omega
  have b1 : N / 4096 % 64 < 64 := by omega
  have b2 : N / 64 % 64 < 64 := by omega
  have b3 : N % 64 < 64 := by omega
  have c0 : 0 ≤ N / 262144 % 64 := by omega
  have c1 : 0 ≤ N / 4096 % 64 := by omega
  have c2 : 0 ≤ N / 64 % 64 := by omega
  have c3 : 0 ≤ N % 64 := by omega
  refine wp_loop_rounds 5 ?_
  rw [rounds_succ]
  go_wp2
  simp only [lett_at]
  rw [rounds_succ]
  go_wp2
  simp only [lett_at]
  rw [rounds_succ]
  go_wp2
  simp only [lett_at]
  rw [rounds_succ]
  go_wp2
  rw [rounds_succ]
  go_wp2
  have hN := HN.out
  subst hN
  have e0 : (((bitsOf [x, y] : Nat) : Int) / 262144 % 64).toNat = bitsOf [x, y] / 262144 % 64 := by omega
  have e1 : (((bitsOf [x, y] : Nat) : Int) / 4096 % 64).toNat = bitsOf [x, y] / 4096 % 64 := by omega
  have e2 : (((bitsOf [x, y] : Nat) : Int) / 64 % 64).toNat = bitsOf [x, y] / 64 % 64 := by omega
  simp only [e0, e1, e2]
  exact bodyPost_ret (v := aggL (fourL [x, y])) (by simp [results, Tryz.results34, go_sem, aggL, fourL, fourN, cs]) rfl ⟨rfl, ((Below.refl _ _).alloc (Nat.le_refl _) _).alloc (by simp) _⟩

set_option maxHeartbeats 1600000 in
set_option maxRecDepth 100000 in
theorem four3 (x y z : UInt8) (w : World) :
    Calls Tryz.prog 34 #[.string ⟨#[x, y, z]⟩] w fun e w' => e = .returned (aggL (fourL [x, y, z])) ∧ Below w.heap.size w w' := by
  have hx : (x.toNat : Int) < 256 := by have := x.toNat_lt; omega
  have hy : (y.toNat : Int) < 256 := by have := y.toNat_lt; omega
  have hz : (z.toNat : Int) < 256 := by have := z.toNat_lt; omega
  have p0 : ∀ h, (ByteArray.mk #[x, y, z])[0]'h = x := fun _ => rfl
  have p1 : ∀ h, (ByteArray.mk #[x, y, z])[1]'h = y := fun _ => rfl
  have p2 : ∀ h, (ByteArray.mk #[x, y, z])[2]'h = z := fun _ => rfl
  have o1 : bits .or .i64 0 (x.toNat : Int) = (x.toNat : Int) := by simpa using or_i64 8 0 (x.toNat : Int) (by omega) (by omega) (by omega) (by simpa using hx) (by omega)
  have o2 : bits .or .i64 ((x.toNat : Int) * 256) (y.toNat : Int) = (x.toNat : Int) * 256 + (y.toNat : Int) := or_i64 8 _ _ (by omega) (by omega) (by omega) (by simpa using hy) (by omega)
  have o3 : bits .or .i64 (((x.toNat : Int) * 256 + (y.toNat : Int)) * 256) (z.toNat : Int) = ((x.toNat : Int) * 256 + (y.toNat : Int)) * 256 + (z.toNat : Int) := or_i64 8 _ _ (by omega) (by omega) (by omega) (by simpa using hz) (by omega)
  go_enter Tryz.func34, Tryz.ntmps34
  go_wp2
  refine wp_loop_rounds 4 ?_
  rw [rounds_succ]
  go_wp2
  rw [rounds_succ]
  go_wp2
  rw [rounds_succ]
  go_wp2
  rw [rounds_succ]
  go_wp2
  clear o1 o2 o3 p0 p1 p2
  have hN1 : 0 ≤ ((x.toNat : Int) * 256 + (y.toNat : Int)) * 256 + (z.toNat : Int) := by omega
  have hN2 : ((x.toNat : Int) * 256 + (y.toNat : Int)) * 256 + (z.toNat : Int) < 16777216 := by omega
  have hN3 : ((x.toNat : Int) * 256 + (y.toNat : Int)) * 256 + (z.toNat : Int) = (bitsOf [x, y, z] : Nat) := by simp [bitsOf]
  have HN : Hid (((x.toNat : Int) * 256 + (y.toNat : Int)) * 256 + (z.toNat : Int) = (bitsOf [x, y, z] : Nat)) := hN3
  clear hN3
  generalize ((x.toNat : Int) * 256 + (y.toNat : Int)) * 256 + (z.toNat : Int) = N at hN1 hN2 HN ⊢
  clear hx hy hz
  have a0 := and63 (N / 262144) (by omega) (by omega)
  have a1 := and63 (N / 4096) (by omega) (by omega)
  have a2 := and63 (N / 64) (by omega) (by omega)
  have a3 := and63 N (by omega) (by omega)
  have b0 : N / 262144 % 64 < 64 := by omega
  have b1 : N / 4096 % 64 < 64 := by omega
  have b2 : N / 64 % 64 < 64 := by omega
  have b3 : N % 64 < 64 := by omega
  have c0 : 0 ≤ N / 262144 % 64 := by omega
  have c1 : 0 ≤ N / 4096 % 64 := by omega
  have c2 : 0 ≤ N / 64 % 64 := by omega
  have c3 : 0 ≤ N % 64 := by omega
  refine wp_loop_rounds 5 ?_
  rw [rounds_succ]
  go_wp2
  simp only [lett_at]
  rw [rounds_succ]
  go_wp2
  simp only [lett_at]
  rw [rounds_succ]
  go_wp2
  simp only [lett_at]
  rw [rounds_succ]
  go_wp2
  simp only [lett_at]
  rw [rounds_succ]
  go_wp2
  have hN := HN.out
  subst hN
  have e0 : (((bitsOf [x, y, z] : Nat) : Int) / 262144 % 64).toNat = bitsOf [x, y, z] / 262144 % 64 := by omega
  have e1 : (((bitsOf [x, y, z] : Nat) : Int) / 4096 % 64).toNat = bitsOf [x, y, z] / 4096 % 64 := by omega
  have e2 : (((bitsOf [x, y, z] : Nat) : Int) / 64 % 64).toNat = bitsOf [x, y, z] / 64 % 64 := by omega
  have e3 : (((bitsOf [x, y, z] : Nat) : Int) % 64).toNat = bitsOf [x, y, z] % 64 := by omega
  simp only [e0, e1, e2, e3]
  exact bodyPost_ret (v := aggL (fourL [x, y, z])) (by simp [results, Tryz.results34, go_sem, aggL, fourL, fourN, cs]) rfl ⟨rfl, ((Below.refl _ _).alloc (Nat.le_refl _) _).alloc (by simp) _⟩

theorem four_any (b : ByteArray) (w : World) (h0 : 0 < b.size) (h3 : b.size ≤ 3) :
    Calls Tryz.prog 34 #[.string b] w fun e w' => e = .returned (aggL (fourL b.data.toList)) ∧ Below w.heap.size w w' := by
  obtain ⟨⟨l⟩⟩ := b
  match l, h0, h3 with
  | [], h0, _ => exact absurd h0 (by decide)
  | [x], _, _ => exact four1 x w
  | [x, y], _, _ => exact four2 x y w
  | [x, y, z], _, _ => exact four3 x y z w
  | x :: y :: z :: t :: r, _, h3 => exact absurd h3 (by simp [ByteArray.size])

end Go.Proofs.YtmjijnfhgedmlaaGreatDoor.Tx

namespace Go.Proofs.YtmjijnfhgedmlaaGreatDoor.Tx
open Go.RowKit

def packTo (b : List UInt8) : Nat → List UInt8
  | 0 => []
  | k + 1 => packTo b k ++ fourL ((b.drop (3 * k)).take 3)

theorem packTo_length (b : List UInt8) (k : Nat) : (packTo b k).length = 4 * k := by
  induction k with
  | zero => rfl
  | succ k ih => simp [packTo, ih, fourL_length]; omega

def packS (b : List UInt8) : List UInt8 := let l := packTo b ((b.length + 2) / 3); inLinesTo l l.length

theorem Hid.mk {p : Prop} (h : p) : Hid p := h

theorem four_parts (b : ByteArray) (w : World) (h0 : 0 < b.size) (h3 : b.size ≤ 3) :
    Calls Tryz.prog 34 #[.string b] w fun e w' => ∃ c0 c1 c2 c3 : UInt8, e = .returned (.agg #[.int .u8 (c0.toNat : Int), .int .u8 (c1.toNat : Int), .int .u8 (c2.toNat : Int), .int .u8 (c3.toNat : Int)]) ∧ fourL b.data.toList = [c0, c1, c2, c3] ∧ Below w.heap.size w w' :=
  (four_any b w h0 h3).mono fun _ _ ⟨h, hb⟩ => ⟨_, _, _, _, h, rfl, hb⟩

theorem inLines_nil (w : World) : Calls Tryz.prog 35 #[.slice none 0 0] w fun e w' => e = .returned (.string ⟨#[]⟩) ∧ Below w.heap.size w w' := by
  go_enter Tryz.func35, Tryz.ntmps35
  go_wp2
  refine wp_loop_rounds 1 ?_
  rw [rounds_succ]
  have hcv := (Own.nil w 0).string
  go_wp2
  go_ret
  exact ⟨rfl, Below.refl _ _⟩

theorem inLines_any (l : List UInt8) (v : Value) (B : Nat) (w : World) (hl : l.length ≤ 100000) (hown : Own w B v l) :
    Calls Tryz.prog 35 #[v] w fun e w' => e = .returned (.string ⟨(inLinesTo l l.length).toArray⟩) ∧ Below w.heap.size w w' := by
  rcases hown.shape with ⟨rfl, rfl⟩ | ⟨g, cap, rfl, _, hg, _, _, hc⟩
  · exact inLines_nil w
  · exact inLines_some l g cap w hl hg hc

theorem extract_list (b : ByteArray) (i j : Nat) : (b.extract i j).data.toList = (b.data.toList.drop i).take (j - i) := by
  rw [ByteArray.data_extract, Array.toList_extract, List.extract_eq_take_drop]

theorem cells4 (w1 : World) (c0 c1 c2 c3 : UInt8) (t : TypeId) : ∀ j (hj : j < [c0, c1, c2, c3].length),
    (w1.alloc (.cells #[.int .u8 (c0.toNat : Int), .int .u8 (c1.toNat : Int), .int .u8 (c2.toNat : Int), .int .u8 (c3.toNat : Int)] t)).cell? (Addr.add ⟨w1.heap.size, 0, none⟩ j) = some (.int .u8 ([c0, c1, c2, c3][j].toNat : Int)) := by
  intro j hj
  match j, hj with
  | 0, _ => simp [Addr.add_lit]
  | 1, _ => simp [Addr.add_lit]
  | 2, _ => simp [Addr.add_lit]
  | 3, _ => simp [Addr.add_lit]

set_option maxHeartbeats 400000 in
theorem pack_any (b : ByteArray) (w : World) (hl : b.size ≤ 2000) :
    Calls Tryz.prog 11 #[.string b] w fun e w' => e = .returned (.string ⟨(packS b.data.toList).toArray⟩) ∧ Below w.heap.size w w' := by
  have hbl : b.data.toList.length = b.size := by rw [Array.length_toList]; rfl
  have HL : Hid (b.data.toList.length = b.size) := hbl
  clear hbl
  go_enter Tryz.func11, Tryz.ntmps11
  go_wp2
  go_loopw [3, 10] (fun v i wr => ∃ k : Nat, 3 * k ≤ b.size + 2 ∧ i = .int .i64 k ∧ Own wr w.heap.size v (packTo b.data.toList k) ∧ Below w.heap.size w wr) (fun _ i _ => b.size - (intOf i).toNat)
  case atStart => exact ⟨0, by omega, rfl, Own.nil _ _, Below.refl _ _⟩
  case round =>
    obtain ⟨k, hk, rfl, hown, hb⟩ := hrel
    by_cases hlt : 3 * k < b.size
    · have hsz := hb.size
      have hT : (k : Int) < ((b.size : Int) + 2) / 3 := by omega
      have hplen := packTo_length b.data.toList k
      have HP : Hid ((packTo b.data.toList k).length = 4 * k) := hplen
      clear hplen
      have hp4 : (packTo b.data.toList k).length + 4 ≤ 10000000 := by rw [HP.out]; omega
      by_cases hc : 3 * k + 3 ≤ b.size
      · have hc1 : (3 * k : Int) + 3 ≤ (b.size : Int) := by omega
        have HX : Hid (packTo b.data.toList (k + 1) = packTo b.data.toList k ++ fourL (b.extract (3 * k) (3 * k + 3)).data.toList) := by
          show _ = _
          rw [extract_list, show 3 * k + 3 - 3 * k = 3 from by omega]; rfl
        go_wp2_with (first | (go_at_call 34; refine (four_parts _ _ (by simp; omega) (by simp; omega)).mono ?_; rintro e w1 ⟨c0, c1, c2, c3, rfl, hq, hb1⟩; have HQ := Hid.mk hq; clear hq) | (at_builtin; refine wp_app _ w rfl (.tmp 24) (.tmp 25) rfl w.heap.size _ (packTo b.data.toList k) rfl ((hown.below hb1 (Nat.le_refl _)).alloc _) ⟨w1.heap.size, 0, none⟩ 4 4 [c0, c1, c2, c3] rfl rfl (cells4 _ _ _ _ _ _) hp4 (by have := hb1.size; simp; omega) ((hb.trans (hb1.mono hsz)).alloc (by have := hb1.size; omega) _) ?_; intro v2 w2 hown2 hb2 hg2))
        go_roundw
        case rel => exact ⟨k + 1, by omega, by go_num, by rw [HX.out, HQ.out]; exact hown2, hb2⟩
        case measure => simp [intOf]; omega
      · have hc1 : (b.size : Int) < (3 * k : Int) + 3 := by omega
        have HX : Hid (packTo b.data.toList (k + 1) = packTo b.data.toList k ++ fourL (b.extract (3 * k) b.size).data.toList) := by
          show _ = _
          rw [extract_list, List.take_of_length_le (i := b.size - 3 * k) (by rw [List.length_drop, HL.out]; omega)]
          rw [packTo, List.take_of_length_le (i := 3) (by rw [List.length_drop, HL.out]; omega)]
        go_wp2_with (first | (go_at_call 34; refine (four_parts _ _ (by simp; omega) (by simp; omega)).mono ?_; rintro e w1 ⟨c0, c1, c2, c3, rfl, hq, hb1⟩; have HQ := Hid.mk hq; clear hq) | (at_builtin; refine wp_app _ w rfl (.tmp 24) (.tmp 25) rfl w.heap.size _ (packTo b.data.toList k) rfl ((hown.below hb1 (Nat.le_refl _)).alloc _) ⟨w1.heap.size, 0, none⟩ 4 4 [c0, c1, c2, c3] rfl rfl (cells4 _ _ _ _ _ _) hp4 (by have := hb1.size; simp; omega) ((hb.trans (hb1.mono hsz)).alloc (by have := hb1.size; omega) _) ?_; intro v2 w2 hown2 hb2 hg2))
        go_roundw
        case rel => exact ⟨k + 1, by omega, by go_num, by rw [HX.out, HQ.out]; exact hown2, hb2⟩
        case measure => simp [intOf]; omega
    · have hT : ¬ (k : Int) < ((b.size : Int) + 2) / 3 := by omega
      have hplen := packTo_length b.data.toList k
      have HP : Hid ((packTo b.data.toList k).length = 4 * k) := hplen
      clear hplen
      have hp4 : (packTo b.data.toList k).length ≤ 100000 := by rw [HP.out]; omega
      go_wp2_with (go_at_call 35; refine (inLines_any (packTo b.data.toList k) _ _ _ hp4 hown).mono ?_; rintro e w1 ⟨rfl, hb1⟩)
      go_ret
      refine ⟨ret_str ?_, hb.trans (hb1.mono hb.size)⟩
      unfold packS
      rw [HL.out, show (b.size + 2) / 3 = k from by omega]

end Go.Proofs.YtmjijnfhgedmlaaGreatDoor.Tx

