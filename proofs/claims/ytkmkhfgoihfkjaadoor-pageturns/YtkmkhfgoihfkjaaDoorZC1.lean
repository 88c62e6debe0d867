import Derived.Test.YtkmkhfgoihfkjaaDoorZ1
import Derived.Lib.IndexMore
namespace Go.Proofs.YtkmkhfgoihfkjaaDoor
open Go.RowKit

/- A value with parameters: what the document says of it, byte by byte. -/
abbrev PB := List UInt8 × List UInt8
def inC (c : UInt8) : Bool := decide (32 ≤ c.toNat) && decide (c.toNat ≤ 126)
def specials : List UInt8 := [40, 41, 60, 62, 64, 44, 59, 58, 92, 34, 47, 91, 93, 63, 61]
def tokC (c : UInt8) : Bool := decide (33 ≤ c.toNat) && decide (c.toNat ≤ 126) && !specials.contains c
def tokS (l : List UInt8) : Bool := !l.isEmpty && l.all tokC
/-- A token, or two with one / between. -/
def isMainS (l : List UInt8) : Bool := tokS (l.takeWhile (· != 47)) && ((l.dropWhile (· != 47)).isEmpty || tokS ((l.dropWhile (· != 47)).drop 1))
/-- What stands behind a quote, up to the next one, and what stands behind that. -/
def quotedS : List UInt8 → Option (List UInt8 × List UInt8)
  | [] => none
  | c :: r => if c = 34 then some ([], r) else if c = 92 then (match r with | [] => none | d :: r' => if inC d then (quotedS r').map fun q => (d :: q.1, q.2) else none) else if inC c then (quotedS r).map fun q => (c :: q.1, q.2) else none
/-- One parameter, behind its ; and what stands behind it. -/
def valueP (nm r5 : List UInt8) : Option (PB × List UInt8) :=
  if r5.head? = some 34 then (quotedS (r5.drop 1)).map fun q => ((smallS nm, q.1), dropB q.2)
  else if r5.takeWhile tokC = [] then none else some ((smallS nm, r5.takeWhile tokC), dropB (r5.dropWhile tokC))
def oneP (r : List UInt8) : Option (PB × List UInt8) :=
  if (dropB r).takeWhile tokC = [] then none
  else if (dropB ((dropB r).dropWhile tokC)).head? = some 61 then valueP ((dropB r).takeWhile tokC) (dropB ((dropB ((dropB r).dropWhile tokC)).drop 1)) else none
def paramsF : Nat → List UInt8 → Option (List PB)
  | 0, l => if l = [] then some [] else none
  | n + 1, l => if l = [] then some [] else if l.head? = some 59 then (oneP (l.drop 1)).bind fun q => (paramsF n q.2).map fun k => q.1 :: k else none
/-- What a text says. -/
def readK (s : List UInt8) : Option (List UInt8 × List PB) :=
  if isMainS (smallS (trimS (s.takeWhile (· != 59)))) then (paramsF s.length (s.dropWhile (· != 59))).map fun k => (smallS (trimS (s.takeWhile (· != 59))), k) else none
def escC (c : UInt8) : List UInt8 := if c = 34 ∨ c = 92 then [92, c] else [c]
def valW (v : List UInt8) : List UInt8 := if tokS v then v else 34 :: (v.flatMap escC ++ [34])
def paramW (p : PB) : List UInt8 := [59, 32] ++ p.1 ++ [61] ++ valW p.2
/-- What a value with parameters is written as. -/
def writeK (m : List UInt8) (l : List PB) : List UInt8 := m ++ l.flatMap paramW
def goodM (m : List UInt8) : Bool := isMainS m && decide (smallS m = m)
def goodP (p : PB) : Bool := tokS p.1 && decide (smallS p.1 = p.1) && p.2.all inC
def goodK (m : List UInt8) (l : List PB) : Bool := goodM m && l.all goodP

theorem tok_cases (c : UInt8) (h : tokC c = true) : blk c = false ∧ c ≠ 59 ∧ c ≠ 61 ∧ c ≠ 34 ∧ c ≠ 47 ∧ inC c = true ∧ tokC (smallC c) = true := by
  have key : ∀ n : Fin 256, tokC (UInt8.ofNat n.val) = true → blk (UInt8.ofNat n.val) = false ∧ UInt8.ofNat n.val ≠ 59 ∧ UInt8.ofNat n.val ≠ 61 ∧ UInt8.ofNat n.val ≠ 34 ∧ UInt8.ofNat n.val ≠ 47 ∧ inC (UInt8.ofNat n.val) = true ∧ tokC (smallC (UInt8.ofNat n.val)) = true := by decide +kernel
  have := key ⟨c.toNat, c.toNat_lt⟩
  simp at this
  have e : UInt8.ofNat c.toNat = c := by simp
  simpa using this h
theorem small_idem (c : UInt8) : smallC (smallC c) = smallC c := by
  have key : ∀ n : Fin 256, smallC (smallC (UInt8.ofNat n.val)) = smallC (UInt8.ofNat n.val) := by decide +kernel
  have := key ⟨c.toNat, c.toNat_lt⟩
  simpa using this
theorem smallS_idem (l : List UInt8) : smallS (smallS l) = smallS l := by
  unfold smallS
  rw [List.map_map]
  exact List.map_congr_left fun c _ => small_idem c
theorem tokS_parts {l : List UInt8} (h : tokS l = true) : ∃ c r, l = c :: r ∧ tokC c = true ∧ ∀ d ∈ l, tokC d = true := by
  unfold tokS at h
  simp only [Bool.and_eq_true, Bool.not_eq_true', List.all_eq_true] at h
  cases l with
  | nil => exact absurd h.1 (by simp)
  | cons c r => exact ⟨c, r, rfl, h.2 c List.mem_cons_self, h.2⟩
theorem tokS_mk {l : List UInt8} (h0 : l ≠ []) (h : ∀ d ∈ l, tokC d = true) : tokS l = true := by
  unfold tokS
  rw [List.all_eq_true.2 h]
  cases l with
  | nil => exact absurd rfl h0
  | cons c r => rfl
theorem tokS_small {l : List UInt8} (h : tokS l = true) : tokS (smallS l) = true := by
  obtain ⟨c, r, rfl, _, hall⟩ := tokS_parts h
  refine tokS_mk (by simp [smallS]) fun d hd => ?_
  obtain ⟨e, he, rfl⟩ := List.mem_map.1 hd
  exact (tok_cases e (hall e he)).2.2.2.2.2.2
theorem takeWhile_app {p : UInt8 → Bool} (a b : List UInt8) (ha : ∀ c ∈ a, p c = true) (hb : b.head?.all (fun c => !p c) = true) : (a ++ b).takeWhile p = a ∧ (a ++ b).dropWhile p = b := by
  induction a with
  | nil =>
    cases b with
    | nil => exact ⟨rfl, rfl⟩
    | cons c b =>
      have hc : p c = false := by simpa using hb
      simp [hc]
  | cons c a ih =>
    have hc := ha c List.mem_cons_self
    obtain ⟨i1, i2⟩ := ih fun d hd => ha d (List.mem_cons_of_mem _ hd)
    rw [List.cons_append, List.takeWhile_cons, List.dropWhile_cons, hc]
    simp [i1, i2]
theorem dropB_tok {l : List UInt8} (h : l.head?.all (fun c => !blk c) = true) : dropB l = l := dropB_self l h

theorem quoted_esc (v rest : List UInt8) (h : ∀ c ∈ v, inC c = true) : quotedS (v.flatMap escC ++ 34 :: rest) = some (v, rest) := by
  induction v with
  | nil =>
    show quotedS (34 :: rest) = _
    unfold quotedS
    rw [if_pos rfl]
  | cons c v ih =>
    have hc := h c List.mem_cons_self
    have hi := ih fun d hd => h d (List.mem_cons_of_mem _ hd)
    rw [List.flatMap_cons]
    by_cases h1 : c = 34 ∨ c = 92
    · have e : escC c = [92, c] := by unfold escC; rw [if_pos h1]
      rw [e]
      show quotedS (92 :: c :: (v.flatMap escC ++ 34 :: rest)) = _
      unfold quotedS
      rw [if_neg (by decide), if_pos rfl]
      simp only [hc, if_true, hi, Option.map_some]
    · have e : escC c = [c] := by unfold escC; rw [if_neg h1]
      rw [e]
      show quotedS (c :: (v.flatMap escC ++ 34 :: rest)) = _
      unfold quotedS
      rw [if_neg (fun e => h1 (.inl e)), if_neg (fun e => h1 (.inr e))]
      simp only [hc, if_true, hi, Option.map_some]

/-- What stands behind a parameter: nothing, or the next one. -/
def Ends (l : List UInt8) : Prop := l = [] ∨ ∃ r, l = 59 :: r
theorem Ends.tok {l : List UInt8} (h : Ends l) : l.head?.all (fun c => !tokC c) = true := by
  rcases h with rfl | ⟨r, rfl⟩
  · rfl
  · rfl
theorem Ends.blk {l : List UInt8} (h : Ends l) : dropB l = l := by
  rcases h with rfl | ⟨r, rfl⟩
  · rfl
  · rfl
theorem ends_params (l : List PB) : Ends (l.flatMap paramW) := by
  cases l with
  | nil => exact .inl rfl
  | cons p l => exact .inr ⟨_, rfl⟩

theorem value_back (nm v rest : List UInt8) (hv : ∀ c ∈ v, inC c = true) (he : Ends rest) : valueP nm (dropB (valW v ++ rest)) = some ((smallS nm, v), rest) := by
  unfold valW
  by_cases ht : tokS v = true
  · rw [if_pos ht]
    obtain ⟨c, r, hcr, hc, hall⟩ := tokS_parts ht
    obtain ⟨i1, i2⟩ := takeWhile_app v rest hall he.tok
    have hh : (v ++ rest).head? = some c := by rw [hcr]; rfl
    have hd : dropB (v ++ rest) = v ++ rest := dropB_tok (by rw [hh]; simp [(tok_cases c hc).1])
    rw [hd]
    unfold valueP
    rw [hh, if_neg (fun e => (tok_cases c hc).2.2.2.1 (Option.some.inj e)), i1, i2, if_neg (by rw [hcr]; simp), he.blk]
  · rw [if_neg ht]
    have hd : dropB (34 :: (v.flatMap escC ++ [34]) ++ rest) = 34 :: (v.flatMap escC ++ [34]) ++ rest := rfl
    rw [hd]
    unfold valueP
    have hh : (34 :: (v.flatMap escC ++ [34]) ++ rest).head? = some 34 := rfl
    rw [if_pos hh]
    have e : (34 :: (v.flatMap escC ++ [34]) ++ rest).drop 1 = v.flatMap escC ++ 34 :: rest := by simp
    rw [e, quoted_esc v rest hv, Option.map_some, he.blk]
theorem one_back (p : PB) (h : goodP p = true) (rest : List UInt8) (he : Ends rest) : oneP (32 :: p.1 ++ [61] ++ valW p.2 ++ rest) = some (p, rest) := by
  unfold goodP at h
  simp only [Bool.and_eq_true, decide_eq_true_eq, List.all_eq_true] at h
  obtain ⟨⟨ht, hs⟩, hv⟩ := h
  obtain ⟨c, r, hcr, hc, hall⟩ := tokS_parts ht
  have e1 : dropB (32 :: p.1 ++ [61] ++ valW p.2 ++ rest) = p.1 ++ (61 :: (valW p.2 ++ rest)) := by
    have e : (32 :: p.1 ++ [61] ++ valW p.2 ++ rest : List UInt8) = 32 :: (p.1 ++ (61 :: (valW p.2 ++ rest))) := by simp
    rw [e]
    show dropB (p.1 ++ (61 :: (valW p.2 ++ rest))) = _
    exact dropB_tok (by rw [hcr]; simp [(tok_cases c hc).1])
  obtain ⟨i1, i2⟩ := takeWhile_app p.1 (61 :: (valW p.2 ++ rest)) hall rfl
  unfold oneP
  rw [e1, i1, i2, if_neg (by rw [hcr]; simp)]
  have e2 : dropB (61 :: (valW p.2 ++ rest)) = 61 :: (valW p.2 ++ rest) := rfl
  have hh : (61 :: (valW p.2 ++ rest)).head? = some 61 := rfl
  rw [e2, if_pos hh]
  show valueP p.1 (dropB (valW p.2 ++ rest)) = _
  rw [value_back p.1 p.2 rest hv he, hs]
theorem params_back (l : List PB) (h : l.all goodP = true) : ∀ n, l.length ≤ n → paramsF n (l.flatMap paramW) = some l := by
  induction l with
  | nil => intro n _; cases n <;> rfl
  | cons p l ih =>
    intro n hn
    simp only [List.all_cons, Bool.and_eq_true] at h
    obtain ⟨m, rfl⟩ : ∃ m, n = m + 1 := ⟨n - 1, by simp at hn; omega⟩
    have hm : l.length ≤ m := by simpa using hn
    have e : (p :: l).flatMap paramW = 59 :: (32 :: p.1 ++ [61] ++ valW p.2 ++ l.flatMap paramW) := by simp [paramW]
    rw [e]
    unfold paramsF
    have hh : (59 :: (32 :: p.1 ++ [61] ++ valW p.2 ++ l.flatMap paramW)).head? = some 59 := rfl
    rw [if_neg (by simp), if_pos hh]
    show (oneP (32 :: p.1 ++ [61] ++ valW p.2 ++ l.flatMap paramW)).bind _ = _
    rw [one_back p h.1 _ (ends_params l)]
    simp only [Option.bind_some, ih h.2 m hm, Option.map_some]

theorem main_ends (m : List UInt8) (h : isMainS m = true) : m ≠ [] ∧ (∀ c ∈ m, tokC c = true ∨ c = 47) ∧ m.head?.all (fun c => !blk c) = true ∧ m.getLast?.all (fun c => !blk c) = true := by
  unfold isMainS at h
  simp only [Bool.and_eq_true, Bool.or_eq_true] at h
  obtain ⟨h1, h2⟩ := h
  obtain ⟨c, r, hcr, hc, hall⟩ := tokS_parts h1
  have hsplit := List.takeWhile_append_dropWhile (p := fun x : UInt8 => x != 47) (l := m)
  have hne : m ≠ [] := by
    intro e
    rw [e] at hcr
    simp at hcr
  have hmem : ∀ c ∈ m, tokC c = true ∨ c = 47 := by
    intro d hd
    rw [← hsplit] at hd
    rcases List.mem_append.1 hd with hd | hd
    · exact .inl (hall d hd)
    · rcases h2 with h2 | h2
      · have : m.dropWhile (· != 47) = [] := List.isEmpty_iff.1 h2
        rw [this] at hd
        simp at hd
      · cases hw : m.dropWhile (· != 47) with
        | nil => rw [hw] at hd; simp at hd
        | cons a b =>
          rw [hw] at hd h2
          have ha : a = 47 := by
            have := List.head_dropWhile_not (fun x : UInt8 => x != 47) (l := m) (by rw [hw]; simp)
            simp only [hw, List.head_cons] at this
            simpa using this
          rcases List.mem_cons.1 hd with rfl | hd
          · exact .inr ha
          · obtain ⟨_, _, _, _, hall2⟩ := tokS_parts h2
            exact .inl (hall2 d hd)
  have hnb : ∀ c ∈ m, blk c = false := fun d hd => by
    rcases hmem d hd with h | rfl
    · exact (tok_cases d h).1
    · rfl
  refine ⟨hne, hmem, ?_, ?_⟩
  · cases hh : m.head? with
    | none => rfl
    | some d => simp [hnb d (List.mem_of_mem_head? hh)]
  · cases hh : m.getLast? with
    | none => rfl
    | some d => simp [hnb d (List.mem_of_getLast? hh)]

/-- What a value with parameters is written as is that value. -/
theorem kind_back (m : List UInt8) (l : List PB) (h : goodK m l = true) : readK (writeK m l) = some (m, l) := by
  unfold goodK goodM at h
  simp only [Bool.and_eq_true, decide_eq_true_eq] at h
  obtain ⟨⟨hm, hs⟩, hl⟩ := h
  obtain ⟨_, hmem, e1, e2⟩ := main_ends m hm
  have hp : ∀ c ∈ m, (c != 59) = true := fun c hc => by
    rcases hmem c hc with h | rfl
    · simpa using (tok_cases c h).2.1
    · rfl
  have hq : (l.flatMap paramW).head?.all (fun c => !(c != 59)) = true := by
    rcases ends_params l with e | ⟨r, e⟩
    · rw [e]; rfl
    · rw [e]; rfl
  obtain ⟨i1, i2⟩ := takeWhile_app (p := fun c => c != 59) m (l.flatMap paramW) hp hq
  have ht : trimS m = m := (trim_iff m).2 ⟨e1, e2⟩
  have hlen : l.length ≤ (m ++ l.flatMap paramW).length := by
    rw [List.length_append]
    have : ∀ l : List PB, l.length ≤ (l.flatMap paramW).length := by
      intro l
      induction l with
      | nil => simp
      | cons p l ih =>
        rw [List.flatMap_cons, List.length_append, List.length_cons]
        have : 1 ≤ (paramW p).length := by simp [paramW]
        omega
    have := this l
    omega
  unfold readK writeK
  rw [i1, i2, ht, hs, if_pos hm, params_back l hl _ hlen]; rfl

theorem quoted_in (l : List UInt8) : ∀ n, l.length ≤ n → ∀ v r, quotedS l = some (v, r) → v.all inC = true := by
  intro n
  induction n generalizing l with
  | zero =>
    intro h v r hq
    have : l = [] := List.eq_nil_of_length_eq_zero (by omega)
    subst this
    cases hq
  | succ n ih =>
    intro h v r hq
    cases l with
    | nil => cases hq
    | cons c t =>
      rw [List.length_cons] at h
      unfold quotedS at hq
      by_cases h1 : c = 34
      · rw [if_pos h1] at hq
        simp only [Option.some.injEq, Prod.mk.injEq] at hq
        rw [← hq.1]; rfl
      · rw [if_neg h1] at hq
        by_cases h2 : c = 92
        · rw [if_pos h2] at hq
          cases t with
          | nil => cases hq
          | cons d t' =>
            simp only at hq
            by_cases h3 : inC d = true
            · rw [if_pos h3] at hq
              obtain ⟨q, hq1, hq2⟩ := Option.map_eq_some_iff.1 hq
              simp only [Prod.mk.injEq] at hq2
              rw [← hq2.1, List.all_cons, h3, ih t' (by simp at h; omega) q.1 q.2 hq1]; rfl
            · rw [if_neg h3] at hq; cases hq
        · rw [if_neg h2] at hq
          by_cases h3 : inC c = true
          · rw [if_pos h3] at hq
            obtain ⟨q, hq1, hq2⟩ := Option.map_eq_some_iff.1 hq
            simp only [Prod.mk.injEq] at hq2
            rw [← hq2.1, List.all_cons, h3, ih t (by omega) q.1 q.2 hq1]; rfl
          · rw [if_neg h3] at hq; cases hq
theorem takeWhile_all {p : UInt8 → Bool} (l : List UInt8) : ∀ c ∈ l.takeWhile p, p c = true := by
  intro c hc
  have := List.all_takeWhile (p := p) (l := l)
  exact List.all_eq_true.1 this c hc
theorem value_good (nm r5 : List UInt8) (hn : tokS nm = true) (p : PB) (r : List UInt8) (h : valueP nm r5 = some (p, r)) : goodP p = true := by
  have hnm : tokS (smallS nm) = true ∧ smallS (smallS nm) = smallS nm := ⟨tokS_small hn, smallS_idem nm⟩
  unfold valueP at h
  split at h
  · obtain ⟨q, hq1, hq2⟩ := Option.map_eq_some_iff.1 h
    simp only [Prod.mk.injEq] at hq2
    rw [← hq2.1]
    unfold goodP
    rw [hnm.1, decide_eq_true hnm.2, quoted_in _ _ (Nat.le_refl _) q.1 q.2 hq1]; rfl
  · split at h
    · cases h
    · simp only [Option.some.injEq, Prod.mk.injEq] at h
      rw [← h.1]
      unfold goodP
      have : (r5.takeWhile tokC).all inC = true := List.all_eq_true.2 fun c hc => (tok_cases c (takeWhile_all r5 c hc)).2.2.2.2.2.1
      rw [hnm.1, decide_eq_true hnm.2, this]; rfl
theorem one_good (r : List UInt8) (p : PB) (r' : List UInt8) (h : oneP r = some (p, r')) : goodP p = true := by
  unfold oneP at h
  split at h
  · cases h
  · rename_i hne
    split at h
    · exact value_good _ _ (tokS_mk hne (takeWhile_all _)) p r' h
    · cases h
theorem params_good : ∀ (n : Nat) (l : List UInt8) (k : List PB), paramsF n l = some k → k.all goodP = true
  | 0, l, k, h => by
    unfold paramsF at h
    split at h
    · cases h; rfl
    · cases h
  | n + 1, l, k, h => by
    unfold paramsF at h
    split at h
    · cases h; rfl
    · split at h
      · obtain ⟨q, hq1, hq2⟩ := Option.bind_eq_some_iff.1 h
        obtain ⟨k', hk1, hk2⟩ := Option.map_eq_some_iff.1 hq2
        rw [← hk2, List.all_cons, one_good _ q.1 q.2 hq1, params_good n _ k' hk1]; rfl
      · cases h
/-- What any text says may be written. -/
theorem kind_good (s m : List UInt8) (l : List PB) (h : readK s = some (m, l)) : goodK m l = true := by
  unfold readK at h
  split at h
  · rename_i hm
    obtain ⟨k, hk1, hk2⟩ := Option.map_eq_some_iff.1 h
    simp only [Prod.mk.injEq] at hk2
    obtain ⟨rfl, rfl⟩ := hk2
    unfold goodK goodM
    rw [hm, decide_eq_true (smallS_idem _), params_good _ _ _ hk1]; rfl
  · cases h

end Go.Proofs.YtkmkhfgoihfkjaaDoor
