import Derived.Test.YtkmkhfgoihfkjaaDoorZD2
import Derived.Lib.Split
import Derived.Lib.Join
import Derived.Lib.LastIndexByte
namespace Go.Proofs.YtkmkhfgoihfkjaaDoor
open Go.RowKit

/- Addresses, between what the document says of texts and what Go's functions tell of bytes. -/
theorem one_index (l : List UInt8) (c : UInt8) : Lib.index l [c] = Lib.indexByte l c := by
  induction l with
  | nil => rfl
  | cons b l ih =>
    have e : (List.isPrefixOf [c] (b :: l)) = (c == b) := by simp [List.isPrefixOf]
    rw [Lib.index, Lib.indexByte, ih, e]
    have : (c == b) = (b == c) := by rw [Bool.eq_iff_iff, beq_iff_eq, beq_iff_eq]; exact eq_comm
    rw [this]
/-- The first place of a sign: it stands nowhere, or behind n signs that are others. -/
theorem find_byte (l : List UInt8) (c : UInt8) : (Lib.indexByte l c = -1 ∧ ∀ d ∈ l, d ≠ c) ∨ ∃ x y, l = x ++ c :: y ∧ (∀ d ∈ x, d ≠ c) ∧ Lib.indexByte l c = (x.length : Int) := by
  induction l with
  | nil => exact .inl ⟨rfl, fun d hd => absurd hd (by simp)⟩
  | cons b l ih =>
    by_cases hb : b = c
    · subst hb
      exact .inr ⟨[], l, rfl, fun d hd => absurd hd (by simp), by simp [Lib.indexByte]⟩
    · have h1 : (b == c) = false := by simpa using hb
      rw [Lib.indexByte, h1]
      rcases ih with ⟨i1, i2⟩ | ⟨x, y, i1, i2, i3⟩
      · refine .inl ⟨by rw [i1]; rfl, fun d hd => ?_⟩
        rcases List.mem_cons.1 hd with rfl | hd
        · exact hb
        · exact i2 d hd
      · refine .inr ⟨b :: x, y, by rw [i1]; rfl, fun d hd => ?_, ?_⟩
        · rcases List.mem_cons.1 hd with rfl | hd
          · exact hb
          · exact i2 d hd
        · rw [i3]
          have : ((x.length : Int) == -1) = false := by rw [beq_eq_false_iff_ne]; omega
          rw [this, List.length_cons]
          simp

theorem splitP_none (l : List UInt8) (h : ∀ d ∈ l, d ≠ 47) : splitP l = [l] := split_noslash l fun hm => h 47 hm rfl
/-- strings.Split at a slash. -/
theorem split_bytes : ∀ (n : Nat) (s : ByteArray), s.size < n → (Lib.splitB ⟨#[47]⟩ 0 (Lib.countB s ⟨#[47]⟩) s).map (·.data.toList) = splitP s.data.toList
  | 0, s, h => absurd h (Nat.not_lt_zero _)
  | n + 1, s, h => by
    have hix : Lib.indexB s ⟨#[47]⟩ = Lib.indexByte s.data.toList 47 := one_index s.data.toList 47
    rcases find_byte s.data.toList 47 with ⟨h1, h2⟩ | ⟨x, y, h1, h2, h3⟩
    · rw [Lib.splitB_miss _ _ _ _ (hix.trans h1), splitP_none _ h2]; rfl
    · have hi := hix.trans h3
      have hsz : s.size = x.length + (y.length + 1) := by rw [← size_list, h1]; simp
      have hy : (s.extract (x.length + 1) s.size).data.toList = y := by
        rw [extract_list, h1, List.take_of_length_le (by rw [List.length_drop]; simp; omega)]
        have : x ++ 47 :: y = (x ++ [47]) ++ y := by simp
        rw [this]
        exact List.drop_left' (by simp)
      have hx : (s.extract 0 (x.length + 0)).data.toList = x := by
        rw [extract_list, h1]
        simp
      have ih := split_bytes n (s.extract (x.length + 1) s.size) (by rw [← size_list, hy]; omega)
      rw [hy] at ih
      have hc : Lib.countB s ⟨#[47]⟩ = Lib.countB (s.extract (x.length + 1) s.size) ⟨#[47]⟩ + 1 := by
        have := Lib.countB_hit s ⟨#[47]⟩ x.length (by decide) hi
        rw [this, Nat.add_comm]; rfl
      rw [hc, Lib.splitB_hit _ _ _ _ x.length hi, List.map_cons, hx]
      have e : (s.extract (x.length + (⟨#[47]⟩ : ByteArray).size) s.size) = s.extract (x.length + 1) s.size := rfl
      rw [e, ih, h1, split_at x y (fun hm => h2 47 hm rfl)]
theorem split_slash (s : ByteArray) : (Lib.splitB ⟨#[47]⟩ 0 (Lib.countB s ⟨#[47]⟩) s).map (·.data.toList) = splitP s.data.toList := split_bytes _ s (Nat.lt_succ_self _)
/-- strings.Join with a slash. -/
theorem join_slash : ∀ l : List (List UInt8), Lib.join l [47] = joinP l
  | [] => rfl
  | [x] => Lib.join_one x [47]
  | x :: y :: r => by
    have ih := join_slash (y :: r)
    rw [Lib.join_cons] at ih
    rw [Lib.join_cons, joinP_cons x (y :: r) (by simp), ← ih]
    simp [Lib.joinTail]
theorem joinP_length : ∀ l : List (List UInt8), (joinP l).length ≤ (l.map List.length).sum + l.length
  | [] => by simp [joinP]
  | [x] => by simp [joinP]
  | x :: y :: r => by
    have := joinP_length (y :: r)
    rw [joinP_cons x (y :: r) (by simp)]
    simp only [List.length_append, List.length_cons, List.map_cons, List.sum_cons] at this ⊢
    omega

/- Letters and digits. -/
theorem letC_is (c : UInt8) : letC c = ((decide (65 ≤ c.toNat) && decide (c.toNat ≤ 90)) || (decide (97 ≤ c.toNat) && decide (c.toNat ≤ 122))) := by
  have key : ∀ n : Fin 256, letC (UInt8.ofNat n.val) = ((decide (65 ≤ (UInt8.ofNat n.val).toNat) && decide ((UInt8.ofNat n.val).toNat ≤ 90)) || (decide (97 ≤ (UInt8.ofNat n.val).toNat) && decide ((UInt8.ofNat n.val).toNat ≤ 122))) := by decide +kernel
  have := key ⟨c.toNat, c.toNat_lt⟩
  simpa using this
def digC (c : UInt8) : Bool := decide (48 ≤ c.toNat) && decide (c.toNat ≤ 57)
def plusC (c : UInt8) : Bool := c == 43 || c == 45 || c == 46
theorem schC_is (c : UInt8) : schC c = (letC c || digC c || plusC c) := by
  unfold schC digC plusC
  simp only [Bool.or_assoc]
/-- '+', '-', '.' as strings.Contains tells them. -/
theorem plus_index (c : UInt8) : decide (0 ≤ Lib.indexByte [43, 45, 46] c) = plusC c := by
  have key : ∀ n : Fin 256, decide (0 ≤ Lib.indexByte [43, 45, 46] (UInt8.ofNat n.val)) = plusC (UInt8.ofNat n.val) := by decide +kernel
  have := key ⟨c.toNat, c.toNat_lt⟩
  simpa using this
/-- The same of what is small. -/
theorem schC_small (c : UInt8) : schC c = (letC c || digC (smallC c) || plusC (smallC c)) := by
  have key : ∀ n : Fin 256, schC (UInt8.ofNat n.val) = (letC (UInt8.ofNat n.val) || digC (smallC (UInt8.ofNat n.val)) || plusC (smallC (UInt8.ofNat n.val))) := by decide +kernel
  have := key ⟨c.toNat, c.toNat_lt⟩
  simpa using this
theorem schS_nil : schS [] = false := rfl
theorem schS_cons (c : UInt8) (r : List UInt8) : schS (c :: r) = (letC c && (c :: r).all schC) := by
  show (letC c && r.all schC) = (letC c && (schC c && r.all schC))
  cases h : letC c
  · rfl
  · rw [(letC_sch c h).1]; rfl
/-- Whether the first signs may be a scheme's, sign by sign. -/
def schTo (l : List UInt8) : Nat → Bool
  | 0 => true
  | k + 1 => schTo l k && (letC (l.getD k 0) || (decide (0 < k) && (digC (smallC (l.getD k 0)) || plusC (smallC (l.getD k 0)))))
theorem schTo_is (c : UInt8) (r : List UInt8) : ∀ k, k ≤ r.length → schTo (c :: r) (k + 1) = (letC c && (r.take k).all schC)
  | 0, _ => by simp [schTo]
  | k + 1, hk => by
    have hk : k < r.length := hk
    rw [schTo, schTo_is c r k (by omega), List.take_add_one, List.getElem?_eq_getElem hk]
    have e : (c :: r).getD (k + 1) 0 = r[k] := by simp [List.getD_eq_getElem?_getD, List.getElem?_eq_getElem hk]
    rw [e]
    have h0 : decide (0 < k + 1) = true := decide_eq_true (Nat.succ_pos _)
    rw [h0, Bool.true_and, ← Bool.or_assoc, ← schC_small, List.all_append]
    simp [Bool.and_assoc]
theorem schTo_all (l : List UInt8) (h : l ≠ []) : schTo l l.length = schS l := by
  cases l with
  | nil => exact absurd rfl h
  | cons c r =>
    rw [List.length_cons, schTo_is c r r.length (Nat.le_refl _), List.take_length]
    rfl

/- Where a path's directory ends. -/
theorem dirS_snoc (l : List UInt8) (c : UInt8) : dirS (l ++ [c]) = if c = 47 then l ++ [c] else dirS l := by
  unfold dirS
  rw [List.reverse_append]
  simp only [List.reverse_cons, List.reverse_nil, List.nil_append, List.singleton_append, List.dropWhile_cons]
  by_cases h : c = 47
  · subst h; simp
  · have : (c != 47) = true := by simpa using h
    rw [if_pos this, if_neg h]
theorem dirS_take (s : ByteArray) (k : Nat) (h : k < s.size) : dirS (s.data.toList.take (k + 1)) = if s[k] = 47 then s.data.toList.take (k + 1) else dirS (s.data.toList.take k) := by
  rw [take_snoc s k h, dirS_snoc]
theorem get_data (s : ByteArray) (j : Nat) (h : j < s.size) : s.data[j]! = s[j] := by
  have : s.data[j]? = some s[j] := by
    rw [Array.getElem?_eq_getElem h]; rfl
  simp [getElem!_def, this]
/-- strings.LastIndexByte at a slash. -/
theorem dirS_last (s : ByteArray) : ∀ k, k ≤ s.size → (Lib.lastIdx s 47 k = -1 ∧ dirS (s.data.toList.take k) = []) ∨ ∃ i : Nat, i < k ∧ Lib.lastIdx s 47 k = i ∧ dirS (s.data.toList.take k) = s.data.toList.take (i + 1)
  | 0, _ => .inl ⟨rfl, rfl⟩
  | k + 1, h => by
    rw [dirS_take s k h, Lib.lastIdx, get_data s k h]
    have e : ((s[k].toNat : Int) = 47) = (s[k] = 47) := by
      rw [eq_iff_iff, ← UInt8.toNat_inj]
      constructor
      · intro h; show s[k].toNat = 47; omega
      · intro h; have : s[k].toNat = 47 := h; omega
    simp only [e]
    by_cases h47 : s[k] = 47
    · rw [if_pos h47, if_pos h47]
      exact .inr ⟨k, Nat.lt_succ_self k, rfl, rfl⟩
    · rw [if_neg h47, if_neg h47]
      rcases dirS_last s k (by omega) with ⟨a, b⟩ | ⟨i, a, b, c⟩
      · exact .inl ⟨a, b⟩
      · exact .inr ⟨i, by omega, b, c⟩
theorem dirS_cases (s : ByteArray) : (Lib.lastIndexByte s 47 = -1 ∧ dirS s.data.toList = []) ∨ ∃ i : Nat, i < s.size ∧ Lib.lastIndexByte s 47 = i ∧ dirS s.data.toList = s.data.toList.take (i + 1) := by
  have := dirS_last s s.size (Nat.le_refl _)
  rw [take_all s s.size (Nat.lt_irrefl _)] at this
  exact this

/- A path's parts, one by one. -/
/-- What stands ahead, behind one part more. -/
def stepO (o : List (List UInt8)) (f : Bool) (x : List UInt8) (last : Bool) : List (List UInt8) :=
  if x = [] ∧ last = false ∧ f = false then o else if x ≠ dot ∧ x ≠ dotdot then o ++ [x]
  else if last then (if x = dotdot then popP o else o) ++ [[]] else if x = dotdot then popP o else o
theorem dotsG_step (o : List (List UInt8)) (f : Bool) (x : List UInt8) (r : List (List UInt8)) : dotsG o f (x :: r) = dotsG (stepO o f x r.isEmpty) false r := by
  conv => lhs; unfold dotsG
  unfold stepO
  cases r with
  | nil =>
    by_cases hd : x ≠ dot ∧ x ≠ dotdot
    · simp [hd, dotsG]
    · simp [hd, dotsG]
  | cons y r =>
    by_cases h1 : x = [] ∧ f = false
    · simp [h1]
    · by_cases hd : x ≠ dot ∧ x ≠ dotdot
      · simp [h1, hd]
      · simp [h1, hd]
/-- Only the first is empty. -/
def FirstE (o : List (List UInt8)) : Prop := ∀ x ∈ o.tail, x ≠ []
theorem popP_firstE {o : List (List UInt8)} (h : FirstE o) : FirstE (popP o) := by
  unfold popP
  split
  · exact h
  · intro x hx
    rw [List.tail_dropLast] at hx
    exact h x (List.dropLast_subset _ hx)
theorem stepO_firstE {o : List (List UInt8)} {f : Bool} {x : List UInt8} (h : FirstE o) (h0 : f = true → o = []) : FirstE (stepO o f x false) := by
  unfold stepO
  by_cases h1 : x = [] ∧ f = false
  · simpa [h1] using h
  · by_cases hd : x ≠ dot ∧ x ≠ dotdot
    · have : ¬ (x = [] ∧ false = false ∧ f = false) := fun hh => h1 ⟨hh.1, hh.2.2⟩
      rw [if_neg this, if_pos hd]
      cases o with
      | nil => intro y hy; simp at hy
      | cons a o =>
        have hf : f = false := by
          cases f with
          | false => rfl
          | true => exact absurd (h0 rfl) (by simp)
        intro y hy
        simp only [List.cons_append, List.tail_cons] at hy
        rcases List.mem_append.1 hy with hy | hy
        · exact h y hy
        · rw [List.mem_singleton.1 hy]
          exact fun e => h1 ⟨e, hf⟩
    · have : ¬ (x = [] ∧ false = false ∧ f = false) := fun hh => h1 ⟨hh.1, hh.2.2⟩
      rw [if_neg this, if_neg hd]
      simp only [Bool.false_eq_true, if_false]
      split
      · exact popP_firstE h
      · exact h
/-- Parts without the last one, as address.up tells it: an empty last one stays. -/
def upP (o : List (List UInt8)) : List (List UInt8) := if o = [] ∨ o.getLast? = some [] then o else o.dropLast
theorem upP_pop {o : List (List UInt8)} (h : FirstE o) : upP o = popP o := by
  unfold upP popP
  cases o with
  | nil => rfl
  | cons a o =>
    cases o with
    | nil => by_cases ha : a = [] <;> simp [ha]
    | cons b o =>
      have hl : (a :: b :: o).getLast? ≠ some [] := by
        intro e
        rw [List.getLast?_cons_cons] at e
        exact h [] (List.mem_of_getLast? e) rfl
      have h1 : ¬ (a :: b :: o = [] ∨ (a :: b :: o).getLast? = some []) := by
        rintro (e | e)
        · cases e
        · exact hl e
      rw [if_neg h1, if_neg (by simp)]

end Go.Proofs.YtkmkhfgoihfkjaaDoor
