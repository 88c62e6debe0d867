import Derived.Test.YtmjijnfhgedmlaaGreatDoorZR7
namespace Go.Proofs.YtmjijnfhgedmlaaGreatDoor.Tx
open Go.RowKit Go.Proofs.Sx

theorem lettv_of (n : Nat) (h : n < 64) : lettv (lett n) = (n : Int) := by
  have key : ∀ n : Fin 64, lettv (lett n.val) = (n.val : Int) := by decide +kernel
  exact key ⟨n, h⟩
theorem lett_of (c : UInt8) (h : 0 ≤ lettv c) : lett (lettv c).toNat = c := by
  have key : ∀ n : Fin 256, 0 ≤ lettv (UInt8.ofNat n.val) → lett (lettv (UInt8.ofNat n.val)).toNat = UInt8.ofNat n.val := by decide +kernel
  have := key ⟨c.toNat, c.toNat_lt⟩
  simp only [UInt8.ofNat_toNat] at this
  exact this h
theorem lettv_none (c : UInt8) (h : ∀ j, j < 64 → lett j ≠ c) : lettv c < 0 := by
  apply Int.not_le.1
  intro h0
  have h1 := lettv_lt c
  exact h (lettv c).toNat (by omega) (lett_of c h0)

/-- The bits of letters. -/
def upBits (l : List UInt8) : List Nat := l.flatMap fun c => toBits (lettv c).toNat 6
theorem upBits_snoc (l : List UInt8) (c : UInt8) : upBits (l ++ [c]) = upBits l ++ toBits (lettv c).toNat 6 := by simp [upBits]
theorem upBits_length (l : List UInt8) : (upBits l).length = 6 * l.length := by
  induction l with
  | nil => rfl
  | cons x l ih => rw [show upBits (x :: l) = toBits (lettv x).toNat 6 ++ upBits l from rfl, List.length_append, toBits_length, ih]; simp; omega
theorem upBits_le (l : List UInt8) : ∀ c ∈ upBits l, c ≤ 1 := by
  intro c hc
  simp only [upBits, List.mem_flatMap] at hc
  obtain ⟨x, _, hc⟩ := hc
  exact toBits_le _ _ c hc

theorem bits_up (N C v : Nat) (hv : v < 64) : toBits N C ++ toBits v 6 = toBits (N * 64 + v) (C + 6) := by
  rw [toBits_add]
  congr 1
  · congr 1
    show N = (N * 64 + v) / 64
    omega
  · rw [← toBits_mod, ← toBits_mod (N * 64 + v)]
    congr 1
    show v % 64 = (N * 64 + v) % 64
    omega

theorem joinBits (l : List UInt8) : (∀ c ∈ l, 0 ≤ lettv c) → ∃ o N C, joinAll l = some (o, N, C) ∧ upBits l = allBits o ++ toBits N C ∧ N < 2 ^ C ∧ (C = 0 ∨ C = 2 ∨ C = 4 ∨ C = 6) := by
  induction hn : l.length generalizing l with
  | zero =>
    intro _
    have : l = [] := List.eq_nil_of_length_eq_zero hn
    subst this
    exact ⟨[], 0, 0, rfl, rfl, by decide, .inl rfl⟩
  | succ n ih =>
    intro h
    obtain ⟨m, c, rfl⟩ : ∃ m c, l = m ++ [c] := ⟨l.dropLast, l.getLast (by intro e; rw [e] at hn; cases hn), (List.dropLast_concat_getLast _).symm⟩
    obtain ⟨o, N, C, hj, hu, hN, hC⟩ := ih m (by simpa using hn) (fun x hx => h x (List.mem_append_left _ hx))
    have hc0 := h c (by simp)
    have hc1 := lettv_lt c
    obtain ⟨v, hv⟩ : ∃ v, v = (lettv c).toNat := ⟨_, rfl⟩
    have hv6 : v < 64 := by omega
    rw [joinAll_snoc, hj, upBits_snoc, hu, List.append_assoc, ← hv, bits_up N C v hv6]
    show ∃ o' N' C', joinStep (o, N, C) c = _ ∧ _
    unfold joinStep
    rw [if_neg (by omega), ← hv]
    by_cases h8 : 8 ≤ C + 6
    · rw [if_pos h8]
      have hX : (N * 64 + v) / 2 ^ (C + 6 - 8) < 256 := by
        apply Nat.div_lt_of_lt_mul
        rcases hC with rfl | rfl | rfl | rfl
        · omega
        · simp at hN ⊢; omega
        · simp at hN ⊢; omega
        · simp at hN ⊢; omega
      refine ⟨_, _, _, rfl, ?_, Nat.mod_lt _ (Nat.two_pow_pos _), by show C + 6 - 8 = 0 ∨ C + 6 - 8 = 2 ∨ C + 6 - 8 = 4 ∨ C + 6 - 8 = 6; omega⟩
      rw [allBits_snoc, List.append_assoc, UInt8.toNat_ofNat', Nat.mod_eq_of_lt hX, toBits_mod, ← toBits_add]
      congr 2
      omega
    · rw [if_neg h8]
      refine ⟨_, _, _, rfl, rfl, ?_, by show C + 6 = 0 ∨ C + 6 = 2 ∨ C + 6 = 4 ∨ C + 6 = 6; omega⟩
      have hC0 : C = 0 := by omega
      subst hC0
      simp at hN ⊢
      omega

/-- The first m groups of eight bits as bytes. -/
def eights (l : List Nat) (m : Nat) : List UInt8 := (List.range m).map fun j => UInt8.ofNat (grp l (8 * j) 8)
theorem eights_succ (l : List Nat) (m : Nat) : eights l (m + 1) = eights l m ++ [UInt8.ofNat (grp l (8 * m) 8)] := by simp [eights, List.range_succ]
theorem eights_cons (a l : List Nat) (m : Nat) (h : a.length = 8) : eights (a ++ l) (m + 1) = UInt8.ofNat (grp (a ++ l) 0 8) :: eights l m := by
  unfold eights
  rw [List.range_succ_eq_map, List.map_cons, List.map_map]
  congr 1
  apply List.map_congr_left
  intro j _
  show UInt8.ofNat (grp (a ++ l) (8 * (j + 1)) 8) = UInt8.ofNat (grp l (8 * j) 8)
  rw [show 8 * (j + 1) = a.length + 8 * j from by omega, grp_shift]
theorem eights_all (o : List UInt8) (r : List Nat) : eights (allBits o ++ r) o.length = o := by
  induction o with
  | nil => rfl
  | cons x o ih =>
    rw [show allBits (x :: o) = toBits x.toNat 8 ++ allBits o from rfl, List.append_assoc, List.length_cons, eights_cons _ _ _ (toBits_length _ _), ih]
    rw [grp_prefix _ _ _ _ (by rw [toBits_length]; omega), grp_toBits]
    congr 1
    have := x.toNat_lt
    rw [Nat.mod_eq_of_lt (by omega)]
    simp

theorem grp_zero (l : List Nat) (h : ∀ c ∈ l, c = 0) (i k : Nat) : grp l i k = 0 := by
  induction k with
  | zero => rfl
  | succ k ih =>
    rw [grp, ih, List.getD_eq_getElem?_getD]
    by_cases hi : i + k < l.length
    · rw [List.getElem?_eq_getElem hi]; simpa using h _ (List.getElem_mem hi)
    · rw [List.getElem?_eq_none (by omega)]; rfl
theorem toBits_zero (C : Nat) : ∀ c ∈ toBits 0 C, c = 0 := by
  induction C with
  | zero => intro c hc; cases hc
  | succ C ih =>
    intro c hc
    rw [toBits, List.mem_append] at hc
    rcases hc with hc | hc
    · exact ih c hc
    · simpa using hc

/-- Bits in eights, and what is left all 0: just what the letters are. -/
theorem joined_up (l : List UInt8) (h : ∀ c ∈ l, 0 ≤ lettv c) (p : Nat) (h1 : 8 * p ≤ (upBits l).length) (h2 : (upBits l).length < 8 * p + 8) :
    ((∀ c ∈ (upBits l).drop (8 * p), c = 0) → joinedS l = some (eights (upBits l) p)) ∧ ((¬ ∀ c ∈ (upBits l).drop (8 * p), c = 0) → joinedS l = none) := by
  obtain ⟨o, N, C, hj, hu, hN, hC⟩ := joinBits l h
  have hlen : (upBits l).length = 8 * o.length + C := by rw [hu, List.length_append, allBits_length, toBits_length]
  have hp : p = o.length := by omega
  subst hp
  have hd : (upBits l).drop (8 * o.length) = toBits N C := by
    rw [hu, ← allBits_length, List.drop_left]
  rw [hd]
  have hJ : joinedS l = if N = 0 then some o else none := by
    unfold joinedS
    rw [hj]
    rfl
  rw [hJ, hu, eights_all]
  constructor
  · intro hz
    have := grp_toBits N C
    rw [grp_zero _ hz, Nat.mod_eq_of_lt hN] at this
    rw [if_pos this.symm]
  · intro hz
    rw [if_neg]
    intro h0
    subst h0
    exact hz (toBits_zero C)

theorem joined_bad (l : List UInt8) (k : Nat) (hk : k < l.length) (h : lettv l[k] < 0) : joinedS l = none := by
  have h1 : joinAll (l.take (k + 1)) = none := by
    rw [take_snocL l k hk, joinAll_snoc]
    cases joinAll (l.take k) with
    | none => rfl
    | some q =>
      show joinStep _ _ = _
      unfold joinStep
      rw [if_pos h]
  have h2 := joinAll_none (l.take (k + 1)) (l.drop (k + 1)) h1
  rw [List.take_append_drop] at h2
  unfold joinedS
  rw [h2]; rfl

/-- The pads are those that 'fillN' counts. -/
theorem fill_end (l : List UInt8) (p : Nat) (h2 : p ≤ 2) (hl : p ≤ l.length) (ha : ∀ q, q < p → l.getD (l.length - 1 - q) 0 = 61) (he : p = 2 ∨ p = l.length ∨ (p < l.length ∧ l.getD (l.length - 1 - p) 0 ≠ 61)) : fillN l = p := by
  unfold fillN
  have e1 : l.length - 1 - 0 = l.length - 1 := by omega
  have e2 : l.length - 1 - 1 = l.length - 2 := by omega
  match p, h2 with
  | 0, _ =>
    rw [if_neg]
    rintro ⟨a, b⟩
    rcases he with he | he | ⟨_, he⟩
    · cases he
    · omega
    · rw [e1] at he; exact he a
  | 1, _ =>
    have a0 := ha 0 (by omega)
    rw [e1] at a0
    rw [if_pos ⟨a0, hl⟩, if_neg]
    rintro ⟨a, b⟩
    rcases he with he | he | ⟨_, he⟩
    · cases he
    · omega
    · rw [e2] at he; exact he a
  | 2, _ =>
    have a0 := ha 0 (by omega)
    have a1 := ha 1 (by omega)
    rw [e1] at a0
    rw [e2] at a1
    rw [if_pos ⟨a0, by omega⟩, if_pos ⟨a1, hl⟩]

end Go.Proofs.YtmjijnfhgedmlaaGreatDoor.Tx
