import Derived.Test.YtmjijnfhgedmlaaGreatDoorZ12
namespace Go.Proofs.YtmjijnfhgedmlaaGreatDoor.Tx
open Go.RowKit Go.Proofs.Sx

theorem toBits_add (n w v : Nat) : toBits n (w + v) = toBits (n / 2 ^ v) w ++ toBits n v := by
  induction v generalizing n with
  | zero => simp [toBits]
  | succ v ih =>
    rw [← Nat.add_assoc, toBits, ih, toBits, List.append_assoc]
    congr 2
    rw [Nat.div_div_eq_div_mul, Nat.pow_succ, Nat.mul_comm]
theorem toBits_mod (n w : Nat) : toBits (n % 2 ^ w) w = toBits n w := by
  induction w generalizing n with
  | zero => rfl
  | succ w ih =>
    rw [toBits, toBits]
    have h1 : n % 2 ^ (w + 1) / 2 = n / 2 % 2 ^ w := by
      rw [Nat.pow_succ, Nat.mul_comm, Nat.mod_mul_right_div_self]
    have h2 : n % 2 ^ (w + 1) % 2 = n % 2 := Nat.mod_mod_of_dvd n ⟨2 ^ w, by rw [Nat.pow_succ, Nat.mul_comm]⟩
    rw [h1, h2, ih]

theorem grp_shift (a l : List Nat) (i k : Nat) : grp (a ++ l) (a.length + i) k = grp l i k := by
  induction k with
  | zero => rfl
  | succ k ih =>
    rw [grp, grp, ih]
    congr 1
    rw [List.getD_eq_getElem?_getD, List.getD_eq_getElem?_getD, Nat.add_assoc, List.getElem?_append_right (by omega), Nat.add_sub_cancel_left]
theorem grp_prefix (a l : List Nat) (i k : Nat) (h : i + k ≤ a.length) : grp (a ++ l) i k = grp a i k := by
  induction k with
  | zero => rfl
  | succ k ih =>
    rw [grp, grp, ih (by omega)]
    congr 1
    rw [List.getD_eq_getElem?_getD, List.getD_eq_getElem?_getD, List.getElem?_append_left (by omega)]
theorem grp_toBits (n w : Nat) : grp (toBits n w) 0 w = n % 2 ^ w := by
  have key : ∀ k, k ≤ w → grp (toBits n w) 0 k = n / 2 ^ (w - k) % 2 ^ k := by
    intro k
    induction k with
    | zero => intro _; simp [grp, Nat.mod_one]
    | succ k ih =>
      intro hk
      rw [grp, ih (by omega), List.getD_eq_getElem?_getD, Nat.zero_add, toBits_get n w k (by omega)]
      show _ * 2 + n / 2 ^ (w - 1 - k) % 2 = _
      have e : w - k = (w - (k + 1)) + 1 := by omega
      have e2 : w - 1 - k = w - (k + 1) := by omega
      rw [e, e2]
      generalize w - (k + 1) = v
      rw [Nat.pow_succ 2 v, ← Nat.div_div_eq_div_mul]
      generalize n / 2 ^ v = x
      rw [Nat.pow_succ 2 k]
      have h1 : x % (2 ^ k * 2) = x % 2 + 2 * (x / 2 % 2 ^ k) := by
        rw [Nat.mul_comm, Nat.mod_mul]
      rw [h1]
      omega
  have := key w (Nat.le_refl _)
  simpa using this

/-- Six bits of a number, from the front. -/
theorem grp_six (n w : Nat) (l : List Nat) : grp (toBits n (6 + w) ++ l) 0 6 = n / 2 ^ w % 64 := by
  rw [grp_prefix _ _ _ _ (by rw [toBits_length]; omega), toBits_add, grp_prefix _ _ _ _ (by rw [toBits_length]; omega), grp_toBits]

theorem lets_cons (a l : List Nat) (m : Nat) (h : a.length = 6) : lets (a ++ l) (m + 1) = lett (grp (a ++ l) 0 6) :: lets l m := by
  unfold lets
  rw [List.range_succ_eq_map, List.map_cons, List.map_map]
  congr 1
  apply List.map_congr_left
  intro j _
  show lett (grp (a ++ l) (6 * (j + 1)) 6) = lett (grp l (6 * j) 6)
  rw [show 6 * (j + 1) = a.length + 6 * j from by omega, grp_shift]

theorem three_bits (x y z : UInt8) : toBits x.toNat 8 ++ (toBits y.toNat 8 ++ toBits z.toNat 8) = toBits (bitsOf [x, y, z]) 24 := by
  have hx := x.toNat_lt
  have hy := y.toNat_lt
  have hz := z.toNat_lt
  have hN : bitsOf [x, y, z] = (x.toNat * 256 + y.toNat) * 256 + z.toNat := rfl
  rw [hN, show (24 : Nat) = 8 + (8 + 8) from rfl, toBits_add, toBits_add]
  congr 1
  · congr 1; omega
  · congr 1
    · rw [← toBits_mod]; rw [← toBits_mod (_ / _)]; congr 1; omega
    · rw [← toBits_mod]; rw [← toBits_mod ((x.toNat * 256 + y.toNat) * 256 + z.toNat)]; congr 1; omega

theorem lets_three (x y z : UInt8) (l : List Nat) (m : Nat) : lets (toBits x.toNat 8 ++ (toBits y.toNat 8 ++ toBits z.toNat 8) ++ l) (m + 4) = fourL [x, y, z] ++ lets l m := by
  rw [three_bits, show (24 : Nat) = 6 + 18 from rfl]
  have e1 : toBits (bitsOf [x, y, z]) (6 + 18) ++ l = toBits (bitsOf [x, y, z] / 2 ^ 18) 6 ++ (toBits (bitsOf [x, y, z]) (6 + 12) ++ l) := by rw [toBits_add, List.append_assoc]
  have e2 : toBits (bitsOf [x, y, z]) (6 + 12) ++ l = toBits (bitsOf [x, y, z] / 2 ^ 12) 6 ++ (toBits (bitsOf [x, y, z]) (6 + 6) ++ l) := by rw [toBits_add, List.append_assoc]
  have e3 : toBits (bitsOf [x, y, z]) (6 + 6) ++ l = toBits (bitsOf [x, y, z] / 2 ^ 6) 6 ++ (toBits (bitsOf [x, y, z]) (6 + 0) ++ l) := by rw [toBits_add _ 6 6, List.append_assoc]
  have g1 := grp_six (bitsOf [x, y, z]) 18 l
  have g2 := grp_six (bitsOf [x, y, z]) 12 l
  have g3 := grp_six (bitsOf [x, y, z]) 6 l
  have g4 := grp_six (bitsOf [x, y, z]) 0 l
  rw [e1] at g1 ⊢
  rw [show m + 4 = (m + 3) + 1 from rfl, lets_cons _ _ _ (toBits_length _ _), g1]
  rw [e2] at g2 ⊢
  rw [show m + 3 = (m + 2) + 1 from rfl, lets_cons _ _ _ (toBits_length _ _), g2]
  rw [e3] at g3 ⊢
  rw [show m + 2 = (m + 1) + 1 from rfl, lets_cons _ _ _ (toBits_length _ _), g3, lets_cons _ _ _ (toBits_length _ _), g4]
  simp [fourL, fourN]

theorem grp_pad (l : List Nat) (z i k : Nat) : grp (l ++ List.replicate z 0) i k = grp l i k := by
  induction k with
  | zero => rfl
  | succ k ih =>
    rw [grp, grp, ih]
    congr 1
    rw [List.getD_eq_getElem?_getD, List.getD_eq_getElem?_getD]
    by_cases h : i + k < l.length
    · rw [List.getElem?_append_left h]
    · have e : l[i + k]? = none := List.getElem?_eq_none (by omega)
      rw [List.getElem?_append_right (by omega), e, List.getElem?_replicate]
      split <;> rfl
theorem lets_pad (l : List Nat) (z m : Nat) : lets (l ++ List.replicate z 0) m = lets l m := by
  unfold lets
  apply List.map_congr_left
  intro j _
  rw [grp_pad]

theorem two_bits (x y : UInt8) : toBits x.toNat 8 ++ toBits y.toNat 8 ++ List.replicate 2 0 = toBits ((x.toNat * 256 + y.toNat) * 4) 18 := by
  have hx := x.toNat_lt
  have hy := y.toNat_lt
  rw [show (18 : Nat) = 8 + (8 + 2) from rfl, toBits_add, toBits_add, List.append_assoc]
  congr 1
  · congr 1; omega
  · congr 1
    · rw [← toBits_mod]; rw [← toBits_mod (_ / _)]; congr 1; omega
    · rw [← toBits_mod, show (x.toNat * 256 + y.toNat) * 4 % 2 ^ 2 = 0 from by omega]; rfl
theorem one_bits (x : UInt8) : toBits x.toNat 8 ++ List.replicate 4 0 = toBits (x.toNat * 16) 12 := by
  have hx := x.toNat_lt
  rw [show (12 : Nat) = 8 + 4 from rfl, toBits_add]
  congr 1
  · congr 1; omega
  · rw [← toBits_mod, show x.toNat * 16 % 2 ^ 4 = 0 from by omega]; rfl

theorem lets_two (x y : UInt8) : lets (toBits x.toNat 8 ++ toBits y.toNat 8) 3 = (fourL [x, y]).take 3 := by
  have hx := x.toNat_lt
  have hy := y.toNat_lt
  have hN : bitsOf [x, y] = (x.toNat * 256 + y.toNat) * 256 := by simp [bitsOf]
  rw [← lets_pad _ 2, two_bits]
  obtain ⟨M, hM⟩ : ∃ M, M = (x.toNat * 256 + y.toNat) * 4 := ⟨_, rfl⟩
  rw [← hM, show (18 : Nat) = 6 + 12 from rfl]
  have e1 : toBits M (6 + 12) ++ [] = toBits (M / 2 ^ 12) 6 ++ (toBits M (6 + 6) ++ []) := by rw [toBits_add, List.append_assoc]
  have e2 : toBits M (6 + 6) ++ [] = toBits (M / 2 ^ 6) 6 ++ (toBits M (6 + 0) ++ []) := by rw [toBits_add _ 6 6, List.append_assoc]
  have g1 := grp_six M 12 []
  have g2 := grp_six M 6 []
  have g3 := grp_six M 0 []
  rw [← List.append_nil (toBits M (6 + 12))]
  rw [e1] at g1 ⊢
  rw [show (3 : Nat) = 2 + 1 from rfl, lets_cons _ _ _ (toBits_length _ _), g1]
  rw [e2] at g2 ⊢
  rw [show (2 : Nat) = 1 + 1 from rfl, lets_cons _ _ _ (toBits_length _ _), g2, show (1 : Nat) = 0 + 1 from rfl, lets_cons _ _ _ (toBits_length _ _), g3]
  have f : (fourL [x, y]).take 3 = [lett (bitsOf [x, y] / 262144 % 64), lett (bitsOf [x, y] / 4096 % 64), lett (bitsOf [x, y] / 64 % 64)] := rfl
  rw [f, hN]
  show [lett _, lett _, lett _] = _
  rw [show M / 2 ^ 12 % 64 = (x.toNat * 256 + y.toNat) * 256 / 262144 % 64 from by omega, show M / 2 ^ 6 % 64 = (x.toNat * 256 + y.toNat) * 256 / 4096 % 64 from by omega, show M / 2 ^ 0 % 64 = (x.toNat * 256 + y.toNat) * 256 / 64 % 64 from by omega]
theorem lets_one (x : UInt8) : lets (toBits x.toNat 8) 2 = (fourL [x]).take 2 := by
  have hx := x.toNat_lt
  have hN : bitsOf [x] = x.toNat * 256 * 256 := by simp [bitsOf]
  rw [← lets_pad _ 4, one_bits]
  obtain ⟨M, hM⟩ : ∃ M, M = x.toNat * 16 := ⟨_, rfl⟩
  rw [← hM, show (12 : Nat) = 6 + 6 from rfl]
  have e2 : toBits M (6 + 6) ++ [] = toBits (M / 2 ^ 6) 6 ++ (toBits M (6 + 0) ++ []) := by rw [toBits_add _ 6 6, List.append_assoc]
  have g2 := grp_six M 6 []
  have g3 := grp_six M 0 []
  rw [← List.append_nil (toBits M (6 + 6))]
  rw [e2] at g2 ⊢
  rw [show (2 : Nat) = 1 + 1 from rfl, lets_cons _ _ _ (toBits_length _ _), g2, show (1 : Nat) = 0 + 1 from rfl, lets_cons _ _ _ (toBits_length _ _), g3]
  have f : (fourL [x]).take 2 = [lett (bitsOf [x] / 262144 % 64), lett (bitsOf [x] / 4096 % 64)] := rfl
  rw [f, hN]
  show [lett _, lett _] = _
  rw [show M / 2 ^ 6 % 64 = x.toNat * 256 * 256 / 262144 % 64 from by omega, show M / 2 ^ 0 % 64 = x.toNat * 256 * 256 / 4096 % 64 from by omega]

theorem packTo_cons (x y z : UInt8) (r : List UInt8) (k : Nat) : packTo (x :: y :: z :: r) (k + 1) = fourL [x, y, z] ++ packTo r k := by
  induction k with
  | zero => simp [packTo]
  | succ k ih =>
    rw [packTo, ih, packTo, List.append_assoc]
    congr 3

theorem refLetters : ∀ (b : List UInt8) (m p : Nat), 6 * m ≤ 8 * b.length + 5 → 8 * b.length ≤ 6 * m → (m + p) % 4 = 0 → p ≤ 3 → (∀ q, q < p → (m + q) % 4 ≠ 0) →
    lets (allBits b) m ++ List.replicate p 61 = packTo b ((b.length + 2) / 3)
  | [], m, p, h1, h2, h3, h4, h5 => by
    have hm : m = 0 := by simp at h1; omega
    subst hm
    have hp : p = 0 := by omega
    subst hp
    rfl
  | [x], m, p, h1, h2, h3, h4, h5 => by
    have hm : m = 2 := by simp at h1 h2; omega
    subst hm
    have hp : p = 2 := by omega
    subst hp
    rw [show allBits [x] = toBits x.toNat 8 from by simp [allBits], lets_one]
    rw [show ([x].length + 2) / 3 = 1 from by simp]
    simp [packTo, fourL, fourN]
  | [x, y], m, p, h1, h2, h3, h4, h5 => by
    have hm : m = 3 := by simp at h1 h2; omega
    subst hm
    have hp : p = 1 := by omega
    subst hp
    rw [show allBits [x, y] = toBits x.toNat 8 ++ toBits y.toNat 8 from by simp [allBits], lets_two]
    rw [show ([x, y].length + 2) / 3 = 1 from by simp]
    simp [packTo, fourL, fourN]
  | x :: y :: z :: r, m, p, h1, h2, h3, h4, h5 => by
    simp only [List.length_cons] at h1 h2
    obtain ⟨m', rfl⟩ : ∃ m', m = m' + 4 := ⟨m - 4, by omega⟩
    have ih := refLetters r m' p (by omega) (by omega) (by omega) h4 (fun q hq => by have := h5 q hq; omega)
    have e : allBits (x :: y :: z :: r) = toBits x.toNat 8 ++ (toBits y.toNat 8 ++ toBits z.toNat 8) ++ allBits r := by simp [allBits]
    rw [e, lets_three, List.append_assoc, ih]
    rw [show ((x :: y :: z :: r).length + 2) / 3 = (r.length + 2) / 3 + 1 from by simp only [List.length_cons]; omega, packTo_cons]

end Go.Proofs.YtmjijnfhgedmlaaGreatDoor.Tx
