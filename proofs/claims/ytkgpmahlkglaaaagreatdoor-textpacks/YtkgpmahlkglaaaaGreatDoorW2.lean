import Derived.Test.YtkgpmahlkglaaaaGreatDoorW1
namespace Go.Proofs.YtkgpmahlkglaaaaGreatDoor
open Go.RowKit

def digits : List UInt8 := [48, 49, 50, 51, 52, 53, 54, 55, 56, 57, 65, 66, 67, 68, 69, 70]
def hexd (n : Nat) : UInt8 := digits.getD n 0

theorem hexd_at (i : Nat) (h : i < (ByteArray.mk #[48, 49, 50, 51, 52, 53, 54, 55, 56, 57, 65, 66, 67, 68, 69, 70]).size) : (ByteArray.mk #[48, 49, 50, 51, 52, 53, 54, 55, 56, 57, 65, 66, 67, 68, 69, 70])[i] = hexd i := by
  have h' : i < 16 := h
  have : ∀ i : Fin 16, (ByteArray.mk #[48, 49, 50, 51, 52, 53, 54, 55, 56, 57, 65, 66, 67, 68, 69, 70])[i.val]'(i.isLt) = hexd i.val := by decide
  exact this ⟨i, h'⟩

/-- What a byte is quoted as. -/
def quotedL (c : UInt8) (last : Bool) : List UInt8 := if isLetter c || (isBlank c && !last) then [c] else [61, hexd (c.toNat / 16), hexd (c.toNat % 16)]

theorem quotedL_length (c : UInt8) (last : Bool) : (quotedL c last).length ≤ 3 := by unfold quotedL; split <;> simp

set_option maxHeartbeats 400000 in
theorem quoted_plain (c : UInt8) (last : Bool) (w : World) (h : (isLetter c || (isBlank c && !last)) = true) :
    Calls Tryz.prog 28 #[.int .u8 (c.toNat : Int), .bool last] w fun e w' => ∃ v, e = .returned v ∧ Own w' w.heap.size v [c] ∧ Below w.heap.size w w' := by
  by_cases h1 : isLetter c = true
  · clear h
    go_enter Tryz.func28, Tryz.ntmps28
    go_wp2_with (first | (go_at_call 40; refine (isLetter_any _ _).mono ?_; rintro e w' ⟨rfl, rfl⟩) | (go_at_call 41; refine (isBlank_any _ _).mono ?_; rintro e w' ⟨rfl, rfl⟩))
    go_ret
    exact ⟨_, rfl, Own.lit _ _ [c] 1 rfl (Nat.le_refl _) (by decide), (Below.refl _ _).alloc (Nat.le_refl _) _⟩
  · have h1 : isLetter c = false := by simpa using h1
    have h2 : isBlank c = true := by rw [h1] at h; simp at h; exact h.1
    have h3 : last = false := by rw [h1] at h; simp at h; exact h.2
    subst h3
    clear h
    go_enter Tryz.func28, Tryz.ntmps28
    go_wp2_with (first | (go_at_call 40; refine (isLetter_any _ _).mono ?_; rintro e w' ⟨rfl, rfl⟩) | (go_at_call 41; refine (isBlank_any _ _).mono ?_; rintro e w' ⟨rfl, rfl⟩))
    go_ret
    exact ⟨_, rfl, Own.lit _ _ [c] 1 rfl (Nat.le_refl _) (by decide), (Below.refl _ _).alloc (Nat.le_refl _) _⟩

set_option maxHeartbeats 400000 in
theorem quoted_code (c : UInt8) (last : Bool) (w : World) (h : (isLetter c || (isBlank c && !last)) = false) :
    Calls Tryz.prog 28 #[.int .u8 (c.toNat : Int), .bool last] w fun e w' => ∃ v, e = .returned v ∧ Own w' w.heap.size v [61, hexd (c.toNat / 16), hexd (c.toNat % 16)] ∧ Below w.heap.size w w' := by
  have hb : (c.toNat : Int) < 256 := by have := c.toNat_lt; omega
  have i1 : 0 ≤ (c.toNat : Int) / 16 := by omega
  have i2 : (c.toNat : Int) / 16 < 16 := by omega
  have i3 : 0 ≤ (c.toNat : Int) % 16 := by omega
  have i4 : (c.toNat : Int) % 16 < 16 := by omega
  have h1 : isLetter c = false := by cases hh : isLetter c <;> simp_all
  by_cases h2 : isBlank c = true
  · have h3 : last = true := by rw [h1, h2] at h; simpa using h
    subst h3
    clear h
    go_enter Tryz.func28, Tryz.ntmps28
    go_wp2_with (first | (go_at_call 40; refine (isLetter_any _ _).mono ?_; rintro e w' ⟨rfl, rfl⟩) | (go_at_call 41; refine (isBlank_any _ _).mono ?_; rintro e w' ⟨rfl, rfl⟩))
    go_region
    go_wp2
    go_ret
    simp only [hexd_at]
    exact ⟨_, rfl, Own.lit _ _ [61, _, _] 3 rfl (Nat.le_refl _) (by decide), ((Below.refl _ _).alloc (Nat.le_refl _) _).drew⟩
  · have h2 : isBlank c = false := by simpa using h2
    clear h
    go_enter Tryz.func28, Tryz.ntmps28
    go_wp2_with (first | (go_at_call 40; refine (isLetter_any _ _).mono ?_; rintro e w' ⟨rfl, rfl⟩) | (go_at_call 41; refine (isBlank_any _ _).mono ?_; rintro e w' ⟨rfl, rfl⟩))
    go_region
    go_wp2
    go_ret
    simp only [hexd_at]
    exact ⟨_, rfl, Own.lit _ _ [61, _, _] 3 rfl (Nat.le_refl _) (by decide), ((Below.refl _ _).alloc (Nat.le_refl _) _).drew⟩

theorem quoted_any (c : UInt8) (last : Bool) (w : World) :
    Calls Tryz.prog 28 #[.int .u8 (c.toNat : Int), .bool last] w fun e w' => ∃ v, e = .returned v ∧ Own w' w.heap.size v (quotedL c last) ∧ Below w.heap.size w w' := by
  unfold quotedL
  cases h : (isLetter c || (isBlank c && !last))
  · exact quoted_code c last w h
  · exact quoted_plain c last w h

/-- The first k letters in lines. -/
def inLinesTo (l : List UInt8) : Nat → List UInt8
  | 0 => []
  | k + 1 => inLinesTo l k ++ [l.getD k 0] ++ if (k + 1) % 76 = 0 ∨ k + 1 = l.length then [13, 10] else []

theorem inLinesTo_length (l : List UInt8) (k : Nat) : (inLinesTo l k).length ≤ 3 * k := by
  induction k with
  | zero => simp [inLinesTo]
  | succ k ih => simp only [inLinesTo, List.length_append, List.length_cons, List.length_nil]; split <;> simp <;> omega

theorem inLinesTo_cut (l : List UInt8) (k : Nat) (h : (k + 1) % 76 = 0 ∨ k + 1 = l.length) : inLinesTo l (k + 1) = inLinesTo l k ++ [l.getD k 0] ++ [13, 10] := by rw [inLinesTo, if_pos h]
theorem inLinesTo_on (l : List UInt8) (k : Nat) (h : ¬ ((k + 1) % 76 = 0 ∨ k + 1 = l.length)) : inLinesTo l (k + 1) = inLinesTo l k ++ [l.getD k 0] := by rw [inLinesTo, if_neg h, List.append_nil]

set_option maxHeartbeats 400000 in
theorem inLines_some (l : List UInt8) (g cap : Nat) (w : World) (hl : l.length ≤ 100000) (hg : g < w.heap.size) (hc : ∀ k (hk : k < l.length), w.cell? ⟨g, k, none⟩ = some (.int .u8 (l[k].toNat : Int))) :
    Calls Tryz.prog 27 #[.slice (some ⟨g, 0, none⟩) l.length cap] w fun e w' => e = .returned (.string ⟨(inLinesTo l l.length).toArray⟩) ∧ Below w.heap.size w w' := by
  go_enter Tryz.func27, Tryz.ntmps27
  go_wp2
  go_loopw [3, 7] (fun v i wr => ∃ k : Nat, k ≤ l.length ∧ i = .int .i64 k ∧ Own wr w.heap.size v (inLinesTo l k) ∧ Below w.heap.size w wr) (fun _ i _ => l.length - (intOf i).toNat)
  case atStart => exact ⟨0, Nat.zero_le _, rfl, Own.nil _ _, Below.refl _ _⟩
  case round =>
    obtain ⟨k, hk, rfl, hown, hb⟩ := hrel
    by_cases hlt : k < l.length
    · have hcx : wr.cell? ⟨g, k, none⟩ = some (.int .u8 (l[k].toNat : Int)) := (hb.cell (p := ⟨g, k, none⟩) hg).trans (hc k hlt)
      have hlen := inLinesTo_length l k
      have hsz := hb.size
      have hgd : l.getD k 0 = l[k] := by simp [hlt]
      have HG : Hid (l.getD k 0 = l[k]) := hgd
      clear hgd
      by_cases hcut : (k + 1) % 76 = 0 ∨ k + 1 = l.length
      · have HE : Hid (inLinesTo l (k + 1) = inLinesTo l k ++ [l[k]] ++ [13, 10]) := by show _ = _; rw [inLinesTo_cut l k hcut, HG.out]
        by_cases h76 : (k + 1) % 76 = 0
        · have n1 : (((k : Int) + 1) % 76 == 0) = true := by rw [beq_iff_eq]; omega
          clear hcut h76
          go_wp2_with (first | (at_builtin; refine wp_app1 wr w _ rfl (.tmp 10) (.tmp 15) rfl w.heap.size _ (inLinesTo l k) rfl hown rfl l[k] rfl (by omega) hsz hb ?_; intro v' w1 hown1 hb1) | (at_builtin; refine wp_appS _ w rfl (.tmp 28) _ rfl w.heap.size _ _ rfl hown1 ⟨#[13, 10]⟩ rfl (by simp [ByteArray.size]; omega) hb1.size hb1 ?_; intro v2 w2 hown2 hb2))
          go_roundw
          case rel => exact ⟨k + 1, by omega, by go_num, by rw [HE.out]; exact hown2, hb2⟩
          case measure => simp [intOf]; omega
        · have n1 : (((k : Int) + 1) % 76 == 0) = false := by rw [beq_eq_false_iff_ne]; omega
          have n2 : ((k : Int) + 1 == (l.length : Int)) = true := by rw [beq_iff_eq]; omega
          clear hcut h76
          go_wp2_with (first | (at_builtin; refine wp_app1 wr w _ rfl (.tmp 10) (.tmp 15) rfl w.heap.size _ (inLinesTo l k) rfl hown rfl l[k] rfl (by omega) hsz hb ?_; intro v' w1 hown1 hb1) | (at_builtin; refine wp_appS _ w rfl (.tmp 28) _ rfl w.heap.size _ _ rfl hown1 ⟨#[13, 10]⟩ rfl (by simp [ByteArray.size]; omega) hb1.size hb1 ?_; intro v2 w2 hown2 hb2))
          go_roundw
          case rel => exact ⟨k + 1, by omega, by go_num, by rw [HE.out]; exact hown2, hb2⟩
          case measure => simp [intOf]; omega
      · have HE : Hid (inLinesTo l (k + 1) = inLinesTo l k ++ [l[k]]) := by show _ = _; rw [inLinesTo_on l k hcut, HG.out]
        have n1 : (((k : Int) + 1) % 76 == 0) = false := by rw [beq_eq_false_iff_ne]; omega
        have n2 : ((k : Int) + 1 == (l.length : Int)) = false := by rw [beq_eq_false_iff_ne]; omega
        clear hcut
        go_wp2_with (first | (at_builtin; refine wp_app1 wr w _ rfl (.tmp 10) (.tmp 15) rfl w.heap.size _ (inLinesTo l k) rfl hown rfl l[k] rfl (by omega) hsz hb ?_; intro v' w1 hown1 hb1))
        go_roundw
        case rel => exact ⟨k + 1, by omega, by go_num, by rw [HE.out]; exact hown1, hb1⟩
        case measure => simp [intOf]; omega
    · have : k = l.length := by omega
      subst this
      have hcv := hown.string
      go_wp2
      go_ret
      exact ⟨rfl, hb⟩

end Go.Proofs.YtkgpmahlkglaaaaGreatDoor
