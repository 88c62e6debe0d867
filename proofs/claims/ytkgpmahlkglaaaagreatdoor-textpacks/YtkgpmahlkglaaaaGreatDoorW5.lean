import Derived.Test.YtkgpmahlkglaaaaGreatDoorW4
import Derived.Test.YtkgpmahlkglaaaaGreatDoorShelf
namespace Go.Proofs.YtkgpmahlkglaaaaGreatDoor
open Go.RowKit

def isSkip (c : UInt8) : Bool := c == 13 || c == 10 || c == 32 || c == 9
theorem skip_index (c : UInt8) : (Lib.indexByte [13, 10, 32, 9] c < 0) ↔ isSkip c = false := by
  simp only [Lib.indexByte, isSkip]
  by_cases h1 : c = 13
  · subst h1; simp
  by_cases h2 : c = 10
  · subst h2; simp
  by_cases h3 : c = 32
  · subst h3; simp
  by_cases h4 : c = 9
  · subst h4; simp
  have e1 : ((13 : UInt8) == c) = false := by rw [beq_eq_false_iff_ne]; exact fun h => h1 h.symm
  have e2 : ((10 : UInt8) == c) = false := by rw [beq_eq_false_iff_ne]; exact fun h => h2 h.symm
  have e3 : ((32 : UInt8) == c) = false := by rw [beq_eq_false_iff_ne]; exact fun h => h3 h.symm
  have e4 : ((9 : UInt8) == c) = false := by rw [beq_eq_false_iff_ne]; exact fun h => h4 h.symm
  simp [e1, e2, e3, e4, h1, h2, h3, h4]

theorem toU8 (c : UInt8) : ((c.toNat : Int)).toNat.toUInt8 = c := by simp

/-- Where a byte stands among the letters, the digits, what counts for nothing; below 0: nowhere. -/
def lettv (c : UInt8) : Int := Lib.indexByte letters c
def digv (c : UInt8) : Int := Lib.indexByte digits c
def skipv (c : UInt8) : Int := Lib.indexByte [13, 10, 32, 9] c

theorem idx_lett (z : Int) (c : UInt8) (hz : z = (c.toNat : Int)) (w : World) :
    Calls Tryz.prog 29 #[.string ⟨#[65, 66, 67, 68, 69, 70, 71, 72, 73, 74, 75, 76, 77, 78, 79, 80, 81, 82, 83, 84, 85, 86, 87, 88, 89, 90, 97, 98, 99, 100, 101, 102, 103, 104, 105, 106, 107, 108, 109, 110, 111, 112, 113, 114, 115, 116, 117, 118, 119, 120, 121, 122, 48, 49, 50, 51, 52, 53, 54, 55, 56, 57, 43, 47]⟩, .int .u8 z] w fun e w' => e = .returned (.int .i64 (lettv c)) ∧ w' = w := by
  subst hz
  refine (Tryz.strings_IndexByte _ _ _).mono ?_
  rintro e w' ⟨rfl, rfl⟩
  exact ⟨ret_int (by rw [toU8]; rfl), rfl⟩

theorem idx_dig (z : Int) (c : UInt8) (hz : z = (c.toNat : Int)) (w : World) :
    Calls Tryz.prog 29 #[.string ⟨#[48, 49, 50, 51, 52, 53, 54, 55, 56, 57, 65, 66, 67, 68, 69, 70]⟩, .int .u8 z] w fun e w' => e = .returned (.int .i64 (digv c)) ∧ w' = w := by
  subst hz
  refine (Tryz.strings_IndexByte _ _ _).mono ?_
  rintro e w' ⟨rfl, rfl⟩
  exact ⟨ret_int (by rw [toU8]; rfl), rfl⟩

theorem idx_skip (z : Int) (c : UInt8) (hz : z = (c.toNat : Int)) (w : World) :
    Calls Tryz.prog 29 #[.string ⟨#[13, 10, 32, 9]⟩, .int .u8 z] w fun e w' => e = .returned (.int .i64 (skipv c)) ∧ w' = w := by
  subst hz
  refine (Tryz.strings_IndexByte _ _ _).mono ?_
  rintro e w' ⟨rfl, rfl⟩
  exact ⟨ret_int (by rw [toU8]; rfl), rfl⟩

/-- What a digit is worth; below 0: none. -/
def hexv (c : UInt8) : Int := digv (if 97 ≤ c ∧ c ≤ 102 then c - 32 else c)

set_option maxHeartbeats 400000 in
set_option maxRecDepth 100000 in
theorem digit_any (c : UInt8) (w : World) :
    Calls Tryz.prog 39 #[.int .u8 (c.toNat : Int)] w fun e w' => e = .returned (.int .i64 (hexv c)) ∧ w' = w := by
  have hc : (c.toNat : Int) < 256 := by have := c.toNat_lt; omega
  by_cases h : 97 ≤ c ∧ c ≤ 102
  · have HV : Hid (hexv c = digv (c - 32)) := by show _ = _; unfold hexv; rw [if_pos h]
    have h1 : (97 : Int) ≤ (c.toNat : Int) := by have := UInt8.le_iff_toNat_le.1 h.1; simp at this; omega
    have h2 : (c.toNat : Int) ≤ 102 := by have := UInt8.le_iff_toNat_le.1 h.2; simp at this; omega
    have HB : Hid ((c.toNat : Int) - 32 = ((c - 32).toNat : Int)) := by
      show _ = _
      rw [UInt8.toNat_sub]
      simp
      omega
    clear h
    go_enter Tryz.func39, Tryz.ntmps39
    go_wp2_with (go_at_call 29; refine (idx_dig _ (c - 32) HB.out _).mono ?_; rintro e w' ⟨rfl, rfl⟩)
    go_ret
    exact ⟨ret_int HV.out.symm, rfl⟩
  · have HV : Hid (hexv c = digv c) := by show _ = _; unfold hexv; rw [if_neg h]
    by_cases h1 : (97 : Int) ≤ (c.toNat : Int)
    · have h2 : (102 : Int) < (c.toNat : Int) := by
        apply Int.not_le.1
        intro h2
        exact h ⟨UInt8.le_iff_toNat_le.2 (by simp; omega), UInt8.le_iff_toNat_le.2 (by simp; omega)⟩
      clear h
      go_enter Tryz.func39, Tryz.ntmps39
      go_wp2_with (go_at_call 29; refine (idx_dig _ c rfl _).mono ?_; rintro e w' ⟨rfl, rfl⟩)
      go_ret
      exact ⟨ret_int HV.out.symm, rfl⟩
    · clear h
      go_enter Tryz.func39, Tryz.ntmps39
      go_wp2_with (go_at_call 29; refine (idx_dig _ c rfl _).mono ?_; rintro e w' ⟨rfl, rfl⟩)
      go_ret
      exact ⟨ret_int HV.out.symm, rfl⟩

/-- What counts of a text. -/
def solidL (l : List UInt8) : List UInt8 := l.filter fun c => !isSkip c
theorem solidL_length (l : List UInt8) : (solidL l).length ≤ l.length := List.length_filter_le _ _
theorem solidL_snoc (l : List UInt8) (c : UInt8) : solidL (l ++ [c]) = solidL l ++ if isSkip c then [] else [c] := by
  unfold solidL
  rw [List.filter_append]
  cases h : isSkip c <;> simp [h]
theorem take_snoc (s : ByteArray) (k : Nat) (h : k < s.size) : s.data.toList.take (k + 1) = s.data.toList.take k ++ [s[k]] := by
  rw [List.take_succ_eq_append_getElem (by simpa using h)]; rfl
theorem size_list (s : ByteArray) : s.data.toList.length = s.size := by rw [Array.length_toList]; rfl

set_option maxHeartbeats 400000 in
theorem solid_any (s : ByteArray) (w : World) (hl : s.size ≤ 100000) :
    Calls Tryz.prog 14 #[.string s] w fun e w' => ∃ v, e = .returned v ∧ Own w' w.heap.size v (solidL s.data.toList) ∧ Below w.heap.size w w' := by
  go_enter Tryz.func14, Tryz.ntmps14
  go_wp2
  go_loopw [3, 7] (fun v i wr => ∃ k : Nat, k ≤ s.size ∧ i = .int .i64 k ∧ Own wr w.heap.size v (solidL (s.data.toList.take k)) ∧ Below w.heap.size w wr) (fun _ i _ => s.size - (intOf i).toNat)
  case atStart => exact ⟨0, Nat.zero_le _, rfl, Own.nil _ _, Below.refl _ _⟩
  case round =>
    obtain ⟨k, hk, rfl, hown, hb⟩ := hrel
    by_cases hlt : k < s.size
    · have hsz := hb.size
      have hlen : (solidL (s.data.toList.take k)).length ≤ k := Nat.le_trans (solidL_length _) (List.length_take_le _ _)
      have HT : Hid (solidL (s.data.toList.take (k + 1)) = solidL (s.data.toList.take k) ++ if isSkip s[k] then [] else [s[k]]) := by show _ = _; rw [take_snoc s k hlt, solidL_snoc]
      cases hs : isSkip s[k]
      · have hneg : skipv s[k] < 0 := (skip_index s[k]).2 hs
        have HT' : Hid (solidL (s.data.toList.take (k + 1)) = solidL (s.data.toList.take k) ++ [s[k]]) := by show _ = _; rw [HT.out, hs]; rfl
        clear hs HT
        go_wp2_with (first | (go_at_call 29; refine (idx_skip _ s[k] rfl _).mono ?_; rintro e w' ⟨rfl, rfl⟩) | (at_builtin; refine wp_app1 _ w _ rfl (.tmp 15) (.tmp 19) rfl w.heap.size _ _ rfl hown rfl s[k] rfl (by omega) hsz hb ?_; intro v' w1 hown1 hb1))
        go_roundw
        case rel => exact ⟨k + 1, by omega, by go_num, by rw [HT'.out]; exact hown1, hb1⟩
        case measure => simp [intOf]; omega
      · have hneg : ¬ skipv s[k] < 0 := fun h => by rw [(skip_index s[k]).1 h] at hs; cases hs
        have HT' : Hid (solidL (s.data.toList.take (k + 1)) = solidL (s.data.toList.take k)) := by show _ = _; rw [HT.out, hs]; simp
        clear hs HT
        go_wp2_with (go_at_call 29; refine (idx_skip _ s[k] rfl _).mono ?_; rintro e w' ⟨rfl, rfl⟩)
        go_roundw
        case rel => exact ⟨k + 1, by omega, by go_num, by rw [HT'.out]; exact hown, hb⟩
        case measure => simp [intOf]; omega
    · have : k = s.size := by omega
      subst this
      go_wp2
      go_ret
      exact ⟨_, rfl, by rw [List.take_of_length_le (by rw [size_list]; omega)] at hown; exact hown, hb⟩

end Go.Proofs.YtkgpmahlkglaaaaGreatDoor
