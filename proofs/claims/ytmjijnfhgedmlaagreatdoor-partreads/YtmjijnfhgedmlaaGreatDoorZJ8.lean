import Derived.Test.YtmjijnfhgedmlaaGreatDoorZ13
import Derived.Test.YtmjijnfhgedmlaaGreatDoorZShelfK
import Derived.Lib.CountLaws
import Derived.Lib.SplitLaws
namespace Go.Proofs.YtmjijnfhgedmlaaGreatDoor
open Go.RowKit

theorem tok_slash (l : List UInt8) (h : 47 ∈ l) : tokS l = false := by
  refine tokS_false l ?_
  rw [List.all_eq_false]
  exact ⟨47, h, by decide⟩
def slash : ByteArray := ⟨#[47]⟩
theorem main_cases (s : ByteArray) : (Lib.countB s slash = 0 ∧ Lib.splitB slash 0 0 s = [s] ∧ isMainS s.data.toList = tokS s.data.toList) ∨
    (∃ a b : ByteArray, Lib.countB s slash = 1 ∧ Lib.splitB slash 0 1 s = [a, b] ∧ isMainS s.data.toList = (tokS a.data.toList && tokS b.data.toList) ∧ a.size ≤ s.size ∧ b.size ≤ s.size) ∨
    (2 ≤ Lib.countB s slash ∧ isMainS s.data.toList = false) := by
  have hix : Lib.indexB s slash = Lib.indexByte s.data.toList 47 := index_one s.data.toList 47
  rcases byte_while s.data.toList 47 with ⟨h1, h2, h3⟩ | ⟨h1, r, h2⟩
  · refine .inl ⟨Lib.countB_miss s slash (hix.trans h1), rfl, ?_⟩
    unfold isMainS
    rw [h2, h3]
    simp
  · right
    have hc := Lib.countB_hit s slash (s.data.toList.takeWhile (· != 47)).length (by decide) (hix.trans h1)
    have hw := while_take (p := (· != 47)) s
    have e := List.takeWhile_append_dropWhile (p := (· != 47)) (l := s.data.toList)
    have hrest : (s.extract ((s.data.toList.takeWhile (· != 47)).length + 1) s.size).data.toList = r := by
      have h3 := hw.2
      rw [extract_list, List.take_of_length_le (by rw [List.length_drop, size_list]; exact Nat.le_refl _)] at h3 ⊢
      rw [← List.drop_drop, h3, h2]; rfl
    have hM : isMainS s.data.toList = (tokS (s.data.toList.takeWhile (· != 47)) && tokS r) := by
      unfold isMainS
      rw [h2]; simp
    have hs1 : slash.size = 1 := rfl
    rw [hs1] at hc
    by_cases h0 : Lib.countB (s.extract ((s.data.toList.takeWhile (· != 47)).length + 1) s.size) slash = 0
    · rw [h0] at hc
      refine .inl ⟨s.extract 0 (s.data.toList.takeWhile (· != 47)).length, s.extract ((s.data.toList.takeWhile (· != 47)).length + 1) s.size, hc, ?_, ?_, ?_, ?_⟩
      · rw [Lib.splitB_hit slash 0 0 s (s.data.toList.takeWhile (· != 47)).length (hix.trans h1), Lib.splitB_zero, hs1]
        rfl
      · rw [hw.1, hrest, hM]
      · rw [ByteArray.size_extract]; omega
      · rw [ByteArray.size_extract]; omega
    · refine .inr ⟨by omega, ?_⟩
      have hin : 47 ∈ r := by
        have hix2 : Lib.indexB (s.extract ((s.data.toList.takeWhile (· != 47)).length + 1) s.size) slash = Lib.indexByte (s.extract ((s.data.toList.takeWhile (· != 47)).length + 1) s.size).data.toList 47 := index_one _ 47
        rw [hrest] at hix2
        rcases byte_while r 47 with ⟨g1, _, _⟩ | ⟨_, r', g2⟩
        · exact absurd (Lib.countB_miss _ slash (hix2.trans g1)) h0
        · have := List.takeWhile_append_dropWhile (p := (· != 47)) (l := r)
          rw [g2] at this
          rw [← this]
          simp
      rw [hM, tok_slash r hin, Bool.and_false]

set_option maxHeartbeats 800000 in
set_option maxRecDepth 100000 in
theorem rmain_any (s : ByteArray) (w : World) (hs : s.size ≤ 1000000) (hm : Max w) :
    Calls Tryz.prog 110 #[.string s] w fun e w' => e = .returned (.bool (isMainS s.data.toList)) ∧ Below w.heap.size w w' := by
  obtain ⟨R, HR⟩ : ∃ R, Box (R = isMainS s.data.toList) := ⟨_, ⟨rfl⟩⟩
  rw [← HR.out]
  obtain ⟨_, x, hx⟩ := hm
  have hsp := Tryz.strings_Split s slash x w (by omega) hx (by decide)
  have hcnt := Lib.countB_le slash (by decide) _ s (Nat.le_refl _)
  rcases main_cases s with ⟨h1, h2, h3⟩ | ⟨a, b, h1, h2, h3, h4, h5⟩ | ⟨h1, h3⟩
  · rw [h1, h2] at hsp
    have HE : Box (R = tokS s.data.toList) := ⟨by rw [HR.out, h3]⟩
    clear HR h1 h2 h3 hcnt
    cases ht : tokS s.data.toList
    · have HT : Calls Tryz.prog 115 #[.string s] (w.alloc (.cells #[.string s] 9)) fun e w' => e = .returned (.bool false) ∧ w' = (w.alloc (.cells #[.string s] 9)) := by
        rw [← ht]; exact rToken_any s _ hs
      rw [ht] at HE
      clear ht
      go_enter Tryz.func110, Tryz.ntmps110
      go_wp2_with fail
      refine hsp.mono ?_
      rintro e w1 ⟨rfl, rfl⟩
      go_wp2_with fail
      refine HT.mono ?_
      rintro e w1 ⟨rfl, rfl⟩
      go_wp2
      go_ret
      exact ⟨ret_bool HE.out.symm, (Below.refl _ _).alloc (Nat.le_refl _) _⟩
    · have HT : Calls Tryz.prog 115 #[.string s] (w.alloc (.cells #[.string s] 9)) fun e w' => e = .returned (.bool true) ∧ w' = (w.alloc (.cells #[.string s] 9)) := by
        rw [← ht]; exact rToken_any s _ hs
      rw [ht] at HE
      clear ht
      go_enter Tryz.func110, Tryz.ntmps110
      go_wp2_with fail
      refine hsp.mono ?_
      rintro e w1 ⟨rfl, rfl⟩
      go_wp2_with fail
      refine HT.mono ?_
      rintro e w1 ⟨rfl, rfl⟩
      go_wp2_with fail
      refine HT.mono ?_
      rintro e w1 ⟨rfl, rfl⟩
      go_wp2
      go_ret
      exact ⟨ret_bool HE.out.symm, (Below.refl _ _).alloc (Nat.le_refl _) _⟩
  · rw [h1, h2] at hsp
    have HE : Box (R = (tokS a.data.toList && tokS b.data.toList)) := ⟨by rw [HR.out, h3]⟩
    clear HR h1 h2 h3 hcnt
    cases ht : tokS a.data.toList
    · have HT : Calls Tryz.prog 115 #[.string a] (w.alloc (.cells #[.string a, .string b] 9)) fun e w' => e = .returned (.bool false) ∧ w' = (w.alloc (.cells #[.string a, .string b] 9)) := by
        rw [← ht]; exact rToken_any a _ (by omega)
      have HE' : Box (R = false) := ⟨by rw [HE.out, ht]; rfl⟩
      clear ht HE
      go_enter Tryz.func110, Tryz.ntmps110
      go_wp2_with fail
      refine hsp.mono ?_
      rintro e w1 ⟨rfl, rfl⟩
      go_wp2_with fail
      refine HT.mono ?_
      rintro e w1 ⟨rfl, rfl⟩
      go_wp2
      go_ret
      exact ⟨ret_bool HE'.out.symm, (Below.refl _ _).alloc (Nat.le_refl _) _⟩
    · have HT : Calls Tryz.prog 115 #[.string a] (w.alloc (.cells #[.string a, .string b] 9)) fun e w' => e = .returned (.bool true) ∧ w' = (w.alloc (.cells #[.string a, .string b] 9)) := by
        rw [← ht]; exact rToken_any a _ (by omega)
      have HE' : Box (R = tokS b.data.toList) := ⟨by rw [HE.out, ht]; rfl⟩
      clear ht HE
      go_enter Tryz.func110, Tryz.ntmps110
      go_wp2_with fail
      refine hsp.mono ?_
      rintro e w1 ⟨rfl, rfl⟩
      go_wp2_with fail
      refine HT.mono ?_
      rintro e w1 ⟨rfl, rfl⟩
      go_wp2_with fail
      refine (rToken_any b _ (by omega)).mono ?_
      rintro e w1 ⟨rfl, rfl⟩
      go_wp2
      go_ret
      exact ⟨ret_bool HE'.out.symm, (Below.refl _ _).alloc (Nat.le_refl _) _⟩
  · have HE : Box (R = false) := ⟨by rw [HR.out, h3]⟩
    have h2 : ¬ ((Lib.countB s slash : Int) + 1 ≤ 2) := by omega
    clear HR h3
    generalize Lib.countB s slash = c at hsp h1 h2 hcnt
    go_enter Tryz.func110, Tryz.ntmps110
    go_wp2_with fail
    refine hsp.mono ?_
    rintro e w1 ⟨rfl, rfl⟩
    go_wp2
    go_ret
    exact ⟨ret_bool HE.out.symm, (Below.refl _ _).alloc (Nat.le_refl _) _⟩

end Go.Proofs.YtmjijnfhgedmlaaGreatDoor
