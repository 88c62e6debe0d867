import Derived.Test.YtpdfghmfhljfiaaDoorA2
import Derived.Test.YtpdfghmfhljfiaaDoorShelfK
import Derived.Test.YtpdfghmfhljfiaaDoorShelfA
namespace Go.Proofs.YtpdfghmfhljfiaaDoor
open Go.RowKit

/- The small functions of package address. -/
theorem letC_no (c : UInt8) (h : letC c = false) : (c.toNat : Int) < 65 ∨ (90 < (c.toNat : Int) ∧ (c.toNat : Int) < 97) ∨ 122 < (c.toNat : Int) := by
  rw [letC_is] at h
  simp only [Bool.or_eq_false_iff, Bool.and_eq_false_iff, decide_eq_false_iff_not] at h
  omega
theorem letC_yes (c : UInt8) (h : letC c = true) : (65 ≤ (c.toNat : Int) ∧ (c.toNat : Int) ≤ 90) ∨ (97 ≤ (c.toNat : Int) ∧ (c.toNat : Int) ≤ 122) := by
  rw [letC_is] at h
  simp only [Bool.or_eq_true, Bool.and_eq_true, decide_eq_true_eq] at h
  omega
theorem digC_no (c : UInt8) (h : digC c = false) : (c.toNat : Int) < 48 ∨ 57 < (c.toNat : Int) := by
  simp only [digC, Bool.and_eq_false_iff, decide_eq_false_iff_not] at h
  omega
theorem digC_yes (c : UInt8) (h : digC c = true) : 48 ≤ (c.toNat : Int) ∧ (c.toNat : Int) ≤ 57 := by
  simp only [digC, Bool.and_eq_true, decide_eq_true_eq] at h
  omega
theorem isLetter_any (c : UInt8) (q : Bool) (hq : letC c = q) (w : World) : Calls Tryd.prog 145 #[.int .u8 (c.toNat : Int)] w fun e w' => e = .returned (.bool q) ∧ w' = w := by
  cases q
  · rcases letC_no c hq with h | ⟨h1, h2⟩ | h
    · have h3 : ¬ (65 : Int) ≤ (c.toNat : Int) := by omega
      have h4 : ¬ (97 : Int) ≤ (c.toNat : Int) := by omega
      clear hq h
      go_enter Tryd.func145, Tryd.ntmps145
      go_wp2
      go_ret
      exact ⟨rfl, rfl⟩
    · have h3 : (65 : Int) ≤ (c.toNat : Int) := by omega
      have h4 : ¬ (c.toNat : Int) ≤ 90 := by omega
      have h5 : ¬ (97 : Int) ≤ (c.toNat : Int) := by omega
      clear hq h1 h2
      go_enter Tryd.func145, Tryd.ntmps145
      go_wp2
      go_ret
      exact ⟨rfl, rfl⟩
    · have h3 : (65 : Int) ≤ (c.toNat : Int) := by omega
      have h4 : ¬ (c.toNat : Int) ≤ 90 := by omega
      have h5 : (97 : Int) ≤ (c.toNat : Int) := by omega
      have h6 : ¬ (c.toNat : Int) ≤ 122 := by omega
      clear hq h
      go_enter Tryd.func145, Tryd.ntmps145
      go_wp2
      go_ret
      exact ⟨rfl, rfl⟩
  · rcases letC_yes c hq with ⟨h1, h2⟩ | ⟨h1, h2⟩
    · clear hq
      go_enter Tryd.func145, Tryd.ntmps145
      go_wp2
      go_ret
      exact ⟨rfl, rfl⟩
    · have h3 : (65 : Int) ≤ (c.toNat : Int) := by omega
      have h4 : ¬ (c.toNat : Int) ≤ 90 := by omega
      clear hq
      go_enter Tryd.func145, Tryd.ntmps145
      go_wp2
      go_ret
      exact ⟨rfl, rfl⟩
theorem isDigit_any (c : UInt8) (q : Bool) (hq : digC c = q) (w : World) : Calls Tryd.prog 146 #[.int .u8 (c.toNat : Int)] w fun e w' => e = .returned (.bool q) ∧ w' = w := by
  cases q
  · rcases digC_no c hq with h | h
    · have h3 : ¬ (48 : Int) ≤ (c.toNat : Int) := by omega
      clear hq h
      go_enter Tryd.func146, Tryd.ntmps146
      go_wp2
      go_ret
      exact ⟨rfl, rfl⟩
    · have h3 : (48 : Int) ≤ (c.toNat : Int) := by omega
      have h4 : ¬ (c.toNat : Int) ≤ 57 := by omega
      clear hq h
      go_enter Tryd.func146, Tryd.ntmps146
      go_wp2
      go_ret
      exact ⟨rfl, rfl⟩
  · obtain ⟨h1, h2⟩ := digC_yes c hq
    clear hq
    go_enter Tryd.func146, Tryd.ntmps146
    go_wp2
    go_ret
    exact ⟨rfl, rfl⟩
theorem one_byte (s : ByteArray) (k : Nat) (h : k < s.size) : s.extract k (k + 1) = ⟨#[s[k]]⟩ := by
  apply bytes_eq
  rw [extract_list, Nat.add_sub_cancel_left, List.take_one, List.head?_drop, getL s k h]
  rfl
theorem plus_any (s : ByteArray) (k : Nat) (h : k < s.size) (q : Bool) (hq : plusC s[k] = q) (w : World) : Calls Tryd.prog 34 #[.string ⟨#[43, 45, 46]⟩, .string (s.extract k (k + 1))] w fun e w' => e = .returned (.bool q) ∧ w' = w := by
  rw [one_byte s k h]
  refine (Tryd.strings_Contains_one ⟨#[43, 45, 46]⟩ s[k] w).mono ?_
  rintro e w' ⟨rfl, rfl⟩
  exact ⟨ret_bool ((plus_index s[k]).trans hq), rfl⟩

theorem in33_yes (c : UInt8) (h : in33 c = true) : ¬ (c.toNat : Int) < 33 ∧ ¬ 126 < (c.toNat : Int) := by
  simp only [in33, Bool.and_eq_true, decide_eq_true_eq] at h
  omega
theorem in33_no (c : UInt8) (h : in33 c = false) : (c.toNat : Int) < 33 ∨ (¬ (c.toNat : Int) < 33 ∧ 126 < (c.toNat : Int)) := by
  simp only [in33, Bool.and_eq_false_iff, decide_eq_false_iff_not] at h
  omega

set_option maxHeartbeats 800000 in
theorem mayStand_any (s : ByteArray) (w : World) (hl : s.size ≤ 1000000) (q : Bool) (hq : s.data.toList.all in33 = q) :
    Calls Tryd.prog 107 #[.string s] w fun e w' => e = .returned (.bool q) ∧ w' = w := by
  have HQ := Box.mk hq
  clear hq
  go_enter Tryd.func107, Tryd.ntmps107
  go_wp2
  go_loop [6] (fun i => ∃ k : Nat, k ≤ s.size ∧ i = .int .i64 k ∧ Box ((s.data.toList.take k).all in33 = true)) (fun i => s.size - (intOf i).toNat)
  case atStart => exact ⟨0, Nat.zero_le _, rfl, ⟨rfl⟩⟩
  case round =>
    obtain ⟨k, hk, rfl, HA⟩ := hrel
    by_cases hlt : k < s.size
    · cases hc : in33 s[k]
      · have HF : Box (q = false) := ⟨by rw [← HQ.out]; exact all_stop s k hlt hc⟩
        have hx := in33_no _ hc
        clear hc HA HQ
        rcases hx with x1 | ⟨x1, x2⟩
        all_goals
          go_wp2
          go_ret
          exact ⟨ret_bool HF.out.symm, rfl⟩
      · have HA' : Box ((s.data.toList.take (k + 1)).all in33 = true) := ⟨all_on s k hlt HA.out hc⟩
        obtain ⟨x1, x2⟩ := in33_yes _ hc
        clear hc HA HQ
        go_wp2
        go_round
        case rel => exact ⟨k + 1, by omega, by go_num, HA'⟩
        case measure => simp [intOf]; omega
    · have HF : Box (q = true) := ⟨by rw [← HQ.out, ← take_all s k hlt]; exact HA.out⟩
      clear HA HQ
      go_wp2
      go_ret
      exact ⟨ret_bool HF.out.symm, rfl⟩

set_option maxHeartbeats 1600000 in
theorem isScheme_any (s : ByteArray) (w : World) (hl : s.size ≤ 1000000) (q : Bool) (hq : schS s.data.toList = q) :
    Calls Tryd.prog 108 #[.string s] w fun e w' => e = .returned (.bool q) ∧ w' = w := by
  have HQ := Box.mk hq
  clear hq
  by_cases h0 : s.size = 0
  · have HF : Box (q = false) := ⟨by rw [← HQ.out, data_nil s h0]; rfl⟩
    have he := empty_of s h0
    clear HQ
    go_enter Tryd.func108, Tryd.ntmps108
    go_wp2
    go_ret
    exact ⟨ret_bool HF.out.symm, rfl⟩
  · have he := nonempty_of s h0
    have hp : 0 < s.size := by omega
    have HS : Box (q = (letC s[0] && s.data.toList.all schC)) := ⟨by rw [← HQ.out, head_split s hp, schS_cons]⟩
    clear HQ
    cases hc0 : letC s[0]
    · have HF : Box (q = false) := ⟨by rw [HS.out, hc0]; rfl⟩
      clear HS
      go_enter Tryd.func108, Tryd.ntmps108
      go_wp2_with fail
      refine (isLetter_any s[0] false hc0 _).mono ?_
      rintro e w1 ⟨rfl, rfl⟩
      go_wp2
      go_ret
      exact ⟨ret_bool HF.out.symm, rfl⟩
    · have HF : Box (q = s.data.toList.all schC) := ⟨by rw [HS.out, hc0]; rfl⟩
      clear HS
      go_enter Tryd.func108, Tryd.ntmps108
      go_wp2_with fail
      refine (isLetter_any s[0] true hc0 _).mono ?_
      rintro e w1 ⟨rfl, rfl⟩
      go_wp2
      go_loop [14] (fun i => ∃ k : Nat, k ≤ s.size ∧ i = .int .i64 k ∧ Box ((s.data.toList.take k).all schC = true)) (fun i => s.size - (intOf i).toNat)
      case atStart => exact ⟨0, Nat.zero_le _, rfl, ⟨rfl⟩⟩
      case round =>
        obtain ⟨k, hk, rfl, HA⟩ := hrel
        by_cases hlt : k < s.size
        · have HC := Box.mk (schC_is s[k])
          cases hc : letC s[k]
          · cases hd : digC s[k]
            · cases hp : plusC s[k]
              · have HE : Box (q = false) := ⟨by rw [HF.out]; exact all_stop s k hlt (by rw [HC.out, hc, hd, hp]; rfl)⟩
                clear HC HF HA
                go_wp2_with fail
                refine (isLetter_any s[k] false hc _).mono ?_
                rintro e w1 ⟨rfl, rfl⟩
                go_wp2_with fail
                refine (isDigit_any s[k] false hd _).mono ?_
                rintro e w1 ⟨rfl, rfl⟩
                go_wp2_with fail
                refine (plus_any s k hlt false hp _).mono ?_
                rintro e w1 ⟨rfl, rfl⟩
                go_wp2
                go_ret
                exact ⟨ret_bool HE.out.symm, rfl⟩
              · have HA' : Box ((s.data.toList.take (k + 1)).all schC = true) := ⟨all_on s k hlt HA.out (by rw [HC.out, hc, hd, hp]; rfl)⟩
                clear HC HF HA
                go_wp2_with fail
                refine (isLetter_any s[k] false hc _).mono ?_
                rintro e w1 ⟨rfl, rfl⟩
                go_wp2_with fail
                refine (isDigit_any s[k] false hd _).mono ?_
                rintro e w1 ⟨rfl, rfl⟩
                go_wp2_with fail
                refine (plus_any s k hlt true hp _).mono ?_
                rintro e w1 ⟨rfl, rfl⟩
                go_wp2
                go_round
                case rel => exact ⟨k + 1, by omega, by go_num, HA'⟩
                case measure => simp [intOf]; omega
            · have HA' : Box ((s.data.toList.take (k + 1)).all schC = true) := ⟨all_on s k hlt HA.out (by rw [HC.out, hc, hd]; rfl)⟩
              clear HC HF HA
              go_wp2_with fail
              refine (isLetter_any s[k] false hc _).mono ?_
              rintro e w1 ⟨rfl, rfl⟩
              go_wp2_with fail
              refine (isDigit_any s[k] true hd _).mono ?_
              rintro e w1 ⟨rfl, rfl⟩
              go_wp2
              go_round
              case rel => exact ⟨k + 1, by omega, by go_num, HA'⟩
              case measure => simp [intOf]; omega
          · have HA' : Box ((s.data.toList.take (k + 1)).all schC = true) := ⟨all_on s k hlt HA.out (by rw [HC.out, hc]; rfl)⟩
            clear HC HF HA
            go_wp2_with fail
            refine (isLetter_any s[k] true hc _).mono ?_
            rintro e w1 ⟨rfl, rfl⟩
            go_wp2
            go_round
            case rel => exact ⟨k + 1, by omega, by go_num, HA'⟩
            case measure => simp [intOf]; omega
        · have HE : Box (q = true) := ⟨by rw [HF.out, ← take_all s k hlt]; exact HA.out⟩
          clear HA HF
          go_wp2
          go_ret
          exact ⟨ret_bool HE.out.symm, rfl⟩

end Go.Proofs.YtpdfghmfhljfiaaDoor
