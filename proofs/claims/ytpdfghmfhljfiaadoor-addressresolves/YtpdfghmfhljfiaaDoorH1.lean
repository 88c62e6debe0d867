import Derived.Test.YtpdfghmfhljfiaaDoorH0
namespace Go.Proofs.YtpdfghmfhljfiaaDoor
open Go.RowKit

set_option maxHeartbeats 400000 in
theorem hBlank_any (c : UInt8) (w : World) :
    Calls Tryd.prog 122 #[.int .u8 (c.toNat : Int)] w fun e w' => e = .returned (.bool (blk c)) ∧ w' = w := by
  have H : Hid (blk c = (((c.toNat : Int) == 32) || ((c.toNat : Int) == 9))) := by
    have e1 := u8eq c 32
    have e2 := u8eq c 9
    show _ = _
    unfold blk
    rw [← e1, ← e2]; rfl
  go_enter Tryd.func122, Tryd.ntmps122
  go_wp2
  all_goals
    go_ret
    exact ⟨ret_bool (by rw [H.out]; try simp [*]), rfl⟩

set_option maxHeartbeats 400000 in
theorem rBlank_any (c : UInt8) (w : World) :
    Calls Tryd.prog 71 #[.int .u8 (c.toNat : Int)] w fun e w' => e = .returned (.bool (blk c)) ∧ w' = w := by
  have H : Hid (blk c = (((c.toNat : Int) == 32) || ((c.toNat : Int) == 9))) := by
    have e1 := u8eq c 32
    have e2 := u8eq c 9
    show _ = _
    unfold blk
    rw [← e1, ← e2]; rfl
  go_enter Tryd.func71, Tryd.ntmps71
  go_wp2
  all_goals
    go_ret
    exact ⟨ret_bool (by rw [H.out]; try simp [*]), rfl⟩

theorem in_any (n a b : Int) (w : World) : Calls Tryd.prog 101 #[.int .i64 n, .int .i64 a, .int .i64 b] w fun e w' => e = .returned (.bool (decide (a ≤ n) && decide (n ≤ b))) ∧ w' = w := by
  go_enter Tryd.func101, Tryd.ntmps101
  go_wp2
  all_goals
    go_ret
    refine ⟨ret_bool ?_, rfl⟩
    simp [*] <;> omega
theorem in_yes (n a b : Int) (w : World) (h1 : a ≤ n) (h2 : n ≤ b) : Calls Tryd.prog 101 #[.int .i64 n, .int .i64 a, .int .i64 b] w fun e w' => e = .returned (.bool true) ∧ w' = w := by
  refine (in_any n a b w).mono ?_
  rintro e w' ⟨rfl, rfl⟩
  exact ⟨ret_bool (by simp [h1, h2]), rfl⟩
theorem in_no (n a b : Int) (w : World) (h : ¬ (a ≤ n ∧ n ≤ b)) : Calls Tryd.prog 101 #[.int .i64 n, .int .i64 a, .int .i64 b] w fun e w' => e = .returned (.bool false) ∧ w' = w := by
  refine (in_any n a b w).mono ?_
  rintro e w' ⟨rfl, rfl⟩
  refine ⟨ret_bool ?_, rfl⟩
  rw [Bool.eq_false_iff]
  simpa using h

theorem nameS_false (l : List UInt8) (h : l.all nameC = false) : nameS l = false := by unfold nameS; rw [h, Bool.and_false]
theorem nameS_end (s : ByteArray) (h : s.data.toList.all nameC = true) : nameS s.data.toList = !(s.toList.isEmpty) := by unfold nameS; rw [h, Bool.and_true, ByteArray.toList_eq]

set_option maxHeartbeats 800000 in
theorem isName_any (s : ByteArray) (w : World) (hl : s.size ≤ 1000000) :
    Calls Tryd.prog 74 #[.string s] w fun e w' => e = .returned (.bool (nameS s.data.toList)) ∧ w' = w := by
  go_enter Tryd.func74, Tryd.ntmps74
  go_wp2
  go_loop [6] (fun i => ∃ k : Nat, k ≤ s.size ∧ i = .int .i64 k ∧ Box ((s.data.toList.take k).all nameC = true)) (fun i => s.size - (intOf i).toNat)
  case atStart => exact ⟨0, Nat.zero_le _, rfl, ⟨rfl⟩⟩
  case round =>
    obtain ⟨k, hk, rfl, HA⟩ := hrel
    by_cases hlt : k < s.size
    · cases hc : nameC s[k]
      · have HF : Box (nameS s.data.toList = false) := ⟨nameS_false _ (all_stop s k hlt hc)⟩
        have hx := nameC_no _ hc
        clear hc HA
        rcases hx with x1 | ⟨x1, x2⟩ | ⟨x1, x2, x3⟩
        all_goals
          go_wp2
          go_ret
          exact ⟨ret_bool HF.out.symm, rfl⟩
      · have HA' : Box ((s.data.toList.take (k + 1)).all nameC = true) := ⟨all_on s k hlt HA.out hc⟩
        obtain ⟨x1, x2, x3⟩ := nameC_yes _ hc
        clear hc HA
        go_wp2
        go_round
        case rel => exact ⟨k + 1, by omega, by go_num, HA'⟩
        case measure => simp [intOf]; omega
    · have HF : Box (nameS s.data.toList = !(s.toList.isEmpty)) := ⟨nameS_end s (by rw [← take_all s k hlt]; exact HA.out)⟩
      clear HA
      go_wp2
      go_ret
      exact ⟨ret_bool HF.out.symm, rfl⟩

set_option maxHeartbeats 800000 in
theorem rName_any (s : ByteArray) (w : World) (hl : s.size ≤ 1000000) :
    Calls Tryd.prog 72 #[.string s] w fun e w' => e = .returned (.bool (nameS s.data.toList)) ∧ w' = w := by
  go_enter Tryd.func72, Tryd.ntmps72
  go_wp2
  go_loop [6] (fun i => ∃ k : Nat, k ≤ s.size ∧ i = .int .i64 k ∧ Box ((s.data.toList.take k).all nameC = true)) (fun i => s.size - (intOf i).toNat)
  case atStart => exact ⟨0, Nat.zero_le _, rfl, ⟨rfl⟩⟩
  case round =>
    obtain ⟨k, hk, rfl, HA⟩ := hrel
    by_cases hlt : k < s.size
    · have hbyte : (s[k].toNat : Int) < 256 := by have := s[k].toNat_lt; omega
      cases hc : nameC s[k]
      · have HF : Box (nameS s.data.toList = false) := ⟨nameS_false _ (all_stop s k hlt hc)⟩
        have hx := nameC_no _ hc
        clear hc HA
        rcases hx with x1 | ⟨x1, x2⟩ | ⟨x1, x2, x3⟩
        · go_wp2_with (go_at_call 101; refine (in_no _ _ _ _ (fun h => by omega)).mono ?_; rintro e w' ⟨rfl, rfl⟩)
          go_ret
          exact ⟨ret_bool HF.out.symm, rfl⟩
        · go_wp2_with (go_at_call 101; refine (in_no _ _ _ _ (fun h => by omega)).mono ?_; rintro e w' ⟨rfl, rfl⟩)
          go_ret
          exact ⟨ret_bool HF.out.symm, rfl⟩
        · go_wp2_with (go_at_call 101; refine (in_yes _ _ _ _ x1 x2).mono ?_; rintro e w' ⟨rfl, rfl⟩)
          go_ret
          exact ⟨ret_bool HF.out.symm, rfl⟩
      · have HA' : Box ((s.data.toList.take (k + 1)).all nameC = true) := ⟨all_on s k hlt HA.out hc⟩
        obtain ⟨x1, x2, x3⟩ := nameC_yes _ hc
        clear hc HA
        go_wp2_with (go_at_call 101; refine (in_yes _ _ _ _ x1 x2).mono ?_; rintro e w' ⟨rfl, rfl⟩)
        go_round
        case rel => exact ⟨k + 1, by omega, by go_num, HA'⟩
        case measure => simp [intOf]; omega
    · have HF : Box (nameS s.data.toList = !(s.toList.isEmpty)) := ⟨nameS_end s (by rw [← take_all s k hlt]; exact HA.out)⟩
      clear HA
      by_cases h0 : s.size = 0
      · have HE : Box (nameS s.data.toList = false) := ⟨by rw [HF.out, empty_of s h0]; rfl⟩
        have hz : ¬ (0 : Int) < (s.size : Int) := by omega
        go_wp2
        go_ret
        exact ⟨ret_bool (by rw [HE.out]), rfl⟩
      · have HE : Box (nameS s.data.toList = true) := ⟨by rw [HF.out, nonempty_of s h0]; rfl⟩
        have hz : (0 : Int) < (s.size : Int) := by omega
        go_wp2
        go_ret
        exact ⟨ret_bool (by rw [HE.out]; simp; omega), rfl⟩

theorem says_false (l : List UInt8) (h : l.all sayC = false) : saysS l = false := by unfold saysS; rw [h, Bool.false_and]
theorem says_end (l : List UInt8) (h : l.all sayC = true) : saysS l = decide (trimS l = l) := by unfold saysS; rw [h, Bool.true_and]
theorem says_ends (s : ByteArray) (h : s.data.toList.all sayC = true) (h0 : 0 < s.size) : saysS s.data.toList = (!blk s[0] && !blk s[s.size - 1]) := by
  rw [says_end _ h, Bool.eq_iff_iff, decide_eq_true_iff, trim_iff]
  have e1 : s.data.toList.head? = some s[0] := by rw [head_split s h0]; rfl
  have e2 : s.data.toList.getLast? = some s[s.size - 1] := by rw [last_split s h0]; simp
  rw [e1, e2]
  simp

set_option maxHeartbeats 800000 in
theorem maySay_any (s : ByteArray) (w : World) (hl : s.size ≤ 1000000) :
    Calls Tryd.prog 81 #[.string s] w fun e w' => e = .returned (.bool (saysS s.data.toList)) ∧ w' = w := by
  go_enter Tryd.func81, Tryd.ntmps81
  go_wp2
  go_loop [6] (fun i => ∃ k : Nat, k ≤ s.size ∧ i = .int .i64 k ∧ Box ((s.data.toList.take k).all sayC = true)) (fun i => s.size - (intOf i).toNat)
  case atStart => exact ⟨0, Nat.zero_le _, rfl, ⟨rfl⟩⟩
  case round =>
    obtain ⟨k, hk, rfl, HA⟩ := hrel
    by_cases hlt : k < s.size
    · cases hc : sayC s[k]
      · have HF : Box (saysS s.data.toList = false) := ⟨says_false _ (all_stop s k hlt hc)⟩
        have hx := sayC_no _ hc
        clear hc HA
        rcases hx with ⟨x1, x2⟩ | ⟨x1, x2⟩
        all_goals
          go_wp2
          go_ret
          exact ⟨ret_bool HF.out.symm, rfl⟩
      · have HA' : Box ((s.data.toList.take (k + 1)).all sayC = true) := ⟨all_on s k hlt HA.out hc⟩
        have hx := sayC_yes _ hc
        clear hc HA
        rcases hx with ⟨x1, x2⟩ | ⟨x1, x2, x3⟩
        all_goals
          go_wp2
          go_round
          case rel => exact ⟨k + 1, by omega, by go_num, HA'⟩
          case measure => simp [intOf]; omega
    · have HB : Box (s.data.toList.all sayC = true) := ⟨by rw [← take_all s k hlt]; exact HA.out⟩
      clear HA
      by_cases h0 : s.size = 0
      · have HF : Box (saysS s.data.toList = true) := ⟨by rw [data_nil s h0]; rfl⟩
        have he := empty_of s h0
        go_wp2
        go_ret
        exact ⟨ret_bool HF.out.symm, rfl⟩
      · have HF : Box (saysS s.data.toList = (!blk s[0] && !blk s[s.size - 1])) := ⟨says_ends s HB.out (by omega)⟩
        have he := nonempty_of s h0
        have hp : 0 < s.size := by omega
        clear HB
        cases hb0 : blk s[0]
        · cases hb1 : blk s[s.size - 1]
          · have HF' : Box (saysS s.data.toList = true) := ⟨by rw [HF.out, hb0, hb1]; rfl⟩
            clear HF
            go_wp2_with (go_at_call 122; refine (hBlank_any _ _).mono ?_; rintro e w' ⟨rfl, rfl⟩)
            go_ret
            exact ⟨ret_bool HF'.out.symm, rfl⟩
          · have HF' : Box (saysS s.data.toList = false) := ⟨by rw [HF.out, hb0, hb1]; rfl⟩
            clear HF
            go_wp2_with (go_at_call 122; refine (hBlank_any _ _).mono ?_; rintro e w' ⟨rfl, rfl⟩)
            go_ret
            exact ⟨ret_bool HF'.out.symm, rfl⟩
        · have HF' : Box (saysS s.data.toList = false) := ⟨by rw [HF.out, hb0]; rfl⟩
          clear HF
          go_wp2_with (go_at_call 122; refine (hBlank_any _ _).mono ?_; rintro e w' ⟨rfl, rfl⟩)
          go_ret
          exact ⟨ret_bool HF'.out.symm, rfl⟩

end Go.Proofs.YtpdfghmfhljfiaaDoor
