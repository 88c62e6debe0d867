import Derived.Test.YtpdfghmfhljfiaaDoorH1
namespace Go.Proofs.YtpdfghmfhljfiaaDoor
open Go.RowKit

theorem dropB_cons (c : UInt8) (l : List UInt8) (h : blk c = true) : dropB (c :: l) = dropB l := by simp [dropB, h]
theorem dropE_snoc (l : List UInt8) (c : UInt8) (h : blk c = true) : dropE (l ++ [c]) = dropE l := by
  unfold dropE
  rw [List.reverse_append]
  show (dropB (c :: l.reverse)).reverse = _
  rw [dropB_cons _ _ h]; rfl
theorem head_none (t : ByteArray) (h : t.size = 0) : t.data.toList.head?.all (fun c => !blk c) = true := by rw [data_nil t h]; rfl
theorem last_none (t : ByteArray) (h : t.size = 0) : t.data.toList.getLast?.all (fun c => !blk c) = true := by rw [data_nil t h]; rfl
theorem head_one (t : ByteArray) (h : 0 < t.size) (hb : blk t[0] = false) : t.data.toList.head?.all (fun c => !blk c) = true := by rw [head_split t h]; simp [hb]
theorem last_one (t : ByteArray) (h : 0 < t.size) (hb : blk t[t.size - 1] = false) : t.data.toList.getLast?.all (fun c => !blk c) = true := by
  have e2 : t.data.toList.getLast? = some t[t.size - 1] := by rw [last_split t h]; simp
  rw [e2]; simp [hb]

set_option maxHeartbeats 800000 in
theorem rTrim_any (s : ByteArray) (w : World) (hl : s.size ≤ 1000000) :
    Calls Tryd.prog 79 #[.string s] w fun e w' => ∃ t : ByteArray, e = .returned (.string t) ∧ t.data.toList = trimS s.data.toList ∧ w' = w := by
  go_enter Tryd.func79, Tryd.ntmps79
  go_wp2
  go_loop [0] (fun x => ∃ t : ByteArray, x = .string t ∧ t.size ≤ s.size ∧ Box (dropB t.data.toList = dropB s.data.toList)) (fun x => strSize x)
  case atStart => exact ⟨s, rfl, Nat.le_refl _, ⟨rfl⟩⟩
  case round =>
    obtain ⟨t, rfl, hts, HT⟩ := hrel
    by_cases hgo : ∃ h : 0 < t.size, blk t[0] = true
    · obtain ⟨hp, hb⟩ := hgo
      have he := nonempty_of t (by omega)
      have HT' : Box (dropB (t.extract 1 t.size).data.toList = dropB s.data.toList) := ⟨by rw [← HT.out, head_split t hp, dropB_cons _ _ hb]⟩
      have hsz : (t.extract 1 t.size).size = t.size - 1 := by simp [ByteArray.size_extract]
      clear HT
      go_wp2_with (go_at_call 71; refine (rBlank_any _ _).mono ?_; rintro e w' ⟨rfl, rfl⟩)
      go_round
      case rel => exact ⟨_, rfl, by omega, HT'⟩
      case measure => simp [strSize]; omega
    · have HD : Box (dropB s.data.toList = t.data.toList) := ⟨by
        rw [← HT.out]
        apply dropB_self
        by_cases h0 : t.size = 0
        · exact head_none t h0
        · exact head_one t (by omega) (by
            cases hb : blk t[0]
            · rfl
            · exact absurd ⟨by omega, hb⟩ hgo)⟩
      have hx : t.toList.isEmpty = true ∨ ∃ h : 0 < t.size, (t.toList.isEmpty = false ∧ blk t[0] = false) := by
        by_cases h0 : t.size = 0
        · exact .inl (empty_of t h0)
        · refine .inr ⟨by omega, nonempty_of t h0, ?_⟩
          cases hb : blk t[0]
          · rfl
          · exact absurd ⟨by omega, hb⟩ hgo
      clear hgo HT
      obtain ⟨t0, HS0⟩ : ∃ t0, Box (t0 = t) := ⟨t, ⟨rfl⟩⟩
      have key : Box (∀ u : ByteArray, dropE u.data.toList = u.data.toList → dropE u.data.toList = dropE t.data.toList → u.data.toList = trimS s.data.toList) := ⟨fun u h1 h2 => by
        unfold trimS
        rw [HD.out, ← h2, h1]⟩
      clear HD HS0
      rcases hx with he | ⟨hp, he, hb⟩
      all_goals
        go_wp2_with (go_at_call 71; refine (rBlank_any _ _).mono ?_; rintro e w' ⟨rfl, rfl⟩)
        go_loop [0] (fun x => ∃ u : ByteArray, x = .string u ∧ u.size ≤ t.size ∧ Box (dropE u.data.toList = dropE t.data.toList)) (fun x => strSize x)
        case atStart => exact ⟨t, rfl, Nat.le_refl _, ⟨rfl⟩⟩
        case round =>
          obtain ⟨u, rfl, hus, HU⟩ := hrel
          by_cases hgo : ∃ h : 0 < u.size, blk u[u.size - 1] = true
          · obtain ⟨hpu, hbu⟩ := hgo
            have heu := nonempty_of u (by omega)
            have HU' : Box (dropE (u.extract 0 (u.size - 1)).data.toList = dropE t.data.toList) := ⟨by rw [← HU.out, last_split u hpu, dropE_snoc _ _ hbu]⟩
            have hsz : (u.extract 0 (u.size - 1)).size = u.size - 1 := by simp [ByteArray.size_extract]
            clear HU
            go_wp2_with (go_at_call 71; refine (rBlank_any _ _).mono ?_; rintro e w' ⟨rfl, rfl⟩)
            go_round
            case rel => exact ⟨_, rfl, by omega, HU'⟩
            case measure => simp [strSize]; omega
          · have HD : Box (dropE u.data.toList = u.data.toList) := ⟨by
              apply dropE_self
              by_cases h0 : u.size = 0
              · exact last_none u h0
              · exact last_one u (by omega) (by
                  cases hb : blk u[u.size - 1]
                  · rfl
                  · exact absurd ⟨by omega, hb⟩ hgo)⟩
            have hx : u.toList.isEmpty = true ∨ ∃ h : 0 < u.size, (u.toList.isEmpty = false ∧ blk u[u.size - 1] = false) := by
              by_cases h0 : u.size = 0
              · exact .inl (empty_of u h0)
              · refine .inr ⟨by omega, nonempty_of u h0, ?_⟩
                cases hb : blk u[u.size - 1]
                · rfl
                · exact absurd ⟨by omega, hb⟩ hgo
            clear hgo
            have HE : Box (u.data.toList = trimS s.data.toList) := ⟨key.out u HD.out HU.out⟩
            clear HD HU key
            rcases hx with heu | ⟨hpu, heu, hbu⟩
            all_goals
              go_wp2_with (go_at_call 71; refine (rBlank_any _ _).mono ?_; rintro e w' ⟨rfl, rfl⟩)
              go_ret
              exact ⟨_, rfl, HE.out, rfl⟩

set_option maxHeartbeats 800000 in
theorem rSays_any (s : ByteArray) (w : World) (hl : s.size ≤ 1000000) :
    Calls Tryd.prog 78 #[.string s] w fun e w' => e = .returned (.bool (saysS s.data.toList)) ∧ w' = w := by
  go_enter Tryd.func78, Tryd.ntmps78
  go_wp2
  go_loop [6] (fun i => ∃ k : Nat, k ≤ s.size ∧ i = .int .i64 k ∧ Box ((s.data.toList.take k).all sayC = true)) (fun i => s.size - (intOf i).toNat)
  case atStart => exact ⟨0, Nat.zero_le _, rfl, ⟨rfl⟩⟩
  case round =>
    obtain ⟨k, hk, rfl, HA⟩ := hrel
    by_cases hlt : k < s.size
    · cases hc : sayC s[k]
      · have HF : Box (saysS s.data.toList = false) := ⟨says_false _ (all_stop s k hlt hc)⟩
        have hx := sayC_no _ hc
        clear hc HA
        rcases hx with ⟨x1, x2⟩ | ⟨x1, x2⟩
        all_goals
          go_wp2
          go_ret
          exact ⟨ret_bool HF.out.symm, rfl⟩
      · have HA' : Box ((s.data.toList.take (k + 1)).all sayC = true) := ⟨all_on s k hlt HA.out hc⟩
        have hx := sayC_yes _ hc
        clear hc HA
        rcases hx with ⟨x1, x2⟩ | ⟨x1, x2, x3⟩
        all_goals
          go_wp2
          go_round
          case rel => exact ⟨k + 1, by omega, by go_num, HA'⟩
          case measure => simp [intOf]; omega
    · have HF : Box (saysS s.data.toList = decide (trimS s.data.toList = s.data.toList)) := ⟨says_end _ (by rw [← take_all s k hlt]; exact HA.out)⟩
      clear HA
      go_wp2_with fail
      refine (rTrim_any s _ hl).mono ?_
      rintro e w' ⟨t, rfl, ht, rfl⟩
      have HT := Box.mk ht
      clear ht
      go_wp2
      go_ret
      refine ⟨ret_bool ?_, rfl⟩
      rw [HF.out, ← HT.out, Bool.eq_iff_iff, decide_eq_true_iff, ByteArray.toList_eq, ByteArray.toList_eq, beq_iff_eq]

end Go.Proofs.YtpdfghmfhljfiaaDoor
