import Derived.Test.YtiecpbhikkcmjaaDoorJ1
namespace Go.Proofs.YtiecpbhikkcmjaaDoor
open Go.RowKit

theorem extract_one (s : ByteArray) (k : Nat) (h : k < s.size) : (s.extract k (k + 1)).data.toList = [s[k]] := by
  rw [extract_list, List.drop_eq_getElem_cons (by rw [size_list]; exact h)]
  simp
  rfl
theorem token1 (s : ByteArray) (k : Nat) (h : k < s.size) (q : Bool) (hq : tokC s[k] = q) (w : World) :
    Calls Tryd.prog 85 #[.string (s.extract k (k + 1))] w fun e w' => e = .returned (.bool q) ∧ w' = w := by
  refine (rToken_any _ w (by rw [← size_list, extract_one s k h]; simp)).mono ?_
  rintro e w' ⟨rfl, rfl⟩
  refine ⟨ret_bool ?_, rfl⟩
  rw [extract_one s k h, ← hq]
  simp [tokS]
theorem while_stop {p : UInt8 → Bool} (s : ByteArray) (k : Nat) (h : (s.data.toList.take k).all p = true) (hs : ∀ hk : k < s.size, p s[k] = false) : s.data.toList.takeWhile p = s.data.toList.take k ∧ s.data.toList.dropWhile p = s.data.toList.drop k := by
  have e : s.data.toList.take k ++ s.data.toList.drop k = s.data.toList := List.take_append_drop _ _
  have := takeWhile_app (p := p) (s.data.toList.take k) (s.data.toList.drop k) (List.all_eq_true.1 h) (by
    rw [List.head?_drop]
    by_cases hk : k < s.size
    · rw [getL s k hk]; simp [hs hk]
    · rw [List.getElem?_eq_none (by rw [size_list]; omega)]; rfl)
  rw [e] at this
  exact this

def TPost (T U : List UInt8) (b : Nat) (ok : Bool) (w : World) (e : Ending) (w' : World) : Prop :=
  ∃ t u, e = .returned (.string t) ∧ t.data.toList = T ∧ RS w' b u (ok && !T.isEmpty) ∧ u.data.toList = U ∧ w.grownBy w' (some b)
set_option maxHeartbeats 1600000 in
set_option maxRecDepth 100000 in
theorem rtoken_any (b : Nat) (s : ByteArray) (ok : Bool) (w : World) (h : RS w b s ok) (hl : s.size ≤ 1000000) :
    Calls Tryd.prog 80 #[.pointer (some ⟨b, 0, none⟩)] w fun e w' => TPost (s.data.toList.takeWhile tokC) (s.data.toList.dropWhile tokC) b ok w e w' := by
  obtain ⟨T, HT⟩ : ∃ T, Box (T = s.data.toList.takeWhile tokC) := ⟨_, ⟨rfl⟩⟩
  obtain ⟨U, HU⟩ : ∃ U, Box (U = s.data.toList.dropWhile tokC) := ⟨_, ⟨rfl⟩⟩
  rw [← HT.out, ← HU.out]
  obtain ⟨c0, c1, f0, f1, hb⟩ := h.cells
  have HR := Box.mk h
  clear h
  go_enter Tryd.func80, Tryd.ntmps80
  go_wp2
  go_loop [3] (fun i => ∃ k : Nat, k ≤ s.size ∧ i = .int .i64 k ∧ Box ((s.data.toList.take k).all tokC = true)) (fun i => s.size - (intOf i).toNat)
  case atStart => exact ⟨0, Nat.zero_le _, rfl, ⟨rfl⟩⟩
  case round =>
    obtain ⟨k, hk, rfl, HA⟩ := hrel
    by_cases hgo : ∃ h : k < s.size, tokC s[k] = true
    · obtain ⟨hlt, hc⟩ := hgo
      have HA' : Box ((s.data.toList.take (k + 1)).all tokC = true) := ⟨all_on s k hlt HA.out hc⟩
      have HC := Box.mk hc
      clear HA HT HU hc
      go_wp2_with (go_at_call 85; refine (token1 s k hlt _ HC.out _).mono ?_; rintro e w' ⟨rfl, rfl⟩)
      go_round
      case rel => exact ⟨k + 1, by omega, by go_num, HA'⟩
      case measure => simp [intOf]; omega
    · have hst : ∀ hk : k < s.size, tokC s[k] = false := fun hk => by
        cases hc : tokC s[k]
        · rfl
        · exact absurd ⟨hk, hc⟩ hgo
      obtain ⟨e1, e2⟩ := while_stop s k HA.out hst
      have HT' : Box ((s.extract 0 k).data.toList = T) := ⟨by rw [HT.out, e1, extract_list]; simp⟩
      have HU' : Box ((s.extract k s.size).data.toList = U) := ⟨by rw [HU.out, e2, extract_list, List.take_of_length_le (by rw [List.length_drop, size_list]; exact Nat.le_refl _)]⟩
      have HE : Box (T.isEmpty = decide (k = 0)) := ⟨by
        rw [HT.out, e1, Bool.eq_iff_iff, List.isEmpty_iff, decide_eq_true_iff]
        constructor
        · intro h
          have := congrArg List.length h
          rw [List.length_take, size_list, List.length_nil] at this
          omega
        · rintro rfl; rfl⟩
      clear HT HU e1 e2 HA hgo
      have HS := Box.mk (fun q => (HR.out.setO q).setS (s.extract k s.size))
      have HG : Box (∀ q : Bool, w.grownBy ((w.setCell ⟨b, 1, none⟩ (.bool q)).setCell ⟨b, 0, none⟩ (.string (s.extract k s.size))) (some b)) := ⟨fun q => (grown_set _ _ _ _).trans (grown_set _ _ _ _)⟩
      clear HR
      have HD : Box ((true && !decide (k = 0)) = decide (0 < k)) := ⟨by rw [Bool.true_and, Bool.eq_iff_iff]; simp; omega⟩
      by_cases hlt : k < s.size
      · have HC : Box (tokC s[k] = false) := ⟨hst hlt⟩
        clear hst
        cases ok
        · go_wp2_with (go_at_call 85; refine (token1 s k hlt _ HC.out _).mono ?_; rintro e w' ⟨rfl, rfl⟩)
          go_ret
          refine ⟨_, _, rfl, HT'.out, ?_, HU'.out, HG.out false⟩
          rw [Bool.false_and]
          exact HS.out false
        · go_wp2_with (go_at_call 85; refine (token1 s k hlt _ HC.out _).mono ?_; rintro e w' ⟨rfl, rfl⟩)
          go_ret
          refine ⟨_, _, rfl, HT'.out, ?_, HU'.out, HG.out (decide (0 < k))⟩
          rw [HE.out, HD.out]
          exact HS.out (decide (0 < k))
      · clear hst
        cases ok
        · go_wp2
          go_ret
          refine ⟨_, _, rfl, HT'.out, ?_, HU'.out, HG.out false⟩
          rw [Bool.false_and]
          exact HS.out false
        · go_wp2
          go_ret
          refine ⟨_, _, rfl, HT'.out, ?_, HU'.out, HG.out (decide (0 < k))⟩
          rw [HE.out, HD.out]
          exact HS.out (decide (0 < k))

/- What stands in quotes. -/
theorem quoted_nil : quotedS [] = none := by unfold quotedS; rfl
theorem quoted_end (r : List UInt8) : quotedS (34 :: r) = some ([], r) := by unfold quotedS; rw [if_pos rfl]
theorem quoted_esc1 (d : UInt8) (r : List UInt8) : quotedS (92 :: d :: r) = if inC d then (quotedS r).map fun q => (d :: q.1, q.2) else none := by
  conv => lhs; unfold quotedS
  rw [if_neg (by decide), if_pos rfl]
theorem quoted_esc0 : quotedS [92] = none := by
  unfold quotedS
  rw [if_neg (by decide), if_pos rfl]
theorem quoted_on (c : UInt8) (r : List UInt8) (h1 : c ≠ 34) (h2 : c ≠ 92) : quotedS (c :: r) = if inC c then (quotedS r).map fun q => (c :: q.1, q.2) else none := by
  conv => lhs; unfold quotedS
  rw [if_neg h1, if_neg h2]
theorem quoted_one (c : UInt8) (h1 : c ≠ 34) : quotedS [c] = none := by
  by_cases h2 : c = 92
  · rw [h2]; exact quoted_esc0
  · rw [quoted_on c [] h1 h2, quoted_nil]
    split <;> rfl
theorem map_map_q (Q : Option (List UInt8 × List UInt8)) (o : List UInt8) (d : UInt8) : (Q.map fun q => (d :: q.1, q.2)).map (fun q => (o ++ q.1, q.2)) = Q.map fun q => (o ++ [d] ++ q.1, q.2) := by
  cases Q with
  | none => rfl
  | some q => simp

def QPost (Q : Option (List UInt8 × List UInt8)) (b : Nat) (ok : Bool) (e : Ending) (w' : World) : Prop :=
  match Q with
  | some q => ∃ t u, e = .returned (.string t) ∧ t.data.toList = q.1 ∧ RS w' b u ok ∧ u.data.toList = q.2
  | none => e = .returned (.string ⟨#[]⟩) ∧ ∃ u, RS w' b u false ∧ u.size ≤ 1000000

theorem inC_yes (c : UInt8) (h : inC c = true) : 32 ≤ (c.toNat : Int) ∧ (c.toNat : Int) ≤ 126 := by
  simp only [inC, Bool.and_eq_true, decide_eq_true_eq] at h
  exact ⟨by omega, by omega⟩
theorem inC_no (c : UInt8) (h : inC c = false) : ¬ (32 ≤ (c.toNat : Int) ∧ (c.toNat : Int) ≤ 126) := by
  rintro ⟨h1, h2⟩
  rw [inC, decide_eq_true (by omega), decide_eq_true (by omega)] at h
  cases h

end Go.Proofs.YtiecpbhikkcmjaaDoor
