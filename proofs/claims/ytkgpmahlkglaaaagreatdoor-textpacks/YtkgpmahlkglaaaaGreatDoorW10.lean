import Derived.Test.YtkgpmahlkglaaaaGreatDoorW9
namespace Go.Proofs.YtkgpmahlkglaaaaGreatDoor
open Go.RowKit

/-- One byte more of a line: the bytes, what a = has so far, how many digits it waits for. -/
def uqStep (q : List UInt8 × Nat × Nat) (c : UInt8) : Option (List UInt8 × Nat × Nat) :=
  if q.2.2 = 2 then if hexv c < 0 then none else some (q.1, (hexv c).toNat, 1)
  else if q.2.2 = 1 then if hexv c < 0 then none else some (q.1 ++ [UInt8.ofNat (q.2.1 * 16 + (hexv c).toNat)], q.2.1 * 16 + (hexv c).toNat, 0)
  else if c = 61 then some (q.1, 0, 2)
  else if isLetter c || isBlank c then some (q.1 ++ [c], q.2.1, 0)
  else none

def uqAll (l : List UInt8) : Option (List UInt8 × Nat × Nat) := l.foldl (fun q c => q.bind fun q => uqStep q c) (some ([], 0, 0))

theorem uqAll_snoc (l : List UInt8) (c : UInt8) : uqAll (l ++ [c]) = (uqAll l).bind fun q => uqStep q c := by
  unfold uqAll; rw [List.foldl_append]; rfl

theorem uqAll_none (a b : List UInt8) (h : uqAll a = none) : uqAll (a ++ b) = none := by
  unfold uqAll at h ⊢
  rw [List.foldl_append, h]
  induction b with
  | nil => rfl
  | cons c b ih => exact ih

/-- The bytes that a line stands for. -/
def unquotedS (l : List UInt8) : Option (List UInt8) := (uqAll l).bind fun q => if q.2.2 = 0 then some q.1 else none

theorem uqStep_two (o : List UInt8) (V : Nat) (c : UInt8) : uqStep (o, V, 2) c = if hexv c < 0 then none else some (o, (hexv c).toNat, 1) := rfl
theorem uqStep_one (o : List UInt8) (V : Nat) (c : UInt8) : uqStep (o, V, 1) c = if hexv c < 0 then none else some (o ++ [UInt8.ofNat (V * 16 + (hexv c).toNat)], V * 16 + (hexv c).toNat, 0) := rfl
theorem uqStep_zero (o : List UInt8) (V : Nat) (c : UInt8) : uqStep (o, V, 0) c = if c = 61 then some (o, 0, 2) else if isLetter c || isBlank c then some (o ++ [c], V, 0) else none := rfl

theorem hexv_lt (c : UInt8) : hexv c < 16 := by
  have : hexv c < digits.length ∨ hexv c = -1 := indexByte_lt digits _
  have h : digits.length = 16 := rfl
  omega

theorem or_u8 (i : Nat) (a b : Int) (ha : 0 ≤ a) (hb : 0 ≤ b) (hm : a % (2 ^ i : Nat) = 0) (hb2 : b < (2 ^ i : Nat)) (h1 : a + b < 256) : bits .or .u8 a b = a + b := by
  obtain ⟨m, rfl⟩ := Int.eq_ofNat_of_zero_le ha
  obtain ⟨n, rfl⟩ := Int.eq_ofNat_of_zero_le hb
  have e := nat_join i m n (by omega) (by omega)
  rw [u8_or_nat m n (by omega) (by omega), e]
  omega

theorem eq61 (c : UInt8) (h : c = 61) : ((c.toNat : Int) == 61) = true := by subst h; rfl

theorem take_snocQ (l : List UInt8) (k : Nat) (c : UInt8) (h : l[k]? = some c) : l.take (k + 1) = l.take k ++ [c] := by
  obtain ⟨h1, h2⟩ := List.getElem?_eq_some_iff.1 h
  rw [take_snocL l k h1, h2]

theorem uq_stop (l : List UInt8) (k : Nat) (c : UInt8) (hlt : l[k]? = some c) {q : List UInt8 × Nat × Nat} (hJ : uqAll (l.take k) = some q) (h : uqStep q c = none) : unquotedS l = none := by
  have h1 : uqAll (l.take (k + 1)) = none := by rw [take_snocQ l k c hlt, uqAll_snoc, hJ]; exact h
  have h2 := uqAll_none (l.take (k + 1)) (l.drop (k + 1)) h1
  rw [List.take_append_drop] at h2
  unfold unquotedS
  rw [h2]; rfl

theorem uq_on (l : List UInt8) (k : Nat) (c : UInt8) (hlt : l[k]? = some c) {q r : List UInt8 × Nat × Nat} (hJ : uqAll (l.take k) = some q) (h : uqStep q c = some r) : uqAll (l.take (k + 1)) = some r := by
  rw [take_snocQ l k c hlt, uqAll_snoc, hJ]; exact h

theorem getL (s : ByteArray) (k : Nat) (h : k < s.size) : s.data.toList[k]? = some s[k] := by
  rw [List.getElem?_eq_getElem (by rw [size_list]; exact h)]; rfl

set_option maxHeartbeats 1600000 in
set_option maxRecDepth 100000 in
theorem unquoted_any (s : ByteArray) (w : World) (hl : s.size ≤ 100000) :
    Calls Tryz.prog 25 #[.string s] w fun e w' => ∃ v, e = .returned (.tuple #[v, .bool (unquotedS s.data.toList).isSome]) ∧ (∀ o, unquotedS s.data.toList = some o → Own w' w.heap.size v o) ∧ Below w.heap.size w w' := by
  go_enter Tryz.func25, Tryz.ntmps25
  go_wp2
  go_loopw [4, 5, 6, 12] (fun v x d i wr => ∃ (k V D : Nat) (o : List UInt8), k ≤ s.size ∧ i = .int .i64 k ∧ x = .int .u8 V ∧ d = .int .i64 D ∧ Own wr w.heap.size v o ∧ Below w.heap.size w wr ∧ o.length ≤ k ∧ ((D = 2 ∧ V = 0) ∨ (D = 1 ∧ V < 16) ∨ (D = 0 ∧ V < 256)) ∧ Hid (uqAll (s.data.toList.take k) = some (o, V, D))) (fun _ _ _ i _ => s.size - (intOf i).toNat)
  case atStart => exact ⟨0, 0, 0, [], Nat.zero_le _, rfl, rfl, rfl, Own.nil _ _, Below.refl _ _, Nat.zero_le _, by omega, rfl⟩
  case round =>
    obtain ⟨k, V, D, o, hk, rfl, rfl, rfl, hown, hb, ho, hD, HJ⟩ := hrel
    have hsz := hb.size
    by_cases hlt : k < s.size
    · have hbyte : (s[k].toNat : Int) < 256 := by have := s[k].toNat_lt; omega
      have HK : Hid (s.data.toList[k]? = some s[k]) := getL s k hlt
      have hv2 := hexv_lt s[k]
      rcases hD with ⟨hD, hV⟩ | ⟨hD, hV⟩ | ⟨hD, hV⟩
      · subst hD
        subst hV
        by_cases hv : hexv s[k] < 0
        · have HN : Hid (unquotedS s.data.toList = none) := uq_stop _ k _ HK.out HJ.out (by rw [uqStep_two, if_pos hv])
          go_wp2_with (first | (go_at_call 39; refine (digit_any s[k] _).mono ?_; rintro e w' ⟨rfl, rfl⟩))
          go_ret2
          refine ⟨.slice none 0 0, ?_, ?_, hb⟩
          · rw [HN.out]; rfl
          · intro q h; rw [HN.out] at h; cases h
        · have hv1 : 0 ≤ hexv s[k] := by omega
          have HE : Hid (uqAll (s.data.toList.take (k + 1)) = some (o, (hexv s[k]).toNat, 1)) := uq_on _ k _ HK.out HJ.out (by rw [uqStep_two, if_neg hv])
          have o1 : bits .or .u8 0 (hexv s[k]) = hexv s[k] := by simpa using or_u8 4 0 (hexv s[k]) (by omega) (by omega) (by omega) (by simpa using hv2) (by omega)
          go_wp2_with (first | (go_at_call 39; refine (digit_any s[k] _).mono ?_; rintro e w' ⟨rfl, rfl⟩))
          go_roundw
          case rel => exact ⟨k + 1, (hexv s[k]).toNat, 1, o, by omega, by go_num, by congr 1; omega, rfl, hown, hb, by omega, by omega, HE⟩
          case measure => simp [intOf]; omega
      · subst hD
        by_cases hv : hexv s[k] < 0
        · have HN : Hid (unquotedS s.data.toList = none) := uq_stop _ k _ HK.out HJ.out (by rw [uqStep_one, if_pos hv])
          go_wp2_with (first | (go_at_call 39; refine (digit_any s[k] _).mono ?_; rintro e w' ⟨rfl, rfl⟩))
          go_ret2
          refine ⟨.slice none 0 0, ?_, ?_, hb⟩
          · rw [HN.out]; rfl
          · intro q h; rw [HN.out] at h; cases h
        · have hv1 : 0 ≤ hexv s[k] := by omega
          have HE : Hid (uqAll (s.data.toList.take (k + 1)) = some (o ++ [UInt8.ofNat (V * 16 + (hexv s[k]).toNat)], V * 16 + (hexv s[k]).toNat, 0)) := uq_on _ k _ HK.out HJ.out (by rw [uqStep_one, if_neg hv])
          have o1 : bits .or .u8 ((V : Int) * 16) (hexv s[k]) = (V : Int) * 16 + hexv s[k] := or_u8 4 _ (hexv s[k]) (by omega) (by omega) (by omega) (by simpa using hv2) (by omega)
          have HU : Hid ((V : Int) * 16 + hexv s[k] = ((UInt8.ofNat (V * 16 + (hexv s[k]).toNat)).toNat : Int)) := ofNat_small _ _ (by omega) (by omega)
          go_wp2_with (first | (go_at_call 39; refine (digit_any s[k] _).mono ?_; rintro e w' ⟨rfl, rfl⟩) | (at_builtin; refine wp_app1 _ w _ rfl (.tmp 34) (.tmp 36) rfl w.heap.size _ o rfl hown rfl _ HU.out (by omega) hsz hb ?_; intro v' w1 hown1 hb1))
          go_roundw
          case rel => exact ⟨k + 1, V * 16 + (hexv s[k]).toNat, 0, _, by omega, by go_num, by congr 1; omega, rfl, hown1, hb1, by simp; omega, by omega, HE⟩
          case measure => simp [intOf]; omega
      · subst hD
        by_cases h61 : s[k] = 61
        · have HE : Hid (uqAll (s.data.toList.take (k + 1)) = some (o, 0, 2)) := uq_on _ k _ HK.out HJ.out (by rw [uqStep_zero, if_pos h61])
          have t1 := eq61 s[k] h61
          clear h61
          go_wp2_with fail
          go_roundw
          case rel => exact ⟨k + 1, 0, 2, o, by omega, by go_num, rfl, rfl, hown, hb, by omega, by omega, HE⟩
          case measure => simp [intOf]; omega
        · have t1 := ne61 s[k] h61
          cases hq : (isLetter s[k] || isBlank s[k])
          · have HN : Hid (unquotedS s.data.toList = none) := uq_stop _ k _ HK.out HJ.out (by rw [uqStep_zero, if_neg h61, hq]; rfl)
            have q1 : isLetter s[k] = false := by cases hh : isLetter s[k] <;> simp_all
            have q2 : isBlank s[k] = false := by cases hh : isBlank s[k] <;> simp_all
            clear hq h61
            go_wp2_with (first | (go_at_call 40; refine (isLetter_any _ _).mono ?_; rintro e w' ⟨rfl, rfl⟩) | (go_at_call 41; refine (isBlank_any _ _).mono ?_; rintro e w' ⟨rfl, rfl⟩))
            go_ret2
            refine ⟨.slice none 0 0, ?_, ?_, hb⟩
            · rw [HN.out]; rfl
            · intro q h; rw [HN.out] at h; cases h
          · have HE : Hid (uqAll (s.data.toList.take (k + 1)) = some (o ++ [s[k]], V, 0)) := uq_on _ k _ HK.out HJ.out (by rw [uqStep_zero, if_neg h61, hq]; rfl)
            cases q1 : isLetter s[k]
            · have q2 : isBlank s[k] = true := by simpa [q1] using hq
              clear hq h61
              go_wp2_with (first | (go_at_call 40; refine (isLetter_any _ _).mono ?_; rintro e w' ⟨rfl, rfl⟩) | (go_at_call 41; refine (isBlank_any _ _).mono ?_; rintro e w' ⟨rfl, rfl⟩) | (at_builtin; refine wp_app1 _ w _ rfl (.tmp 48) (.tmp 50) rfl w.heap.size _ o rfl hown rfl s[k] rfl (by omega) hsz hb ?_; intro v' w1 hown1 hb1))
              go_roundw
              case rel => exact ⟨k + 1, V, 0, _, by omega, by go_num, rfl, rfl, hown1, hb1, by simp; omega, by omega, HE⟩
              case measure => simp [intOf]; omega
            · clear hq h61
              go_wp2_with (first | (go_at_call 40; refine (isLetter_any _ _).mono ?_; rintro e w' ⟨rfl, rfl⟩) | (go_at_call 41; refine (isBlank_any _ _).mono ?_; rintro e w' ⟨rfl, rfl⟩) | (at_builtin; refine wp_app1 _ w _ rfl (.tmp 48) (.tmp 50) rfl w.heap.size _ o rfl hown rfl s[k] rfl (by omega) hsz hb ?_; intro v' w1 hown1 hb1))
              go_roundw
              case rel => exact ⟨k + 1, V, 0, _, by omega, by go_num, rfl, rfl, hown1, hb1, by simp; omega, by omega, HE⟩
              case measure => simp [intOf]; omega
    · have HE : Hid (unquotedS s.data.toList = if D = 0 then some o else none) := by
        show _ = _
        have hJ := HJ.out
        rw [List.take_of_length_le (by rw [size_list]; omega)] at hJ
        unfold unquotedS
        rw [hJ]; rfl
      clear hD
      go_wp2
      go_ret2
      refine ⟨u4, ?_, ?_, hb⟩
      · rw [HE.out]
        by_cases h0 : D = 0
        · subst h0; rfl
        · have : ((D : Int) == 0) = false := by rw [beq_eq_false_iff_ne]; omega
          rw [this, if_neg h0]; rfl
      · intro q h
        rw [HE.out] at h
        split at h
        · cases h; exact hown
        · cases h

end Go.Proofs.YtkgpmahlkglaaaaGreatDoor
