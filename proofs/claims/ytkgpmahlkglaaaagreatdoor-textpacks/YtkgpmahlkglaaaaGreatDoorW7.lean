import Derived.Test.YtkgpmahlkglaaaaGreatDoorW6
namespace Go.Proofs.YtkgpmahlkglaaaaGreatDoor
open Go.RowKit

/-- One letter more: the bytes, the bits that are left, how many. -/
def joinStep (q : List UInt8 × Nat × Nat) (c : UInt8) : Option (List UInt8 × Nat × Nat) :=
  if lettv c < 0 then none
  else if 8 ≤ q.2.2 + 6 then some (q.1 ++ [UInt8.ofNat ((q.2.1 * 64 + (lettv c).toNat) / 2 ^ (q.2.2 + 6 - 8))], (q.2.1 * 64 + (lettv c).toNat) % 2 ^ (q.2.2 + 6 - 8), q.2.2 + 6 - 8)
  else some (q.1, q.2.1 * 64 + (lettv c).toNat, q.2.2 + 6)

def joinAll (l : List UInt8) : Option (List UInt8 × Nat × Nat) := l.foldl (fun q c => q.bind fun q => joinStep q c) (some ([], 0, 0))

theorem joinAll_snoc (l : List UInt8) (c : UInt8) : joinAll (l ++ [c]) = (joinAll l).bind fun q => joinStep q c := by
  unfold joinAll; rw [List.foldl_append]; rfl

theorem joinAll_none (a b : List UInt8) (h : joinAll a = none) : joinAll (a ++ b) = none := by
  unfold joinAll at h ⊢
  rw [List.foldl_append, h]
  induction b with
  | nil => rfl
  | cons c b ih => exact ih

/-- The bytes that letters have the bits of; none: a letter is none, or a bit that is left is not 0. -/
def joinedS (l : List UInt8) : Option (List UInt8) := (joinAll l).bind fun q => if q.2.1 = 0 then some q.1 else none

theorem indexByte_lt (l : List UInt8) (c : UInt8) : Lib.indexByte l c < l.length ∨ Lib.indexByte l c = -1 := by
  induction l with
  | nil => exact .inr rfl
  | cons b l ih =>
    unfold Lib.indexByte
    split
    · left; simp
    · split
      · exact .inr rfl
      · rename_i h
        left
        have := Lib.indexByte_ge l c
        simp at h ⊢
        omega
theorem lettv_lt (c : UInt8) : lettv c < 64 := by
  have : lettv c < letters.length ∨ lettv c = -1 := indexByte_lt letters c
  have h : letters.length = 64 := rfl
  omega
theorem lettv_ge (c : UInt8) : -1 ≤ lettv c := Lib.indexByte_ge _ _

theorem take_snocL (l : List UInt8) (k : Nat) (h : k < l.length) : l.take (k + 1) = l.take k ++ [l[k]] := List.take_succ_eq_append_getElem h

theorem ofNat_small (z : Int) (n : Nat) (hz : z = (n : Int)) (hn : n < 256) : z = ((UInt8.ofNat n).toNat : Int) := by
  subst hz; rw [UInt8.toNat_ofNat', Nat.mod_eq_of_lt hn]

set_option maxHeartbeats 1600000 in
set_option maxRecDepth 100000 in
theorem joined_some (l : List UInt8) (g cap : Nat) (w : World) (hl : l.length ≤ 100000) (hg : g < w.heap.size) (hc : ∀ k (hk : k < l.length), w.cell? ⟨g, k, none⟩ = some (.int .u8 (l[k].toNat : Int))) :
    Calls Tryz.prog 15 #[.slice (some ⟨g, 0, none⟩) l.length cap] w fun e w' => ∃ v, e = .returned (.tuple #[v, .bool (joinedS l).isSome]) ∧ (∀ o, joinedS l = some o → Own w' w.heap.size v o) ∧ Below w.heap.size w w' := by
  go_enter Tryz.func15, Tryz.ntmps15
  go_wp2
  go_loopw [4, 5, 6, 11] (fun v b n i wr => ∃ (k N C : Nat) (o : List UInt8), k ≤ l.length ∧ i = .int .i64 k ∧ b = .int .i64 N ∧ n = .int .i64 C ∧ Own wr w.heap.size v o ∧ Below w.heap.size w wr ∧ o.length ≤ k ∧ N < 2 ^ C ∧ (C = 0 ∨ C = 2 ∨ C = 4 ∨ C = 6) ∧ Hid (joinAll (l.take k) = some (o, N, C))) (fun _ _ _ i _ => l.length - (intOf i).toNat)
  case atStart => exact ⟨0, 0, 0, [], Nat.zero_le _, rfl, rfl, rfl, Own.nil _ _, Below.refl _ _, Nat.zero_le _, by decide, .inl rfl, rfl⟩
  case round =>
    obtain ⟨k, N, C, o, hk, rfl, rfl, rfl, hown, hb, ho, hNC, hC, HJ⟩ := hrel
    have hsz := hb.size
    by_cases hlt : k < l.length
    · have hcx : wr.cell? ⟨g, k, none⟩ = some (.int .u8 (l[k].toNat : Int)) := (hb.cell (p := ⟨g, k, none⟩) hg).trans (hc k hlt)
      have hv2 := lettv_lt l[k]
      by_cases hv : lettv l[k] < 0
      · have HN : Hid (joinedS l = none) := by
          show _ = _
          have h1 : joinAll (l.take (k + 1)) = none := by
            rw [take_snocL l k hlt, joinAll_snoc, HJ.out]
            show joinStep _ _ = _
            unfold joinStep
            rw [if_pos hv]
          have h2 := joinAll_none (l.take (k + 1)) (l.drop (k + 1)) h1
          rw [List.take_append_drop] at h2
          unfold joinedS
          rw [h2]; rfl
        clear hNC hC
        go_wp2_with (first | (go_at_call 29; refine (idx_lett _ l[k] rfl _).mono ?_; rintro e w' ⟨rfl, rfl⟩))
        go_ret2
        refine ⟨.slice none 0 0, ?_, ?_, hb⟩
        · rw [HN.out]; rfl
        · intro q h; rw [HN.out] at h; cases h
      have hv1 : 0 ≤ lettv l[k] := by omega
      rcases hC with hC | hC | hC | hC
      · subst hC
        have hN : N < 1 := by simpa using hNC
        have o1 : bits .or .i64 ((N : Int) * 64) (lettv l[k]) = (N : Int) * 64 + lettv l[k] := or_i64 6 _ _ (by omega) (by omega) (by omega) (by simpa using hv2) (by omega)
        have HE : Hid (joinAll (l.take (k + 1)) = some (o, N * 64 + (lettv l[k]).toNat, 6)) := by
          show _ = _
          rw [take_snocL l k hlt, joinAll_snoc, HJ.out]
          show joinStep _ _ = _
          unfold joinStep
          rw [if_neg hv, if_neg (by show ¬ 8 ≤ 0 + 6; omega)]
        clear hNC
        go_wp2_with (first | (go_at_call 29; refine (idx_lett _ l[k] rfl _).mono ?_; rintro e w' ⟨rfl, rfl⟩))
        go_roundw
        case rel => exact ⟨k + 1, N * 64 + (lettv l[k]).toNat, 6, o, by omega, by go_num, by congr 1; omega, rfl, hown, hb, by omega, by simp; omega, by omega, HE⟩
        case measure => simp [intOf]; omega
      · subst hC
        have hN : N < 4 := by simpa using hNC
        have o1 : bits .or .i64 ((N : Int) * 64) (lettv l[k]) = (N : Int) * 64 + lettv l[k] := or_i64 6 _ _ (by omega) (by omega) (by omega) (by simpa using hv2) (by omega)
        have HE : Hid (joinAll (l.take (k + 1)) = some (o ++ [UInt8.ofNat ((N * 64 + (lettv l[k]).toNat) / 1)], (N * 64 + (lettv l[k]).toNat) % 1, 0)) := by
          show _ = _
          rw [take_snocL l k hlt, joinAll_snoc, HJ.out]
          show joinStep _ _ = _
          unfold joinStep
          rw [if_neg hv, if_pos (by show 8 ≤ 2 + 6; omega)]; rfl
        have HU : Hid (((N : Int) * 64 + lettv l[k]) = ((UInt8.ofNat ((N * 64 + (lettv l[k]).toNat) / 1)).toNat : Int)) := ofNat_small _ _ (by omega) (by omega)
        have a1 : bits .and .i64 ((N : Int) * 64 + lettv l[k]) 0 = ((N : Int) * 64 + lettv l[k]) % 1 := by simpa using and_i64 0 ((N : Int) * 64 + lettv l[k]) (by omega) (by omega) (by omega)
        clear hNC
        go_wp2_with (first | (go_at_call 29; refine (idx_lett _ l[k] rfl _).mono ?_; rintro e w' ⟨rfl, rfl⟩) | (at_builtin; refine wp_app1 _ w _ rfl (.tmp 31) (.tmp 36) rfl w.heap.size _ o rfl hown rfl _ HU.out (by omega) hsz hb ?_; intro v' w1 hown1 hb1))
        go_roundw
        case rel => exact ⟨k + 1, (N * 64 + (lettv l[k]).toNat) % 1, 0, o ++ [UInt8.ofNat ((N * 64 + (lettv l[k]).toNat) / 1)], by omega, by go_num, by congr 1; omega, rfl, hown1, hb1, by simp; omega, by simp; omega, by omega, HE⟩
        case measure => simp [intOf]; omega
      · subst hC
        have hN : N < 16 := by simpa using hNC
        have o1 : bits .or .i64 ((N : Int) * 64) (lettv l[k]) = (N : Int) * 64 + lettv l[k] := or_i64 6 _ _ (by omega) (by omega) (by omega) (by simpa using hv2) (by omega)
        have HE : Hid (joinAll (l.take (k + 1)) = some (o ++ [UInt8.ofNat ((N * 64 + (lettv l[k]).toNat) / 4)], (N * 64 + (lettv l[k]).toNat) % 4, 2)) := by
          show _ = _
          rw [take_snocL l k hlt, joinAll_snoc, HJ.out]
          show joinStep _ _ = _
          unfold joinStep
          rw [if_neg hv, if_pos (by show 8 ≤ 4 + 6; omega)]; rfl
        have HU : Hid (((N : Int) * 64 + lettv l[k]) / 4 = ((UInt8.ofNat ((N * 64 + (lettv l[k]).toNat) / 4)).toNat : Int)) := ofNat_small _ _ (by omega) (by omega)
        have a1 : bits .and .i64 ((N : Int) * 64 + lettv l[k]) 3 = ((N : Int) * 64 + lettv l[k]) % 4 := by simpa using and_i64 2 ((N : Int) * 64 + lettv l[k]) (by omega) (by omega) (by omega)
        clear hNC
        go_wp2_with (first | (go_at_call 29; refine (idx_lett _ l[k] rfl _).mono ?_; rintro e w' ⟨rfl, rfl⟩) | (at_builtin; refine wp_app1 _ w _ rfl (.tmp 31) (.tmp 36) rfl w.heap.size _ o rfl hown rfl _ HU.out (by omega) hsz hb ?_; intro v' w1 hown1 hb1))
        go_roundw
        case rel => exact ⟨k + 1, (N * 64 + (lettv l[k]).toNat) % 4, 2, o ++ [UInt8.ofNat ((N * 64 + (lettv l[k]).toNat) / 4)], by omega, by go_num, by congr 1; omega, rfl, hown1, hb1, by simp; omega, by simp; omega, by omega, HE⟩
        case measure => simp [intOf]; omega
      · subst hC
        have hN : N < 64 := by simpa using hNC
        have o1 : bits .or .i64 ((N : Int) * 64) (lettv l[k]) = (N : Int) * 64 + lettv l[k] := or_i64 6 _ _ (by omega) (by omega) (by omega) (by simpa using hv2) (by omega)
        have HE : Hid (joinAll (l.take (k + 1)) = some (o ++ [UInt8.ofNat ((N * 64 + (lettv l[k]).toNat) / 16)], (N * 64 + (lettv l[k]).toNat) % 16, 4)) := by
          show _ = _
          rw [take_snocL l k hlt, joinAll_snoc, HJ.out]
          show joinStep _ _ = _
          unfold joinStep
          rw [if_neg hv, if_pos (by show 8 ≤ 6 + 6; omega)]; rfl
        have HU : Hid (((N : Int) * 64 + lettv l[k]) / 16 = ((UInt8.ofNat ((N * 64 + (lettv l[k]).toNat) / 16)).toNat : Int)) := ofNat_small _ _ (by omega) (by omega)
        have a1 : bits .and .i64 ((N : Int) * 64 + lettv l[k]) 15 = ((N : Int) * 64 + lettv l[k]) % 16 := by simpa using and_i64 4 ((N : Int) * 64 + lettv l[k]) (by omega) (by omega) (by omega)
        clear hNC
        go_wp2_with (first | (go_at_call 29; refine (idx_lett _ l[k] rfl _).mono ?_; rintro e w' ⟨rfl, rfl⟩) | (at_builtin; refine wp_app1 _ w _ rfl (.tmp 31) (.tmp 36) rfl w.heap.size _ o rfl hown rfl _ HU.out (by omega) hsz hb ?_; intro v' w1 hown1 hb1))
        go_roundw
        case rel => exact ⟨k + 1, (N * 64 + (lettv l[k]).toNat) % 16, 4, o ++ [UInt8.ofNat ((N * 64 + (lettv l[k]).toNat) / 16)], by omega, by go_num, by congr 1; omega, rfl, hown1, hb1, by simp; omega, by simp; omega, by omega, HE⟩
        case measure => simp [intOf]; omega
    · have HE : Hid (joinedS l = if N = 0 then some o else none) := by
        show _ = _
        have hJ := HJ.out
        rw [List.take_of_length_le (by omega)] at hJ
        unfold joinedS
        rw [hJ]; rfl
      clear hNC hC
      go_wp2
      go_ret2
      refine ⟨u4, ?_, ?_, hb⟩
      · rw [HE.out]
        by_cases h0 : N = 0
        · subst h0; rfl
        · have : ((N : Int) == 0) = false := by rw [beq_eq_false_iff_ne]; omega
          rw [this, if_neg h0]; rfl
      · intro q h
        rw [HE.out] at h
        split at h
        · cases h; exact hown
        · cases h

theorem joined_nil (w : World) : Calls Tryz.prog 15 #[.slice none 0 0] w fun e w' => e = .returned (.tuple #[.slice none 0 0, .bool true]) ∧ w' = w := by
  go_enter Tryz.func15, Tryz.ntmps15
  go_wp2
  refine wp_loop_rounds 1 ?_
  rw [rounds_succ]
  go_wp2
  go_ret2
  exact ⟨rfl, rfl⟩

theorem joined_any (l : List UInt8) (v : Value) (B : Nat) (w : World) (hl : l.length ≤ 100000) (hown : Own w B v l) :
    Calls Tryz.prog 15 #[v] w fun e w' => ∃ v, e = .returned (.tuple #[v, .bool (joinedS l).isSome]) ∧ (∀ o, joinedS l = some o → Own w' w.heap.size v o) ∧ Below w.heap.size w w' := by
  rcases hown.shape with ⟨rfl, rfl⟩ | ⟨g, cap, rfl, _, hg, _, _, hc⟩
  · refine (joined_nil w).mono ?_
    rintro e w' ⟨rfl, rfl⟩
    refine ⟨_, rfl, ?_, Below.refl _ _⟩
    intro o h
    cases h
    exact Own.nil _ _
  · exact joined_some l g cap w hl hg hc

end Go.Proofs.YtkgpmahlkglaaaaGreatDoor
