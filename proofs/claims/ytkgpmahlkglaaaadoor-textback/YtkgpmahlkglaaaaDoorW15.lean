import Derived.Test.YtkgpmahlkglaaaaDoorW14
namespace Go.Proofs.YtkgpmahlkglaaaaDoor
open Go.RowKit

theorem add_list (a b c : ByteArray) : (a ++ b ++ c).data.toList = a.data.toList ++ b.data.toList ++ c.data.toList := by simp

/-- A fact kept from the walk, shut to unfolding. -/
structure Box (p : Prop) : Prop where
  out : p

theorem getD_at (s : ByteArray) (k : Nat) (h : k < s.size) : s.data.toList.getD k 0 = s[k] := by
  rw [List.getD_eq_getElem?_getD, getL s k h]; rfl

def sIter (t : List UInt8) (q : Nat) : Nat → Nat
  | 0 => q
  | 1 => q
  | 2 => s1 t 1 q
  | _ => s1 t 2 (s1 t 1 q)

theorem ne13 (c : UInt8) (h : ¬ c = 13) : ((c.toNat : Int) == 13) = false := by
  rw [show (13 : Int) = ((13 : UInt8).toNat : Int) from rfl, u8eq]
  simpa using h

set_option maxHeartbeats 16000000 in
set_option maxRecDepth 100000 in
theorem back_small (b : ByteArray) (cut : Int) (w : World) (hl : b.size ≤ 1500) (hm : Max w) :
    Calls Tryd.prog 3 #[.string b, .int .i64 cut] w fun e w' => e = .returned (.bool true) ∧ Below w.heap.size w w' := by
  have h1500 : ¬ (1500 : Int) < (b.size : Int) := by omega
  have hw0 := hm.1
  go_enter Tryd.func3, Tryd.ntmps3
  go_wp2_with fail
  refine (packed_any _).mono ?_
  rintro e w1 ⟨rfl, hb1⟩
  go_wp2_with fail
  refine (pack_str b _ hl).mono ?_
  rintro e w2 ⟨S, rfl, hS, hSl, hb2⟩
  have HS := Box.mk hS
  clear hS
  go_wp2_with fail
  refine (quote_str b _ hl).mono ?_
  rintro e w3 ⟨T, rfl, hT, hTl, hb3⟩
  have HT := Box.mk hT
  clear hT
  have g3 : Below w.heap.size w w3 := hb1.trans ((hb2.mono hb1.size).trans (hb3.mono (Nat.le_trans hb1.size hb2.size)))
  clear hb1 hb2 hb3
  go_wp2_with fail
  refine (unpack_back S b _ (by omega) (by rw [HS.out]; exact unpack_pack _)).mono ?_
  rintro e w4 ⟨rfl, hb4⟩
  have g4 : Below w.heap.size w w4 := g3.trans (hb4.mono g3.size)
  clear hb4 g3
  go_wp2_with fail
  refine (unquote_back T b _ (by omega) (hm.below g4 hw0) (by rw [HT.out]; exact unquote_quote _)).mono ?_
  rintro e w5 ⟨rfl, hb5⟩
  have g5 : Below w.heap.size w w5 := g4.trans (hb5.mono g4.size)
  clear hb5 g4
  go_wp2_with fail
  refine (lines_any S _ (by omega) (hm.below g5 hw0) (by rw [HS.out]; exact pack_ok _)).mono ?_
  rintro e w6 ⟨rfl, hb6⟩
  have g6 : Below w.heap.size w w6 := g5.trans (hb6.mono g5.size)
  clear hb6 g5
  go_wp2_with fail
  refine (lines_any T _ (by omega) (hm.below g6 hw0) (by rw [HT.out]; exact quote_ok _)).mono ?_
  rintro e w7 ⟨rfl, hb7⟩
  have g7 : Below w.heap.size w w7 := g6.trans (hb7.mono g6.size)
  clear hb7 g6
  go_wp2_with fail
  refine (pick_any cut _ (S.size + 1) (by omega) _ (by omega) (by omega)).mono ?_
  rintro e w8 ⟨k, hk, rfl, rfl⟩
  go_wp2_with fail
  have hk1 : (k : Int) ≤ (S.size : Int) := by omega
  have hk0 : (0 : Int) ≤ (k : Int) := by omega
  have HU : Box (unpackS (S.extract 0 k ++ ⟨#[32, 13, 10, 9]⟩ ++ S.extract k S.size).data.toList = some b.data.toList) := by
    constructor
    rw [add_list, extract_list, extract_list, HS.out]
    have := unpack_cut b.data.toList k
    rw [List.drop_zero, Nat.sub_zero, List.take_of_length_le (l := List.drop k _) (by rw [List.length_drop, ← HS.out, size_list]; omega)]
    exact this
  have hsz : (S.extract 0 k ++ ⟨#[32, 13, 10, 9]⟩ ++ S.extract k S.size).size ≤ 10000 := by
    rw [ByteArray.size_append, ByteArray.size_append, ByteArray.size_extract, ByteArray.size_extract]
    show _ + 4 + _ ≤ _
    omega
  have HZ := Box.mk hsz
  clear hsz
  go_region_with (go_at_call 7; refine (unpack_back _ b _ HZ.out HU.out).mono ?_; rintro e w9 ⟨rfl, hb9⟩)
  have g9 : Below w.heap.size w w9 := g7.drew.trans (hb9.mono g7.size)
  clear hb9 g7 HU HZ
  go_wp2_with fail
  refine (pick_any cut _ (T.size + 1) (by omega) _ (by omega) (by omega)).mono ?_
  rintro e w10 ⟨q, hq, rfl, rfl⟩
  go_wp2_with fail
  have hq' : q ≤ T.size := by omega
  clear hq HS hk hk1 hk0
  go_loop [11, 14] (fun x y => ∃ n p : Nat, 1 ≤ n ∧ n ≤ 3 ∧ y = .int .i64 n ∧ x = .int .i64 p ∧ p ≤ T.size ∧ Box (p = sIter T.data.toList q n)) (fun _ y => 3 - (intOf y).toNat)
  case atStart => exact ⟨1, q, by omega, by omega, rfl, rfl, hq', ⟨rfl⟩⟩
  case round =>
    obtain ⟨n, p, hn1, hn3, rfl, rfl, hp, HN⟩ := hrel
    have hn : n = 1 ∨ n = 2 ∨ n = 3 := by omega
    rcases hn with hn | hn | hn
    · subst hn
      by_cases h1 : 1 ≤ p
      · have hlt : p - 1 < T.size := by omega
        have HG : Box (T.data.toList.getD (p - 1) 0 = T[p - 1]) := ⟨getD_at T _ hlt⟩
        have hp1 : (1 : Int) ≤ (p : Int) := by omega
        by_cases h61 : T[p - 1] = 61
        · have HE : Box (s1 T.data.toList 1 p = p - 1) := by constructor; unfold s1; rw [if_pos ⟨h1, HG.out.trans h61⟩]
          have t1 := eq61 T[p - 1] h61
          clear h61
          go_wp2
          go_round
          case rel => exact ⟨2, p - 1, by omega, by omega, rfl, by congr 1; omega, by omega, ⟨by rw [← HE.out, HN.out]; rfl⟩⟩
          case measure => simp [intOf]
        · have HE : Box (s1 T.data.toList 1 p = p) := by constructor; unfold s1; rw [if_neg (fun h => h61 (HG.out.symm.trans h.2))]
          have t1 := ne61 T[p - 1] h61
          clear h61
          go_wp2
          go_round
          case rel => exact ⟨2, p, by omega, by omega, rfl, rfl, by omega, ⟨by rw [← HE.out, HN.out]; rfl⟩⟩
          case measure => simp [intOf]
      · have HE : Box (s1 T.data.toList 1 p = p) := by constructor; unfold s1; rw [if_neg (fun h => h1 h.1)]
        have hp1 : ¬ (1 : Int) ≤ (p : Int) := by omega
        go_wp2
        go_round
        case rel => exact ⟨2, p, by omega, by omega, rfl, rfl, by omega, ⟨by rw [← HE.out, HN.out]; rfl⟩⟩
        case measure => simp [intOf]
    · subst hn
      by_cases h1 : 2 ≤ p
      · have hlt : p - 2 < T.size := by omega
        have HG : Box (T.data.toList.getD (p - 2) 0 = T[p - 2]) := ⟨getD_at T _ hlt⟩
        have hp1 : (2 : Int) ≤ (p : Int) := by omega
        by_cases h61 : T[p - 2] = 61
        · have HE : Box (s1 T.data.toList 2 p = p - 2) := by constructor; unfold s1; rw [if_pos ⟨h1, HG.out.trans h61⟩]
          have t1 := eq61 T[p - 2] h61
          clear h61
          go_wp2
          go_round
          case rel => exact ⟨3, p - 2, by omega, by omega, rfl, by congr 1; omega, by omega, ⟨by rw [← HE.out, HN.out]; rfl⟩⟩
          case measure => simp [intOf]
        · have HE : Box (s1 T.data.toList 2 p = p) := by constructor; unfold s1; rw [if_neg (fun h => h61 (HG.out.symm.trans h.2))]
          have t1 := ne61 T[p - 2] h61
          clear h61
          go_wp2
          go_round
          case rel => exact ⟨3, p, by omega, by omega, rfl, rfl, by omega, ⟨by rw [← HE.out, HN.out]; rfl⟩⟩
          case measure => simp [intOf]
      · have HE : Box (s1 T.data.toList 2 p = p) := by constructor; unfold s1; rw [if_neg (fun h => h1 h.1)]
        have hp1 : ¬ (2 : Int) ≤ (p : Int) := by omega
        go_wp2
        go_round
        case rel => exact ⟨3, p, by omega, by omega, rfl, rfl, by omega, ⟨by rw [← HE.out, HN.out]; rfl⟩⟩
        case measure => simp [intOf]
    · subst hn
      have hP := quote_place b.data.toList q p (by rw [← HT.out, size_list]; exact hq') (by rw [← HT.out]; exact HN.out)
      rw [← HT.out] at hP
      obtain ⟨hP1, hP2, hP3⟩ := hP
      have HU : Box (unquoteS (T.extract 0 p ++ ⟨#[61, 13, 10]⟩ ++ T.extract p T.size).data.toList = some b.data.toList) := by
        constructor
        rw [add_list, extract_list, extract_list]
        rw [List.drop_zero, Nat.sub_zero, List.take_of_length_le (l := List.drop p _) (by rw [List.length_drop, size_list]; omega)]
        exact hP3
      have HZ : Box ((T.extract 0 p ++ ⟨#[61, 13, 10]⟩ ++ T.extract p T.size).size ≤ 10000) := by
        constructor
        rw [ByteArray.size_append, ByteArray.size_append, ByteArray.size_extract, ByteArray.size_extract]
        show _ + 3 + _ ≤ _
        omega
      clear hP3 hP1
      have hp1 : (p : Int) ≤ (T.size : Int) := by omega
      have hp0 : (0 : Int) ≤ (p : Int) := by omega
      by_cases hpz : (0 : Int) < (p : Int)
      · have hP4 : T.data.toList.getD (p - 1) 0 ≠ 13 ∧ T.data.toList.getD (p - 1) 0 ≠ 61 := by
          rcases hP2 with h0 | h
          · omega
          · exact h
        have hlt : p - 1 < T.size := by omega
        rw [getD_at T _ hlt] at hP4
        have t1 := ne13 T[p - 1] hP4.1
        have t2 := ne61 T[p - 1] hP4.2
        clear hP4 hP2 HN
        go_wp2_with fail
        go_region_with (go_at_call 8; refine (unquote_back _ b _ HZ.out (hm.below g9.drew hw0) HU.out).mono ?_; rintro e w11 ⟨rfl, hb11⟩)
        have g11 : Below w.heap.size w w11 := g9.drew.trans (hb11.mono g9.size)
        clear hb11 g9
        go_wp2
        go_ret
        exact ⟨rfl, g11⟩
      · clear hP2 HN
        go_wp2_with fail
        go_region_with (go_at_call 8; refine (unquote_back _ b _ HZ.out (hm.below g9.drew hw0) HU.out).mono ?_; rintro e w11 ⟨rfl, hb11⟩)
        have g11 : Below w.heap.size w w11 := g9.drew.trans (hb11.mono g9.size)
        clear hb11 g9
        go_wp2
        go_ret
        exact ⟨rfl, g11⟩

end Go.Proofs.YtkgpmahlkglaaaaDoor
