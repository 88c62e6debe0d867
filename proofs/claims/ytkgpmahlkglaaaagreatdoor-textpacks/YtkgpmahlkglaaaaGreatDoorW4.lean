import Derived.Test.YtkgpmahlkglaaaaGreatDoorW3
import Derived.Lib.Strings
namespace Go.Proofs.YtkgpmahlkglaaaaGreatDoor
open Go.RowKit

def packTo (b : List UInt8) : Nat → List UInt8
  | 0 => []
  | k + 1 => packTo b k ++ fourL ((b.drop (3 * k)).take 3)

theorem packTo_length (b : List UInt8) (k : Nat) : (packTo b k).length = 4 * k := by
  induction k with
  | zero => rfl
  | succ k ih => simp [packTo, ih, fourL_length]; omega

def packS (b : List UInt8) : List UInt8 := let l := packTo b ((b.length + 2) / 3); inLinesTo l l.length

theorem Hid.mk {p : Prop} (h : p) : Hid p := h

theorem four_parts (b : ByteArray) (w : World) (h0 : 0 < b.size) (h3 : b.size ≤ 3) :
    Calls Tryz.prog 26 #[.string b] w fun e w' => ∃ c0 c1 c2 c3 : UInt8, e = .returned (.agg #[.int .u8 (c0.toNat : Int), .int .u8 (c1.toNat : Int), .int .u8 (c2.toNat : Int), .int .u8 (c3.toNat : Int)]) ∧ fourL b.data.toList = [c0, c1, c2, c3] ∧ Below w.heap.size w w' :=
  (four_any b w h0 h3).mono fun _ _ ⟨h, hb⟩ => ⟨_, _, _, _, h, rfl, hb⟩

theorem inLines_nil (w : World) : Calls Tryz.prog 27 #[.slice none 0 0] w fun e w' => e = .returned (.string ⟨#[]⟩) ∧ Below w.heap.size w w' := by
  go_enter Tryz.func27, Tryz.ntmps27
  go_wp2
  refine wp_loop_rounds 1 ?_
  rw [rounds_succ]
  have hcv := (Own.nil w 0).string
  go_wp2
  go_ret
  exact ⟨rfl, Below.refl _ _⟩

theorem inLines_any (l : List UInt8) (v : Value) (B : Nat) (w : World) (hl : l.length ≤ 100000) (hown : Own w B v l) :
    Calls Tryz.prog 27 #[v] w fun e w' => e = .returned (.string ⟨(inLinesTo l l.length).toArray⟩) ∧ Below w.heap.size w w' := by
  rcases hown.shape with ⟨rfl, rfl⟩ | ⟨g, cap, rfl, _, hg, _, _, hc⟩
  · exact inLines_nil w
  · exact inLines_some l g cap w hl hg hc

theorem extract_list (b : ByteArray) (i j : Nat) : (b.extract i j).data.toList = (b.data.toList.drop i).take (j - i) := by
  rw [ByteArray.data_extract, Array.toList_extract, List.extract_eq_take_drop]

theorem cells4 (w1 : World) (c0 c1 c2 c3 : UInt8) (t : TypeId) : ∀ j (hj : j < [c0, c1, c2, c3].length),
    (w1.alloc (.cells #[.int .u8 (c0.toNat : Int), .int .u8 (c1.toNat : Int), .int .u8 (c2.toNat : Int), .int .u8 (c3.toNat : Int)] t)).cell? (Addr.add ⟨w1.heap.size, 0, none⟩ j) = some (.int .u8 ([c0, c1, c2, c3][j].toNat : Int)) := by
  intro j hj
  match j, hj with
  | 0, _ => simp [Addr.add_lit]
  | 1, _ => simp [Addr.add_lit]
  | 2, _ => simp [Addr.add_lit]
  | 3, _ => simp [Addr.add_lit]

set_option maxHeartbeats 400000 in
theorem pack_any (b : ByteArray) (w : World) (hl : b.size ≤ 2000) :
    Calls Tryz.prog 9 #[.string b] w fun e w' => e = .returned (.string ⟨(packS b.data.toList).toArray⟩) ∧ Below w.heap.size w w' := by
  have hbl : b.data.toList.length = b.size := by rw [Array.length_toList]; rfl
  have HL : Hid (b.data.toList.length = b.size) := hbl
  clear hbl
  go_enter Tryz.func9, Tryz.ntmps9
  go_wp2
  go_loopw [3, 10] (fun v i wr => ∃ k : Nat, 3 * k ≤ b.size + 2 ∧ i = .int .i64 k ∧ Own wr w.heap.size v (packTo b.data.toList k) ∧ Below w.heap.size w wr) (fun _ i _ => b.size - (intOf i).toNat)
  case atStart => exact ⟨0, by omega, rfl, Own.nil _ _, Below.refl _ _⟩
  case round =>
    obtain ⟨k, hk, rfl, hown, hb⟩ := hrel
    by_cases hlt : 3 * k < b.size
    · have hsz := hb.size
      have hT : (k : Int) < ((b.size : Int) + 2) / 3 := by omega
      have hplen := packTo_length b.data.toList k
      have HP : Hid ((packTo b.data.toList k).length = 4 * k) := hplen
      clear hplen
      have hp4 : (packTo b.data.toList k).length + 4 ≤ 10000000 := by rw [HP.out]; omega
      by_cases hc : 3 * k + 3 ≤ b.size
      · have hc1 : (3 * k : Int) + 3 ≤ (b.size : Int) := by omega
        have HX : Hid (packTo b.data.toList (k + 1) = packTo b.data.toList k ++ fourL (b.extract (3 * k) (3 * k + 3)).data.toList) := by
          show _ = _
          rw [extract_list, show 3 * k + 3 - 3 * k = 3 from by omega]; rfl
        go_wp2_with (first | (go_at_call 26; refine (four_parts _ _ (by simp; omega) (by simp; omega)).mono ?_; rintro e w1 ⟨c0, c1, c2, c3, rfl, hq, hb1⟩; have HQ := Hid.mk hq; clear hq) | (at_builtin; refine wp_app _ w rfl (.tmp 24) (.tmp 25) rfl w.heap.size _ (packTo b.data.toList k) rfl ((hown.below hb1 (Nat.le_refl _)).alloc _) ⟨w1.heap.size, 0, none⟩ 4 4 [c0, c1, c2, c3] rfl rfl (cells4 _ _ _ _ _ _) hp4 (by have := hb1.size; simp; omega) ((hb.trans (hb1.mono hsz)).alloc (by have := hb1.size; omega) _) ?_; intro v2 w2 hown2 hb2 hg2))
        go_roundw
        case rel => exact ⟨k + 1, by omega, by go_num, by rw [HX.out, HQ.out]; exact hown2, hb2⟩
        case measure => simp [intOf]; omega
      · have hc1 : (b.size : Int) < (3 * k : Int) + 3 := by omega
        have HX : Hid (packTo b.data.toList (k + 1) = packTo b.data.toList k ++ fourL (b.extract (3 * k) b.size).data.toList) := by
          show _ = _
          rw [extract_list, List.take_of_length_le (i := b.size - 3 * k) (by rw [List.length_drop, HL.out]; omega)]
          rw [packTo, List.take_of_length_le (i := 3) (by rw [List.length_drop, HL.out]; omega)]
        go_wp2_with (first | (go_at_call 26; refine (four_parts _ _ (by simp; omega) (by simp; omega)).mono ?_; rintro e w1 ⟨c0, c1, c2, c3, rfl, hq, hb1⟩; have HQ := Hid.mk hq; clear hq) | (at_builtin; refine wp_app _ w rfl (.tmp 24) (.tmp 25) rfl w.heap.size _ (packTo b.data.toList k) rfl ((hown.below hb1 (Nat.le_refl _)).alloc _) ⟨w1.heap.size, 0, none⟩ 4 4 [c0, c1, c2, c3] rfl rfl (cells4 _ _ _ _ _ _) hp4 (by have := hb1.size; simp; omega) ((hb.trans (hb1.mono hsz)).alloc (by have := hb1.size; omega) _) ?_; intro v2 w2 hown2 hb2 hg2))
        go_roundw
        case rel => exact ⟨k + 1, by omega, by go_num, by rw [HX.out, HQ.out]; exact hown2, hb2⟩
        case measure => simp [intOf]; omega
    · have hT : ¬ (k : Int) < ((b.size : Int) + 2) / 3 := by omega
      have hplen := packTo_length b.data.toList k
      have HP : Hid ((packTo b.data.toList k).length = 4 * k) := hplen
      clear hplen
      have hp4 : (packTo b.data.toList k).length ≤ 100000 := by rw [HP.out]; omega
      go_wp2_with (go_at_call 27; refine (inLines_any (packTo b.data.toList k) _ _ _ hp4 hown).mono ?_; rintro e w1 ⟨rfl, hb1⟩)
      go_ret
      refine ⟨ret_str ?_, hb.trans (hb1.mono hb.size)⟩
      unfold packS
      rw [HL.out, show (b.size + 2) / 3 = k from by omega]

end Go.Proofs.YtkgpmahlkglaaaaGreatDoor
