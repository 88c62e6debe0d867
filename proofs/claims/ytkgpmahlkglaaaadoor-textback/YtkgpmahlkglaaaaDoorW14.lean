import Derived.Test.YtkgpmahlkglaaaaDoorM4
import Derived.Deep.RegionWith
namespace Go.Proofs.YtkgpmahlkglaaaaDoor
open Go.RowKit

theorem pick_val (a : Int) (n : Nat) (hn : 1 ≤ n) (hn2 : n ≤ 1000000) : ∃ r : Nat, r < n ∧ wrap64 ((IntKind.u64.wrap a).tmod (n : Int)) = (r : Int) := by
  rw [IntKind.wrap_u64]
  have h0 : 0 ≤ a % 18446744073709551616 := by omega
  generalize a % 18446744073709551616 = x at h0
  obtain ⟨m, rfl⟩ := Int.eq_ofNat_of_zero_le h0
  refine ⟨m % n, Nat.mod_lt _ (by omega), ?_⟩
  have e : ((m : Int)).tmod (n : Int) = ((m % n : Nat) : Int) := (Int.ofNat_tmod m n).symm
  have := Nat.mod_lt m (show 0 < n by omega)
  rw [e, IntWalk.wrap64_in _ (by omega)]

set_option maxHeartbeats 400000 in
theorem pick_any (a z : Int) (n : Nat) (hz : z = (n : Int)) (w : World) (hn : 1 ≤ n) (hn2 : n ≤ 1000000) :
    Calls Tryd.prog 10 #[.int .i64 a, .int .i64 z] w fun e w' => ∃ r : Nat, r < n ∧ e = .returned (.int .i64 (r : Int)) ∧ w' = w := by
  subst hz
  obtain ⟨r, hr, H⟩ := pick_val a n hn hn2
  have HH := Hid.mk H
  clear H
  go_enter Tryd.func10, Tryd.ntmps10
  go_wp2
  go_ret
  exact ⟨r, hr, ret_int HH.out, rfl⟩

theorem eta (b : ByteArray) : (⟨b.data.toList.toArray⟩ : ByteArray) = b := by simp

theorem pack_str (b : ByteArray) (w : World) (hl : b.size ≤ 1500) :
    Calls Tryd.prog 5 #[.string b] w fun e w' => ∃ S : ByteArray, e = .returned (.string S) ∧ S.data.toList = packS b.data.toList ∧ S.size ≤ 9000 ∧ Below w.heap.size w w' := by
  refine (pack_any b w (by omega)).mono ?_
  rintro e w' ⟨rfl, hb⟩
  refine ⟨_, rfl, rfl, ?_, hb⟩
  rw [size_mk]
  unfold packS
  have h1 := inLinesTo_length (packTo b.data.toList ((b.data.toList.length + 2) / 3)) (packTo b.data.toList ((b.data.toList.length + 2) / 3)).length
  rw [packTo_length, size_list] at h1
  rw [size_list]
  show (inLinesTo _ _).length ≤ _
  rw [packTo_length]
  omega

theorem quote_str (b : ByteArray) (w : World) (hl : b.size ≤ 1500) :
    Calls Tryd.prog 6 #[.string b] w fun e w' => ∃ S : ByteArray, e = .returned (.string S) ∧ S.data.toList = quoteS b.data.toList ∧ S.size ≤ 9000 ∧ Below w.heap.size w w' := by
  refine (quote_any b w (by omega)).mono ?_
  rintro e w' ⟨rfl, hb⟩
  refine ⟨_, rfl, rfl, ?_, hb⟩
  rw [size_mk]
  unfold quoteS
  have := (quoteTo_length b.data.toList b.data.toList.length).1
  rw [size_list] at this ⊢
  omega

theorem unpack_back (s b : ByteArray) (w : World) (hl : s.size ≤ 10000) (h : unpackS s.data.toList = some b.data.toList) :
    Calls Tryd.prog 7 #[.string s] w fun e w' => e = .returned (.tuple #[.string b, .nilIface]) ∧ Below w.heap.size w w' := by
  refine (unpack_any s w (by omega)).mono ?_
  rintro e w' ⟨rfl, hb⟩
  rw [h]
  refine ⟨?_, hb⟩
  show Ending.returned (.tuple #[.string ⟨b.data.toList.toArray⟩, .nilIface]) = _
  rw [eta]

theorem unquote_back (s b : ByteArray) (w : World) (hl : s.size ≤ 10000) (hm : Max w) (h : unquoteS s.data.toList = some b.data.toList) :
    Calls Tryd.prog 8 #[.string s] w fun e w' => e = .returned (.tuple #[.string b, .nilIface]) ∧ Below w.heap.size w w' := by
  refine (unquote_any s w (by omega) hm).mono ?_
  rintro e w' ⟨rfl, hb⟩
  rw [h]
  refine ⟨?_, hb⟩
  show Ending.returned (.tuple #[.string ⟨b.data.toList.toArray⟩, .nilIface]) = _
  rw [eta]

theorem lines_any (s : ByteArray) (w : World) (hs : s.size ≤ 10000) (hm : Max w) (h : ∃ Ls cur, s.data.toList = joinLines Ls cur ∧ (∀ l ∈ Ls ++ [cur], ∀ c ∈ l, c ≠ 13) ∧ (∀ l ∈ Ls ++ [cur], okL l)) :
    Calls Tryd.prog 9 #[.string s] w fun e w' => e = .returned (.bool true) ∧ Below w.heap.size w w' := by
  obtain ⟨Ls, cur, h1, h2, h3⟩ := h
  obtain ⟨g1, g2⟩ := lines_of s Ls cur h1 h2 h3
  have := Lib.countB_le ⟨#[13, 10]⟩ (by decide) s.size s (Nat.le_refl _)
  exact lines_true s w (by omega) hm _ rfl g1 (by omega) g2

set_option maxHeartbeats 400000 in
theorem packed_any (w : World) : Calls Tryd.prog 4 #[] w fun e w' => e = .returned (.bool true) ∧ Below w.heap.size w w' := by
  have u1 : Hid (unpackS [84, 87, 70, 117] = some [77, 97, 110]) := by show _ = _; decide +kernel
  have u2 : Hid (packS [77] = [84, 81, 61, 61, 13, 10]) := by show _ = _; decide +kernel
  have u3 : Hid (quoteS [97, 61, 98, 32] = [97, 61, 51, 68, 98, 61, 50, 48]) := by show _ = _; decide +kernel
  go_enter Tryd.func4, Tryd.ntmps4
  go_wp2_with fail
  refine (unpack_back ⟨#[84, 87, 70, 117]⟩ ⟨#[77, 97, 110]⟩ _ (by decide) u1.out).mono ?_
  rintro e w1 ⟨rfl, hb1⟩
  go_wp2_with fail
  refine (pack_any ⟨#[77]⟩ _ (by decide)).mono ?_
  rintro e w2 ⟨rfl, hb2⟩
  rw [show packS (ByteArray.mk #[77]).data.toList = [84, 81, 61, 61, 13, 10] from u2.out]
  go_wp2_with fail
  refine (quote_any ⟨#[97, 61, 98, 32]⟩ _ (by decide)).mono ?_
  rintro e w3 ⟨rfl, hb3⟩
  rw [show quoteS (ByteArray.mk #[97, 61, 98, 32]).data.toList = [97, 61, 51, 68, 98, 61, 50, 48] from u3.out]
  go_wp2
  go_ret
  exact ⟨rfl, hb1.trans ((hb2.mono hb1.size).trans (hb3.mono (Nat.le_trans hb1.size hb2.size)))⟩

end Go.Proofs.YtkgpmahlkglaaaaDoor
