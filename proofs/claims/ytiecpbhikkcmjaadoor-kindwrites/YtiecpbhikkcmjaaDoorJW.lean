import Derived.Test.YtiecpbhikkcmjaaDoorJ5
import Derived.Test.YtiecpbhikkcmjaaDoorJQ
import Derived.Test.YtiecpbhikkcmjaaDoorShelfR
import Derived.Lib.CountLaws
import Derived.Lib.SplitLaws
import Derived.Lib.ReplaceLaws
namespace Go.Proofs.YtiecpbhikkcmjaaDoor
open Go.RowKit

/- Replacing a byte by two. -/
theorem index_cons_ne (b c : UInt8) (l : List UInt8) (h : b ≠ c) : Lib.index (b :: l) [c] = if Lib.index l [c] = -1 then -1 else Lib.index l [c] + 1 := by
  rw [index_one, index_one, Lib.indexByte]
  have h1 : (b == c) = false := by simpa using h
  rw [h1]
  simp
theorem replaceK_cons_ne (c : UInt8) (new : List UInt8) : ∀ (k : Nat) (b : UInt8) (l : List UInt8), b ≠ c → k ≤ Lib.count l [c] → Lib.replaceK [c] new k (b :: l) = b :: Lib.replaceK [c] new k l := by
  intro k b l hb hk
  cases k with
  | zero => rfl
  | succ k =>
    obtain ⟨i, hi⟩ := Lib.index_of_count (s := l) (old := [c]) (by omega)
    have h1 : Lib.index (b :: l) [c] = ((i + 1 : Nat) : Int) := by
      rw [index_cons_ne b c l hb, hi, if_neg (by omega)]; omega
    rw [Lib.replaceK_hit [c] new k (b :: l) (i + 1) h1, Lib.replaceK_hit [c] new k l i hi]
    simp
theorem replaceK_cons_eq (c : UInt8) (new : List UInt8) (k : Nat) (l : List UInt8) : Lib.replaceK [c] new (k + 1) (c :: l) = new ++ Lib.replaceK [c] new k l := by
  have h1 : Lib.index (c :: l) [c] = ((0 : Nat) : Int) := by
    rw [index_one, Lib.indexByte]; simp
  rw [Lib.replaceK_hit [c] new k (c :: l) 0 h1]
  simp
def dbl (c : UInt8) (new : List UInt8) (d : UInt8) : List UInt8 := if d = c then new else [d]
theorem replaceK_flat (c : UInt8) (new : List UInt8) (l : List UInt8) : Lib.replaceK [c] new (Lib.count l [c]) l = l.flatMap (dbl c new) := by
  induction l with
  | nil =>
    have : Lib.count [] [c] = 0 := by rw [Lib.count_one]; rfl
    rw [this]; rfl
  | cons d l ih =>
    by_cases hd : d = c
    · subst hd
      rw [Lib.count_cons_eq, Nat.add_comm, replaceK_cons_eq, ih, List.flatMap_cons]
      simp [dbl]
    · rw [Lib.count_cons_ne d c l hd, replaceK_cons_ne c new _ d l hd (Nat.le_refl _), ih, List.flatMap_cons]
      simp [dbl, hd]
theorem replace_flat (c : UInt8) (new : List UInt8) (l : List UInt8) (hn : ([c] == new) = false) : Lib.replaceAll l [c] new = l.flatMap (dbl c new) := by
  unfold Lib.replaceAll Lib.replace
  rw [hn, if_neg (by simp)]
  unfold Lib.replaceNum
  rw [if_pos (by left; omega)]
  exact replaceK_flat c new l
theorem dbl_len (c d : UInt8) (l : List UInt8) : (l.flatMap (dbl c [d, c])).length ≤ 2 * l.length := by
  induction l with
  | nil => exact Nat.le_refl _
  | cons x l ih =>
    rw [List.flatMap_cons, List.length_append, List.length_cons]
    have : (dbl c [d, c] x).length ≤ 2 := by unfold dbl; split <;> simp
    omega
theorem esc_two (l : List UInt8) : (l.flatMap (dbl 92 [92, 92])).flatMap (dbl 34 [92, 34]) = l.flatMap escC := by
  rw [List.flatMap_assoc]
  congr 1
  funext c
  have key : ∀ n : Fin 256, (dbl 92 [92, 92] (UInt8.ofNat n.val)).flatMap (dbl 34 [92, 34]) = escC (UInt8.ofNat n.val) := by decide +kernel
  have := key ⟨c.toNat, c.toNat_lt⟩
  simpa using this
theorem replace_any (s : ByteArray) (c : UInt8) (d : UInt8) (w : World) (hs : s.size ≤ 1000000) (hm : Max w) (hcd : ([c] == [d, c]) = false) :
    Calls Tryd.prog 122 #[.string s, .string ⟨#[c]⟩, .string ⟨#[d, c]⟩] w fun e w' => ∃ t, e = .returned (.string t) ∧ t.data.toList = s.data.toList.flatMap (dbl c [d, c]) ∧ Below w.heap.size w w' := by
  obtain ⟨_, x, hx⟩ := hm
  have hc := Lib.countB_le ⟨#[c]⟩ (by show 1 ≤ 1; omega) _ s (Nat.le_refl _)
  refine (Tryd.strings_ReplaceAll s ⟨#[c]⟩ ⟨#[d, c]⟩ x w (by omega) hx (by show 1 ≤ 1; omega) (by
    have : (⟨#[d, c]⟩ : ByteArray).size = 2 := rfl
    rw [this]; omega)).mono ?_
  rintro e w' ⟨rfl, hb⟩
  refine ⟨_, rfl, ?_, hb⟩
  exact replace_flat c [d, c] s.data.toList hcd

set_option maxHeartbeats 800000 in
set_option maxRecDepth 100000 in
theorem kwritten_any (s : ByteArray) (w : World) (hs : s.size ≤ 100000) (hm : Max w) :
    Calls Tryd.prog 90 #[.string s] w fun e w' => ∃ t, e = .returned (.string t) ∧ t.data.toList = valW s.data.toList ∧ t.size ≤ 4 * s.size + 2 ∧ Below w.heap.size w w' := by
  have HMx := Box.mk hm
  have hw0 := hm.1
  clear hm
  go_enter Tryd.func90, Tryd.ntmps90
  go_wp2_with fail
  refine (kisToken_any s _).mono ?_
  rintro e w1 ⟨rfl, hb1⟩
  have hsz1 := hb1.size
  cases ht : tokS s.data.toList
  · have HV : Box (valW s.data.toList = 34 :: (s.data.toList.flatMap escC ++ [34])) := ⟨by unfold valW; rw [ht]; rfl⟩
    clear ht
    go_wp2_with fail
    refine (replace_any s 92 92 _ (by omega) (HMx.out.below hb1 hw0) (by decide)).mono ?_
    rintro e w2 ⟨t1, rfl, h1, hb2⟩
    have b2 := hb1.trans (hb2.mono hsz1)
    have l1 := dbl_len 92 92 s.data.toList
    rw [← h1, size_list, size_list] at l1
    go_wp2_with fail
    refine (replace_any t1 34 92 _ (by omega) (HMx.out.below b2 hw0) (by decide)).mono ?_
    rintro e w3 ⟨t2, rfl, h2, hb3⟩
    have b3 := b2.trans (hb3.mono b2.size)
    have l2 := dbl_len 34 92 t1.data.toList
    rw [← h2, size_list, size_list] at l2
    have HE : Box (((⟨#[34]⟩ : ByteArray) ++ t2 ++ ⟨#[34]⟩).data.toList = valW s.data.toList) := ⟨by
      rw [HV.out, ← esc_two, ← h1, ← h2]; simp⟩
    have hz : ((⟨#[34]⟩ : ByteArray) ++ t2 ++ ⟨#[34]⟩).size ≤ 4 * s.size + 2 := by
      rw [ByteArray.size_append, ByteArray.size_append]
      show 1 + t2.size + 1 ≤ _
      omega
    have HZ := Box.mk hz
    clear hz h1 h2 HV
    go_wp2
    go_ret
    exact ⟨_, rfl, HE.out, HZ.out, b3⟩
  · have HV : Box (s.data.toList = valW s.data.toList) := ⟨by unfold valW; rw [ht]; rfl⟩
    clear ht
    go_wp2
    go_ret
    exact ⟨_, rfl, HV.out, by omega, hb1⟩

end Go.Proofs.YtiecpbhikkcmjaaDoor
