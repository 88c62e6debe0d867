import Derived.Test.YtnjjjkhhoaadfabGreatDoorZ1
import Derived.Test.YtnjjjkhhoaadfabGreatDoorZ3
import Derived.Test.YtnjjjkhhoaadfabGreatDoorZShelfJ
import Derived.Deep.LoopGhost
import Derived.Maps.AppendAt
namespace Go.Proofs.YtnjjjkhhoaadfabGreatDoor
open Go.RowKit

/- The reference's reader: what is left, and whether all was well. -/
theorem grown_set (w : World) (b k : Nat) (v : Value) : w.grownBy (w.setCell ⟨b, k, none⟩ v) (some b) :=
  ⟨rfl, rfl, rfl, by simp, fun k' _ hk => heap_setCell_other w ⟨b, k, none⟩ k' v (fun e => hk (by rw [e]))⟩
theorem grown_of {w w' : World} (h : Below w.heap.size w w') (row : Option Nat) : w.grownBy w' row := ⟨h.os, h.tape, h.output, h.size, fun i hi _ => h.block i hi⟩
theorem grown_refl (w : World) (row : Option Nat) : w.grownBy w row := ⟨rfl, rfl, rfl, Nat.le_refl _, fun _ _ _ => rfl⟩

theorem cons_get (s : ByteArray) (c : UInt8) (r : List UInt8) (h : s.data.toList = c :: r) : ∃ h0 : 0 < s.size, s[0] = c ∧ (s.extract 1 s.size).data.toList = r := by
  have h0 : 0 < s.size := by rw [← size_list, h]; simp
  have := head_split s h0
  rw [h] at this
  injection this with e1 e2
  exact ⟨h0, e1.symm, e2.symm⟩

theorem special_index (c : UInt8) : decide (0 ≤ Lib.indexByte specials c) = specials.contains c := by
  have key : ∀ n : Fin 256, decide (0 ≤ Lib.indexByte specials (UInt8.ofNat n.val)) = specials.contains (UInt8.ofNat n.val) := by decide +kernel
  have := key ⟨c.toNat, c.toNat_lt⟩
  simpa using this
theorem tokC_yes (c : UInt8) (h : tokC c = true) : 33 ≤ (c.toNat : Int) ∧ (c.toNat : Int) ≤ 126 ∧ Lib.indexByte specials c < 0 := by
  simp only [tokC, Bool.and_eq_true, decide_eq_true_eq, Bool.not_eq_true'] at h
  refine ⟨by omega, by omega, ?_⟩
  have := special_index c
  rw [h.2] at this
  have := of_decide_eq_false this
  omega
theorem tokC_no (c : UInt8) (h : tokC c = false) : (c.toNat : Int) < 33 ∨ (33 ≤ (c.toNat : Int) ∧ 126 < (c.toNat : Int)) ∨ (33 ≤ (c.toNat : Int) ∧ (c.toNat : Int) ≤ 126 ∧ 0 ≤ Lib.indexByte specials c) := by
  by_cases h1 : (c.toNat : Int) < 33
  · exact .inl h1
  · by_cases h2 : 126 < (c.toNat : Int)
    · exact .inr (.inl ⟨by omega, h2⟩)
    · refine .inr (.inr ⟨by omega, by omega, ?_⟩)
      have e := special_index c
      unfold tokC at h
      rw [decide_eq_true (by omega : 33 ≤ c.toNat), decide_eq_true (by omega : c.toNat ≤ 126)] at h
      have h' : specials.contains c = true := by simpa using h
      rw [h'] at e
      exact of_decide_eq_true e

theorem tokS_false (l : List UInt8) (h : l.all tokC = false) : tokS l = false := by unfold tokS; rw [h, Bool.and_false]
theorem tokS_end (s : ByteArray) (h : s.data.toList.all tokC = true) : tokS s.data.toList = !(s.toList.isEmpty) := by unfold tokS; rw [h, Bool.and_true, ByteArray.toList_eq]
theorem u8_back (c : UInt8) : ((c.toNat : Int).toNat.toUInt8) = c := by simp
theorem index_spec (s : ByteArray) (k : Nat) (h : k < s.size) (w : World) (z : Int) (hz : Lib.indexByte specials s[k] = z) : Calls Tryz.prog 147 #[.string ⟨#[40, 41, 60, 62, 64, 44, 59, 58, 92, 34, 47, 91, 93, 63, 61]⟩, .int .u8 (s[k].toNat : Int)] w fun e w' => e = .returned (.int .i64 z) ∧ w' = w := by
  refine (Tryz.strings_IndexByte _ _ w).mono ?_
  rintro e w' ⟨rfl, rfl⟩
  rw [u8_back, ← hz]
  exact ⟨rfl, rfl⟩

end Go.Proofs.YtnjjjkhhoaadfabGreatDoor

namespace Go.Proofs.YtnjjjkhhoaadfabGreatDoor
open Go.RowKit

theorem extract_one (s : ByteArray) (k : Nat) (h : k < s.size) : (s.extract k (k + 1)).data.toList = [s[k]] := by
  rw [extract_list, List.drop_eq_getElem_cons (by rw [size_list]; exact h)]
  simp
  rfl
theorem while_stop {p : UInt8 → Bool} (s : ByteArray) (k : Nat) (h : (s.data.toList.take k).all p = true) (hs : ∀ hk : k < s.size, p s[k] = false) : s.data.toList.takeWhile p = s.data.toList.take k ∧ s.data.toList.dropWhile p = s.data.toList.drop k := by
  have e : s.data.toList.take k ++ s.data.toList.drop k = s.data.toList := List.take_append_drop _ _
  have := takeWhile_app (p := p) (s.data.toList.take k) (s.data.toList.drop k) (List.all_eq_true.1 h) (by
    rw [List.head?_drop]
    by_cases hk : k < s.size
    · rw [getL s k hk]; simp [hs hk]
    · rw [List.getElem?_eq_none (by rw [size_list]; omega)]; rfl)
  rw [e] at this
  exact this

/- What stands in quotes. -/
theorem quoted_nil : quotedS [] = none := by unfold quotedS; rfl
theorem quoted_end (r : List UInt8) : quotedS (34 :: r) = some ([], r) := by unfold quotedS; rw [if_pos rfl]
theorem quoted_esc1 (d : UInt8) (r : List UInt8) : quotedS (92 :: d :: r) = if inC d then (quotedS r).map fun q => (d :: q.1, q.2) else none := by
  conv => lhs; unfold quotedS
  rw [if_neg (by decide), if_pos rfl]
theorem quoted_esc0 : quotedS [92] = none := by
  unfold quotedS
  rw [if_neg (by decide), if_pos rfl]
theorem quoted_on (c : UInt8) (r : List UInt8) (h1 : c ≠ 34) (h2 : c ≠ 92) : quotedS (c :: r) = if inC c then (quotedS r).map fun q => (c :: q.1, q.2) else none := by
  conv => lhs; unfold quotedS
  rw [if_neg h1, if_neg h2]
theorem quoted_one (c : UInt8) (h1 : c ≠ 34) : quotedS [c] = none := by
  by_cases h2 : c = 92
  · rw [h2]; exact quoted_esc0
  · rw [quoted_on c [] h1 h2, quoted_nil]
    split <;> rfl
theorem map_map_q (Q : Option (List UInt8 × List UInt8)) (o : List UInt8) (d : UInt8) : (Q.map fun q => (d :: q.1, q.2)).map (fun q => (o ++ q.1, q.2)) = Q.map fun q => (o ++ [d] ++ q.1, q.2) := by
  cases Q with
  | none => rfl
  | some q => simp

theorem inC_yes (c : UInt8) (h : inC c = true) : 32 ≤ (c.toNat : Int) ∧ (c.toNat : Int) ≤ 126 := by
  simp only [inC, Bool.and_eq_true, decide_eq_true_eq] at h
  exact ⟨by omega, by omega⟩
theorem inC_no (c : UInt8) (h : inC c = false) : ¬ (32 ≤ (c.toNat : Int) ∧ (c.toNat : Int) ≤ 126) := by
  rintro ⟨h1, h2⟩
  rw [inC, decide_eq_true (by omega), decide_eq_true (by omega)] at h
  cases h

end Go.Proofs.YtnjjjkhhoaadfabGreatDoor

namespace Go.Proofs.YtnjjjkhhoaadfabGreatDoor
open Go.RowKit

theorem quoted_step (Q : Option (List UInt8 × List UInt8)) (o : List UInt8) (l r : List UInt8) (d : UInt8) (h : Q = (quotedS l).map fun q => (o ++ q.1, q.2)) (hl : quotedS l = (quotedS r).map fun q => (d :: q.1, q.2)) : Q = (quotedS r).map fun q => (o ++ [d] ++ q.1, q.2) := by
  rw [h, hl, map_map_q]

end Go.Proofs.YtnjjjkhhoaadfabGreatDoor

