import Derived.Test.YtkmkhfgoihfkjaaDoorZLA
namespace Go.Proofs.YtkmkhfgoihfkjaaDoor
open Go.RowKit

/- Between the page in small letters, which the code looks at, and the page itself. -/
theorem all_u8 (P : UInt8 → Bool) (h : ∀ n : Fin 256, P (UInt8.ofNat n.val) = true) (c : UInt8) : P c = true := by
  have := h ⟨c.toNat, c.toNat_lt⟩
  have e : UInt8.ofNat c.toNat = c := by simp
  simpa only [e] using this
theorem eq_u8 (p q : UInt8 → Bool) (h : ∀ n : Fin 256, (p (UInt8.ofNat n.val) == q (UInt8.ofNat n.val)) = true) (c : UInt8) : p c = q c := beq_iff_eq.1 (all_u8 (fun c => p c == q c) h c)
def blanksL : List UInt8 := [32, 9, 13, 10]
def bareL : List UInt8 := [32, 9, 13, 10, 62]
def attrL : List UInt8 := [32, 9, 13, 10, 47, 61, 62]
def aheadL : List UInt8 := [32, 9, 13, 10, 47]
def lettersL : List UInt8 := [97, 98, 99, 100, 101, 102, 103, 104, 105, 106, 107, 108, 109, 110, 111, 112, 113, 114, 115, 116, 117, 118, 119, 120, 121, 122]
def alnumL : List UInt8 := lettersL ++ [48, 49, 50, 51, 52, 53, 54, 55, 56, 57]
theorem bare_c : ∀ c, (!bareL.contains (smallC c)) = bareC c := eq_u8 _ _ (by decide +kernel)
theorem attr_c : ∀ c, (!attrL.contains (smallC c)) = attrC c := eq_u8 _ _ (by decide +kernel)
theorem gap_c : ∀ c, blanksL.contains (smallC c) = gapC c := eq_u8 _ _ (by decide +kernel)
theorem ahead_c : ∀ c, aheadL.contains (smallC c) = skipC c := eq_u8 _ _ (by decide +kernel)
theorem alph_c : ∀ c, lettersL.contains (smallC c) = alphC c := eq_u8 _ _ (by decide +kernel)
theorem alnum_c : ∀ c, alnumL.contains (smallC c) = alnumC c := eq_u8 _ _ (by decide +kernel)
theorem quote_c : ∀ c, ([34, 39] : List UInt8).contains (smallC c) = (c == 34 || c == 39) := eq_u8 _ _ (by decide +kernel)
theorem mark_c : ∀ c, ([47, 33, 63] : List UInt8).contains (smallC c) = (c == 47 || (c == 33 || c == 63)) := eq_u8 _ _ (by decide +kernel)
theorem end_c : ∀ c, ([62] : List UInt8).contains (smallC c) = (c == 62) := eq_u8 _ _ (by decide +kernel)
theorem is_c : ∀ c, ([61] : List UInt8).contains (smallC c) = (c == 61) := eq_u8 _ _ (by decide +kernel)
theorem q34_c : ∀ c, (!([34] : List UInt8).contains (smallC c)) = (c != 34) := eq_u8 _ _ (by decide +kernel)
theorem q39_c : ∀ c, (!([39] : List UInt8).contains (smallC c)) = (c != 39) := eq_u8 _ _ (by decide +kernel)
theorem until_small (set : List UInt8) (p : UInt8 → Bool) (hp : ∀ c, (!set.contains (smallC c)) = p c) (l : List UInt8) (a : Nat) : untilN set (smallS l) a = ((l.drop a).takeWhile p).length := by
  unfold untilN smallS
  rw [← List.map_drop, List.takeWhile_map, List.length_map]
  congr 2
  funext c
  exact hp c
theorem run_small (set : List UInt8) (p : UInt8 → Bool) (hp : ∀ c, set.contains (smallC c) = p c) (l : List UInt8) (a : Nat) : runN set (smallS l) a = ((l.drop a).takeWhile p).length := by
  unfold runN smallS
  rw [← List.map_drop, List.takeWhile_map, List.length_map]
  congr 2
  funext c
  exact hp c
theorem isAt_small (set sm : ByteArray) (p : UInt8 → Bool) (hp : ∀ c, set.data.toList.contains (smallC c) = p c) (l : List UInt8) (hs : sm.data.toList = smallS l) (a : Nat) : isAtB set sm a = (l.drop a).head?.any p := by
  unfold isAtB
  rw [hs]
  unfold smallS
  rw [← List.map_drop, List.head?_map, Option.any_map]
  congr 1
  funext c
  exact hp c

end Go.Proofs.YtkmkhfgoihfkjaaDoor
