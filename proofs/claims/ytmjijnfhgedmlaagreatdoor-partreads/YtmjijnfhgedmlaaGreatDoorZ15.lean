import Derived.Test.YtmjijnfhgedmlaaGreatDoorZR8
import Derived.Test.YtmjijnfhgedmlaaGreatDoorZShelf2
namespace Go.Proofs.YtmjijnfhgedmlaaGreatDoor.Tx
open Go.RowKit Go.Proofs.Sx

theorem hexv_upper (c : UInt8) (h : c.toNat < 128) : digv (Lib.upperB c) = hexv c := by
  have key : ∀ n : Fin 128, digv (Lib.upperB (UInt8.ofNat n.val)) = hexv (UInt8.ofNat n.val) := by decide +kernel
  have := key ⟨c.toNat, h⟩
  simpa using this
theorem hexv_high (c : UInt8) (h : 126 < c.toNat) : hexv c < 0 := by
  have key : ∀ n : Fin 256, 126 < n.val → hexv (UInt8.ofNat n.val) < 0 := by decide +kernel
  have := key ⟨c.toNat, c.toNat_lt⟩ h
  simpa using this

theorem upper_one (c : UInt8) (w : World) (h : c.toNat < 128) :
    Calls Tryz.prog 45 #[.string ⟨#[c]⟩] w fun e w' => e = .returned (.string ⟨#[Lib.upperB c]⟩) ∧ Below w.heap.size w w' := by
  refine (Tryz.strings_ToUpper_ascii ⟨#[c]⟩ w (by simp [ByteArray.size]) ?_).mono ?_
  · intro j b hj
    have hl : j < 1 := by
      have := (List.getElem?_eq_some_iff.1 hj).1
      simpa using this
    have : j = 0 := by omega
    subst this
    simp at hj
    rw [← hj]; exact h
  · rintro e w' ⟨rfl, hb⟩
    exact ⟨rfl, hb⟩

set_option maxHeartbeats 1000000 in
theorem hexOf_any (c : UInt8) (w : World) (h : c.toNat < 128) :
    Calls Tryz.prog 28 #[.int .u8 (c.toNat : Int)] w fun e w' => e = .returned (.int .i64 (hexv c)) ∧ Below w.heap.size w w' := by
  have HV : Box (digv (Lib.upperB c) = hexv c) := ⟨hexv_upper c h⟩
  have hcv := one_str w c _ rfl
  go_enter Tryz.func28, Tryz.ntmps28
  go_wp2_with fail
  refine (upper_one c _ h).mono ?_
  rintro e w1 ⟨rfl, hb1⟩
  generalize Lib.upperB c = d at HV
  go_wp2_with (go_at_call 42; refine (idx_dig _ d rfl _).mono ?_; rintro e w' ⟨rfl, rfl⟩)
  go_ret
  exact ⟨ret_int HV.out, ((Below.refl _ _).alloc (Nat.le_refl _) _).trans (hb1.mono (by simp))⟩

end Go.Proofs.YtmjijnfhgedmlaaGreatDoor.Tx

namespace Go.Proofs.YtmjijnfhgedmlaaGreatDoor.Tx
open Go.RowKit Go.Proofs.Sx

/-- The lines of a text, one by one, behind what is there. -/
def linesRun : List ByteArray → List UInt8 → Option (List UInt8)
  | [], out => some out
  | a :: rest, out => (unquotedS (lineOf a.data.toList)).bind fun b => linesRun rest (out ++ b ++ if goesOn a.data.toList || rest.isEmpty then [] else [13, 10])

theorem linesRun_stop (a : ByteArray) (rest : List ByteArray) (out : List UInt8) (h : unquotedS (lineOf a.data.toList) = none) : linesRun (a :: rest) out = none := by
  unfold linesRun; rw [h]; rfl
theorem linesRun_on (a : ByteArray) (rest : List ByteArray) (out b : List UInt8) (h : unquotedS (lineOf a.data.toList) = some b) : linesRun (a :: rest) out = linesRun rest (out ++ b ++ if goesOn a.data.toList || rest.isEmpty then [] else [13, 10]) := by
  rw [linesRun, h]; rfl

theorem lines_uq : ∀ (f : Nat) (s : ByteArray) (out : List UInt8), s.size < f → linesRun (Lib.splitB ⟨#[13, 10]⟩ 0 (Lib.countB s ⟨#[13, 10]⟩) s) out = uqLoop f s.data.toList out
  | 0, s, out, h => by omega
  | f + 1, s, out, h => by
    rcases Lib.indexB_cases s ⟨#[13, 10]⟩ with hix | ⟨i, hix, hroom⟩
    · rw [Lib.splitB_miss _ _ _ _ hix]
      have hc : Lib.cut s.data.toList [13, 10] = (s.data.toList, [], false) := by
        unfold Lib.cut
        rw [if_neg (by rw [show Lib.index s.data.toList [13, 10] = -1 from hix]; decide)]
      cases hu : unquotedS (lineOf s.data.toList) with
      | none => rw [linesRun_stop _ _ _ hu, uqLoop_stop _ _ _ _ _ _ hc hu]
      | some b => rw [linesRun_on _ _ _ _ hu, uqLoop_end _ _ _ _ _ _ hc hu]; simp [linesRun]
    · have hcount := Lib.countB_hit s ⟨#[13, 10]⟩ i (by decide) hix
      have h2 : (ByteArray.mk #[13, 10]).size = 2 := rfl
      rw [hcount, Nat.add_comm, Lib.splitB_hit _ _ _ _ i hix]
      rw [h2] at hroom ⊢
      have hc : Lib.cut s.data.toList [13, 10] = ((s.extract 0 (i + 0)).data.toList, (s.extract (i + 2) s.size).data.toList, true) := by
        have hi : Lib.index s.data.toList [13, 10] = (i : Int) := hix
        unfold Lib.cut
        rw [if_pos (by omega), hi, extract_list, extract_list]
        simp only [Nat.add_zero, Nat.sub_zero, List.drop_zero]
        rw [show ((i : Int).toNat) = i from by omega]
        rw [List.take_of_length_le (i := s.size - (i + 2)) (by rw [List.length_drop, size_list]; omega)]
        rfl
      have hs2 : (s.extract (i + 2) s.size).size = s.size - (i + 2) := by rw [ByteArray.size_extract]; omega
      have hne : (Lib.splitB ⟨#[13, 10]⟩ 0 (Lib.countB (s.extract (i + 2) s.size) ⟨#[13, 10]⟩) (s.extract (i + 2) s.size)).isEmpty = false := by
        have := Lib.splitB_all ⟨#[13, 10]⟩ (by decide) 0 _ (s.extract (i + 2) s.size) rfl
        rw [← Bool.not_eq_true, List.isEmpty_iff]
        intro e
        rw [e] at this
        cases this
      cases hu : unquotedS (lineOf (s.extract 0 (i + 0)).data.toList) with
      | none => rw [linesRun_stop _ _ _ hu, uqLoop_stop _ _ _ _ _ _ hc hu]
      | some b =>
        rw [linesRun_on _ _ _ _ hu, uqLoop_on _ _ _ _ _ _ hc hu, hne, Bool.or_false]
        exact lines_uq f _ _ (by omega)

theorem split_size : ∀ (k : Nat) (s : ByteArray), ∀ x ∈ Lib.splitB ⟨#[13, 10]⟩ 0 k s, x.size ≤ s.size
  | 0, s, x, hx => by
    rw [Lib.splitB_zero] at hx
    simp at hx
    rw [hx]; exact Nat.le_refl _
  | k + 1, s, x, hx => by
    rcases Lib.indexB_cases s ⟨#[13, 10]⟩ with hix | ⟨i, hix, hroom⟩
    · rw [Lib.splitB_miss _ _ _ _ hix] at hx
      simp at hx
      rw [hx]; exact Nat.le_refl _
    · rw [Lib.splitB_hit _ _ _ _ i hix] at hx
      rcases List.mem_cons.1 hx with rfl | hx
      · rw [ByteArray.size_extract]; omega
      · have := split_size k _ x hx
        rw [ByteArray.size_extract] at this
        omega

theorem last_split (t : ByteArray) (h : t.size - 1 < t.size) : t.data.toList = (t.extract 0 (t.size - 1)).data.toList ++ [t[t.size - 1]] := by
  rw [extract_list, List.drop_zero, Nat.sub_zero]
  have h1 := take_snoc t (t.size - 1) h
  rw [show t.size - 1 + 1 = t.size from by omega, List.take_of_length_le (by rw [size_list]; omega)] at h1
  exact h1
theorem first_split (t : ByteArray) (h : 0 < t.size) : t.data.toList = t[0] :: (t.extract 1 t.size).data.toList := by
  rw [extract_list, List.take_of_length_le (by rw [List.length_drop, size_list]; omega)]
  have h1 : 0 < t.data.toList.length := by rw [size_list]; exact h
  have : t.data.toList = t.data.toList[0] :: t.data.toList.drop 1 := by
    rw [List.getElem_cons_drop]; rfl
  exact this

theorem trim_yes (l : List UInt8) (c : UInt8) (h : c = 32 ∨ c = 9) : Lib.trimRightS (l ++ [c]) [32, 9] = Lib.trimRightS l [32, 9] := by
  unfold Lib.trimRightS
  rw [List.reverse_append]
  show (List.dropWhile _ (c :: l.reverse)).reverse = _
  rw [List.dropWhile_cons_of_pos]
  rcases h with rfl | rfl <;> rfl
theorem trim_no (l : List UInt8) (c : UInt8) (h1 : c ≠ 32) (h2 : c ≠ 9) : Lib.trimRightS (l ++ [c]) [32, 9] = l ++ [c] := by
  unfold Lib.trimRightS
  rw [List.reverse_append]
  show (List.dropWhile _ (c :: l.reverse)).reverse = _
  rw [List.dropWhile_cons_of_neg]
  · simp
  · simp [h1, h2]
theorem suffix_61 (l : List UInt8) (c : UInt8) : Lib.hasSuffix (l ++ [c]) [61] = (c == 61) := by
  unfold Lib.hasSuffix List.isSuffixOf
  rw [List.reverse_append]
  show List.isPrefixOf [61] (c :: l.reverse) = _
  simp only [List.isPrefixOf, Bool.and_true]
  rw [Bool.beq_comm]
theorem line_yes (a t : List UInt8) (h : Lib.trimRightS a [32, 9] = t ++ [61]) : lineOf a = t ∧ goesOn a = true := by
  unfold lineOf goesOn Lib.trimSuffix
  rw [h, suffix_61]
  simp
theorem line_no (a t : List UInt8) (c : UInt8) (hc : c ≠ 61) (h : Lib.trimRightS a [32, 9] = t ++ [c]) : lineOf a = t ++ [c] ∧ goesOn a = false := by
  unfold lineOf goesOn Lib.trimSuffix
  rw [h, suffix_61]
  have : (c == 61) = false := by rw [beq_eq_false_iff_ne]; exact hc
  rw [this]
  simp
theorem line_nil (a : List UInt8) (h : Lib.trimRightS a [32, 9] = []) : lineOf a = [] ∧ goesOn a = false := by
  unfold lineOf goesOn
  rw [h]
  exact ⟨rfl, rfl⟩

/-- What a line stands for, from a place between two signs on. -/
def uqRest (o : List UInt8) (V : Nat) (l : List UInt8) : Option (List UInt8) := (l.foldl (fun q c => q.bind fun q => uqStep q c) (some (o, V, 0))).bind fun q => if q.2.2 = 0 then some q.1 else none
theorem uq_fold_none (l : List UInt8) : l.foldl (fun q c => q.bind fun q => uqStep q c) none = none := by
  induction l with
  | nil => rfl
  | cons c l ih => exact ih
theorem uqRest_start (l : List UInt8) : unquotedS l = uqRest [] 0 l := rfl
theorem uqRest_nil (o : List UInt8) (V : Nat) : uqRest o V [] = some o := rfl
theorem uqRest_char (o : List UInt8) (V : Nat) (c : UInt8) (l : List UInt8) (h : c ≠ 61) (hq : (isLetter c || isBlank c) = true) : uqRest o V (c :: l) = uqRest (o ++ [c]) V l := by
  unfold uqRest
  rw [List.foldl_cons, Option.bind_some, uqStep_zero, if_neg h, hq]; rfl
theorem uqRest_bad (o : List UInt8) (V : Nat) (c : UInt8) (l : List UInt8) (h : c ≠ 61) (hq : (isLetter c || isBlank c) = false) : uqRest o V (c :: l) = none := by
  unfold uqRest
  rw [List.foldl_cons, Option.bind_some, uqStep_zero, if_neg h, hq]
  rw [if_neg (by decide), uq_fold_none]; rfl
theorem uqRest_short (o : List UInt8) (V : Nat) (l : List UInt8) (h : l.length < 2) : uqRest o V (61 :: l) = none := by
  unfold uqRest
  rw [List.foldl_cons, Option.bind_some, uqStep_zero, if_pos rfl]
  match l, h with
  | [], _ => rfl
  | [a], _ =>
    rw [List.foldl_cons, Option.bind_some, uqStep_two]
    split <;> rfl
theorem uqRest_hex (o : List UInt8) (V : Nat) (a b : UInt8) (l : List UInt8) (ha : ¬ hexv a < 0) (hb : ¬ hexv b < 0) : uqRest o V (61 :: a :: b :: l) = uqRest (o ++ [UInt8.ofNat ((hexv a).toNat * 16 + (hexv b).toNat)]) ((hexv a).toNat * 16 + (hexv b).toNat) l := by
  unfold uqRest
  rw [List.foldl_cons, Option.bind_some, uqStep_zero, if_pos rfl]
  rw [List.foldl_cons, Option.bind_some, uqStep_two, if_neg ha]
  rw [List.foldl_cons, Option.bind_some, uqStep_one, if_neg hb]
theorem uqRest_hex1 (o : List UInt8) (V : Nat) (a : UInt8) (l : List UInt8) (ha : hexv a < 0) : uqRest o V (61 :: a :: l) = none := by
  unfold uqRest
  rw [List.foldl_cons, Option.bind_some, uqStep_zero, if_pos rfl]
  rw [List.foldl_cons, Option.bind_some, uqStep_two, if_pos ha, uq_fold_none]; rfl
theorem uqRest_hex2 (o : List UInt8) (V : Nat) (a b : UInt8) (l : List UInt8) (hb : hexv b < 0) : uqRest o V (61 :: a :: b :: l) = none := by
  unfold uqRest
  rw [List.foldl_cons, Option.bind_some, uqStep_zero, if_pos rfl]
  rw [List.foldl_cons, Option.bind_some, uqStep_two]
  by_cases ha : hexv a < 0
  · rw [if_pos ha, uq_fold_none]; rfl
  · rw [if_neg ha, List.foldl_cons, Option.bind_some, uqStep_one, if_pos hb, uq_fold_none]; rfl

theorem split_max (s : ByteArray) (w : World) (hs : s.size ≤ 3000) (hm : Max w) :
    Calls Tryz.prog 27 #[.string s, .string ⟨#[13, 10]⟩] w fun e w' => ∃ (n g : Nat) (L : List ByteArray), e = .returned (.slice (some ⟨g, 0, none⟩) n n) ∧ L.length = n ∧ 1 ≤ n ∧ n ≤ 3001 ∧ g < w'.heap.size ∧ (∀ k (hk : k < L.length), w'.cell? ⟨g, k, none⟩ = some (.string L[k])) ∧ (∀ x ∈ L, x.size ≤ 3000) ∧ linesRun L [] = unquoteS s.data.toList ∧ Below w.heap.size w w' := by
  obtain ⟨_, m, hm⟩ := hm
  refine (Tryz.strings_Split s ⟨#[13, 10]⟩ m w (by omega) hm (by decide)).mono ?_
  rintro e w' ⟨rfl, rfl⟩
  have hlen := Lib.splitB_all ⟨#[13, 10]⟩ (by decide) 0 _ s rfl
  have hcnt := Lib.countB_le ⟨#[13, 10]⟩ (by decide) _ s (Nat.le_refl _)
  refine ⟨_, _, Lib.splitB ⟨#[13, 10]⟩ 0 (Lib.countB s ⟨#[13, 10]⟩) s, rfl, hlen, by omega, by omega, by simp, ?_, ?_, ?_, (Below.refl _ _).alloc (Nat.le_refl _) _⟩
  · intro k hk
    simp
  · intro x hx
    have := split_size _ _ x hx
    omega
  · unfold unquoteS
    rw [size_list]
    exact lines_uq _ s [] (by omega)

end Go.Proofs.YtmjijnfhgedmlaaGreatDoor.Tx

