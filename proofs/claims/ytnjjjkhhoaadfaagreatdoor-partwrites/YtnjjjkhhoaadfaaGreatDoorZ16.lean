import Derived.Test.YtnjjjkhhoaadfaaGreatDoorZ1
import Derived.Test.YtnjjjkhhoaadfaaGreatDoorZ3
import Derived.Test.YtnjjjkhhoaadfaaGreatDoorZShelfJ
import Derived.Deep.LoopGhost
import Derived.Maps.AppendAt
namespace Go.Proofs.YtnjjjkhhoaadfaaGreatDoor
open Go.RowKit

/- The reference's reader: what is left, and whether all was well. -/
def RS (w : World) (b : Nat) (s : ByteArray) (ok : Bool) : Prop := w.heap[b]? = some (.cells #[.string s, .bool ok] 153 (0, 0))

theorem RS.cells {w : World} {b : Nat} {s : ByteArray} {ok : Bool} (h : RS w b s ok) : w.cell? ⟨b, 0, none⟩ = some (.string s) ∧ w.cell? ⟨b, 1, none⟩ = some (.bool ok) ∧ w.frozen? ⟨b, 0, none⟩ = false ∧ w.frozen? ⟨b, 1, none⟩ = false ∧ b < w.heap.size := by
  have h' : w.heap[b]? = _ := h
  refine ⟨by simp [World.cell?, h'], by simp [World.cell?, h'], by simp [World.frozen?, h'], by simp [World.frozen?, h'], (Array.getElem?_eq_some_iff.1 h').1⟩
theorem RS.setS {w : World} {b : Nat} {s : ByteArray} {ok : Bool} (h : RS w b s ok) (t : ByteArray) : RS (w.setCell ⟨b, 0, none⟩ (.string t)) b t ok := by
  unfold RS
  rw [setCell_eq_setRow w b 0 _ _ _ _ h]
  exact setRow_heap w b _ _ _ _ h
theorem RS.setO {w : World} {b : Nat} {s : ByteArray} {ok : Bool} (h : RS w b s ok) (q : Bool) : RS (w.setCell ⟨b, 1, none⟩ (.bool q)) b s q := by
  unfold RS
  rw [setCell_eq_setRow w b 1 _ _ _ _ h]
  exact setRow_heap w b _ _ _ _ h
theorem RS.below {w w' : World} {b C : Nat} {s : ByteArray} {ok : Bool} (h : RS w b s ok) (hb : Below C w w') (hC : b < C) : RS w' b s ok := (hb.block b hC).trans h
theorem grown_set (w : World) (b k : Nat) (v : Value) : w.grownBy (w.setCell ⟨b, k, none⟩ v) (some b) :=
  ⟨rfl, rfl, rfl, by simp, fun k' _ hk => heap_setCell_other w ⟨b, k, none⟩ k' v (fun e => hk (by rw [e]))⟩
theorem grown_of {w w' : World} (h : Below w.heap.size w w') (row : Option Nat) : w.grownBy w' row := ⟨h.os, h.tape, h.output, h.size, fun i hi _ => h.block i hi⟩
theorem grown_refl (w : World) (row : Option Nat) : w.grownBy w row := ⟨rfl, rfl, rfl, Nat.le_refl _, fun _ _ _ => rfl⟩

theorem cons_get (s : ByteArray) (c : UInt8) (r : List UInt8) (h : s.data.toList = c :: r) : ∃ h0 : 0 < s.size, s[0] = c ∧ (s.extract 1 s.size).data.toList = r := by
  have h0 : 0 < s.size := by rw [← size_list, h]; simp
  have := head_split s h0
  rw [h] at this
  injection this with e1 e2
  exact ⟨h0, e1.symm, e2.symm⟩

set_option maxHeartbeats 800000 in
theorem take_yes (b : Nat) (s : ByteArray) (ok : Bool) (c : UInt8) (r : List UInt8) (w : World) (h : RS w b s ok) (hs : s.data.toList = c :: r) :
    Calls Tryz.prog 111 #[.pointer (some ⟨b, 0, none⟩), .int .u8 (c.toNat : Int)] w fun e w' => e = .returned (.bool true) ∧ ∃ t, RS w' b t ok ∧ t.data.toList = r ∧ w.grownBy w' (some b) := by
  obtain ⟨h0, h1, h2⟩ := cons_get s c r hs
  obtain ⟨c0, c1, f0, f1, hb⟩ := h.cells
  have he := nonempty_of s (by omega)
  have hx : ((s[0].toNat : Int) != (c.toNat : Int)) = false := by rw [u8bne, h1]; simp
  have HR := Box.mk (h.setS (s.extract 1 s.size))
  have H2 := Box.mk h2
  clear h2 hs
  go_enter Tryz.func111, Tryz.ntmps111
  go_wp2
  go_ret
  exact ⟨rfl, _, HR.out, H2.out, grown_set _ _ _ _⟩

set_option maxHeartbeats 800000 in
theorem take_no (b : Nat) (s : ByteArray) (ok : Bool) (c : UInt8) (w : World) (h : RS w b s ok) (hs : s.data.toList.head? ≠ some c) :
    Calls Tryz.prog 111 #[.pointer (some ⟨b, 0, none⟩), .int .u8 (c.toNat : Int)] w fun e w' => e = .returned (.bool false) ∧ w' = w := by
  obtain ⟨c0, c1, f0, f1, hb⟩ := h.cells
  by_cases h0 : s.size = 0
  · have he := empty_of s h0
    go_enter Tryz.func111, Tryz.ntmps111
    go_wp2
    go_ret
    exact ⟨rfl, rfl⟩
  · have he := nonempty_of s h0
    have hp : 0 < s.size := by omega
    have hx : ((s[0].toNat : Int) != (c.toNat : Int)) = true := by
      rw [u8bne]
      have e := head_split s hp
      rw [e] at hs
      simpa using hs
    clear hs
    go_enter Tryz.func111, Tryz.ntmps111
    go_wp2
    go_ret
    exact ⟨rfl, rfl⟩

set_option maxHeartbeats 800000 in
theorem blanks_any (b : Nat) (s : ByteArray) (ok : Bool) (w : World) (h : RS w b s ok) :
    Calls Tryz.prog 112 #[.pointer (some ⟨b, 0, none⟩)] w fun e w' => e = .returned (.tuple #[]) ∧ ∃ t, RS w' b t ok ∧ t.data.toList = dropB s.data.toList ∧ w.grownBy w' (some b) := by
  go_enter Tryz.func112, Tryz.ntmps112
  go_wp2
  go_loopg [] s.size (fun gf wx => ∃ t : ByteArray, RS wx b t ok ∧ Box (dropB t.data.toList = dropB s.data.toList) ∧ w.grownBy wx (some b) ∧ t.size ≤ gf)
  case atStart => exact ⟨s, h, ⟨rfl⟩, grown_refl _ _, Nat.le_refl _⟩
  case round =>
    obtain ⟨t, hr, HT, hg, hgf⟩ := hrel
    obtain ⟨c0, c1, f0, f1, hb⟩ := hr.cells
    by_cases hgo : ∃ h : 0 < t.size, blk t[0] = true
    · obtain ⟨hp, hbl⟩ := hgo
      have he := nonempty_of t (by omega)
      have HT' : Box (dropB (t.extract 1 t.size).data.toList = dropB s.data.toList) := ⟨by rw [← HT.out, head_split t hp, dropB_cons _ _ hbl]⟩
      have hsz : (t.extract 1 t.size).size = t.size - 1 := by simp [ByteArray.size_extract]
      have HR := Box.mk (hr.setS (t.extract 1 t.size))
      clear HT
      go_wp2_with (go_at_call 94; refine (rBlank_any _ _).mono ?_; rintro e w' ⟨rfl, rfl⟩)
      go_roundg (t.size - 1)
      case measure => omega
      case rel => exact ⟨_, HR.out, HT', hg.trans (grown_set _ _ _ _), by omega⟩
    · have HD : Box (t.data.toList = dropB s.data.toList) := ⟨by
        rw [← HT.out]
        symm
        apply dropB_self
        by_cases h0 : t.size = 0
        · exact head_none t h0
        · exact head_one t (by omega) (by
            cases hb : blk t[0]
            · rfl
            · exact absurd ⟨by omega, hb⟩ hgo)⟩
      have hx : t.toList.isEmpty = true ∨ ∃ h : 0 < t.size, (t.toList.isEmpty = false ∧ blk t[0] = false) := by
        by_cases h0 : t.size = 0
        · exact .inl (empty_of t h0)
        · refine .inr ⟨by omega, nonempty_of t h0, ?_⟩
          cases hb : blk t[0]
          · rfl
          · exact absurd ⟨by omega, hb⟩ hgo
      clear hgo HT
      rcases hx with he | ⟨hp, he, hbl⟩
      all_goals
        go_wp2_with (go_at_call 94; refine (rBlank_any _ _).mono ?_; rintro e w' ⟨rfl, rfl⟩)
        go_end0
        exact ⟨rfl, _, hr, HD.out, hg⟩

theorem special_index (c : UInt8) : decide (0 ≤ Lib.indexByte specials c) = specials.contains c := by
  have key : ∀ n : Fin 256, decide (0 ≤ Lib.indexByte specials (UInt8.ofNat n.val)) = specials.contains (UInt8.ofNat n.val) := by decide +kernel
  have := key ⟨c.toNat, c.toNat_lt⟩
  simpa using this
theorem tokC_yes (c : UInt8) (h : tokC c = true) : 33 ≤ (c.toNat : Int) ∧ (c.toNat : Int) ≤ 126 ∧ Lib.indexByte specials c < 0 := by
  simp only [tokC, Bool.and_eq_true, decide_eq_true_eq, Bool.not_eq_true'] at h
  refine ⟨by omega, by omega, ?_⟩
  have := special_index c
  rw [h.2] at this
  have := of_decide_eq_false this
  omega
theorem tokC_no (c : UInt8) (h : tokC c = false) : (c.toNat : Int) < 33 ∨ (33 ≤ (c.toNat : Int) ∧ 126 < (c.toNat : Int)) ∨ (33 ≤ (c.toNat : Int) ∧ (c.toNat : Int) ≤ 126 ∧ 0 ≤ Lib.indexByte specials c) := by
  by_cases h1 : (c.toNat : Int) < 33
  · exact .inl h1
  · by_cases h2 : 126 < (c.toNat : Int)
    · exact .inr (.inl ⟨by omega, h2⟩)
    · refine .inr (.inr ⟨by omega, by omega, ?_⟩)
      have e := special_index c
      unfold tokC at h
      rw [decide_eq_true (by omega : 33 ≤ c.toNat), decide_eq_true (by omega : c.toNat ≤ 126)] at h
      have h' : specials.contains c = true := by simpa using h
      rw [h'] at e
      exact of_decide_eq_true e

theorem tokS_false (l : List UInt8) (h : l.all tokC = false) : tokS l = false := by unfold tokS; rw [h, Bool.and_false]
theorem tokS_end (s : ByteArray) (h : s.data.toList.all tokC = true) : tokS s.data.toList = !(s.toList.isEmpty) := by unfold tokS; rw [h, Bool.and_true, ByteArray.toList_eq]
theorem u8_back (c : UInt8) : ((c.toNat : Int).toNat.toUInt8) = c := by simp
theorem index_spec (s : ByteArray) (k : Nat) (h : k < s.size) (w : World) (z : Int) (hz : Lib.indexByte specials s[k] = z) : Calls Tryz.prog 42 #[.string ⟨#[40, 41, 60, 62, 64, 44, 59, 58, 92, 34, 47, 91, 93, 63, 61]⟩, .int .u8 (s[k].toNat : Int)] w fun e w' => e = .returned (.int .i64 z) ∧ w' = w := by
  refine (Tryz.strings_IndexByte _ _ w).mono ?_
  rintro e w' ⟨rfl, rfl⟩
  rw [u8_back, ← hz]
  exact ⟨rfl, rfl⟩

set_option maxHeartbeats 1600000 in
set_option maxRecDepth 100000 in
theorem rToken_any (s : ByteArray) (w : World) (hl : s.size ≤ 1000000) :
    Calls Tryz.prog 115 #[.string s] w fun e w' => e = .returned (.bool (tokS s.data.toList)) ∧ w' = w := by
  go_enter Tryz.func115, Tryz.ntmps115
  go_wp2
  go_loop [6] (fun i => ∃ k : Nat, k ≤ s.size ∧ i = .int .i64 k ∧ Box ((s.data.toList.take k).all tokC = true)) (fun i => s.size - (intOf i).toNat)
  case atStart => exact ⟨0, Nat.zero_le _, rfl, ⟨rfl⟩⟩
  case round =>
    obtain ⟨k, hk, rfl, HA⟩ := hrel
    by_cases hlt : k < s.size
    · have hbyte : (s[k].toNat : Int) < 256 := by have := s[k].toNat_lt; omega
      obtain ⟨z, HZ⟩ : ∃ z, Box (Lib.indexByte specials s[k] = z) := ⟨_, ⟨rfl⟩⟩
      cases hc : tokC s[k]
      · have HF : Box (tokS s.data.toList = false) := ⟨tokS_false _ (all_stop s k hlt hc)⟩
        have hx := tokC_no _ hc
        rw [HZ.out] at hx
        clear hc HA
        rcases hx with x1 | ⟨x1, x2⟩ | ⟨x1, x2, x3⟩
        · go_wp2_with (go_at_call 29; refine (in_no _ _ _ _ (fun h => by omega)).mono ?_; rintro e w' ⟨rfl, rfl⟩)
          go_ret
          exact ⟨ret_bool HF.out.symm, rfl⟩
        · go_wp2_with (go_at_call 29; refine (in_no _ _ _ _ (fun h => by omega)).mono ?_; rintro e w' ⟨rfl, rfl⟩)
          go_ret
          exact ⟨ret_bool HF.out.symm, rfl⟩
        · go_wp2_with (first | (go_at_call 29; refine (in_yes _ _ _ _ x1 x2).mono ?_; rintro e w' ⟨rfl, rfl⟩) | (go_at_call 42; refine (index_spec s k hlt _ z HZ.out).mono ?_; rintro e w' ⟨rfl, rfl⟩))
          go_ret
          exact ⟨ret_bool HF.out.symm, rfl⟩
      · have HA' : Box ((s.data.toList.take (k + 1)).all tokC = true) := ⟨all_on s k hlt HA.out hc⟩
        have hx := tokC_yes _ hc
        rw [HZ.out] at hx
        obtain ⟨x1, x2, x3⟩ := hx
        clear hc HA
        go_wp2_with (first | (go_at_call 29; refine (in_yes _ _ _ _ x1 x2).mono ?_; rintro e w' ⟨rfl, rfl⟩) | (go_at_call 42; refine (index_spec s k hlt _ z HZ.out).mono ?_; rintro e w' ⟨rfl, rfl⟩))
        go_round
        case rel => exact ⟨k + 1, by omega, by go_num, HA'⟩
        case measure => simp [intOf]; omega
    · have HF : Box (tokS s.data.toList = !(s.toList.isEmpty)) := ⟨tokS_end s (by rw [← take_all s k hlt]; exact HA.out)⟩
      clear HA
      go_wp2
      go_ret
      exact ⟨ret_bool HF.out.symm, rfl⟩

end Go.Proofs.YtnjjjkhhoaadfaaGreatDoor

namespace Go.Proofs.YtnjjjkhhoaadfaaGreatDoor
open Go.RowKit

theorem extract_one (s : ByteArray) (k : Nat) (h : k < s.size) : (s.extract k (k + 1)).data.toList = [s[k]] := by
  rw [extract_list, List.drop_eq_getElem_cons (by rw [size_list]; exact h)]
  simp
  rfl
theorem token1 (s : ByteArray) (k : Nat) (h : k < s.size) (q : Bool) (hq : tokC s[k] = q) (w : World) :
    Calls Tryz.prog 115 #[.string (s.extract k (k + 1))] w fun e w' => e = .returned (.bool q) ∧ w' = w := by
  refine (rToken_any _ w (by rw [← size_list, extract_one s k h]; simp)).mono ?_
  rintro e w' ⟨rfl, rfl⟩
  refine ⟨ret_bool ?_, rfl⟩
  rw [extract_one s k h, ← hq]
  simp [tokS]
theorem while_stop {p : UInt8 → Bool} (s : ByteArray) (k : Nat) (h : (s.data.toList.take k).all p = true) (hs : ∀ hk : k < s.size, p s[k] = false) : s.data.toList.takeWhile p = s.data.toList.take k ∧ s.data.toList.dropWhile p = s.data.toList.drop k := by
  have e : s.data.toList.take k ++ s.data.toList.drop k = s.data.toList := List.take_append_drop _ _
  have := takeWhile_app (p := p) (s.data.toList.take k) (s.data.toList.drop k) (List.all_eq_true.1 h) (by
    rw [List.head?_drop]
    by_cases hk : k < s.size
    · rw [getL s k hk]; simp [hs hk]
    · rw [List.getElem?_eq_none (by rw [size_list]; omega)]; rfl)
  rw [e] at this
  exact this

def TPost (T U : List UInt8) (b : Nat) (ok : Bool) (w : World) (e : Ending) (w' : World) : Prop :=
  ∃ t u, e = .returned (.string t) ∧ t.data.toList = T ∧ RS w' b u (ok && !T.isEmpty) ∧ u.data.toList = U ∧ w.grownBy w' (some b)
set_option maxHeartbeats 1600000 in
set_option maxRecDepth 100000 in
theorem rtoken_any (b : Nat) (s : ByteArray) (ok : Bool) (w : World) (h : RS w b s ok) (hl : s.size ≤ 1000000) :
    Calls Tryz.prog 113 #[.pointer (some ⟨b, 0, none⟩)] w fun e w' => TPost (s.data.toList.takeWhile tokC) (s.data.toList.dropWhile tokC) b ok w e w' := by
  obtain ⟨T, HT⟩ : ∃ T, Box (T = s.data.toList.takeWhile tokC) := ⟨_, ⟨rfl⟩⟩
  obtain ⟨U, HU⟩ : ∃ U, Box (U = s.data.toList.dropWhile tokC) := ⟨_, ⟨rfl⟩⟩
  rw [← HT.out, ← HU.out]
  obtain ⟨c0, c1, f0, f1, hb⟩ := h.cells
  have HR := Box.mk h
  clear h
  go_enter Tryz.func113, Tryz.ntmps113
  go_wp2
  go_loop [3] (fun i => ∃ k : Nat, k ≤ s.size ∧ i = .int .i64 k ∧ Box ((s.data.toList.take k).all tokC = true)) (fun i => s.size - (intOf i).toNat)
  case atStart => exact ⟨0, Nat.zero_le _, rfl, ⟨rfl⟩⟩
  case round =>
    obtain ⟨k, hk, rfl, HA⟩ := hrel
    by_cases hgo : ∃ h : k < s.size, tokC s[k] = true
    · obtain ⟨hlt, hc⟩ := hgo
      have HA' : Box ((s.data.toList.take (k + 1)).all tokC = true) := ⟨all_on s k hlt HA.out hc⟩
      have HC := Box.mk hc
      clear HA HT HU hc
      go_wp2_with (go_at_call 115; refine (token1 s k hlt _ HC.out _).mono ?_; rintro e w' ⟨rfl, rfl⟩)
      go_round
      case rel => exact ⟨k + 1, by omega, by go_num, HA'⟩
      case measure => simp [intOf]; omega
    · have hst : ∀ hk : k < s.size, tokC s[k] = false := fun hk => by
        cases hc : tokC s[k]
        · rfl
        · exact absurd ⟨hk, hc⟩ hgo
      obtain ⟨e1, e2⟩ := while_stop s k HA.out hst
      have HT' : Box ((s.extract 0 k).data.toList = T) := ⟨by rw [HT.out, e1, extract_list]; simp⟩
      have HU' : Box ((s.extract k s.size).data.toList = U) := ⟨by rw [HU.out, e2, extract_list, List.take_of_length_le (by rw [List.length_drop, size_list]; exact Nat.le_refl _)]⟩
      have HE : Box (T.isEmpty = decide (k = 0)) := ⟨by
        rw [HT.out, e1, Bool.eq_iff_iff, List.isEmpty_iff, decide_eq_true_iff]
        constructor
        · intro h
          have := congrArg List.length h
          rw [List.length_take, size_list, List.length_nil] at this
          omega
        · rintro rfl; rfl⟩
      clear HT HU e1 e2 HA hgo
      have HS := Box.mk (fun q => (HR.out.setO q).setS (s.extract k s.size))
      have HG : Box (∀ q : Bool, w.grownBy ((w.setCell ⟨b, 1, none⟩ (.bool q)).setCell ⟨b, 0, none⟩ (.string (s.extract k s.size))) (some b)) := ⟨fun q => (grown_set _ _ _ _).trans (grown_set _ _ _ _)⟩
      clear HR
      have HD : Box ((true && !decide (k = 0)) = decide (0 < k)) := ⟨by rw [Bool.true_and, Bool.eq_iff_iff]; simp; omega⟩
      by_cases hlt : k < s.size
      · have HC : Box (tokC s[k] = false) := ⟨hst hlt⟩
        clear hst
        cases ok
        · go_wp2_with (go_at_call 115; refine (token1 s k hlt _ HC.out _).mono ?_; rintro e w' ⟨rfl, rfl⟩)
          go_ret
          refine ⟨_, _, rfl, HT'.out, ?_, HU'.out, HG.out false⟩
          rw [Bool.false_and]
          exact HS.out false
        · go_wp2_with (go_at_call 115; refine (token1 s k hlt _ HC.out _).mono ?_; rintro e w' ⟨rfl, rfl⟩)
          go_ret
          refine ⟨_, _, rfl, HT'.out, ?_, HU'.out, HG.out (decide (0 < k))⟩
          rw [HE.out, HD.out]
          exact HS.out (decide (0 < k))
      · clear hst
        cases ok
        · go_wp2
          go_ret
          refine ⟨_, _, rfl, HT'.out, ?_, HU'.out, HG.out false⟩
          rw [Bool.false_and]
          exact HS.out false
        · go_wp2
          go_ret
          refine ⟨_, _, rfl, HT'.out, ?_, HU'.out, HG.out (decide (0 < k))⟩
          rw [HE.out, HD.out]
          exact HS.out (decide (0 < k))

/- What stands in quotes. -/
theorem quoted_nil : quotedS [] = none := by unfold quotedS; rfl
theorem quoted_end (r : List UInt8) : quotedS (34 :: r) = some ([], r) := by unfold quotedS; rw [if_pos rfl]
theorem quoted_esc1 (d : UInt8) (r : List UInt8) : quotedS (92 :: d :: r) = if inC d then (quotedS r).map fun q => (d :: q.1, q.2) else none := by
  conv => lhs; unfold quotedS
  rw [if_neg (by decide), if_pos rfl]
theorem quoted_esc0 : quotedS [92] = none := by
  unfold quotedS
  rw [if_neg (by decide), if_pos rfl]
theorem quoted_on (c : UInt8) (r : List UInt8) (h1 : c ≠ 34) (h2 : c ≠ 92) : quotedS (c :: r) = if inC c then (quotedS r).map fun q => (c :: q.1, q.2) else none := by
  conv => lhs; unfold quotedS
  rw [if_neg h1, if_neg h2]
theorem quoted_one (c : UInt8) (h1 : c ≠ 34) : quotedS [c] = none := by
  by_cases h2 : c = 92
  · rw [h2]; exact quoted_esc0
  · rw [quoted_on c [] h1 h2, quoted_nil]
    split <;> rfl
theorem map_map_q (Q : Option (List UInt8 × List UInt8)) (o : List UInt8) (d : UInt8) : (Q.map fun q => (d :: q.1, q.2)).map (fun q => (o ++ q.1, q.2)) = Q.map fun q => (o ++ [d] ++ q.1, q.2) := by
  cases Q with
  | none => rfl
  | some q => simp

def QPost (Q : Option (List UInt8 × List UInt8)) (b : Nat) (ok : Bool) (e : Ending) (w' : World) : Prop :=
  match Q with
  | some q => ∃ t u, e = .returned (.string t) ∧ t.data.toList = q.1 ∧ RS w' b u ok ∧ u.data.toList = q.2
  | none => e = .returned (.string ⟨#[]⟩) ∧ ∃ u, RS w' b u false ∧ u.size ≤ 1000000

theorem inC_yes (c : UInt8) (h : inC c = true) : 32 ≤ (c.toNat : Int) ∧ (c.toNat : Int) ≤ 126 := by
  simp only [inC, Bool.and_eq_true, decide_eq_true_eq] at h
  exact ⟨by omega, by omega⟩
theorem inC_no (c : UInt8) (h : inC c = false) : ¬ (32 ≤ (c.toNat : Int) ∧ (c.toNat : Int) ≤ 126) := by
  rintro ⟨h1, h2⟩
  rw [inC, decide_eq_true (by omega), decide_eq_true (by omega)] at h
  cases h

end Go.Proofs.YtnjjjkhhoaadfaaGreatDoor

namespace Go.Proofs.YtnjjjkhhoaadfaaGreatDoor
open Go.RowKit

theorem QPost_some {b : Nat} {ok : Bool} {e : Ending} {w' : World} (o r : List UInt8) (Q : Option (List UInt8 × List UInt8)) (hQ : Q = some (o, r)) (t u : ByteArray) (he : e = .returned (.string t)) (ht : t.data.toList = o) (hr : RS w' b u ok) (hu : u.data.toList = r) : QPost Q b ok e w' := by
  subst hQ
  exact ⟨t, u, he, ht, hr, hu⟩
theorem QPost_none {b : Nat} {ok : Bool} {e : Ending} {w' : World} (Q : Option (List UInt8 × List UInt8)) (hQ : Q = none) (u : ByteArray) (he : e = .returned (.string ⟨#[]⟩)) (hr : RS w' b u false) (hu : u.size ≤ 1000000) : QPost Q b ok e w' := by
  subst hQ
  exact ⟨he, u, hr, hu⟩
theorem quoted_step (Q : Option (List UInt8 × List UInt8)) (o : List UInt8) (l r : List UInt8) (d : UInt8) (h : Q = (quotedS l).map fun q => (o ++ q.1, q.2)) (hl : quotedS l = (quotedS r).map fun q => (d :: q.1, q.2)) : Q = (quotedS r).map fun q => (o ++ [d] ++ q.1, q.2) := by
  rw [h, hl, map_map_q]

/-- 'take', with the byte's number by itself. -/
theorem take_yesZ (b : Nat) (s : ByteArray) (ok : Bool) (z : Int) (c : UInt8) (hz : z = (c.toNat : Int)) (r : List UInt8) (w : World) (h : RS w b s ok) (hs : s.data.toList = c :: r) :
    Calls Tryz.prog 111 #[.pointer (some ⟨b, 0, none⟩), .int .u8 z] w fun e w' => e = .returned (.bool true) ∧ ∃ t, RS w' b t ok ∧ t.data.toList = r ∧ w.grownBy w' (some b) := by
  subst hz
  exact take_yes b s ok c r w h hs
theorem take_noZ (b : Nat) (s : ByteArray) (ok : Bool) (z : Int) (c : UInt8) (hz : z = (c.toNat : Int)) (w : World) (h : RS w b s ok) (hs : s.data.toList.head? ≠ some c) :
    Calls Tryz.prog 111 #[.pointer (some ⟨b, 0, none⟩), .int .u8 z] w fun e w' => e = .returned (.bool false) ∧ w' = w := by
  subst hz
  exact take_no b s ok c w h hs

set_option maxHeartbeats 3200000 in
set_option maxRecDepth 100000 in
theorem rquoted_any (b : Nat) (s : ByteArray) (ok : Bool) (w : World) (h : RS w b s ok) (hl : s.size ≤ 1000000) :
    Calls Tryz.prog 114 #[.pointer (some ⟨b, 0, none⟩)] w fun e w' => QPost (quotedS s.data.toList) b ok e w' ∧ w.grownBy w' (some b) := by
  obtain ⟨Q, HQ⟩ : ∃ Q, Box (Q = quotedS s.data.toList) := ⟨_, ⟨rfl⟩⟩
  rw [← HQ.out]
  go_enter Tryz.func114, Tryz.ntmps114
  go_wp2
  go_loopg [3] s.size (fun gf x wx => ∃ t o : ByteArray, x = .string o ∧ RS wx b t ok ∧ Box (Q = (quotedS t.data.toList).map fun q => (o.data.toList ++ q.1, q.2)) ∧ w.grownBy wx (some b) ∧ t.size ≤ gf ∧ t.size + o.size ≤ s.size)
  case atStart => exact ⟨s, ⟨#[]⟩, rfl, h, ⟨by rw [HQ.out]; simp⟩, grown_refl _ _, Nat.le_refl _, Nat.le_refl (s.size + 0)⟩
  case round =>
    obtain ⟨t, o, rfl, hr, HT, hg, hgf, hso⟩ := hrel
    obtain ⟨c0, c1, f0, f1, hb⟩ := hr.cells
    by_cases h0 : t.size = 0
    · have he := empty_of t h0
      have HN : Box (Q = none) := ⟨by rw [HT.out, data_nil t h0, quoted_nil]; rfl⟩
      have HR := Box.mk (hr.setO false)
      clear HT HQ
      go_wp2
      go_ret
      exact ⟨QPost_none Q HN.out _ rfl HR.out (by omega), hg.trans (grown_set _ _ _ _)⟩
    · have hp : 0 < t.size := by omega
      have he := nonempty_of t h0
      have HS := Box.mk (head_split t hp)
      obtain ⟨c, HC⟩ : ∃ c, Box (t[0] = c) := ⟨_, ⟨rfl⟩⟩
      rw [HC.out] at HS
      obtain ⟨r, Hr⟩ : ∃ r, Box ((t.extract 1 t.size).data.toList = r) := ⟨_, ⟨rfl⟩⟩
      rw [Hr.out] at HS
      have hrl : r.length + 1 = t.size := by rw [← size_list t, HS.out]; simp
      have hbyte : (t[0].toNat : Int) < 256 := by have := t[0].toNat_lt; omega
      by_cases h34 : c = 34
      · have HE : Box (Q = some (o.data.toList, r)) := ⟨by rw [HT.out, HS.out, h34, quoted_end]; simp⟩
        have HS' : Box (t.data.toList = 34 :: r) := ⟨by rw [HS.out, h34]⟩
        clear HT HQ HC
        go_wp2_with (go_at_call 111; refine (take_yesZ b t ok 34 34 rfl r _ hr HS'.out).mono ?_; rintro e w1 ⟨rfl, u, hr1, hu, hg1⟩)
        go_ret
        exact ⟨QPost_some _ _ Q HE.out _ u rfl rfl hr1 hu, hg.trans hg1⟩
      · have HN34 : Box (t.data.toList.head? ≠ some 34) := ⟨by rw [HS.out]; simpa using h34⟩
        by_cases h1 : t.size = 1
        · -- one byte is left
          have hr0 : r = [] := List.eq_nil_of_length_eq_zero (by omega)
          have HN : Box (Q = none) := ⟨by rw [HT.out, HS.out, hr0, quoted_one c h34]; rfl⟩
          have z1 : ¬ (1 : Int) < (t.size : Int) := by omega
          clear h1
          cases hin : inC t[0]
          · have HI := Box.mk (inC_no _ hin)
            have HR := Box.mk (hr.setO false)
            clear HT HQ HC hin h34
            go_wp2_with (first | (go_at_call 111; refine (take_noZ b t ok 34 34 rfl _ hr HN34.out).mono ?_; rintro e w1 ⟨rfl, rfl⟩) | (go_at_call 29; refine (in_no _ _ _ _ HI.out).mono ?_; rintro e w' ⟨rfl, rfl⟩))
            go_ret
            exact ⟨QPost_none Q HN.out _ rfl HR.out (by omega), hg.trans (grown_set _ _ _ _)⟩
          · have HI := Box.mk (inC_yes _ hin)
            have HR := Box.mk (hr.setS (t.extract 1 t.size))
            have hsz : (t.extract 1 t.size).size = t.size - 1 := by simp [ByteArray.size_extract]
            have hsz0 : (t.extract 0 1).size = 1 := by rw [← size_list, extract_one t 0 hp]; rfl
            have HN' : Box (Q = (quotedS (t.extract 1 t.size).data.toList).map fun q => ((o ++ t.extract 0 1).data.toList ++ q.1, q.2)) := ⟨by rw [HN.out, Hr.out, hr0, quoted_nil]; rfl⟩
            clear HT HQ HC hin h34
            go_wp2_with (first | (go_at_call 111; refine (take_noZ b t ok 34 34 rfl _ hr HN34.out).mono ?_; rintro e w1 ⟨rfl, rfl⟩) | (go_at_call 29; refine (in_yes _ _ _ _ HI.out.1 HI.out.2).mono ?_; rintro e w' ⟨rfl, rfl⟩))
            go_roundg (t.size - 1)
            case measure => omega
            case rel => exact ⟨_, _, rfl, HR.out, HN', hg.trans (grown_set _ _ _ _), by omega, by rw [ByteArray.size_append]; omega⟩
        · have z1 : (1 : Int) < (t.size : Int) := by omega
          by_cases h92 : c = 92
          · -- a byte behind a backslash
            obtain ⟨d, r', hrd⟩ : ∃ d r', r = d :: r' := by
              cases r with
              | nil => simp at hrl; omega
              | cons d r' => exact ⟨d, r', rfl⟩
            have HS' : Box (t.data.toList = 92 :: d :: r') := ⟨by rw [HS.out, h92, hrd]⟩
            have HX : Box (Q = (if inC d then (quotedS r').map fun q => (d :: q.1, q.2) else none).map fun q => (o.data.toList ++ q.1, q.2)) := ⟨by rw [HT.out, HS'.out, quoted_esc1]⟩
            clear HT HQ HC h34 h92
            cases hin : inC d
            · have HN : Box (Q = none) := ⟨by rw [HX.out, hin]; rfl⟩
              have HI := Box.mk (inC_no _ hin)
              clear HX hin
              go_wp2_with fail
              refine (take_noZ b t ok 34 34 rfl _ hr HN34.out).mono ?_
              rintro e w1 ⟨rfl, rfl⟩
              go_wp2_with fail
              refine (take_yesZ b t ok 92 92 rfl (d :: r') _ hr HS'.out).mono ?_
              rintro e w1 ⟨rfl, u, hr1, hu, hg1⟩
              obtain ⟨up, ud, ux⟩ := cons_get u d r' hu
              have HI' := Box.mk (ud ▸ HI.out)
              have hbu : (u[0].toNat : Int) < 256 := by (have := u[0].toNat_lt; omega)
              have HU := Box.mk hu
              have HR := Box.mk (hr1.setO false)
              obtain ⟨d0, d1, g0, g1, hb1⟩ := hr1.cells
              clear ux hu ud
              go_wp2_with fail
              refine (in_no _ _ _ _ HI'.out).mono ?_
              rintro e w' ⟨rfl, rfl⟩
              go_wp2
              go_ret
              exact ⟨QPost_none Q HN.out _ rfl HR.out (by rw [← size_list, HU.out]; have := hrd ▸ hrl; simp at this ⊢; omega), (hg.trans hg1).trans (grown_set _ _ _ _)⟩
            · have HN : Box (Q = (quotedS r').map fun q => (o.data.toList ++ [d] ++ q.1, q.2)) := ⟨by rw [HX.out, hin]; exact map_map_q _ _ _⟩
              have HI := Box.mk (inC_yes _ hin)
              clear HX hin
              go_wp2_with fail
              refine (take_noZ b t ok 34 34 rfl _ hr HN34.out).mono ?_
              rintro e w1 ⟨rfl, rfl⟩
              go_wp2_with fail
              refine (take_yesZ b t ok 92 92 rfl (d :: r') _ hr HS'.out).mono ?_
              rintro e w1 ⟨rfl, u, hr1, hu, hg1⟩
              obtain ⟨up, ud, ux⟩ := cons_get u d r' hu
              have HI' := Box.mk (ud ▸ HI.out)
              have hbu : (u[0].toNat : Int) < 256 := by (have := u[0].toNat_lt; omega)
              have HU := Box.mk hu
              have HUX := Box.mk ux
              have HUD := Box.mk ud
              have HR := Box.mk (hr1.setS (u.extract 1 u.size))
              obtain ⟨d0, d1, g0, g1, hb1⟩ := hr1.cells
              clear ux hu ud
              go_wp2_with fail
              refine (in_yes _ _ _ _ HI'.out.1 HI'.out.2).mono ?_
              rintro e w' ⟨rfl, rfl⟩
              go_wp2
              have hus : u.size + 1 = t.size := by
                have e := size_list u
                rw [HU.out] at e
                rw [hrd] at hrl
                omega
              have hsz : (u.extract 1 u.size).size = u.size - 1 := by simp [ByteArray.size_extract]
              have hsz0 : (u.extract 0 1).size = 1 := by rw [← size_list, extract_one u 0 up]; rfl
              have e0 : (u.extract 0 1).data.toList = [d] := by rw [extract_one u 0 up, HUD.out]
              go_roundg (t.size - 2)
              case measure => omega
              case rel => exact ⟨_, _, rfl, HR.out, ⟨by rw [HN.out, HUX.out, ByteArray.data_append, Array.toList_append, e0]⟩, (hg.trans hg1).trans (grown_set _ _ _ _), by omega, by rw [ByteArray.size_append]; omega⟩
          · have HN92 : Box (t.data.toList.head? ≠ some 92) := ⟨by rw [HS.out]; simpa using h92⟩
            cases hin : inC t[0]
            · have HN : Box (Q = none) := ⟨by rw [HT.out, HS.out, quoted_on c r h34 h92, ← HC.out, hin]; rfl⟩
              have HI := Box.mk (inC_no _ hin)
              have HR := Box.mk (hr.setO false)
              clear HT HQ HC hin h34 h92
              go_wp2_with fail
              refine (take_noZ b t ok 34 34 rfl _ hr HN34.out).mono ?_
              rintro e w1 ⟨rfl, rfl⟩
              go_wp2_with fail
              refine (take_noZ b t ok 92 92 rfl _ hr HN92.out).mono ?_
              rintro e w1 ⟨rfl, rfl⟩
              go_wp2_with fail
              refine (in_no _ _ _ _ HI.out).mono ?_
              rintro e w' ⟨rfl, rfl⟩
              go_wp2
              go_ret
              exact ⟨QPost_none Q HN.out _ rfl HR.out (by omega), hg.trans (grown_set _ _ _ _)⟩
            · have hsz : (t.extract 1 t.size).size = t.size - 1 := by simp [ByteArray.size_extract]
              have hsz0 : (t.extract 0 1).size = 1 := by rw [← size_list, extract_one t 0 hp]; rfl
              have HN : Box (Q = (quotedS (t.extract 1 t.size).data.toList).map fun q => ((o ++ t.extract 0 1).data.toList ++ q.1, q.2)) := ⟨by
                have e0 : (t.extract 0 1).data.toList = [c] := by rw [extract_one t 0 hp, HC.out]
                rw [HC.out] at hin
                rw [HT.out, HS.out, quoted_on c r h34 h92, hin, Hr.out, ByteArray.data_append, Array.toList_append, e0]
                exact map_map_q _ _ _⟩
              have HI := Box.mk (inC_yes _ hin)
              have HR := Box.mk (hr.setS (t.extract 1 t.size))
              clear HT HQ HC hin h34 h92
              go_wp2_with fail
              refine (take_noZ b t ok 34 34 rfl _ hr HN34.out).mono ?_
              rintro e w1 ⟨rfl, rfl⟩
              go_wp2_with fail
              refine (take_noZ b t ok 92 92 rfl _ hr HN92.out).mono ?_
              rintro e w1 ⟨rfl, rfl⟩
              go_wp2_with fail
              refine (in_yes _ _ _ _ HI.out.1 HI.out.2).mono ?_
              rintro e w' ⟨rfl, rfl⟩
              go_wp2
              go_roundg (t.size - 1)
              case measure => omega
              case rel => exact ⟨_, _, rfl, HR.out, HN, hg.trans (grown_set _ _ _ _), by omega, by rw [ByteArray.size_append]; omega⟩

end Go.Proofs.YtnjjjkhhoaadfaaGreatDoor

