import Derived.Test.YtiecpbhikkcmjaaDoorH4
import Derived.Test.YtiecpbhikkcmjaaDoorC1
import Derived.Test.YtiecpbhikkcmjaaDoorShelfJ
import Derived.Deep.LoopGhost
import Derived.Maps.AppendAt
namespace Go.Proofs.YtiecpbhikkcmjaaDoor
open Go.RowKit

/- The reference's reader: what is left, and whether all was well. -/
def RS (w : World) (b : Nat) (s : ByteArray) (ok : Bool) : Prop := w.heap[b]? = some (.cells #[.string s, .bool ok] 107 (0, 0))

theorem RS.cells {w : World} {b : Nat} {s : ByteArray} {ok : Bool} (h : RS w b s ok) : w.cell? ⟨b, 0, none⟩ = some (.string s) ∧ w.cell? ⟨b, 1, none⟩ = some (.bool ok) ∧ w.frozen? ⟨b, 0, none⟩ = false ∧ w.frozen? ⟨b, 1, none⟩ = false ∧ b < w.heap.size := by
  have h' : w.heap[b]? = _ := h
  refine ⟨by simp [World.cell?, h'], by simp [World.cell?, h'], by simp [World.frozen?, h'], by simp [World.frozen?, h'], (Array.getElem?_eq_some_iff.1 h').1⟩
theorem RS.setS {w : World} {b : Nat} {s : ByteArray} {ok : Bool} (h : RS w b s ok) (t : ByteArray) : RS (w.setCell ⟨b, 0, none⟩ (.string t)) b t ok := by
  unfold RS
  rw [setCell_eq_setRow w b 0 _ _ _ _ h]
  exact setRow_heap w b _ _ _ _ h
theorem RS.setO {w : World} {b : Nat} {s : ByteArray} {ok : Bool} (h : RS w b s ok) (q : Bool) : RS (w.setCell ⟨b, 1, none⟩ (.bool q)) b s q := by
  unfold RS
  rw [setCell_eq_setRow w b 1 _ _ _ _ h]
  exact setRow_heap w b _ _ _ _ h
theorem RS.below {w w' : World} {b C : Nat} {s : ByteArray} {ok : Bool} (h : RS w b s ok) (hb : Below C w w') (hC : b < C) : RS w' b s ok := (hb.block b hC).trans h
theorem grown_set (w : World) (b k : Nat) (v : Value) : w.grownBy (w.setCell ⟨b, k, none⟩ v) (some b) :=
  ⟨rfl, rfl, rfl, by simp, fun k' _ hk => heap_setCell_other w ⟨b, k, none⟩ k' v (fun e => hk (by rw [e]))⟩
theorem grown_of {w w' : World} (h : Below w.heap.size w w') (row : Option Nat) : w.grownBy w' row := ⟨h.os, h.tape, h.output, h.size, fun i hi _ => h.block i hi⟩
theorem grown_refl (w : World) (row : Option Nat) : w.grownBy w row := ⟨rfl, rfl, rfl, Nat.le_refl _, fun _ _ _ => rfl⟩

theorem cons_get (s : ByteArray) (c : UInt8) (r : List UInt8) (h : s.data.toList = c :: r) : ∃ h0 : 0 < s.size, s[0] = c ∧ (s.extract 1 s.size).data.toList = r := by
  have h0 : 0 < s.size := by rw [← size_list, h]; simp
  have := head_split s h0
  rw [h] at this
  injection this with e1 e2
  exact ⟨h0, e1.symm, e2.symm⟩

set_option maxHeartbeats 800000 in
theorem take_yes (b : Nat) (s : ByteArray) (ok : Bool) (c : UInt8) (r : List UInt8) (w : World) (h : RS w b s ok) (hs : s.data.toList = c :: r) :
    Calls Tryd.prog 78 #[.pointer (some ⟨b, 0, none⟩), .int .u8 (c.toNat : Int)] w fun e w' => e = .returned (.bool true) ∧ ∃ t, RS w' b t ok ∧ t.data.toList = r ∧ w.grownBy w' (some b) := by
  obtain ⟨h0, h1, h2⟩ := cons_get s c r hs
  obtain ⟨c0, c1, f0, f1, hb⟩ := h.cells
  have he := nonempty_of s (by omega)
  have hx : ((s[0].toNat : Int) != (c.toNat : Int)) = false := by rw [u8bne, h1]; simp
  have HR := Box.mk (h.setS (s.extract 1 s.size))
  have H2 := Box.mk h2
  clear h2 hs
  go_enter Tryd.func78, Tryd.ntmps78
  go_wp2
  go_ret
  exact ⟨rfl, _, HR.out, H2.out, grown_set _ _ _ _⟩

set_option maxHeartbeats 800000 in
theorem take_no (b : Nat) (s : ByteArray) (ok : Bool) (c : UInt8) (w : World) (h : RS w b s ok) (hs : s.data.toList.head? ≠ some c) :
    Calls Tryd.prog 78 #[.pointer (some ⟨b, 0, none⟩), .int .u8 (c.toNat : Int)] w fun e w' => e = .returned (.bool false) ∧ w' = w := by
  obtain ⟨c0, c1, f0, f1, hb⟩ := h.cells
  by_cases h0 : s.size = 0
  · have he := empty_of s h0
    go_enter Tryd.func78, Tryd.ntmps78
    go_wp2
    go_ret
    exact ⟨rfl, rfl⟩
  · have he := nonempty_of s h0
    have hp : 0 < s.size := by omega
    have hx : ((s[0].toNat : Int) != (c.toNat : Int)) = true := by
      rw [u8bne]
      have e := head_split s hp
      rw [e] at hs
      simpa using hs
    clear hs
    go_enter Tryd.func78, Tryd.ntmps78
    go_wp2
    go_ret
    exact ⟨rfl, rfl⟩

set_option maxHeartbeats 800000 in
theorem blanks_any (b : Nat) (s : ByteArray) (ok : Bool) (w : World) (h : RS w b s ok) :
    Calls Tryd.prog 79 #[.pointer (some ⟨b, 0, none⟩)] w fun e w' => e = .returned (.tuple #[]) ∧ ∃ t, RS w' b t ok ∧ t.data.toList = dropB s.data.toList ∧ w.grownBy w' (some b) := by
  go_enter Tryd.func79, Tryd.ntmps79
  go_wp2
  go_loopg [] s.size (fun gf wx => ∃ t : ByteArray, RS wx b t ok ∧ Box (dropB t.data.toList = dropB s.data.toList) ∧ w.grownBy wx (some b) ∧ t.size ≤ gf)
  case atStart => exact ⟨s, h, ⟨rfl⟩, grown_refl _ _, Nat.le_refl _⟩
  case round =>
    obtain ⟨t, hr, HT, hg, hgf⟩ := hrel
    obtain ⟨c0, c1, f0, f1, hb⟩ := hr.cells
    by_cases hgo : ∃ h : 0 < t.size, blk t[0] = true
    · obtain ⟨hp, hbl⟩ := hgo
      have he := nonempty_of t (by omega)
      have HT' : Box (dropB (t.extract 1 t.size).data.toList = dropB s.data.toList) := ⟨by rw [← HT.out, head_split t hp, dropB_cons _ _ hbl]⟩
      have hsz : (t.extract 1 t.size).size = t.size - 1 := by simp [ByteArray.size_extract]
      have HR := Box.mk (hr.setS (t.extract 1 t.size))
      clear HT
      go_wp2_with (go_at_call 56; refine (rBlank_any _ _).mono ?_; rintro e w' ⟨rfl, rfl⟩)
      go_roundg (t.size - 1)
      case measure => omega
      case rel => exact ⟨_, HR.out, HT', hg.trans (grown_set _ _ _ _), by omega⟩
    · have HD : Box (t.data.toList = dropB s.data.toList) := ⟨by
        rw [← HT.out]
        symm
        apply dropB_self
        by_cases h0 : t.size = 0
        · exact head_none t h0
        · exact head_one t (by omega) (by
            cases hb : blk t[0]
            · rfl
            · exact absurd ⟨by omega, hb⟩ hgo)⟩
      have hx : t.toList.isEmpty = true ∨ ∃ h : 0 < t.size, (t.toList.isEmpty = false ∧ blk t[0] = false) := by
        by_cases h0 : t.size = 0
        · exact .inl (empty_of t h0)
        · refine .inr ⟨by omega, nonempty_of t h0, ?_⟩
          cases hb : blk t[0]
          · rfl
          · exact absurd ⟨by omega, hb⟩ hgo
      clear hgo HT
      rcases hx with he | ⟨hp, he, hbl⟩
      all_goals
        go_wp2_with (go_at_call 56; refine (rBlank_any _ _).mono ?_; rintro e w' ⟨rfl, rfl⟩)
        go_end0
        exact ⟨rfl, _, hr, HD.out, hg⟩

theorem special_index (c : UInt8) : decide (0 ≤ Lib.indexByte specials c) = specials.contains c := by
  have key : ∀ n : Fin 256, decide (0 ≤ Lib.indexByte specials (UInt8.ofNat n.val)) = specials.contains (UInt8.ofNat n.val) := by decide +kernel
  have := key ⟨c.toNat, c.toNat_lt⟩
  simpa using this
theorem tokC_yes (c : UInt8) (h : tokC c = true) : 33 ≤ (c.toNat : Int) ∧ (c.toNat : Int) ≤ 126 ∧ Lib.indexByte specials c < 0 := by
  simp only [tokC, Bool.and_eq_true, decide_eq_true_eq, Bool.not_eq_true'] at h
  refine ⟨by omega, by omega, ?_⟩
  have := special_index c
  rw [h.2] at this
  have := of_decide_eq_false this
  omega
theorem tokC_no (c : UInt8) (h : tokC c = false) : (c.toNat : Int) < 33 ∨ (33 ≤ (c.toNat : Int) ∧ 126 < (c.toNat : Int)) ∨ (33 ≤ (c.toNat : Int) ∧ (c.toNat : Int) ≤ 126 ∧ 0 ≤ Lib.indexByte specials c) := by
  by_cases h1 : (c.toNat : Int) < 33
  · exact .inl h1
  · by_cases h2 : 126 < (c.toNat : Int)
    · exact .inr (.inl ⟨by omega, h2⟩)
    · refine .inr (.inr ⟨by omega, by omega, ?_⟩)
      have e := special_index c
      unfold tokC at h
      rw [decide_eq_true (by omega : 33 ≤ c.toNat), decide_eq_true (by omega : c.toNat ≤ 126)] at h
      have h' : specials.contains c = true := by simpa using h
      rw [h'] at e
      exact of_decide_eq_true e

theorem tokS_false (l : List UInt8) (h : l.all tokC = false) : tokS l = false := by unfold tokS; rw [h, Bool.and_false]
theorem tokS_end (s : ByteArray) (h : s.data.toList.all tokC = true) : tokS s.data.toList = !(s.toList.isEmpty) := by unfold tokS; rw [h, Bool.and_true, ByteArray.toList_eq]
theorem u8_back (c : UInt8) : ((c.toNat : Int).toNat.toUInt8) = c := by simp
theorem index_spec (s : ByteArray) (k : Nat) (h : k < s.size) (w : World) (z : Int) (hz : Lib.indexByte specials s[k] = z) : Calls Tryd.prog 93 #[.string ⟨#[40, 41, 60, 62, 64, 44, 59, 58, 92, 34, 47, 91, 93, 63, 61]⟩, .int .u8 (s[k].toNat : Int)] w fun e w' => e = .returned (.int .i64 z) ∧ w' = w := by
  refine (Tryd.strings_IndexByte _ _ w).mono ?_
  rintro e w' ⟨rfl, rfl⟩
  rw [u8_back, ← hz]
  exact ⟨rfl, rfl⟩

set_option maxHeartbeats 1600000 in
set_option maxRecDepth 100000 in
theorem rToken_any (s : ByteArray) (w : World) (hl : s.size ≤ 1000000) :
    Calls Tryd.prog 85 #[.string s] w fun e w' => e = .returned (.bool (tokS s.data.toList)) ∧ w' = w := by
  go_enter Tryd.func85, Tryd.ntmps85
  go_wp2
  go_loop [6] (fun i => ∃ k : Nat, k ≤ s.size ∧ i = .int .i64 k ∧ Box ((s.data.toList.take k).all tokC = true)) (fun i => s.size - (intOf i).toNat)
  case atStart => exact ⟨0, Nat.zero_le _, rfl, ⟨rfl⟩⟩
  case round =>
    obtain ⟨k, hk, rfl, HA⟩ := hrel
    by_cases hlt : k < s.size
    · have hbyte : (s[k].toNat : Int) < 256 := by have := s[k].toNat_lt; omega
      obtain ⟨z, HZ⟩ : ∃ z, Box (Lib.indexByte specials s[k] = z) := ⟨_, ⟨rfl⟩⟩
      cases hc : tokC s[k]
      · have HF : Box (tokS s.data.toList = false) := ⟨tokS_false _ (all_stop s k hlt hc)⟩
        have hx := tokC_no _ hc
        rw [HZ.out] at hx
        clear hc HA
        rcases hx with x1 | ⟨x1, x2⟩ | ⟨x1, x2, x3⟩
        · go_wp2_with (go_at_call 86; refine (in_no _ _ _ _ (fun h => by omega)).mono ?_; rintro e w' ⟨rfl, rfl⟩)
          go_ret
          exact ⟨ret_bool HF.out.symm, rfl⟩
        · go_wp2_with (go_at_call 86; refine (in_no _ _ _ _ (fun h => by omega)).mono ?_; rintro e w' ⟨rfl, rfl⟩)
          go_ret
          exact ⟨ret_bool HF.out.symm, rfl⟩
        · go_wp2_with (first | (go_at_call 86; refine (in_yes _ _ _ _ x1 x2).mono ?_; rintro e w' ⟨rfl, rfl⟩) | (go_at_call 93; refine (index_spec s k hlt _ z HZ.out).mono ?_; rintro e w' ⟨rfl, rfl⟩))
          go_ret
          exact ⟨ret_bool HF.out.symm, rfl⟩
      · have HA' : Box ((s.data.toList.take (k + 1)).all tokC = true) := ⟨all_on s k hlt HA.out hc⟩
        have hx := tokC_yes _ hc
        rw [HZ.out] at hx
        obtain ⟨x1, x2, x3⟩ := hx
        clear hc HA
        go_wp2_with (first | (go_at_call 86; refine (in_yes _ _ _ _ x1 x2).mono ?_; rintro e w' ⟨rfl, rfl⟩) | (go_at_call 93; refine (index_spec s k hlt _ z HZ.out).mono ?_; rintro e w' ⟨rfl, rfl⟩))
        go_round
        case rel => exact ⟨k + 1, by omega, by go_num, HA'⟩
        case measure => simp [intOf]; omega
    · have HF : Box (tokS s.data.toList = !(s.toList.isEmpty)) := ⟨tokS_end s (by rw [← take_all s k hlt]; exact HA.out)⟩
      clear HA
      go_wp2
      go_ret
      exact ⟨ret_bool HF.out.symm, rfl⟩

end Go.Proofs.YtiecpbhikkcmjaaDoor
