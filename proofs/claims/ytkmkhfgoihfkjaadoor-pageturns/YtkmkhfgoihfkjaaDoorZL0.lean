import Derived.Test.YtkmkhfgoihfkjaaDoorZ1
import Derived.Test.YtkmkhfgoihfkjaaDoorZG5
import Derived.Test.YtkmkhfgoihfkjaaDoorZA1
import Derived.Test.YtkmkhfgoihfkjaaDoorZB0
import Derived.Test.YtkmkhfgoihfkjaaDoorZShelfP
import Derived.Deep.LoopGhost
import Derived.Deep.RegionLaw
import Derived.Deep.RegionHeld3
import Derived.Deep.RegionWith
import Derived.Maps.AppendAt
namespace Go.Proofs.YtkmkhfgoihfkjaaDoor
open Go.RowKit

/- The code's reader: the page, the page in small letters, where it is, the links so far. -/
def PR (w : World) (b : Nat) (pg sm : ByteArray) (a : Nat) (L : Value) : Prop := w.heap[b]? = some (.cells #[.string pg, .string sm, .int .i64 (a : Int), L] 36 (0, 0))
theorem PR.cells {w : World} {b a : Nat} {pg sm : ByteArray} {L : Value} (h : PR w b pg sm a L) : w.cell? ⟨b, 0, none⟩ = some (.string pg) ∧ w.cell? ⟨b, 1, none⟩ = some (.string sm) ∧ w.cell? ⟨b, 2, none⟩ = some (.int .i64 (a : Int)) ∧ w.cell? ⟨b, 3, none⟩ = some L ∧ w.frozen? ⟨b, 2, none⟩ = false ∧ w.frozen? ⟨b, 3, none⟩ = false ∧ b < w.heap.size := by
  have h' : w.heap[b]? = _ := h
  refine ⟨by simp [World.cell?, h'], by simp [World.cell?, h'], by simp [World.cell?, h'], by simp [World.cell?, h'], by simp [World.frozen?, h'], by simp [World.frozen?, h'], (Array.getElem?_eq_some_iff.1 h').1⟩
theorem PR.setA {w : World} {b a : Nat} {pg sm : ByteArray} {L : Value} (h : PR w b pg sm a L) (k : Nat) : PR (w.setCell ⟨b, 2, none⟩ (.int .i64 (k : Int))) b pg sm k L := by
  unfold PR
  rw [setCell_eq_setRow w b 2 _ _ _ _ h]
  exact setRow_heap w b _ _ _ _ h
theorem PR.setL {w : World} {b a : Nat} {pg sm : ByteArray} {L : Value} (h : PR w b pg sm a L) (M : Value) : PR (w.setCell ⟨b, 3, none⟩ M) b pg sm a M := by
  unfold PR
  rw [setCell_eq_setRow w b 3 _ _ _ _ h]
  exact setRow_heap w b _ _ _ _ h
theorem PR.below {w w' : World} {b a C : Nat} {pg sm : ByteArray} {L : Value} (h : PR w b pg sm a L) (hb : Below C w w') (hC : b < C) : PR w' b pg sm a L := (hb.block b hC).trans h
theorem pgrown_set (w : World) (b k : Nat) (v : Value) : w.grownBy (w.setCell ⟨b, k, none⟩ v) (some b) :=
  ⟨rfl, rfl, rfl, by simp, fun k' _ hk => heap_setCell_other w ⟨b, k, none⟩ k' v (fun e => hk (by rw [e]))⟩
theorem pgrown_of {w w' : World} (h : Below w.heap.size w w') (row : Option Nat) : w.grownBy w' row := ⟨h.os, h.tape, h.output, h.size, fun i hi _ => h.block i hi⟩
theorem pgrown_refl (w : World) (row : Option Nat) : w.grownBy w row := ⟨rfl, rfl, rfl, Nat.le_refl _, fun _ _ _ => rfl⟩

set_option maxHeartbeats 800000 in
theorem atEnd_any (b a : Nat) (pg sm : ByteArray) (L : Value) (w : World) (h : PR w b pg sm a L) :
    Calls Tryd.prog 24 #[.pointer (some ⟨b, 0, none⟩)] w fun e w' => e = .returned (.bool (decide (a = pg.size))) ∧ w' = w.drew := by
  obtain ⟨c0, c1, c2, c3, f2, f3, hb⟩ := h.cells
  clear h
  obtain ⟨q, HQ⟩ : ∃ q, Box (((a : Int) == (pg.size : Int)) = q) := ⟨_, ⟨rfl⟩⟩
  go_enter Tryd.func24, Tryd.ntmps24
  go_wp2
  go_region
  go_wp2
  go_ret
  exact ⟨ret_bool (by rw [Bool.eq_iff_iff]; simp; try omega), rfl⟩

/-- Whether one of such bytes stands there. -/
def isAtB (set sm : ByteArray) (a : Nat) : Bool := (sm.data.toList.drop a).head?.any fun c => set.data.toList.contains c
theorem idx_has (l : List UInt8) (c : UInt8) : decide (0 ≤ Lib.indexByte l c) = l.contains c := by
  rcases find_byte l c with ⟨h1, h2⟩ | ⟨x, y, h1, h2, h3⟩
  · rw [h1]
    symm
    have : c ∉ l := fun h => h2 c h rfl
    simpa using this
  · rw [h3, h1]
    simp
theorem idx_at (set sm : ByteArray) (a : Nat) (h : a < sm.size) (w : World) : Calls Tryd.prog 20 #[.string set, .int .u8 (sm[a].toNat : Int)] w fun e w' => e = .returned (.int .i64 (Lib.indexByte set.data.toList sm[a])) ∧ w' = w := by
  refine (Tryd.strings_IndexByte _ _ w).mono ?_
  rintro e w' ⟨rfl, rfl⟩
  refine ⟨?_, rfl⟩
  congr 4
  simp
theorem isAt_val (set sm : ByteArray) (a : Nat) (h : a < sm.size) : isAtB set sm a = decide (0 ≤ Lib.indexByte set.data.toList sm[a]) := by
  unfold isAtB
  rw [List.head?_drop, getL sm a h, idx_has]
  rfl
theorem isAt_end (set sm : ByteArray) (a : Nat) (h : sm.size ≤ a) : isAtB set sm a = false := by
  unfold isAtB
  rw [List.head?_drop, List.getElem?_eq_none (by rw [size_list]; exact h)]
  rfl
theorem pkeep3 {W w' : World} {p q r : Addr} {u v x : Value} (h0 : W.cell? p = some u) (h1 : W.cell? q = some v) (h2 : W.cell? r = some x) (hb : Below W.heap.size W w') : w'.cell? p = some u ∧ w'.cell? q = some v ∧ w'.cell? r = some x ∧ Below W.heap.size W w' :=
  ⟨(hb.cell (p := p) (World.block_lt_of_cell? W _ h0)).trans h0, (hb.cell (p := q) (World.block_lt_of_cell? W _ h1)).trans h1, (hb.cell (p := r) (World.block_lt_of_cell? W _ h2)).trans h2, hb⟩

set_option maxHeartbeats 800000 in
theorem isAt_any (b a : Nat) (pg sm set : ByteArray) (L : Value) (w : World) (h : PR w b pg sm a L) (hs : sm.size = pg.size) (ha : a ≤ pg.size) :
    Calls Tryd.prog 17 #[.pointer (some ⟨b, 0, none⟩), .string set] w fun e w' => e = .returned (.bool (isAtB set sm a)) ∧ Below w.heap.size w w' := by
  obtain ⟨c0, c1, c2, c3, f2, f3, hb⟩ := h.cells
  have HP := Box.mk h
  clear h
  obtain ⟨q, HQ⟩ : ∃ q, Box (isAtB set sm a = q) := ⟨_, ⟨rfl⟩⟩
  rw [HQ.out]
  by_cases hlt : a < pg.size
  · have hd : decide (a = pg.size) = false := decide_eq_false (by omega)
    have hlt' : a < sm.size := by omega
    have HZ : Box (decide (0 ≤ Lib.indexByte set.data.toList sm[a]) = q) := ⟨by rw [← HQ.out, isAt_val set sm a hlt']⟩
    have HX := Box.mk (idx_at set sm a hlt')
    obtain ⟨z, hz⟩ : ∃ z, Lib.indexByte set.data.toList sm[a] = z := ⟨_, rfl⟩
    rw [hz] at HZ HX
    clear hz HQ
    go_enter Tryd.func17, Tryd.ntmps17
    go_wp2_with fail
    go_region_held3 (fun w' => w'.cell? ⟨b, 0, none⟩ = some (.string pg) ∧ w'.cell? ⟨b, 1, none⟩ = some (.string sm) ∧ w'.cell? ⟨b, 2, none⟩ = some (.int .i64 (a : Int)) ∧ Below w.heap.size w w')
      ((go_split_ands; exact pkeep3 c0 c1 c2 (by first | exact (Below.refl _ _).drew | exact Below.drew (by assumption) | assumption)))
      (first
        | (go_at_call 24; refine (atEnd_any b a pg sm L _ (HP.out.below (by first | exact (Below.refl _ _).drew | assumption) hb)).mono ?_; rw [hd]; rintro e w5 ⟨rfl, rfl⟩)
        | (go_at_call 20; refine (HX.out _).mono ?_; rintro e w6 ⟨rfl, rfl⟩))
    all_goals
      go_wp2
      go_ret
      exact ⟨ret_bool HZ.out, by first | assumption | exact Below.drew (by assumption) | exact ((Below.refl _ _).drew).drew⟩
  · have hd : decide (a = pg.size) = true := decide_eq_true (by omega)
    have HZ : Box (q = false) := ⟨by rw [← HQ.out, isAt_end set sm a (by omega)]⟩
    clear HQ
    go_enter Tryd.func17, Tryd.ntmps17
    go_wp2_with fail
    refine wp_region_held_drew (S := fun w' => Below w.heap.size w w') (by kernel_rfl) (Below.refl _ _).drew (fun hS => ?_)
    refine wpAnyH_take (i := 0) (v := _) rfl (by kernel_rfl) (by kernel_rfl) (by kernel_rfl) (fun _ _ _ h => h) (Or.inl ⟨by rfl, fun _ _ => rfl⟩) hS ?_
    simp only [Act.put, List.setIfInBounds_toArray, List.set_cons_zero, List.set_cons_succ, List.getElem_toArray, List.getElem_cons_zero]
    refine wpAnyH_ready (rs := [1]) (by kernel_rfl) (by simp) (AllReadyH.cons rfl (fun K hK => ?_) AllReadyH.nil)
    rw [if_pos (by rfl)]
    go_wp2_with (go_at_call 24; refine (atEnd_any b a pg sm L _ (HP.out.below hS hb)).mono ?_; rw [hd]; rintro e w5 ⟨rfl, rfl⟩)
    refine hK.out _ _ hS.drew (fun hS => ?_)
    clear hK
    refine wpAnyH_take (i := 2) (v := _) rfl (by kernel_rfl) (by kernel_rfl) (by kernel_rfl) (fun _ _ _ h => h) (Or.inl ⟨by rfl, fun _ _ => rfl⟩) hS ?_
    simp only [Act.put, List.setIfInBounds_toArray, List.set_cons_zero, List.set_cons_succ, List.getElem_toArray, List.getElem_cons_zero, List.getElem_cons_succ]
    refine wpAnyH_take (i := 3) (v := _) rfl (by kernel_rfl) (by kernel_rfl) (by kernel_rfl) (fun _ _ _ h => h) (Or.inl ⟨by rfl, fun _ _ => rfl⟩) hS ?_
    simp only [Act.put, List.setIfInBounds_toArray, List.set_cons_zero, List.set_cons_succ, List.getElem_toArray, List.getElem_cons_zero, List.getElem_cons_succ]
    refine wpAnyH_take (i := 4) (v := undef) rfl (by kernel_rfl) (by kernel_rfl) (by kernel_rfl) (fun _ _ _ h => h) (Or.inr ⟨by rfl, rfl⟩) hS ?_
    simp only [Act.put, List.setIfInBounds_toArray, List.set_cons_zero, List.set_cons_succ, List.getElem_toArray, List.getElem_cons_zero, List.getElem_cons_succ]
    refine wpAnyH_take (i := 5) (v := undef) rfl (by kernel_rfl) (by kernel_rfl) (by kernel_rfl) (fun _ _ _ h => h) (Or.inr ⟨by rfl, rfl⟩) hS ?_
    simp only [Act.put, List.setIfInBounds_toArray, List.set_cons_zero, List.set_cons_succ, List.getElem_toArray, List.getElem_cons_zero, List.getElem_cons_succ]
    refine wpAnyH_take (i := 6) (v := undef) rfl (by kernel_rfl) (by kernel_rfl) (by kernel_rfl) (fun _ _ _ h => h) (Or.inr ⟨by rfl, rfl⟩) hS ?_
    simp only [Act.put, List.setIfInBounds_toArray, List.set_cons_zero, List.set_cons_succ, List.getElem_toArray, List.getElem_cons_zero, List.getElem_cons_succ]
    refine wpAnyH_take (i := 7) (v := undef) rfl (by kernel_rfl) (by kernel_rfl) (by kernel_rfl) (fun _ _ _ h => h) (Or.inr ⟨by rfl, rfl⟩) hS ?_
    simp only [Act.put, List.setIfInBounds_toArray, List.set_cons_zero, List.set_cons_succ, List.getElem_toArray, List.getElem_cons_zero, List.getElem_cons_succ]
    refine wpAnyH_take (i := 8) (v := undef) rfl (by kernel_rfl) (by kernel_rfl) (by kernel_rfl) (fun _ _ _ h => h) (Or.inr ⟨by rfl, rfl⟩) hS ?_
    simp only [Act.put, List.setIfInBounds_toArray, List.set_cons_zero, List.set_cons_succ, List.getElem_toArray, List.getElem_cons_zero, List.getElem_cons_succ]
    refine wpAnyH_take (i := 9) (v := undef) rfl (by kernel_rfl) (by kernel_rfl) (by kernel_rfl) (fun _ _ _ h => h) (Or.inr ⟨by rfl, rfl⟩) hS ?_
    simp only [Act.put, List.setIfInBounds_toArray, List.set_cons_zero, List.set_cons_succ, List.getElem_toArray, List.getElem_cons_zero, List.getElem_cons_succ]
    refine wpAnyH_take (i := 10) (v := undef) rfl (by kernel_rfl) (by kernel_rfl) (by kernel_rfl) (fun _ _ _ h => h) (Or.inr ⟨by rfl, rfl⟩) hS ?_
    simp only [Act.put, List.setIfInBounds_toArray, List.set_cons_zero, List.set_cons_succ, List.getElem_toArray, List.getElem_cons_zero, List.getElem_cons_succ]
    refine wpAnyH_take (i := 11) (v := undef) rfl (by kernel_rfl) (by kernel_rfl) (by kernel_rfl) (fun _ _ _ h => h) (Or.inr ⟨by rfl, rfl⟩) hS ?_
    simp only [Act.put, List.setIfInBounds_toArray, List.set_cons_zero, List.set_cons_succ, List.getElem_toArray, List.getElem_cons_zero, List.getElem_cons_succ]
    refine wpAnyH_take (i := 12) (v := undef) rfl (by kernel_rfl) (by kernel_rfl) (by kernel_rfl) (fun _ _ _ h => h) (Or.inr ⟨by rfl, rfl⟩) hS ?_
    simp only [Act.put, List.setIfInBounds_toArray, List.set_cons_zero, List.set_cons_succ, List.getElem_toArray, List.getElem_cons_zero, List.getElem_cons_succ]
    refine wpAnyH_take (i := 13) (v := undef) rfl (by kernel_rfl) (by kernel_rfl) (by kernel_rfl) (fun _ _ _ h => h) (Or.inr ⟨by rfl, rfl⟩) hS ?_
    simp only [Act.put, List.setIfInBounds_toArray, List.set_cons_zero, List.set_cons_succ, List.getElem_toArray, List.getElem_cons_zero, List.getElem_cons_succ]
    refine wpAnyH_take (i := 14) (v := undef) rfl (by kernel_rfl) (by kernel_rfl) (by kernel_rfl) (fun _ _ _ h => h) (Or.inr ⟨by rfl, rfl⟩) hS ?_
    simp only [Act.put, List.setIfInBounds_toArray, List.set_cons_zero, List.set_cons_succ, List.getElem_toArray, List.getElem_cons_zero, List.getElem_cons_succ]
    refine wpAnyH_take (i := 15) (v := undef) rfl (by kernel_rfl) (by kernel_rfl) (by kernel_rfl) (fun _ _ _ h => h) (Or.inr ⟨by rfl, rfl⟩) hS ?_
    simp only [Act.put, List.setIfInBounds_toArray, List.set_cons_zero, List.set_cons_succ, List.getElem_toArray, List.getElem_cons_zero, List.getElem_cons_succ]
    refine wpAnyH_take (i := 16) (v := _) rfl (by kernel_rfl) (by kernel_rfl) (by kernel_rfl) (fun _ _ _ h => h) (Or.inl ⟨by rfl, fun _ _ => rfl⟩) hS ?_
    simp only [Act.put, List.setIfInBounds_toArray, List.set_cons_zero, List.set_cons_succ, List.getElem_toArray, List.getElem_cons_zero, List.getElem_cons_succ]
    refine wpAnyH_take (i := 17) (v := _) rfl (by kernel_rfl) (by kernel_rfl) (by kernel_rfl) (fun _ _ _ h => h) (Or.inl ⟨by rfl, fun _ _ => rfl⟩) hS ?_
    simp only [Act.put, List.setIfInBounds_toArray, List.set_cons_zero, List.set_cons_succ, List.getElem_toArray, List.getElem_cons_zero, List.getElem_cons_succ]
    refine wpAnyH_done (by kernel_rfl) ?_ _
    go_wp2
    go_ret
    exact ⟨ret_bool HZ.out.symm, hS⟩

/-- How many of such bytes stand next (w: whether they are to be in the set, or not). -/
def runN (set sm : List UInt8) (a : Nat) : Nat := ((sm.drop a).takeWhile fun c => set.contains c).length
def untilN (set sm : List UInt8) (a : Nat) : Nat := ((sm.drop a).takeWhile fun c => !set.contains c).length
theorem run_step {p : UInt8 → Bool} (sm : ByteArray) (a : Nat) (h : a < sm.size) (hp : p sm[a] = true) : ((sm.data.toList.drop a).takeWhile p).length = ((sm.data.toList.drop (a + 1)).takeWhile p).length + 1 := by
  rw [List.drop_eq_getElem_cons (by rw [size_list]; exact h)]
  have e : sm.data.toList[a]'(by rw [size_list]; exact h) = sm[a] := rfl
  rw [e, List.takeWhile_cons_of_pos hp, List.length_cons]
theorem run_stop {p : UInt8 → Bool} (sm : ByteArray) (a : Nat) (h : ∀ h : a < sm.size, p sm[a] = false) : ((sm.data.toList.drop a).takeWhile p).length = 0 := by
  by_cases hl : a < sm.size
  · rw [List.drop_eq_getElem_cons (by rw [size_list]; exact hl)]
    have e : sm.data.toList[a]'(by rw [size_list]; exact hl) = sm[a] := rfl
    rw [e, List.takeWhile_cons_of_neg (by rw [h hl]; simp)]
    rfl
  · rw [List.drop_of_length_le (by rw [size_list]; omega)]
    rfl

set_option maxHeartbeats 800000 in
theorem skip_any (b a : Nat) (pg sm set : ByteArray) (L : Value) (w : World) (h : PR w b pg sm a L) (hl : pg.size ≤ 100000000) (hs : sm.size = pg.size) (ha : a ≤ pg.size) :
    Calls Tryd.prog 25 #[.pointer (some ⟨b, 0, none⟩), .string set] w fun e w' => e = .returned (.tuple #[]) ∧ PR w' b pg sm (a + runN set.data.toList sm.data.toList a) L ∧ a + runN set.data.toList sm.data.toList a ≤ pg.size ∧ w.grownBy w' (some b) := by
  obtain ⟨N, HN⟩ : ∃ N, Box (a + runN set.data.toList sm.data.toList a = N) := ⟨_, ⟨rfl⟩⟩
  rw [HN.out]
  go_enter Tryd.func25, Tryd.ntmps25
  go_wp2
  go_loopg [] (pg.size - a) (fun gf wx => ∃ k : Nat, k ≤ pg.size ∧ PR wx b pg sm k L ∧ Box (k + runN set.data.toList sm.data.toList k = N) ∧ w.grownBy wx (some b) ∧ pg.size - k ≤ gf)
  case atStart => exact ⟨a, ha, h, HN, pgrown_refl _ _, Nat.le_refl _⟩
  case round =>
    obtain ⟨k, hk, hr, HT, hg, hgf⟩ := hrel
    have hblt := hr.cells.2.2.2.2.2.2
    cases hq : isAtB set sm k
    · have HD : Box (k = N) := ⟨by
        have e : runN set.data.toList sm.data.toList k = 0 := run_stop sm k (fun h => by rw [isAt_val set sm k h, idx_has] at hq; exact hq)
        have := HT.out
        omega⟩
      have HR := Box.mk hr
      have HQ := Box.mk hq
      clear hr HT hq HN h
      go_wp2_with (go_at_call 17; refine (isAt_any b k pg sm set L _ HR.out hs hk).mono ?_; rw [HQ.out]; rintro e w' ⟨rfl, hb'⟩)
      go_end0
      have := HD.out
      subst this
      exact ⟨rfl, HR.out.below hb' hblt, hk, hg.trans (pgrown_of hb' _)⟩
    · have hlt : k < sm.size := by
        rcases Nat.lt_or_ge k sm.size with h | h
        · exact h
        · rw [isAt_end set sm k h] at hq; cases hq
      have HT' : Box ((k + 1) + runN set.data.toList sm.data.toList (k + 1) = N) := ⟨by
        have e : runN set.data.toList sm.data.toList k = runN set.data.toList sm.data.toList (k + 1) + 1 := run_step sm k hlt (by rw [isAt_val set sm k hlt, idx_has] at hq; exact hq)
        have := HT.out
        omega⟩
      have HR := Box.mk hr
      have HQ := Box.mk hq
      clear hr HT hq HN h
      go_wp2_with (go_at_call 17; refine (isAt_any b k pg sm set L _ HR.out hs hk).mono ?_; rw [HQ.out]; rintro e w' ⟨rfl, hb'⟩; obtain ⟨c0, c1, c2, c3, f2, f3, hb2⟩ := (HR.out.below hb' hblt).cells)
      go_roundg (pg.size - k - 1)
      case measure => omega
      case rel => exact ⟨k + 1, by omega, by first | exact (HR.out.below hb' hblt).setA (k + 1) | (have := (HR.out.below hb' hblt).setA (k + 1); rw [Int.natCast_add] at this; exact this), HT', (hg.trans (pgrown_of hb' _)).trans (pgrown_set _ _ _ _), by omega⟩

end Go.Proofs.YtkmkhfgoihfkjaaDoor
