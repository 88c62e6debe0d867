import Derived.Test.YtkmkhfgoihfkjaaDoorZL0
import Derived.Lib.IndexBytes
namespace Go.Proofs.YtkmkhfgoihfkjaaDoor
open Go.RowKit

set_option maxHeartbeats 800000 in
theorem until_any (b a : Nat) (pg sm set : ByteArray) (L : Value) (w : World) (h : PR w b pg sm a L) (hl : pg.size ≤ 100000000) (hs : sm.size = pg.size) (ha : a ≤ pg.size) :
    Calls Tryd.prog 36 #[.pointer (some ⟨b, 0, none⟩), .string set] w fun e w' => e = .returned (.tuple #[]) ∧ PR w' b pg sm (a + untilN set.data.toList sm.data.toList a) L ∧ a + untilN set.data.toList sm.data.toList a ≤ pg.size ∧ w.grownBy w' (some b) := by
  obtain ⟨N, HN⟩ : ∃ N, Box (a + untilN set.data.toList sm.data.toList a = N) := ⟨_, ⟨rfl⟩⟩
  rw [HN.out]
  go_enter Tryd.func36, Tryd.ntmps36
  go_wp2
  go_loopg [] (pg.size - a) (fun gf wx => ∃ k : Nat, k ≤ pg.size ∧ PR wx b pg sm k L ∧ Box (k + untilN set.data.toList sm.data.toList k = N) ∧ w.grownBy wx (some b) ∧ pg.size - k ≤ gf)
  case atStart => exact ⟨a, ha, h, HN, pgrown_refl _ _, Nat.le_refl _⟩
  case round =>
    obtain ⟨k, hk, hr, HT, hg, hgf⟩ := hrel
    have hblt := hr.cells.2.2.2.2.2.2
    clear HN h
    by_cases hlt : k < pg.size
    · have hd : decide (k = pg.size) = false := decide_eq_false (by omega)
      have hlt' : k < sm.size := by omega
      have hdr : Below wr.heap.size wr wr.drew := (Below.refl _ _).drew
      cases hq : isAtB set sm k
      · have HT' : Box ((k + 1) + untilN set.data.toList sm.data.toList (k + 1) = N) := ⟨by
          have e : untilN set.data.toList sm.data.toList k = untilN set.data.toList sm.data.toList (k + 1) + 1 := run_step sm k hlt' (by rw [isAt_val set sm k hlt', idx_has] at hq; rw [hq]; rfl)
          have := HT.out
          omega⟩
        have HR := Box.mk hr
        have HQ := Box.mk hq
        clear hr HT hq
        go_wp2_with (first
          | (go_at_call 24; refine (atEnd_any b k pg sm L _ HR.out).mono ?_; rw [hd]; rintro e w' ⟨rfl, rfl⟩)
          | (go_at_call 17; refine (isAt_any b k pg sm set L _ (HR.out.below hdr hblt) hs hk).mono ?_; rw [HQ.out]; rintro e w' ⟨rfl, hb'⟩; obtain ⟨c0, c1, c2, c3, f2, f3, hb2⟩ := ((HR.out.below hdr hblt).below hb' (Nat.lt_of_lt_of_le hblt hdr.size)).cells))
        have hb3 := hdr.trans (hb'.mono hdr.size)
        go_roundg (pg.size - k - 1)
        case measure => omega
        case rel => exact ⟨k + 1, by omega, by first | exact (HR.out.below hb3 hblt).setA (k + 1) | (have := (HR.out.below hb3 hblt).setA (k + 1); rw [Int.natCast_add] at this; exact this), HT', (hg.trans (pgrown_of hb3 _)).trans (pgrown_set _ _ _ _), by omega⟩
      · have HD : Box (k = N) := ⟨by
          have e : untilN set.data.toList sm.data.toList k = 0 := run_stop sm k (fun h => by rw [isAt_val set sm k h, idx_has] at hq; rw [hq]; rfl)
          have := HT.out
          omega⟩
        have HR := Box.mk hr
        have HQ := Box.mk hq
        clear hr HT hq
        go_wp2_with (first
          | (go_at_call 24; refine (atEnd_any b k pg sm L _ HR.out).mono ?_; rw [hd]; rintro e w' ⟨rfl, rfl⟩)
          | (go_at_call 17; refine (isAt_any b k pg sm set L _ (HR.out.below hdr hblt) hs hk).mono ?_; rw [HQ.out]; rintro e w' ⟨rfl, hb'⟩))
        have hb3 := hdr.trans (hb'.mono hdr.size)
        go_end0
        have := HD.out
        subst this
        exact ⟨rfl, HR.out.below hb3 hblt, hk, hg.trans (pgrown_of hb3 _)⟩
    · have hd : decide (k = pg.size) = true := decide_eq_true (by omega)
      have HD : Box (k = N) := ⟨by
        have e : untilN set.data.toList sm.data.toList k = 0 := run_stop sm k (fun h => absurd h (by omega))
        have := HT.out
        omega⟩
      have HR := Box.mk hr
      have hdr : Below wr.heap.size wr wr.drew := (Below.refl _ _).drew
      clear hr HT
      go_wp2_with (go_at_call 24; refine (atEnd_any b k pg sm L _ HR.out).mono ?_; rw [hd]; rintro e w' ⟨rfl, rfl⟩)
      go_end0
      have := HD.out
      subst this
      exact ⟨rfl, HR.out.below hdr hblt, hk, hg.trans (pgrown_of hdr _)⟩

/-- The library's variable that strings.Index reads. -/
def PMax (w : World) : Prop := ∃ m, w.cell? ⟨0, 0, none⟩ = some (.int .i64 m)
def seekTo (text sm : List UInt8) (n a : Nat) : Nat := if 0 ≤ Lib.index (sm.drop a) text then a + (Lib.index (sm.drop a) text).toNat else n
theorem pkeep4 {W w' : World} {p q r : Addr} {u v x : Value} (h0 : W.cell? p = some u) (h1 : W.cell? q = some v) (h2 : W.cell? r = some x) (hb : Below W.heap.size W w') : w'.cell? p = some u ∧ w'.cell? q = some v ∧ w'.cell? r = some x ∧ Below W.heap.size W w' := pkeep3 h0 h1 h2 hb

set_option maxHeartbeats 800000 in
theorem seek_any (b a : Nat) (pg sm text : ByteArray) (L : Value) (w : World) (h : PR w b pg sm a L) (hl : pg.size ≤ 100000000) (hs : sm.size = pg.size) (ha : a ≤ pg.size) (hm : PMax w) :
    Calls Tryd.prog 9 #[.pointer (some ⟨b, 0, none⟩), .string text] w fun e w' => e = .returned (.bool (decide (0 ≤ Lib.index (sm.data.toList.drop a) text.data.toList))) ∧ PR w' b pg sm (seekTo text.data.toList sm.data.toList pg.size a) L ∧ w.grownBy w' (some b) := by
  obtain ⟨c0, c1, c2, c3, f2, f3, hb⟩ := h.cells
  obtain ⟨m, hm⟩ := hm
  have HP := Box.mk h
  clear h
  have ex : (sm.extract a pg.size).data.toList = sm.data.toList.drop a := by
    rw [← hs, extract_list, List.take_of_length_le (by rw [List.length_drop, size_list]; exact Nat.le_refl _)]
  have h0 : (0 : Int) ≤ (a : Int) := by omega
  have h1 : (a : Int) ≤ (sm.size : Int) := by omega
  obtain ⟨z, HZ⟩ : ∃ z, Box (Lib.index (sm.data.toList.drop a) text.data.toList = z) := ⟨_, ⟨rfl⟩⟩
  have hzl : z ≤ (sm.size : Int) - a ∧ -1 ≤ z := by
    rw [← HZ.out]
    have := Lib.index_le (sm.data.toList.drop a) text.data.toList
    rw [List.length_drop, size_list] at this
    exact ⟨by omega, Lib.index_ge _ _⟩
  unfold seekTo
  rw [HZ.out]
  have HQ := Box.mk (HP.out.below (Below.refl w.heap.size w).drew hb)
  have hg := pgrown_of (Below.refl w.heap.size w).drew (some b)
  by_cases hz : z < 0
  · have hz' : ¬ 0 ≤ z := by omega
    rw [if_neg hz', decide_eq_false hz']
    have HS := Box.mk (HQ.out.setA pg.size)
    go_enter Tryd.func9, Tryd.ntmps9
    go_wp2_with fail
    go_region_held3 (fun w' => w'.cell? ⟨b, 1, none⟩ = some (.string sm) ∧ w'.cell? ⟨b, 2, none⟩ = some (.int .i64 (a : Int)) ∧ w'.cell? ⟨0, 0, none⟩ = some (.int .i64 m) ∧ Below w.heap.size w w')
      ((go_split_ands; exact pkeep3 c1 c2 hm (by first | exact (Below.refl _ _).drew | assumption)))
      (first
        | (go_at_call 15; refine (Tryd.strings_Index _ _ m _ (by simp; omega) (by first | assumption | (go_split_ands; assumption))).mono ?_; rw [ex, HZ.out]; rintro e w5 ⟨rfl, rfl⟩))
    obtain ⟨d0, d1, d2, d3, g2, g3, hb2⟩ := (HP.out.below (Below.refl w.heap.size w).drew hb).cells
    go_wp2
    go_ret
    exact ⟨rfl, HS.out, hg.trans (pgrown_set _ _ _ _)⟩
  · have hz' : 0 ≤ z := by omega
    rw [if_pos hz', decide_eq_true hz']
    obtain ⟨k, rfl⟩ : ∃ k : Nat, z = (k : Int) := ⟨z.toNat, by omega⟩
    rw [show ((k : Int).toNat) = k from rfl]
    have HS := Box.mk (HQ.out.setA (a + k))
    rw [Int.natCast_add] at HS
    go_enter Tryd.func9, Tryd.ntmps9
    go_wp2_with fail
    go_region_held3 (fun w' => w'.cell? ⟨b, 1, none⟩ = some (.string sm) ∧ w'.cell? ⟨b, 2, none⟩ = some (.int .i64 (a : Int)) ∧ w'.cell? ⟨0, 0, none⟩ = some (.int .i64 m) ∧ Below w.heap.size w w')
      ((go_split_ands; exact pkeep3 c1 c2 hm (by first | exact (Below.refl _ _).drew | assumption)))
      (first
        | (go_at_call 15; refine (Tryd.strings_Index _ _ m _ (by simp; omega) (by first | assumption | (go_split_ands; assumption))).mono ?_; rw [ex, HZ.out]; rintro e w5 ⟨rfl, rfl⟩))
    obtain ⟨d0, d1, d2, d3, g2, g3, hb2⟩ := (HP.out.below (Below.refl w.heap.size w).drew hb).cells
    go_wp2
    go_ret
    exact ⟨rfl, HS.out, hg.trans (pgrown_set _ _ _ _)⟩
theorem seek_le (text sm : List UInt8) (n a : Nat) (hs : sm.length = n) (ha : a ≤ n) : seekTo text sm n a ≤ n := by
  unfold seekTo
  split
  · have := Lib.index_le (sm.drop a) text
    rw [List.length_drop] at this
    omega
  · exact Nat.le_refl _

end Go.Proofs.YtkmkhfgoihfkjaaDoor
