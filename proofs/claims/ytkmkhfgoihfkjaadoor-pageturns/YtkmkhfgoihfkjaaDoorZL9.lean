import Derived.Test.YtkmkhfgoihfkjaaDoorZL8
namespace Go.Proofs.YtkmkhfgoihfkjaaDoor
open Go.RowKit

set_option maxHeartbeats 2000000 in
set_option maxRecDepth 100000 in
theorem value_quo_no (b a : Nat) (pg sm : ByteArray) (L : Value) (w : World) (h : PR w b pg sm a L) (hl : pg.size ≤ 100000000) (hs : sm.size = pg.size) (ha : a < pg.size) (hq : isAtB quotesA sm a = true) (hend : (a + 1) + untilN (pg.extract a (a + 1)).data.toList sm.data.toList (a + 1) = pg.size) :
    Calls Tryd.prog 37 #[.pointer (some ⟨b, 0, none⟩)] w fun e w' => e = .returned (.tuple #[.agg #[.int .i64 0, .int .i64 0, .string ⟨#[]⟩], .bool false]) ∧ PR w' b pg sm pg.size L ∧ w.grownBy w' (some b) := by
  have hblt := h.cells.2.2.2.2.2.2
  have hb0 : Below w.heap.size w (w.alloc zeroL) := (Below.refl _ _).alloc (Nat.le_refl _) _
  have HP := Box.mk (h.below hb0 hblt)
  have hz0 := alloc_new w zeroL
  unfold zeroL at hz0 hb0 HP
  clear h
  have HQ := Box.mk hq
  have HE := Box.mk hend
  clear hq hend
  have k1 : (0 : Int) ≤ (a : Int) := by omega
  have k2 : (a : Int) + 1 ≤ (pg.size : Int) := by omega
  go_enter Tryd.func37, Tryd.ntmps37
  go_wp2_with fail
  refine (isAt_any b a pg sm quotesA L _ HP.out hs (by omega)).mono ?_
  rw [HQ.out]
  rintro e w1 ⟨rfl, hb1⟩
  have hs1 := hb1.size
  have HP1 := Box.mk (HP.out.below hb1 (by simp; omega))
  obtain ⟨c0, c1, c2, c3, f2, f3, hbl⟩ := HP1.out.cells
  have HZ1 := Box.mk ((hb1.block w.heap.size (by simp)).trans hz0)
  have hg1 := (pgrown_of hb0 (some b)).trans (pgrown_of (hb1.mono (by simp)) (some b))
  have hw1 : w.heap.size < w1.heap.size := by have := hb1.size; simp at this; omega
  have HP1' := Box.mk ((HP1.out.below (Below.refl w1.heap.size w1).drew hbl).setA (a + 1))
  rw [Int.natCast_add] at HP1'
  go_wp2_with fail
  go_region
  go_wp2_with fail
  refine (until_any b (a + 1) pg sm (pg.extract a (a + 1)) L _ HP1'.out hl hs ha).mono ?_
  rw [HE.out]
  rintro e w2 ⟨rfl, hP2, _, hg2⟩
  have hs2 := hg2.size
  have HZ2 := Box.mk ((hg2.block w.heap.size (by simp; exact hw1) (by simp; omega)).trans ((heap_setCell_other _ ⟨b, 2, none⟩ w.heap.size _ (by show w.heap.size ≠ b; omega)).trans HZ1.out))
  have hg3 := ((hg1.trans (pgrown_of (Below.refl w1.heap.size w1).drew _)).trans (pgrown_set _ _ _ _)).trans hg2
  have HP2 := Box.mk hP2
  clear hP2
  go_wp2_with fail
  refine (atEnd_any b pg.size pg sm L _ HP2.out).mono ?_
  rw [decide_eq_true (rfl : pg.size = pg.size)]
  rintro e w3 ⟨rfl, rfl⟩
  obtain ⟨y0, y1, y2, y3, y4, y5, y6⟩ := obj3_of HZ2.out
  go_wp2
  refine bodyPost_ret (v := .tuple #[.agg #[.int .i64 0, .int .i64 0, .string ⟨#[]⟩], .bool false]) (by simp [results, Tryd.results37, go_sem, y0, y1, y2]) rfl ⟨rfl, ?_⟩
  exact ⟨(((HP2.out.below (Below.refl w2.heap.size w2).drew HP2.out.cells.2.2.2.2.2.2).setO (by omega)).setO (by omega)).setO (by omega), grown_new (grown_new (grown_new (hg3.trans (pgrown_of (Below.refl w2.heap.size w2).drew _)) (Nat.le_refl _)) (Nat.le_refl _)) (Nat.le_refl _)⟩

end Go.Proofs.YtkmkhfgoihfkjaaDoor
