import Derived.Test.YtkmkhfgoihfkjaaDoorZL9
namespace Go.Proofs.YtkmkhfgoihfkjaaDoor
open Go.RowKit

set_option maxHeartbeats 2000000 in
set_option maxRecDepth 100000 in
theorem value_quo_yes (b a t : Nat) (pg sm : ByteArray) (L : Value) (w : World) (h : PR w b pg sm a L) (hW : Words w) (hgb : 2 ≠ b) (hl : pg.size ≤ 100000000) (hs : sm.size = pg.size) (ha : a < pg.size) (hq : isAtB quotesA sm a = true) (hend : (a + 1) + untilN (pg.extract a (a + 1)).data.toList sm.data.toList (a + 1) = t) (ht : t < pg.size) (hat : a + 1 ≤ t) :
    Calls Tryd.prog 37 #[.pointer (some ⟨b, 0, none⟩)] w fun e w' => (∃ V : ByteArray, e = .returned (.tuple #[.agg #[.int .i64 ((a : Int) + 1), .int .i64 ((t - (a + 1) : Nat) : Int), .string V], .bool true]) ∧ V.data.toList = unescS ((pg.data.toList.drop (a + 1)).take (t - (a + 1)))) ∧ PR w' b pg sm (t + 1) L ∧ w.grownBy w' (some b) := by
  have hblt := h.cells.2.2.2.2.2.2
  have hb0 : Below w.heap.size w (w.alloc zeroL) := (Below.refl _ _).alloc (Nat.le_refl _) _
  have HP := Box.mk (h.below hb0 hblt)
  have hz0 := alloc_new w zeroL
  unfold zeroL at hz0 hb0 HP
  clear h
  have HQ := Box.mk hq
  have HE := Box.mk hend
  have hgl := hW.lt
  have HW := Box.mk hW
  clear hq hend hW
  have hd : decide (t = pg.size) = false := decide_eq_false (by omega)
  have ex : (pg.extract (a + 1) t).data.toList = (pg.data.toList.drop (a + 1)).take (t - (a + 1)) := extract_list pg (a + 1) t
  have hex : (pg.extract (a + 1) t).size ≤ 100000000 := by simp; omega
  have q1 : (0 : Int) ≤ (a : Int) := by omega
  have q2 : (a : Int) + 1 ≤ (pg.size : Int) := by omega
  go_enter Tryd.func37, Tryd.ntmps37
  go_wp2_with fail
  refine (isAt_any b a pg sm quotesA L _ HP.out hs (by omega)).mono ?_
  rw [HQ.out]
  rintro e w1 ⟨rfl, hb1⟩
  have hs1 := hb1.size
  have HP1 := Box.mk (HP.out.below hb1 (by simp; omega))
  obtain ⟨c0, c1, c2, c3, f2, f3, hbl⟩ := HP1.out.cells
  have HZ1 := Box.mk ((hb1.block w.heap.size (by simp)).trans hz0)
  have hg1 := (pgrown_of hb0 (some b)).trans (pgrown_of (hb1.mono (by simp)) (some b))
  have hw1 : w.heap.size < w1.heap.size := by have := hb1.size; simp at this; omega
  have HP1' := Box.mk ((HP1.out.below (Below.refl w1.heap.size w1).drew hbl).setA (a + 1))
  rw [Int.natCast_add] at HP1'
  go_wp2_with fail
  go_region
  go_wp2_with fail
  refine (until_any b (a + 1) pg sm (pg.extract a (a + 1)) L _ HP1'.out hl hs ha).mono ?_
  rw [HE.out]
  rintro e w2 ⟨rfl, hP2, _, hg2⟩
  have hs2 := hg2.size
  have hw2 : w1.heap.size ≤ w2.heap.size := by simpa using hs2
  have HZ2 := Box.mk ((hg2.block w.heap.size (by simp; exact hw1) (by simp; omega)).trans ((heap_setCell_other _ ⟨b, 2, none⟩ w.heap.size _ (by show w.heap.size ≠ b; omega)).trans HZ1.out))
  have hg3 := ((hg1.trans (pgrown_of (Below.refl w1.heap.size w1).drew _)).trans (pgrown_set _ _ _ _)).trans hg2
  have HP2 := Box.mk hP2
  clear hP2 c0 c1 c2 c3 f2 f3 HZ1 HP1' hg2 hb1 hb0 hz0
  go_wp2_with fail
  refine (atEnd_any b t pg sm L _ HP2.out).mono ?_
  rw [hd]
  rintro e w3 ⟨rfl, rfl⟩
  obtain ⟨W, hWe⟩ : ∃ W, W = w2.drew := ⟨_, rfl⟩
  have hbW : Below w2.heap.size w2 W := by rw [hWe]; exact (Below.refl _ _).drew
  rw [← hWe]
  have hgW := hg3.trans (pgrown_of hbW (some b))
  have HPW := Box.mk (HP2.out.below hbW HP2.out.cells.2.2.2.2.2.2)
  have HZW := Box.mk ((hbW.block w.heap.size (by omega)).trans HZ2.out)
  have HWW : Box (Words W) := ⟨by
    have key : ∀ (i : Nat) (v : Value), w.cell? ⟨2, i, none⟩ = some v → W.cell? ⟨2, i, none⟩ = some v := fun i v hv => by
      have e := hgW.block 2 hgl (by simpa using hgb)
      unfold World.cell? at hv ⊢
      simp only [e]
      exact hv
    have h := HW.out
    exact ⟨key _ _ h.c0, key _ _ h.c1, key _ _ h.c2, key _ _ h.c3, key _ _ h.c4, key _ _ h.c5, key _ _ h.c6, key _ _ h.c7, key _ _ h.c8, key _ _ h.c9⟩⟩
  have hgW0 := HWW.out.lt
  obtain ⟨c0, c1, c2, c3, f2, f3, hbl⟩ := HPW.out.cells
  obtain ⟨y0, y1, y2, y3, y4, y5, y6⟩ := obj3_of HZW.out
  clear hWe HP2 HZ2 HP1 HP hbW
  have k1 : (0 : Int) ≤ (a : Int) + 1 := by omega
  have k2 : (a : Int) + 1 ≤ (t : Int) := by omega
  have k3 : (t : Int) ≤ (pg.size : Int) := by omega
  have hwr : IntKind.i64.wrap ((t : Int) - ((a : Int) + 1)) = ((t - (a + 1) : Nat) : Int) := by
    rw [IntKind.wrap_i64]
    omega
  go_wp2_with fail
  go_region_held3 (fun w' => w'.cell? ⟨b, 0, none⟩ = some (.string pg) ∧ w'.cell? ⟨b, 2, none⟩ = some (.int .i64 (t : Int)) ∧ Below W.heap.size W w')
    ((go_split_ands; exact pkeep2 c0 c2 (by first | exact (Below.refl _ _).drew | assumption | exact Below.alloc (by assumption) (Below.size (by assumption)) _ | exact Below.trans (by assumption) (Below.mono hb5 (Below.size (by assumption))) | exact Below.alloc ((Below.refl W.heap.size W).drew.trans hb5) hb5.size _ | (iterate 3 (refine Below.setCell ?_ (by simp) _)); assumption)))
    (first
      | (go_at_call 41; refine (said_any (pg.extract (a + 1) t) _ (HWW.out.below (by first | exact (Below.refl _ _).drew | exact ((Below.refl _ _).drew.alloc (Nat.le_refl _) _) | assumption) hgW0) hex).mono ?_; rintro e w5 ⟨V, rfl, hV, hb5⟩; (try obtain ⟨z0, z1, z2, z3, z4, z5, z6⟩ := obj3_of ((hb5.block W.heap.size (by simp)).trans (alloc_new _ _)))))
  · have hbW5 : Below W.heap.size W w5 := (Below.refl _ _).drew.trans hb5
    have hs5 := hbW5.size
    obtain ⟨W6, hW6⟩ : ∃ W6, W6 = w5.alloc (.cells #[.int .i64 ((a : Int) + 1), .int .i64 ((t - (a + 1) : Nat) : Int), .string V] 27) := ⟨_, rfl⟩
    rw [← hW6]
    have hb6 : Below W.heap.size W W6 := by rw [hW6]; exact hbW5.alloc hs5 _
    have hn6 : W6.heap[w5.heap.size]? = some (.cells #[.int .i64 ((a : Int) + 1), .int .i64 ((t - (a + 1) : Nat) : Int), .string V] 27 (0, 0)) := by rw [hW6]; exact alloc_new w5 _
    obtain ⟨x0, x1, x2, x3, x4, x5, x6⟩ := obj3_of ((hb6.block w.heap.size y6).trans HZW.out)
    obtain ⟨z0, z1, z2, z3, z4, z5, z6⟩ := obj3_of hn6
    have HP6 := Box.mk (HPW.out.below hb6 hbl)
    have hg6 := hgW.trans (pgrown_of hb6 (some b))
    clear hW6 hn6 hb6 hbW5 hb5 HPW hgW y0 y1 y2 y3 y4 y5 c0 c1 c2 c3 f2 f3
    obtain ⟨d0, d1, d2, d3, g2, g3, dl⟩ := HP6.out.cells
    have HP7 := Box.mk (HP6.out.setA (t + 1))
    rw [Int.natCast_add] at HP7
    have n1 : b ≠ w.heap.size := by omega
    have n2 : b ≠ w5.heap.size := by omega
    go_wp2
    refine bodyPost_ret (v := .tuple #[.agg #[.int .i64 ((a : Int) + 1), .int .i64 ((t - (a + 1) : Nat) : Int), .string V], .bool true]) (by simp [results, Tryd.results37, go_sem, x0, x1, x2]) rfl ⟨⟨V, rfl, by rw [hV, ex]⟩, ?_, ?_⟩
    · exact ((HP7.out.setO (by omega)).setO (by omega)).setO (by omega)
    · exact grown_new (grown_new (grown_new (hg6.trans (pgrown_set _ _ _ _)) (Nat.le_refl _)) (Nat.le_refl _)) (Nat.le_refl _)
  · have hbW5 : Below W.heap.size W w5 := ((Below.refl _ _).drew.alloc (Nat.le_refl _) _).trans (hb5.mono (by simp))
    have hs5 := hbW5.size
    obtain ⟨x0, x1, x2, x3, x4, x5, x6⟩ := obj3_of ((hbW5.block w.heap.size y6).trans HZW.out)
    have hne : w.heap.size ≠ W.heap.size := by omega
    obtain ⟨d0, d1, d2, d3, g2, g3, dl⟩ := (HPW.out.below hbW5 hbl).cells
    have n1 : b ≠ w.heap.size := by omega
    have n2 : b ≠ W.heap.size := by omega
    go_wp2
    refine bodyPost_ret (v := .tuple #[.agg #[.int .i64 ((a : Int) + 1), .int .i64 ((t - (a + 1) : Nat) : Int), .string V], .bool true]) (by simp [results, Tryd.results37, go_sem, x0, x1, x2]) rfl ⟨⟨V, rfl, by rw [hV, ex]⟩, ?_, ?_⟩
    · have h7 := ((((HPW.out.below hbW5 hbl).setO (i := 0) (v := .int .i64 ((a : Int) + 1)) n2).setO (i := 1) (v := .int .i64 ((t - (a + 1) : Nat) : Int)) n2).setO (i := 2) (v := .string V) n2).setA (t + 1)
      rw [Int.natCast_add] at h7
      exact ((h7.setO n1).setO n1).setO n1
    · have hwW : w.heap.size ≤ W.heap.size := by omega
      have h7 := (grown_new (i := 2) (v := .string V) (grown_new (i := 1) (v := .int .i64 ((t - (a + 1) : Nat) : Int)) (grown_new (i := 0) (v := .int .i64 ((a : Int) + 1)) (hgW.trans (pgrown_of hbW5 _)) hwW) hwW) hwW).trans (pgrown_set _ b 2 (.int .i64 ((t : Int) + 1)))
      exact grown_new (grown_new (grown_new h7 (Nat.le_refl _)) (Nat.le_refl _)) (Nat.le_refl _)

end Go.Proofs.YtkmkhfgoihfkjaaDoor
