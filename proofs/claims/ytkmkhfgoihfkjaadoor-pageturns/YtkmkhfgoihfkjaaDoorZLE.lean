import Derived.Test.YtkmkhfgoihfkjaaDoorZLD
namespace Go.Proofs.YtkmkhfgoihfkjaaDoor
open Go.RowKit

/- The variables that the code reads, while a reader's block b is written. -/
theorem pgrown_cell {w w' : World} {b k i : Nat} {v : Value} (hg : w.grownBy w' (some b)) (hk : k ≠ b) (h : w.cell? ⟨k, i, none⟩ = some v) : w'.cell? ⟨k, i, none⟩ = some v := by
  have e := hg.block k (World.block_lt_of_cell? w _ h) (by simpa using hk)
  unfold World.cell? at h ⊢
  simp only [e]
  exact h
structure GP (w : World) (b : Nat) : Prop where
  words : Words w
  leads : Leads w
  verbs : Verbs w
  mx : PMax w
  n0 : 2 ≠ b
  n1 : 3 ≠ b
  n2 : 1 ≠ b
  n3 : 0 ≠ b
theorem GP.grown {w w' : World} {b : Nat} (h : GP w b) (hg : w.grownBy w' (some b)) : GP w' b := by
  obtain ⟨m, hm⟩ := h.mx
  have W := h.words
  have E := h.leads
  have V := h.verbs
  exact ⟨⟨pgrown_cell hg h.n0 W.c0, pgrown_cell hg h.n0 W.c1, pgrown_cell hg h.n0 W.c2, pgrown_cell hg h.n0 W.c3, pgrown_cell hg h.n0 W.c4, pgrown_cell hg h.n0 W.c5, pgrown_cell hg h.n0 W.c6, pgrown_cell hg h.n0 W.c7, pgrown_cell hg h.n0 W.c8, pgrown_cell hg h.n0 W.c9⟩,
    ⟨pgrown_cell hg h.n1 E.c0, pgrown_cell hg h.n1 E.c1, pgrown_cell hg h.n1 E.c2⟩,
    ⟨pgrown_cell hg h.n2 V.c0, pgrown_cell hg h.n2 V.c1, pgrown_cell hg h.n2 V.c2, pgrown_cell hg h.n2 V.c3⟩,
    ⟨m, pgrown_cell hg h.n3 hm⟩, h.n0, h.n1, h.n2, h.n3⟩

set_option maxHeartbeats 2000000 in
set_option maxRecDepth 100000 in
theorem attr_none (b a u g k : Nat) (pg sm : ByteArray) (L : Value) (w : World) (h : PR w b pg sm a L) (hG : GP w b) (hl : pg.size ≤ 100000000) (hsm : sm.data.toList = smallS pg.data.toList) (ha : a < pg.size) (hu : (a + 1) + untilN attrA.data.toList sm.data.toList (a + 1) = u) (hg : u + runN blanksA.data.toList sm.data.toList u = g) (hq : isAtB isA sm g = true) (hgl : g < pg.size) (hk : (g + 1) + runN blanksA.data.toList sm.data.toList (g + 1) = k) (hv : valS (pg.data.toList.drop k) = none) :
    Calls Tryd.prog 26 #[.pointer (some ⟨b, 0, none⟩)] w fun e w' => e = .returned (.tuple #[]) ∧ PR w' b pg sm pg.size L ∧ w.grownBy w' (some b) := by
  have hs : sm.size = pg.size := by rw [← size_list, hsm, ← size_list]; unfold smallS; simp
  obtain ⟨c0, c1, c2, c3, f2, f3, hb⟩ := h.cells
  have HU := Box.mk hu
  have HG := Box.mk hg
  have HQ := Box.mk hq
  have HK := Box.mk hk
  have HV := Box.mk hv
  have HS := Box.mk hsm
  have HGP := Box.mk hG
  have hau : a + 1 ≤ u := by omega
  have HP1 := Box.mk (h.setA (a + 1))
  rw [Int.natCast_add] at HP1
  clear hu hg hq h hk hv hG hsm
  go_enter Tryd.func26, Tryd.ntmps26
  go_wp2_with fail
  refine (until_any b (a + 1) pg sm attrA L _ HP1.out hl hs ha).mono ?_
  rw [HU.out]
  rintro e w2 ⟨rfl, hP2, hu2, hg2⟩
  have hg02 := (pgrown_set w b 2 (.int .i64 ((a : Int) + 1))).trans hg2
  have HP2 := Box.mk hP2
  clear hP2 hg2 HP1 c0 c1 c2 c3 f2 f3
  obtain ⟨d0, d1, d2, d3, g2, g3, hb2⟩ := HP2.out.cells
  have k1 : (0 : Int) ≤ (a : Int) := by omega
  have k2 : (a : Int) ≤ (u : Int) := by omega
  have k3 : (u : Int) ≤ (sm.size : Int) := by omega
  go_wp2_with fail
  go_region
  go_wp2_with fail
  have HP3 := Box.mk (HP2.out.below (Below.refl w2.heap.size w2).drew hb2)
  have hg03 := hg02.trans (pgrown_of (Below.refl w2.heap.size w2).drew (some b))
  refine (skip_any b u pg sm blanksA L _ HP3.out hl hs hu2).mono ?_
  rw [HG.out]
  rintro e w4 ⟨rfl, hP4, hu4, hg4⟩
  have hg04 := hg03.trans hg4
  have HP4 := Box.mk hP4
  have hb4 := hP4.cells.2.2.2.2.2.2
  clear hP4 hg4 HP3 HP2 d0 d1 d2 d3 g2 g3
  go_wp2_with fail
  refine (isAt_any b g pg sm isA L _ HP4.out hs hu4).mono ?_
  rw [HQ.out]
  rintro e w5 ⟨rfl, hb5⟩
  have HP5 := Box.mk (HP4.out.below hb5 hb4)
  obtain ⟨d0, d1, d2, d3, g2, g3, hb6⟩ := HP5.out.cells
  have HP6 := Box.mk (HP5.out.setA (g + 1))
  rw [Int.natCast_add] at HP6
  have hg06 := (hg04.trans (pgrown_of hb5 (some b))).trans (pgrown_set w5 b 2 (.int .i64 ((g : Int) + 1)))
  go_wp2_with fail
  refine (skip_any b (g + 1) pg sm blanksA L _ HP6.out hl hs hgl).mono ?_
  rw [HK.out]
  rintro e w7 ⟨rfl, hP7, hu7, hg7⟩
  have hg07 := hg06.trans hg7
  have HP7 := Box.mk hP7
  have HG7 := Box.mk (HGP.out.grown hg07)
  clear hP7 hg7 d0 d1 d2 d3 g2 g3 HP4 HP5 HP6
  go_wp2_with fail
  refine (value_any b k pg sm L _ HP7.out HG7.out.words HG7.out.n0 hl HS.out hu7).mono ?_
  rw [HV.out]
  rintro e w8 ⟨rfl, hP8, hg8⟩
  have hg08 := hg07.trans hg8
  go_wp2
  go_end0
  exact ⟨rfl, hP8.below ((Below.refl _ _).alloc (Nat.le_refl _) _) hP8.cells.2.2.2.2.2.2, hg08.trans (pgrown_of ((Below.refl _ _).alloc (Nat.le_refl _) _) _)⟩

end Go.Proofs.YtkmkhfgoihfkjaaDoor
