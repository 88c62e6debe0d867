import Derived.Test.YtkmkhfgoihfkjaaDoorZLC
namespace Go.Proofs.YtkmkhfgoihfkjaaDoor
open Go.RowKit

def attrA : ByteArray := ⟨#[32, 9, 13, 10, 47, 61, 62]⟩
def blanksA : ByteArray := ⟨#[32, 9, 13, 10]⟩
def isA : ByteArray := ⟨#[61]⟩

set_option maxHeartbeats 2000000 in
set_option maxRecDepth 100000 in
theorem attr_plain (b a u g : Nat) (pg sm : ByteArray) (L : Value) (w : World) (h : PR w b pg sm a L) (hl : pg.size ≤ 100000000) (hs : sm.size = pg.size) (ha : a < pg.size) (hu : (a + 1) + untilN attrA.data.toList sm.data.toList (a + 1) = u) (hg : u + runN blanksA.data.toList sm.data.toList u = g) (hq : isAtB isA sm g = false) :
    Calls Tryd.prog 26 #[.pointer (some ⟨b, 0, none⟩)] w fun e w' => e = .returned (.tuple #[]) ∧ PR w' b pg sm g L ∧ w.grownBy w' (some b) := by
  obtain ⟨c0, c1, c2, c3, f2, f3, hb⟩ := h.cells
  have HU := Box.mk hu
  have HG := Box.mk hg
  have HQ := Box.mk hq
  have hau : a + 1 ≤ u := by omega
  have HP1 := Box.mk (h.setA (a + 1))
  rw [Int.natCast_add] at HP1
  clear hu hg hq h
  go_enter Tryd.func26, Tryd.ntmps26
  go_wp2_with fail
  refine (until_any b (a + 1) pg sm attrA L _ HP1.out hl hs ha).mono ?_
  rw [HU.out]
  rintro e w2 ⟨rfl, hP2, hu2, hg2⟩
  have hg02 := (pgrown_set w b 2 (.int .i64 ((a : Int) + 1))).trans hg2
  have HP2 := Box.mk hP2
  clear hP2 hg2 HP1 c0 c1 c2 c3 f2 f3
  obtain ⟨d0, d1, d2, d3, g2, g3, hb2⟩ := HP2.out.cells
  have k1 : (0 : Int) ≤ (a : Int) := by omega
  have k2 : (a : Int) ≤ (u : Int) := by omega
  have k3 : (u : Int) ≤ (sm.size : Int) := by omega
  go_wp2_with fail
  go_region
  go_wp2_with fail
  have HP3 := Box.mk (HP2.out.below (Below.refl w2.heap.size w2).drew hb2)
  have hg03 := hg02.trans (pgrown_of (Below.refl w2.heap.size w2).drew (some b))
  refine (skip_any b u pg sm blanksA L _ HP3.out hl hs hu2).mono ?_
  rw [HG.out]
  rintro e w4 ⟨rfl, hP4, hu4, hg4⟩
  have hg04 := hg03.trans hg4
  have HP4 := Box.mk hP4
  have hb4 := hP4.cells.2.2.2.2.2.2
  clear hP4 hg4 HP3 HP2 d0 d1 d2 d3 g2 g3
  go_wp2_with fail
  refine (isAt_any b g pg sm isA L _ HP4.out hs hu4).mono ?_
  rw [HQ.out]
  rintro e w5 ⟨rfl, hb5⟩
  go_wp2
  exact bodyPost_ret (v := .tuple #[]) (by simp [results, Tryd.results26, go_sem]) rfl ⟨rfl, HP4.out.below hb5 hb4, hg04.trans (pgrown_of hb5 _)⟩

end Go.Proofs.YtkmkhfgoihfkjaaDoor
