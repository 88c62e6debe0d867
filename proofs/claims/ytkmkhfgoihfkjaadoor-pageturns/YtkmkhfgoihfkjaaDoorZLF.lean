import Derived.Test.YtkmkhfgoihfkjaaDoorZLE
namespace Go.Proofs.YtkmkhfgoihfkjaaDoor
open Go.RowKit

set_option maxHeartbeats 2000000 in
set_option maxRecDepth 100000 in
theorem attr_pass (b a u g k : Nat) (pg sm : ByteArray) (L : Value) (w : World) (h : PR w b pg sm a L) (hG : GP w b) (hl : pg.size ≤ 100000000) (hsm : sm.data.toList = smallS pg.data.toList) (ha : a < pg.size) (hu : (a + 1) + untilN attrA.data.toList sm.data.toList (a + 1) = u) (hg : u + runN blanksA.data.toList sm.data.toList u = g) (hq : isAtB isA sm g = true) (hgl : g < pg.size) (hk : (g + 1) + runN blanksA.data.toList sm.data.toList (g + 1) = k) (v : List UInt8) (q : Bool) (hv : valS (pg.data.toList.drop k) = some (v, q)) (hn : linkNames.contains ((sm.data.toList.drop a).take (u - a)) = false) :
    Calls Tryd.prog 26 #[.pointer (some ⟨b, 0, none⟩)] w fun e w' => e = .returned (.tuple #[]) ∧ PR w' b pg sm (k + v.length + 2 * qn q) L ∧ k + v.length + 2 * qn q ≤ pg.size ∧ w.grownBy w' (some b) := by
  have hs : sm.size = pg.size := by rw [← size_list, hsm, ← size_list]; unfold smallS; simp
  obtain ⟨c0, c1, c2, c3, f2, f3, hb⟩ := h.cells
  have HU := Box.mk hu
  have HG := Box.mk hg
  have HQ := Box.mk hq
  have HK := Box.mk hk
  have HV := Box.mk hv
  have HN : Box (linkNames.contains (sm.extract a u).data.toList = false) := ⟨by rw [extract_list]; exact hn⟩
  have HS := Box.mk hsm
  have HGP := Box.mk hG
  have hau : a + 1 ≤ u := by omega
  have HP1 := Box.mk (h.setA (a + 1))
  rw [Int.natCast_add] at HP1
  clear hu hg hq h hk hv hG hsm hn
  go_enter Tryd.func26, Tryd.ntmps26
  go_wp2_with fail
  refine (until_any b (a + 1) pg sm attrA L _ HP1.out hl hs ha).mono ?_
  rw [HU.out]
  rintro e w2 ⟨rfl, hP2, hu2, hg2⟩
  have hg02 := (pgrown_set w b 2 (.int .i64 ((a : Int) + 1))).trans hg2
  have HP2 := Box.mk hP2
  clear hP2 hg2 HP1 c0 c1 c2 c3 f2 f3
  obtain ⟨d0, d1, d2, d3, g2, g3, hb2⟩ := HP2.out.cells
  have k1 : (0 : Int) ≤ (a : Int) := by omega
  have k2 : (a : Int) ≤ (u : Int) := by omega
  have k3 : (u : Int) ≤ (sm.size : Int) := by omega
  go_wp2_with fail
  go_region
  go_wp2_with fail
  have HP3 := Box.mk (HP2.out.below (Below.refl w2.heap.size w2).drew hb2)
  have hg03 := hg02.trans (pgrown_of (Below.refl w2.heap.size w2).drew (some b))
  refine (skip_any b u pg sm blanksA L _ HP3.out hl hs hu2).mono ?_
  rw [HG.out]
  rintro e w4 ⟨rfl, hP4, hu4, hg4⟩
  have hg04 := hg03.trans hg4
  have HP4 := Box.mk hP4
  have hb4 := hP4.cells.2.2.2.2.2.2
  clear hP4 hg4 HP3 HP2 d0 d1 d2 d3 g2 g3
  go_wp2_with fail
  refine (isAt_any b g pg sm isA L _ HP4.out hs hu4).mono ?_
  rw [HQ.out]
  rintro e w5 ⟨rfl, hb5⟩
  have HP5 := Box.mk (HP4.out.below hb5 hb4)
  obtain ⟨d0, d1, d2, d3, g2, g3, hb6⟩ := HP5.out.cells
  have HP6 := Box.mk (HP5.out.setA (g + 1))
  rw [Int.natCast_add] at HP6
  have hg06 := (hg04.trans (pgrown_of hb5 (some b))).trans (pgrown_set w5 b 2 (.int .i64 ((g : Int) + 1)))
  go_wp2_with fail
  refine (skip_any b (g + 1) pg sm blanksA L _ HP6.out hl hs hgl).mono ?_
  rw [HK.out]
  rintro e w7 ⟨rfl, hP7, hu7, hg7⟩
  have hg07 := hg06.trans hg7
  have HP7 := Box.mk hP7
  have HG7 := Box.mk (HGP.out.grown hg07)
  clear hP7 hg7 d0 d1 d2 d3 g2 g3 HP4 HP5 HP6
  go_wp2_with fail
  refine (value_any b k pg sm L _ HP7.out HG7.out.words HG7.out.n0 hl HS.out hu7).mono ?_
  rw [HV.out]
  rintro e w8 ⟨⟨V, rfl, hV⟩, hP8, hle, hg8⟩
  have hg08 := hg07.trans hg8
  have HP8 := Box.mk hP8
  have hb8 := hP8.cells.2.2.2.2.2.2
  have hA : ∀ o : Obj, Below w8.heap.size w8 (w8.alloc o) := fun o => (Below.refl _ _).alloc (Nat.le_refl _) o
  have HL8 : Box (∀ o : Obj, Leads (w8.alloc o)) := ⟨fun o => ((HG7.out.grown hg8).grown (pgrown_of (hA o) (some b))).leads⟩
  clear hP8 hg8
  go_wp2_with (go_at_call 38; refine (isLeading_any _ _ (HL8.out _)).mono ?_; rw [HN.out]; rintro e w9 ⟨rfl, rfl⟩)
  go_end0
  exact ⟨rfl, HP8.out.below (hA _) hb8, hle, hg08.trans (pgrown_of (hA _) _)⟩

end Go.Proofs.YtkmkhfgoihfkjaaDoor
