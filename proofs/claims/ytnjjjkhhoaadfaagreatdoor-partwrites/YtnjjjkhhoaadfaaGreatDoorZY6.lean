import Derived.Test.YtnjjjkhhoaadfaaGreatDoorZY3
import Derived.Test.YtnjjjkhhoaadfaaGreatDoorZ26
import Derived.Test.YtnjjjkhhoaadfaaGreatDoorZJG
namespace Go.Proofs.YtnjjjkhhoaadfaaGreatDoor
open Go.RowKit

/- Parts as bytes: the law. -/
set_option maxHeartbeats 2000000 in
set_option maxRecDepth 100000 in
theorem partWrites_any (D : Nat) (p : PT) (v : P4) (w : World) (S : Nat → Prop) (hv : PVX w S D v p) (hG : Glob w) (hT : Tab w) :
    Calls Tryz.prog 5 #[v.v] w fun e w' => e = .returned (.bool true) ∧ Below w.heap.size w w' := by
  obtain ⟨A, n, c, bb, m, A2, n2, c2, rfl⟩ := hv.shape
  have hgb := hG.gb
  have htl := hT.lt
  obtain ⟨W, HW⟩ : ∃ W, Box (W = (w.alloc (obj4 (.slice A n c) (.string bb) (.bool m) (.slice A2 n2 c2))).alloc (.cells #[.int .i64 60] 3)) := ⟨_, ⟨rfl⟩⟩
  have hb0 : Below w.heap.size w W := by rw [HW.out]; exact below_two _ _ _
  have hk := heap_twoP w (obj4 (.slice A n c) (.string bb) (.bool m) (.slice A2 n2 c2)) (.cells #[.int .i64 60] 3)
  have hszW : W.heap.size = w.heap.size + 2 := by rw [HW.out]; simp
  rw [← HW.out] at hk
  have HC : Box (CI W (w.heap.size + 1) 60) := ⟨ci_of hk.2⟩
  have HV : Box (PVX W (fun i => i < w.heap.size) D (.slice A n c, .string bb, .bool m, .slice A2 n2 c2) p) := ⟨PVX.abv (abv_below hb0) _ _ _ (PVX.mono (fun i hi _ => hi) _ _ _ hv)⟩
  have HG := Box.mk (hG.below hb0 hgb)
  have HT := Box.mk (hT.below hb0 htl)
  have HK := Box.mk hk.1
  clear hv hG hT hk
  unfold P4.v
  go_enter Tryz.func5, Tryz.ntmps5
  go_wp2_with fail
  rw [← HW.out]
  refine (small_all D p (.slice A n c, .string bb, .bool m, .slice A2 n2 c2) 0 60 (w.heap.size + 1) _ _ (fun i hi => by have : i < w.heap.size := hi; omega) HV.out (by omega) (by omega) HC.out).mono ?_
  rintro e w1 ⟨hP, hg1⟩
  have hb1 : Below (w.heap.size + 1) W w1 := below_gr hg1 (Nat.le_refl _) (by omega)
  have hb01 : Below w.heap.size w w1 := hb0.trans (hb1.mono (by omega))
  have hsz1 := hb1.size
  rcases hP with rfl | ⟨rfl, hsm, _⟩
  · clear HV HG HT HC HK HW
    go_wp2
    go_ret
    exact ⟨rfl, hb01⟩
  · have HV1 := Box.mk (PVX.pv _ _ _ (PVX.abv (w' := w1) (fun i hi hlt => hb1.block i (by have : i < w.heap.size := hi; omega)) _ _ _ HV.out) hsm)
    have HG1 := Box.mk (HG.out.below hb1 (hgb.mono (by omega)))
    have HT1 := Box.mk (HT.out.below hb1 (by omega))
    have hk1 := (hb1.block w.heap.size (by omega)).trans HK.out
    have HSm := Box.mk hsm
    obtain ⟨x0, x1, x2, x3, xf⟩ := b4_of hk1
    clear HV HG HT HC HK HW hsm
    obtain ⟨O, HO⟩ : ∃ O, Box (O = topW (writeG bndS 4 0 p)) := ⟨_, ⟨rfl⟩⟩
    go_wp2_with fail
    refine (rWriteTop_any D p (.slice A n c, .string bb, .bool m, .slice A2 n2 c2) _ _ HV1.out HSm.out HG1.out.mx HT1.out).mono ?_
    rintro e w2 ⟨hR, hb2⟩
    rw [← HO.out] at hR
    have hsz2 := hb2.size
    have hk2 := (hb2.block w.heap.size (by omega)).trans hk1
    clear x0 x1 x2 x3 xf
    obtain ⟨x0, x1, x2, x3, xf⟩ := b4_of hk2
    have HV2 := Box.mk (PV.abv (abv_below hb2) _ _ _ HV1.out)
    have HG2 := Box.mk (HG1.out.below hb2 HG1.out.gb)
    have HT2 := Box.mk (HT1.out.below hb2 HT1.out.lt)
    have hb02 := hb01.trans (hb2.mono hb01.size)
    have HO2 : Box (O = topW (writeC 4 0 p)) := ⟨by rw [HO.out]; exact (same_top (same_write 4 0 p)).symm⟩
    clear HV1 HG1 HT1 HO hk1
    unfold RWTPost at hR
    cases O with
    | error z =>
      obtain rfl := hR
      go_wp2_with fail
      refine (pWriteTop_any D p (.slice A n c, .string bb, .bool m, .slice A2 n2 c2) _ _ HV2.out HSm.out HG2.out HT2.out).mono ?_
      rintro e w3 ⟨hR3, hb3⟩
      rw [← HO2.out] at hR3
      obtain rfl := hR3
      have HG3 := Box.mk (HG2.out.below hb3 HG2.out.gb)
      have hb03 := hb02.trans (hb3.mono hb02.size)
      clear HO2 HV2 HG2 HT2 x0 x1 x2 x3 xf
      go_wp2_with fail
      refine (bare_errno z _ HG3.out.et).mono ?_
      rintro e w4 ⟨rfl, hb4⟩
      go_wp2
      go_ret
      exact ⟨rfl, hb03.trans (hb4.mono hb03.size)⟩
    | ok t =>
      obtain ⟨T, rfl, hTt⟩ := hR
      go_wp2_with fail
      refine (pWriteTop_any D p (.slice A n c, .string bb, .bool m, .slice A2 n2 c2) _ _ HV2.out HSm.out HG2.out HT2.out).mono ?_
      rintro e w3 ⟨hR3, hb3⟩
      rw [← HO2.out] at hR3
      obtain ⟨T', rfl, hTt'⟩ := hR3
      obtain rfl : T' = T := bytes_eq (hTt'.trans hTt.symm)
      have hb03 := hb02.trans (hb3.mono hb02.size)
      clear HO2 HV2 HG2 HT2 x0 x1 x2 x3 xf hTt hTt'
      go_wp2_with fail
      refine (bare_nil _).mono ?_
      rintro e w4 ⟨rfl, hb4⟩
      go_wp2
      go_ret
      exact ⟨rfl, hb03.trans (hb4.mono hb03.size)⟩

end Go.Proofs.YtnjjjkhhoaadfaaGreatDoor
