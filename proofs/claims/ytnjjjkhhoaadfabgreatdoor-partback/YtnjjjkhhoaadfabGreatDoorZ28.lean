import Derived.Test.YtnjjjkhhoaadfabGreatDoorZKA
import Derived.Test.YtnjjjkhhoaadfabGreatDoorZ27
import Derived.Test.YtnjjjkhhoaadfabGreatDoorZKE
import Derived.Deep.QuietTactic
import Derived.Deep.RegionHeld3
namespace Go.Proofs.YtnjjjkhhoaadfabGreatDoor
open Go.RowKit

/- All parts come back: binderykeep's. -/
theorem parted_val (s : List UInt8) (h : s = [67, 111, 110, 116, 101, 110, 116, 45, 84, 121, 112, 101, 58, 32, 109, 117, 108, 116, 105, 112, 97, 114, 116, 47, 109, 105, 120, 101, 100, 59, 32, 98, 111, 117, 110, 100, 97, 114, 121, 61, 120, 13, 10, 13, 10, 45, 45, 120, 13, 10, 13, 10, 97, 98, 13, 10, 45, 45, 120, 13, 10, 65, 58, 32, 98, 13, 10, 67, 111, 110, 116, 101, 110, 116, 45, 84, 114, 97, 110, 115, 102, 101, 114, 45, 69, 110, 99, 111, 100, 105, 110, 103, 58, 32, 98, 97, 115, 101, 54, 52, 13, 10, 13, 10, 84, 87, 70, 117, 13, 10, 45, 45, 120, 45, 45]) : ∃ H H1 H2, readTop s = .ok (.mk H [] true [.mk H1 [97, 98] false [], .mk H2 [77, 97, 110] false []]) := by
  subst h
  exact ⟨[([67, 111, 110, 116, 101, 110, 116, 45, 84, 121, 112, 101], [109, 117, 108, 116, 105, 112, 97, 114, 116, 47, 109, 105, 120, 101, 100, 59, 32, 98, 111, 117, 110, 100, 97, 114, 121, 61, 120])], [], [([65], [98]), ([67, 111, 110, 116, 101, 110, 116, 45, 84, 114, 97, 110, 115, 102, 101, 114, 45, 69, 110, 99, 111, 100, 105, 110, 103], [98, 97, 115, 101, 54, 52])], by kernel_rfl⟩

set_option maxHeartbeats 2000000 in
set_option maxRecDepth 100000 in
theorem parted_any (w : World) (hG : Glob w) : Calls Tryz.prog 5 #[] w fun e w' => e = .returned (.bool true) ∧ Below w.heap.size w w' := by
  have HG := Box.mk hG
  clear hG
  go_enter Tryz.func5, Tryz.ntmps5
  go_wp2_with fail
  refine (pReadTop_any _ _ (by decide) HG.out).mono ?_
  rintro e w1 ⟨hR, hb1⟩
  obtain ⟨H, H1, H2, hv⟩ := parted_val _ rfl
  have hR' : RTPost (.ok (.mk H [] true [.mk H1 [97, 98] false [], .mk H2 [77, 97, 110] false []])) w.heap.size e w1 := by
    rw [← hv]; exact hR
  obtain ⟨v, rfl, hPV⟩ := hR'
  obtain ⟨A, cap, bb, lh, h1, h2, h3, h4, _, _, _, h9, _, h11⟩ := hPV
  obtain ⟨A1, c1, h4', _⟩ := h4
  obtain ⟨v0, v1, v2, v3⟩ := v
  simp only at h1 h2 h3 h4'
  subst h1 h2 h3 h4'
  obtain ⟨q0, ⟨b0, o0, hA, _, _, c01, _⟩, hq0⟩ := h11 0 (by simp)
  obtain ⟨q1, ⟨b1, o1, hA1, _, _, c11, _⟩, hq1⟩ := h11 1 (by simp)
  obtain ⟨_, _, bb0, _, g1, _, _, _, _, _, g7, _⟩ := hq0
  obtain ⟨_, _, bb1, _, k1, _, _, _, _, _, k7, _⟩ := hq1
  subst hA
  obtain ⟨rfl, rfl⟩ : b0 = b1 ∧ o0 = o1 := by simpa using hA1
  rw [g1] at c01
  rw [k1] at c11
  have E0 := teq_of bb0 [97, 98] g7
  have E1 := teq_of bb1 [77, 97, 110] k7
  have hlt := World.block_lt_of_cell? w1 _ c01
  simp only [Nat.zero_mul, Nat.add_zero, Nat.one_mul] at c01 c11
  clear h11 hR hv g1 g7 k1 k7 HG
  have c01' : (w1.alloc (obj4 (.slice A1 lh.length c1) (.string bb) (.bool true) (.slice (some ⟨b0, o0, none⟩) [PT.mk H1 [97, 98] false [], PT.mk H2 [77, 97, 110] false []].length cap))).cell? ⟨b0, o0 + 1, none⟩ = some (.string bb0) := ((below_oneP w1 _).cell (p := ⟨b0, o0 + 1, none⟩) hlt).trans c01
  have c11' : (w1.alloc (obj4 (.slice A1 lh.length c1) (.string bb) (.bool true) (.slice (some ⟨b0, o0, none⟩) [PT.mk H1 [97, 98] false [], PT.mk H2 [77, 97, 110] false []].length cap))).cell? ⟨b0, o0 + 4 + 1, none⟩ = some (.string bb1) := ((below_oneP w1 _).cell (p := ⟨b0, o0 + 4 + 1, none⟩) hlt).trans c11
  simp only [List.length_cons, List.length_nil] at c01' c11'
  unfold P4.v
  simp only [List.length_cons, List.length_nil]
  go_wp2
  go_ret
  exact ⟨rfl, hb1.alloc hb1.size _⟩

def AllP (w : World) (A : Option Addr) (n : Nat) : Prop := ∀ k, k < n → ∃ (q : P4) (p : PT) (D : Nat), PC w (fun _ => True) A k q ∧ PV w (fun _ => True) D q p ∧ Sm1 D p
theorem OwnP.one (w : World) (B : Nat) (u : P4) (hB : B ≤ w.heap.size) : OwnP (w.alloc (.cells #[u.1, u.2.1, u.2.2.1, u.2.2.2] 25)) B (.slice (some ⟨w.heap.size, 0, none⟩) 1 1) [u] := by
  have h := World.ownsRow_lit (e := 25) (size := 4) (base := B) w #[u.1, u.2.1, u.2.2.1, u.2.2.2] 1 hB (by unfold maxLen; omega) (by simp)
  simpa [OwnP, pcells] using h

end Go.Proofs.YtnjjjkhhoaadfabGreatDoor

namespace Go.Proofs.YtnjjjkhhoaadfabGreatDoor
open Go.RowKit

/- All parts come back: the law. -/
theorem new4 (W : World) (b : Nat) (hb : b = W.heap.size) (u0 u1 u2 u3 : Value) : (W.alloc (obj4 u0 u1 u2 u3)).cell? ⟨b, 0, none⟩ = some u0 ∧ (W.alloc (obj4 u0 u1 u2 u3)).cell? ⟨b, 1, none⟩ = some u1 ∧ (W.alloc (obj4 u0 u1 u2 u3)).cell? ⟨b, 2, none⟩ = some u2 ∧ (W.alloc (obj4 u0 u1 u2 u3)).cell? ⟨b, 3, none⟩ = some u3 := by
  subst hb
  obtain ⟨h0, h1, h2, h3, _⟩ := b4_of (heap_oneP W (obj4 u0 u1 u2 u3))
  exact ⟨h0, h1, h2, h3⟩
theorem keep_eight {W w' : World} {a0 a1 a2 a3 c0 c1 c2 c3 : Addr} {u0 u1 u2 u3 v0 v1 v2 v3 : Value} (h0 : W.cell? a0 = some u0) (h1 : W.cell? a1 = some u1) (h2 : W.cell? a2 = some u2) (h3 : W.cell? a3 = some u3) (k0 : W.cell? c0 = some v0) (k1 : W.cell? c1 = some v1) (k2 : W.cell? c2 = some v2) (k3 : W.cell? c3 = some v3) (hb : Below W.heap.size W w') :
    w'.cell? a0 = some u0 ∧ w'.cell? a1 = some u1 ∧ w'.cell? a2 = some u2 ∧ w'.cell? a3 = some u3 ∧ w'.cell? c0 = some v0 ∧ w'.cell? c1 = some v1 ∧ w'.cell? c2 = some v2 ∧ w'.cell? c3 = some v3 ∧ Below W.heap.size W w' :=
  ⟨(hb.cell (World.block_lt_of_cell? W _ h0)).trans h0, (hb.cell (World.block_lt_of_cell? W _ h1)).trans h1, (hb.cell (World.block_lt_of_cell? W _ h2)).trans h2, (hb.cell (World.block_lt_of_cell? W _ h3)).trans h3, (hb.cell (World.block_lt_of_cell? W _ k0)).trans k0, (hb.cell (World.block_lt_of_cell? W _ k1)).trans k1, (hb.cell (World.block_lt_of_cell? W _ k2)).trans k2, (hb.cell (World.block_lt_of_cell? W _ k3)).trans k3, hb⟩

set_option maxHeartbeats 8000000 in
set_option maxRecDepth 100000 in
theorem partBack_any (D0 : Nat) (p0 : PT) (v : P4) (s : ByteArray) (w : World) (S : Nat → Prop) (hv : PVX w S D0 v p0) (hss : s.size ≤ 1000000000000000) (hG : Glob w) (hT : Tab w) :
    Calls Tryz.prog 3 #[v.v, .string s] w fun e w' => e = .returned (.bool true) ∧ Below w.heap.size w w' := by
  obtain ⟨A, n, c, bb, m, A2, n2, c2, rfl⟩ := hv.shape
  have hgb := hG.gb
  have htl := hT.lt
  obtain ⟨W, HW⟩ : ∃ W, Box (W = (w.alloc (obj4 (.slice A n c) (.string bb) (.bool m) (.slice A2 n2 c2))).alloc (.cells #[.int .i64 60] 3)) := ⟨_, ⟨rfl⟩⟩
  have hb0 : Below w.heap.size w W := by rw [HW.out]; exact below_two _ _ _
  have hk := heap_twoP w (obj4 (.slice A n c) (.string bb) (.bool m) (.slice A2 n2 c2)) (.cells #[.int .i64 60] 3)
  have hszW : W.heap.size = w.heap.size + 2 := by rw [HW.out]; simp
  rw [← HW.out] at hk
  have HC : Box (CI W (w.heap.size + 1) 60) := ⟨ci_of hk.2⟩
  have HV : Box (PVX W (fun i => i < w.heap.size) D0 (.slice A n c, .string bb, .bool m, .slice A2 n2 c2) p0) := ⟨PVX.abv (abv_below hb0) _ _ _ (PVX.mono (fun i hi _ => hi) _ _ _ hv)⟩
  have HG := Box.mk (hG.below hb0 hgb)
  have HT := Box.mk (hT.below hb0 htl)
  have HK := Box.mk hk.1
  clear hv hG hT hk
  unfold P4.v
  go_enter Tryz.func3, Tryz.ntmps3
  go_wp2_with fail
  rw [← HW.out]
  refine (ksmall_all D0 p0 (.slice A n c, .string bb, .bool m, .slice A2 n2 c2) 0 60 (w.heap.size + 1) _ _ (fun i hi => by have : i < w.heap.size := hi; omega) HV.out (by omega) (by omega) HC.out).mono ?_
  rintro e w1 ⟨hP, hg1⟩
  have hb1 : Below (w.heap.size + 1) W w1 := below_gr hg1 (Nat.le_refl _) (by omega)
  have hb01 : Below w.heap.size w w1 := hb0.trans (hb1.mono (by omega))
  have hsz1 := hb1.size
  rcases hP with rfl | ⟨rfl, hsm, _⟩
  · clear HV HG HT HC HK HW
    go_wp2
    go_ret
    exact ⟨rfl, hb01⟩
  · by_cases h25 : 2500 < s.size
    · clear HV HG HT HC HK HW hsm
      go_wp2
      go_ret
      exact ⟨rfl, hb01⟩
    · have HV1 := Box.mk (PVX.pv _ _ _ (PVX.abv (w' := w1) (fun i hi hlt => hb1.block i (by have : i < w.heap.size := hi; omega)) _ _ _ HV.out) (Sm1.sm _ _ hsm))
      have HG1 := Box.mk (HG.out.below hb1 (hgb.mono (by omega)))
      have HT1 := Box.mk (HT.out.below hb1 (by omega))
      have hk1 := (hb1.block w.heap.size (by omega)).trans HK.out
      have HSm0 := Box.mk hsm
      clear HV HG HT HC HK HW hsm
      go_wp2_with fail
      refine (parted_any _ HG1.out).mono ?_
      rintro e w2 ⟨rfl, hb2⟩
      have hsz2 := hb2.size
      have hk2 := (hb2.block w.heap.size (by omega)).trans hk1
      obtain ⟨x0, x1, x2, x3, xf⟩ := b4_of hk2
      have hb02 := hb01.trans (hb2.mono hb01.size)
      obtain ⟨W2, HW2⟩ : ∃ W2, Box (W2 = w2.alloc (obj4 (.slice A n c) (.string bb) (.bool m) (.slice A2 n2 c2))) := ⟨_, ⟨rfl⟩⟩
      have hb2W : Below w2.heap.size w2 W2 := by rw [HW2.out]; exact below_oneP _ _
      have hszW2 : W2.heap.size = w2.heap.size + 1 := by rw [HW2.out]; exact size_oneP _ _
      have hO2 : OwnP W2 w2.heap.size (.slice (some ⟨w2.heap.size, 0, none⟩) 1 1) [(.slice A n c, .string bb, .bool m, .slice A2 n2 c2)] := by
        rw [HW2.out]; exact OwnP.one w2 w2.heap.size (.slice A n c, .string bb, .bool m, .slice A2 n2 c2) (Nat.le_refl _)
      have hb12 : Below w1.heap.size w1 W2 := hb2.trans (hb2W.mono hb2.size)
      have hb02W := hb02.trans (hb2W.mono hb02.size)
      have HV2 := Box.mk (PV.mono (T := fun i => i < w2.heap.size) (fun i _ hi => by have : i < w.heap.size := hi; show i < w2.heap.size; omega) _ _ _ (PV.abv (abv_below hb12) _ _ _ HV1.out))
      have HG2 := Box.mk (HG1.out.below hb12 HG1.out.gb)
      have HT2 := Box.mk (HT1.out.below hb12 HT1.out.lt)
      have HO2 := Box.mk hO2
      obtain ⟨O, HO⟩ : ∃ O, Box (O = readTop s.data.toList) := ⟨_, ⟨rfl⟩⟩
      clear HV1 HG1 HT1 hk1 hk2 hO2
      go_wp2_with fail
      rw [← HW2.out]
      refine (pReadTop_any s _ (by omega) HG2.out).mono ?_
      rintro e w3 ⟨hR3, hb3⟩
      rw [← HO.out] at hR3
      have hsz3 := hb3.size
      have hb03 := hb02W.trans (hb3.mono hb02W.size)
      have HV3 := Box.mk (PV.abv (abv_below hb3) _ _ _ HV2.out)
      have HG3 := Box.mk (HG2.out.below hb3 HG2.out.gb)
      have HT3 := Box.mk (HT2.out.below hb3 HT2.out.lt)
      have HO3 := Box.mk (HO2.out.abv (abv_below hb3))
      clear HV2 HG2 HT2 HO2 HW2 x0 x1 x2 x3 xf
      cases O with
      | error z =>
        obtain rfl := hR3
        obtain ⟨wl, HWl⟩ : ∃ wl, Box (wl = w3.alloc zeroO) := ⟨_, ⟨rfl⟩⟩
        have hbl : Below w3.heap.size w3 wl := by rw [HWl.out]; exact below_oneP _ _
        have hb0l := hb03.trans (hbl.mono hb03.size)
        have HGl := Box.mk (HG3.out.below hbl HG3.out.gb)
        have HTl := Box.mk (HT3.out.below hbl HT3.out.lt)
        obtain ⟨nl, hnl1, hnl2⟩ : ∃ nl, nl ≤ 1 ∧ 1 ≤ nl := ⟨1, Nat.le_refl _, Nat.le_refl _⟩
        have HAll : Box (AllP wl (some ⟨w2.heap.size, 0, none⟩) nl) := ⟨by
          intro k hk
          have hk0 : k = 0 := by omega
          subst hk0
          obtain ⟨A', cap', hv', _, hpc⟩ := (HO3.out.abv (abv_below hbl)).pc
          simp only [Value.slice.injEq] at hv'
          rw [hv'.1]
          exact ⟨_, p0, D0, (hpc 0 (by simp)).mono (fun _ _ _ => trivial), PV.mono (fun _ _ _ => trivial) _ _ _ (PV.abv (abv_below hbl) _ _ _ HV3.out), HSm0.out⟩⟩
        clear HV3 HG3 HT3 HO3 HO HSm0
        go_wp2
        rw [← HWl.out]
        go_loopw [11] (fun i wr => ∃ k : Nat, k ≤ nl ∧ i = .int .i64 k ∧ Below wl.heap.size wl wr) (fun i _ => nl - (intOf i).toNat)
        case atStart => exact ⟨0, Nat.zero_le _, rfl, Below.refl _ _⟩
        case round =>
          obtain ⟨k, hk, rfl, hb⟩ := hrel
          have hsz := hb.size
          have HGr := Box.mk (HGl.out.below hb HGl.out.gb)
          have HTr := Box.mk (HTl.out.below hb HTl.out.lt)
          by_cases hlt : k < nl
          · obtain ⟨q, p, D, ⟨b1, o1, hA, _, r0, r1, r2, r3⟩, hv1, hsm⟩ := HAll.out k hlt
            have hA2 : b1 = w2.heap.size ∧ o1 = 0 := by simp at hA; omega
            rw [hA2.1, hA2.2] at r0 r1 r2 r3
            simp only [Nat.zero_add] at r0 r1 r2 r3
            clear hA hA2
            obtain ⟨E1, m1, g1, bb1, mm1, E2, m2, g2, rfl⟩ := hv1.shape
            have hc1 := World.block_lt_of_cell? wl _ r0
            have r0' := (hb.cell (p := ⟨w2.heap.size, k * 4, none⟩) hc1).trans r0
            have r1' := (hb.cell (p := ⟨w2.heap.size, k * 4 + 1, none⟩) hc1).trans r1
            have r2' := (hb.cell (p := ⟨w2.heap.size, k * 4 + 2, none⟩) hc1).trans r2
            have r3' := (hb.cell (p := ⟨w2.heap.size, k * 4 + 3, none⟩) hc1).trans r3
            simp only at r0' r1' r2' r3'
            have HV := Box.mk (PV.abv (abv_below hb) _ _ _ hv1)
            have HSm := Box.mk hsm
            obtain ⟨O, HO⟩ : ∃ O, Box (O = topW (writeC 4 0 p)) := ⟨_, ⟨rfl⟩⟩
            clear r0 r1 r2 r3 hv1 hsm
            go_wp2_with fail
            refine (pWriteTop_any D p (.slice E1 m1 g1, .string bb1, .bool mm1, .slice E2 m2 g2) _ _ HV.out (Sm1.sm _ _ HSm.out) HGr.out HTr.out).mono ?_
            rintro e w3 ⟨hR3, hb3⟩
            rw [← HO.out] at hR3
            have hb03 := hb.trans (hb3.mono hsz)
            have hsz3 := hb03.size
            cases O with
            | error c =>
              obtain rfl := hR3
              clear HO HV HSm HGr HTr r0' r1' r2' r3'
              go_wp2
              go_roundw
              case rel => exact ⟨k + 1, by omega, by go_num, hb03⟩
              case measure => simp [intOf]; omega
            | ok t =>
              obtain ⟨TT, rfl, hTT⟩ := hR3
              obtain ⟨r, hr1, hr2, hr3, hr4, hr5, hr6, hr7⟩ := back_all D p t HO.out.symm HSm.out
              rw [← hTT] at hr1 hr2
              rw [size_list] at hr2
              have HR1 := Box.mk hr1
              have HR3 := Box.mk hr3
              have HR4 := Box.mk hr4
              have HR5 := Box.mk hr5
              have HR6 := Box.mk hr6
              have HR7 := Box.mk hr7
              have HTT := Box.mk hTT
              have HG3 := Box.mk (HGr.out.below hb3 HGr.out.gb)
              have HT3 := Box.mk (HTr.out.below hb3 HTr.out.lt)
              have HV3 := Box.mk (PV.abv (abv_below hb3) _ _ _ HV.out)
              have hc3 : w2.heap.size < wr.heap.size := World.block_lt_of_cell? wr _ r0'
              have s0 := (hb3.cell (p := ⟨w2.heap.size, k * 4, none⟩) hc3).trans r0'
              have s1 := (hb3.cell (p := ⟨w2.heap.size, k * 4 + 1, none⟩) hc3).trans r1'
              have s2 := (hb3.cell (p := ⟨w2.heap.size, k * 4 + 2, none⟩) hc3).trans r2'
              have s3 := (hb3.cell (p := ⟨w2.heap.size, k * 4 + 3, none⟩) hc3).trans r3'
              clear HO HV HGr HTr r0' r1' r2' r3' hr1 hr3 hr4 hr5 hr6 hr7 hTT
              go_wp2_with fail
              refine (pReadTop_any TT _ (by omega) HG3.out).mono ?_
              rintro e w4 ⟨hR4, hb4⟩
              rw [HR1.out] at hR4
              obtain ⟨v4, rfl, hPV4⟩ := hR4
              obtain ⟨F1, f1, ff1, bb4, mm4, F2, f2, ff2, rfl⟩ := hPV4.shape
              have hb04 := hb03.trans (hb4.mono hsz3)
              have hsz4 := hb04.size
              obtain ⟨W4, HW4⟩ : ∃ W4, Box (W4 = w4.alloc (obj4 (.slice F1 f1 ff1) (.string bb4) (.bool mm4) (.slice F2 f2 ff2))) := ⟨_, ⟨rfl⟩⟩
              have hb4W : Below w4.heap.size w4 W4 := by rw [HW4.out]; exact below_oneP _ _
              have hk4 : W4.heap[w4.heap.size]? = some (obj4 (.slice F1 f1 ff1) (.string bb4) (.bool mm4) (.slice F2 f2 ff2)) := by rw [HW4.out]; exact heap_oneP _ _
              have hb34 : Below w3.heap.size w3 W4 := hb4.trans (hb4W.mono hb4.size)
              have hb04W := hb04.trans (hb4W.mono hsz4)
              have hszW4 := hb34.size
              have HV4 := Box.mk (PV.abv (abv_below hb4W) _ _ _ hPV4)
              have HVp := Box.mk (PV.abv (abv_below hb34) _ _ _ HV3.out)
              have HG4 := Box.mk (HG3.out.below hb34 HG3.out.gb)
              have HT4 := Box.mk (HT3.out.below hb34 HT3.out.lt)
              have hc4 : w2.heap.size < w3.heap.size := World.block_lt_of_cell? w3 _ s0
              have q0 := (hb34.cell (p := ⟨w2.heap.size, k * 4, none⟩) hc4).trans s0
              have q1 := (hb34.cell (p := ⟨w2.heap.size, k * 4 + 1, none⟩) hc4).trans s1
              have q2 := (hb34.cell (p := ⟨w2.heap.size, k * 4 + 2, none⟩) hc4).trans s2
              have q3 := (hb34.cell (p := ⟨w2.heap.size, k * 4 + 3, none⟩) hc4).trans s3
              have hx4 := hk4
              clear s0 s1 s2 s3 hPV4 HV3 HG3 HT3
              unfold P4.v
              go_wp2
              rw [← HW4.out]
              obtain ⟨z0, z1, z2, z3, zf⟩ := b4_of hk4
              go_region_held3 (fun w' => w'.cell? ⟨w2.heap.size, k * 4, none⟩ = some (.slice E1 m1 g1) ∧ w'.cell? ⟨w2.heap.size, k * 4 + 1, none⟩ = some (.string bb1) ∧ w'.cell? ⟨w2.heap.size, k * 4 + 2, none⟩ = some (.bool mm1) ∧ w'.cell? ⟨w2.heap.size, k * 4 + 3, none⟩ = some (.slice E2 m2 g2) ∧ w'.cell? ⟨w4.heap.size, 0, none⟩ = some (.slice F1 f1 ff1) ∧ w'.cell? ⟨w4.heap.size, 1, none⟩ = some (.string bb4) ∧ w'.cell? ⟨w4.heap.size, 2, none⟩ = some (.bool mm4) ∧ w'.cell? ⟨w4.heap.size, 3, none⟩ = some (.slice F2 f2 ff2) ∧ Below W4.heap.size W4 w')
                ((go_split_ands; exact keep_eight q0 q1 q2 q3 z0 z1 z2 z3 (by first | exact (Below.refl _ _).drew | exact Below.trans (by assumption) (Below.mono hb5 (Below.size (by assumption))))))
                (first
                  | (go_at_call 9; refine (likes_all 4 (.slice E1 m1 g1, .string bb1, .bool mm1, .slice E2 m2 g2) (.slice F1 f1 ff1, .string bb4, .bool mm4, .slice F2 f2 ff2) p r _ _ _ (PV.abv (abv_below (by go_split_ands; assumption)) _ _ _ (PV.down 4 D _ _ HVp.out HR4.out)) (PV.abv (abv_below (by go_split_ands; assumption)) _ _ _ HV4.out) HR3.out HR4.out HR5.out).mono ?_; rintro e w5 ⟨rfl, hb5⟩))
              have hbW5 : Below W4.heap.size W4 w5 := (Below.refl W4.heap.size W4).drew.trans hb5
              have hb05 := hb04W.trans (hbW5.mono hb04W.size)
              have hk5 := (hbW5.block w4.heap.size (Array.getElem?_eq_some_iff.1 hk4).1).trans hk4
              have HV5 := Box.mk (PV.abv (abv_below hbW5) _ _ _ HV4.out)
              have HG5 := Box.mk (HG4.out.below hbW5 HG4.out.gb)
              have HT5 := Box.mk (HT4.out.below hbW5 HT4.out.lt)
              have hsz5 := hb05.size
              clear z0 z1 z2 z3 zf q0 q1 q2 q3 HV4 HVp HG4 HT4 hb5
              obtain ⟨z0, z1, z2, z3, zf⟩ := b4_of hk5
              go_wp2_with fail
              refine (pWriteTop_any 4 r (.slice F1 f1 ff1, .string bb4, .bool mm4, .slice F2 f2 ff2) _ _ HV5.out HR6.out HG5.out HT5.out).mono ?_
              rintro e w6 ⟨hR6, hb6⟩
              rw [HR7.out] at hR6
              obtain ⟨T2, rfl, hT2⟩ := hR6
              obtain rfl : T2 = TT := bytes_eq (hT2.trans HTT.out.symm)
              have hb06 := hb05.trans (hb6.mono hsz5)
              clear HV5 HG5 HT5 HR1 HR3 HR4 HR5 HR6 HR7 HTT hT2 HSm z0 z1 z2 z3 zf hk5 hk4 hx4
              go_wp2
              go_roundw
              case rel => exact ⟨k + 1, by omega, by go_num, hb06⟩
              case measure => simp [intOf]; omega
          · clear HAll HGr HTr
            go_wp2
            go_ret
            exact ⟨rfl, hb0l.trans (hb.mono hb0l.size)⟩
      | ok q =>
        obtain ⟨v3, rfl, hPV3⟩ := hR3
        obtain ⟨G1, u1, uu1, bb3, mm3, G2, u2, uu2, rfl⟩ := hPV3.shape
        have HSq := Box.mk (top_sm s.data.toList q HO.out.symm (by rw [size_list]; omega))
        have HWq := Box.mk (read_write s.data.toList q HO.out.symm)
        obtain ⟨W3, HW3⟩ : ∃ W3, Box (W3 = w3.alloc (obj4 (.slice G1 u1 uu1) (.string bb3) (.bool mm3) (.slice G2 u2 uu2))) := ⟨_, ⟨rfl⟩⟩
        have hb3W : Below w3.heap.size w3 W3 := by rw [HW3.out]; exact below_oneP _ _
        have hszW3 : W3.heap.size = w3.heap.size + 1 := by rw [HW3.out]; exact size_oneP _ _
        have hk3 : W3.heap[w3.heap.size]? = some (obj4 (.slice G1 u1 uu1) (.string bb3) (.bool mm3) (.slice G2 u2 uu2)) := by rw [HW3.out]; exact heap_oneP _ _
        have hb0W := hb03.trans (hb3W.mono hb03.size)
        have HVp := Box.mk (PV.mono (T := fun i => i ≠ w2.heap.size) (fun i _ hi => by have : i < w2.heap.size := hi; show i ≠ w2.heap.size; omega) _ _ _ (PV.abv (abv_below hb3W) _ _ _ HV3.out))
        have HVq := Box.mk (PV.mono (T := fun i => i ≠ w2.heap.size) (fun i _ hi => by have : W2.heap.size ≤ i := hi; show i ≠ w2.heap.size; omega) _ _ _ (PV.abv (abv_below hb3W) _ _ _ hPV3))
        have HG4 := Box.mk (HG3.out.below hb3W HG3.out.gb)
        have HT4 := Box.mk (HT3.out.below hb3W HT3.out.lt)
        have HO4 := Box.mk (HO3.out.abv (abv_below hb3W))
        clear HV3 HG3 HT3 HO3 HO hPV3
        unfold P4.v
        obtain ⟨z0, z1, z2, z3, zf⟩ := b4_of hk3
        go_wp2_with (at_builtin; rw [← HW3.out]; refine wp_appP _ rfl (.tmp 35) (.tmp 37) rfl w2.heap.size _ [(.slice A n c, .string bb, .bool m, .slice A2 n2 c2)] rfl (OwnP.abv HO4.out (abv_below ((Below.refl _ _).alloc (Nat.le_refl _) _))) _ _ (.slice G1 u1 uu1, .string bb3, .bool mm3, .slice G2 u2 uu2) rfl (new4 W3 _ (by omega) _ _ _ _).1 (new4 W3 _ (by omega) _ _ _ _).2.1 (new4 W3 _ (by omega) _ _ _ _).2.2.1 (new4 W3 _ (by omega) _ _ _ _).2.2.2 ⟨rfl, rfl, rfl, rfl⟩ (by simp) (by simp; omega) ?_; intro v5 w5 hown5 hg5 hv5; have hgw : W3.grownBy w5 (some w2.heap.size) := gr_trans (gr_below (below_oneP W3 _) _) hg5; have hk5 := (hgw.block w3.heap.size (by omega) (by simp; omega)).trans hk3; obtain ⟨y0, y1, y2, y3, yf⟩ := b4_of hk5)
        obtain ⟨gl, cap5, hv5e⟩ : ∃ g cap, v5 = .slice (some ⟨g, 0, none⟩) 2 cap := by
          rcases hown5.shape with ⟨_, h⟩ | ⟨g, cap, h, _⟩
          · simp at h
          · exact ⟨g, cap, by simpa using h⟩
        subst hv5e
        have hab : Abv (fun i => i ≠ w2.heap.size) W3 w5 := abv_gr hgw (fun i hi e => hi (Option.some.inj e))
        have hbg : Below w2.heap.size W3 w5 := below_gr hgw (Nat.le_refl _) (by omega)
        have hb05 : Below w.heap.size w w5 := hb0W.trans (hbg.mono (by omega))
        have HG5 := Box.mk (HG4.out.below hbg (hgb.mono (by omega)))
        have HT5 := Box.mk (HT4.out.below hbg (by omega))
        have HVp5 := Box.mk (PV.abv hab _ _ _ HVp.out)
        have HVq5 := Box.mk (PV.abv hab _ _ _ HVq.out)
        have HO5 := Box.mk hown5
        have hsz5 := hgw.size
        clear z0 z1 z2 z3 zf HVp HVq HG4 HT4 HO4 hown5 hg5 hv5 hk3 hab HW3 y0 y1 y2 y3 yf
        refine (pWriteTop_any 4 q (.slice G1 u1 uu1, .string bb3, .bool mm3, .slice G2 u2 uu2) _ _ HVq5.out (Sm1.sm _ _ HSq.out) HG5.out HT5.out).mono ?_
        rintro e w6 ⟨hR6, hb6⟩
        have hb06 := hb05.trans (hb6.mono hb05.size)
        have HG6 := Box.mk (HG5.out.below hb6 HG5.out.gb)
        have HT6 := Box.mk (HT5.out.below hb6 HT5.out.lt)
        have HAll6 : Box (AllP w6 (some ⟨gl, 0, none⟩) 2) := ⟨by
          intro k hk
          obtain ⟨A', cap', hv', _, hpc⟩ := (HO5.out.abv (abv_below hb6)).pc
          simp only [Value.slice.injEq] at hv'
          rw [hv'.1]
          match k, hk with
          | 0, _ => exact ⟨_, p0, D0, (hpc 0 (by simp)).mono (fun _ _ _ => trivial), PV.mono (fun _ _ _ => trivial) _ _ _ (PV.abv (abv_below hb6) _ _ _ HVp5.out), HSm0.out⟩
          | 1, _ => exact ⟨_, q, 4, (hpc 1 (by simp)).mono (fun _ _ _ => trivial), PV.mono (fun _ _ _ => trivial) _ _ _ (PV.abv (abv_below hb6) _ _ _ HVq5.out), HSq.out⟩⟩
        obtain ⟨nl, hnl1, hnl2⟩ : ∃ nl, nl ≤ 2 ∧ 2 ≤ nl := ⟨2, Nat.le_refl _, Nat.le_refl _⟩
        clear HVp5 HVq5 HG5 HT5 HO5 HSq HSm0 hk5
        rcases HWq.out with ⟨tq, htq⟩ | htq
        · rw [htq] at hR6
          obtain ⟨TQ, rfl, _⟩ := hR6
          clear HWq htq
          obtain ⟨wl, hwl⟩ : ∃ wl, wl = w6 := ⟨_, rfl⟩
          have hb0l : Below w.heap.size w wl := by rw [hwl]; exact hb06
          have HGl : Box (Glob wl) := ⟨by rw [hwl]; exact HG6.out⟩
          have HTl : Box (Tab wl) := ⟨by rw [hwl]; exact HT6.out⟩
          have HAll : Box (AllP wl (some ⟨gl, 0, none⟩) nl) := ⟨by rw [hwl]; intro k hk; exact HAll6.out k (by omega)⟩
          rw [← hwl]
          clear hwl HAll6 HG6 HT6
          go_wp2
          go_loopw [11] (fun i wr => ∃ k : Nat, k ≤ nl ∧ i = .int .i64 k ∧ Below wl.heap.size wl wr) (fun i _ => nl - (intOf i).toNat)
          case atStart => exact ⟨0, Nat.zero_le _, rfl, Below.refl _ _⟩
          case round =>
            obtain ⟨k, hk, rfl, hb⟩ := hrel
            have hsz := hb.size
            have HGr := Box.mk (HGl.out.below hb HGl.out.gb)
            have HTr := Box.mk (HTl.out.below hb HTl.out.lt)
            by_cases hlt : k < nl
            · obtain ⟨q, p, D, ⟨b1, o1, hA, _, r0, r1, r2, r3⟩, hv1, hsm⟩ := HAll.out k hlt
              have hA2 : b1 = gl ∧ o1 = 0 := by simp at hA; omega
              rw [hA2.1, hA2.2] at r0 r1 r2 r3
              simp only [Nat.zero_add] at r0 r1 r2 r3
              clear hA hA2
              obtain ⟨E1, m1, g1, bb1, mm1, E2, m2, g2, rfl⟩ := hv1.shape
              have hc1 := World.block_lt_of_cell? wl _ r0
              have r0' := (hb.cell (p := ⟨gl, k * 4, none⟩) hc1).trans r0
              have r1' := (hb.cell (p := ⟨gl, k * 4 + 1, none⟩) hc1).trans r1
              have r2' := (hb.cell (p := ⟨gl, k * 4 + 2, none⟩) hc1).trans r2
              have r3' := (hb.cell (p := ⟨gl, k * 4 + 3, none⟩) hc1).trans r3
              simp only at r0' r1' r2' r3'
              have HV := Box.mk (PV.abv (abv_below hb) _ _ _ hv1)
              have HSm := Box.mk hsm
              obtain ⟨O, HO⟩ : ∃ O, Box (O = topW (writeC 4 0 p)) := ⟨_, ⟨rfl⟩⟩
              clear r0 r1 r2 r3 hv1 hsm
              go_wp2_with fail
              refine (pWriteTop_any D p (.slice E1 m1 g1, .string bb1, .bool mm1, .slice E2 m2 g2) _ _ HV.out (Sm1.sm _ _ HSm.out) HGr.out HTr.out).mono ?_
              rintro e w3 ⟨hR3, hb3⟩
              rw [← HO.out] at hR3
              have hb03 := hb.trans (hb3.mono hsz)
              have hsz3 := hb03.size
              cases O with
              | error c =>
                obtain rfl := hR3
                clear HO HV HSm HGr HTr r0' r1' r2' r3'
                go_wp2
                go_roundw
                case rel => exact ⟨k + 1, by omega, by go_num, hb03⟩
                case measure => simp [intOf]; omega
              | ok t =>
                obtain ⟨TT, rfl, hTT⟩ := hR3
                obtain ⟨r, hr1, hr2, hr3, hr4, hr5, hr6, hr7⟩ := back_all D p t HO.out.symm HSm.out
                rw [← hTT] at hr1 hr2
                rw [size_list] at hr2
                have HR1 := Box.mk hr1
                have HR3 := Box.mk hr3
                have HR4 := Box.mk hr4
                have HR5 := Box.mk hr5
                have HR6 := Box.mk hr6
                have HR7 := Box.mk hr7
                have HTT := Box.mk hTT
                have HG3 := Box.mk (HGr.out.below hb3 HGr.out.gb)
                have HT3 := Box.mk (HTr.out.below hb3 HTr.out.lt)
                have HV3 := Box.mk (PV.abv (abv_below hb3) _ _ _ HV.out)
                have hc3 : gl < wr.heap.size := World.block_lt_of_cell? wr _ r0'
                have s0 := (hb3.cell (p := ⟨gl, k * 4, none⟩) hc3).trans r0'
                have s1 := (hb3.cell (p := ⟨gl, k * 4 + 1, none⟩) hc3).trans r1'
                have s2 := (hb3.cell (p := ⟨gl, k * 4 + 2, none⟩) hc3).trans r2'
                have s3 := (hb3.cell (p := ⟨gl, k * 4 + 3, none⟩) hc3).trans r3'
                clear HO HV HGr HTr r0' r1' r2' r3' hr1 hr3 hr4 hr5 hr6 hr7 hTT
                go_wp2_with fail
                refine (pReadTop_any TT _ (by omega) HG3.out).mono ?_
                rintro e w4 ⟨hR4, hb4⟩
                rw [HR1.out] at hR4
                obtain ⟨v4, rfl, hPV4⟩ := hR4
                obtain ⟨F1, f1, ff1, bb4, mm4, F2, f2, ff2, rfl⟩ := hPV4.shape
                have hb04 := hb03.trans (hb4.mono hsz3)
                have hsz4 := hb04.size
                obtain ⟨W4, HW4⟩ : ∃ W4, Box (W4 = w4.alloc (obj4 (.slice F1 f1 ff1) (.string bb4) (.bool mm4) (.slice F2 f2 ff2))) := ⟨_, ⟨rfl⟩⟩
                have hb4W : Below w4.heap.size w4 W4 := by rw [HW4.out]; exact below_oneP _ _
                have hk4 : W4.heap[w4.heap.size]? = some (obj4 (.slice F1 f1 ff1) (.string bb4) (.bool mm4) (.slice F2 f2 ff2)) := by rw [HW4.out]; exact heap_oneP _ _
                have hb34 : Below w3.heap.size w3 W4 := hb4.trans (hb4W.mono hb4.size)
                have hb04W := hb04.trans (hb4W.mono hsz4)
                have hszW4 := hb34.size
                have HV4 := Box.mk (PV.abv (abv_below hb4W) _ _ _ hPV4)
                have HVp := Box.mk (PV.abv (abv_below hb34) _ _ _ HV3.out)
                have HG4 := Box.mk (HG3.out.below hb34 HG3.out.gb)
                have HT4 := Box.mk (HT3.out.below hb34 HT3.out.lt)
                have hc4 : gl < w3.heap.size := World.block_lt_of_cell? w3 _ s0
                have q0 := (hb34.cell (p := ⟨gl, k * 4, none⟩) hc4).trans s0
                have q1 := (hb34.cell (p := ⟨gl, k * 4 + 1, none⟩) hc4).trans s1
                have q2 := (hb34.cell (p := ⟨gl, k * 4 + 2, none⟩) hc4).trans s2
                have q3 := (hb34.cell (p := ⟨gl, k * 4 + 3, none⟩) hc4).trans s3
                have hx4 := hk4
                clear s0 s1 s2 s3 hPV4 HV3 HG3 HT3
                unfold P4.v
                go_wp2
                rw [← HW4.out]
                obtain ⟨z0, z1, z2, z3, zf⟩ := b4_of hk4
                go_region_held3 (fun w' => w'.cell? ⟨gl, k * 4, none⟩ = some (.slice E1 m1 g1) ∧ w'.cell? ⟨gl, k * 4 + 1, none⟩ = some (.string bb1) ∧ w'.cell? ⟨gl, k * 4 + 2, none⟩ = some (.bool mm1) ∧ w'.cell? ⟨gl, k * 4 + 3, none⟩ = some (.slice E2 m2 g2) ∧ w'.cell? ⟨w4.heap.size, 0, none⟩ = some (.slice F1 f1 ff1) ∧ w'.cell? ⟨w4.heap.size, 1, none⟩ = some (.string bb4) ∧ w'.cell? ⟨w4.heap.size, 2, none⟩ = some (.bool mm4) ∧ w'.cell? ⟨w4.heap.size, 3, none⟩ = some (.slice F2 f2 ff2) ∧ Below W4.heap.size W4 w')
                  ((go_split_ands; exact keep_eight q0 q1 q2 q3 z0 z1 z2 z3 (by first | exact (Below.refl _ _).drew | exact Below.trans (by assumption) (Below.mono hb5 (Below.size (by assumption))))))
                  (first
                    | (go_at_call 9; refine (likes_all 4 (.slice E1 m1 g1, .string bb1, .bool mm1, .slice E2 m2 g2) (.slice F1 f1 ff1, .string bb4, .bool mm4, .slice F2 f2 ff2) p r _ _ _ (PV.abv (abv_below (by go_split_ands; assumption)) _ _ _ (PV.down 4 D _ _ HVp.out HR4.out)) (PV.abv (abv_below (by go_split_ands; assumption)) _ _ _ HV4.out) HR3.out HR4.out HR5.out).mono ?_; rintro e w5 ⟨rfl, hb5⟩))
                have hbW5 : Below W4.heap.size W4 w5 := (Below.refl W4.heap.size W4).drew.trans hb5
                have hb05 := hb04W.trans (hbW5.mono hb04W.size)
                have hk5 := (hbW5.block w4.heap.size (Array.getElem?_eq_some_iff.1 hk4).1).trans hk4
                have HV5 := Box.mk (PV.abv (abv_below hbW5) _ _ _ HV4.out)
                have HG5 := Box.mk (HG4.out.below hbW5 HG4.out.gb)
                have HT5 := Box.mk (HT4.out.below hbW5 HT4.out.lt)
                have hsz5 := hb05.size
                clear z0 z1 z2 z3 zf q0 q1 q2 q3 HV4 HVp HG4 HT4 hb5
                obtain ⟨z0, z1, z2, z3, zf⟩ := b4_of hk5
                go_wp2_with fail
                refine (pWriteTop_any 4 r (.slice F1 f1 ff1, .string bb4, .bool mm4, .slice F2 f2 ff2) _ _ HV5.out HR6.out HG5.out HT5.out).mono ?_
                rintro e w6 ⟨hR6, hb6⟩
                rw [HR7.out] at hR6
                obtain ⟨T2, rfl, hT2⟩ := hR6
                obtain rfl : T2 = TT := bytes_eq (hT2.trans HTT.out.symm)
                have hb06 := hb05.trans (hb6.mono hsz5)
                clear HV5 HG5 HT5 HR1 HR3 HR4 HR5 HR6 HR7 HTT hT2 HSm z0 z1 z2 z3 zf hk5 hk4 hx4
                go_wp2
                go_roundw
                case rel => exact ⟨k + 1, by omega, by go_num, hb06⟩
                case measure => simp [intOf]; omega
            · clear HAll HGr HTr
              go_wp2
              go_ret
              exact ⟨rfl, hb0l.trans (hb.mono hb0l.size)⟩
        · rw [htq] at hR6
          obtain rfl := hR6
          clear HWq htq
          go_wp2_with fail
          refine (tell_errno 4 _ HG6.out.et).mono ?_
          rintro e w7 ⟨rfl, hb7⟩
          obtain ⟨wl, hwl⟩ : ∃ wl, wl = w7 := ⟨_, rfl⟩
          have hb0l : Below w.heap.size w wl := by rw [hwl]; exact hb06.trans (hb7.mono hb06.size)
          have HGl : Box (Glob wl) := ⟨by rw [hwl]; exact HG6.out.below hb7 HG6.out.gb⟩
          have HTl : Box (Tab wl) := ⟨by rw [hwl]; exact HT6.out.below hb7 HT6.out.lt⟩
          have HAll : Box (AllP wl (some ⟨gl, 0, none⟩) nl) := ⟨by
            rw [hwl]; intro k hk
            obtain ⟨q', p', D', h1, h2, h3⟩ := HAll6.out k (by omega)
            exact ⟨q', p', D', h1.abv (abv_below hb7), PV.abv (abv_below hb7) _ _ _ h2, h3⟩⟩
          rw [← hwl]
          clear hwl HAll6 HG6 HT6
          go_wp2
          go_loopw [11] (fun i wr => ∃ k : Nat, k ≤ nl ∧ i = .int .i64 k ∧ Below wl.heap.size wl wr) (fun i _ => nl - (intOf i).toNat)
          case atStart => exact ⟨0, Nat.zero_le _, rfl, Below.refl _ _⟩
          case round =>
            obtain ⟨k, hk, rfl, hb⟩ := hrel
            have hsz := hb.size
            have HGr := Box.mk (HGl.out.below hb HGl.out.gb)
            have HTr := Box.mk (HTl.out.below hb HTl.out.lt)
            by_cases hlt : k < nl
            · obtain ⟨q, p, D, ⟨b1, o1, hA, _, r0, r1, r2, r3⟩, hv1, hsm⟩ := HAll.out k hlt
              have hA2 : b1 = gl ∧ o1 = 0 := by simp at hA; omega
              rw [hA2.1, hA2.2] at r0 r1 r2 r3
              simp only [Nat.zero_add] at r0 r1 r2 r3
              clear hA hA2
              obtain ⟨E1, m1, g1, bb1, mm1, E2, m2, g2, rfl⟩ := hv1.shape
              have hc1 := World.block_lt_of_cell? wl _ r0
              have r0' := (hb.cell (p := ⟨gl, k * 4, none⟩) hc1).trans r0
              have r1' := (hb.cell (p := ⟨gl, k * 4 + 1, none⟩) hc1).trans r1
              have r2' := (hb.cell (p := ⟨gl, k * 4 + 2, none⟩) hc1).trans r2
              have r3' := (hb.cell (p := ⟨gl, k * 4 + 3, none⟩) hc1).trans r3
              simp only at r0' r1' r2' r3'
              have HV := Box.mk (PV.abv (abv_below hb) _ _ _ hv1)
              have HSm := Box.mk hsm
              obtain ⟨O, HO⟩ : ∃ O, Box (O = topW (writeC 4 0 p)) := ⟨_, ⟨rfl⟩⟩
              clear r0 r1 r2 r3 hv1 hsm
              go_wp2_with fail
              refine (pWriteTop_any D p (.slice E1 m1 g1, .string bb1, .bool mm1, .slice E2 m2 g2) _ _ HV.out (Sm1.sm _ _ HSm.out) HGr.out HTr.out).mono ?_
              rintro e w3 ⟨hR3, hb3⟩
              rw [← HO.out] at hR3
              have hb03 := hb.trans (hb3.mono hsz)
              have hsz3 := hb03.size
              cases O with
              | error c =>
                obtain rfl := hR3
                clear HO HV HSm HGr HTr r0' r1' r2' r3'
                go_wp2
                go_roundw
                case rel => exact ⟨k + 1, by omega, by go_num, hb03⟩
                case measure => simp [intOf]; omega
              | ok t =>
                obtain ⟨TT, rfl, hTT⟩ := hR3
                obtain ⟨r, hr1, hr2, hr3, hr4, hr5, hr6, hr7⟩ := back_all D p t HO.out.symm HSm.out
                rw [← hTT] at hr1 hr2
                rw [size_list] at hr2
                have HR1 := Box.mk hr1
                have HR3 := Box.mk hr3
                have HR4 := Box.mk hr4
                have HR5 := Box.mk hr5
                have HR6 := Box.mk hr6
                have HR7 := Box.mk hr7
                have HTT := Box.mk hTT
                have HG3 := Box.mk (HGr.out.below hb3 HGr.out.gb)
                have HT3 := Box.mk (HTr.out.below hb3 HTr.out.lt)
                have HV3 := Box.mk (PV.abv (abv_below hb3) _ _ _ HV.out)
                have hc3 : gl < wr.heap.size := World.block_lt_of_cell? wr _ r0'
                have s0 := (hb3.cell (p := ⟨gl, k * 4, none⟩) hc3).trans r0'
                have s1 := (hb3.cell (p := ⟨gl, k * 4 + 1, none⟩) hc3).trans r1'
                have s2 := (hb3.cell (p := ⟨gl, k * 4 + 2, none⟩) hc3).trans r2'
                have s3 := (hb3.cell (p := ⟨gl, k * 4 + 3, none⟩) hc3).trans r3'
                clear HO HV HGr HTr r0' r1' r2' r3' hr1 hr3 hr4 hr5 hr6 hr7 hTT
                go_wp2_with fail
                refine (pReadTop_any TT _ (by omega) HG3.out).mono ?_
                rintro e w4 ⟨hR4, hb4⟩
                rw [HR1.out] at hR4
                obtain ⟨v4, rfl, hPV4⟩ := hR4
                obtain ⟨F1, f1, ff1, bb4, mm4, F2, f2, ff2, rfl⟩ := hPV4.shape
                have hb04 := hb03.trans (hb4.mono hsz3)
                have hsz4 := hb04.size
                obtain ⟨W4, HW4⟩ : ∃ W4, Box (W4 = w4.alloc (obj4 (.slice F1 f1 ff1) (.string bb4) (.bool mm4) (.slice F2 f2 ff2))) := ⟨_, ⟨rfl⟩⟩
                have hb4W : Below w4.heap.size w4 W4 := by rw [HW4.out]; exact below_oneP _ _
                have hk4 : W4.heap[w4.heap.size]? = some (obj4 (.slice F1 f1 ff1) (.string bb4) (.bool mm4) (.slice F2 f2 ff2)) := by rw [HW4.out]; exact heap_oneP _ _
                have hb34 : Below w3.heap.size w3 W4 := hb4.trans (hb4W.mono hb4.size)
                have hb04W := hb04.trans (hb4W.mono hsz4)
                have hszW4 := hb34.size
                have HV4 := Box.mk (PV.abv (abv_below hb4W) _ _ _ hPV4)
                have HVp := Box.mk (PV.abv (abv_below hb34) _ _ _ HV3.out)
                have HG4 := Box.mk (HG3.out.below hb34 HG3.out.gb)
                have HT4 := Box.mk (HT3.out.below hb34 HT3.out.lt)
                have hc4 : gl < w3.heap.size := World.block_lt_of_cell? w3 _ s0
                have q0 := (hb34.cell (p := ⟨gl, k * 4, none⟩) hc4).trans s0
                have q1 := (hb34.cell (p := ⟨gl, k * 4 + 1, none⟩) hc4).trans s1
                have q2 := (hb34.cell (p := ⟨gl, k * 4 + 2, none⟩) hc4).trans s2
                have q3 := (hb34.cell (p := ⟨gl, k * 4 + 3, none⟩) hc4).trans s3
                have hx4 := hk4
                clear s0 s1 s2 s3 hPV4 HV3 HG3 HT3
                unfold P4.v
                go_wp2
                rw [← HW4.out]
                obtain ⟨z0, z1, z2, z3, zf⟩ := b4_of hk4
                go_region_held3 (fun w' => w'.cell? ⟨gl, k * 4, none⟩ = some (.slice E1 m1 g1) ∧ w'.cell? ⟨gl, k * 4 + 1, none⟩ = some (.string bb1) ∧ w'.cell? ⟨gl, k * 4 + 2, none⟩ = some (.bool mm1) ∧ w'.cell? ⟨gl, k * 4 + 3, none⟩ = some (.slice E2 m2 g2) ∧ w'.cell? ⟨w4.heap.size, 0, none⟩ = some (.slice F1 f1 ff1) ∧ w'.cell? ⟨w4.heap.size, 1, none⟩ = some (.string bb4) ∧ w'.cell? ⟨w4.heap.size, 2, none⟩ = some (.bool mm4) ∧ w'.cell? ⟨w4.heap.size, 3, none⟩ = some (.slice F2 f2 ff2) ∧ Below W4.heap.size W4 w')
                  ((go_split_ands; exact keep_eight q0 q1 q2 q3 z0 z1 z2 z3 (by first | exact (Below.refl _ _).drew | exact Below.trans (by assumption) (Below.mono hb5 (Below.size (by assumption))))))
                  (first
                    | (go_at_call 9; refine (likes_all 4 (.slice E1 m1 g1, .string bb1, .bool mm1, .slice E2 m2 g2) (.slice F1 f1 ff1, .string bb4, .bool mm4, .slice F2 f2 ff2) p r _ _ _ (PV.abv (abv_below (by go_split_ands; assumption)) _ _ _ (PV.down 4 D _ _ HVp.out HR4.out)) (PV.abv (abv_below (by go_split_ands; assumption)) _ _ _ HV4.out) HR3.out HR4.out HR5.out).mono ?_; rintro e w5 ⟨rfl, hb5⟩))
                have hbW5 : Below W4.heap.size W4 w5 := (Below.refl W4.heap.size W4).drew.trans hb5
                have hb05 := hb04W.trans (hbW5.mono hb04W.size)
                have hk5 := (hbW5.block w4.heap.size (Array.getElem?_eq_some_iff.1 hk4).1).trans hk4
                have HV5 := Box.mk (PV.abv (abv_below hbW5) _ _ _ HV4.out)
                have HG5 := Box.mk (HG4.out.below hbW5 HG4.out.gb)
                have HT5 := Box.mk (HT4.out.below hbW5 HT4.out.lt)
                have hsz5 := hb05.size
                clear z0 z1 z2 z3 zf q0 q1 q2 q3 HV4 HVp HG4 HT4 hb5
                obtain ⟨z0, z1, z2, z3, zf⟩ := b4_of hk5
                go_wp2_with fail
                refine (pWriteTop_any 4 r (.slice F1 f1 ff1, .string bb4, .bool mm4, .slice F2 f2 ff2) _ _ HV5.out HR6.out HG5.out HT5.out).mono ?_
                rintro e w6 ⟨hR6, hb6⟩
                rw [HR7.out] at hR6
                obtain ⟨T2, rfl, hT2⟩ := hR6
                obtain rfl : T2 = TT := bytes_eq (hT2.trans HTT.out.symm)
                have hb06 := hb05.trans (hb6.mono hsz5)
                clear HV5 HG5 HT5 HR1 HR3 HR4 HR5 HR6 HR7 HTT hT2 HSm z0 z1 z2 z3 zf hk5 hk4 hx4
                go_wp2
                go_roundw
                case rel => exact ⟨k + 1, by omega, by go_num, hb06⟩
                case measure => simp [intOf]; omega
            · clear HAll HGr HTr
              go_wp2
              go_ret
              exact ⟨rfl, hb0l.trans (hb.mono hb0l.size)⟩

end Go.Proofs.YtnjjjkhhoaadfabGreatDoor

