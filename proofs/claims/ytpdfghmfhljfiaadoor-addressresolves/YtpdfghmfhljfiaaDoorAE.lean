import Derived.Test.YtpdfghmfhljfiaaDoorAD
import Derived.Deep.DeepCutAuto
namespace Go.Proofs.YtpdfghmfhljfiaaDoor
open Go.RowKit

theorem small_up {a : AV} {n m : Nat} (h : a.Small n) (hm : n ≤ m) : a.Small m := ⟨Nat.le_trans h.sc hm, Nat.le_trans h.au hm, Nat.le_trans h.pa hm, Nat.le_trans h.qu hm, Nat.le_trans h.fr hm⟩
theorem heap_one (w : World) (A : Obj) : (w.alloc A).heap[w.heap.size]? = some A := by
  show (w.heap.push A)[w.heap.size]? = _
  simp
/-- A block lies on in a later world. -/
theorem blk_on {w w' : World} {b : Nat} {o : Obj} (h : w.heap[b]? = some o) (hb : Below w.heap.size w w') : w'.heap[b]? = some o ∧ b < w'.heap.size := by
  have hlt := (Array.getElem?_eq_some_iff.1 h).1
  exact ⟨(hb.block b hlt).trans h, Nat.lt_of_lt_of_le hlt hb.size⟩
theorem blk_alloc {w : World} {b : Nat} {o : Obj} (h : w.heap[b]? = some o) (A : Obj) : (w.alloc A).heap[b]? = some o := (Below.heap_alloc w A b (Array.getElem?_eq_some_iff.1 h).1).trans h

theorem leads_big (s t u : ByteArray) (w : World) (h : (500 : Int) < (s.size : Int) + (t.size : Int) + (u.size : Int)) (hs : (s.size : Int) + (t.size : Int) + (u.size : Int) < 9223372036854775807) (hs2 : (s.size : Int) + (t.size : Int) < 9223372036854775807) :
    Calls Tryd.prog 11 #[.string s, .string t, .string u] w fun e w' => e = .returned (.bool true) ∧ Below w.heap.size w w' := by
  go_enter Tryd.func11, Tryd.ntmps11
  go_wp2
  go_ret
  exact ⟨rfl, Below.refl _ _⟩

set_option maxHeartbeats 4000000 in
set_option maxRecDepth 100000 in
theorem leads_small (s t u : ByteArray) (w : World) (h1 : s.size + t.size + u.size ≤ 500) (hm : Max w) :
    Calls Tryd.prog 11 #[.string s, .string t, .string u] w fun e w' => e = .returned (.bool true) ∧ Below w.heap.size w w' := by
  have HMx := Box.mk hm
  have hw0 := hm.1
  clear hm
  go_enter Tryd.func11, Tryd.ntmps11
  go_wp2_with fail
  refine (led_any _ HMx.out).mono ?_
  rintro e w1 ⟨rfl, b1⟩
  go_wp2_with fail
  refine (aread_is s w1 (by omega) (HMx.out.below b1 hw0)).mono ?_
  rintro e w2 ⟨rfl, hv, hb2⟩
  have b2 := b1.trans (hb2.mono b1.size)
  clear hb2
  cases hr : readA s.data.toList with
  | none =>
    obtain ⟨e1, e2⟩ := readV_none hr
    rw [e1, e2]
    clear e1 e2 hr hv
    go_wp2
    go_ret
    exact ⟨rfl, b2.alloc b2.size _⟩
  | some a0 =>
    obtain ⟨X, hX⟩ : ∃ X : AV, readA s.data.toList = some X.ab := ⟨AV.of a0, by rw [ab_of]; exact hr⟩
    obtain ⟨e1, e2⟩ := readV_some hX
    rw [e1] at hv
    rw [e1, e2]
    clear e1 e2 hr
    have HX := Box.mk hX
    have HvX := Box.mk hv
    have HWr : Box (writeB X = s) := ⟨bytes_eq (by rw [writeB_list]; exact (read_good hX).1)⟩
    clear hX hv
    obtain ⟨x0, x1, x2, x3, x4, x5, x6, x7⟩ := X
    have b2a := b2.alloc b2.size (obj8 x0 x1 x2 x3 x4 x5 x6 x7)
    go_wp2_with fail
    refine (awrite_any ⟨x0, x1, x2, x3, x4, x5, x6, x7⟩ _ (small_up HvX.out (by omega))).mono ?_
    rintro e w3 ⟨rfl, hb3⟩
    rw [HWr.out]
    obtain ⟨k7, l7⟩ := blk_on (heap_one w2 (obj8 x0 x1 x2 x3 x4 x5 x6 x7)) hb3
    have b3 := b2a.trans (hb3.mono b2a.size)
    obtain ⟨c0, c1, c2, c3, c4, c5, c6, c7, cf⟩ := blk_of k7
    clear hb3 HWr
    go_wp2_with fail
    refine (aright_any ⟨x0, x1, x2, x3, x4, x5, x6, x7⟩ _ (small_up HvX.out (by omega)) (HMx.out.below b3 hw0) true (by simp [read_back HX.out])).mono ?_
    rintro e w4 ⟨rfl, hb4⟩
    have b4 := b3.trans (hb4.mono b3.size)
    clear c0 c1 c2 c3 c4 c5 c6 c7 cf
    obtain ⟨k7, l7⟩ := blk_on k7 hb4
    clear hb4
    go_wp2_with fail
    refine (aread_is t w4 (by omega) (HMx.out.below b4 hw0)).mono ?_
    rintro e w5 ⟨rfl, hvY, hb5⟩
    have b5 := b4.trans (hb5.mono b4.size)
    obtain ⟨k7, l7⟩ := blk_on k7 hb5
    clear hb5
    obtain ⟨Y, HY⟩ : ∃ Y, Box (Y = readV t.data.toList) := ⟨_, ⟨rfl⟩⟩
    obtain ⟨E1, HE1⟩ : ∃ E1, Box (E1 = errV t.data.toList) := ⟨_, ⟨rfl⟩⟩
    rw [← HY.out] at hvY
    rw [← HY.out, ← HE1.out]
    have HvY := Box.mk hvY
    clear hvY
    obtain ⟨y0, y1, y2, y3, y4, y5, y6, y7⟩ := Y
    have b5a := b5.alloc b5.size (obj8 y0 y1 y2 y3 y4 y5 y6 y7)
    go_wp2_with fail
    refine (aread_is u _ (by omega) (HMx.out.below b5a hw0)).mono ?_
    rintro e w6 ⟨rfl, hvZ, hb6⟩
    have b6 := b5a.trans (hb6.mono b5a.size)
    obtain ⟨k7, l7⟩ := blk_on (blk_alloc k7 (obj8 y0 y1 y2 y3 y4 y5 y6 y7)) hb6
    obtain ⟨k9, l9⟩ := blk_on (heap_one w5 (obj8 y0 y1 y2 y3 y4 y5 y6 y7)) hb6
    clear hb6
    obtain ⟨Z, HZ⟩ : ∃ Z, Box (Z = readV u.data.toList) := ⟨_, ⟨rfl⟩⟩
    obtain ⟨E2, HE2⟩ : ∃ E2, Box (E2 = errV u.data.toList) := ⟨_, ⟨rfl⟩⟩
    rw [← HZ.out] at hvZ
    rw [← HZ.out, ← HE2.out]
    have HvZ := Box.mk hvZ
    clear hvZ
    obtain ⟨z0, z1, z2, z3, z4, z5, z6, z7⟩ := Z
    have b6a := b6.alloc b6.size (obj8 z0 z1 z2 z3 z4 z5 z6 z7)
    cases hrt : readA t.data.toList with
    | none =>
      have hE : E1 = .iface 32 (.int .i64 3) := HE1.out.trans (readV_none hrt).2
      subst hE
      clear hrt HE1 HY k7 k9
      go_wp2
      go_ret
      exact ⟨rfl, b6a⟩
    | some ay =>
      have hY : readA t.data.toList = some (AV.ab ⟨y0, y1, y2, y3, y4, y5, y6, y7⟩) := by
        have : (⟨y0, y1, y2, y3, y4, y5, y6, y7⟩ : AV) = AV.of ay := by rw [HY.out]; unfold readV; rw [hrt]
        rw [this, ab_of]; exact hrt
      have hE : E1 = .nilIface := HE1.out.trans (readV_some hY).2
      subst hE
      clear hrt HE1 HY
      have HY := Box.mk hY
      clear hY
      cases hru : readA u.data.toList with
      | none =>
        have hE : E2 = .iface 32 (.int .i64 3) := HE2.out.trans (readV_none hru).2
        subst hE
        clear hru HE2 HZ k7 k9
        go_wp2
        go_ret
        exact ⟨rfl, b6a⟩
      | some az =>
        have hE : E2 = .nilIface := by rw [HE2.out]; unfold errV; rw [hru]
        subst hE
        clear hru HE2 HZ
        obtain ⟨c0, c1, c2, c3, c4, c5, c6, c7, cf⟩ := blk_of k7
        by_cases hsc : x0.size = 0
        · have he := empty_of x0 hsc
          clear hsc k9
          go_wp2
          go_ret
          exact ⟨rfl, b6a⟩
        · have he := nonempty_of x0 hsc
          obtain ⟨d0, d1, d2, d3, d4, d5, d6, d7, df⟩ := blk_of k9
          have HFx := Box.mk (read_good HX.out).2
          have HFy := Box.mk (read_good HY.out).2
          have HSx : Box (schS x0.data.toList = true) := ⟨by
            rcases HFx.out.scheme with h | h
            · exact absurd ((nil_iff x0).1 h) hsc
            · exact h⟩
          have HXs := Box.mk hsc
          clear hsc
          go_wp2_with fail
          refine (ares_any ⟨x0, x1, x2, x3, x4, x5, x6, x7⟩ ⟨y0, y1, y2, y3, y4, y5, y6, y7⟩ _ (Nat.le_trans HvX.out.pa (by omega)) (Nat.le_trans HvY.out.pa (by omega)) (HMx.out.below b6a hw0)).mono ?_
          rintro e w7 ⟨rfl, hb7⟩
          have b7 := b6a.trans (hb7.mono b6a.size)
          obtain ⟨k7, l7⟩ := blk_on (blk_alloc k7 (obj8 z0 z1 z2 z3 z4 z5 z6 z7)) hb7
          obtain ⟨k9, l9⟩ := blk_on (blk_alloc k9 (obj8 z0 z1 z2 z3 z4 z5 z6 z7)) hb7
          obtain ⟨k10, l10⟩ := blk_on (heap_one w6 (obj8 z0 z1 z2 z3 z4 z5 z6 z7)) hb7
          clear hb7 c0 c1 c2 c3 c4 c5 c6 c7 cf d0 d1 d2 d3 d4 d5 d6 d7 df
          obtain ⟨R, HR⟩ : ∃ R, Box (R = resV ⟨x0, x1, x2, x3, x4, x5, x6, x7⟩ ⟨y0, y1, y2, y3, y4, y5, y6, y7⟩) := ⟨_, ⟨rfl⟩⟩
          rw [← HR.out]
          have HRs : Box (R.Small 1001) := ⟨by rw [HR.out]; exact resV_small (n := 500) (small_up HvX.out (by omega)) (small_up HvY.out (by omega))⟩
          have HRa : Box (R.ab = resA (AV.ab ⟨x0, x1, x2, x3, x4, x5, x6, x7⟩) (AV.ab ⟨y0, y1, y2, y3, y4, y5, y6, y7⟩)) := ⟨by rw [HR.out, resV_ab]⟩
          have HRf : Box (Fit0 R.ab ∧ schS R.ab.sch = true) := ⟨by rw [HRa.out]; exact res_fit _ _ HFx.out HFy.out HSx.out⟩
          obtain ⟨r0, r1, r2, r3, r4, r5, r6, r7⟩ := R
          have b7a := b7.alloc b7.size (obj8 r0 r1 r2 r3 r4 r5 r6 r7)
          go_wp2_with fail
          refine (aright_any ⟨r0, r1, r2, r3, r4, r5, r6, r7⟩ _ (small_up HRs.out (by omega)) (HMx.out.below b7a hw0) true (by simp [write_read _ HRf.out.1 HRf.out.2])).mono ?_
          rintro e w8 ⟨rfl, hb8⟩
          have b8 := b7a.trans (hb8.mono b7a.size)
          obtain ⟨k7, l7⟩ := blk_on (blk_alloc k7 (obj8 r0 r1 r2 r3 r4 r5 r6 r7)) hb8
          obtain ⟨k9, l9⟩ := blk_on (blk_alloc k9 (obj8 r0 r1 r2 r3 r4 r5 r6 r7)) hb8
          obtain ⟨k10, l10⟩ := blk_on (blk_alloc k10 (obj8 r0 r1 r2 r3 r4 r5 r6 r7)) hb8
          obtain ⟨k12, l12⟩ := blk_on (heap_one w7 (obj8 r0 r1 r2 r3 r4 r5 r6 r7)) hb8
          clear hb8
          obtain ⟨d0, d1, d2, d3, d4, d5, d6, d7, df⟩ := blk_of k9
          obtain ⟨q, hq⟩ : ∃ q : Bool, q = (!y3.toList.isEmpty || !y0.toList.isEmpty || y1) := ⟨_, rfl⟩
          have HQ := Box.mk hq
          clear hq
          go_upto_region 17 with fail
          go_cut [81] from 70 (fun v wx => v = .bool q ∧ wx = w8)
          case first =>
            cases h3 : y3.toList.isEmpty
            · have hqt : q = true := by rw [HQ.out, h3]; rfl
              subst hqt
              go_wp2
              go_meet
              exact ⟨rfl, rfl⟩
            · cases h0 : y0.toList.isEmpty
              · have hqt : q = true := by rw [HQ.out, h3, h0]; rfl
                subst hqt
                go_wp2
                go_meet
                exact ⟨rfl, rfl⟩
              · have hqt : q = y1 := by rw [HQ.out, h3, h0]; rfl
                subst hqt
                go_wp2
                go_meet
                exact ⟨rfl, rfl⟩
          case rest =>
            obtain ⟨rfl, hwc⟩ := hcut
            obtain rfl := hwc.symm
            clear d0 d1 d2 d3 d4 d5 d6 d7 df
            go_upto_if 81 with fail
            go_cut [6] from 82 (fun _ wx => Below w.heap.size w wx ∧ Box (wx.heap[w7.heap.size]? = some (obj8 r0 r1 r2 r3 r4 r5 r6 r7)))
            case first =>
              cases q
              · go_wp2
                go_meet
                exact ⟨b8, ⟨k12⟩⟩
              · have hyc : (AV.ab ⟨y0, y1, y2, y3, y4, y5, y6, y7⟩).path ≠ [] ∨ (AV.ab ⟨y0, y1, y2, y3, y4, y5, y6, y7⟩).sch ≠ [] ∨ (AV.ab ⟨y0, y1, y2, y3, y4, y5, y6, y7⟩).hasA = true := by
                  have h := HQ.out
                  cases h3 : y3.toList.isEmpty
                  · exact .inl (fun e => by rw [empty_of y3 ((nil_iff y3).1 e)] at h3; cases h3)
                  · cases h0 : y0.toList.isEmpty
                    · exact .inr (.inl (fun e => by rw [empty_of y0 ((nil_iff y0).1 e)] at h0; cases h0))
                    · rw [h3, h0] at h
                      exact .inr (.inr h.symm)
                have HRz : ∀ Z : AV, resV Z ⟨r0, r1, r2, r3, r4, r5, r6, r7⟩ = ⟨r0, r1, r2, r3, r4, r5, r6, r7⟩ := fun Z => by
                  apply ab_inj
                  rw [resV_ab, HRa.out]
                  exact (res_again _ _ _ (by rw [← HRa.out]; exact HRf.out.2) hyc).1
                obtain ⟨p, hp⟩ : ∃ p, r3.data.toList = dotsS p := by
                  obtain ⟨p, hp⟩ := (res_again (AV.ab ⟨y0, y1, y2, y3, y4, y5, y6, y7⟩) _ _ (by rw [← HRa.out]; exact HRf.out.2) hyc).2
                  rw [← HRa.out] at hp
                  exact ⟨p, hp⟩
                have HP := Box.mk hp
                have HZ1 := Box.mk (HRz ⟨z0, z1, z2, z3, z4, z5, z6, z7⟩)
                have HZ2 := Box.mk (HRz ⟨x0, x1, x2, x3, x4, x5, x6, x7⟩)
                have heq := eq8_run ⟨r0, r1, r2, r3, r4, r5, r6, r7⟩ ⟨r0, r1, r2, r3, r4, r5, r6, r7⟩ true (by simp)
                clear hp HRz hyc
                go_wp2
                refine wp_region_quiet (C := InW w8) (by kernel_rfl) (by kernel_rfl) (InW.draw _) ?_
                refine quiet_do rfl (agg8 z0 z1 z2 z3 z4 z5 z6 z7) (fun w' hw' => quietAt_ok (by obtain ⟨c0, c1, c2, c3, c4, c5, c6, c7, cf⟩ := blk_of (InW.blk hw' l10 k10); go_simp)) ?_
                go_simp
                refine quiet_do rfl (agg8 r0 r1 r2 r3 r4 r5 r6 r7) (fun w' hw' => quietAt_ok (by obtain ⟨c0, c1, c2, c3, c4, c5, c6, c7, cf⟩ := blk_of (InW.blk hw' l12 k12); go_simp)) ?_
                go_simp
                refine quiet_do rfl (agg8 r0 r1 r2 r3 r4 r5 r6 r7) (fun w' hw' => quietAt_call (f := 49) (args := #[agg8 z0 z1 z2 z3 z4 z5 z6 z7, agg8 r0 r1 r2 r3 r4 r5 r6 r7]) (by go_simp) ((ares_any ⟨z0, z1, z2, z3, z4, z5, z6, z7⟩ ⟨r0, r1, r2, r3, r4, r5, r6, r7⟩ w' (Nat.le_trans HvZ.out.pa (by omega)) (Nat.le_trans HRs.out.pa (by omega)) (HMx.out.below (b8.trans (Below.mono hw' b8.size)) hw0)).mono (by rintro e w2 ⟨rfl, hb⟩; rw [HZ1.out]; exact ⟨rfl, InW.step hw' hb⟩))) ?_
                go_simp
                refine quiet_do rfl (agg8 r0 r1 r2 r3 r4 r5 r6 r7) (fun w' hw' => quietAt_ok (by obtain ⟨c0, c1, c2, c3, c4, c5, c6, c7, cf⟩ := blk_of (InW.blk hw' l12 k12); go_simp)) ?_
                go_simp
                refine quiet_do rfl (.bool false) (fun w' hw' => quietAt_ok (by go_simp)) ?_
                go_simp
                refine quiet_do rfl (.bool false) (fun w' hw' => quietAt_ok (by go_simp)) ?_
                go_simp
                refine quiet_do rfl (agg8 x0 x1 x2 x3 x4 x5 x6 x7) (fun w' hw' => quietAt_ok (by obtain ⟨c0, c1, c2, c3, c4, c5, c6, c7, cf⟩ := blk_of (InW.blk hw' l7 k7); go_simp)) ?_
                go_simp
                refine quiet_do rfl (agg8 r0 r1 r2 r3 r4 r5 r6 r7) (fun w' hw' => quietAt_ok (by obtain ⟨c0, c1, c2, c3, c4, c5, c6, c7, cf⟩ := blk_of (InW.blk hw' l12 k12); go_simp)) ?_
                go_simp
                refine quiet_do rfl (agg8 r0 r1 r2 r3 r4 r5 r6 r7) (fun w' hw' => quietAt_call (f := 49) (args := #[agg8 x0 x1 x2 x3 x4 x5 x6 x7, agg8 r0 r1 r2 r3 r4 r5 r6 r7]) (by go_simp) ((ares_any ⟨x0, x1, x2, x3, x4, x5, x6, x7⟩ ⟨r0, r1, r2, r3, r4, r5, r6, r7⟩ w' (Nat.le_trans HvX.out.pa (by omega)) (Nat.le_trans HRs.out.pa (by omega)) (HMx.out.below (b8.trans (Below.mono hw' b8.size)) hw0)).mono (by rintro e w2 ⟨rfl, hb⟩; rw [HZ2.out]; exact ⟨rfl, InW.step hw' hb⟩))) ?_
                go_simp
                refine quiet_do rfl (agg8 r0 r1 r2 r3 r4 r5 r6 r7) (fun w' hw' => quietAt_ok (by obtain ⟨c0, c1, c2, c3, c4, c5, c6, c7, cf⟩ := blk_of (InW.blk hw' l12 k12); go_simp)) ?_
                go_simp
                refine quiet_do rfl (.bool false) (fun w' hw' => quietAt_ok (by go_simp)) ?_
                go_simp
                refine quiet_do rfl (.bool false) (fun w' hw' => quietAt_ok (by go_simp)) ?_
                go_simp
                refine wpQuiet_nil ?_
                intro w9 hw9
                have b9 := b8.trans (Below.mono hw9 b8.size)
                obtain ⟨k12, l12⟩ := blk_on k12 hw9
                obtain ⟨c0, c1, c2, c3, c4, c5, c6, c7, cf⟩ := blk_of k12
                clear hw9 heq
                go_wp2_with fail
                refine (asplit_any r3 w9 (Nat.le_trans HRs.out.pa (by omega)) (HMx.out.below b9 hw0)).mono ?_
                rintro e w10 ⟨c, pb, rfl, hpl, hpb, hcs, hcell, hsz, hb10⟩
                have b10 := b9.trans (hb10.mono b9.size)
                obtain ⟨k12, l12⟩ := blk_on k12 hb10
                have HPb : Box (pb.map lst = splitP (dotsS p)) := ⟨by rw [← HP.out]; exact hpb⟩
                have HCl := Box.mk hcell
                have hcb : c ≤ 1001 := Nat.le_trans hcs HRs.out.pa
                clear hpb hcell hb10 c0 c1 c2 c3 c4 c5 c6 c7 cf
                go_wp2
                go_loop [14] (fun i => ∃ k : Nat, k ≤ c + 1 ∧ i = .int .i64 k) (fun i => c + 1 - (intOf i).toNat)
                case atStart => exact ⟨0, Nat.zero_le _, rfl⟩
                case round =>
                  obtain ⟨k, hk, rfl⟩ := hrel
                  by_cases hlt : k < c + 1
                  · obtain ⟨x, HX2, hx⟩ : ∃ x, Box (pb[k]? = some x) ∧ w10.cell? ⟨w9.heap.size, k, none⟩ = some (.string x) := ⟨_, ⟨List.getElem?_eq_getElem (by omega)⟩, HCl.out k (by omega)⟩
                    obtain ⟨pp1, pp2⟩ := path_parts p _ HPb.out.symm
                    have hget : (pb.map lst)[k]? = some (lst x) := by rw [List.getElem?_map, HX2.out]; rfl
                    have hmem := pp1 (lst x) (List.mem_of_getElem? hget)
                    have q1 : (x.toList == [46]) = false := lst_not hmem.1
                    have q2 : (x.toList == [46, 46]) = false := lst_not hmem.2
                    have hcs3 : x.toList.isEmpty = false ∨ (x.toList.isEmpty = true ∧ ¬ (0 : Int) < (k : Int)) ∨ (x.toList.isEmpty = true ∧ (0 : Int) < (k : Int) ∧ ¬ ((k : Int) + 1 < (c : Int) + 1)) := by
                      by_cases h0 : x.size = 0
                      · by_cases hk0 : 0 < k
                        · by_cases hk1 : k + 1 < c + 1
                          · exact absurd (data_nil x h0) (pp2 k (lst x) hget hk0 (by simp; omega))
                          · exact .inr (.inr ⟨empty_of x h0, by omega, by omega⟩)
                        · exact .inr (.inl ⟨empty_of x h0, by omega⟩)
                      · exact .inl (nonempty_of x h0)
                    clear pp1 pp2 hget hmem HX2
                    rcases hcs3 with q0 | ⟨q0, q3⟩ | ⟨q0, q3, q4⟩
                    all_goals
                      go_wp2
                      go_round
                      case rel => exact ⟨k + 1, by omega, by go_num⟩
                      case measure => simp [intOf]; omega
                  · go_wp2
                    go_meet
                    exact ⟨b10, ⟨k12⟩⟩
            case rest =>
              obtain ⟨b9, K12⟩ := hcut
              obtain ⟨c0, c1, c2, c3, c4, c5, c6, c7, cf⟩ := blk_of K12.out
              clear k7 k9 k10 k12 HX HY HFx HFy HSx HQ
              go_wp2_with fail
              refine (awhole_any ⟨r0, r1, r2, r3, r4, r5, r6, r7⟩ _ (small_up HRs.out (by omega))).mono ?_
              rintro e w11 ⟨rfl, hb11⟩
              have b11 := b9.trans (hb11.mono b9.size)
              clear hb11 c0 c1 c2 c3 c4 c5 c6 c7 cf K12
              obtain ⟨V, HV⟩ : ∃ V, Box (V = wholeV ⟨r0, r1, r2, r3, r4, r5, r6, r7⟩) := ⟨_, ⟨rfl⟩⟩
              rw [← HV.out]
              have HVs : Box (V.Small 1001) := ⟨by rw [HV.out]; exact wholeV_small HRs.out⟩
              have HVw := Box.mk (whole_fit _ HRf.out.1 HRf.out.2)
              have HVa : Box (V.ab = wholeA (AV.ab ⟨r0, r1, r2, r3, r4, r5, r6, r7⟩)) := ⟨by rw [HV.out, wholeV_ab]⟩
              have HVV : Box (wholeV V = V) := ⟨ab_inj (by rw [wholeV_ab, HVa.out]; exact HVw.out.2.2)⟩
              have HVr : Box (readA (writeA V.ab) = some V.ab) := ⟨by rw [HVa.out]; exact write_read _ HVw.out.1 HVw.out.2.1⟩
              have hv6 : V.hF = false := by rw [HV.out]; rfl
              obtain ⟨v0, v1, v2, v3, v4, v5, v6, v7⟩ := V
              simp only at hv6
              subst hv6
              clear HV HVa HVw HR HRs HRa HRf
              have b11a := b11.alloc b11.size (obj8 v0 v1 v2 v3 v4 v5 false v7)
              have k15 := heap_one w11 (obj8 v0 v1 v2 v3 v4 v5 false v7)
              have l15 : w11.heap.size < (w11.alloc (obj8 v0 v1 v2 v3 v4 v5 false v7)).heap.size := by simp
              have heq := eq8_run ⟨v0, v1, v2, v3, v4, v5, false, v7⟩ ⟨v0, v1, v2, v3, v4, v5, false, v7⟩ true (by simp)
              go_wp2
              refine wp_region_quiet (C := InW (w11.alloc (obj8 v0 v1 v2 v3 v4 v5 false v7))) (by kernel_rfl) (by kernel_rfl) (InW.draw _) ?_
              refine quiet_do rfl (.pointer (some ⟨w11.heap.size, 6, none⟩)) (fun w' hw' => quietAt_ok (by go_simp)) ?_
              go_simp
              refine quiet_do rfl (.bool false) (fun w' hw' => quietAt_ok (by obtain ⟨c0, c1, c2, c3, c4, c5, c6, c7, cf⟩ := blk_of (InW.blk hw' l15 k15); go_simp)) ?_
              go_simp
              refine quiet_do rfl (.bool true) (fun w' hw' => quietAt_ok (by go_simp)) ?_
              go_simp
              refine quiet_do rfl (.bool true) (fun w' hw' => quietAt_ok (by go_simp)) ?_
              go_simp
              refine quiet_do rfl (agg8 v0 v1 v2 v3 v4 v5 false v7) (fun w' hw' => quietAt_ok (by obtain ⟨c0, c1, c2, c3, c4, c5, c6, c7, cf⟩ := blk_of (InW.blk hw' l15 k15); go_simp)) ?_
              go_simp
              refine quiet_do rfl (agg8 v0 v1 v2 v3 v4 v5 false v7) (fun w' hw' => quietAt_call (f := 53) (args := #[agg8 v0 v1 v2 v3 v4 v5 false v7]) (by go_simp) ((awhole_any ⟨v0, v1, v2, v3, v4, v5, false, v7⟩ w' (small_up HVs.out (by omega))).mono (by rintro e w2 ⟨rfl, hb⟩; rw [HVV.out]; exact ⟨rfl, InW.step hw' hb⟩))) ?_
              go_simp
              refine quiet_do rfl (agg8 v0 v1 v2 v3 v4 v5 false v7) (fun w' hw' => quietAt_ok (by obtain ⟨c0, c1, c2, c3, c4, c5, c6, c7, cf⟩ := blk_of (InW.blk hw' l15 k15); go_simp)) ?_
              go_simp
              refine quiet_do rfl (.bool true) (fun w' hw' => quietAt_ok (by go_simp)) ?_
              go_simp
              refine quiet_do rfl (.bool true) (fun w' hw' => quietAt_ok (by go_simp)) ?_
              go_simp
              refine quiet_do rfl (.bool true) (fun w' hw' => quietAt_ok (by go_simp)) ?_
              go_simp
              refine quiet_do rfl (agg8 v0 v1 v2 v3 v4 v5 false v7) (fun w' hw' => quietAt_ok (by obtain ⟨c0, c1, c2, c3, c4, c5, c6, c7, cf⟩ := blk_of (InW.blk hw' l15 k15); go_simp)) ?_
              go_simp
              refine quiet_do rfl (.bool true) (fun w' hw' => quietAt_call (f := 57) (args := #[agg8 v0 v1 v2 v3 v4 v5 false v7]) (by go_simp) ((aright_any ⟨v0, v1, v2, v3, v4, v5, false, v7⟩ w' (small_up HVs.out (by omega)) (HMx.out.below (b11a.trans (Below.mono hw' b11a.size)) hw0) true (by simp [HVr.out])).mono (by rintro e w2 ⟨rfl, hb⟩; exact ⟨rfl, InW.step hw' hb⟩))) ?_
              go_simp
              refine quiet_do rfl (.bool true) (fun w' hw' => quietAt_ok (by go_simp)) ?_
              go_simp
              refine quiet_do rfl (.bool true) (fun w' hw' => quietAt_ok (by go_simp)) ?_
              go_simp
              refine wpQuiet_nil ?_
              intro w12 hw12
              have b12 := b11a.trans (Below.mono hw12 b11a.size)
              clear hw12 heq
              go_wp2
              go_ret
              exact ⟨rfl, b12⟩

end Go.Proofs.YtpdfghmfhljfiaaDoor
