import Derived.Test.YtmjijnfhgedmlaaGreatDoorZV5
import Derived.Test.YtmjijnfhgedmlaaGreatDoorZAQ
import Derived.Deep.QuietTactic
namespace Go.Proofs.YtmjijnfhgedmlaaGreatDoor
open Go.RowKit

/- Parts that are the same. -/
theorem heap_twoP (w : World) (A B : Obj) : ((w.alloc A).alloc B).heap[w.heap.size]? = some A ∧ ((w.alloc A).alloc B).heap[w.heap.size + 1]? = some B := by
  refine ⟨?_, ?_⟩
  · show (((w.heap.push A).push B))[w.heap.size]? = _
    rw [Array.getElem?_push, if_neg (by simp), Array.getElem?_push, if_pos rfl]
  · show (((w.heap.push A).push B))[w.heap.size + 1]? = _
    rw [Array.getElem?_push, if_pos (by simp)]
/-- The worlds that hold what W holds. -/
def InP (W w' : World) : Prop := Below W.heap.size W w'
theorem InP.step {W w1 w2 : World} (h : InP W w1) (hb : Below w1.heap.size w1 w2) : InP W w2 := Below.trans h (hb.mono (Below.size h))
theorem InP.draw (W : World) : InP W { W with drawn := W.drawn + 1 } := (Below.refl W.heap.size W).drew
theorem InP.blk {W w' : World} (h : InP W w') {b : Nat} {o : Obj} (ho : W.heap[b]? = some o) : w'.heap[b]? = some o := (Below.block h b (Array.getElem?_eq_some_iff.1 ho).1).trans ho
theorem InP.cell {W w' : World} (h : InP W w') {p : Addr} {v : Value} (ho : W.cell? p = some v) : w'.cell? p = some v := (Below.cell h (p := p) (World.block_lt_of_cell? W _ ho)).trans ho
def SameAt (d : Nat) : Prop := ∀ (u v : P4) (p : PT) (S T : Nat → Prop) (w : World), PV w S d u p → PV w T d v p → Calls Tryz.prog 17 #[u.v, v.v] w fun e w' => e = .returned (.bool true) ∧ Below w.heap.size w w'

set_option maxHeartbeats 4000000 in
set_option maxRecDepth 100000 in
theorem same_step (d : Nat) (ih : SameAt d) : SameAt (d + 1) := by
  intro u v p S T w hu hv
  obtain ⟨L, b, many, ps⟩ := p
  obtain ⟨A1, c1, bb, lh, h1, h2, h3, h4, h5, h6, h7, h9, h10, h11⟩ := hu
  obtain ⟨A2, c2, bb', lh', k1, k2, k3, k4, k5, k6, k7, k9, k10, k11⟩ := hv
  obtain ⟨u0, u1, u2, u3⟩ := u
  obtain ⟨v0, v1, v2, v3⟩ := v
  simp only at h1 h2 h3 k1 k2 k3 h4 k4
  obtain rfl : bb = bb' := bytes_eq (h7.trans k7.symm)
  obtain rfl : lh = lh' := fl2_inj (h5.trans k5.symm)
  subst h1 h2 h3 k1 k2 k3
  obtain ⟨B1, d1, hh1, e1, f1⟩ := h4.fl
  obtain ⟨B2, d2, hh2, e2, f2⟩ := k4.fl
  subst hh1 hh2
  have hb0 := below_two w (obj4 (.slice B1 lh.length d1) (.string bb) (.bool many) (.slice A1 ps.length c1)) (obj4 (.slice B2 lh.length d2) (.string bb) (.bool many) (.slice A2 ps.length c2))
  have hk := heap_twoP w (obj4 (.slice B1 lh.length d1) (.string bb) (.bool many) (.slice A1 ps.length c1)) (obj4 (.slice B2 lh.length d2) (.string bb) (.bool many) (.slice A2 ps.length c2))
  have HK := Box.mk hk
  have HP1 := Box.mk h11
  have HP2 := Box.mk k11
  have HF1 := Box.mk f1
  have HF2 := Box.mk f2
  have HT := Box.mk h6.tiny
  have hll := h6.1
  have IH := Box.mk ih
  clear h11 k11 f1 f2 h4 k4 h5 k5 h6 k6 h7 k7 hk ih
  unfold P4.v
  simp only
  obtain ⟨W, HW⟩ : ∃ W, Box (W = (w.alloc (obj4 (.slice B1 lh.length d1) (.string bb) (.bool many) (.slice A1 ps.length c1))).alloc (obj4 (.slice B2 lh.length d2) (.string bb) (.bool many) (.slice A2 ps.length c2))) := ⟨_, ⟨rfl⟩⟩
  have hb0W : Below w.heap.size w W := by rw [HW.out]; exact hb0
  have hszW : w.heap.size + 2 ≤ W.heap.size := by rw [HW.out]; simp
  rw [← HW.out] at HK
  clear hb0
  go_enter Tryz.func17, Tryz.ntmps17
  go_wp2
  rw [← HW.out]
  go_loopw [40] (fun i wr => ∃ k : Nat, k ≤ lh.length ∧ i = .int .i64 k ∧ Below W.heap.size W wr) (fun i _ => lh.length - (intOf i).toNat)
  case atStart => exact ⟨0, Nat.zero_le _, rfl, Below.refl _ _⟩
  case round =>
    obtain ⟨k, hk, rfl, hb⟩ := hrel
    by_cases hlt : k < lh.length
    · have hbw := hb0W.trans (hb.mono (by omega))
      obtain ⟨b1, o1, n, v, rfl, HN, hn, hv, hbl, d0, d1'⟩ := HF1.out.elem HT.out hbw k hlt
      obtain ⟨b2, o2, n2, v2, rfl, HN2, _, _, hbl2, d2', d3⟩ := HF2.out.elem HT.out hbw k hlt
      have hnv : n = n2 ∧ v = v2 := by
        have := HN.out.symm.trans HN2.out
        simpa using this
      obtain ⟨rfl, rfl⟩ := hnv
      obtain ⟨x0, x1, x2, x3, xf⟩ := b4_of ((hb.block w.heap.size (by omega)).trans HK.out.1)
      obtain ⟨y0, y1, y2, y3, yf⟩ := b4_of ((hb.block (w.heap.size + 1) (by omega)).trans HK.out.2)
      clear HF1 HF2 HT HN HN2 HP1 HP2 IH HK
      go_wp2
      go_region
      go_wp2
      go_roundw
      case rel => exact ⟨k + 1, by omega, by go_num, hb.drew⟩
      case measure => simp [intOf]; omega
    · obtain ⟨x0, x1, x2, x3, xf⟩ := b4_of ((hb.block w.heap.size (by omega)).trans HK.out.1)
      clear HF1 HF2 HT
      go_wp2
      go_loopw [58] (fun i wr => ∃ k : Nat, k ≤ ps.length ∧ i = .int .i64 k ∧ Below W.heap.size W wr) (fun i _ => ps.length - (intOf i).toNat)
      case atStart => exact ⟨0, Nat.zero_le _, rfl, hb⟩
      case round =>
        obtain ⟨k, hk, rfl, hb⟩ := hrel
        have hsz := hb.size
        by_cases hlt : k < ps.length
        · have hbw := hb0W.trans (hb.mono (by omega))
          obtain ⟨q1, ⟨b1, o1, rfl, _, r0, r1, r2, r3⟩, hv1⟩ := HP1.out k hlt
          obtain ⟨q2, ⟨b2, o2, rfl, _, t0, t1, t2, t3⟩, hv2⟩ := HP2.out k hlt
          obtain ⟨E1, n1, g1, bb1, m1, E2, n2, g2, rfl⟩ := hv1.shape
          obtain ⟨E3, n3, g3, bb3, m3, E4, n4, g4, rfl⟩ := hv2.shape
          have HV1 := Box.mk hv1
          have HV2 := Box.mk hv2
          have hc1 := World.block_lt_of_cell? w _ r0
          have hc2 := World.block_lt_of_cell? w _ t0
          have hx := (hb.block w.heap.size (by omega)).trans HK.out.1
          have hy := (hb.block (w.heap.size + 1) (by omega)).trans HK.out.2
          have r0' := (hbw.cell (p := ⟨b1, o1 + k * 4, none⟩) hc1).trans r0
          have r1' := (hbw.cell (p := ⟨b1, o1 + k * 4 + 1, none⟩) hc1).trans r1
          have r2' := (hbw.cell (p := ⟨b1, o1 + k * 4 + 2, none⟩) hc1).trans r2
          have r3' := (hbw.cell (p := ⟨b1, o1 + k * 4 + 3, none⟩) hc1).trans r3
          have t0' := (hbw.cell (p := ⟨b2, o2 + k * 4, none⟩) hc2).trans t0
          have t1' := (hbw.cell (p := ⟨b2, o2 + k * 4 + 1, none⟩) hc2).trans t1
          have t2' := (hbw.cell (p := ⟨b2, o2 + k * 4 + 2, none⟩) hc2).trans t2
          have t3' := (hbw.cell (p := ⟨b2, o2 + k * 4 + 3, none⟩) hc2).trans t3
          clear HP1 HP2 hv1 hv2 r0 r1 r2 r3 t0 t1 t2 t3
          simp only at r0' r1' r2' r3' t0' t1' t2' t3'
          go_wp2
          refine wp_region_quiet (C := InP wr) (by kernel_rfl) (by kernel_rfl) (InP.draw _) ?_
          refine quiet_do rfl (.pointer (some ⟨w.heap.size, 3, none⟩)) (fun w' hw' => quietAt_ok (by go_simp)) ?_
          go_simp
          refine quiet_do rfl (.slice (some ⟨b1, o1, none⟩) ps.length c1) (fun w' hw' => quietAt_ok (by obtain ⟨z0, z1, z2, z3, zf⟩ := b4_of (InP.blk hw' hx); go_simp)) ?_
          go_simp
          refine quiet_do rfl (.int .i64 k) (fun w' hw' => quietAt_ok (by go_simp)) ?_
          go_simp
          refine quiet_do rfl (.pointer (some ⟨b1, o1 + k * 4, none⟩)) (fun w' hw' => quietAt_ok (by go_simp)) ?_
          go_simp
          refine quiet_do rfl (.agg #[.slice E1 n1 g1, .string bb1, .bool m1, .slice E2 n2 g2]) (fun w' hw' => quietAt_ok (by have s0 := InP.cell hw' r0'; have s1 := InP.cell hw' r1'; have s2 := InP.cell hw' r2'; have s3 := InP.cell hw' r3'; go_simp)) ?_
          go_simp
          refine quiet_do rfl (.pointer (some ⟨w.heap.size + 1, 3, none⟩)) (fun w' hw' => quietAt_ok (by go_simp)) ?_
          go_simp
          refine quiet_do rfl (.slice (some ⟨b2, o2, none⟩) ps.length c2) (fun w' hw' => quietAt_ok (by obtain ⟨z0, z1, z2, z3, zf⟩ := b4_of (InP.blk hw' hy); go_simp)) ?_
          go_simp
          refine quiet_do rfl (.int .i64 k) (fun w' hw' => quietAt_ok (by go_simp)) ?_
          go_simp
          refine quiet_do rfl (.pointer (some ⟨b2, o2 + k * 4, none⟩)) (fun w' hw' => quietAt_ok (by go_simp)) ?_
          go_simp
          refine quiet_do rfl (.agg #[.slice E3 n3 g3, .string bb3, .bool m3, .slice E4 n4 g4]) (fun w' hw' => quietAt_ok (by have s0 := InP.cell hw' t0'; have s1 := InP.cell hw' t1'; have s2 := InP.cell hw' t2'; have s3 := InP.cell hw' t3'; go_simp)) ?_
          go_simp
          refine quiet_do rfl (.bool true) (fun w' hw' => quietAt_call (f := 17) (args := #[.agg #[.slice E1 n1 g1, .string bb1, .bool m1, .slice E2 n2 g2], .agg #[.slice E3 n3 g3, .string bb3, .bool m3, .slice E4 n4 g4]]) (by go_simp) ((IH.out (.slice E1 n1 g1, .string bb1, .bool m1, .slice E2 n2 g2) (.slice E3 n3 g3, .string bb3, .bool m3, .slice E4 n4 g4) _ S T w' (PV.abv (abv_below (hbw.trans (Below.mono hw' hbw.size))) _ _ _ HV1.out) (PV.abv (abv_below (hbw.trans (Below.mono hw' hbw.size))) _ _ _ HV2.out)).mono fun e w'' h => ⟨h.1, InP.step hw' h.2⟩)) ?_
          go_simp
          refine quiet_do rfl (.bool false) (fun w' hw' => quietAt_ok (by go_simp)) ?_
          go_simp
          refine wpQuiet_nil ?_
          intro w9 hw9
          have hb9 : Below W.heap.size W w9 := hb.trans (Below.mono hw9 hsz)
          clear hw9 hx hy r0' r1' r2' r3' t0' t1' t2' t3' HV1 HV2
          go_wp2
          go_roundw
          case rel => exact ⟨k + 1, by omega, by go_num, hb9⟩
          case measure => simp [intOf]; omega
        · clear HP1 HP2 IH
          go_wp2
          go_ret
          exact ⟨rfl, hb0W.trans (hb.mono (by omega))⟩

theorem same_all : ∀ d, SameAt d
  | 0 => fun _ _ _ _ _ _ h _ => h.elim
  | d + 1 => same_step d (same_all d)

end Go.Proofs.YtmjijnfhgedmlaaGreatDoor

namespace Go.Proofs.YtmjijnfhgedmlaaGreatDoor
open Go.RowKit

/- PartReads. -/
theorem pv_zero (w : World) (S : Nat → Prop) : PV w S 1 (.slice none 0 0, .string ⟨#[]⟩, .bool false, .slice none 0 0) (.mk [] [] false []) :=
  ⟨none, 0, ⟨#[]⟩, [], rfl, rfl, rfl, ⟨none, 0, rfl, Nat.le_refl _, fun k hk => absurd hk (by simp)⟩, rfl, ⟨by simp, fun f hf => absurd hf (by simp)⟩, rfl, Nat.le_refl _, by simp, fun k hk => absurd hk (by simp)⟩

set_option maxHeartbeats 2000000 in
set_option maxRecDepth 100000 in
theorem partReads_big (s : ByteArray) (w : World) (h : (2500 < s.size ∧ s.size ≤ 20000) ∨ 25000 < s.size) :
    Calls Tryz.prog 4 #[.string s] w fun e w' => e = .returned (.bool true) ∧ Below w.heap.size w w' := by
  rcases h with ⟨h1, h2⟩ | h1
  · go_enter Tryz.func4, Tryz.ntmps4
    go_wp2
    go_ret
    exact ⟨rfl, Below.refl _ _⟩
  · go_enter Tryz.func4, Tryz.ntmps4
    go_wp2
    go_ret
    exact ⟨rfl, Below.refl _ _⟩

set_option maxHeartbeats 2000000 in
set_option maxRecDepth 100000 in
theorem partReads_small (s : ByteArray) (w : World) (h : s.size ≤ 2500 ∨ (20000 < s.size ∧ s.size ≤ 25000)) (hG : Glob w) :
    Calls Tryz.prog 4 #[.string s] w fun e w' => e = .returned (.bool true) ∧ Below w.heap.size w w' := by
  have HG := Box.mk hG
  have hgb := hG.gb
  have h25 : s.size ≤ 25000 := by omega
  have hd : s.size ≤ 2500 ∨ 20000 < s.size := by omega
  have HS := Box.mk h
  clear hG h
  rcases hd with hd | hd
  all_goals
    go_enter Tryz.func4, Tryz.ntmps4
    go_wp2_with fail
    refine (rReadTop_any s _ (by rcases HS.out with h | h; exact .inl (by omega); exact .inr (by omega)) HG.out.mx).mono ?_
    rintro e w1 ⟨hR, hb1⟩
    unfold RRTPost at hR
    cases hq : readTop s.data.toList with
    | error c =>
      rw [hq] at hR
      obtain rfl := hR
      have HG1 := Box.mk ((HG.out.below hb1 hgb).below (below_oneP w1 zeroO) (hgb.mono hb1.size))
      have hb01 := hb1.trans ((below_oneP w1 zeroO).mono hb1.size)
      have HQ := Box.mk hq
      clear HG hq
      go_wp2_with fail
      refine (pReadTop_any s _ (by omega) HG1.out).mono ?_
      rintro e w2 ⟨hP, hb2⟩
      unfold RTPost at hP
      rw [HQ.out] at hP
      obtain rfl := hP
      have hsz2 := hb2.size
      have hsz1 := hb1.size
      rw [size_oneP] at hsz2
      have hb02 := hb01.trans (hb2.mono (by rw [size_oneP]; omega))
      have hE2 := (HG1.out.et.below hb2 (by rw [size_oneP]; have := hgb.g2; omega)).below (below_oneP w2 zeroO) (by have := hgb.g2; omega)
      have hk3 : (w2.alloc zeroO).heap[w1.heap.size]? = some zeroO := (Below.heap_alloc w2 _ w1.heap.size (by omega)).trans ((hb2.block w1.heap.size (by simp)).trans (heap_oneP w1 zeroO))
      have hk5 : (w2.alloc zeroO).heap[w2.heap.size]? = some zeroO := heap_oneP w2 zeroO
      have hb03 := hb02.trans ((below_oneP w2 zeroO).mono (by omega))
      have HE2 := Box.mk hE2
      clear hE2 HG1 HQ
      go_wp2_with fail
      refine (bare_errno c _ HE2.out).mono ?_
      rintro e w3 ⟨rfl, hb3⟩
      obtain ⟨x0, x1, x2, x3, xf⟩ := b4_of ((hb3.block w1.heap.size (by simp; omega)).trans hk3)
      obtain ⟨y0, y1, y2, y3, yf⟩ := b4_of ((hb3.block w2.heap.size (by simp)).trans hk5)
      have hb04 := hb03.trans (hb3.mono (by simp; omega))
      clear hk3 hk5 HE2
      go_wp2_with fail
      refine (same_all 1 _ _ _ _ _ w3 (pv_zero w3 (fun _ => True)) (pv_zero w3 (fun _ => True))).mono ?_
      rintro e w4 ⟨rfl, hb4⟩
      go_wp2
      go_ret
      exact ⟨rfl, hb04.trans (hb4.mono hb04.size)⟩
    | ok p =>
      rw [hq] at hR
      obtain ⟨r4, rfl, hPV1⟩ := hR
      obtain ⟨A1, n1, c1, bb, mm, A2, n2, c2, rfl⟩ := hPV1.shape
      have HG1 := Box.mk ((HG.out.below hb1 hgb).below (below_oneP w1 (obj4 (.slice A1 n1 c1) (.string bb) (.bool mm) (.slice A2 n2 c2))) (hgb.mono hb1.size))
      have hb01 := hb1.trans ((below_oneP w1 (obj4 (.slice A1 n1 c1) (.string bb) (.bool mm) (.slice A2 n2 c2))).mono hb1.size)
      have HPV1 := Box.mk (PV.abv (abv_below (below_oneP w1 (obj4 (.slice A1 n1 c1) (.string bb) (.bool mm) (.slice A2 n2 c2)))) _ _ _ hPV1)
      have HQ := Box.mk hq
      clear HG hq hPV1
      unfold P4.v
      go_wp2_with fail
      refine (pReadTop_any s _ (by omega) HG1.out).mono ?_
      rintro e w2 ⟨hP, hb2⟩
      unfold RTPost at hP
      rw [HQ.out] at hP
      obtain ⟨q4, rfl, hPV2⟩ := hP
      obtain ⟨A3, n3, c3, bb3, mm3, A4, n4, c4, rfl⟩ := hPV2.shape
      have hsz2 := hb2.size
      have hsz1 := hb1.size
      rw [size_oneP] at hsz2
      have hb02 := hb01.trans (hb2.mono (by rw [size_oneP]; omega))
      have hk3 : (w2.alloc (obj4 (.slice A3 n3 c3) (.string bb3) (.bool mm3) (.slice A4 n4 c4))).heap[w1.heap.size]? = some (obj4 (.slice A1 n1 c1) (.string bb) (.bool mm) (.slice A2 n2 c2)) := (Below.heap_alloc w2 _ w1.heap.size (by omega)).trans ((hb2.block w1.heap.size (by simp)).trans (heap_oneP w1 _))
      have hk5 : (w2.alloc (obj4 (.slice A3 n3 c3) (.string bb3) (.bool mm3) (.slice A4 n4 c4))).heap[w2.heap.size]? = some (obj4 (.slice A3 n3 c3) (.string bb3) (.bool mm3) (.slice A4 n4 c4)) := heap_oneP w2 _
      have hbA := below_oneP w2 (obj4 (.slice A3 n3 c3) (.string bb3) (.bool mm3) (.slice A4 n4 c4))
      have hb03 := hb02.trans (hbA.mono (by omega))
      have HP1 := Box.mk (PV.abv (abv_below hbA) _ _ _ (PV.abv (abv_below hb2) _ _ _ HPV1.out))
      have HP2 := Box.mk (PV.abv (abv_below hbA) _ _ _ hPV2)
      clear HG1 HQ HPV1 hPV2 hbA
      unfold P4.v
      go_wp2_with fail
      refine (bare_nil _).mono ?_
      rintro e w3 ⟨rfl, hb3⟩
      obtain ⟨x0, x1, x2, x3, xf⟩ := b4_of ((hb3.block w1.heap.size (by simp; omega)).trans hk3)
      obtain ⟨y0, y1, y2, y3, yf⟩ := b4_of ((hb3.block w2.heap.size (by simp)).trans hk5)
      have hb04 := hb03.trans (hb3.mono (by simp; omega))
      clear hk3 hk5
      go_wp2_with fail
      refine (same_all 4 _ _ _ _ _ w3 (PV.abv (abv_below hb3) _ _ _ HP2.out) (PV.abv (abv_below hb3) _ _ _ HP1.out)).mono ?_
      rintro e w4 ⟨rfl, hb4⟩
      go_wp2
      go_ret
      exact ⟨rfl, hb04.trans (hb4.mono hb04.size)⟩

theorem partReads_any (s : ByteArray) (w : World) (hG : Glob w) :
    Calls Tryz.prog 4 #[.string s] w fun e w' => e = .returned (.bool true) ∧ Below w.heap.size w w' := by
  by_cases h : s.size ≤ 2500 ∨ (20000 < s.size ∧ s.size ≤ 25000)
  · exact partReads_small s w h hG
  · exact partReads_big s w (by omega)

end Go.Proofs.YtmjijnfhgedmlaaGreatDoor

