import Derived.Test.YtpdfghmfhljfiaaDoorAF
namespace Go.Proofs.YtpdfghmfhljfiaaDoor
open Go.RowKit

theorem idx80_0 (v0 v1 v2 v3 v4 v5 v6 v7 v8 v9 v10 v11 v12 v13 v14 v15 v16 v17 v18 v19 v20 v21 v22 v23 v24 v25 v26 v27 v28 v29 v30 v31 v32 v33 v34 v35 v36 v37 v38 v39 v40 v41 v42 v43 v44 v45 v46 v47 v48 v49 v50 v51 v52 v53 v54 v55 v56 v57 v58 v59 v60 v61 v62 v63 : Value) : ∀ w : World, (Instr.index 80 (.agg #[v0, v1, v2, v3, v4, v5, v6, v7, v8, v9, v10, v11, v12, v13, v14, v15, v16, v17, v18, v19, v20, v21, v22, v23, v24, v25, v26, v27, v28, v29, v30, v31, v32, v33, v34, v35, v36, v37, v38, v39, v40, v41, v42, v43, v44, v45, v46, v47, v48, v49, v50, v51, v52, v53, v54, v55, v56, v57, v58, v59, v60, v61, v62, v63]) (.int .i64 0)).run Tryd.prog w = .ok (.agg #[v0, v1, v2, v3, v4, v5, v6, v7, v8, v9, v10, v11, v12, v13, v14, v15]) w := by
  intro w
  kernel_rfl
theorem idx80_1 (v0 v1 v2 v3 v4 v5 v6 v7 v8 v9 v10 v11 v12 v13 v14 v15 v16 v17 v18 v19 v20 v21 v22 v23 v24 v25 v26 v27 v28 v29 v30 v31 v32 v33 v34 v35 v36 v37 v38 v39 v40 v41 v42 v43 v44 v45 v46 v47 v48 v49 v50 v51 v52 v53 v54 v55 v56 v57 v58 v59 v60 v61 v62 v63 : Value) : ∀ w : World, (Instr.index 80 (.agg #[v0, v1, v2, v3, v4, v5, v6, v7, v8, v9, v10, v11, v12, v13, v14, v15, v16, v17, v18, v19, v20, v21, v22, v23, v24, v25, v26, v27, v28, v29, v30, v31, v32, v33, v34, v35, v36, v37, v38, v39, v40, v41, v42, v43, v44, v45, v46, v47, v48, v49, v50, v51, v52, v53, v54, v55, v56, v57, v58, v59, v60, v61, v62, v63]) (.int .i64 1)).run Tryd.prog w = .ok (.agg #[v16, v17, v18, v19, v20, v21, v22, v23, v24, v25, v26, v27, v28, v29, v30, v31]) w := by
  intro w
  kernel_rfl
theorem idx80_2 (v0 v1 v2 v3 v4 v5 v6 v7 v8 v9 v10 v11 v12 v13 v14 v15 v16 v17 v18 v19 v20 v21 v22 v23 v24 v25 v26 v27 v28 v29 v30 v31 v32 v33 v34 v35 v36 v37 v38 v39 v40 v41 v42 v43 v44 v45 v46 v47 v48 v49 v50 v51 v52 v53 v54 v55 v56 v57 v58 v59 v60 v61 v62 v63 : Value) : ∀ w : World, (Instr.index 80 (.agg #[v0, v1, v2, v3, v4, v5, v6, v7, v8, v9, v10, v11, v12, v13, v14, v15, v16, v17, v18, v19, v20, v21, v22, v23, v24, v25, v26, v27, v28, v29, v30, v31, v32, v33, v34, v35, v36, v37, v38, v39, v40, v41, v42, v43, v44, v45, v46, v47, v48, v49, v50, v51, v52, v53, v54, v55, v56, v57, v58, v59, v60, v61, v62, v63]) (.int .i64 2)).run Tryd.prog w = .ok (.agg #[v32, v33, v34, v35, v36, v37, v38, v39, v40, v41, v42, v43, v44, v45, v46, v47]) w := by
  intro w
  kernel_rfl
theorem idx80_3 (v0 v1 v2 v3 v4 v5 v6 v7 v8 v9 v10 v11 v12 v13 v14 v15 v16 v17 v18 v19 v20 v21 v22 v23 v24 v25 v26 v27 v28 v29 v30 v31 v32 v33 v34 v35 v36 v37 v38 v39 v40 v41 v42 v43 v44 v45 v46 v47 v48 v49 v50 v51 v52 v53 v54 v55 v56 v57 v58 v59 v60 v61 v62 v63 : Value) : ∀ w : World, (Instr.index 80 (.agg #[v0, v1, v2, v3, v4, v5, v6, v7, v8, v9, v10, v11, v12, v13, v14, v15, v16, v17, v18, v19, v20, v21, v22, v23, v24, v25, v26, v27, v28, v29, v30, v31, v32, v33, v34, v35, v36, v37, v38, v39, v40, v41, v42, v43, v44, v45, v46, v47, v48, v49, v50, v51, v52, v53, v54, v55, v56, v57, v58, v59, v60, v61, v62, v63]) (.int .i64 3)).run Tryd.prog w = .ok (.agg #[v48, v49, v50, v51, v52, v53, v54, v55, v56, v57, v58, v59, v60, v61, v62, v63]) w := by
  intro w
  kernel_rfl
theorem blk16_of {w : World} {b : Nat} {v0 v1 v2 v3 v4 v5 v6 v7 v8 v9 v10 v11 v12 v13 v14 v15 : Value} (h : w.heap[b]? = some (.cells #[v0, v1, v2, v3, v4, v5, v6, v7, v8, v9, v10, v11, v12, v13, v14, v15] 79 (0, 0))) :
    w.cell? ⟨b, 0, none⟩ = some v0 ∧ w.cell? ⟨b, 1, none⟩ = some v1 ∧ w.cell? ⟨b, 2, none⟩ = some v2 ∧ w.cell? ⟨b, 3, none⟩ = some v3 ∧ w.cell? ⟨b, 4, none⟩ = some v4 ∧ w.cell? ⟨b, 5, none⟩ = some v5 ∧ w.cell? ⟨b, 6, none⟩ = some v6 ∧ w.cell? ⟨b, 7, none⟩ = some v7 ∧ w.cell? ⟨b, 8, none⟩ = some v8 ∧ w.cell? ⟨b, 9, none⟩ = some v9 ∧ w.cell? ⟨b, 10, none⟩ = some v10 ∧ w.cell? ⟨b, 11, none⟩ = some v11 ∧ w.cell? ⟨b, 12, none⟩ = some v12 ∧ w.cell? ⟨b, 13, none⟩ = some v13 ∧ w.cell? ⟨b, 14, none⟩ = some v14 ∧ w.cell? ⟨b, 15, none⟩ = some v15 := by
  refine ⟨?_, ?_, ?_, ?_, ?_, ?_, ?_, ?_, ?_, ?_, ?_, ?_, ?_, ?_, ?_, ?_⟩ <;> simp [World.cell?, h]

set_option maxHeartbeats 4000000 in
set_option maxRecDepth 100000 in
theorem resolves_small (s t : ByteArray) (a0 a2 a3 a5 a7 g0 g2 g3 g5 g7 : ByteArray) (a1 a4 a6 g1 g4 g6 : Bool) (w : World) (h1 : s.size + t.size ≤ 500) (ha : a0.size + a2.size + a3.size + a5.size + a7.size ≤ 400) (hb : g0.size + g2.size + g3.size + g5.size + g7.size ≤ 400) (hm : Max w) (hE : ErrT w) :
    Calls Tryd.prog 10 #[.string s, .string t, agg8 a0 a1 a2 a3 a4 a5 a6 a7, agg8 g0 g1 g2 g3 g4 g5 g6 g7] w fun e w' => e = .returned (.bool true) ∧ Below w.heap.size w w' := by
  have HMx := Box.mk hm
  have HEr := Box.mk hE
  have hw0 := hm.1
  have hEl := hE.lt
  have HSa : Box (AV.Small ⟨a0, a1, a2, a3, a4, a5, a6, a7⟩ 500) := ⟨av_small (by omega) (by omega) (by omega) (by omega) (by omega)⟩
  have HSg : Box (AV.Small ⟨g0, g1, g2, g3, g4, g5, g6, g7⟩ 500) := ⟨av_small (by omega) (by omega) (by omega) (by omega) (by omega)⟩
  have hta : decide (a0.size + a2.size + a3.size + a5.size + a7.size ≤ 400) = true := decide_eq_true ha
  have htb : decide (g0.size + g2.size + g3.size + g5.size + g7.size ≤ 400) = true := decide_eq_true hb
  have HTa := Box.mk hta
  have HTb := Box.mk htb
  have hsum : ¬ (500 : Int) < (s.size : Int) + (t.size : Int) := by omega
  clear hm hE hta htb
  go_enter Tryd.func10, Tryd.ntmps10
  go_wp2_with fail
  refine (tiny_raw a0 a2 a3 a5 a7 a1 a4 a6 _ (by omega) (by omega) (by omega) (by omega) (by omega) true HTa.out).mono ?_
  rintro e w1 ⟨rfl, hb1⟩
  have b1 := (below_two w (obj8 a0 a1 a2 a3 a4 a5 a6 a7) (obj8 g0 g1 g2 g3 g4 g5 g6 g7)).trans (hb1.mono (by simp; omega))
  have K6 := Box.mk (blk_on (heap_two w (obj8 a0 a1 a2 a3 a4 a5 a6 a7) (obj8 g0 g1 g2 g3 g4 g5 g6 g7)).1 hb1)
  have K7 := Box.mk (blk_on (heap_two w (obj8 a0 a1 a2 a3 a4 a5 a6 a7) (obj8 g0 g1 g2 g3 g4 g5 g6 g7)).2 hb1)
  obtain ⟨c0, c1, c2, c3, c4, c5, c6, c7, cf⟩ := blk_of K7.out.1
  clear hb1
  go_wp2_with fail
  refine (tiny_raw g0 g2 g3 g5 g7 g1 g4 g6 _ (by omega) (by omega) (by omega) (by omega) (by omega) true HTb.out).mono ?_
  rintro e w2 ⟨rfl, hb2⟩
  have b2w := b1.trans (hb2.mono b1.size)
  replace K6 := Box.mk (blk_on K6.out.1 hb2)
  replace K7 := Box.mk (blk_on K7.out.1 hb2)
  clear hb2 c0 c1 c2 c3 c4 c5 c6 c7 cf HTa HTb ha hb
  go_wp2_with fail
  refine (rread_is s w2 (by omega)).mono ?_
  rintro e w3 ⟨rfl, hv, hbb⟩
  have bw3 := b2w.trans (hbb.mono b2w.size)
  replace K6 := Box.mk (blk_on K6.out.1 hbb)
  replace K7 := Box.mk (blk_on K7.out.1 hbb)
  clear hbb
  obtain ⟨X, HX⟩ : ∃ X, Box (X = readV s.data.toList) := ⟨_, ⟨rfl⟩⟩
  obtain ⟨E1, HE1⟩ : ∃ E, Box (E = codeV s.data.toList) := ⟨_, ⟨rfl⟩⟩
  rw [← HX.out] at hv
  rw [← HX.out, ← HE1.out]
  have HSx : Box (X.Small 500) := ⟨small_up hv (by omega)⟩
  clear hv
  obtain ⟨x0, x1, x2, x3, x4, x5, x6, x7⟩ := X
  have bw3a := bw3.alloc bw3.size (obj8 x0 x1 x2 x3 x4 x5 x6 x7)
  go_wp2_with fail
  refine (aread_is s _ (by omega) (HMx.out.below bw3a hw0)).mono ?_
  rintro e w4 ⟨rfl, _, hbb⟩
  have bw4 := bw3a.trans (hbb.mono bw3a.size)
  replace K6 := Box.mk (blk_on (blk_alloc K6.out.1 (obj8 x0 x1 x2 x3 x4 x5 x6 x7)) hbb)
  replace K7 := Box.mk (blk_on (blk_alloc K7.out.1 (obj8 x0 x1 x2 x3 x4 x5 x6 x7)) hbb)
  have K9 := Box.mk (blk_on (heap_one w3 (obj8 x0 x1 x2 x3 x4 x5 x6 x7)) hbb)
  clear hbb
  rw [← HX.out]
  obtain ⟨V1, HV1⟩ : ∃ V, Box (V = errV s.data.toList) := ⟨_, ⟨rfl⟩⟩
  rw [← HV1.out]
  have bw4a := bw4.alloc bw4.size (obj8 x0 x1 x2 x3 x4 x5 x6 x7)
  go_wp2_with fail
  rw [HV1.out, HE1.out]
  refine (abare_any s.data.toList _ (HEr.out.below bw4a hEl)).mono ?_
  rintro e w5 ⟨rfl, hbb⟩
  have bw5 := bw4a.trans (hbb.mono bw4a.size)
  replace K6 := Box.mk (blk_on (blk_alloc K6.out.1 (obj8 x0 x1 x2 x3 x4 x5 x6 x7)) hbb)
  replace K7 := Box.mk (blk_on (blk_alloc K7.out.1 (obj8 x0 x1 x2 x3 x4 x5 x6 x7)) hbb)
  replace K9 := Box.mk (blk_on (blk_alloc K9.out.1 (obj8 x0 x1 x2 x3 x4 x5 x6 x7)) hbb)
  have K11 := Box.mk (blk_on (heap_one w4 (obj8 x0 x1 x2 x3 x4 x5 x6 x7)) hbb)
  clear hbb HV1 HE1
  obtain ⟨c0, c1, c2, c3, c4, c5, c6, c7, cf⟩ := blk_of K9.out.1
  obtain ⟨d0, d1, d2, d3, d4, d5, d6, d7, df⟩ := blk_of K11.out.1
  have heq := eq8_run ⟨x0, x1, x2, x3, x4, x5, x6, x7⟩ ⟨x0, x1, x2, x3, x4, x5, x6, x7⟩ true (by simp)
  go_wp2_with fail
  clear c0 c1 c2 c3 c4 c5 c6 c7 cf d0 d1 d2 d3 d4 d5 d6 d7 df heq K11
  refine (rread_is t w5 (by omega)).mono ?_
  rintro e w6 ⟨rfl, hv, hbb⟩
  have bw6 := bw5.trans (hbb.mono bw5.size)
  replace K6 := Box.mk (blk_on K6.out.1 hbb)
  replace K7 := Box.mk (blk_on K7.out.1 hbb)
  replace K9 := Box.mk (blk_on K9.out.1 hbb)
  clear hbb
  obtain ⟨Z, HZ⟩ : ∃ X, Box (X = readV t.data.toList) := ⟨_, ⟨rfl⟩⟩
  obtain ⟨E2, HE2⟩ : ∃ E, Box (E = codeV t.data.toList) := ⟨_, ⟨rfl⟩⟩
  rw [← HZ.out] at hv
  rw [← HZ.out, ← HE2.out]
  have HSz : Box (Z.Small 500) := ⟨small_up hv (by omega)⟩
  clear hv
  obtain ⟨z0, z1, z2, z3, z4, z5, z6, z7⟩ := Z
  have bw6a := bw6.alloc bw6.size (obj8 z0 z1 z2 z3 z4 z5 z6 z7)
  go_wp2_with fail
  refine (aread_is t _ (by omega) (HMx.out.below bw6a hw0)).mono ?_
  rintro e w7 ⟨rfl, _, hbb⟩
  have bw7 := bw6a.trans (hbb.mono bw6a.size)
  replace K6 := Box.mk (blk_on (blk_alloc K6.out.1 (obj8 z0 z1 z2 z3 z4 z5 z6 z7)) hbb)
  replace K7 := Box.mk (blk_on (blk_alloc K7.out.1 (obj8 z0 z1 z2 z3 z4 z5 z6 z7)) hbb)
  replace K9 := Box.mk (blk_on (blk_alloc K9.out.1 (obj8 z0 z1 z2 z3 z4 z5 z6 z7)) hbb)
  have K13 := Box.mk (blk_on (heap_one w6 (obj8 z0 z1 z2 z3 z4 z5 z6 z7)) hbb)
  clear hbb
  rw [← HZ.out]
  obtain ⟨V2, HV2⟩ : ∃ V, Box (V = errV t.data.toList) := ⟨_, ⟨rfl⟩⟩
  rw [← HV2.out]
  have bw7a := bw7.alloc bw7.size (obj8 z0 z1 z2 z3 z4 z5 z6 z7)
  go_wp2_with fail
  rw [HV2.out, HE2.out]
  refine (abare_any t.data.toList _ (HEr.out.below bw7a hEl)).mono ?_
  rintro e w8 ⟨rfl, hbb⟩
  have bw8 := bw7a.trans (hbb.mono bw7a.size)
  replace K6 := Box.mk (blk_on (blk_alloc K6.out.1 (obj8 z0 z1 z2 z3 z4 z5 z6 z7)) hbb)
  replace K7 := Box.mk (blk_on (blk_alloc K7.out.1 (obj8 z0 z1 z2 z3 z4 z5 z6 z7)) hbb)
  replace K9 := Box.mk (blk_on (blk_alloc K9.out.1 (obj8 z0 z1 z2 z3 z4 z5 z6 z7)) hbb)
  replace K13 := Box.mk (blk_on (blk_alloc K13.out.1 (obj8 z0 z1 z2 z3 z4 z5 z6 z7)) hbb)
  have K14 := Box.mk (blk_on (heap_one w7 (obj8 z0 z1 z2 z3 z4 z5 z6 z7)) hbb)
  clear hbb HV2 HE2
  obtain ⟨c0, c1, c2, c3, c4, c5, c6, c7, cf⟩ := blk_of K13.out.1
  obtain ⟨d0, d1, d2, d3, d4, d5, d6, d7, df⟩ := blk_of K14.out.1
  have heq := eq8_run ⟨z0, z1, z2, z3, z4, z5, z6, z7⟩ ⟨z0, z1, z2, z3, z4, z5, z6, z7⟩ true (by simp)
  have bW := bw8
  go_upto_if 72 with fail
  go_cut [8] from 73 (fun _ wx => wx = w8)
  case first =>
    go_wp2
    go_meet
    exact rfl
  case rest =>
    obtain rfl := hcut.symm
    clear c0 c1 c2 c3 c4 c5 c6 c7 cf d0 d1 d2 d3 d4 d5 d6 d7 df heq K14 HX HZ
    obtain ⟨c0, c1, c2, c3, c4, c5, c6, c7, cf⟩ := blk_of K6.out.1
    obtain ⟨d0, d1, d2, d3, d4, d5, d6, d7, df⟩ := blk_of K7.out.1
    obtain ⟨e0, e1, e2, e3, e4, e5, e6, e7, ef⟩ := blk_of K9.out.1
    obtain ⟨f0, f1, f2, f3, f4, f5, f6, f7, ff⟩ := blk_of K13.out.1
    go_wp2
    clear c0 c1 c2 c3 c4 c5 c6 c7 cf d0 d1 d2 d3 d4 d5 d6 d7 df e0 e1 e2 e3 e4 e5 e6 e7 ef f0 f1 f2 f3 f4 f5 f6 f7 ff
    go_loopw [86] (fun i wr => ∃ k : Nat, k ≤ 4 ∧ i = .int .i64 k ∧ Below w8.heap.size w8 wr) (fun i _ => 4 - (intOf i).toNat)
    case atStart => exact ⟨0, Nat.zero_le _, rfl, Below.refl _ _⟩
    case round =>
      obtain ⟨k, hk, rfl, hb⟩ := hrel
      by_cases hlt : k < 4
      · have hk4 : k = 0 ∨ k = 1 ∨ k = 2 ∨ k = 3 := by omega
        rcases hk4 with rfl | rfl | rfl | rfl
        · have HRs := Box.mk (resV_small (n := 500) (small_up HSx.out (by omega)) (small_up HSz.out (by omega)))
          obtain ⟨R, HR⟩ : ∃ R, Box (R = resV ⟨x0, x1, x2, x3, x4, x5, x6, x7⟩ ⟨z0, z1, z2, z3, z4, z5, z6, z7⟩) := ⟨_, ⟨rfl⟩⟩
          obtain ⟨r0, r1, r2, r3, r4, r5, r6, r7⟩ := R
          have heq := eq8_run ⟨r0, r1, r2, r3, r4, r5, r6, r7⟩ ⟨r0, r1, r2, r3, r4, r5, r6, r7⟩ true (by simp)
          have hix := idx80_0 (.string x0) (.bool x1) (.string x2) (.string x3) (.bool x4) (.string x5) (.bool x6) (.string x7) (.string z0) (.bool z1) (.string z2) (.string z3) (.bool z4) (.string z5) (.bool z6) (.string z7) (.string a0) (.bool a1) (.string a2) (.string a3) (.bool a4) (.string a5) (.bool a6) (.string a7) (.string z0) (.bool z1) (.string z2) (.string z3) (.bool z4) (.string z5) (.bool z6) (.string z7) (.string x0) (.bool x1) (.string x2) (.string x3) (.bool x4) (.string x5) (.bool x6) (.string x7) (.string a0) (.bool a1) (.string a2) (.string a3) (.bool a4) (.string a5) (.bool a6) (.string a7) (.string a0) (.bool a1) (.string a2) (.string a3) (.bool a4) (.string a5) (.bool a6) (.string a7) (.string g0) (.bool g1) (.string g2) (.string g3) (.bool g4) (.string g5) (.bool g6) (.string g7)
          go_wp2
          have kp : (wr.alloc (.cells #[.string x0, .bool x1, .string x2, .string x3, .bool x4, .string x5, .bool x6, .string x7, .string z0, .bool z1, .string z2, .string z3, .bool z4, .string z5, .bool z6, .string z7] 79)).heap[wr.heap.size]? = some (.cells #[.string x0, .bool x1, .string x2, .string x3, .bool x4, .string x5, .bool x6, .string x7, .string z0, .bool z1, .string z2, .string z3, .bool z4, .string z5, .bool z6, .string z7] 79) := heap_one _ _
          have lp : wr.heap.size < (wr.alloc (.cells #[.string x0, .bool x1, .string x2, .string x3, .bool x4, .string x5, .bool x6, .string x7, .string z0, .bool z1, .string z2, .string z3, .bool z4, .string z5, .bool z6, .string z7] 79)).heap.size := by simp
          have bo := hb.alloc hb.size (.cells #[.string x0, .bool x1, .string x2, .string x3, .bool x4, .string x5, .bool x6, .string x7, .string z0, .bool z1, .string z2, .string z3, .bool z4, .string z5, .bool z6, .string z7] 79)
          refine wp_region_quiet (C := InW (wr.alloc (.cells #[.string x0, .bool x1, .string x2, .string x3, .bool x4, .string x5, .bool x6, .string x7, .string z0, .bool z1, .string z2, .string z3, .bool z4, .string z5, .bool z6, .string z7] 79))) (by kernel_rfl) (by kernel_rfl) (InW.draw _) ?_
          refine quiet_do rfl (.pointer (some ⟨wr.heap.size, 0, none⟩)) (fun w' hw' => quietAt_ok (by go_simp)) ?_
          go_simp
          refine quiet_do rfl (agg8 x0 x1 x2 x3 x4 x5 x6 x7) (fun w' hw' => quietAt_ok (by have h := InW.blk hw' lp kp; obtain ⟨d0, d1, d2, d3, d4, d5, d6, d7, d8, d9, d10, d11, d12, d13, d14, d15⟩ := blk16_of h; go_simp)) ?_
          go_simp
          refine quiet_do rfl (.pointer (some ⟨wr.heap.size, 8, none⟩)) (fun w' hw' => quietAt_ok (by go_simp)) ?_
          go_simp
          refine quiet_do rfl (agg8 z0 z1 z2 z3 z4 z5 z6 z7) (fun w' hw' => quietAt_ok (by have h := InW.blk hw' lp kp; obtain ⟨d0, d1, d2, d3, d4, d5, d6, d7, d8, d9, d10, d11, d12, d13, d14, d15⟩ := blk16_of h; go_simp)) ?_
          go_simp
          refine quiet_do rfl (agg8 r0 r1 r2 r3 r4 r5 r6 r7) (fun w' hw' => quietAt_call (f := 49) (args := #[agg8 x0 x1 x2 x3 x4 x5 x6 x7, agg8 z0 z1 z2 z3 z4 z5 z6 z7]) (by go_simp) ((ares_any ⟨x0, x1, x2, x3, x4, x5, x6, x7⟩ ⟨z0, z1, z2, z3, z4, z5, z6, z7⟩ w' (Nat.le_trans HSx.out.pa (by omega)) (Nat.le_trans HSz.out.pa (by omega)) (HMx.out.below ((bW.trans (Below.mono bo bW.size)).trans (Below.mono hw' (Nat.le_trans bW.size bo.size))) hw0)).mono (by rintro e w2 ⟨rfl, hb⟩; rw [← HR.out]; exact ⟨rfl, InW.step hw' hb⟩))) ?_
          go_simp
          refine quiet_do rfl (.pointer (some ⟨wr.heap.size, 0, none⟩)) (fun w' hw' => quietAt_ok (by go_simp)) ?_
          go_simp
          refine quiet_do rfl (agg8 x0 x1 x2 x3 x4 x5 x6 x7) (fun w' hw' => quietAt_ok (by have h := InW.blk hw' lp kp; obtain ⟨d0, d1, d2, d3, d4, d5, d6, d7, d8, d9, d10, d11, d12, d13, d14, d15⟩ := blk16_of h; go_simp)) ?_
          go_simp
          refine quiet_do rfl (.pointer (some ⟨wr.heap.size, 8, none⟩)) (fun w' hw' => quietAt_ok (by go_simp)) ?_
          go_simp
          refine quiet_do rfl (agg8 z0 z1 z2 z3 z4 z5 z6 z7) (fun w' hw' => quietAt_ok (by have h := InW.blk hw' lp kp; obtain ⟨d0, d1, d2, d3, d4, d5, d6, d7, d8, d9, d10, d11, d12, d13, d14, d15⟩ := blk16_of h; go_simp)) ?_
          go_simp
          refine quiet_do rfl (agg8 r0 r1 r2 r3 r4 r5 r6 r7) (fun w' hw' => quietAt_call (f := 50) (args := #[agg8 x0 x1 x2 x3 x4 x5 x6 x7, agg8 z0 z1 z2 z3 z4 z5 z6 z7]) (by go_simp) ((rres_any ⟨x0, x1, x2, x3, x4, x5, x6, x7⟩ ⟨z0, z1, z2, z3, z4, z5, z6, z7⟩ w' (Nat.le_trans HSx.out.pa (by omega)) (Nat.le_trans HSz.out.pa (by omega)) (HMx.out.below ((bW.trans (Below.mono bo bW.size)).trans (Below.mono hw' (Nat.le_trans bW.size bo.size))) hw0)).mono (by rintro e w2 ⟨rfl, hb⟩; rw [← HR.out]; exact ⟨rfl, InW.step hw' hb⟩))) ?_
          go_simp
          refine quiet_do rfl (.bool false) (fun w' hw' => quietAt_ok (by go_simp)) ?_
          go_simp
          refine wpQuiet_nil ?_
          intro w9 hw9
          have b9 := bo.trans (Below.mono hw9 bo.size)
          clear hw9 heq bo kp lp
          go_wp2
          go_roundw
          case rel => exact ⟨0 + 1, by omega, by go_num, b9⟩
          case measure => simp [intOf]
        · have HRs := Box.mk (resV_small (n := 500) (small_up HSa.out (by omega)) (small_up HSz.out (by omega)))
          obtain ⟨R, HR⟩ : ∃ R, Box (R = resV ⟨a0, a1, a2, a3, a4, a5, a6, a7⟩ ⟨z0, z1, z2, z3, z4, z5, z6, z7⟩) := ⟨_, ⟨rfl⟩⟩
          obtain ⟨r0, r1, r2, r3, r4, r5, r6, r7⟩ := R
          have heq := eq8_run ⟨r0, r1, r2, r3, r4, r5, r6, r7⟩ ⟨r0, r1, r2, r3, r4, r5, r6, r7⟩ true (by simp)
          have hix := idx80_1 (.string x0) (.bool x1) (.string x2) (.string x3) (.bool x4) (.string x5) (.bool x6) (.string x7) (.string z0) (.bool z1) (.string z2) (.string z3) (.bool z4) (.string z5) (.bool z6) (.string z7) (.string a0) (.bool a1) (.string a2) (.string a3) (.bool a4) (.string a5) (.bool a6) (.string a7) (.string z0) (.bool z1) (.string z2) (.string z3) (.bool z4) (.string z5) (.bool z6) (.string z7) (.string x0) (.bool x1) (.string x2) (.string x3) (.bool x4) (.string x5) (.bool x6) (.string x7) (.string a0) (.bool a1) (.string a2) (.string a3) (.bool a4) (.string a5) (.bool a6) (.string a7) (.string a0) (.bool a1) (.string a2) (.string a3) (.bool a4) (.string a5) (.bool a6) (.string a7) (.string g0) (.bool g1) (.string g2) (.string g3) (.bool g4) (.string g5) (.bool g6) (.string g7)
          go_wp2
          have kp : (wr.alloc (.cells #[.string a0, .bool a1, .string a2, .string a3, .bool a4, .string a5, .bool a6, .string a7, .string z0, .bool z1, .string z2, .string z3, .bool z4, .string z5, .bool z6, .string z7] 79)).heap[wr.heap.size]? = some (.cells #[.string a0, .bool a1, .string a2, .string a3, .bool a4, .string a5, .bool a6, .string a7, .string z0, .bool z1, .string z2, .string z3, .bool z4, .string z5, .bool z6, .string z7] 79) := heap_one _ _
          have lp : wr.heap.size < (wr.alloc (.cells #[.string a0, .bool a1, .string a2, .string a3, .bool a4, .string a5, .bool a6, .string a7, .string z0, .bool z1, .string z2, .string z3, .bool z4, .string z5, .bool z6, .string z7] 79)).heap.size := by simp
          have bo := hb.alloc hb.size (.cells #[.string a0, .bool a1, .string a2, .string a3, .bool a4, .string a5, .bool a6, .string a7, .string z0, .bool z1, .string z2, .string z3, .bool z4, .string z5, .bool z6, .string z7] 79)
          refine wp_region_quiet (C := InW (wr.alloc (.cells #[.string a0, .bool a1, .string a2, .string a3, .bool a4, .string a5, .bool a6, .string a7, .string z0, .bool z1, .string z2, .string z3, .bool z4, .string z5, .bool z6, .string z7] 79))) (by kernel_rfl) (by kernel_rfl) (InW.draw _) ?_
          refine quiet_do rfl (.pointer (some ⟨wr.heap.size, 0, none⟩)) (fun w' hw' => quietAt_ok (by go_simp)) ?_
          go_simp
          refine quiet_do rfl (agg8 a0 a1 a2 a3 a4 a5 a6 a7) (fun w' hw' => quietAt_ok (by have h := InW.blk hw' lp kp; obtain ⟨d0, d1, d2, d3, d4, d5, d6, d7, d8, d9, d10, d11, d12, d13, d14, d15⟩ := blk16_of h; go_simp)) ?_
          go_simp
          refine quiet_do rfl (.pointer (some ⟨wr.heap.size, 8, none⟩)) (fun w' hw' => quietAt_ok (by go_simp)) ?_
          go_simp
          refine quiet_do rfl (agg8 z0 z1 z2 z3 z4 z5 z6 z7) (fun w' hw' => quietAt_ok (by have h := InW.blk hw' lp kp; obtain ⟨d0, d1, d2, d3, d4, d5, d6, d7, d8, d9, d10, d11, d12, d13, d14, d15⟩ := blk16_of h; go_simp)) ?_
          go_simp
          refine quiet_do rfl (agg8 r0 r1 r2 r3 r4 r5 r6 r7) (fun w' hw' => quietAt_call (f := 49) (args := #[agg8 a0 a1 a2 a3 a4 a5 a6 a7, agg8 z0 z1 z2 z3 z4 z5 z6 z7]) (by go_simp) ((ares_any ⟨a0, a1, a2, a3, a4, a5, a6, a7⟩ ⟨z0, z1, z2, z3, z4, z5, z6, z7⟩ w' (Nat.le_trans HSa.out.pa (by omega)) (Nat.le_trans HSz.out.pa (by omega)) (HMx.out.below ((bW.trans (Below.mono bo bW.size)).trans (Below.mono hw' (Nat.le_trans bW.size bo.size))) hw0)).mono (by rintro e w2 ⟨rfl, hb⟩; rw [← HR.out]; exact ⟨rfl, InW.step hw' hb⟩))) ?_
          go_simp
          refine quiet_do rfl (.pointer (some ⟨wr.heap.size, 0, none⟩)) (fun w' hw' => quietAt_ok (by go_simp)) ?_
          go_simp
          refine quiet_do rfl (agg8 a0 a1 a2 a3 a4 a5 a6 a7) (fun w' hw' => quietAt_ok (by have h := InW.blk hw' lp kp; obtain ⟨d0, d1, d2, d3, d4, d5, d6, d7, d8, d9, d10, d11, d12, d13, d14, d15⟩ := blk16_of h; go_simp)) ?_
          go_simp
          refine quiet_do rfl (.pointer (some ⟨wr.heap.size, 8, none⟩)) (fun w' hw' => quietAt_ok (by go_simp)) ?_
          go_simp
          refine quiet_do rfl (agg8 z0 z1 z2 z3 z4 z5 z6 z7) (fun w' hw' => quietAt_ok (by have h := InW.blk hw' lp kp; obtain ⟨d0, d1, d2, d3, d4, d5, d6, d7, d8, d9, d10, d11, d12, d13, d14, d15⟩ := blk16_of h; go_simp)) ?_
          go_simp
          refine quiet_do rfl (agg8 r0 r1 r2 r3 r4 r5 r6 r7) (fun w' hw' => quietAt_call (f := 50) (args := #[agg8 a0 a1 a2 a3 a4 a5 a6 a7, agg8 z0 z1 z2 z3 z4 z5 z6 z7]) (by go_simp) ((rres_any ⟨a0, a1, a2, a3, a4, a5, a6, a7⟩ ⟨z0, z1, z2, z3, z4, z5, z6, z7⟩ w' (Nat.le_trans HSa.out.pa (by omega)) (Nat.le_trans HSz.out.pa (by omega)) (HMx.out.below ((bW.trans (Below.mono bo bW.size)).trans (Below.mono hw' (Nat.le_trans bW.size bo.size))) hw0)).mono (by rintro e w2 ⟨rfl, hb⟩; rw [← HR.out]; exact ⟨rfl, InW.step hw' hb⟩))) ?_
          go_simp
          refine quiet_do rfl (.bool false) (fun w' hw' => quietAt_ok (by go_simp)) ?_
          go_simp
          refine wpQuiet_nil ?_
          intro w9 hw9
          have b9 := bo.trans (Below.mono hw9 bo.size)
          clear hw9 heq bo kp lp
          go_wp2
          go_roundw
          case rel => exact ⟨1 + 1, by omega, by go_num, b9⟩
          case measure => simp [intOf]
        · have HRs := Box.mk (resV_small (n := 500) (small_up HSx.out (by omega)) (small_up HSa.out (by omega)))
          obtain ⟨R, HR⟩ : ∃ R, Box (R = resV ⟨x0, x1, x2, x3, x4, x5, x6, x7⟩ ⟨a0, a1, a2, a3, a4, a5, a6, a7⟩) := ⟨_, ⟨rfl⟩⟩
          obtain ⟨r0, r1, r2, r3, r4, r5, r6, r7⟩ := R
          have heq := eq8_run ⟨r0, r1, r2, r3, r4, r5, r6, r7⟩ ⟨r0, r1, r2, r3, r4, r5, r6, r7⟩ true (by simp)
          have hix := idx80_2 (.string x0) (.bool x1) (.string x2) (.string x3) (.bool x4) (.string x5) (.bool x6) (.string x7) (.string z0) (.bool z1) (.string z2) (.string z3) (.bool z4) (.string z5) (.bool z6) (.string z7) (.string a0) (.bool a1) (.string a2) (.string a3) (.bool a4) (.string a5) (.bool a6) (.string a7) (.string z0) (.bool z1) (.string z2) (.string z3) (.bool z4) (.string z5) (.bool z6) (.string z7) (.string x0) (.bool x1) (.string x2) (.string x3) (.bool x4) (.string x5) (.bool x6) (.string x7) (.string a0) (.bool a1) (.string a2) (.string a3) (.bool a4) (.string a5) (.bool a6) (.string a7) (.string a0) (.bool a1) (.string a2) (.string a3) (.bool a4) (.string a5) (.bool a6) (.string a7) (.string g0) (.bool g1) (.string g2) (.string g3) (.bool g4) (.string g5) (.bool g6) (.string g7)
          go_wp2
          have kp : (wr.alloc (.cells #[.string x0, .bool x1, .string x2, .string x3, .bool x4, .string x5, .bool x6, .string x7, .string a0, .bool a1, .string a2, .string a3, .bool a4, .string a5, .bool a6, .string a7] 79)).heap[wr.heap.size]? = some (.cells #[.string x0, .bool x1, .string x2, .string x3, .bool x4, .string x5, .bool x6, .string x7, .string a0, .bool a1, .string a2, .string a3, .bool a4, .string a5, .bool a6, .string a7] 79) := heap_one _ _
          have lp : wr.heap.size < (wr.alloc (.cells #[.string x0, .bool x1, .string x2, .string x3, .bool x4, .string x5, .bool x6, .string x7, .string a0, .bool a1, .string a2, .string a3, .bool a4, .string a5, .bool a6, .string a7] 79)).heap.size := by simp
          have bo := hb.alloc hb.size (.cells #[.string x0, .bool x1, .string x2, .string x3, .bool x4, .string x5, .bool x6, .string x7, .string a0, .bool a1, .string a2, .string a3, .bool a4, .string a5, .bool a6, .string a7] 79)
          refine wp_region_quiet (C := InW (wr.alloc (.cells #[.string x0, .bool x1, .string x2, .string x3, .bool x4, .string x5, .bool x6, .string x7, .string a0, .bool a1, .string a2, .string a3, .bool a4, .string a5, .bool a6, .string a7] 79))) (by kernel_rfl) (by kernel_rfl) (InW.draw _) ?_
          refine quiet_do rfl (.pointer (some ⟨wr.heap.size, 0, none⟩)) (fun w' hw' => quietAt_ok (by go_simp)) ?_
          go_simp
          refine quiet_do rfl (agg8 x0 x1 x2 x3 x4 x5 x6 x7) (fun w' hw' => quietAt_ok (by have h := InW.blk hw' lp kp; obtain ⟨d0, d1, d2, d3, d4, d5, d6, d7, d8, d9, d10, d11, d12, d13, d14, d15⟩ := blk16_of h; go_simp)) ?_
          go_simp
          refine quiet_do rfl (.pointer (some ⟨wr.heap.size, 8, none⟩)) (fun w' hw' => quietAt_ok (by go_simp)) ?_
          go_simp
          refine quiet_do rfl (agg8 a0 a1 a2 a3 a4 a5 a6 a7) (fun w' hw' => quietAt_ok (by have h := InW.blk hw' lp kp; obtain ⟨d0, d1, d2, d3, d4, d5, d6, d7, d8, d9, d10, d11, d12, d13, d14, d15⟩ := blk16_of h; go_simp)) ?_
          go_simp
          refine quiet_do rfl (agg8 r0 r1 r2 r3 r4 r5 r6 r7) (fun w' hw' => quietAt_call (f := 49) (args := #[agg8 x0 x1 x2 x3 x4 x5 x6 x7, agg8 a0 a1 a2 a3 a4 a5 a6 a7]) (by go_simp) ((ares_any ⟨x0, x1, x2, x3, x4, x5, x6, x7⟩ ⟨a0, a1, a2, a3, a4, a5, a6, a7⟩ w' (Nat.le_trans HSx.out.pa (by omega)) (Nat.le_trans HSa.out.pa (by omega)) (HMx.out.below ((bW.trans (Below.mono bo bW.size)).trans (Below.mono hw' (Nat.le_trans bW.size bo.size))) hw0)).mono (by rintro e w2 ⟨rfl, hb⟩; rw [← HR.out]; exact ⟨rfl, InW.step hw' hb⟩))) ?_
          go_simp
          refine quiet_do rfl (.pointer (some ⟨wr.heap.size, 0, none⟩)) (fun w' hw' => quietAt_ok (by go_simp)) ?_
          go_simp
          refine quiet_do rfl (agg8 x0 x1 x2 x3 x4 x5 x6 x7) (fun w' hw' => quietAt_ok (by have h := InW.blk hw' lp kp; obtain ⟨d0, d1, d2, d3, d4, d5, d6, d7, d8, d9, d10, d11, d12, d13, d14, d15⟩ := blk16_of h; go_simp)) ?_
          go_simp
          refine quiet_do rfl (.pointer (some ⟨wr.heap.size, 8, none⟩)) (fun w' hw' => quietAt_ok (by go_simp)) ?_
          go_simp
          refine quiet_do rfl (agg8 a0 a1 a2 a3 a4 a5 a6 a7) (fun w' hw' => quietAt_ok (by have h := InW.blk hw' lp kp; obtain ⟨d0, d1, d2, d3, d4, d5, d6, d7, d8, d9, d10, d11, d12, d13, d14, d15⟩ := blk16_of h; go_simp)) ?_
          go_simp
          refine quiet_do rfl (agg8 r0 r1 r2 r3 r4 r5 r6 r7) (fun w' hw' => quietAt_call (f := 50) (args := #[agg8 x0 x1 x2 x3 x4 x5 x6 x7, agg8 a0 a1 a2 a3 a4 a5 a6 a7]) (by go_simp) ((rres_any ⟨x0, x1, x2, x3, x4, x5, x6, x7⟩ ⟨a0, a1, a2, a3, a4, a5, a6, a7⟩ w' (Nat.le_trans HSx.out.pa (by omega)) (Nat.le_trans HSa.out.pa (by omega)) (HMx.out.below ((bW.trans (Below.mono bo bW.size)).trans (Below.mono hw' (Nat.le_trans bW.size bo.size))) hw0)).mono (by rintro e w2 ⟨rfl, hb⟩; rw [← HR.out]; exact ⟨rfl, InW.step hw' hb⟩))) ?_
          go_simp
          refine quiet_do rfl (.bool false) (fun w' hw' => quietAt_ok (by go_simp)) ?_
          go_simp
          refine wpQuiet_nil ?_
          intro w9 hw9
          have b9 := bo.trans (Below.mono hw9 bo.size)
          clear hw9 heq bo kp lp
          go_wp2
          go_roundw
          case rel => exact ⟨2 + 1, by omega, by go_num, b9⟩
          case measure => simp [intOf]
        · have HRs := Box.mk (resV_small (n := 500) (small_up HSa.out (by omega)) (small_up HSg.out (by omega)))
          obtain ⟨R, HR⟩ : ∃ R, Box (R = resV ⟨a0, a1, a2, a3, a4, a5, a6, a7⟩ ⟨g0, g1, g2, g3, g4, g5, g6, g7⟩) := ⟨_, ⟨rfl⟩⟩
          obtain ⟨r0, r1, r2, r3, r4, r5, r6, r7⟩ := R
          have heq := eq8_run ⟨r0, r1, r2, r3, r4, r5, r6, r7⟩ ⟨r0, r1, r2, r3, r4, r5, r6, r7⟩ true (by simp)
          have hix := idx80_3 (.string x0) (.bool x1) (.string x2) (.string x3) (.bool x4) (.string x5) (.bool x6) (.string x7) (.string z0) (.bool z1) (.string z2) (.string z3) (.bool z4) (.string z5) (.bool z6) (.string z7) (.string a0) (.bool a1) (.string a2) (.string a3) (.bool a4) (.string a5) (.bool a6) (.string a7) (.string z0) (.bool z1) (.string z2) (.string z3) (.bool z4) (.string z5) (.bool z6) (.string z7) (.string x0) (.bool x1) (.string x2) (.string x3) (.bool x4) (.string x5) (.bool x6) (.string x7) (.string a0) (.bool a1) (.string a2) (.string a3) (.bool a4) (.string a5) (.bool a6) (.string a7) (.string a0) (.bool a1) (.string a2) (.string a3) (.bool a4) (.string a5) (.bool a6) (.string a7) (.string g0) (.bool g1) (.string g2) (.string g3) (.bool g4) (.string g5) (.bool g6) (.string g7)
          go_wp2
          have kp : (wr.alloc (.cells #[.string a0, .bool a1, .string a2, .string a3, .bool a4, .string a5, .bool a6, .string a7, .string g0, .bool g1, .string g2, .string g3, .bool g4, .string g5, .bool g6, .string g7] 79)).heap[wr.heap.size]? = some (.cells #[.string a0, .bool a1, .string a2, .string a3, .bool a4, .string a5, .bool a6, .string a7, .string g0, .bool g1, .string g2, .string g3, .bool g4, .string g5, .bool g6, .string g7] 79) := heap_one _ _
          have lp : wr.heap.size < (wr.alloc (.cells #[.string a0, .bool a1, .string a2, .string a3, .bool a4, .string a5, .bool a6, .string a7, .string g0, .bool g1, .string g2, .string g3, .bool g4, .string g5, .bool g6, .string g7] 79)).heap.size := by simp
          have bo := hb.alloc hb.size (.cells #[.string a0, .bool a1, .string a2, .string a3, .bool a4, .string a5, .bool a6, .string a7, .string g0, .bool g1, .string g2, .string g3, .bool g4, .string g5, .bool g6, .string g7] 79)
          refine wp_region_quiet (C := InW (wr.alloc (.cells #[.string a0, .bool a1, .string a2, .string a3, .bool a4, .string a5, .bool a6, .string a7, .string g0, .bool g1, .string g2, .string g3, .bool g4, .string g5, .bool g6, .string g7] 79))) (by kernel_rfl) (by kernel_rfl) (InW.draw _) ?_
          refine quiet_do rfl (.pointer (some ⟨wr.heap.size, 0, none⟩)) (fun w' hw' => quietAt_ok (by go_simp)) ?_
          go_simp
          refine quiet_do rfl (agg8 a0 a1 a2 a3 a4 a5 a6 a7) (fun w' hw' => quietAt_ok (by have h := InW.blk hw' lp kp; obtain ⟨d0, d1, d2, d3, d4, d5, d6, d7, d8, d9, d10, d11, d12, d13, d14, d15⟩ := blk16_of h; go_simp)) ?_
          go_simp
          refine quiet_do rfl (.pointer (some ⟨wr.heap.size, 8, none⟩)) (fun w' hw' => quietAt_ok (by go_simp)) ?_
          go_simp
          refine quiet_do rfl (agg8 g0 g1 g2 g3 g4 g5 g6 g7) (fun w' hw' => quietAt_ok (by have h := InW.blk hw' lp kp; obtain ⟨d0, d1, d2, d3, d4, d5, d6, d7, d8, d9, d10, d11, d12, d13, d14, d15⟩ := blk16_of h; go_simp)) ?_
          go_simp
          refine quiet_do rfl (agg8 r0 r1 r2 r3 r4 r5 r6 r7) (fun w' hw' => quietAt_call (f := 49) (args := #[agg8 a0 a1 a2 a3 a4 a5 a6 a7, agg8 g0 g1 g2 g3 g4 g5 g6 g7]) (by go_simp) ((ares_any ⟨a0, a1, a2, a3, a4, a5, a6, a7⟩ ⟨g0, g1, g2, g3, g4, g5, g6, g7⟩ w' (Nat.le_trans HSa.out.pa (by omega)) (Nat.le_trans HSg.out.pa (by omega)) (HMx.out.below ((bW.trans (Below.mono bo bW.size)).trans (Below.mono hw' (Nat.le_trans bW.size bo.size))) hw0)).mono (by rintro e w2 ⟨rfl, hb⟩; rw [← HR.out]; exact ⟨rfl, InW.step hw' hb⟩))) ?_
          go_simp
          refine quiet_do rfl (.pointer (some ⟨wr.heap.size, 0, none⟩)) (fun w' hw' => quietAt_ok (by go_simp)) ?_
          go_simp
          refine quiet_do rfl (agg8 a0 a1 a2 a3 a4 a5 a6 a7) (fun w' hw' => quietAt_ok (by have h := InW.blk hw' lp kp; obtain ⟨d0, d1, d2, d3, d4, d5, d6, d7, d8, d9, d10, d11, d12, d13, d14, d15⟩ := blk16_of h; go_simp)) ?_
          go_simp
          refine quiet_do rfl (.pointer (some ⟨wr.heap.size, 8, none⟩)) (fun w' hw' => quietAt_ok (by go_simp)) ?_
          go_simp
          refine quiet_do rfl (agg8 g0 g1 g2 g3 g4 g5 g6 g7) (fun w' hw' => quietAt_ok (by have h := InW.blk hw' lp kp; obtain ⟨d0, d1, d2, d3, d4, d5, d6, d7, d8, d9, d10, d11, d12, d13, d14, d15⟩ := blk16_of h; go_simp)) ?_
          go_simp
          refine quiet_do rfl (agg8 r0 r1 r2 r3 r4 r5 r6 r7) (fun w' hw' => quietAt_call (f := 50) (args := #[agg8 a0 a1 a2 a3 a4 a5 a6 a7, agg8 g0 g1 g2 g3 g4 g5 g6 g7]) (by go_simp) ((rres_any ⟨a0, a1, a2, a3, a4, a5, a6, a7⟩ ⟨g0, g1, g2, g3, g4, g5, g6, g7⟩ w' (Nat.le_trans HSa.out.pa (by omega)) (Nat.le_trans HSg.out.pa (by omega)) (HMx.out.below ((bW.trans (Below.mono bo bW.size)).trans (Below.mono hw' (Nat.le_trans bW.size bo.size))) hw0)).mono (by rintro e w2 ⟨rfl, hb⟩; rw [← HR.out]; exact ⟨rfl, InW.step hw' hb⟩))) ?_
          go_simp
          refine quiet_do rfl (.bool false) (fun w' hw' => quietAt_ok (by go_simp)) ?_
          go_simp
          refine wpQuiet_nil ?_
          intro w9 hw9
          have b9 := bo.trans (Below.mono hw9 bo.size)
          clear hw9 heq bo kp lp
          go_wp2
          go_roundw
          case rel => exact ⟨3 + 1, by omega, by go_num, b9⟩
          case measure => simp [intOf]
      · have hk4 : k = 4 := by omega
        subst hk4
        have b9 := bW.trans (hb.mono bW.size)
        replace K6 := Box.mk (blk_on K6.out.1 hb)
        clear K7 K9 K13 hb
        obtain ⟨c0, c1, c2, c3, c4, c5, c6, c7, cf⟩ := blk_of K6.out.1
        go_wp2_with fail
        refine (rwrite_any ⟨a0, a1, a2, a3, a4, a5, a6, a7⟩ _ (small_up HSa.out (by omega))).mono ?_
        rintro e w10 ⟨rfl, hbb⟩
        have b10 := b9.trans (hbb.mono b9.size)
        replace K6 := Box.mk (blk_on K6.out.1 hbb)
        clear hbb c0 c1 c2 c3 c4 c5 c6 c7 cf
        obtain ⟨S, HS⟩ : ∃ S, Box (S = writeB ⟨a0, a1, a2, a3, a4, a5, a6, a7⟩) := ⟨_, ⟨rfl⟩⟩
        rw [← HS.out]
        have hSz : S.size ≤ 2505 := by rw [HS.out]; exact writeB_size _ 500 HSa.out
        have HSl : Box (S.data.toList = writeA (AV.ab ⟨a0, a1, a2, a3, a4, a5, a6, a7⟩)) := ⟨by rw [HS.out, writeB_list]⟩
        go_wp2_with fail
        refine (rread_is S _ (by omega)).mono ?_
        rintro e w11 ⟨rfl, _, hbb⟩
        have b11 := b10.trans (hbb.mono b10.size)
        replace K6 := Box.mk (blk_on K6.out.1 hbb)
        clear hbb
        obtain ⟨V, HV⟩ : ∃ V, Box (V = readV S.data.toList) := ⟨_, ⟨rfl⟩⟩
        obtain ⟨C, HC⟩ : ∃ C, Box (C = codeV S.data.toList) := ⟨_, ⟨rfl⟩⟩
        rw [← HV.out, ← HC.out]
        obtain ⟨v0, v1, v2, v3, v4, v5, v6, v7⟩ := V
        obtain ⟨q, HQ⟩ : ∃ q : Bool, Box (q = true ↔ readA (writeA (AV.ab ⟨a0, a1, a2, a3, a4, a5, a6, a7⟩)) = some (AV.ab ⟨a0, a1, a2, a3, a4, a5, a6, a7⟩)) := by
          open Classical in exact ⟨decide _, ⟨decide_eq_true_iff⟩⟩
        have bE := b11.alloc b11.size (obj8 v0 v1 v2 v3 v4 v5 v6 v7)
        go_upto_region 18 with fail
        go_cut [18] from 107 (fun v wx => v = .bool q ∧ wx = w11.alloc (obj8 v0 v1 v2 v3 v4 v5 v6 v7))
        case first =>
          have l6 := K6.out.2
          obtain ⟨c0, c1, c2, c3, c4, c5, c6, c7, cf⟩ := blk_of K6.out.1
          cases hr : readA S.data.toList with
          | none =>
            have hC : C = 3 := by rw [HC.out]; unfold codeV; rw [hr]
            have hqf : q = false := by
              cases q
              · rfl
              · have := HQ.out.1 rfl
                rw [← HSl.out, hr] at this
                cases this
            subst hC
            subst hqf
            clear hr HC HQ HV HSl
            go_wp2
            go_meet
            exact ⟨rfl, rfl⟩
          | some y =>
            have hC : C = 0 := by rw [HC.out]; unfold codeV; rw [hr]
            subst hC
            have heq := eq8_run ⟨v0, v1, v2, v3, v4, v5, v6, v7⟩ ⟨a0, a1, a2, a3, a4, a5, a6, a7⟩ q (by rw [HQ.out, right_iff, ← HSl.out, ← HV.out]; exact eq_comm)
            clear hr HC HQ HV HSl
            go_wp2
            go_meet
            exact ⟨rfl, rfl⟩
        case rest =>
          obtain ⟨rfl, hwc⟩ := hcut
          obtain rfl := hwc
          have k6 := blk_alloc K6.out.1 (obj8 v0 v1 v2 v3 v4 v5 v6 v7)
          have l6 : w.heap.size < (w11.alloc (obj8 v0 v1 v2 v3 v4 v5 v6 v7)).heap.size := (Array.getElem?_eq_some_iff.1 k6).1
          obtain ⟨U, HU⟩ : ∃ U, Box (U = wholeV ⟨a0, a1, a2, a3, a4, a5, a6, a7⟩) := ⟨_, ⟨rfl⟩⟩
          obtain ⟨u0, u1, u2, u3, u4, u5, u6, u7⟩ := U
          obtain ⟨D, HDb⟩ : ∃ D, Box (D = dotsB s) := ⟨_, ⟨rfl⟩⟩
          have HD : Box (dotsS s.data.toList = D.data.toList) := ⟨by rw [HDb.out]; exact dotsB_list s⟩
          have heq := eq8_run ⟨u0, u1, u2, u3, u4, u5, u6, u7⟩ ⟨u0, u1, u2, u3, u4, u5, u6, u7⟩ true (by simp)
          clear K6 HV HC HSl
          go_wp2
          refine wp_region_quiet (C := InW (w11.alloc (obj8 v0 v1 v2 v3 v4 v5 v6 v7))) (by kernel_rfl) (by kernel_rfl) (InW.draw _) ?_
          refine quiet_do rfl (agg8 a0 a1 a2 a3 a4 a5 a6 a7) (fun w' hw' => quietAt_ok (by obtain ⟨c0, c1, c2, c3, c4, c5, c6, c7, cf⟩ := blk_of (InW.blk hw' l6 k6); go_simp)) ?_
          go_simp
          refine quiet_do rfl (.string S) (fun w' hw' => quietAt_call (f := 52) (args := #[agg8 a0 a1 a2 a3 a4 a5 a6 a7]) (by go_simp) ((awrite_any ⟨a0, a1, a2, a3, a4, a5, a6, a7⟩ w' (small_up HSa.out (by omega))).mono (by rintro e w2 ⟨rfl, hb⟩; rw [← HS.out]; exact ⟨rfl, InW.step hw' hb⟩))) ?_
          go_simp
          refine quiet_do rfl (agg8 a0 a1 a2 a3 a4 a5 a6 a7) (fun w' hw' => quietAt_ok (by obtain ⟨c0, c1, c2, c3, c4, c5, c6, c7, cf⟩ := blk_of (InW.blk hw' l6 k6); go_simp)) ?_
          go_simp
          refine quiet_do rfl (.string S) (fun w' hw' => quietAt_call (f := 51) (args := #[agg8 a0 a1 a2 a3 a4 a5 a6 a7]) (by go_simp) ((rwrite_any ⟨a0, a1, a2, a3, a4, a5, a6, a7⟩ w' (small_up HSa.out (by omega))).mono (by rintro e w2 ⟨rfl, hb⟩; rw [← HS.out]; exact ⟨rfl, InW.step hw' hb⟩))) ?_
          go_simp
          refine quiet_do rfl (.bool true) (fun w' hw' => quietAt_ok (by go_simp)) ?_
          go_simp
          refine quiet_do rfl (.bool true) (fun w' hw' => quietAt_ok (by go_simp)) ?_
          go_simp
          refine quiet_do rfl (agg8 a0 a1 a2 a3 a4 a5 a6 a7) (fun w' hw' => quietAt_ok (by obtain ⟨c0, c1, c2, c3, c4, c5, c6, c7, cf⟩ := blk_of (InW.blk hw' l6 k6); go_simp)) ?_
          go_simp
          refine quiet_do rfl (agg8 u0 u1 u2 u3 u4 u5 u6 u7) (fun w' hw' => quietAt_call (f := 53) (args := #[agg8 a0 a1 a2 a3 a4 a5 a6 a7]) (by go_simp) ((awhole_any ⟨a0, a1, a2, a3, a4, a5, a6, a7⟩ w' (small_up HSa.out (by omega))).mono (by rintro e w2 ⟨rfl, hb⟩; rw [← HU.out]; exact ⟨rfl, InW.step hw' hb⟩))) ?_
          go_simp
          refine quiet_do rfl (agg8 a0 a1 a2 a3 a4 a5 a6 a7) (fun w' hw' => quietAt_ok (by obtain ⟨c0, c1, c2, c3, c4, c5, c6, c7, cf⟩ := blk_of (InW.blk hw' l6 k6); go_simp)) ?_
          go_simp
          refine quiet_do rfl (agg8 u0 u1 u2 u3 u4 u5 u6 u7) (fun w' hw' => quietAt_call (f := 54) (args := #[agg8 a0 a1 a2 a3 a4 a5 a6 a7]) (by go_simp) ((rwhole_any ⟨a0, a1, a2, a3, a4, a5, a6, a7⟩ w' (small_up HSa.out (by omega))).mono (by rintro e w2 ⟨rfl, hb⟩; rw [← HU.out]; exact ⟨rfl, InW.step hw' hb⟩))) ?_
          go_simp
          refine quiet_do rfl (.bool true) (fun w' hw' => quietAt_ok (by go_simp)) ?_
          go_simp
          refine quiet_do rfl (.bool true) (fun w' hw' => quietAt_ok (by go_simp)) ?_
          go_simp
          refine quiet_do rfl (.bool true) (fun w' hw' => quietAt_ok (by go_simp)) ?_
          go_simp
          refine quiet_do rfl (.string s) (fun w' hw' => quietAt_ok (by go_simp)) ?_
          go_simp
          refine quiet_do rfl (.string D) (fun w' hw' => quietAt_call (f := 55) (args := #[.string s]) (by go_simp) ((adots_is s D w' (by omega) (HMx.out.below (bE.trans (Below.mono hw' bE.size)) hw0) HD.out).mono (by rintro e w2 ⟨rfl, hb⟩; exact ⟨rfl, InW.step hw' hb⟩))) ?_
          go_simp
          refine quiet_do rfl (.string s) (fun w' hw' => quietAt_ok (by go_simp)) ?_
          go_simp
          refine quiet_do rfl (.string D) (fun w' hw' => quietAt_call (f := 56) (args := #[.string s]) (by go_simp) ((rdots_is s w' (by omega) (HMx.out.below (bE.trans (Below.mono hw' bE.size)) hw0)).mono (by rintro e w2 ⟨rfl, hb⟩; rw [← HDb.out]; exact ⟨rfl, InW.step hw' hb⟩))) ?_
          go_simp
          refine quiet_do rfl (.bool true) (fun w' hw' => quietAt_ok (by go_simp)) ?_
          go_simp
          refine quiet_do rfl (.bool true) (fun w' hw' => quietAt_ok (by go_simp)) ?_
          go_simp
          refine quiet_do rfl (.bool true) (fun w' hw' => quietAt_ok (by go_simp)) ?_
          go_simp
          refine quiet_do rfl (agg8 a0 a1 a2 a3 a4 a5 a6 a7) (fun w' hw' => quietAt_ok (by obtain ⟨c0, c1, c2, c3, c4, c5, c6, c7, cf⟩ := blk_of (InW.blk hw' l6 k6); go_simp)) ?_
          go_simp
          refine quiet_do rfl (.bool q) (fun w' hw' => quietAt_call (f := 57) (args := #[agg8 a0 a1 a2 a3 a4 a5 a6 a7]) (by go_simp) ((aright_any ⟨a0, a1, a2, a3, a4, a5, a6, a7⟩ w' (small_up HSa.out (by omega)) (HMx.out.below (bE.trans (Below.mono hw' bE.size)) hw0) q HQ.out).mono (by rintro e w2 ⟨rfl, hb⟩; exact ⟨rfl, InW.step hw' hb⟩))) ?_
          go_simp
          refine quiet_do rfl (.bool q) (fun w' hw' => quietAt_ok (by go_simp)) ?_
          go_simp
          refine quiet_do rfl (.bool true) (fun w' hw' => quietAt_ok (by go_simp)) ?_
          go_simp
          refine quiet_do rfl (.bool true) (fun w' hw' => quietAt_ok (by go_simp)) ?_
          go_simp
          refine quiet_do rfl (.bool true) (fun w' hw' => quietAt_ok (by go_simp)) ?_
          go_simp
          refine wpQuiet_nil ?_
          intro w12 hw12
          have b12 := bE.trans (Below.mono hw12 bE.size)
          clear hw12 heq
          go_wp2
          go_ret
          exact ⟨rfl, b12⟩

end Go.Proofs.YtpdfghmfhljfiaaDoor
