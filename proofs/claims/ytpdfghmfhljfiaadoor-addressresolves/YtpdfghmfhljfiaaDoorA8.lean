import Derived.Test.YtpdfghmfhljfiaaDoorA7
namespace Go.Proofs.YtpdfghmfhljfiaaDoor
open Go.RowKit

theorem heap_four (w : World) (A B Z Y : Obj) : ((((w.alloc A).alloc B).alloc Z).alloc Y).heap[w.heap.size + 2]? = some Z ∧ ((((w.alloc A).alloc B).alloc Z).alloc Y).heap[w.heap.size + 3]? = some Y := by
  refine ⟨?_, ?_⟩
  · show (((((w.heap.push A).push B).push Z).push Y))[w.heap.size + 2]? = _
    rw [Array.getElem?_push, if_neg (by simp), Array.getElem?_push, if_pos (by simp)]
  · show (((((w.heap.push A).push B).push Z).push Y))[w.heap.size + 3]? = _
    rw [Array.getElem?_push, if_pos (by simp)]
theorem size_four (w : World) (A B Z Y : Obj) : ((((w.alloc A).alloc B).alloc Z).alloc Y).heap.size = w.heap.size + 4 := by simp
theorem below_four (w : World) (A B Z Y : Obj) : Below w.heap.size w ((((w.alloc A).alloc B).alloc Z).alloc Y) := (below_three w A B Z).alloc (by rw [size_three]; omega) _

set_option maxHeartbeats 1000000 in
set_option maxRecDepth 100000 in
theorem rres_scheme (sc0 au0 pa0 qu0 fr0 sc au pa qu fr : ByteArray) (hA0 hQ0 hF0 hA hQ hF : Bool) (w : World) (s2 : pa.size ≤ 1000000) (hm : Max w) (h0 : ¬ sc.size = 0) :
    Calls Tryd.prog 50 #[agg8 sc0 hA0 au0 pa0 hQ0 qu0 hF0 fr0, agg8 sc hA au pa hQ qu hF fr] w fun e w' => (∃ S : ByteArray, e = .returned (agg8 sc hA au S hQ qu hF fr) ∧ S.data.toList = dotsS pa.data.toList) ∧ Below w.heap.size w w' := by
  have he := nonempty_of sc h0
  have hw0 := hm.1
  have HMx := Box.mk hm
  clear h0 hm
  go_enter Tryd.func50, Tryd.ntmps50
  go_wp2_with fail
  refine (rdots_any pa _ (by omega) (HMx.out.below (below_three w _ _ _) hw0)).mono ?_
  rintro e w1 ⟨S, rfl, hS, hb1⟩
  have hsz1 := hb1.size
  obtain ⟨x0, x1, x2, x3, x4, x5, x6, x7, xf⟩ := blk_of ((hb1.block (w.heap.size + 1) (by simp)).trans (heap_three w _ _ _).2.1)
  obtain ⟨y0, y1, y2, y3, y4, y5, y6, y7, yf⟩ := blk_of ((hb1.block (w.heap.size + 2) (by simp)).trans (heap_three w _ _ _).2.2)
  have b1 := (below_three w (obj8 sc0 hA0 au0 pa0 hQ0 qu0 hF0 fr0) (obj8 sc hA au pa hQ qu hF fr) avObj).trans (hb1.mono (by show _ ≤ (((w.alloc _).alloc _).alloc _).heap.size; rw [size_three]; omega))
  clear hb1
  go_wp2
  refine bodyPost_ret (v := agg8 sc hA au S hQ qu hF fr) (by simp [results, Tryd.results50, go_sem, y0, y1, y2, y3, y4, y5, y6, y7]) rfl ⟨⟨S, rfl, hS⟩, ?_⟩
  iterate 9 (refine Below.setCell ?_ (by simp <;> omega) _)
  exact b1

set_option maxHeartbeats 1000000 in
set_option maxRecDepth 100000 in
theorem rres_auth (sc0 au0 pa0 qu0 fr0 sc au pa qu fr : ByteArray) (hA0 hQ0 hF0 hQ hF : Bool) (w : World) (s2 : pa.size ≤ 1000000) (hm : Max w) (h0 : sc.size = 0) :
    Calls Tryd.prog 50 #[agg8 sc0 hA0 au0 pa0 hQ0 qu0 hF0 fr0, agg8 sc true au pa hQ qu hF fr] w fun e w' => (∃ S : ByteArray, e = .returned (agg8 sc0 true au S hQ qu hF fr) ∧ S.data.toList = dotsS pa.data.toList) ∧ Below w.heap.size w w' := by
  have he := empty_of sc h0
  have hw0 := hm.1
  have HMx := Box.mk hm
  clear h0 hm
  go_enter Tryd.func50, Tryd.ntmps50
  go_wp2_with fail
  refine (rdots_any pa _ (by omega) (HMx.out.below (below_three w _ _ _) hw0)).mono ?_
  rintro e w1 ⟨S, rfl, hS, hb1⟩
  have hsz1 := hb1.size
  obtain ⟨x0, x1, x2, x3, x4, x5, x6, x7, xf⟩ := blk_of ((hb1.block (w.heap.size + 1) (by simp)).trans (heap_three w _ _ _).2.1)
  obtain ⟨y0, y1, y2, y3, y4, y5, y6, y7, yf⟩ := blk_of ((hb1.block (w.heap.size + 2) (by simp)).trans (heap_three w _ _ _).2.2)
  have b1 := (below_three w (obj8 sc0 hA0 au0 pa0 hQ0 qu0 hF0 fr0) (obj8 sc0 true au pa hQ qu hF fr) avObj).trans (hb1.mono (by show _ ≤ (((w.alloc _).alloc _).alloc _).heap.size; rw [size_three]; omega))
  clear hb1
  go_wp2
  refine bodyPost_ret (v := agg8 sc0 true au S hQ qu hF fr) (by simp [results, Tryd.results50, go_sem, y0, y1, y2, y3, y4, y5, y6, y7]) rfl ⟨⟨S, rfl, hS⟩, ?_⟩
  iterate 9 (refine Below.setCell ?_ (by simp <;> omega) _)
  exact b1

set_option maxHeartbeats 1000000 in
set_option maxRecDepth 100000 in
theorem rres_query (sc0 au0 pa0 qu0 fr0 sc au pa qu fr : ByteArray) (hA0 hQ0 hF0 hF : Bool) (w : World) (h0 : sc.size = 0) (h1 : pa.size = 0) :
    Calls Tryd.prog 50 #[agg8 sc0 hA0 au0 pa0 hQ0 qu0 hF0 fr0, agg8 sc false au pa true qu hF fr] w fun e w' => e = .returned (agg8 sc0 hA0 au0 pa0 true qu hF fr) ∧ Below w.heap.size w w' := by
  have he := empty_of sc h0
  have hp := empty_of pa h1
  clear h0 h1
  go_enter Tryd.func50, Tryd.ntmps50
  go_wp2
  go_region
  go_wp2
  go_region
  go_wp2
  exact bodyPost_ret (v := agg8 sc0 hA0 au0 pa0 true qu hF fr) (by simp [results, Tryd.results50, go_sem]) rfl ⟨rfl, (below_four w _ _ _ _).drew.drew⟩

set_option maxHeartbeats 1000000 in
set_option maxRecDepth 100000 in
theorem rres_same (sc0 au0 pa0 qu0 fr0 sc au pa qu fr : ByteArray) (hA0 hQ0 hF0 hF : Bool) (w : World) (h0 : sc.size = 0) (h1 : pa.size = 0) :
    Calls Tryd.prog 50 #[agg8 sc0 hA0 au0 pa0 hQ0 qu0 hF0 fr0, agg8 sc false au pa false qu hF fr] w fun e w' => e = .returned (agg8 sc0 hA0 au0 pa0 hQ0 qu0 hF fr) ∧ Below w.heap.size w w' := by
  have he := empty_of sc h0
  have hp := empty_of pa h1
  clear h0 h1
  go_enter Tryd.func50, Tryd.ntmps50
  go_wp2
  go_region
  go_wp2
  exact bodyPost_ret (v := agg8 sc0 hA0 au0 pa0 hQ0 qu0 hF fr) (by simp [results, Tryd.results50, go_sem]) rfl ⟨rfl, (below_four w _ _ _ _).drew⟩

set_option maxHeartbeats 1000000 in
set_option maxRecDepth 100000 in
theorem rres_slash (sc0 au0 pa0 qu0 fr0 sc au pa qu fr : ByteArray) (hA0 hQ0 hF0 hQ hF : Bool) (w : World) (s2 : pa.size ≤ 400000) (hm : Max w) (h0 : sc.size = 0) (h1 : 0 < pa.size) (h2 : pa[0] = 47) :
    Calls Tryd.prog 50 #[agg8 sc0 hA0 au0 pa0 hQ0 qu0 hF0 fr0, agg8 sc false au pa hQ qu hF fr] w fun e w' => (∃ S : ByteArray, e = .returned (agg8 sc0 hA0 au0 S hQ qu hF fr) ∧ S.data.toList = dotsS (besideA (AV.ab ⟨sc0, hA0, au0, pa0, hQ0, qu0, hF0, fr0⟩) pa.data.toList)) ∧ Below w.heap.size w w' := by
  have he := empty_of sc h0
  have hp := nonempty_of pa (by omega)
  have hw0 := hm.1
  have HMx := Box.mk hm
  have HB : Box (besideA (AV.ab ⟨sc0, hA0, au0, pa0, hQ0, qu0, hF0, fr0⟩) pa.data.toList = pa.data.toList) := ⟨by unfold besideA; rw [if_pos (by rw [head_split pa h1, h2]; rfl)]⟩
  have q1 : ((pa[0].toNat : Int) != 47) = false := by rw [h2]; rfl
  clear h0 hm h2
  go_enter Tryd.func50, Tryd.ntmps50
  go_wp2
  go_region
  go_wp2
  go_region
  go_wp2_with fail
  refine (rdots_any pa _ (by omega) (HMx.out.below (below_four w _ _ _ _).drew.drew hw0)).mono ?_
  rintro e w2 ⟨S, rfl, hS, hb2⟩
  have hsz2 := hb2.size
  obtain ⟨x0, x1, x2, x3, x4, x5, x6, x7, xf⟩ := blk_of ((hb2.block (w.heap.size + 3) (by simp)).trans (heap_four w _ _ _ _).2)
  obtain ⟨y0, y1, y2, y3, y4, y5, y6, y7, yf⟩ := blk_of ((hb2.block (w.heap.size + 2) (by simp)).trans (heap_four w _ _ _ _).1)
  have b1 := (below_four w (obj8 sc0 hA0 au0 pa0 hQ0 qu0 hF0 fr0) (obj8 sc false au pa hQ qu hF fr) avObj (obj8 sc0 hA0 au0 pa0 hQ qu hF fr)).drew.drew.trans (hb2.mono (by show _ ≤ ((((w.alloc _).alloc _).alloc _).alloc _).heap.size; rw [size_four]; omega))
  clear hb2
  go_wp2
  refine bodyPost_ret (v := agg8 sc0 hA0 au0 S hQ qu hF fr) (by simp [results, Tryd.results50, go_sem, y0, y1, y2, y3, y4, y5, y6, y7]) rfl ⟨⟨S, rfl, by rw [hS, HB.out]⟩, ?_⟩
  iterate 9 (refine Below.setCell ?_ (by simp <;> omega) _)
  exact b1

set_option maxHeartbeats 1000000 in
set_option maxRecDepth 100000 in
theorem rres_beside (sc0 au0 pa0 qu0 fr0 sc au pa qu fr : ByteArray) (hA0 hQ0 hF0 hQ hF : Bool) (w : World) (s1 : pa0.size ≤ 400000) (s2 : pa.size ≤ 400000) (hm : Max w) (h0 : sc.size = 0) (h1 : 0 < pa.size) (h2 : ¬ pa[0] = 47) :
    Calls Tryd.prog 50 #[agg8 sc0 hA0 au0 pa0 hQ0 qu0 hF0 fr0, agg8 sc false au pa hQ qu hF fr] w fun e w' => (∃ S : ByteArray, e = .returned (agg8 sc0 hA0 au0 S hQ qu hF fr) ∧ S.data.toList = dotsS (besideA (AV.ab ⟨sc0, hA0, au0, pa0, hQ0, qu0, hF0, fr0⟩) pa.data.toList)) ∧ Below w.heap.size w w' := by
  have he := empty_of sc h0
  have hp := nonempty_of pa (by omega)
  have hw0 := hm.1
  have HMx := Box.mk hm
  have HB : Box (besideA (AV.ab ⟨sc0, hA0, au0, pa0, hQ0, qu0, hF0, fr0⟩) pa.data.toList = dirA (AV.ab ⟨sc0, hA0, au0, pa0, hQ0, qu0, hF0, fr0⟩) ++ pa.data.toList) := ⟨by unfold besideA; rw [if_neg (by rw [head_split pa h1]; exact fun e => h2 (Option.some.inj e))]⟩
  have q1 : ((pa[0].toNat : Int) != 47) = true := by rw [bne, bneI (fun e => h2 (UInt8.toNat_inj.1 (by show pa[0].toNat = 47; omega)))]; rfl
  clear h0 hm h2
  go_enter Tryd.func50, Tryd.ntmps50
  go_wp2
  go_region
  go_wp2
  go_region
  go_wp2
  go_loop [7, 59] (fun d i => ∃ (k : Nat) (D : ByteArray), k ≤ pa0.size ∧ i = .int .i64 k ∧ d = .string D ∧ D.size ≤ pa0.size ∧ Box (D.data.toList = dirS (pa0.data.toList.take k))) (fun _ i => pa0.size - (intOf i).toNat)
  case atStart => exact ⟨0, ⟨#[]⟩, Nat.zero_le _, rfl, rfl, Nat.zero_le _, ⟨rfl⟩⟩
  case round =>
    obtain ⟨k, D, hk, rfl, rfl, hDs, HD⟩ := hrel
    by_cases hlt : k < pa0.size
    · have HT := Box.mk (dirS_take pa0 k hlt)
      by_cases h47 : pa0[k] = 47
      · have q2 : ((pa0[k].toNat : Int) == 47) = true := by rw [h47]; rfl
        have HD' : Box ((pa0.extract 0 (k + 1)).data.toList = dirS (pa0.data.toList.take (k + 1))) := ⟨by rw [HT.out, if_pos h47, extract_list]; simp⟩
        clear HD HT h47
        go_wp2
        go_round
        case rel => exact ⟨k + 1, pa0.extract 0 (k + 1), by omega, by go_num, rfl, by simp; omega, HD'⟩
        case measure => simp [intOf]; omega
      · have q2 : ((pa0[k].toNat : Int) == 47) = false := bneI (fun e => h47 (UInt8.toNat_inj.1 (by show pa0[k].toNat = 47; omega)))
        have HD' : Box (D.data.toList = dirS (pa0.data.toList.take (k + 1))) := ⟨by rw [HT.out, if_neg h47, HD.out]⟩
        clear HD HT h47
        go_wp2
        go_round
        case rel => exact ⟨k + 1, D, by omega, by go_num, rfl, hDs, HD'⟩
        case measure => simp [intOf]; omega
    · have HE : Box (D.data.toList = dirS pa0.data.toList) := ⟨by rw [HD.out, take_all pa0 k hlt]⟩
      clear HD
      by_cases h2 : hA0 = true ∧ pa0.size = 0
      · obtain ⟨rfl, h3⟩ := h2
        have hz := empty_of pa0 h3
        have HDA : Box (dirA (AV.ab ⟨sc0, true, au0, pa0, hQ0, qu0, hF0, fr0⟩) = [47]) := ⟨by unfold dirA; rw [if_pos ⟨rfl, data_nil pa0 h3⟩]⟩
        have hsum : ¬ 9223372036854775807 < 1 + pa.size := by omega
        clear h3 HE
        go_wp2_with fail
        refine (rdots_any _ _ (by rw [ByteArray.size_append]; show 1 + pa.size ≤ _; omega) (HMx.out.below (below_four w _ _ _ _).drew.drew hw0)).mono ?_
        rintro e w2 ⟨S, rfl, hS, hb2⟩
        have hsz2 := hb2.size
        obtain ⟨x0, x1, x2, x3, x4, x5, x6, x7, xf⟩ := blk_of ((hb2.block (w.heap.size + 3) (by simp)).trans (heap_four w _ _ _ _).2)
        obtain ⟨y0, y1, y2, y3, y4, y5, y6, y7, yf⟩ := blk_of ((hb2.block (w.heap.size + 2) (by simp)).trans (heap_four w _ _ _ _).1)
        have b1 := (below_four w (obj8 sc0 true au0 pa0 hQ0 qu0 hF0 fr0) (obj8 sc false au pa hQ qu hF fr) avObj (obj8 sc0 true au0 pa0 hQ qu hF fr)).drew.drew.trans (hb2.mono (by show _ ≤ ((((w.alloc _).alloc _).alloc _).alloc _).heap.size; rw [size_four]; omega))
        clear hb2
        go_wp2
        refine bodyPost_ret (v := agg8 sc0 true au0 S hQ qu hF fr) (by simp [results, Tryd.results50, go_sem, y0, y1, y2, y3, y4, y5, y6, y7]) rfl ⟨⟨S, rfl, by rw [hS, HB.out, HDA.out]; simp⟩, ?_⟩
        iterate 9 (refine Below.setCell ?_ (by simp <;> omega) _)
        exact b1
      · have HDA : Box (dirA (AV.ab ⟨sc0, hA0, au0, pa0, hQ0, qu0, hF0, fr0⟩) = D.data.toList) := ⟨by unfold dirA; rw [if_neg (fun h => h2 ⟨h.1, by rw [← size_list]; exact congrArg List.length h.2⟩), HE.out]; rfl⟩
        have hcs : hA0 = false ∨ (hA0 = true ∧ pa0.toList.isEmpty = false) := by
          cases hA0
          · exact .inl rfl
          · exact .inr ⟨rfl, nonempty_of pa0 (fun h => h2 ⟨rfl, h⟩)⟩
        clear h2 HE
        have hsum : ¬ 9223372036854775807 < D.size + pa.size := by omega
        rcases hcs with rfl | ⟨rfl, hz⟩
        · go_wp2_with fail
          refine (rdots_any _ _ (by rw [ByteArray.size_append]; omega) (HMx.out.below (below_four w _ _ _ _).drew.drew hw0)).mono ?_
          rintro e w2 ⟨S, rfl, hS, hb2⟩
          have hsz2 := hb2.size
          obtain ⟨x0, x1, x2, x3, x4, x5, x6, x7, xf⟩ := blk_of ((hb2.block (w.heap.size + 3) (by simp)).trans (heap_four w _ _ _ _).2)
          obtain ⟨y0, y1, y2, y3, y4, y5, y6, y7, yf⟩ := blk_of ((hb2.block (w.heap.size + 2) (by simp)).trans (heap_four w _ _ _ _).1)
          have b1 := (below_four w (obj8 sc0 false au0 pa0 hQ0 qu0 hF0 fr0) (obj8 sc false au pa hQ qu hF fr) avObj (obj8 sc0 false au0 pa0 hQ qu hF fr)).drew.drew.trans (hb2.mono (by show _ ≤ ((((w.alloc _).alloc _).alloc _).alloc _).heap.size; rw [size_four]; omega))
          clear hb2
          go_wp2
          refine bodyPost_ret (v := agg8 sc0 false au0 S hQ qu hF fr) (by simp [results, Tryd.results50, go_sem, y0, y1, y2, y3, y4, y5, y6, y7]) rfl ⟨⟨S, rfl, by rw [hS, HB.out, HDA.out]; simp⟩, ?_⟩
          iterate 9 (refine Below.setCell ?_ (by simp <;> omega) _)
          exact b1
        · go_wp2_with fail
          refine (rdots_any _ _ (by rw [ByteArray.size_append]; omega) (HMx.out.below (below_four w _ _ _ _).drew.drew hw0)).mono ?_
          rintro e w2 ⟨S, rfl, hS, hb2⟩
          have hsz2 := hb2.size
          obtain ⟨x0, x1, x2, x3, x4, x5, x6, x7, xf⟩ := blk_of ((hb2.block (w.heap.size + 3) (by simp)).trans (heap_four w _ _ _ _).2)
          obtain ⟨y0, y1, y2, y3, y4, y5, y6, y7, yf⟩ := blk_of ((hb2.block (w.heap.size + 2) (by simp)).trans (heap_four w _ _ _ _).1)
          have b1 := (below_four w (obj8 sc0 true au0 pa0 hQ0 qu0 hF0 fr0) (obj8 sc false au pa hQ qu hF fr) avObj (obj8 sc0 true au0 pa0 hQ qu hF fr)).drew.drew.trans (hb2.mono (by show _ ≤ ((((w.alloc _).alloc _).alloc _).alloc _).heap.size; rw [size_four]; omega))
          clear hb2
          go_wp2
          refine bodyPost_ret (v := agg8 sc0 true au0 S hQ qu hF fr) (by simp [results, Tryd.results50, go_sem, y0, y1, y2, y3, y4, y5, y6, y7]) rfl ⟨⟨S, rfl, by rw [hS, HB.out, HDA.out]; simp⟩, ?_⟩
          iterate 9 (refine Below.setCell ?_ (by simp <;> omega) _)
          exact b1

end Go.Proofs.YtpdfghmfhljfiaaDoor
