import Derived.Test.YtpdfghmfhljfiaaDoorAQ
import Derived.Test.YtpdfghmfhljfiaaDoorA7
namespace Go.Proofs.YtpdfghmfhljfiaaDoor
open Go.RowKit

def smallB (s : ByteArray) : ByteArray := ⟨(smallS s.data.toList).toArray⟩
theorem smallB_list (s : ByteArray) : (smallB s).data.toList = smallS s.data.toList := by simp [smallB]
theorem small_is (s : ByteArray) (w : World) (hl : s.size ≤ 1000000) : Calls Tryd.prog 83 #[.string s] w fun e w' => e = .returned (.string (smallB s)) ∧ Below w.heap.size w w' := by
  refine (small_str s w hl).mono ?_
  rintro e w' ⟨t, rfl, ht, hb⟩
  exact ⟨ret_str (bytes_eq (ht.trans (smallB_list s).symm)), hb⟩
theorem low_is (s : ByteArray) (w : World) (hl : s.size ≤ 1000000) : Calls Tryd.prog 82 #[.string s] w fun e w' => e = .returned (.string (smallB s)) ∧ Below w.heap.size w w' := by
  refine (low_any s w hl).mono ?_
  rintro e w' ⟨t, rfl, ht, hb⟩
  exact ⟨ret_str (bytes_eq (ht.trans (smallB_list s).symm)), hb⟩

theorem heap_two (w : World) (A B : Obj) : ((w.alloc A).alloc B).heap[w.heap.size]? = some A ∧ ((w.alloc A).alloc B).heap[w.heap.size + 1]? = some B := by
  refine ⟨?_, ?_⟩
  · show (((w.heap.push A).push B))[w.heap.size]? = _
    rw [Array.getElem?_push, if_neg (by simp), Array.getElem?_push, if_pos rfl]
  · show (((w.heap.push A).push B))[w.heap.size + 1]? = _
    rw [Array.getElem?_push, if_pos (by simp)]
theorem below_two (w : World) (A B : Obj) : Below w.heap.size w ((w.alloc A).alloc B) := ((Below.refl w.heap.size w).alloc (Nat.le_refl _) _).alloc (by simp) _

/-- The worlds that hold what W holds. -/
def InW (W w' : World) : Prop := Below W.heap.size W w'
theorem InW.step {W w1 w2 : World} (h : InW W w1) (hb : Below w1.heap.size w1 w2) : InW W w2 := Below.trans h (hb.mono (Below.size h))
theorem InW.draw (W : World) : InW W { W with drawn := W.drawn + 1 } := (Below.refl W.heap.size W).drew
theorem InW.blk {W w' : World} (h : InW W w') {b : Nat} {o : Obj} (hb : b < W.heap.size) (ho : W.heap[b]? = some o) : w'.heap[b]? = some o := (Below.block h b hb).trans ho

set_option maxHeartbeats 1000000 in
set_option maxRecDepth 100000 in
theorem awhole_raw (sc au pa qu fr : ByteArray) (hA hQ hF : Bool) (w : World) (s0 : sc.size ≤ 1000000) (s1 : au.size ≤ 1000000) :
    Calls Tryd.prog 53 #[agg8 sc hA au pa hQ qu hF fr] w fun e w' => e = .returned (agg8 (smallB sc) hA (smallB au) pa hQ qu false ⟨#[]⟩) ∧ Below w.heap.size w w' := by
  go_enter Tryd.func53, Tryd.ntmps53
  go_wp2
  refine wp_region_pre (C := InW ((w.alloc (obj8 sc hA au pa hQ qu hF fr)).alloc avObj)) 7 3 #[true, true, true, true, true, true, true, false, false, false] (by kernel_rfl) (by kernel_rfl) (by kernel_rfl) rfl rfl (by kernel_rfl) (by kernel_rfl) (InW.draw _) ?_
  have HB : ∀ w', InW ((w.alloc (obj8 sc hA au pa hQ qu hF fr)).alloc avObj) w' → Blk w' w.heap.size (.string sc) (.bool hA) (.string au) (.string pa) (.bool hQ) (.string qu) (.bool hF) (.string fr) := fun w' hw' => blk_of (hw'.blk (by simp; omega) (heap_two w _ _).1)
  refine quiet_do rfl (.pointer (some ⟨w.heap.size, 0, none⟩)) (fun w' hw' => quietAt_ok (by go_simp)) ?_
  go_simp
  refine quiet_do rfl (.string sc) (fun w' hw' => quietAt_ok (by have := (HB w' hw').c0; go_simp)) ?_
  go_simp
  refine quiet_do rfl (.string (smallB sc)) (fun w' hw' => quietAt_call (f := 83) (args := #[.string sc]) (by go_simp) ((small_is sc w' s0).mono (by rintro e w2 ⟨rfl, hb⟩; exact ⟨rfl, hw'.step hb⟩))) ?_
  go_simp
  refine quiet_do rfl (.pointer (some ⟨w.heap.size, 2, none⟩)) (fun w' hw' => quietAt_ok (by go_simp)) ?_
  go_simp
  refine quiet_do rfl (.string au) (fun w' hw' => quietAt_ok (by have := (HB w' hw').c2; go_simp)) ?_
  go_simp
  refine quiet_do rfl (.string (smallB au)) (fun w' hw' => quietAt_call (f := 83) (args := #[.string au]) (by go_simp) ((small_is au w' s1).mono (by rintro e w2 ⟨rfl, hb⟩; exact ⟨rfl, hw'.step hb⟩))) ?_
  go_simp
  refine quiet_do rfl (.pointer (some ⟨w.heap.size, 0, none⟩)) (fun w' hw' => quietAt_ok (by go_simp)) ?_
  go_simp
  refine wpQuiet_nil ?_
  intro w1 hw1
  obtain ⟨x0, x1, x2, x3, x4, x5, x6, x7, xf⟩ := HB w1 hw1
  obtain ⟨y0, y1, y2, y3, y4, y5, y6, y7, yf⟩ := blk_of (hw1.blk (by simp) (heap_two w _ _).2)
  have b1 := (below_two w (obj8 sc hA au pa hQ qu hF fr) avObj).trans (Below.mono hw1 (by simp; omega))
  clear hw1 HB
  refine wpAny_next 7 _ (by kernel_rfl) rfl rfl ?_
  unfold Oper.wp
  go_simp
  refine wpAny_next 8 _ (by kernel_rfl) rfl rfl ?_
  unfold Oper.wp
  go_simp
  refine wpAny_next 9 _ (by kernel_rfl) rfl rfl ?_
  unfold Oper.wp
  go_simp
  refine wpAny_done (by kernel_rfl) ?_ 0
  go_wp2
  refine bodyPost_ret (v := agg8 (smallB sc) hA (smallB au) pa hQ qu false ⟨#[]⟩) (by simp [results, Tryd.results53, go_sem, y0, y1, y2, y3, y4, y5, y6, y7]) rfl ⟨rfl, ?_⟩
  iterate 12 (refine Below.setCell ?_ (by simp <;> omega) _)
  exact b1

set_option maxHeartbeats 1000000 in
set_option maxRecDepth 100000 in
theorem rwhole_raw (sc au pa qu fr : ByteArray) (hA hQ hF : Bool) (w : World) (s0 : sc.size ≤ 1000000) (s1 : au.size ≤ 1000000) :
    Calls Tryd.prog 54 #[agg8 sc hA au pa hQ qu hF fr] w fun e w' => e = .returned (agg8 (smallB sc) hA (smallB au) pa hQ qu false ⟨#[]⟩) ∧ Below w.heap.size w w' := by
  go_enter Tryd.func54, Tryd.ntmps54
  go_wp2
  refine wp_region_pre (C := InW ((w.alloc (obj8 sc hA au pa hQ qu hF fr)).alloc avObj)) 15 1 #[true, true, true, true, true, true, true, true, true, true, true, true, true, true, true, false] (by kernel_rfl) (by kernel_rfl) (by kernel_rfl) rfl rfl (by kernel_rfl) (by kernel_rfl) (InW.draw _) ?_
  have HB : ∀ w', InW ((w.alloc (obj8 sc hA au pa hQ qu hF fr)).alloc avObj) w' → Blk w' w.heap.size (.string sc) (.bool hA) (.string au) (.string pa) (.bool hQ) (.string qu) (.bool hF) (.string fr) := fun w' hw' => blk_of (hw'.blk (by simp; omega) (heap_two w _ _).1)
  refine quiet_do rfl (.pointer (some ⟨w.heap.size, 0, none⟩)) (fun w' hw' => quietAt_ok (by go_simp)) ?_
  go_simp
  refine quiet_do rfl (.string sc) (fun w' hw' => quietAt_ok (by have := (HB w' hw').c0; go_simp)) ?_
  go_simp
  refine quiet_do rfl (.string (smallB sc)) (fun w' hw' => quietAt_call (f := 82) (args := #[.string sc]) (by go_simp) ((low_is sc w' s0).mono (by rintro e w2 ⟨rfl, hb⟩; exact ⟨rfl, hw'.step hb⟩))) ?_
  go_simp
  refine quiet_do rfl (.pointer (some ⟨w.heap.size, 1, none⟩)) (fun w' hw' => quietAt_ok (by go_simp)) ?_
  go_simp
  refine quiet_do rfl (.bool hA) (fun w' hw' => quietAt_ok (by have := (HB w' hw').c1; go_simp)) ?_
  go_simp
  refine quiet_do rfl (.pointer (some ⟨w.heap.size, 2, none⟩)) (fun w' hw' => quietAt_ok (by go_simp)) ?_
  go_simp
  refine quiet_do rfl (.string au) (fun w' hw' => quietAt_ok (by have := (HB w' hw').c2; go_simp)) ?_
  go_simp
  refine quiet_do rfl (.string (smallB au)) (fun w' hw' => quietAt_call (f := 82) (args := #[.string au]) (by go_simp) ((low_is au w' s1).mono (by rintro e w2 ⟨rfl, hb⟩; exact ⟨rfl, hw'.step hb⟩))) ?_
  go_simp
  refine quiet_do rfl (.pointer (some ⟨w.heap.size, 3, none⟩)) (fun w' hw' => quietAt_ok (by go_simp)) ?_
  go_simp
  refine quiet_do rfl (.string pa) (fun w' hw' => quietAt_ok (by have := (HB w' hw').c3; go_simp)) ?_
  go_simp
  refine quiet_do rfl (.pointer (some ⟨w.heap.size, 4, none⟩)) (fun w' hw' => quietAt_ok (by go_simp)) ?_
  go_simp
  refine quiet_do rfl (.bool hQ) (fun w' hw' => quietAt_ok (by have := (HB w' hw').c4; go_simp)) ?_
  go_simp
  refine quiet_do rfl (.pointer (some ⟨w.heap.size, 5, none⟩)) (fun w' hw' => quietAt_ok (by go_simp)) ?_
  go_simp
  refine quiet_do rfl (.string qu) (fun w' hw' => quietAt_ok (by have := (HB w' hw').c5; go_simp)) ?_
  go_simp
  refine quiet_do rfl (agg8 (smallB sc) hA (smallB au) pa hQ qu false ⟨#[]⟩) (fun w' hw' => quietAt_ok (by go_simp)) ?_
  go_simp
  refine wpQuiet_nil ?_
  intro w1 hw1
  obtain ⟨y0, y1, y2, y3, y4, y5, y6, y7, yf⟩ := blk_of (hw1.blk (by simp) (heap_two w _ _).2)
  have b1 := (below_two w (obj8 sc hA au pa hQ qu hF fr) avObj).trans (Below.mono hw1 (by simp; omega))
  clear hw1 HB
  refine wpAny_next 15 _ (by kernel_rfl) rfl rfl ?_
  unfold Oper.wp
  go_simp
  refine wpAny_done (by kernel_rfl) ?_ 0
  go_wp2
  refine bodyPost_ret (v := agg8 (smallB sc) hA (smallB au) pa hQ qu false ⟨#[]⟩) (by simp [results, Tryd.results54, go_sem, y0, y1, y2, y3, y4, y5, y6, y7]) rfl ⟨rfl, ?_⟩
  iterate 8 (refine Below.setCell ?_ (by simp <;> omega) _)
  exact b1

set_option maxHeartbeats 1600000 in
set_option maxRecDepth 100000 in
theorem rwrite_raw (sc au pa qu fr : ByteArray) (hA hQ hF : Bool) (w : World) (s0 : sc.size ≤ 1000000) (s1 : au.size ≤ 1000000) (s2 : pa.size ≤ 1000000) (s3 : qu.size ≤ 1000000) (s4 : fr.size ≤ 1000000) :
    Calls Tryd.prog 51 #[agg8 sc hA au pa hQ qu hF fr] w fun e w' => ∃ S : ByteArray, e = .returned (.string S) ∧ S.data.toList = writeA (AV.ab ⟨sc, hA, au, pa, hQ, qu, hF, fr⟩) ∧ Below w.heap.size w w' := by
  have hb := (Below.refl w.heap.size w).alloc (Nat.le_refl _) (.cells #[.string sc, .bool hA, .string au, .string pa, .bool hQ, .string qu, .bool hF, .string fr] 73)
  by_cases h0 : sc.size = 0
  · have he : sc.toList.isEmpty = true := empty_of sc h0
    have HE : Box (sc.data.toList = []) := ⟨data_nil sc h0⟩
    clear h0
    cases hA <;> cases hQ <;> cases hF
    all_goals
      go_enter Tryd.func51, Tryd.ntmps51
      go_wp2
      go_ret
      exact ⟨_, rfl, by simp [writeA, AV.ab, HE.out], hb⟩
  · have he : sc.toList.isEmpty = false := nonempty_of sc h0
    have HE : Box (¬ sc.data.toList = []) := ⟨fun e => h0 (by rw [← size_list, e]; rfl)⟩
    clear h0
    cases hA <;> cases hQ <;> cases hF
    all_goals
      go_enter Tryd.func51, Tryd.ntmps51
      go_wp2
      go_ret
      exact ⟨_, rfl, by simp [writeA, AV.ab, HE.out], hb⟩

end Go.Proofs.YtpdfghmfhljfiaaDoor
