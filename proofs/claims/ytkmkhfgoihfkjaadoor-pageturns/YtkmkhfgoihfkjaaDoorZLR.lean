import Derived.Test.YtkmkhfgoihfkjaaDoorZLQ
namespace Go.Proofs.YtkmkhfgoihfkjaaDoor
open Go.RowKit

/- A fact: two links. -/
def factL : List UInt8 := [60, 97, 32, 104, 114, 101, 102, 61, 34, 120, 38, 97, 109, 112, 59, 121, 34, 62, 60, 105, 109, 103, 32, 115, 114, 99, 61, 122, 62]
def factI : List PItem := [([60, 97], none), ([32, 104, 114, 101, 102, 61, 34], some ([120, 38, 97, 109, 112, 59, 121], true)), ([62], none), ([60, 105, 109, 103], none), ([32, 115, 114, 99, 61], some ([122], false)), ([62], none)]
theorem fact_run : Run none factL factI [] := by
  unfold factL factI
  refine Run.go none (some (false, [97])) _ _ [32, 104, 114, 101, 102, 61, 34, 120, 38, 97, 109, 112, 59, 121, 34, 62, 60, 105, 109, 103, 32, 115, 114, 99, 61, 122, 62] _ _ _ (by kernel_rfl) ?_
  refine Run.go _ (some (false, [97])) _ _ [62, 60, 105, 109, 103, 32, 115, 114, 99, 61, 122, 62] _ _ _ (by kernel_rfl) ?_
  refine Run.go _ none _ _ [60, 105, 109, 103, 32, 115, 114, 99, 61, 122, 62] _ _ _ (by kernel_rfl) ?_
  refine Run.go _ (some (false, [105, 109, 103])) _ _ [32, 115, 114, 99, 61, 122, 62] _ _ _ (by kernel_rfl) ?_
  refine Run.go _ (some (false, [105, 109, 103])) _ _ [62] _ _ _ (by kernel_rfl) ?_
  refine Run.go _ none _ _ [] _ _ _ (by kernel_rfl) ?_
  exact run_nil _
theorem fact_links : linksP 0 factI = [(9, 7, [120, 38, 121]), (27, 1, [122])] := by kernel_rfl

set_option maxHeartbeats 2000000 in
theorem linked_any (w : World) (hG : PGB w w.heap.size) :
    Calls Tryd.prog 4 #[] w fun e w' => e = .returned (.bool true) ∧ Below w.heap.size w w' := by
  have HLK := Box.mk (links_any ⟨factL.toArray⟩ w hG (by decide) factI [] fact_run)
  clear hG
  go_enter Tryd.func4, Tryd.ntmps4
  go_wp2_with fail
  refine HLK.out.mono ?_
  rw [fact_links]
  rintro e w1 ⟨v, ls, rfl, hO, hls, hb1⟩
  obtain ⟨l0, l1, rfl⟩ : ∃ l0 l1, ls = [l0, l1] := by
    match ls, hls with
    | [a, b], _ => exact ⟨a, b, rfl⟩
    | [], h => simp at h
    | [_], h => simp at h
    | _ :: _ :: _ :: _, h => simp at h
  obtain ⟨a0, n0, V0⟩ := l0
  obtain ⟨a1, n1, V1⟩ := l1
  simp only [List.map_cons, List.map_nil, lk2, List.cons.injEq, Prod.mk.injEq, and_true] at hls
  obtain ⟨⟨rfl, rfl, h0⟩, ⟨rfl, rfl, h1⟩⟩ := hls
  have hV0 : V0 = ⟨#[120, 38, 121]⟩ := bytes_eq h0
  have hV1 : V1 = ⟨#[122]⟩ := bytes_eq h1
  subst hV0 hV1
  rcases hO.shape with ⟨_, h⟩ | ⟨g, cap, rfl, _, _, hc⟩
  · cases h
  · obtain ⟨c0, c1, c2⟩ := hO.cell 0 (by simp)
    obtain ⟨d0, d1, d2⟩ := hO.cell 1 (by simp)
    simp at c0 c1 c2 d0 d1 d2
    clear hO HLK h0 h1
    go_wp2
    go_ret
    exact ⟨rfl, hb1⟩

end Go.Proofs.YtkmkhfgoihfkjaaDoor
