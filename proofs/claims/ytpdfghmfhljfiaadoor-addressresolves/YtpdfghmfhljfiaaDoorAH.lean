import Derived.Test.YtpdfghmfhljfiaaDoorAG
namespace Go.Proofs.YtpdfghmfhljfiaaDoor
open Go.RowKit

set_option maxHeartbeats 1000000 in
set_option maxRecDepth 100000 in
theorem resolves_long (s t : ByteArray) (v2 v3 : Value) (a0 a2 a3 a5 a7 g0 g2 g3 g5 g7 : ByteArray) (a1 a4 a6 g1 g4 g6 : Bool) (hv2 : v2 = agg8 a0 a1 a2 a3 a4 a5 a6 a7) (hv3 : v3 = agg8 g0 g1 g2 g3 g4 g5 g6 g7) (w : World) (h1 : (500 : Int) < (s.size : Int) + (t.size : Int)) (z0 : s.size ≤ 1000000000000000) (z1 : t.size ≤ 1000000000000000) :
    Calls Tryd.prog 10 #[.string s, .string t, v2, v3] w fun e w' => e = .returned (.bool true) ∧ Below w.heap.size w w' := by
  subst hv2
  subst hv3
  go_enter Tryd.func10, Tryd.ntmps10
  go_wp2
  go_ret
  exact ⟨rfl, below_two w _ _⟩

set_option maxHeartbeats 1000000 in
set_option maxRecDepth 100000 in
theorem resolves_big (s t : ByteArray) (a0 a2 a3 a5 a7 g0 g2 g3 g5 g7 : ByteArray) (a1 a4 a6 g1 g4 g6 : Bool) (w : World) (h1 : s.size + t.size ≤ 500) (za : AV.Small ⟨a0, a1, a2, a3, a4, a5, a6, a7⟩ 1000000000000000) (ha : ¬ a0.size + a2.size + a3.size + a5.size + a7.size ≤ 400) :
    Calls Tryd.prog 10 #[.string s, .string t, agg8 a0 a1 a2 a3 a4 a5 a6 a7, agg8 g0 g1 g2 g3 g4 g5 g6 g7] w fun e w' => e = .returned (.bool true) ∧ Below w.heap.size w w' := by
  have HTa := Box.mk (decide_eq_false ha)
  have HZ := Box.mk za
  have hsum : ¬ (500 : Int) < (s.size : Int) + (t.size : Int) := by omega
  clear ha za
  go_enter Tryd.func10, Tryd.ntmps10
  go_wp2_with fail
  refine (tiny_raw a0 a2 a3 a5 a7 a1 a4 a6 _ HZ.out.sc HZ.out.au HZ.out.pa HZ.out.qu HZ.out.fr false HTa.out).mono ?_
  rintro e w1 ⟨rfl, hb1⟩
  have b1 := (below_two w (obj8 a0 a1 a2 a3 a4 a5 a6 a7) (obj8 g0 g1 g2 g3 g4 g5 g6 g7)).trans (hb1.mono (by simp; omega))
  clear hb1
  go_wp2
  go_ret
  exact ⟨rfl, b1⟩

set_option maxHeartbeats 1000000 in
set_option maxRecDepth 100000 in
theorem resolves_big2 (s t : ByteArray) (a0 a2 a3 a5 a7 g0 g2 g3 g5 g7 : ByteArray) (a1 a4 a6 g1 g4 g6 : Bool) (w : World) (h1 : s.size + t.size ≤ 500) (ha : a0.size + a2.size + a3.size + a5.size + a7.size ≤ 400) (zb : AV.Small ⟨g0, g1, g2, g3, g4, g5, g6, g7⟩ 1000000000000000) (hb : ¬ g0.size + g2.size + g3.size + g5.size + g7.size ≤ 400) :
    Calls Tryd.prog 10 #[.string s, .string t, agg8 a0 a1 a2 a3 a4 a5 a6 a7, agg8 g0 g1 g2 g3 g4 g5 g6 g7] w fun e w' => e = .returned (.bool true) ∧ Below w.heap.size w w' := by
  have HTa := Box.mk (decide_eq_true ha)
  have HTb := Box.mk (decide_eq_false hb)
  have HZ := Box.mk zb
  have hsum : ¬ (500 : Int) < (s.size : Int) + (t.size : Int) := by omega
  clear zb hb
  go_enter Tryd.func10, Tryd.ntmps10
  go_wp2_with fail
  refine (tiny_raw a0 a2 a3 a5 a7 a1 a4 a6 _ (by omega) (by omega) (by omega) (by omega) (by omega) true HTa.out).mono ?_
  rintro e w1 ⟨rfl, hb1⟩
  have b1 := (below_two w (obj8 a0 a1 a2 a3 a4 a5 a6 a7) (obj8 g0 g1 g2 g3 g4 g5 g6 g7)).trans (hb1.mono (by simp; omega))
  obtain ⟨c0, c1, c2, c3, c4, c5, c6, c7, cf⟩ := blk_of (blk_on (heap_two w (obj8 a0 a1 a2 a3 a4 a5 a6 a7) (obj8 g0 g1 g2 g3 g4 g5 g6 g7)).2 hb1).1
  clear hb1
  go_wp2_with fail
  refine (tiny_raw g0 g2 g3 g5 g7 g1 g4 g6 _ HZ.out.sc HZ.out.au HZ.out.pa HZ.out.qu HZ.out.fr false HTb.out).mono ?_
  rintro e w2 ⟨rfl, hb2⟩
  have b2w := b1.trans (hb2.mono b1.size)
  clear hb2
  go_wp2
  go_ret
  exact ⟨rfl, b2w⟩

theorem resolves_any (s t : ByteArray) (a b : AV) (w : World) (z0 : s.size ≤ 1000000000000000) (z1 : t.size ≤ 1000000000000000) (za : a.Small 1000000000000000) (zb : b.Small 1000000000000000) (hm : Max w) (hE : ErrT w) :
    Calls Tryd.prog 10 #[.string s, .string t, a.val, b.val] w fun e w' => e = .returned (.bool true) ∧ Below w.heap.size w w' := by
  obtain ⟨a0, a1, a2, a3, a4, a5, a6, a7⟩ := a
  obtain ⟨g0, g1, g2, g3, g4, g5, g6, g7⟩ := b
  by_cases h1 : s.size + t.size ≤ 500
  · by_cases ha : a0.size + a2.size + a3.size + a5.size + a7.size ≤ 400
    · by_cases hb : g0.size + g2.size + g3.size + g5.size + g7.size ≤ 400
      · exact resolves_small s t a0 a2 a3 a5 a7 g0 g2 g3 g5 g7 a1 a4 a6 g1 g4 g6 w h1 ha hb hm hE
      · exact resolves_big2 s t a0 a2 a3 a5 a7 g0 g2 g3 g5 g7 a1 a4 a6 g1 g4 g6 w h1 ha zb hb
    · exact resolves_big s t a0 a2 a3 a5 a7 g0 g2 g3 g5 g7 a1 a4 a6 g1 g4 g6 w h1 za ha
  · exact resolves_long s t _ _ a0 a2 a3 a5 a7 g0 g2 g3 g5 g7 a1 a4 a6 g1 g4 g6 rfl rfl w (by omega) z0 z1

end Go.Proofs.YtpdfghmfhljfiaaDoor
