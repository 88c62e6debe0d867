import Derived.Test.YtkgpmahlkglaaaaGreatDoorR9b
import Derived.Deep.RegionWith
namespace Go.Proofs.YtkgpmahlkglaaaaGreatDoor
open Go.RowKit

/-- The two answers alike: what the bytes are, and the error that 'bare' finds alike. -/
theorem un_pair (u : Option (List UInt8)) : ∃ (S : ByteArray) (E : Value) (c : Int), unV u = .tuple #[.string S, E] ∧ unR u = .tuple #[.string S, .int .i64 c] ∧
    ∀ w, ErrT w → Calls Tryz.prog 6 #[E, .int .i64 c] w fun e w' => e = .returned (.bool true) ∧ Below w.heap.size w w' := by
  cases u with
  | none => exact ⟨_, _, 3, rfl, rfl, fun w h => bare_err 3 w h⟩
  | some o => exact ⟨_, _, 0, rfl, rfl, fun w _ => bare_ok w⟩

set_option maxHeartbeats 4000000 in
set_option maxRecDepth 100000 in
theorem packs_small (s : ByteArray) (w : World) (hl : s.size ≤ 1500) (hm : Max w) (hE : ErrT w)
    (hU : ∀ w, Max w → Calls Tryz.prog 7 #[.string s] w fun e w' => e = .returned (unR (unquoteS s.data.toList)) ∧ Below w.heap.size w w') :
    Calls Tryz.prog 3 #[.string s] w fun e w' => e = .returned (.bool true) ∧ Below w.heap.size w w' := by
  obtain ⟨S1, E1, c1, hv1, hr1, hbare1⟩ := un_pair (unpackS s.data.toList)
  obtain ⟨S2, E2, c2, hv2, hr2, hbare2⟩ := un_pair (unquoteS s.data.toList)
  have HV1 := Box.mk hv1
  have HR1 := Box.mk hr1
  have HV2 := Box.mk hv2
  have HR2 := Box.mk hr2
  have HB1 := Box.mk hbare1
  have HB2 := Box.mk hbare2
  have HU := Box.mk hU
  have hw0 := hm.1
  have hw1 := hE.lt
  clear hv1 hr1 hbare1 hv2 hr2 hbare2 hU
  go_enter Tryz.func3, Tryz.ntmps3
  go_wp2_with fail
  refine (refUnpack_any s _ (by omega)).mono ?_
  rintro e w1 ⟨rfl, hb1⟩
  rw [HR1.out]
  go_wp2_with fail
  refine (unpack_any s _ (by omega)).mono ?_
  rintro e w2 ⟨rfl, hb2⟩
  rw [HV1.out]
  have g2 : Below w.heap.size w w2 := hb1.trans (hb2.mono hb1.size)
  clear hb1 hb2
  go_wp2_with fail
  refine (HB1.out _ (hE.below g2 hw1)).mono ?_
  rintro e w3 ⟨rfl, hb3⟩
  have g3 : Below w.heap.size w w3 := g2.trans (hb3.mono g2.size)
  clear hb3 g2
  go_wp2_with fail
  refine (HU.out _ (hm.below g3 hw0)).mono ?_
  rintro e w4 ⟨rfl, hb4⟩
  rw [HR2.out]
  have g4 : Below w.heap.size w w4 := g3.trans (hb4.mono g3.size)
  clear hb4 g3
  go_wp2_with fail
  refine (unquote_any s _ (by omega) (hm.below g4 hw0)).mono ?_
  rintro e w5 ⟨rfl, hb5⟩
  rw [HV2.out]
  have g5 : Below w.heap.size w w5 := g4.trans (hb5.mono g4.size)
  clear hb5 g4
  go_wp2_with fail
  refine (HB2.out _ (hE.below g5 hw1)).mono ?_
  rintro e w6 ⟨rfl, hb6⟩
  have g6 : Below w.heap.size w w6 := g5.trans (hb6.mono g5.size)
  clear hb6 g5
  go_wp2_with fail
  refine (pack_any s _ (by omega)).mono ?_
  rintro e w7 ⟨rfl, hb7⟩
  have g7 : Below w.heap.size w w7 := g6.trans (hb7.mono g6.size)
  clear hb7 g6
  go_wp2_with fail
  refine (refPack_any s _ (by omega)).mono ?_
  rintro e w8 ⟨rfl, hb8⟩
  have g8 : Below w.heap.size w w8 := g7.trans (hb8.mono g7.size)
  clear hb8 g7
  generalize ByteArray.mk (packS s.data.toList).toArray = S3
  go_wp2_with fail
  refine (quote_any s _ (by omega)).mono ?_
  rintro e w9 ⟨rfl, hb9⟩
  have g9 : Below w.heap.size w w9 := g8.trans (hb9.mono g8.size)
  clear hb9 g8
  go_wp2_with fail
  refine (refQuote_any s _ (by omega)).mono ?_
  rintro e w10 ⟨rfl, hb10⟩
  have g10 : Below w.heap.size w w10 := g9.trans (hb10.mono g9.size)
  clear hb10 g9
  generalize ByteArray.mk (quoteS s.data.toList).toArray = S4
  go_wp2
  go_ret
  exact ⟨rfl, g10⟩

set_option maxHeartbeats 400000 in
theorem packs_big (s : ByteArray) (w : World) (hl : (1500 : Int) < (s.size : Int)) :
    Calls Tryz.prog 3 #[.string s] w fun e w' => e = .returned (.bool true) ∧ Below w.heap.size w w' := by
  go_enter Tryz.func3, Tryz.ntmps3
  go_wp2
  go_ret
  exact ⟨rfl, Below.refl _ _⟩

end Go.Proofs.YtkgpmahlkglaaaaGreatDoor
