import Derived.Test.YtpdfghmfhljfiaaDoorAC
namespace Go.Proofs.YtpdfghmfhljfiaaDoor
open Go.RowKit

theorem led_r1 (w : World) (hm : Max w) : Calls Tryd.prog 48 #[.string ⟨#[104, 116, 116, 112, 58, 47, 47, 97, 47, 98, 47, 99, 47, 100, 63, 113, 35, 102]⟩] w fun e w' => e = .returned (.tuple #[agg8 ⟨#[104, 116, 116, 112]⟩ true ⟨#[97]⟩ ⟨#[47, 98, 47, 99, 47, 100]⟩ true ⟨#[113]⟩ true ⟨#[102]⟩, .nilIface]) ∧ Below w.heap.size w w' := by
  refine (aread_is _ w (by decide) hm).mono ?_
  rintro e w' ⟨rfl, _, hb⟩
  obtain ⟨h1, h2⟩ := readV_some led_read1
  exact ⟨by rw [show (⟨#[104, 116, 116, 112, 58, 47, 47, 97, 47, 98, 47, 99, 47, 100, 63, 113, 35, 102]⟩ : ByteArray).data.toList = [104, 116, 116, 112, 58, 47, 47, 97, 47, 98, 47, 99, 47, 100, 63, 113, 35, 102] from rfl, h1, h2], hb⟩
theorem led_r2 (w : World) (hm : Max w) : Calls Tryd.prog 48 #[.string ⟨#[46, 46, 47, 103]⟩] w fun e w' => e = .returned (.tuple #[agg8 ⟨#[]⟩ false ⟨#[]⟩ ⟨#[46, 46, 47, 103]⟩ false ⟨#[]⟩ false ⟨#[]⟩, .nilIface]) ∧ Below w.heap.size w w' := by
  refine (aread_is _ w (by decide) hm).mono ?_
  rintro e w' ⟨rfl, _, hb⟩
  obtain ⟨h1, h2⟩ := readV_some led_read2
  exact ⟨by rw [show (⟨#[46, 46, 47, 103]⟩ : ByteArray).data.toList = [46, 46, 47, 103] from rfl, h1, h2], hb⟩
theorem adots_is (s S : ByteArray) (w : World) (hs : s.size ≤ 1000000) (hm : Max w) (h : dotsS s.data.toList = S.data.toList) : Calls Tryd.prog 55 #[.string s] w fun e w' => e = .returned (.string S) ∧ Below w.heap.size w w' := by
  refine (adots_any s w hs hm).mono ?_
  rintro e w' ⟨T, rfl, hT, hb⟩
  exact ⟨ret_str (bytes_eq (hT.trans h)), hb⟩

set_option maxHeartbeats 1000000 in
set_option maxRecDepth 100000 in
theorem led_any (w : World) (hm : Max w) : Calls Tryd.prog 58 #[] w fun e w' => e = .returned (.bool true) ∧ Below w.heap.size w w' := by
  have HMx := Box.mk hm
  have hw0 := hm.1
  go_enter Tryd.func58, Tryd.ntmps58
  clear hm
  go_wp2_with fail
  refine (led_r1 w HMx.out).mono ?_
  rintro e w1 ⟨rfl, hb1⟩
  have b1 := hb1.alloc hb1.size (obj8 ⟨#[104, 116, 116, 112]⟩ true ⟨#[97]⟩ ⟨#[47, 98, 47, 99, 47, 100]⟩ true ⟨#[113]⟩ true ⟨#[102]⟩)
  go_wp2_with fail
  refine (led_r2 _ (HMx.out.below b1 hw0)).mono ?_
  rintro e w2 ⟨rfl, hb2⟩
  have b2 := b1.trans (hb2.mono b1.size)
  have k1 : w2.heap[w1.heap.size]? = some (obj8 ⟨#[104, 116, 116, 112]⟩ true ⟨#[97]⟩ ⟨#[47, 98, 47, 99, 47, 100]⟩ true ⟨#[113]⟩ true ⟨#[102]⟩) := (hb2.block w1.heap.size (by simp)).trans (by show (w1.heap.push _)[w1.heap.size]? = _; simp)
  have hlt : w1.heap.size < w2.heap.size := (Array.getElem?_eq_some_iff.1 k1).1
  obtain ⟨x0, x1, x2, x3, x4, x5, x6, x7, xf⟩ := blk_of k1
  have b3 := b2.alloc b2.size (obj8 ⟨#[]⟩ false ⟨#[]⟩ ⟨#[46, 46, 47, 103]⟩ false ⟨#[]⟩ false ⟨#[]⟩)
  clear hb1 hb2 k1
  go_wp2_with fail
  refine (ares_any ⟨⟨#[104, 116, 116, 112]⟩, true, ⟨#[97]⟩, ⟨#[47, 98, 47, 99, 47, 100]⟩, true, ⟨#[113]⟩, true, ⟨#[102]⟩⟩ ⟨⟨#[]⟩, false, ⟨#[]⟩, ⟨#[46, 46, 47, 103]⟩, false, ⟨#[]⟩, false, ⟨#[]⟩⟩ _ (by decide) (by decide) (HMx.out.below b3 hw0)).mono ?_
  rintro e w3 ⟨rfl, hb3⟩
  have b4 := b3.trans (hb3.mono b3.size)
  have HZ := Box.mk (resV_small (b := ⟨⟨#[104, 116, 116, 112]⟩, true, ⟨#[97]⟩, ⟨#[47, 98, 47, 99, 47, 100]⟩, true, ⟨#[113]⟩, true, ⟨#[102]⟩⟩) (a := ⟨⟨#[]⟩, false, ⟨#[]⟩, ⟨#[46, 46, 47, 103]⟩, false, ⟨#[]⟩, false, ⟨#[]⟩⟩) (n := 100) (av_small (by decide) (by decide) (by decide) (by decide) (by decide)) (av_small (by decide) (by decide) (by decide) (by decide) (by decide)))
  have HW := Box.mk led_res
  generalize resV ⟨⟨#[104, 116, 116, 112]⟩, true, ⟨#[97]⟩, ⟨#[47, 98, 47, 99, 47, 100]⟩, true, ⟨#[113]⟩, true, ⟨#[102]⟩⟩ ⟨⟨#[]⟩, false, ⟨#[]⟩, ⟨#[46, 46, 47, 103]⟩, false, ⟨#[]⟩, false, ⟨#[]⟩⟩ = R at HZ HW ⊢
  obtain ⟨r0, r1, r2, r3, r4, r5, r6, r7⟩ := R
  go_wp2_with fail
  refine (awrite_any ⟨r0, r1, r2, r3, r4, r5, r6, r7⟩ _ ⟨Nat.le_trans HZ.out.sc (by omega), Nat.le_trans HZ.out.au (by omega), Nat.le_trans HZ.out.pa (by omega), Nat.le_trans HZ.out.qu (by omega), Nat.le_trans HZ.out.fr (by omega)⟩).mono ?_
  rintro e w4 ⟨rfl, hb4⟩
  have b5 := b4.trans (hb4.mono b4.size)
  rw [HW.out]
  go_wp2_with fail
  refine (adots_is ⟨#[47, 97, 47, 46, 47, 98, 47, 46, 46, 47, 99]⟩ ⟨#[47, 97, 47, 99]⟩ _ (by decide) (HMx.out.below b5 hw0) led_dots).mono ?_
  rintro e w5 ⟨rfl, hb5⟩
  go_wp2
  go_ret
  exact ⟨rfl, b5.trans (hb5.mono b5.size)⟩

end Go.Proofs.YtpdfghmfhljfiaaDoor
