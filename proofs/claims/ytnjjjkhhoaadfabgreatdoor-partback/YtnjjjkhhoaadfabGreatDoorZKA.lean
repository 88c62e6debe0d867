import Derived.Test.YtnjjjkhhoaadfabGreatDoorZY4
import Derived.Test.YtnjjjkhhoaadfabGreatDoorZF6
namespace Go.Proofs.YtnjjjkhhoaadfabGreatDoor
open Go.RowKit

/- Parts that are small enough: binderykeep's own look. -/
def SkAt (D : Nat) : Prop := ∀ (p : PT) (v : P4) (k l bl : Nat) (w : World) (S : Nat → Prop), (∀ i, S i → i ≠ bl) → PVX w S D v p → k ≤ 7 → l ≤ 60 → CI w bl l →
    Calls Tryz.prog 4 #[v.v, .int .i64 k, .pointer (some ⟨bl, 0, none⟩)] w fun e w' => (e = .returned (.bool false) ∨ (e = .returned (.bool true) ∧ Sm1 D p ∧ ∃ l' : Nat, CI w' bl l' ∧ l' + 1 ≤ l)) ∧ w.grownBy w' (some bl)

set_option maxHeartbeats 4000000 in
set_option maxRecDepth 100000 in
theorem ksmall_step (D : Nat) (ih : SkAt D) : SkAt (D + 1) := by
  intro p v k l bl w S hS hv hk hl hc
  match p, hv with
  | .mk L b many ps, hv =>
    obtain ⟨A2, cap2, bb, lh, h1, h2, h3, h4, h5, h6, h7, h8, h9, h10, h11⟩ := hv
    obtain ⟨v0, v1, v2, v3⟩ := v
    simp only at h1 h2 h3 h4
    subst h1 h2 h3 h5 h7
    obtain ⟨A, c1, hv0', hc1, hcell⟩ := id h4
    subst hv0'
    have hbl := hc.lt
    have hb0 := below_oneP w (obj4 (.slice A lh.length c1) (.string bb) (.bool many) (.slice A2 ps.length cap2))
    have hk0 := heap_oneP w (obj4 (.slice A lh.length c1) (.string bb) (.bool many) (.slice A2 ps.length cap2))
    obtain ⟨W, HW⟩ : ∃ W, Box (W = w.alloc (obj4 (.slice A lh.length c1) (.string bb) (.bool many) (.slice A2 ps.length cap2))) := ⟨_, ⟨rfl⟩⟩
    have hsz0 := size_oneP w (obj4 (.slice A lh.length c1) (.string bb) (.bool many) (.slice A2 ps.length cap2))
    have hc0 := hc.below hb0 hc.lt
    rw [← HW.out] at hb0 hk0 hsz0 hc0
    obtain ⟨x0, x1, x2, x3, xf⟩ := b4_of hk0
    obtain ⟨y0, y1, y2⟩ := id hc0
    have HC := Box.mk hc0
    have HF := Box.mk (h4.abv (abv_below hb0))
    have HP : Box (∀ k (hk : k < ps.length), ∃ q, PC W S A2 k q ∧ PVX W S D q ps[k]) := ⟨fun k hk => by
      obtain ⟨q, h1, h2⟩ := h11 k hk
      exact ⟨q, h1.abv (abv_below hb0), PVX.abv (abv_below hb0) _ _ _ h2⟩⟩
    have HB := Box.mk h6
    have hll := h6.1
    have IH := Box.mk ih
    have HSS := Box.mk hS
    have hne : w.heap.size ≠ bl := by omega
    clear hc h4 h11 h6 hcell ih hc0 hS
    unfold P4.v
    simp only
    go_enter Tryz.func4, Tryz.ntmps4
    go_wp2
    rw [← HW.out]
    go_region
    have hgd : w.grownBy (W.setCell ⟨bl, 0, none⟩ (.int .i64 ((l : Int) - (1 + (bb.size : Int) / 50)))).drew (some bl) := by
      have h := gr_trans (gr_below hb0 (some bl)) (gr_set W bl 0 (.int .i64 ((l : Int) - (1 + (bb.size : Int) / 50))))
      exact ⟨h.os, h.tape, h.output, h.size, h.block⟩
    by_cases hneg : l < 1 + bb.size / 50
    · have hneg2 : (l : Int) - (1 + (bb.size : Int) / 50) < 0 := by omega
      clear HP HF IH HB HC hk0
      go_wp2
      go_ret
      exact ⟨.inl rfl, hgd⟩
    · obtain ⟨l1, hl1⟩ : ∃ l1, l = l1 + (1 + bb.size / 50) := ⟨l - (1 + bb.size / 50), by omega⟩
      have e : (l : Int) - (1 + (bb.size : Int) / 50) = (l1 : Int) := by omega
      rw [e] at hgd ⊢
      obtain ⟨W1, HW1⟩ : ∃ W1, Box (W1 = (W.setCell ⟨bl, 0, none⟩ (.int .i64 (l1 : Int))).drew) := ⟨_, ⟨rfl⟩⟩
      have hC1 : CI W1 bl l1 := by
        rw [HW1.out]
        have h := HC.out.set l1
        exact ⟨h.c, h.f, h.lt⟩
      have hsz1 : W1.heap.size = w.heap.size + 1 := by rw [HW1.out]; simpa using hsz0
      have hgW : W.grownBy W1 (some bl) := by
        rw [HW1.out]
        have h := gr_set W bl 0 (.int .i64 (l1 : Int))
        exact ⟨h.os, h.tape, h.output, h.size, h.block⟩
      rw [← HW1.out] at hgd ⊢
      have hk1 := (hgW.block w.heap.size (by omega) (by simp; omega)).trans hk0
      clear x0 x1 x2 x3 xf y0 y1 y2
      obtain ⟨x0, x1, x2, x3, xf⟩ := b4_of hk1
      obtain ⟨y0, y1, y2⟩ := id hC1
      have hab : Abv S W W1 := abv_gr hgW (fun i hi e => HSS.out i hi (Option.some.inj e))
      have HFA : Box (FLA W1 A lh) := ⟨by
        obtain ⟨A', cap, hv, _, h1⟩ := (HF.out.abv hab).fl
        simp only [Value.slice.injEq] at hv
        rw [hv.1]; exact h1⟩
      have HP1 : Box (∀ k (hk : k < ps.length), ∃ q, PC W1 S A2 k q ∧ PVX W1 S D q ps[k]) := ⟨fun k hk => by
        obtain ⟨q, h1, h2⟩ := HP.out k hk
        exact ⟨q, h1.abv hab, PVX.abv hab _ _ _ h2⟩⟩
      have HC1 := Box.mk hC1
      have HK1 := Box.mk hk1
      clear e hab HP HF HC hC1 hgW hk0 HW HW1 hk1
      by_cases hk6 : 6 < k
      · clear HP1 HFA IH HB HC1 HK1
        go_wp2
        go_ret
        exact ⟨.inl rfl, hgd⟩
      · by_cases h20 : 20 < lh.length
        · clear HP1 HFA IH HB HC1 HK1
          go_wp2
          go_ret
          exact ⟨.inl rfl, hgd⟩
        · go_wp2
          clear x0 x1 x2 x3 xf y0 y1 y2
          go_loopw [7] (fun i wr => ∃ j : Nat, j ≤ lh.length ∧ i = .int .i64 j ∧ Below W1.heap.size W1 wr ∧ Box (∀ f ∈ lh.take j, f.1.size + f.2.size ≤ 400)) (fun i _ => lh.length - (intOf i).toNat)
          case atStart => exact ⟨0, Nat.zero_le _, rfl, Below.refl _ _, ⟨fun f hf => absurd hf (by simp)⟩⟩
          case round =>
            obtain ⟨j, hj, rfl, hb2, HQ⟩ := hrel
            have hsz2 := hb2.size
            have hk2 := (hb2.block w.heap.size (by omega)).trans HK1.out
            obtain ⟨x0, x1, x2, x3, xf⟩ := b4_of hk2
            by_cases hlt : j < lh.length
            · obtain ⟨b1, o1, hA, d0, d1⟩ := HFA.out j hlt
              subst hA
              have hbl1 := World.block_lt_of_cell? W1 _ d0
              have HN : Box (lh[j]? = some lh[j]) := ⟨List.getElem?_eq_getElem hlt⟩
              obtain ⟨f, hf⟩ : ∃ f, f = lh[j] := ⟨_, rfl⟩
              rw [← hf] at d0 d1 HN
              obtain ⟨fn, fv⟩ := f
              have d0' := (hb2.cell (p := ⟨b1, o1 + j * 2, none⟩) hbl1).trans d0
              have d1' := (hb2.cell (p := ⟨b1, o1 + j * 2 + 1, none⟩) hbl1).trans d1
              simp only at d0' d1'
              have hfs := HB.out.2 (fn, fv) (List.mem_of_getElem? HN.out)
              simp only at hfs
              clear d0 d1 hf HP1 HFA HB HC1 IH
              by_cases h400 : 400 < fn.size + fv.size
              · clear HQ HN HK1
                go_wp2
                go_region
                go_wp2
                go_ret
                exact ⟨.inl rfl, gr_trans hgd (gr_below (hb2.drew) _)⟩
              · have HQ' : Box (∀ f ∈ lh.take (j + 1), f.1.size + f.2.size ≤ 400) := ⟨fun f hf => by
                  rw [List.take_add_one, HN.out] at hf
                  rcases List.mem_append.1 hf with hf | hf
                  · exact HQ.out f hf
                  · have : f = (fn, fv) := by simpa using hf
                    rw [this]
                    show fn.size + fv.size ≤ 400
                    omega⟩
                clear HQ HN HK1
                go_wp2
                go_region
                go_wp2
                go_roundw
                case rel => exact ⟨j + 1, by omega, by go_num, hb2.drew, HQ'⟩
                case measure => simp [intOf]; omega
            · have HQ' : Box (∀ f ∈ lh, f.1.size + f.2.size ≤ 400) := ⟨fun f hf => HQ.out f (by rw [List.take_of_length_le (by omega)]; exact hf)⟩
              generalize wr = w2 at hb2 hk2 hsz2 x0 x1 x2 x3 xf ⊢
              have hg2 := gr_trans hgd (gr_below hb2 _)
              have HC2 := Box.mk (HC1.out.below hb2 HC1.out.lt)
              have HP2 : Box (∀ k (hk : k < ps.length), ∃ q, PC w2 S A2 k q ∧ PVX w2 S D q ps[k]) := ⟨fun k hk => by
                obtain ⟨q, h1, h2⟩ := HP1.out k hk
                exact ⟨q, h1.abv (abv_below hb2), PVX.abv (abv_below hb2) _ _ _ h2⟩⟩
              have HK2 := Box.mk hk2
              clear HQ HP1 HFA HC1 HK1 hgd hk2 HB
              go_wp2
              clear x0 x1 x2 x3 xf
              go_loopw [8] (fun i wr => ∃ j l' : Nat, j ≤ ps.length ∧ i = .int .i64 j ∧ l' + j ≤ l1 ∧ Box (CI wr bl l') ∧ w2.grownBy wr (some bl) ∧ Box (∀ p ∈ ps.take j, Sm1 D p)) (fun i _ => ps.length - (intOf i).toNat)
              case atStart => exact ⟨0, l1, Nat.zero_le _, rfl, Nat.le_refl _, HC2, gr_below (Below.refl _ _) _, ⟨fun p hp => absurd hp (by simp)⟩⟩
              case round =>
                obtain ⟨j, l', hj, rfl, hlj, hC, hg, HSj⟩ := hrel
                have hsz := hg.size
                have hkr := (hg.block w.heap.size (by omega) (by simp; omega)).trans HK2.out
                obtain ⟨x0, x1, x2, x3, xf⟩ := b4_of hkr
                by_cases hlt : j < ps.length
                · obtain ⟨q, ⟨b1, o1, hA2, hb1, r0, r1, r2, r3⟩, hv1⟩ := HP2.out j hlt
                  subst hA2
                  obtain ⟨E1, m1, g1, bb1, mm1, E2, m2, g2, rfl⟩ := hv1.shape
                  have hab : Abv S w2 wr := abv_gr hg (fun i hi e => HSS.out i hi (Option.some.inj e))
                  have r0' := hab.cell (p := ⟨b1, o1 + j * 4, none⟩) hb1 r0
                  have r1' := hab.cell (p := ⟨b1, o1 + j * 4 + 1, none⟩) hb1 r1
                  have r2' := hab.cell (p := ⟨b1, o1 + j * 4 + 2, none⟩) hb1 r2
                  have r3' := hab.cell (p := ⟨b1, o1 + j * 4 + 3, none⟩) hb1 r3
                  simp only at r0' r1' r2' r3'
                  have HV := Box.mk (PVX.abv hab _ _ _ hv1)
                  have HGj := Box.mk (List.getElem?_eq_getElem hlt)
                  clear hv1 r0 r1 r2 r3 hab HP2
                  obtain ⟨x, hx⟩ : ∃ x, x = ps[j] := ⟨_, rfl⟩
                  rw [← hx] at HGj HV
                  clear hx
                  go_wp2_with fail
                  refine (IH.out x (.slice E1 m1 g1, .string bb1, .bool mm1, .slice E2 m2 g2) (k + 1) l' bl _ S HSS.out HV.out (by omega) (by omega) hC.out).mono ?_
                  rintro e w3 ⟨hP3, hg3⟩
                  have hg03 := gr_trans hg hg3
                  clear HV r0' r1' r2' r3' hC hkr x0 x1 x2 x3 xf
                  rcases hP3 with rfl | ⟨rfl, hsm, l2, hC3, hl2⟩
                  · clear HSj HGj HQ' IH HK2 HC2
                    go_wp2
                    go_ret
                    exact ⟨.inl rfl, gr_trans hg2 hg03⟩
                  · have HS' : Box (∀ p ∈ ps.take (j + 1), Sm1 D p) := ⟨fun p hp => by
                      rw [List.take_add_one, HGj.out] at hp
                      rcases List.mem_append.1 hp with hp | hp
                      · exact HSj.out p hp
                      · have : p = x := by simpa using hp
                        rw [this]; exact hsm⟩
                    have HC3 := Box.mk hC3
                    clear HSj HGj hsm hC3
                    go_wp2
                    go_roundw
                    case rel => exact ⟨j + 1, l2, by omega, by go_num, by omega, HC3, hg03, HS'⟩
                    case measure => simp [intOf]; omega
                · have hps : ps.length ≤ 60 := by omega
                  have HSm : Box (Sm1 (D + 1) (.mk (lh.map fl2) bb.data.toList many ps)) := ⟨by
                    obtain ⟨_, k2, k3⟩ := head_small lh (by omega) HQ'.out
                    have key : ∀ f ∈ lh.map fl2, f.1.length + f.2.length ≤ 400 := by
                      intro f hf
                      obtain ⟨g, hg', rfl⟩ := List.mem_map.1 hf
                      have := HQ'.out g hg'
                      unfold fl2
                      simp only
                      rw [size_list, size_list]
                      exact this
                    have h9 := hsz_few (lh.map fl2) 20 400 (by rw [List.length_map]; omega) key
                    exact ⟨⟨by rw [List.length_map]; omega, fun f hf => by have := key f hf; omega, by omega⟩, by rw [size_list]; omega, hps, fun p hp => HSj.out p (by rw [List.take_of_length_le (by omega)]; exact hp)⟩⟩
                  clear HSj HQ' IH HK2 HC2 HP2
                  go_wp2
                  go_ret
                  exact ⟨.inr ⟨rfl, HSm.out, l', hC.out, by omega⟩, gr_trans hg2 hg⟩
theorem ksmall_all : ∀ D, SkAt D
  | 0 => fun _ _ _ _ _ _ _ _ h _ _ _ => h.elim
  | D + 1 => ksmall_step D (ksmall_all D)

end Go.Proofs.YtnjjjkhhoaadfabGreatDoor
