import Derived.Test.YtnjjjkhhoaadfaaGreatDoorZ30
import Derived.Test.YtnjjjkhhoaadfaaGreatDoorZR7
namespace Go.Proofs.YtnjjjkhhoaadfaaGreatDoor
open Go.RowKit

/- Parts, written: the reference's, of one. -/
theorem filter_on (L : List Fl) (j : Nat) (f : Fl) (h : L[j]? = some f) : (L.take (j + 1)).filter (fun f => !isCte f) = (L.take j).filter (fun f => !isCte f) ++ (if isCte f then [] else [f]) := by
  rw [List.take_add_one, h, List.filter_append]
  cases hc : isCte f <;> simp [hc]

set_option maxHeartbeats 8000000 in
set_option maxRecDepth 100000 in
theorem rw_one (A : Option Addr) (c1 : Nat) (bb : ByteArray) (A2 : Option Addr) (cap2 : Nat) (lh : List Fl) (n bc k : Nat) (w : World) (S : Nat → Prop) (hS : ∀ i, S i → i ≠ bc) (hF : FLB w S (.slice A lh.length c1) lh) (hsh : ShortL lh) (hR : (lh.map fl2).all rightB = true) (hmn : maniesS (lh.map fl2) = .ok none) (hbs : bb.size ≤ 3000)
    (h40 : ¬ 40 ≤ n) (hk : ¬ 4 ≤ k) (hc : CI w bc n) (hM : Max w) (hT : Tab w) (hbm : 1 < bc) (hbt : 6 < bc) :
    Calls Tryz.prog 40 #[.agg #[.slice A lh.length c1, .string bb, .bool false, .slice A2 0 cap2], .int .i64 k, .pointer (some ⟨bc, 0, none⟩)] w fun e w' => RwPost (.ok (headW (stripH (lh.map fl2) ++ [(cteB, (encU bb.data.toList).1)]) ++ (encU bb.data.toList).2, n + 1)) bc e w' ∧ w.grownBy w' (some bc) := by
  have hbl := hc.lt
  have hH : Half lh := ⟨by have := hsh.1; omega, fun f hf => by have := hsh.2 f hf; omega⟩
  have hcW : CI ((w.setCell ⟨bc, 0, none⟩ (.int .i64 ((n : Int) + 1))).alloc (obj4 (.slice A lh.length c1) (.string bb) (.bool false) (.slice A2 0 cap2))) bc (n + 1) := rwW_c hc _
  obtain ⟨c0, f0, l0⟩ := hc.below (below_oneP w (obj4 (.slice A lh.length c1) (.string bb) (.bool false) (.slice A2 0 cap2))) hc.lt
  obtain ⟨W, HW⟩ : ∃ W, Box (W = (w.setCell ⟨bc, 0, none⟩ (.int .i64 ((n : Int) + 1))).alloc (obj4 (.slice A lh.length c1) (.string bb) (.bool false) (.slice A2 0 cap2))) := ⟨_, ⟨rfl⟩⟩
  rw [← HW.out] at hcW
  have hgW : w.grownBy W (some bc) := by rw [HW.out]; exact rwW_g _ _ _ _
  have hszW : W.heap.size = w.heap.size + 1 := by rw [HW.out]; exact rwW_size _ _ _ _
  have HKW : Box (W.heap[w.heap.size]? = some (obj4 (.slice A lh.length c1) (.string bb) (.bool false) (.slice A2 0 cap2))) := ⟨by rw [HW.out]; exact rwW_k _ _ _ _⟩
  have HMx := Box.mk (hM.below (below_gr hgW (Nat.le_refl _) hbl) hbm)
  have HTb := Box.mk (hT.below (below_gr hgW (Nat.le_refl _) hbl) hbt)
  have HF := Box.mk (hF.abv (abv_gr hgW (fun i hi e => hS i hi (Option.some.inj e))))
  have hfw : decide (firstW lh = lh.length) = true := by rw [← right_first]; exact hR
  have HFw := Box.mk hfw
  have HH := Box.mk hH
  have HSh := Box.mk hsh
  have HRt := Box.mk hR
  have HMn := Box.mk hmn
  have HC := Box.mk hcW
  clear hc hM hT hF hH hsh hR hmn hfw hS hcW
  go_enter Tryz.func40, Tryz.ntmps40
  go_wp2_with fail
  rw [← HW.out]
  refine (rmanies_any _ lh _ HH.out HF.out.fl HMx.out).mono ?_
  rintro e w1 ⟨hP, hb1⟩
  rw [HMn.out] at hP
  obtain rfl := hP
  have hsz1 := hb1.size
  have hk1 := (hb1.block w.heap.size (by omega)).trans HKW.out
  obtain ⟨x0, x1, x2, x3, xf⟩ := b4_of hk1
  have HF1 := Box.mk (HF.out.abv (abv_below hb1))
  clear HW HKW c0 f0 l0
  go_wp2_with fail
  refine (rHead_any _ lh _ HH.out.tiny HF1.out.fl).mono ?_
  rintro e w2 ⟨rfl, hb2⟩
  rw [HFw.out]
  have hsz2 := hb2.size
  have hk2 := (hb2.block w.heap.size (by omega)).trans hk1
  clear x0 x1 x2 x3 xf
  obtain ⟨x0, x1, x2, x3, xf⟩ := b4_of hk2
  have hbW2 : Below W.heap.size W w2 := hb1.trans (hb2.mono hb1.size)
  have hg2 := gr_trans hgW (gr_below hbW2 _)
  have HF2 := Box.mk (HF1.out.abv (abv_below hb2))
  have HTb2 := Box.mk (HTb.out.below hbW2 (by omega))
  have HC2 := Box.mk (HC.out.below hbW2 (by omega))
  clear HF1 HF hb1 hb2 HMx HTb HC HFw hbW2 hgW hk1
  go_wp2
  go_loopw [11, 92] (fun v i wr => v = .slice none 0 0 ∧ i = .int .i64 0 ∧ Below w2.heap.size w2 wr) (fun _ _ _ => 0)
  case atStart => exact ⟨rfl, rfl, Below.refl _ _⟩
  case round =>
    obtain ⟨rfl, rfl, hb3⟩ := hrel
    generalize wr = wo at hb3 ⊢
    have hko := (hb3.block w.heap.size (by omega)).trans hk2
    have HFo := Box.mk (HF2.out.abv (abv_below hb3))
    have HTo := Box.mk (HTb2.out.below hb3 HTb2.out.lt)
    have HCo := Box.mk (HC2.out.below hb3 HC2.out.lt)
    have hgo := gr_trans hg2 (gr_below hb3 _)
    have hszo := hb3.size
    clear HF2 HTb2 HC2 hg2 hk2 x0 x1 x2 x3 xf
    go_wp2
    go_loopw [16, 17] (fun v i wr => v = .int .i64 0 ∧ i = .int .i64 0 ∧ Below wo.heap.size wo wr) (fun _ _ _ => 0)
    case atStart => exact ⟨rfl, rfl, Below.refl _ _⟩
    case round =>
      obtain ⟨rfl, rfl, hb4⟩ := hrel
      have HTr := Box.mk (HTo.out.below hb4 HTo.out.lt)
      have hsz4 := hb4.size
      go_wp2_with fail
      refine (itoa_any 0 _ (by omega) HTr.out).mono ?_
      rintro e w5 ⟨rfl, hb5⟩
      have hds : (⟨(Lib.decDigits 0).toArray⟩ : ByteArray).size ≤ 10 := by
        rw [size_mk, Lib.decDigits_length]
        exact nDigits_le 9 0 (by omega)
      obtain ⟨DD, HD⟩ : ∃ DD : ByteArray, Box (DD = ⟨(Lib.decDigits 0).toArray⟩) := ⟨_, ⟨rfl⟩⟩
      rw [← HD.out] at hds ⊢
      have hsum2 : ¬ 9223372036854775807 < 1 + DD.size := by omega
      have hbo5 : Below wo.heap.size wo w5 := hb4.trans (hb5.mono hsz4)
      have hk5 := (hbo5.block w.heap.size (by omega)).trans hko
      obtain ⟨x0, x1, x2, x3, xf⟩ := b4_of hk5
      have HFA := Box.mk (HFo.out.abv (abv_below hbo5)).fla
      have HC5 := Box.mk (HCo.out.below hbo5 HCo.out.lt)
      have hg5 := gr_trans hgo (gr_below hbo5 _)
      have hsz5 := hbo5.size
      clear HD HTr HTo HFo HCo hgo hko hb4 hb5
      go_wp2
      clear x0 x1 x2 x3 xf
      go_loopw [19, 20, 134] (fun v q i wr => ∃ (j : Nat) (ls : List Fl), j ≤ lh.length ∧ i = .int .i64 j ∧ q = .bool false ∧ ls.length ≤ j ∧ Box (OwnF wr w5.heap.size v ls) ∧ Below w5.heap.size w5 wr ∧ Box (ls = (lh.take j).filter fun f => !isCte f)) (fun _ _ i _ => lh.length - (intOf i).toNat)
      case atStart => exact ⟨0, [], Nat.zero_le _, rfl, rfl, Nat.le_refl _, ⟨OwnF.nil _ _⟩, Below.refl _ _, ⟨by simp⟩⟩
      case round =>
        generalize wr = wp at hrel ⊢
        obtain ⟨j, ls, hj, rfl, rfl, hlsj, HOl, hbp, HLI⟩ := hrel
        have hszp := hbp.size
        by_cases hlt3 : j < lh.length
        · have hl20 := HSh.out.1
          obtain ⟨b1, o1, fn, fv, hAA, HN, _, _, hbl1, d0, d1⟩ := HFA.out.elem HSh.out.tiny hbp j hlt3
          subst hAA
          have hfs := HSh.out.2 (fn, fv) (List.mem_of_getElem? HN.out)
          simp only at hfs
          have hb6a := below_oneP wp (.cells #[.string fn, .string fv] 75)
          have hk6a := heap_oneP wp (.cells #[.string fn, .string fv] 75)
          have HO6a := Box.mk (HOl.out.below hb6a (Nat.le_refl _))
          clear HOl
          go_wp2_with fail
          refine (low_any fn _ (by omega)).mono ?_
          rintro e w6 ⟨t, rfl, ht, hb6⟩
          have hb56 : Below w5.heap.size w5 w6 := hbp.trans ((hb6a.trans (hb6.mono hb6a.size)).mono hszp)
          have hk6 := (hb6.block wp.heap.size (by rw [size_oneP]; omega)).trans hk6a
          obtain ⟨e0, e1, ef⟩ := b2_of hk6
          have HO6 := Box.mk (HO6a.out.below hb6 (Nat.le_refl _))
          clear HO6a hk6a hb6 hb6a d0 d1
          by_cases hcte : smallS fn.data.toList = cteN
          · have et := teq_of t [99, 111, 110, 116, 101, 110, 116, 45, 116, 114, 97, 110, 115, 102, 101, 114, 45, 101, 110, 99, 111, 100, 105, 110, 103] (ht.trans hcte)
            have HLI' : Box (ls = (lh.take (j + 1)).filter fun f => !isCte f) := ⟨by
              have hi : isCte (fn, fv) = true := decide_eq_true hcte
              rw [filter_on lh j _ HN.out, hi, HLI.out]; simp⟩
            clear HLI HN ht
            go_wp2
            go_roundw
            case rel => exact ⟨j + 1, ls, by omega, by go_num, rfl, by omega, HO6, hb56, HLI'⟩
            case measure => simp [intOf]; omega
          · have et := tne_of t [99, 111, 110, 116, 101, 110, 116, 45, 116, 114, 97, 110, 115, 102, 101, 114, 45, 101, 110, 99, 111, 100, 105, 110, 103] (fun h => hcte (ht.symm.trans h))
            have HLI' : Box (ls ++ [(fn, fv)] = (lh.take (j + 1)).filter fun f => !isCte f) := ⟨by
              have hi : isCte (fn, fv) = false := decide_eq_false hcte
              rw [filter_on lh j _ HN.out, hi, HLI.out]; simp⟩
            clear HLI HN ht
            go_wp2_with (at_builtin; refine wp_appF _ w5 rfl (.tmp 188) (.tmp 190) rfl w5.heap.size _ ls rfl (OwnF.below HO6.out ((Below.refl _ _).alloc (Nat.le_refl _) _) (Nat.le_refl _)) _ _ (fn, fv) rfl (by simp) (by simp) (by omega) (by have := hb56.size; simp; omega) (hb56.alloc hb56.size _) ?_; intro v7 w7 hO7 hb7)
            go_roundw
            case rel => exact ⟨j + 1, ls ++ [(fn, fv)], by omega, by go_num, rfl, by simp; omega, ⟨hO7⟩, hb7, HLI'⟩
            case measure => simp [intOf]; omega
        · have HLs : Box (ls = lh.filter fun f => !isCte f) := ⟨by
            have := HLI.out
            rw [List.take_of_length_le (by omega)] at this
            exact this⟩
          have hkp := (hbp.block w.heap.size (by omega)).trans hk5
          obtain ⟨x0, x1, x2, x3, xf⟩ := b4_of hkp
          have HCp := Box.mk (HC5.out.below hbp HC5.out.lt)
          have hgp := gr_trans hg5 (gr_below hbp _)
          obtain ⟨U, HU⟩ : ∃ U, Box (U = encU bb.data.toList) := ⟨_, ⟨rfl⟩⟩
          have hbl3 := HSh.out.1
          have hels := encU_len bb.data.toList (by rw [size_list]; exact hbs)
          clear HLI HFA hk5 HCp hgp
          go_wp2
          go_region
          go_wp2_with fail
          refine (rasIs_any bb _ (by omega)).mono ?_
          rintro e w7 ⟨rfl, hb7⟩
          have hbp7 : Below wp.heap.size wp w7 := ((Below.refl wp.heap.size wp).drew).trans hb7
          have hk7 := (hbp7.block w.heap.size (by omega)).trans hkp
          clear x0 x1 x2 x3 xf
          obtain ⟨x0, x1, x2, x3, xf⟩ := b4_of hk7
          have hsz7 := hbp7.size
          clear hb7
          cases ha : asIsS bb.data.toList
          · obtain ⟨Q, HQ⟩ : ∃ Q : ByteArray, Box (Q = ⟨(Tx.quoteS bb.data.toList).toArray⟩) := ⟨_, ⟨rfl⟩⟩
            obtain ⟨P, HP⟩ : ∃ P : ByteArray, Box (P = ⟨(Tx.packS bb.data.toList).toArray⟩) := ⟨_, ⟨rfl⟩⟩
            have hqs : Q.size = (Tx.quoteS bb.data.toList).length := by rw [HQ.out, size_mk]
            have hps : P.size = (Tx.packS bb.data.toList).length := by rw [HP.out, size_mk]
            have hq1 := quoteS_len bb.data.toList
            have hp1 := packS_len bb.data.toList
            rw [size_list] at hq1 hp1
            have hqs2 : Q.size ≤ 18000 := by omega
            have hps2 : P.size ≤ 18000 := by omega
            have HU1 : Box (U = if P.size < Q.size then (b64N, Tx.packS bb.data.toList) else (qpN, Tx.quoteS bb.data.toList)) := ⟨by rw [HU.out, encU, ha, hqs, hps]; rfl⟩
            clear ha hqs hps hq1 hp1
            go_wp2_with fail
            refine (Tx.refQuote_any bb _ hbs).mono ?_
            rintro e w8 ⟨rfl, hb8⟩
            rw [← HQ.out]
            have hk8 := (hb8.block w.heap.size (by omega)).trans hk7
            clear x0 x1 x2 x3 xf
            obtain ⟨x0, x1, x2, x3, xf⟩ := b4_of hk8
            have hsz8 := hb8.size
            go_wp2_with fail
            refine (Tx.refPack_any bb _ hbs).mono ?_
            rintro e w9 ⟨rfl, hb9⟩
            rw [← HP.out]
            have hbp9 : Below wp.heap.size wp w9 := hbp7.trans ((hb8.trans (hb9.mono hb8.size)).mono hsz7)
            have hsz9 := hbp9.size
            by_cases hlq : P.size < Q.size
            · have HE : Box (U = (b64N, P.data.toList)) := ⟨by rw [HU1.out, if_pos hlq, HP.out]⟩
              have HOw := Box.mk (HOl.out.below hbp9 (Nat.le_refl _))
              have hb5w : Below w5.heap.size w5 w9 := hbp.trans (hbp9.mono hszp)
              obtain ⟨hMid, hfw2, hfb2⟩ := one_mid (⟨#[98, 97, 115, 101, 54, 52]⟩ : ByteArray) (by decide) lh HSh.out HRt.out (by decide)
              rw [← HLs.out] at hMid hfw2 hfb2
              have HMid := Box.mk hMid
              have HFw2 := Box.mk hfw2
              have HRes : Box (headW (stripH (lh.map fl2) ++ [(cteB, (encU bb.data.toList).1)]) ++ (encU bb.data.toList).2 = fieldsB (ls ++ [(cteA, (⟨#[98, 97, 115, 101, 54, 52]⟩ : ByteArray))]) ++ [13, 10] ++ P.data.toList) := ⟨by
                have e : (ls ++ [(cteA, (⟨#[98, 97, 115, 101, 54, 52]⟩ : ByteArray))]).map fl2 = stripH (lh.map fl2) ++ [(cteB, b64N)] := by
                  rw [List.map_append, HLs.out, strip_filter]; rfl
                rw [← HU.out, HE.out, ← headW_map, e]⟩
              clear HE HU hMid hfw2 HLs HOl x0 x1 x2 x3 xf
              go_wp2_with (at_builtin; refine wp_appF _ w5 rfl (.tmp 239) (.tmp 242) rfl w5.heap.size _ ls rfl (OwnF.below HOw.out ((Below.refl _ _).alloc (Nat.le_refl _) _) (Nat.le_refl _)) _ _ (cteA, (⟨#[98, 97, 115, 101, 54, 52]⟩ : ByteArray)) rfl (by simp [cteA]) (by simp) (by omega) (by have := hb5w.size; simp; omega) (hb5w.alloc hb5w.size _) ?_; intro v10 w10 hO10 hb10)
              refine (writeHead_any v10 (ls ++ [(cteA, (⟨#[98, 97, 115, 101, 54, 52]⟩ : ByteArray))]) _ HMid.out hO10.fl).mono ?_
              rintro e w11 ⟨⟨SS, _, hgood⟩, hb11⟩
              obtain ⟨rfl, hSS⟩ := hgood HFw2.out
              have hSs : SS.size ≤ 2000000 := by rw [← size_list, hSS, List.length_append]; simp; omega
              have hsum3 : ¬ 9223372036854775807 < SS.size + P.size := by omega
              have HSS : Box ((SS ++ P).data.toList = headW (stripH (lh.map fl2) ++ [(cteB, (encU bb.data.toList).1)]) ++ (encU bb.data.toList).2) := ⟨by rw [HRes.out, ← hSS]; simp⟩
              have hb5f : Below w5.heap.size w5 (w11.alloc (.cells #[.int .i64 0, .int .i64 (-1)] 55)) := (hb10.trans (hb11.mono hb10.size)).alloc (Nat.le_trans hb10.size hb11.size) _
              have HCf := Box.mk (HC5.out.below hb5f HC5.out.lt)
              have hgf := gr_trans hg5 (gr_below hb5f _)
              clear hgood hSS HMid HFw2 HRes HOw
              go_wp2
              go_ret2
              exact ⟨⟨_, rfl, HSS.out, HCf.out⟩, hgf⟩
            · have HE : Box (U = (qpN, Q.data.toList)) := ⟨by rw [HU1.out, if_neg hlq, HQ.out]⟩
              have HOw := Box.mk (HOl.out.below hbp9 (Nat.le_refl _))
              have hb5w : Below w5.heap.size w5 w9 := hbp.trans (hbp9.mono hszp)
              obtain ⟨hMid, hfw2, hfb2⟩ := one_mid (⟨#[113, 117, 111, 116, 101, 100, 45, 112, 114, 105, 110, 116, 97, 98, 108, 101]⟩ : ByteArray) (by decide) lh HSh.out HRt.out (by decide)
              rw [← HLs.out] at hMid hfw2 hfb2
              have HMid := Box.mk hMid
              have HFw2 := Box.mk hfw2
              have HRes : Box (headW (stripH (lh.map fl2) ++ [(cteB, (encU bb.data.toList).1)]) ++ (encU bb.data.toList).2 = fieldsB (ls ++ [(cteA, (⟨#[113, 117, 111, 116, 101, 100, 45, 112, 114, 105, 110, 116, 97, 98, 108, 101]⟩ : ByteArray))]) ++ [13, 10] ++ Q.data.toList) := ⟨by
                have e : (ls ++ [(cteA, (⟨#[113, 117, 111, 116, 101, 100, 45, 112, 114, 105, 110, 116, 97, 98, 108, 101]⟩ : ByteArray))]).map fl2 = stripH (lh.map fl2) ++ [(cteB, qpN)] := by
                  rw [List.map_append, HLs.out, strip_filter]; rfl
                rw [← HU.out, HE.out, ← headW_map, e]⟩
              clear HE HU hMid hfw2 HLs HOl x0 x1 x2 x3 xf
              go_wp2_with (at_builtin; refine wp_appF _ w5 rfl (.tmp 239) (.tmp 242) rfl w5.heap.size _ ls rfl (OwnF.below HOw.out ((Below.refl _ _).alloc (Nat.le_refl _) _) (Nat.le_refl _)) _ _ (cteA, (⟨#[113, 117, 111, 116, 101, 100, 45, 112, 114, 105, 110, 116, 97, 98, 108, 101]⟩ : ByteArray)) rfl (by simp [cteA]) (by simp) (by omega) (by have := hb5w.size; simp; omega) (hb5w.alloc hb5w.size _) ?_; intro v10 w10 hO10 hb10)
              refine (writeHead_any v10 (ls ++ [(cteA, (⟨#[113, 117, 111, 116, 101, 100, 45, 112, 114, 105, 110, 116, 97, 98, 108, 101]⟩ : ByteArray))]) _ HMid.out hO10.fl).mono ?_
              rintro e w11 ⟨⟨SS, _, hgood⟩, hb11⟩
              obtain ⟨rfl, hSS⟩ := hgood HFw2.out
              have hSs : SS.size ≤ 2000000 := by rw [← size_list, hSS, List.length_append]; simp; omega
              have hsum3 : ¬ 9223372036854775807 < SS.size + Q.size := by omega
              have HSS : Box ((SS ++ Q).data.toList = headW (stripH (lh.map fl2) ++ [(cteB, (encU bb.data.toList).1)]) ++ (encU bb.data.toList).2) := ⟨by rw [HRes.out, ← hSS]; simp⟩
              have hb5f : Below w5.heap.size w5 (w11.alloc (.cells #[.int .i64 0, .int .i64 (-1)] 55)) := (hb10.trans (hb11.mono hb10.size)).alloc (Nat.le_trans hb10.size hb11.size) _
              have HCf := Box.mk (HC5.out.below hb5f HC5.out.lt)
              have hgf := gr_trans hg5 (gr_below hb5f _)
              clear hgood hSS HMid HFw2 HRes HOw
              go_wp2
              go_ret2
              exact ⟨⟨_, rfl, HSS.out, HCf.out⟩, hgf⟩
          · have HE : Box (U = (bit7, bb.data.toList)) := ⟨by rw [HU.out, encU, ha]; rfl⟩
            have HOw := Box.mk (HOl.out.below hbp7 (Nat.le_refl _))
            have hb5w : Below w5.heap.size w5 w7 := hbp.trans (hbp7.mono hszp)
            obtain ⟨hMid, hfw2, hfb2⟩ := one_mid (⟨#[55, 98, 105, 116]⟩ : ByteArray) (by decide) lh HSh.out HRt.out (by decide)
            rw [← HLs.out] at hMid hfw2 hfb2
            have HMid := Box.mk hMid
            have HFw2 := Box.mk hfw2
            have HRes : Box (headW (stripH (lh.map fl2) ++ [(cteB, (encU bb.data.toList).1)]) ++ (encU bb.data.toList).2 = fieldsB (ls ++ [(cteA, (⟨#[55, 98, 105, 116]⟩ : ByteArray))]) ++ [13, 10] ++ bb.data.toList) := ⟨by
              have e : (ls ++ [(cteA, (⟨#[55, 98, 105, 116]⟩ : ByteArray))]).map fl2 = stripH (lh.map fl2) ++ [(cteB, bit7)] := by
                rw [List.map_append, HLs.out, strip_filter]; rfl
              rw [← HU.out, HE.out, ← headW_map, e]⟩
            clear HE HU hMid hfw2 HLs HOl x0 x1 x2 x3 xf
            go_wp2_with (at_builtin; refine wp_appF _ w5 rfl (.tmp 239) (.tmp 242) rfl w5.heap.size _ ls rfl (OwnF.below HOw.out ((Below.refl _ _).alloc (Nat.le_refl _) _) (Nat.le_refl _)) _ _ (cteA, (⟨#[55, 98, 105, 116]⟩ : ByteArray)) rfl (by simp [cteA]) (by simp) (by omega) (by have := hb5w.size; simp; omega) (hb5w.alloc hb5w.size _) ?_; intro v10 w10 hO10 hb10)
            refine (writeHead_any v10 (ls ++ [(cteA, (⟨#[55, 98, 105, 116]⟩ : ByteArray))]) _ HMid.out hO10.fl).mono ?_
            rintro e w11 ⟨⟨SS, _, hgood⟩, hb11⟩
            obtain ⟨rfl, hSS⟩ := hgood HFw2.out
            have hSs : SS.size ≤ 2000000 := by rw [← size_list, hSS, List.length_append]; simp; omega
            have hsum3 : ¬ 9223372036854775807 < SS.size + bb.size := by omega
            have HSS : Box ((SS ++ bb).data.toList = headW (stripH (lh.map fl2) ++ [(cteB, (encU bb.data.toList).1)]) ++ (encU bb.data.toList).2) := ⟨by rw [HRes.out, ← hSS]; simp⟩
            have hb5f : Below w5.heap.size w5 (w11.alloc (.cells #[.int .i64 0, .int .i64 (-1)] 55)) := (hb10.trans (hb11.mono hb10.size)).alloc (Nat.le_trans hb10.size hb11.size) _
            have HCf := Box.mk (HC5.out.below hb5f HC5.out.lt)
            have hgf := gr_trans hg5 (gr_below hb5f _)
            clear hgood hSS HMid HFw2 HRes HOw
            go_wp2
            go_ret2
            exact ⟨⟨_, rfl, HSS.out, HCf.out⟩, hgf⟩

theorem rw_step (d : Nat) (ih : RwAt d) : RwAt (d + 1) := by
  intro D p v n bc k w S hS hv hsm hn hk hc hM hT hbm hbt
  match D, p, hv, hsm with
  | D + 1, .mk L b many ps, hv, hsm =>
    have hv0 := hv
    obtain ⟨A2, cap2, bb, lh, h1, h2, h3, h4, h5, h6, h7, h9, h10, h11⟩ := hv
    have hsh := hsm.short lh h5
    obtain ⟨s1, s2, s3, s4, s5⟩ := hsm
    by_cases h40 : 40 ≤ n
    · have e : writeG bndS (d + 1) n (.mk L b many ps) = .error 4 := by rw [writeG, if_pos h40]
      rw [e]
      exact rw_no v n bc k w hv0.shape (by omega) (by omega) (.inl h40) hc
    · obtain ⟨v0, v1, v2, v3⟩ := v
      simp only at h1 h2 h3 h4
      subst h1 h2 h3 h5 h7
      obtain ⟨A, c1, hv0', hc1, hcell⟩ := id h4
      subst hv0'
      by_cases hmay : mayU (lh.map fl2) bb.data.toList many ps.length = false
      · have e : writeG bndS (d + 1) n (.mk (lh.map fl2) bb.data.toList many ps) = .error 1 := by rw [writeG, if_neg h40, if_pos hmay]
        rw [e]
        exact rw_bad A lh.length c1 bb many A2 ps.length cap2 lh n bc k w S hS h6 h4 (by omega) h40 (by omega) hc hM hbm hmay
      · have hmay' : mayU (lh.map fl2) bb.data.toList many ps.length = true := by simpa using hmay
        cases many with
        | true =>
          obtain ⟨hR, ⟨be, hmn⟩, hb0⟩ := may_many hmay'
          have e : writeG bndS (d + 1) n (.mk (lh.map fl2) bb.data.toList true ps) = match allG (writeG bndS d) ps (n + 1) with
              | .error e => .error e
              | .ok r => .ok (headW (setCT (bndS r.1) (lh.map fl2)) ++ piecesW (bndS r.1) r.1, r.2) := by
            rw [writeG, if_neg h40, if_neg hmay]; rfl
          rw [e]
          obtain rfl : bb = ⟨#[]⟩ := bytes_eq hb0
          refine (rw_many d ih D A c1 A2 cap2 lh ps be n bc k w S hS h4 hsh hR hmn s4 h11 s5 h40 hk hc hM hT hbm hbt).mono ?_
          rintro e w' ⟨hP, hg⟩
          refine ⟨?_, hg⟩
          cases ha : allG (writeG bndS d) ps (n + 1) with
          | error c => rw [ha] at hP; exact hP
          | ok r => rw [ha] at hP; exact hP
        | false =>
          obtain ⟨hR, hmn, hp0⟩ := may_one hmay'
          have e : writeG bndS (d + 1) n (.mk (lh.map fl2) bb.data.toList false ps) = .ok (headW (stripH (lh.map fl2) ++ [(cteB, (encU bb.data.toList).1)]) ++ (encU bb.data.toList).2, n + 1) := by
            rw [writeG, if_neg h40, if_neg hmay]; rfl
          rw [e, hp0]
          exact rw_one A c1 bb A2 cap2 lh n bc k w S hS h4 hsh hR hmn (by rw [size_list] at s3; exact s3) h40 (by omega) hc hM hT hbm hbt
theorem rw_all : ∀ d, RwAt d
  | 0 => fun D p v n bc k w S hS hv hsm hn hk hc hM hT hbm hbt => by
    have e : writeG bndS 0 n p = .error 4 := rfl
    rw [e]
    exact rw_no v n bc k w hv.shape (by omega) (by omega) (.inr (by omega)) hc
  | d + 1 => rw_step d (rw_all d)
def RWTPost (O : Except Nat (List UInt8)) (e : Ending) : Prop :=
  match O with
  | .error c => e = .returned (.tuple #[.string ⟨#[]⟩, .int .i64 c])
  | .ok t => ∃ T : ByteArray, e = .returned (.tuple #[.string T, .int .i64 0]) ∧ T.data.toList = t

set_option maxHeartbeats 2000000 in
set_option maxRecDepth 100000 in
theorem rWriteTop_any (D : Nat) (p : PT) (v : P4) (w : World) (S : Nat → Prop) (hv : PV w S D v p) (hsm : SmT D p) (hM : Max w) (hT : Tab w) :
    Calls Tryz.prog 19 #[v.v] w fun e w' => RWTPost (topW (writeG bndS 4 0 p)) e ∧ Below w.heap.size w w' := by
  obtain ⟨A, n, c, bb, m, A2, n2, c2, rfl⟩ := hv.shape
  obtain ⟨O, HO⟩ : ∃ O, Box (O = writeG bndS 4 0 p) := ⟨_, ⟨rfl⟩⟩
  rw [← HO.out]
  have hb0 := below_oneP w (obj4 (.slice A n c) (.string bb) (.bool m) (.slice A2 n2 c2))
  have hb1 := below_oneP (w.alloc (obj4 (.slice A n c) (.string bb) (.bool m) (.slice A2 n2 c2))) (.cells #[.int .i64 0] 3)
  have hb01 : Below w.heap.size w _ := hb0.trans (hb1.mono (by simp))
  have hC : CI ((w.alloc (obj4 (.slice A n c) (.string bb) (.bool m) (.slice A2 n2 c2))).alloc (.cells #[.int .i64 0] 3)) (w.heap.size + 1) 0 := by
    have hh := heap_oneP (w.alloc (obj4 (.slice A n c) (.string bb) (.bool m) (.slice A2 n2 c2))) (.cells #[.int .i64 0] 3)
    rw [size_oneP] at hh
    exact ci_of hh
  have HC := Box.mk hC
  have hml := hM.1
  have htl := hT.lt
  have HM := Box.mk (hM.below hb01 hml)
  have HT := Box.mk (hT.below hb01 htl)
  have HV : Box (PV ((w.alloc (obj4 (.slice A n c) (.string bb) (.bool m) (.slice A2 n2 c2))).alloc (.cells #[.int .i64 0] 3)) (fun i => i < w.heap.size) D (.slice A n c, .string bb, .bool m, .slice A2 n2 c2) p) := ⟨PV.abv (abv_below hb01) _ _ _ (PV.mono (fun i hi _ => hi) _ _ _ hv)⟩
  have HSm := Box.mk hsm
  clear hC hM hT hv hsm
  unfold P4.v
  go_enter Tryz.func19, Tryz.ntmps19
  go_wp2_with fail
  refine (rw_all 4 D p (.slice A n c, .string bb, .bool m, .slice A2 n2 c2) 0 (w.heap.size + 1) 0 _ _ (fun i hi => by have : i < w.heap.size := hi; omega) HV.out HSm.out (by omega) (by omega) HC.out HM.out HT.out (by omega) (by omega)).mono ?_
  rintro e w1 ⟨hR, hg1⟩
  have hbb : Below w.heap.size w w1 := hb01.trans (below_gr hg1 (by omega) (by simp))
  clear HC HM HT HV
  rw [← HO.out] at hR
  unfold RwPost at hR
  cases O with
  | error z =>
    obtain rfl := hR
    have hz : ((z : Int) == 0) = false := by
      rcases writeG_err _ _ _ _ _ HO.out.symm with rfl | rfl <;> rfl
    clear HO
    go_wp2
    go_ret2
    exact ⟨rfl, hbb⟩
  | ok q =>
    obtain ⟨T, rfl, hTq, _⟩ := hR
    have hl := writeB_len 4 D 0 p q HSm.out HO.out.symm
    have hts : T.size = q.1.length := by rw [← size_list, hTq]
    have hts2 : T.size ≤ 1000000000 := by omega
    clear HO
    by_cases h2 : 20000 < T.size
    · have HQ : Box (topW (.ok q) = .error 4) := ⟨by unfold topW; simp only; rw [if_pos (by omega)]⟩
      clear hl hts hTq
      go_wp2
      go_ret2
      exact ⟨by rw [HQ.out]; rfl, hbb⟩
    · have HQ : Box (topW (.ok q) = .ok q.1) := ⟨by unfold topW; simp only; rw [if_neg (by omega)]⟩
      have HTq := Box.mk hTq
      clear hl hts hTq
      go_wp2
      go_ret2
      exact ⟨by rw [HQ.out]; exact ⟨T, rfl, HTq.out⟩, hbb⟩

end Go.Proofs.YtnjjjkhhoaadfaaGreatDoor
