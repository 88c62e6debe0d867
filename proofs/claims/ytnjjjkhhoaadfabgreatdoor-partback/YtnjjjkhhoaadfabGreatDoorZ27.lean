import Derived.Test.YtnjjjkhhoaadfabGreatDoorZF6
import Derived.Test.YtnjjjkhhoaadfabGreatDoorZShelfL
import Derived.Test.YtnjjjkhhoaadfabGreatDoorZ18
import Derived.Deep.RegionHeld3
import Derived.Test.YtnjjjkhhoaadfabGreatDoorZ26
import Derived.Deep.QuietTactic
namespace Go.Proofs.YtnjjjkhhoaadfabGreatDoor
open Go.RowKit

/- What of a head is the writer's own: binderykeep's. -/
theorem low_small (l : List UInt8) : Lib.toLowerA l = smallS l := by
  unfold Lib.toLowerA smallS
  refine List.map_congr_left fun c _ => ?_
  have key : ∀ n : Fin 256, Lib.lowerB (UInt8.ofNat n.val) = smallC (UInt8.ofNat n.val) := by decide +kernel
  have := key ⟨c.toNat, c.toNat_lt⟩
  have e : UInt8.ofNat c.toNat = c := by simp
  simpa [e] using this
theorem right_ascii (f : PB) (h : rightB f = true) : ∀ c ∈ f.1, c.toNat < 128 := by
  unfold rightB at h
  simp only [Bool.and_eq_true] at h
  have hn := h.1
  unfold nameS at hn
  simp only [Bool.and_eq_true] at hn
  intro c hc
  have h2 := List.all_eq_true.1 hn.2 c hc
  have key : ∀ n : Fin 256, nameC (UInt8.ofNat n.val) = true → n.val < 128 := by decide +kernel
  have := key ⟨c.toNat, c.toNat_lt⟩
  have e : UInt8.ofNat c.toNat = c := by simp
  simp only [e] at this
  exact this h2
def OJ (many fst : Bool) (L : List PB) : List PB := if many && fst then blankCT L else stripH L
def OI (many : Bool) (L : List PB) (j : Nat) (fst : Bool) (ls : List PB) : Prop := oursH many L = ls ++ OJ many fst (L.drop j)
theorem blank_cons (f : PB) (L : List PB) : blankCT (f :: L) = if smallS f.1 = cteN then blankCT L else if smallS f.1 = ctN then (f.1, []) :: stripH L else f :: blankCT L := rfl
theorem oi_start (many : Bool) (L : List PB) : OI many L 0 true [] := by
  unfold OI OJ oursH
  cases many <;> simp
theorem oi_cte {many fst : Bool} {L : List PB} {j : Nat} {ls : List PB} (h : OI many L j fst ls) (f : PB) (hf : L[j]? = some f) (hc : smallS f.1 = cteN) : OI many L (j + 1) fst ls := by
  unfold OI at h ⊢
  rw [h, drop_at L j f hf]
  unfold OJ
  cases many <;> cases fst <;> simp [blank_cons, strip_cons, hc]
theorem oi_blank {L : List PB} {j : Nat} {ls : List PB} (h : OI true L j true ls) (f : PB) (hf : L[j]? = some f) (ht : smallS f.1 = ctN) : OI true L (j + 1) false (ls ++ [(f.1, [])]) := by
  unfold OI at h ⊢
  rw [h, drop_at L j f hf]
  unfold OJ
  have hne : ¬ ctN = cteN := ct_ne
  simp [blank_cons, ht, hne]
theorem oi_ct {many fst : Bool} {L : List PB} {j : Nat} {ls : List PB} (h : OI many L j fst ls) (f : PB) (hf : L[j]? = some f) (hc : ¬ smallS f.1 = cteN) (hm : (many && fst) = false) : OI many L (j + 1) false (ls ++ [f]) := by
  unfold OI at h ⊢
  rw [h, drop_at L j f hf]
  unfold OJ
  rw [hm]
  simp [strip_cons, hc]
theorem oi_other {many fst : Bool} {L : List PB} {j : Nat} {ls : List PB} (h : OI many L j fst ls) (f : PB) (hf : L[j]? = some f) (hc : ¬ smallS f.1 = cteN) (ht : ¬ smallS f.1 = ctN) : OI many L (j + 1) fst (ls ++ [f]) := by
  unfold OI at h ⊢
  rw [h, drop_at L j f hf]
  unfold OJ
  cases many <;> cases fst <;> simp [blank_cons, strip_cons, hc, ht]
theorem oi_end {many fst : Bool} {L : List PB} {j : Nat} {ls : List PB} (h : OI many L j fst ls) (hj : L.length ≤ j) : oursH many L = ls := by
  unfold OI OJ at h
  rw [List.drop_of_length_le hj] at h
  rw [h]
  split <;> simp [blankCT, stripH]

set_option maxHeartbeats 4000000 in
set_option maxRecDepth 100000 in
theorem kours_any (A : Option Addr) (c : Nat) (lh : List Fl) (ba : Nat) (many : Bool) (w : World) (hH : Half lh) (hF : FL w (.slice A lh.length c) lh) (hR : (lh.map fl2).all rightB = true) (hm : w.cell? ⟨ba, 2, none⟩ = some (.bool many)) :
    Calls Tryz.prog 13 #[.slice A lh.length c, .pointer (some ⟨ba, 0, none⟩)] w fun e w' => ∃ v M, e = .returned v ∧ OwnF w' w.heap.size v M ∧ M.map fl2 = oursH many (lh.map fl2) ∧ M.length ≤ lh.length ∧ Below w.heap.size w w' := by
  have HH := Box.mk hH
  have hll := hH.1
  have HFA : Box (FLA w A lh) := ⟨by
    obtain ⟨A', cap, hv, _, h1⟩ := hF
    simp only [Value.slice.injEq] at hv
    rw [hv.1]; exact h1⟩
  have HR := Box.mk hR
  have hbal := World.block_lt_of_cell? w _ hm
  have HMn := Box.mk hm
  clear hH hF hR hm
  go_enter Tryz.func13, Tryz.ntmps13
  go_wp2
  go_loopw [4, 5, 6] (fun v q i wr => ∃ (j : Nat) (ls : List Fl) (fst : Bool), j ≤ lh.length ∧ i = .int .i64 j ∧ q = .bool fst ∧ ls.length ≤ j ∧ Box (OwnF wr w.heap.size v ls) ∧ Below w.heap.size w wr ∧ Box (OI many (lh.map fl2) j fst (ls.map fl2))) (fun _ _ i _ => lh.length - (intOf i).toNat)
  case atStart => exact ⟨0, [], true, Nat.zero_le _, rfl, rfl, Nat.le_refl _, ⟨OwnF.nil _ _⟩, Below.refl _ _, ⟨oi_start _ _⟩⟩
  case round =>
    generalize wr = wp at hrel ⊢
    obtain ⟨j, ls, fst, hj, rfl, rfl, hlsj, HOl, hbp, HLI⟩ := hrel
    have hszp := hbp.size
    by_cases hlt : j < lh.length
    · obtain ⟨b1, o1, fn, fv, hAA, HN, _, _, hbl1, d0, d1⟩ := HFA.out.elem HH.out.tiny hbp j hlt
      subst hAA
      have hfs := HH.out.2 (fn, fv) (List.mem_of_getElem? HN.out)
      simp only at hfs
      have HNl : Box ((lh.map fl2)[j]? = some (fn.data.toList, fv.data.toList)) := ⟨by rw [List.getElem?_map, HN.out]; rfl⟩
      have hasc := right_ascii _ (List.all_eq_true.1 HR.out _ (List.mem_of_getElem? HNl.out))
      have hascii : ∀ (k : Nat) (b : UInt8), fn.data.toList[k]? = some b → b.toNat < 128 := fun k b hb => hasc b (List.mem_of_getElem? hb)
      have HAs := Box.mk hascii
      clear HN hasc hascii
      go_wp2_with fail
      refine (Sx.Tryz.strings_ToLower_ascii fn _ (by omega) HAs.out).mono ?_
      rintro e w6 ⟨rfl, hb6⟩
      rw [low_small]
      obtain ⟨t, Ht⟩ : ∃ t : ByteArray, Box (t = ⟨(smallS fn.data.toList).toArray⟩) := ⟨_, ⟨rfl⟩⟩
      rw [← Ht.out]
      have ht : t.data.toList = smallS fn.data.toList := by rw [Ht.out]
      have hb56 : Below w.heap.size w w6 := hbp.trans (hb6.mono hszp)
      have hsz6 := hb6.size
      have d0' := (hb6.cell (p := ⟨b1, o1 + j * 2, none⟩) (by show b1 < wp.heap.size; omega)).trans d0
      have d1' := (hb6.cell (p := ⟨b1, o1 + j * 2 + 1, none⟩) (by show b1 < wp.heap.size; omega)).trans d1
      have HO6 := Box.mk (HOl.out.below hb6 (Nat.le_refl _))
      have hM6 := (hb56.cell (p := ⟨ba, 2, none⟩) hbal).trans HMn.out
      clear HOl d0 d1 HAs Ht
      by_cases hcte : smallS fn.data.toList = cteN
      · have et := teq_of t [99, 111, 110, 116, 101, 110, 116, 45, 116, 114, 97, 110, 115, 102, 101, 114, 45, 101, 110, 99, 111, 100, 105, 110, 103] (ht.trans hcte)
        have HLI' := Box.mk (oi_cte HLI.out _ HNl.out hcte)
        clear HLI HNl ht
        go_wp2
        go_roundw
        case rel => exact ⟨j + 1, ls, fst, by omega, by go_num, rfl, by omega, HO6, hb56, HLI'⟩
        case measure => simp [intOf]; omega
      · have et := tne_of t [99, 111, 110, 116, 101, 110, 116, 45, 116, 114, 97, 110, 115, 102, 101, 114, 45, 101, 110, 99, 111, 100, 105, 110, 103] (fun h => hcte (ht.symm.trans h))
        have hba := below_oneP w6 (.cells #[.string fn, .string fv] 40)
        have hka := heap_oneP w6 (.cells #[.string fn, .string fv] 40)
        have hba2 : Below w.heap.size w (w6.alloc (.cells #[.string fn, .string fv] 40)) := hb56.alloc hb56.size _
        have hMa : (w6.alloc (.cells #[.string fn, .string fv] 40)).cell? ⟨ba, 2, none⟩ = some (.bool many) := (hba2.cell (p := ⟨ba, 2, none⟩) hbal).trans HMn.out
        have HOa := Box.mk (HO6.out.below hba (Nat.le_refl _))
        by_cases hct : smallS fn.data.toList = ctN
        · have et2 := teq_of t [99, 111, 110, 116, 101, 110, 116, 45, 116, 121, 112, 101] (ht.trans hct)
          cases hmf : (many && fst)
          · have HLI' : Box (OI many (lh.map fl2) (j + 1) false ((ls ++ [(fn, fv)]).map fl2)) := ⟨by rw [List.map_append]; exact oi_ct HLI.out _ HNl.out hcte hmf⟩
            clear HLI HNl ht HO6
            cases fst <;> cases many
            · go_wp2_with (at_builtin; refine wp_appF _ w rfl (.tmp 42) (.tmp 44) rfl w.heap.size _ ls rfl (OwnF.below HOa.out ((Below.refl _ _).alloc (Nat.le_refl _) _) (Nat.le_refl _)) _ _ (fn, fv) rfl (by simp) (by simp) (by omega) (by have := hba2.size; simp at this ⊢; omega) (hba2.alloc hba2.size _) ?_; intro v7 w7 hO7 hb7)
              go_roundw
              case rel => exact ⟨j + 1, ls ++ [(fn, fv)], false, by omega, by go_num, rfl, by simp; omega, ⟨hO7⟩, hb7, HLI'⟩
              case measure => simp [intOf]; omega
            · go_wp2_with (at_builtin; refine wp_appF _ w rfl (.tmp 42) (.tmp 44) rfl w.heap.size _ ls rfl (OwnF.below HOa.out ((Below.refl _ _).alloc (Nat.le_refl _) _) (Nat.le_refl _)) _ _ (fn, fv) rfl (by simp) (by simp) (by omega) (by have := hba2.size; simp at this ⊢; omega) (hba2.alloc hba2.size _) ?_; intro v7 w7 hO7 hb7)
              go_roundw
              case rel => exact ⟨j + 1, ls ++ [(fn, fv)], false, by omega, by go_num, rfl, by simp; omega, ⟨hO7⟩, hb7, HLI'⟩
              case measure => simp [intOf]; omega
            · go_wp2_with (at_builtin; refine wp_appF _ w rfl (.tmp 42) (.tmp 44) rfl w.heap.size _ ls rfl (OwnF.below HOa.out ((Below.refl _ _).alloc (Nat.le_refl _) _) (Nat.le_refl _)) _ _ (fn, fv) rfl (by simp) (by simp) (by omega) (by have := hba2.size; simp at this ⊢; omega) (hba2.alloc hba2.size _) ?_; intro v7 w7 hO7 hb7)
              go_roundw
              case rel => exact ⟨j + 1, ls ++ [(fn, fv)], false, by omega, by go_num, rfl, by simp; omega, ⟨hO7⟩, hb7, HLI'⟩
              case measure => simp [intOf]; omega
            · cases hmf
          · simp only [Bool.and_eq_true] at hmf
            obtain ⟨rfl, rfl⟩ := hmf
            have HLI' : Box (OI true (lh.map fl2) (j + 1) false ((ls ++ [(fn, (⟨#[]⟩ : ByteArray))]).map fl2)) := ⟨by rw [List.map_append]; exact oi_blank HLI.out _ HNl.out hct⟩
            have hbW : Below w.heap.size w (w6.alloc (.cells #[.string fn, .string ⟨#[]⟩] 40)) := hb56.alloc hb56.size _
            have HOw := Box.mk (HO6.out.below (below_oneP w6 (.cells #[.string fn, .string ⟨#[]⟩] 40)) (Nat.le_refl _))
            clear HLI HNl ht HO6 HOa hba hka hba2
            go_wp2_with (at_builtin; refine wp_appF _ w rfl (.tmp 42) (.tmp 44) rfl w.heap.size _ ls rfl (OwnF.below HOw.out ((Below.refl _ _).alloc (Nat.le_refl _) _) (Nat.le_refl _)) _ _ (fn, (⟨#[]⟩ : ByteArray)) rfl (by simp) (by simp) (by omega) (by have := hbW.size; simp at this ⊢; omega) (hbW.alloc hbW.size _) ?_; intro v7 w7 hO7 hb7)
            go_roundw
            case rel => exact ⟨j + 1, ls ++ [(fn, (⟨#[]⟩ : ByteArray))], false, by omega, by go_num, rfl, by simp; omega, ⟨hO7⟩, hb7, HLI'⟩
            case measure => simp [intOf]; omega
        · have et2 := tne_of t [99, 111, 110, 116, 101, 110, 116, 45, 116, 121, 112, 101] (fun h => hct (ht.symm.trans h))
          have HLI' : Box (OI many (lh.map fl2) (j + 1) fst ((ls ++ [(fn, fv)]).map fl2)) := ⟨by rw [List.map_append]; exact oi_other HLI.out _ HNl.out hcte hct⟩
          clear HLI HNl ht HO6
          cases fst
          · go_wp2_with (at_builtin; refine wp_appF _ w rfl (.tmp 42) (.tmp 44) rfl w.heap.size _ ls rfl (OwnF.below HOa.out ((Below.refl _ _).alloc (Nat.le_refl _) _) (Nat.le_refl _)) _ _ (fn, fv) rfl (by simp) (by simp) (by omega) (by have := hba2.size; simp at this ⊢; omega) (hba2.alloc hba2.size _) ?_; intro v7 w7 hO7 hb7)
            go_roundw
            case rel => exact ⟨j + 1, ls ++ [(fn, fv)], false, by omega, by go_num, rfl, by simp; omega, ⟨hO7⟩, hb7, HLI'⟩
            case measure => simp [intOf]; omega
          · go_wp2_with (at_builtin; refine wp_appF _ w rfl (.tmp 42) (.tmp 44) rfl w.heap.size _ ls rfl (OwnF.below HOa.out ((Below.refl _ _).alloc (Nat.le_refl _) _) (Nat.le_refl _)) _ _ (fn, fv) rfl (by simp) (by simp) (by omega) (by have := hba2.size; simp at this ⊢; omega) (hba2.alloc hba2.size _) ?_; intro v7 w7 hO7 hb7)
            go_roundw
            case rel => exact ⟨j + 1, ls ++ [(fn, fv)], true, by omega, by go_num, rfl, by simp; omega, ⟨hO7⟩, hb7, HLI'⟩
            case measure => simp [intOf]; omega
    · have HM : Box (ls.map fl2 = oursH many (lh.map fl2)) := ⟨(oi_end HLI.out (by rw [List.length_map]; omega)).symm⟩
      clear HLI HFA
      go_wp2
      go_ret
      exact ⟨_, ls, rfl, HOl.out, HM.out, by omega, hbp⟩

end Go.Proofs.YtnjjjkhhoaadfabGreatDoor

namespace Go.Proofs.YtnjjjkhhoaadfabGreatDoor
open Go.RowKit

/- Parts that are alike: binderykeep's. -/
theorem keep_ab {W w' : World} {p q : Addr} {u v : Value} (h0 : W.cell? p = some u) (h1 : W.cell? q = some v) (hb : Below W.heap.size W w') : w'.cell? p = some u ∧ w'.cell? q = some v ∧ Below W.heap.size W w' :=
  ⟨(hb.cell (p := p) (World.block_lt_of_cell? W _ h0)).trans h0, (hb.cell (p := q) (World.block_lt_of_cell? W _ h1)).trans h1, hb⟩
theorem ours_len (many : Bool) (L : List PB) (a b : Nat) (h : ∀ f ∈ L, f.1.length ≤ a ∧ f.2.length ≤ b) : ∀ f ∈ oursH many L, f.1.length ≤ a ∧ f.2.length ≤ b := by
  have hs : ∀ (L : List PB), (∀ f ∈ L, f.1.length ≤ a ∧ f.2.length ≤ b) → ∀ f ∈ stripH L, f.1.length ≤ a ∧ f.2.length ≤ b := fun L h f hf => h f (List.mem_filter.1 hf).1
  unfold oursH
  cases many with
  | false => exact hs L h
  | true =>
    simp only [if_true]
    induction L with
    | nil => intro f hf; cases hf
    | cons g L ih =>
      have hg := h g (by simp)
      have hr : ∀ f ∈ L, f.1.length ≤ a ∧ f.2.length ≤ b := fun f hf => h f (by simp [hf])
      intro f hf
      rw [blank_cons] at hf
      split at hf
      · exact ih hr f hf
      · split at hf
        · rcases List.mem_cons.1 hf with rfl | hf
          · exact ⟨hg.1, by simp⟩
          · exact hs L hr f hf
        · rcases List.mem_cons.1 hf with rfl | hf
          · exact hg
          · exact ih hr f hf
def LkAt (d : Nat) : Prop := ∀ (u v : P4) (p q : PT) (S T : Nat → Prop) (w : World), PV w S d u p → PV w T d v q → Likes p q → RgT d p → RgT d q →
    Calls Tryz.prog 9 #[u.v, v.v] w fun e w' => e = .returned (.bool true) ∧ Below w.heap.size w w'

set_option maxHeartbeats 8000000 in
set_option maxRecDepth 100000 in
theorem likes_step (d : Nat) (ih : LkAt d) : LkAt (d + 1) := by
  intro u v p q S T w hu hv hlk hrp hrq
  cases hlk with
  | mk L L' b many ps ps' hours hL =>
  obtain ⟨A1, c1, bb, lh, h1, h2, h3, h4, h5, h6, h7, h9, h10, h11⟩ := hu
  obtain ⟨A2, c2, bb', lh', k1, k2, k3, k4, k5, k6, k7, k9, k10, k11⟩ := hv
  obtain ⟨u0, u1, u2, u3⟩ := u
  obtain ⟨v0, v1, v2, v3⟩ := v
  simp only at h1 h2 h3 k1 k2 k3 h4 k4
  obtain rfl : bb = bb' := bytes_eq (h7.trans k7.symm)
  subst h1 h2 h3 k1 k2 k3 h5 k5
  obtain ⟨B1, d1, hh1, e1, f1⟩ := h4.fl
  obtain ⟨B2, d2, hh2, e2, f2⟩ := k4.fl
  subst hh1 hh2
  have hlenps : ∀ (ps ps' : List PT), LikesL ps ps' → ps'.length = ps.length ∧ ∀ i (hi : i < ps.length) (hi' : i < ps'.length), Likes ps[i] ps'[i] := by
    intro ps
    induction ps with
    | nil => intro ps' h; cases h; exact ⟨rfl, fun i hi => absurd hi (by simp)⟩
    | cons p ps ihp =>
      intro ps' h
      cases h with
      | cons _ q _ qs h1 h2 =>
        obtain ⟨i1, i2⟩ := ihp qs h2
        refine ⟨by simp [i1], fun i hi hi' => ?_⟩
        cases i with
        | zero => exact h1
        | succ i => exact i2 i (by simpa using hi) (by simpa using hi')
  obtain ⟨hpl, hpi⟩ := hlenps ps ps' hL
  have HPI := Box.mk hpi
  have hpl1 : ps'.length ≤ ps.length := Nat.le_of_eq hpl
  have hpl2 : ps.length ≤ ps'.length := Nat.le_of_eq hpl.symm
  have HP1 := Box.mk h11
  have HP2 := Box.mk k11
  have HF1 := Box.mk h4
  have HF2 := Box.mk k4
  have HH1 := Box.mk h6
  have HH2 := Box.mk k6
  have HR1 := Box.mk hrp.1
  have HR2 := Box.mk hrq.1
  have HRs1 := Box.mk hrp.2
  have HRs2 := Box.mk hrq.2
  have HOU := Box.mk hours
  have IH := Box.mk ih
  obtain ⟨W, HW⟩ : ∃ W, Box (W = (w.alloc (obj4 (.slice B1 lh.length d1) (.string bb) (.bool many) (.slice A1 ps.length c1))).alloc (obj4 (.slice B2 lh'.length d2) (.string bb) (.bool many) (.slice A2 ps'.length c2))) := ⟨_, ⟨rfl⟩⟩
  have hb0 : Below w.heap.size w W := by rw [HW.out]; exact below_two _ _ _
  have hk := heap_twoP w (obj4 (.slice B1 lh.length d1) (.string bb) (.bool many) (.slice A1 ps.length c1)) (obj4 (.slice B2 lh'.length d2) (.string bb) (.bool many) (.slice A2 ps'.length c2))
  have hszW : W.heap.size = w.heap.size + 2 := by rw [HW.out]; simp
  rw [← HW.out] at hk
  have HK := Box.mk hk
  obtain ⟨x0, x1, x2, x3, xf⟩ := b4_of hk.1
  obtain ⟨y0, y1, y2, y3, yf⟩ := b4_of hk.2
  clear h11 k11 f1 f2 h4 k4 h6 k6 h7 k7 hk ih hours hL hpi hlenps hrp hrq hpl
  unfold P4.v
  simp only
  go_enter Tryz.func9, Tryz.ntmps9
  go_wp2
  rw [← HW.out]
  go_region_held3 (fun w' => w'.cell? ⟨w.heap.size, 0, none⟩ = some (.slice B1 lh.length d1) ∧ w'.cell? ⟨w.heap.size + 1, 0, none⟩ = some (.slice B2 lh'.length d2) ∧ Below W.heap.size W w')
    ((go_split_ands; exact keep_ab x0 y0 (by first | exact (Below.refl _ _).drew | exact Below.trans (by assumption) (Below.mono hb5 (Below.size (by assumption))) | exact Below.trans (by assumption) (Below.mono hb6 (Below.size (by assumption))))))
    (first
      | (go_at_call 13; refine (kours_any _ _ _ w.heap.size many _ (by first | exact HH1.out | exact HH2.out) (by first | exact FL.below (HF1.out.abv (abv_below hb0)).fl (by go_split_ands; assumption) (Nat.le_refl _) | exact FL.below (HF2.out.abv (abv_below hb0)).fl (by go_split_ands; assumption) (Nat.le_refl _)) (by first | exact HR1.out | exact HR2.out) (by go_split_ands; exact (Below.cell (by assumption) (p := ⟨w.heap.size, 2, none⟩) (by show w.heap.size < W.heap.size; omega)).trans x2)).mono ?_; first | rintro e w5 ⟨v5, M5, rfl, hO5, (hM5 : List.map fl2 M5 = oursH many (List.map fl2 lh)), hl5, hb5⟩ | rintro e w6 ⟨v6, M6, rfl, hO6, (hM6 : List.map fl2 M6 = oursH many (List.map fl2 lh')), hl6, hb6⟩))
  obtain rfl : M6 = M5 := fl2_inj (hM6.trans (HOU.out.symm.trans hM5.symm))
  have hbW5 : Below W.heap.size W w5 := (Below.refl W.heap.size W).drew.trans hb5
  have hbW6 : Below W.heap.size W w6 := hbW5.trans (hb6.mono hbW5.size)
  have HO5 := Box.mk (own_mono (OwnF.below hO5 hb6 (Nat.le_refl _)) (show W.heap.size ≤ W.heap.size from Nat.le_refl _))
  have HO6 := Box.mk hO6
  have hM100 := HH1.out.1
  have hsz6 := hbW6.size
  obtain ⟨Ax, nx, cx, hvx⟩ : ∃ A n c, v5 = .slice A n c := by
    rcases hO5.shape with ⟨rfl, _⟩ | ⟨g, cap, rfl, _⟩
    · exact ⟨_, _, _, rfl⟩
    · exact ⟨_, _, _, rfl⟩
  obtain ⟨Ay, ny, cy, hvy⟩ : ∃ A n c, v6 = .slice A n c := by
    rcases hO6.shape with ⟨rfl, _⟩ | ⟨g, cap, rfl, _⟩
    · exact ⟨_, _, _, rfl⟩
    · exact ⟨_, _, _, rfl⟩
  subst hvx hvy
  have hnx : nx = M6.length := by
    rcases hO5.shape with ⟨h1, h2⟩ | ⟨g, cap, h1, _⟩
    · simp only [Value.slice.injEq] at h1; rw [h2]; exact h1.2.1
    · simp only [Value.slice.injEq] at h1; exact h1.2.1
  have hny : ny = M6.length := by
    rcases hO6.shape with ⟨h1, h2⟩ | ⟨g, cap, h1, _⟩
    · simp only [Value.slice.injEq] at h1; rw [h2]; exact h1.2.1
    · simp only [Value.slice.injEq] at h1; exact h1.2.1
  subst hnx hny
  have HX : Box (FLA w6 Ax M6) := ⟨by
    obtain ⟨A', cap, hv, _, h1⟩ := HO5.out.fl
    simp only [Value.slice.injEq] at hv
    rw [hv.1]; exact h1⟩
  have HY : Box (FLA w6 Ay M6) := ⟨by
    obtain ⟨A', cap, hv, _, h1⟩ := HO6.out.fl
    simp only [Value.slice.injEq] at hv
    rw [hv.1]; exact h1⟩
  have HTm : Box (Tiny M6) := ⟨by
    refine ⟨by omega, fun f hf => ?_⟩
    have h1 : fl2 f ∈ oursH many (lh.map fl2) := by rw [← hM5]; exact List.mem_map_of_mem hf
    have h2 := ours_len many (lh.map fl2) 100000 100000 (fun g hg => by
      obtain ⟨x, hx, rfl⟩ := List.mem_map.1 hg
      have := HH1.out.2 x hx
      unfold fl2
      simp only
      rw [size_list, size_list]
      exact this) _ h1
    unfold fl2 at h2
    simp only at h2
    rw [size_list, size_list] at h2
    omega⟩
  have hkx := (hbW6.block w.heap.size (by omega)).trans HK.out.1
  have hky := (hbW6.block (w.heap.size + 1) (by omega)).trans HK.out.2
  clear x0 x1 x2 x3 xf y0 y1 y2 y3 yf
  obtain ⟨x0, x1, x2, x3, xf⟩ := b4_of hkx
  obtain ⟨y0, y1, y2, y3, yf⟩ := b4_of hky
  clear HF1 HF2 HH1 HH2 HR1 HR2 HOU hM5 hM6 hO5 hO6 HO5 HO6 hb5 hb6 hbW5 HW
  go_wp2
  go_loopw [8] (fun i wr => ∃ k : Nat, k ≤ M6.length ∧ i = .int .i64 k ∧ Below w6.heap.size w6 wr) (fun i _ => M6.length - (intOf i).toNat)
  case atStart => exact ⟨0, Nat.zero_le _, rfl, Below.refl _ _⟩
  case round =>
    obtain ⟨k, hk, rfl, hb⟩ := hrel
    by_cases hlt : k < M6.length
    · obtain ⟨b1, o1, n, v, rfl, HN, hn, hv, hbl, d0, d1'⟩ := HX.out.elem HTm.out hb k hlt
      obtain ⟨b2, o2, n2, v2, rfl, HN2, _, _, hbl2, d2', d3⟩ := HY.out.elem HTm.out hb k hlt
      have hnv : n = n2 ∧ v = v2 := by
        have := HN.out.symm.trans HN2.out
        simpa using this
      obtain ⟨rfl, rfl⟩ := hnv
      clear HX HY HTm HN HN2 HP1 HP2 IH HK HPI HRs1 HRs2 x0 x1 x2 x3 xf y0 y1 y2 y3 yf
      go_wp2
      go_region
      go_wp2
      go_roundw
      case rel => exact ⟨k + 1, by omega, by go_num, hb.drew⟩
      case measure => simp [intOf]; omega
    · clear HX HY HTm x0 x1 x2 x3 xf y0 y1 y2 y3 yf
      go_wp2
      go_loopw [9] (fun i wr => ∃ k : Nat, k ≤ ps.length ∧ i = .int .i64 k ∧ Below w6.heap.size w6 wr) (fun i _ => ps.length - (intOf i).toNat)
      case atStart => exact ⟨0, Nat.zero_le _, rfl, hb⟩
      case round =>
        obtain ⟨k, hk, rfl, hb⟩ := hrel
        have hsz := hb.size
        obtain ⟨x0, x1, x2, x3, xf⟩ := b4_of ((hb.block w.heap.size (by omega)).trans hkx)
        obtain ⟨y0, y1, y2, y3, yf⟩ := b4_of ((hb.block (w.heap.size + 1) (by omega)).trans hky)
        by_cases hlt : k < ps.length
        · have hbw : Below w.heap.size w wr := hb0.trans ((hbW6.trans (hb.mono hsz6)).mono (by omega))
          obtain ⟨q1, ⟨b1, o1, rfl, _, r0, r1, r2, r3⟩, hv1⟩ := HP1.out k hlt
          obtain ⟨q2, ⟨b2, o2, rfl, _, t0, t1, t2, t3⟩, hv2⟩ := HP2.out k (by omega)
          obtain ⟨E1, n1, g1, bb1, m1, E2, n2, g2, rfl⟩ := hv1.shape
          obtain ⟨E3, n3, g3, bb3, m3, E4, n4, g4, rfl⟩ := hv2.shape
          have HV1 := Box.mk (PV.abv (abv_below hbw) _ _ _ hv1)
          have HV2 := Box.mk (PV.abv (abv_below hbw) _ _ _ hv2)
          have HLk := Box.mk (HPI.out k hlt (by omega))
          have HG1 := Box.mk (HRs1.out _ (List.getElem_mem hlt))
          have HG2 := Box.mk (HRs2.out _ (List.getElem_mem (show k < ps'.length by omega)))
          have hc1 := World.block_lt_of_cell? w _ r0
          have hc2 := World.block_lt_of_cell? w _ t0
          have r0' := (hbw.cell (p := ⟨b1, o1 + k * 4, none⟩) hc1).trans r0
          have r1' := (hbw.cell (p := ⟨b1, o1 + k * 4 + 1, none⟩) hc1).trans r1
          have r2' := (hbw.cell (p := ⟨b1, o1 + k * 4 + 2, none⟩) hc1).trans r2
          have r3' := (hbw.cell (p := ⟨b1, o1 + k * 4 + 3, none⟩) hc1).trans r3
          have t0' := (hbw.cell (p := ⟨b2, o2 + k * 4, none⟩) hc2).trans t0
          have t1' := (hbw.cell (p := ⟨b2, o2 + k * 4 + 1, none⟩) hc2).trans t1
          have t2' := (hbw.cell (p := ⟨b2, o2 + k * 4 + 2, none⟩) hc2).trans t2
          have t3' := (hbw.cell (p := ⟨b2, o2 + k * 4 + 3, none⟩) hc2).trans t3
          have hx := (hb.block w.heap.size (by omega)).trans hkx
          have hy := (hb.block (w.heap.size + 1) (by omega)).trans hky
          clear HP1 HP2 hv1 hv2 r0 r1 r2 r3 t0 t1 t2 t3 x0 x1 x2 xf y0 y1 y2 yf
          simp only at r0' r1' r2' r3' t0' t1' t2' t3'
          obtain ⟨pa, hpa⟩ : ∃ pa, pa = ps[k] := ⟨_, rfl⟩
          obtain ⟨pb, hpb⟩ : ∃ pb, pb = ps'[k]'(by omega) := ⟨_, rfl⟩
          rw [← hpa] at HV1 HLk HG1
          rw [← hpb] at HV2 HLk HG2
          clear hpa hpb
          have hkk : (k : Int) < (ps'.length : Int) := by omega
          go_wp2
          refine wp_region_quiet (C := InP wr) (by kernel_rfl) (by kernel_rfl) (InP.draw _) ?_
          refine quiet_do rfl (.pointer (some ⟨w.heap.size, 3, none⟩)) (fun w' hw' => quietAt_ok (by go_simp)) ?_
          go_simp
          refine quiet_do rfl (.slice (some ⟨b1, o1, none⟩) ps.length c1) (fun w' hw' => quietAt_ok (by obtain ⟨z0, z1, z2, z3, zf⟩ := b4_of (InP.blk hw' hx); go_simp)) ?_
          go_simp
          refine quiet_do rfl (.int .i64 k) (fun w' hw' => quietAt_ok (by go_simp)) ?_
          go_simp
          refine quiet_do rfl (.pointer (some ⟨b1, o1 + k * 4, none⟩)) (fun w' hw' => quietAt_ok (by go_simp)) ?_
          go_simp
          refine quiet_do rfl (.agg #[.slice E1 n1 g1, .string bb1, .bool m1, .slice E2 n2 g2]) (fun w' hw' => quietAt_ok (by have s0 := InP.cell hw' r0'; have s1 := InP.cell hw' r1'; have s2 := InP.cell hw' r2'; have s3 := InP.cell hw' r3'; go_simp)) ?_
          go_simp
          refine quiet_do rfl (.pointer (some ⟨w.heap.size + 1, 3, none⟩)) (fun w' hw' => quietAt_ok (by go_simp)) ?_
          go_simp
          refine quiet_do rfl (.slice (some ⟨b2, o2, none⟩) ps'.length c2) (fun w' hw' => quietAt_ok (by obtain ⟨z0, z1, z2, z3, zf⟩ := b4_of (InP.blk hw' hy); go_simp)) ?_
          go_simp
          refine quiet_do rfl (.int .i64 k) (fun w' hw' => quietAt_ok (by go_simp)) ?_
          go_simp
          refine quiet_do rfl (.pointer (some ⟨b2, o2 + k * 4, none⟩)) (fun w' hw' => quietAt_ok (by go_simp)) ?_
          go_simp
          refine quiet_do rfl (.agg #[.slice E3 n3 g3, .string bb3, .bool m3, .slice E4 n4 g4]) (fun w' hw' => quietAt_ok (by have s0 := InP.cell hw' t0'; have s1 := InP.cell hw' t1'; have s2 := InP.cell hw' t2'; have s3 := InP.cell hw' t3'; go_simp)) ?_
          go_simp
          refine quiet_do rfl (.bool true) (fun w' hw' => quietAt_call (f := 9) (args := #[.agg #[.slice E1 n1 g1, .string bb1, .bool m1, .slice E2 n2 g2], .agg #[.slice E3 n3 g3, .string bb3, .bool m3, .slice E4 n4 g4]]) (by go_simp) ((IH.out (.slice E1 n1 g1, .string bb1, .bool m1, .slice E2 n2 g2) (.slice E3 n3 g3, .string bb3, .bool m3, .slice E4 n4 g4) pa pb S T w' (PV.abv (abv_below hw') _ _ _ HV1.out) (PV.abv (abv_below hw') _ _ _ HV2.out) HLk.out HG1.out HG2.out).mono fun e w'' h => ⟨h.1, InP.step hw' h.2⟩)) ?_
          go_simp
          refine quiet_do rfl (.bool false) (fun w' hw' => quietAt_ok (by go_simp)) ?_
          go_simp
          refine wpQuiet_nil ?_
          intro w9 hw9
          have hb9 : Below w6.heap.size w6 w9 := hb.trans (Below.mono hw9 hsz)
          clear hw9 hx hy r0' r1' r2' r3' t0' t1' t2' t3' HV1 HV2
          go_wp2
          go_roundw
          case rel => exact ⟨k + 1, by omega, by go_num, hb9⟩
          case measure => simp [intOf]; omega
        · clear HP1 HP2 IH
          go_wp2
          go_ret
          exact ⟨rfl, hb0.trans ((hbW6.trans (hb.mono hsz6)).mono (by omega))⟩

theorem likes_all : ∀ d, LkAt d
  | 0 => fun _ _ _ _ _ _ _ h _ _ _ _ => h.elim
  | d + 1 => likes_step d (likes_all d)

end Go.Proofs.YtnjjjkhhoaadfabGreatDoor

