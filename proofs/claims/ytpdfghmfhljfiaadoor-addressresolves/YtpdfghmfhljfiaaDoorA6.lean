import Derived.Test.YtpdfghmfhljfiaaDoorA5
namespace Go.Proofs.YtpdfghmfhljfiaaDoor
open Go.RowKit

theorem popP_snoc (o : List (List UInt8)) (y : List UInt8) : popP (o ++ [y]) = if o = [] ∧ y = [] then o ++ [y] else o := by
  unfold popP
  by_cases h : o = [] ∧ y = []
  · rw [if_pos h, if_pos (by rw [h.1, h.2]; rfl)]
  · have : ¬ o ++ [y] = [[]] := by
      intro e
      apply h
      cases o with
      | nil => simpa using e
      | cons a o => simp at e
    rw [if_neg h, if_neg this, List.dropLast_concat]

set_option maxHeartbeats 4000000 in
set_option maxRecDepth 100000 in
theorem rdots_any (s : ByteArray) (w : World) (hs : s.size ≤ 1000000) (hm : Max w) :
    Calls Tryd.prog 56 #[.string s] w fun e w' => ∃ S : ByteArray, e = .returned (.string S) ∧ S.data.toList = dotsS s.data.toList ∧ Below w.heap.size w w' := by
  go_enter Tryd.func56, Tryd.ntmps56
  go_wp2_with fail
  refine (asplit_any s _ hs hm).mono ?_
  rintro e w1 ⟨c, pb, rfl, hpl, hpb, hcs, hcell, hsz1, hb1⟩
  have HP := Box.mk hpb
  have HC := Box.mk hcell
  clear hpb hcell
  go_wp2
  go_loopw [4, 12] (fun v i wr => ∃ (k : Nat) (o : List ByteArray), k ≤ c + 1 ∧ i = .int .i64 k ∧ o.length ≤ k ∧ OwnS wr w1.heap.size v o ∧ Below w1.heap.size w1 wr ∧ Box (dotsG [] true (pb.map lst) = dotsG (o.map lst) (decide (k = 0)) ((pb.map lst).drop k)) ∧ Box (k = 0 → o = [])) (fun _ i _ => c + 1 - (intOf i).toNat)
  case atStart => exact ⟨0, [], Nat.zero_le _, rfl, Nat.le_refl _, OwnS.nil _ _, Below.refl _ _, ⟨rfl⟩, ⟨fun _ => rfl⟩⟩
  case round =>
    obtain ⟨k, o, hk, rfl, hol, hown, hb, HD, HZ⟩ := hrel
    have hsz := hb.size
    by_cases hlt : k < c + 1
    · obtain ⟨x, HX, hx⟩ : ∃ x, Box (pb[k]? = some x) ∧ wr.cell? ⟨w.heap.size, k, none⟩ = some (.string x) :=
        ⟨_, ⟨List.getElem?_eq_getElem (by omega)⟩, (hb.cell (p := ⟨w.heap.size, k, none⟩) (show w.heap.size < _ by omega)).trans (HC.out k (by omega))⟩
      have HS : Box (dotsG [] true (pb.map lst) = dotsG (stepO (o.map lst) (decide (k = 0)) (lst x) (decide (k = c))) (decide (k + 1 = 0)) ((pb.map lst).drop (k + 1))) := ⟨dots_round HD.out HX.out (by omega) hpl⟩
      clear HD HZ HX HP HC
      by_cases hdd : lst x = dotdot
      · have HX2 := Box.mk hdd
        have q2 : (x.toList == [46, 46]) = true := lst_is hdd
        have q1 : (x.toList == [46]) = false := lst_not (by rw [hdd]; decide)
        have q0 : x.toList.isEmpty = false := nonempty_of x (by rw [← size_list, show x.data.toList = _ from hdd]; decide)
        clear hdd
        rcases hown.shape with ⟨rfl, rfl⟩ | ⟨g, cap, rfl, hB, hg, hcap, hmax, hcells⟩
        · have HM : Box (([] : List ByteArray).map lst = popP (([] : List ByteArray).map lst)) := ⟨rfl⟩
          obtain ⟨o, ho⟩ : ∃ o : List ByteArray, o = [] := ⟨_, rfl⟩
          rw [← ho] at HM hown hol HS
          have HO := Box.mk ho
          clear ho
          by_cases hkc : k = c
          · have q3 : ((k : Int) == (c : Int)) = true := beqI (by omega)
            have HE : Box (stepO (o.map lst) (decide (k = 0)) (lst x) (decide (k = c)) = (o ++ [(⟨#[]⟩ : ByteArray)]).map lst) := ⟨by rw [HX2.out, decide_eq_true hkc, List.map_append]; exact (stepO_dd_last _ _).trans (congrArg (· ++ [[]]) HM.out.symm)⟩
            clear hkc
            go_wp2_with (at_builtin; refine wp_appT _ w1 rfl _ _ rfl w1.heap.size _ o rfl (by exact hown) ⟨#[]⟩ rfl (by omega) (by exact hsz) (by exact hb) ?_; intro v3 w3 hown3 hb3)
            go_roundw
            case rel => exact ⟨k + 1, o ++ [⟨#[]⟩], by omega, by go_num, by simp; omega, hown3, hb3, ⟨by rw [HS.out, HE.out]⟩, ⟨fun h => absurd h (by omega)⟩⟩
            case measure => simp [intOf]; omega
          · have q3 : ((k : Int) == (c : Int)) = false := bneI (by omega)
            have HE : Box (stepO (o.map lst) (decide (k = 0)) (lst x) (decide (k = c)) = o.map lst) := ⟨by rw [HX2.out, decide_eq_false hkc]; exact (stepO_dd _ _).trans HM.out.symm⟩
            clear hkc
            go_wp2
            go_roundw
            case rel => exact ⟨k + 1, o, by omega, by go_num, by omega, hown, hb, ⟨by rw [HS.out, HE.out]⟩, ⟨fun h => absurd h (by omega)⟩⟩
            case measure => simp [intOf]; omega
        · rcases List.eq_nil_or_concat o with rfl | ⟨o2, y, rfl⟩
          · have HM : Box (([] : List ByteArray).map lst = popP (([] : List ByteArray).map lst)) := ⟨rfl⟩
            simp only [List.length_nil] at hown hcap hol ⊢
            obtain ⟨o, ho⟩ : ∃ o : List ByteArray, o = [] := ⟨_, rfl⟩
            rw [← ho] at HM hown HS
            have hol : o.length ≤ k := by rw [ho]; exact Nat.zero_le _
            have HO := Box.mk ho
            clear ho hcells
            by_cases hkc : k = c
            · have q3 : ((k : Int) == (c : Int)) = true := beqI (by omega)
              have HE : Box (stepO (o.map lst) (decide (k = 0)) (lst x) (decide (k = c)) = (o ++ [(⟨#[]⟩ : ByteArray)]).map lst) := ⟨by rw [HX2.out, decide_eq_true hkc, List.map_append]; exact (stepO_dd_last _ _).trans (congrArg (· ++ [[]]) HM.out.symm)⟩
              clear hkc
              go_wp2_with (at_builtin; refine wp_appT _ w1 rfl _ _ rfl w1.heap.size _ o rfl (by exact hown) ⟨#[]⟩ rfl (by omega) (by exact hsz) (by exact hb) ?_; intro v3 w3 hown3 hb3)
              go_roundw
              case rel => exact ⟨k + 1, o ++ [⟨#[]⟩], by omega, by go_num, by simp; omega, hown3, hb3, ⟨by rw [HS.out, HE.out]⟩, ⟨fun h => absurd h (by omega)⟩⟩
              case measure => simp [intOf]; omega
            · have q3 : ((k : Int) == (c : Int)) = false := bneI (by omega)
              have HE : Box (stepO (o.map lst) (decide (k = 0)) (lst x) (decide (k = c)) = o.map lst) := ⟨by rw [HX2.out, decide_eq_false hkc]; exact (stepO_dd _ _).trans HM.out.symm⟩
              clear hkc
              go_wp2
              go_roundw
              case rel => exact ⟨k + 1, o, by omega, by go_num, by omega, hown, hb, ⟨by rw [HS.out, HE.out]⟩, ⟨fun h => absurd h (by omega)⟩⟩
              case measure => simp [intOf]; omega
          · have hc := hcells o2.length (by simp)
            simp only [List.concat_eq_append, List.length_append, List.length_cons, List.length_nil, Nat.zero_add, List.getElem_concat_length] at hc hown hol hcap HS ⊢
            have ho2 := hown.take o2.length (by simp)
            rw [List.take_left] at ho2
            obtain ⟨n, hn⟩ : ∃ n, n = o2.length := ⟨_, rfl⟩
            obtain ⟨o, ho⟩ : ∃ o, o = o2 ++ [y] := ⟨_, rfl⟩
            have HP2 := Box.mk (popP_snoc (o2.map lst) (lst y))
            rw [← hn] at hc hown hol hcap ho2 ⊢
            rw [← ho] at hown HS
            have hol2 : o.length ≤ k := by rw [ho]; simp; omega
            have HO : Box (o.map lst = o2.map lst ++ [lst y]) := ⟨by rw [ho]; simp⟩
            have HN := Box.mk hn
            have hn2 : o2.length ≤ n := by omega
            clear hcells hn ho
            by_cases hsk : n = 0 ∧ y.size = 0
            · have HM : Box (o.map lst = popP (o.map lst)) := ⟨by rw [HO.out, HP2.out, if_pos ⟨List.eq_nil_of_length_eq_zero (by rw [List.length_map, ← HN.out]; exact hsk.1), data_nil y hsk.2⟩]⟩
              have hy := empty_of y hsk.2
              obtain ⟨rfl, _⟩ := hsk
              by_cases hkc : k = c
              · have q3 : ((k : Int) == (c : Int)) = true := beqI (by omega)
                have HE : Box (stepO (o.map lst) (decide (k = 0)) (lst x) (decide (k = c)) = (o ++ [(⟨#[]⟩ : ByteArray)]).map lst) := ⟨by rw [HX2.out, decide_eq_true hkc, List.map_append]; exact (stepO_dd_last _ _).trans (congrArg (· ++ [[]]) HM.out.symm)⟩
                clear hkc
                go_wp2_with (at_builtin; refine wp_appT _ w1 rfl _ _ rfl w1.heap.size _ o rfl (by exact hown) ⟨#[]⟩ rfl (by omega) (by exact hsz) (by exact hb) ?_; intro v3 w3 hown3 hb3)
                go_roundw
                case rel => exact ⟨k + 1, o ++ [⟨#[]⟩], by omega, by go_num, by simp; omega, hown3, hb3, ⟨by rw [HS.out, HE.out]⟩, ⟨fun h => absurd h (by omega)⟩⟩
                case measure => simp [intOf]; omega
              · have q3 : ((k : Int) == (c : Int)) = false := bneI (by omega)
                have HE : Box (stepO (o.map lst) (decide (k = 0)) (lst x) (decide (k = c)) = o.map lst) := ⟨by rw [HX2.out, decide_eq_false hkc]; exact (stepO_dd _ _).trans HM.out.symm⟩
                clear hkc
                go_wp2
                go_roundw
                case rel => exact ⟨k + 1, o, by omega, by go_num, by omega, hown, hb, ⟨by rw [HS.out, HE.out]⟩, ⟨fun h => absurd h (by omega)⟩⟩
                case measure => simp [intOf]; omega
            · have HM : Box (o2.map lst = popP (o.map lst)) := ⟨by rw [HO.out, HP2.out, if_neg (fun h => hsk ⟨by have := congrArg List.length h.1; rw [List.length_map, ← HN.out] at this; exact this, by rw [← size_list]; exact congrArg List.length h.2⟩)]⟩
              by_cases hn0 : n = 0
              · have hy := nonempty_of y (fun h => hsk ⟨hn0, h⟩)
                clear hsk
                subst hn0
                by_cases hkc : k = c
                · have q3 : ((k : Int) == (c : Int)) = true := beqI (by omega)
                  have HE : Box (stepO (o.map lst) (decide (k = 0)) (lst x) (decide (k = c)) = (o2 ++ [(⟨#[]⟩ : ByteArray)]).map lst) := ⟨by rw [HX2.out, decide_eq_true hkc, List.map_append]; exact (stepO_dd_last _ _).trans (congrArg (· ++ [[]]) HM.out.symm)⟩
                  clear hkc
                  go_wp2_with (at_builtin; refine wp_appT _ w1 rfl _ _ rfl w1.heap.size _ o2 rfl (by exact ho2) ⟨#[]⟩ rfl (by omega) (by exact hsz) (by exact hb) ?_; intro v3 w3 hown3 hb3)
                  go_roundw
                  case rel => exact ⟨k + 1, o2 ++ [⟨#[]⟩], by omega, by go_num, by simp; omega, hown3, hb3, ⟨by rw [HS.out, HE.out]⟩, ⟨fun h => absurd h (by omega)⟩⟩
                  case measure => simp [intOf]; omega
                · have q3 : ((k : Int) == (c : Int)) = false := bneI (by omega)
                  have HE : Box (stepO (o.map lst) (decide (k = 0)) (lst x) (decide (k = c)) = o2.map lst) := ⟨by rw [HX2.out, decide_eq_false hkc]; exact (stepO_dd _ _).trans HM.out.symm⟩
                  clear hkc
                  go_wp2
                  go_roundw
                  case rel => exact ⟨k + 1, o2, by omega, by go_num, by omega, ho2, hb, ⟨by rw [HS.out, HE.out]⟩, ⟨fun h => absurd h (by omega)⟩⟩
                  case measure => simp [intOf]; omega
              · have hn1 : 0 < n := by omega
                have q5 : (((n : Int) + 1) == 1) = false := bneI (by omega)
                clear hsk hn0
                by_cases hkc : k = c
                · have q3 : ((k : Int) == (c : Int)) = true := beqI (by omega)
                  have HE : Box (stepO (o.map lst) (decide (k = 0)) (lst x) (decide (k = c)) = (o2 ++ [(⟨#[]⟩ : ByteArray)]).map lst) := ⟨by rw [HX2.out, decide_eq_true hkc, List.map_append]; exact (stepO_dd_last _ _).trans (congrArg (· ++ [[]]) HM.out.symm)⟩
                  clear hkc
                  go_wp2_with (at_builtin; refine wp_appT _ w1 rfl _ _ rfl w1.heap.size _ o2 rfl (by exact ho2) ⟨#[]⟩ rfl (by omega) (by exact hsz) (by exact hb) ?_; intro v3 w3 hown3 hb3)
                  go_roundw
                  case rel => exact ⟨k + 1, o2 ++ [⟨#[]⟩], by omega, by go_num, by simp; omega, hown3, hb3, ⟨by rw [HS.out, HE.out]⟩, ⟨fun h => absurd h (by omega)⟩⟩
                  case measure => simp [intOf]; omega
                · have q3 : ((k : Int) == (c : Int)) = false := bneI (by omega)
                  have HE : Box (stepO (o.map lst) (decide (k = 0)) (lst x) (decide (k = c)) = o2.map lst) := ⟨by rw [HX2.out, decide_eq_false hkc]; exact (stepO_dd _ _).trans HM.out.symm⟩
                  clear hkc
                  go_wp2
                  go_roundw
                  case rel => exact ⟨k + 1, o2, by omega, by go_num, by omega, ho2, hb, ⟨by rw [HS.out, HE.out]⟩, ⟨fun h => absurd h (by omega)⟩⟩
                  case measure => simp [intOf]; omega
      · have q2 : (x.toList == [46, 46]) = false := lst_not hdd
        by_cases hd : lst x = dot
        · have HX2 := Box.mk hd
          have q1 : (x.toList == [46]) = true := lst_is hd
          have q0 : x.toList.isEmpty = false := nonempty_of x (by rw [← size_list, show x.data.toList = _ from hd]; decide)
          have HM : Box (o.map lst = o.map lst) := ⟨rfl⟩
          clear hdd hd
          by_cases hkc : k = c
          · have q3 : ((k : Int) == (c : Int)) = true := beqI (by omega)
            have HE : Box (stepO (o.map lst) (decide (k = 0)) (lst x) (decide (k = c)) = (o ++ [(⟨#[]⟩ : ByteArray)]).map lst) := ⟨by rw [HX2.out, decide_eq_true hkc, List.map_append]; exact (stepO_d_last _ _).trans (congrArg (· ++ [[]]) HM.out.symm)⟩
            clear hkc
            go_wp2_with (at_builtin; refine wp_appT _ w1 rfl _ _ rfl w1.heap.size _ o rfl (by exact hown) ⟨#[]⟩ rfl (by omega) (by exact hsz) (by exact hb) ?_; intro v3 w3 hown3 hb3)
            go_roundw
            case rel => exact ⟨k + 1, o ++ [⟨#[]⟩], by omega, by go_num, by simp; omega, hown3, hb3, ⟨by rw [HS.out, HE.out]⟩, ⟨fun h => absurd h (by omega)⟩⟩
            case measure => simp [intOf]; omega
          · have q3 : ((k : Int) == (c : Int)) = false := bneI (by omega)
            have HE : Box (stepO (o.map lst) (decide (k = 0)) (lst x) (decide (k = c)) = o.map lst) := ⟨by rw [HX2.out, decide_eq_false hkc]; exact (stepO_d _ _).trans HM.out.symm⟩
            clear hkc
            go_wp2
            go_roundw
            case rel => exact ⟨k + 1, o, by omega, by go_num, by omega, hown, hb, ⟨by rw [HS.out, HE.out]⟩, ⟨fun h => absurd h (by omega)⟩⟩
            case measure => simp [intOf]; omega
        · have q1 : (x.toList == [46]) = false := lst_not hd
          by_cases hsk : x.size = 0 ∧ ¬ k = 0 ∧ ¬ k = c
          · have q0 := empty_of x hsk.1
            have q3 : ((k : Int) == (c : Int)) = false := bneI (by omega)
            have q4 : (0 : Int) < (k : Int) := by omega
            have HE : Box (stepO (o.map lst) (decide (k = 0)) (lst x) (decide (k = c)) = o.map lst) := ⟨by rw [show lst x = [] from data_nil x hsk.1, decide_eq_false hsk.2.1, decide_eq_false hsk.2.2]; rfl⟩
            clear hsk hdd hd
            go_wp2
            go_roundw
            case rel => exact ⟨k + 1, o, by omega, by go_num, by omega, hown, hb, ⟨by rw [HS.out, HE.out]⟩, ⟨fun h => absurd h (by omega)⟩⟩
            case measure => simp [intOf]; omega
          · have HE : Box (stepO (o.map lst) (decide (k = 0)) (lst x) (decide (k = c)) = (o ++ [x]).map lst) := ⟨by rw [List.map_append]; exact stepO_on _ _ _ _ hd hdd (fun h => hsk ⟨by rw [← size_list]; exact congrArg List.length h.1, of_decide_eq_false h.2.2, of_decide_eq_false h.2.1⟩)⟩
            have hcs3 : x.toList.isEmpty = false ∨ (x.toList.isEmpty = true ∧ ((k : Int) == (c : Int)) = true) ∨ (x.toList.isEmpty = true ∧ ((k : Int) == (c : Int)) = false ∧ ¬ (0 : Int) < (k : Int)) := by
              by_cases h0 : x.size = 0
              · by_cases hkc : k = c
                · exact .inr (.inl ⟨empty_of x h0, beqI (by omega)⟩)
                · exact .inr (.inr ⟨empty_of x h0, bneI (by omega), by have : ¬ ¬ k = 0 := fun h => hsk ⟨h0, h, hkc⟩; omega⟩)
              · exact .inl (nonempty_of x h0)
            clear hsk hdd hd
            rcases hcs3 with q0 | ⟨q0, q3⟩ | ⟨q0, q3, q4⟩
            all_goals
              go_wp2_with (at_builtin; refine wp_appT _ w1 rfl _ _ rfl w1.heap.size _ o rfl (by exact hown) x rfl (by omega) (by exact hsz) (by exact hb) ?_; intro v3 w3 hown3 hb3)
              go_roundw
              case rel => exact ⟨k + 1, o ++ [x], by omega, by go_num, by simp; omega, hown3, hb3, ⟨by rw [HS.out, HE.out]⟩, ⟨fun h => absurd h (by omega)⟩⟩
              case measure => simp [intOf]; omega
    · have HE : Box (o.map lst = dotsG [] true (splitP s.data.toList)) := ⟨by rw [← HP.out, HD.out, List.drop_of_length_le (by simp; omega)]; cases decide (k = 0) <;> rfl⟩
      clear HD HZ HC HP
      have b2 := hb1.trans (hb.mono (by omega))
      rcases hown.shape with ⟨rfl, rfl⟩ | ⟨g, cap, rfl, hB, hg, hcap, hmax, hcells⟩
      · exfalso
        exact (dotsS_whole s.data.toList).1 HE.out.symm
      · have HCl := Box.mk hcells
        clear hcells hown
        go_wp2_with fail
        refine (ajoin_any g cap o wr s HE.out HCl.out hg hcap (by omega) hs).mono ?_
        rintro e w2 ⟨S, rfl, hS, hb3⟩
        go_wp2
        go_ret
        exact ⟨S, rfl, hS, b2.trans (hb3.mono (Nat.le_trans hb1.size hsz))⟩

end Go.Proofs.YtpdfghmfhljfiaaDoor
