import Derived.Test.YtmjijnfhgedmlaaGreatDoorZ15
import Derived.Deep.RegionWith
namespace Go.Proofs.YtmjijnfhgedmlaaGreatDoor.Tx
open Go.RowKit Go.Proofs.Sx

theorem empty_of (t : ByteArray) (h : t.size = 0) : t.toList.isEmpty = true := by
  rw [ByteArray.toList_eq, List.isEmpty_iff]
  exact List.eq_nil_of_length_eq_zero (by rw [size_list]; exact h)
theorem nonempty_of (t : ByteArray) (h : ¬ t.size = 0) : t.toList.isEmpty = false := by
  rw [ByteArray.toList_eq, ← Bool.not_eq_true, List.isEmpty_iff]
  intro e
  apply h
  rw [← size_list, e]; rfl
theorem data_nil (t : ByteArray) (h : t.size = 0) : t.data.toList = [] := List.eq_nil_of_length_eq_zero (by rw [size_list]; exact h)
theorem three_split (t : ByteArray) (h : 2 < t.size) : t.data.toList = t[0] :: t[1] :: t[2] :: (t.extract 3 t.size).data.toList := by
  rw [extract_list, List.take_of_length_le (by rw [List.length_drop, size_list]; omega)]
  have h1 : 2 < t.data.toList.length := by rw [size_list]; exact h
  have : t.data.toList = t.data.toList[0] :: t.data.toList[1] :: t.data.toList[2] :: t.data.toList.drop 3 := by
    rw [List.getElem_cons_drop, List.getElem_cons_drop, List.getElem_cons_drop]; rfl
  exact this
theorem drop_three (t : ByteArray) (h : 2 < t.size) : ((t.extract 2 t.size).extract 1 (t.size - 2)).data.toList = (t.extract 3 t.size).data.toList := by
  rw [extract_list, extract_list, extract_list]
  rw [List.take_of_length_le (i := t.size - 2 - 1) (by rw [List.length_drop, List.length_take, List.length_drop, size_list]; omega)]
  rw [List.take_of_length_le (i := t.size - 2) (by rw [List.length_drop, size_list]; omega)]
  rw [List.take_of_length_le (i := t.size - 3) (by rw [List.length_drop, size_list]; omega)]
  rw [List.drop_drop]
theorem one_strD (W : World) (n : Nat) (hn : n = W.heap.size) (c : UInt8) (z : Int) (hz : z = (c.toNat : Int)) : (convert 46 9 (.slice (some ⟨n, 0, none⟩) 1 1)).run Tryz.prog (W.alloc (.cells #[.int .u8 z] 5)).drew = .ok (.string ⟨#[c]⟩) (W.alloc (.cells #[.int .u8 z] 5)).drew := by
  subst hn
  subst hz
  exact Own.string (w := (W.alloc (.cells #[.int .u8 (c.toNat : Int)] 5)).drew) (B := W.heap.size) (World.ownsRow.drew (Own.lit W W.heap.size [c] 1 rfl (Nat.le_refl _) (by decide)))

set_option maxHeartbeats 6400000 in
set_option maxRecDepth 100000 in
theorem refUnquote_any (s : ByteArray) (w : World) (hl : s.size ≤ 3000) (hm : Max w) :
    Calls Tryz.prog 9 #[.string s] w fun e w' => e = .returned (unR (unquoteS s.data.toList)) ∧ Below w.heap.size w w' := by
  obtain ⟨R, HR⟩ : ∃ R, Box (R = unquoteS s.data.toList) := ⟨_, ⟨rfl⟩⟩
  rw [← HR.out]
  go_enter Tryz.func9, Tryz.ntmps9
  go_wp2_with fail
  refine (split_max s _ hl hm).mono ?_
  rintro e w2 ⟨n, g, L, rfl, rfl, hn1, hn2, hg, hc, hx, hrun, hb⟩
  have HC : Box (∀ k (hk : k < L.length), w2.cell? ⟨g, k, none⟩ = some (.string L[k])) := ⟨hc⟩
  have HX : Box (∀ x ∈ L, x.size ≤ 3000) := ⟨hx⟩
  have HRun : Box (linesRun L [] = R) := ⟨by rw [HR.out]; exact hrun⟩
  have hsz := hb.size
  clear hc hx hrun HR
  go_wp2_with fail
  go_loopw [5, 14] (fun x i wr => ∃ (k : Nat) (S : ByteArray), k ≤ L.length ∧ i = .int .i64 k ∧ x = .string S ∧ S.size ≤ 3002 * k ∧ Below w2.heap.size w2 wr ∧ Box (linesRun (L.drop k) S.data.toList = R)) (fun _ i _ => L.length - (intOf i).toNat)
  case atStart => exact ⟨0, ⟨#[]⟩, Nat.zero_le _, rfl, rfl, by decide, Below.refl _ _, HRun⟩
  case round =>
    obtain ⟨k, S, hk, rfl, rfl, hS, hb2, HL⟩ := hrel
    have hsz2 := hb2.size
    by_cases hlt : k < L.length
    · have hcx : wr.cell? ⟨g, k, none⟩ = some (.string L[k]) := (hb2.cell (p := ⟨g, k, none⟩) hg).trans (HC.out k hlt)
      obtain ⟨a, ha⟩ : ∃ a, a = L[k] := ⟨_, rfl⟩
      rw [← ha] at hcx
      have has : a.size ≤ 3000 := by rw [ha]; exact HX.out _ (List.getElem_mem hlt)
      have HL' : Box (linesRun (a :: L.drop (k + 1)) S.data.toList = R) := ⟨by
        rw [← HL.out, ha, List.getElem_cons_drop]⟩
      obtain ⟨U, HU⟩ : ∃ U, Box (U = unquotedS (lineOf a.data.toList)) := ⟨_, ⟨rfl⟩⟩
      have HRn : Box (U = none → R = none) := ⟨fun h => by rw [← HL'.out]; exact linesRun_stop _ _ _ (by rw [← HU.out]; exact h)⟩
      have HRs : Box (∀ b, U = some b → linesRun (L.drop (k + 1)) (S.data.toList ++ b ++ if goesOn a.data.toList || (L.drop (k + 1)).isEmpty then [] else [13, 10]) = R) := ⟨fun b h => by rw [← HL'.out]; exact (linesRun_on _ _ _ _ (by rw [← HU.out]; exact h)).symm⟩
      have HEm1 : Box (k + 1 < L.length → (L.drop (k + 1)).isEmpty = false) := ⟨fun h => by
        rw [← Bool.not_eq_true, List.isEmpty_iff, List.drop_eq_nil_iff]; omega⟩
      have HEm2 : Box (¬ k + 1 < L.length → (L.drop (k + 1)).isEmpty = true) := ⟨fun h => by
        rw [List.isEmpty_iff, List.drop_eq_nil_iff]; omega⟩
      clear HL ha HL'
      go_wp2_with fail
      go_loop [7] (fun x => ∃ t : ByteArray, x = .string t ∧ t.size ≤ a.size ∧ Box (Lib.trimRightS t.data.toList [32, 9] = Lib.trimRightS a.data.toList [32, 9])) (fun x => strSize x)
      case atStart => exact ⟨a, rfl, Nat.le_refl _, ⟨rfl⟩⟩
      case round =>
        obtain ⟨t, rfl, hts, HT⟩ := hrel
        by_cases h0 : t.size = 0
        · have he := empty_of t h0
          have HG : Box (lineOf a.data.toList = t.data.toList ∧ goesOn a.data.toList = false) := ⟨by
            rw [data_nil t h0]
            exact line_nil _ (by rw [← HT.out, data_nil t h0]; rfl)⟩
          obtain ⟨wo, rfl⟩ : ∃ wo : World, wo = wr := ⟨_, rfl⟩
          clear HT
          go_wp2_with fail
          have HO : Box (U = some []) := ⟨by rw [HU.out, HG.out.1, data_nil t h0]; rfl⟩
          have HF' : Box (linesRun (L.drop (k + 1)) (S.data.toList ++ if false || (L.drop (k + 1)).isEmpty then [] else [13, 10]) = R) := ⟨by
            have := HRs.out [] HO.out
            rw [HG.out.2, List.append_nil] at this
            exact this⟩
          clear HRs HG HU HO HRn
          refine wp_loop_rounds 1 ?_
          rw [rounds_succ]
          by_cases hlast : k + 1 < L.length
          · have hli : (k : Int) < (L.length : Int) - 1 := by omega
            have HEm := HEm1.out hlast
            rw [HEm] at HF'
            clear HEm HEm1 HEm2
            go_wp2_with fail
            go_roundw
            case rel => exact ⟨k + 1, _, by omega, by go_num, rfl, by rw [ByteArray.size_append]; show S.size + 2 ≤ _; omega, hb2, ⟨by rw [← HF'.out]; simp⟩⟩
            case measure => simp [intOf]; omega
          · have hli : ¬ (k : Int) < (L.length : Int) - 1 := by omega
            have HEm := HEm2.out hlast
            rw [HEm] at HF'
            clear HEm HEm1 HEm2
            go_wp2_with fail
            go_roundw
            case rel => exact ⟨k + 1, _, by omega, by go_num, rfl, by omega, hb2, ⟨by rw [← HF'.out]; simp⟩⟩
            case measure => simp [intOf]; omega
        · have hne := nonempty_of t h0
          have h1 : t.size - 1 < t.size := by omega
          have hbd : 1 ≤ (t.size : Int) ∧ (t.size : Int) - 1 < (t.size : Int) := by omega
          have hxs : (t.extract 0 (t.size - 1)).size = t.size - 1 := by rw [ByteArray.size_extract]; omega
          have HD : Box (t.data.toList = (t.extract 0 (t.size - 1)).data.toList ++ [t[t.size - 1]]) := ⟨last_split t h1⟩
          cases hbl : isBlank t[t.size - 1]
          · obtain ⟨n1, n2⟩ := notBlank_int _ hbl
            have HT2 : Box (Lib.trimRightS a.data.toList [32, 9] = (t.extract 0 (t.size - 1)).data.toList ++ [t[t.size - 1]]) := ⟨by
              rw [← HT.out, HD.out]
              exact trim_no _ _ (fun h => by rw [h] at hbl; cases hbl) (fun h => by rw [h] at hbl; cases hbl)⟩
            clear HT hbl
            obtain ⟨wo, rfl⟩ : ∃ wo : World, wo = wr := ⟨_, rfl⟩
            by_cases h61 : t[t.size - 1] = 61
            · have t1 := eq61 _ h61
              have HG : Box (lineOf a.data.toList = (t.extract 0 (t.size - 1)).data.toList ∧ goesOn a.data.toList = true) := ⟨line_yes _ _ (by rw [HT2.out, h61])⟩
              clear HT2 h61 HD
              go_wp2_with fail
              generalize t.extract 0 (t.size - 1) = z at hxs HG ⊢
              have HF : Box (∀ b, U = some b → linesRun (L.drop (k + 1)) (S.data.toList ++ b ++ if true || (L.drop (k + 1)).isEmpty then [] else [13, 10]) = R) := ⟨by have := HRs.out; rw [HG.out.2] at this; exact this⟩
              have HU0 : Box (uqRest [] 0 z.data.toList = U) := ⟨by rw [HU.out, HG.out.1, uqRest_start]⟩
              have hZs : z.size ≤ 3000 := by omega
              clear HRs HG HU
              go_loopw [5, 7] (fun y x wr => ∃ (S2 t2 : ByteArray) (o : List UInt8) (V : Nat), y = .string S2 ∧ x = .string t2 ∧ S2.size + t2.size ≤ S.size + z.size ∧ Below w2.heap.size w2 wr ∧ Box (S2.data.toList = S.data.toList ++ o) ∧ Box (uqRest o V t2.data.toList = U)) (fun _ x _ => strSize x)
              case atStart => exact ⟨S, z, [], 0, rfl, rfl, Nat.le_refl _, hb2, ⟨by simp⟩, HU0⟩
              case round =>
                obtain ⟨S2, t2, o, V, rfl, rfl, hs2, hb3, HS2, HU2⟩ := hrel
                have hsz3 := hb3.size
                have hbw : Below w.heap.size w wr := hb.trans (hb3.mono hsz)
                clear HU0
                by_cases h0' : t2.size = 0
                · have he2 := empty_of t2 h0'
                  have HO : Box (U = some o) := ⟨by rw [← HU2.out, data_nil t2 h0', uqRest_nil]⟩
                  have HF' : Box (linesRun (L.drop (k + 1)) (S2.data.toList ++ if true || (L.drop (k + 1)).isEmpty then [] else [13, 10]) = R) := ⟨by rw [HS2.out]; exact HF.out o HO.out⟩
                  clear HF HO HU2 HS2 HRn
                  by_cases hlast : k + 1 < L.length
                  · have hli : (k : Int) < (L.length : Int) - 1 := by omega
                    have HEm := HEm1.out hlast
                    rw [HEm] at HF'
                    clear HEm HEm1 HEm2
                    go_wp2_with fail
                    go_roundw
                    case rel => exact ⟨k + 1, _, by omega, by go_num, rfl, by omega, hb3, ⟨by rw [← HF'.out]; simp⟩⟩
                    case measure => simp [intOf]; omega
                  · have hli : ¬ (k : Int) < (L.length : Int) - 1 := by omega
                    have HEm := HEm2.out hlast
                    rw [HEm] at HF'
                    clear HEm HEm1 HEm2
                    go_wp2_with fail
                    go_roundw
                    case rel => exact ⟨k + 1, _, by omega, by go_num, rfl, by omega, hb3, ⟨by rw [← HF'.out]; simp⟩⟩
                    case measure => simp [intOf]; omega
                · have hne2 := nonempty_of t2 h0'
                  have h1' : 0 < t2.size := by omega
                  have hby : (t2[0].toNat : Int) < 256 := by have := t2[0].toNat_lt; omega
                  clear HF
                  by_cases h61 : t2[0] = 61
                  · have t1 := eq61 _ h61
                    by_cases h3 : t2.size < 3
                    · have HN : Box (R = none) := ⟨HRn.out (by
                        rw [← HU2.out, first_split t2 h1', h61]
                        exact uqRest_short _ _ _ (by rw [extract_list, List.length_take]; omega))⟩
                      have i3 : (t2.size : Int) < 3 := by omega
                      clear HU2 HRn h61
                      go_wp2
                      go_ret2
                      exact ⟨by rw [HN.out]; rfl, hbw⟩
                    have h2' : 2 < t2.size := by omega
                    have i3 : ¬ (t2.size : Int) < 3 := by omega
                    have HD3 : Box (t2.data.toList = (61 : UInt8) :: t2[1] :: t2[2] :: (t2.extract 3 t2.size).data.toList) := ⟨by rw [three_split t2 h2', h61]⟩
                    clear h61
                    by_cases q1 : 126 < t2[1].toNat
                    · have HN : Box (R = none) := ⟨HRn.out (by rw [← HU2.out, HD3.out]; exact uqRest_hex1 _ _ _ _ (hexv_high _ q1))⟩
                      have i4 : (126 : Int) < (t2[1].toNat : Int) := by omega
                      clear HU2 HRn HD3
                      go_wp2
                      go_ret2
                      exact ⟨by rw [HN.out]; rfl, hbw⟩
                    have i4 : ¬ (126 : Int) < (t2[1].toNat : Int) := by omega
                    by_cases q2 : 126 < t2[2].toNat
                    · have HN : Box (R = none) := ⟨HRn.out (by rw [← HU2.out, HD3.out]; exact uqRest_hex2 _ _ _ _ _ (hexv_high _ q2))⟩
                      have i5 : (126 : Int) < (t2[2].toNat : Int) := by omega
                      clear HU2 HRn HD3
                      go_wp2
                      go_ret2
                      exact ⟨by rw [HN.out]; rfl, hbw⟩
                    have i5 : ¬ (126 : Int) < (t2[2].toNat : Int) := by omega
                    have c1 : t2[1].toNat < 128 := by omega
                    have c2 : t2[2].toNat < 128 := by omega
                    by_cases v1 : hexv t2[1] < 0
                    · have HN : Box (R = none) := ⟨HRn.out (by rw [← HU2.out, HD3.out]; exact uqRest_hex1 _ _ _ _ v1)⟩
                      clear HU2 HRn HD3
                      go_wp2_with (go_at_call 28; refine (hexOf_any _ _ c1).mono ?_; rintro e w9 ⟨rfl, hb9⟩)
                      go_ret2
                      exact ⟨by rw [HN.out]; rfl, hbw.trans (hb9.mono hbw.size)⟩
                    by_cases v2 : hexv t2[2] < 0
                    · have HN : Box (R = none) := ⟨HRn.out (by rw [← HU2.out, HD3.out]; exact uqRest_hex2 _ _ _ _ _ v2)⟩
                      clear HU2 HRn HD3
                      go_wp2_with (go_at_call 28; refine (hexOf_any _ _ (by assumption)).mono ?_; rintro e w9 ⟨rfl, hb9⟩)
                      obtain ⟨wa, hba, hb9⟩ : ∃ wa, Below wr.heap.size wr wa ∧ Below wa.heap.size wa w9 := ⟨_, by assumption, hb9⟩
                      go_ret2
                      exact ⟨by rw [HN.out]; rfl, (hbw.trans (hba.mono hbw.size)).trans (hb9.mono (Nat.le_trans hbw.size hba.size))⟩
                    · have l1 := hexv_lt t2[1]
                      have l2 := hexv_lt t2[2]
                      have HU3 : Box (uqRest (o ++ [UInt8.ofNat ((hexv t2[1]).toNat * 16 + (hexv t2[2]).toNat)]) ((hexv t2[1]).toNat * 16 + (hexv t2[2]).toNat) (t2.extract 3 t2.size).data.toList = U) := ⟨by rw [← HU2.out, HD3.out, uqRest_hex _ _ _ _ _ v1 v2]⟩
                      have HV : Box (hexv t2[1] * 16 + hexv t2[2] = ((UInt8.ofNat ((hexv t2[1]).toNat * 16 + (hexv t2[2]).toNat)).toNat : Int)) := ⟨ofNat_small _ _ (by omega) (by omega)⟩
                      have HV' : Box (IntKind.u8.wrap (IntKind.i64.wrap (IntKind.i64.wrap (hexv t2[1] * 16) + hexv t2[2])) = ((UInt8.ofNat ((hexv t2[1]).toNat * 16 + (hexv t2[2]).toNat)).toNat : Int)) := ⟨by
                        rw [IntWalk.i64_in (hexv t2[1] * 16) (by omega), IntWalk.i64_in _ (by omega), IntWalk.u8_in _ (by omega)]
                        exact HV.out⟩
                      have hcv1 := fun W => one_str W _ _ HV'.out
                      have p1 : 0 ≤ hexv t2[1] := by omega
                      have p2 : 0 ≤ hexv t2[2] := by omega
                      have hd3 := drop_three t2 h2'
                      have HD4 := Box.mk hd3
                      clear HU2 HRn HD3 hd3
                      clear HV HV'
                      generalize UInt8.ofNat ((hexv t2[1]).toNat * 16 + (hexv t2[2]).toNat) = d at HU3 hcv1
                      go_wp2_with (go_at_call 28; refine (hexOf_any _ _ (by assumption)).mono ?_; rintro e w9 ⟨rfl, hb9⟩)
                      obtain ⟨wa, hba, hb9⟩ : ∃ wa, Below wr.heap.size wr wa ∧ Below wa.heap.size wa w9 := ⟨_, by assumption, hb9⟩
                      have hbA : Below w2.heap.size w2 w9 := (hb3.trans (hba.mono hsz3)).trans (hb9.mono (Nat.le_trans hsz3 hba.size))
                      have hszA := hbA.size
                      clear hba hb9
                      go_region_with (go_at_call 28; refine (hexOf_any _ _ (by assumption)).mono ?_; rintro e w8 ⟨rfl, hb8⟩)
                      all_goals
                        obtain ⟨wb, hbb, hb8⟩ : ∃ wb, Below w9.drew.heap.size w9.drew wb ∧ Below wb.heap.size wb w8 := ⟨_, by assumption, hb8⟩
                        have hbB : Below w2.heap.size w2 w8 := (hbA.drew.trans (hbb.mono hszA)).trans (hb8.mono (Nat.le_trans hszA hbb.size))
                        have hszB := hbB.size
                        clear hbb hb8
                        go_wp2
                        go_roundw
                        case rel =>
                          refine ⟨_, _, o ++ [d], (hexv t2[1]).toNat * 16 + (hexv t2[2]).toNat, rfl, rfl, ?_, hbB.alloc hszB _, ⟨?_⟩, ⟨?_⟩⟩
                          · rw [ByteArray.size_append, ByteArray.size_extract, ByteArray.size_extract]
                            show S2.size + 1 + _ ≤ _
                            omega
                          · simp [HS2.out]
                          · rw [HD4.out]; exact HU3.out
                        case measure => simp [strSize]; omega
                  · have t1 := ne61 _ h61
                    have hcv := one_str wr t2[0] _ rfl
                    cases hq : (isLetter t2[0] || isBlank t2[0])
                    · have HN : Box (R = none) := ⟨HRn.out (by rw [← HU2.out, first_split t2 h1']; exact uqRest_bad _ _ _ _ h61 hq)⟩
                      have q1 : isLetter t2[0] = false := by cases hh : isLetter t2[0] <;> simp_all
                      have q2 : isBlank t2[0] = false := by cases hh : isBlank t2[0] <;> simp_all
                      have d1 := out_int _ q1 h61
                      obtain ⟨d2, d3⟩ := notBlank_int _ q2
                      clear HU2 HRn hq h61 q1 q2
                      go_wp2_with (go_at_call 29; refine (in_no _ _ _ _ d1).mono ?_; rintro e w' ⟨rfl, rfl⟩)
                      go_ret2
                      exact ⟨by rw [HN.out]; rfl, hbw⟩
                    · have HU3 : Box (uqRest (o ++ [t2[0]]) V (t2.extract 1 t2.size).data.toList = U) := ⟨by rw [← HU2.out, first_split t2 h1', uqRest_char _ _ _ _ h61 hq]⟩
                      have hxs1 : (t2.extract 1 t2.size).size = t2.size - 1 := by rw [ByteArray.size_extract]; omega
                      cases q1 : isLetter t2[0]
                      · have q2 : isBlank t2[0] = true := by simpa [q1] using hq
                        have d1 := out_int _ q1 h61
                        have d2 := blank_int _ q2
                        clear HU2 HRn hq h61 q1 q2
                        rcases d2 with d2 | ⟨d2, d3⟩
                        all_goals
                          go_wp2_with (go_at_call 29; refine (in_no _ _ _ _ d1).mono ?_; rintro e w' ⟨rfl, rfl⟩)
                          go_roundw
                          case rel => exact ⟨_, t2.extract 1 t2.size, o ++ [t2[0]], V, rfl, rfl, by rw [ByteArray.size_append, hxs1]; show S2.size + 1 + _ ≤ _; omega, hb3.alloc hsz3 _, ⟨by simp [HS2.out]⟩, HU3⟩
                          case measure => simp [strSize]; omega
                      · obtain ⟨d1, d2, d3⟩ := letter_int _ q1
                        clear HU2 HRn hq h61 q1
                        go_wp2_with (go_at_call 29; refine (in_yes _ _ _ _ d1 d2).mono ?_; rintro e w' ⟨rfl, rfl⟩)
                        go_roundw
                        case rel => exact ⟨_, t2.extract 1 t2.size, o ++ [t2[0]], V, rfl, rfl, by rw [ByteArray.size_append, hxs1]; show S2.size + 1 + _ ≤ _; omega, hb3.alloc hsz3 _, ⟨by simp [HS2.out]⟩, HU3⟩
                        case measure => simp [strSize]; omega
            · have t1 := ne61 _ h61
              have HG : Box (lineOf a.data.toList = t.data.toList ∧ goesOn a.data.toList = false) := ⟨by
                rw [HD.out]
                exact line_no _ _ _ h61 HT2.out⟩
              clear HT2 h61 HD
              go_wp2_with fail
              have HF : Box (∀ b, U = some b → linesRun (L.drop (k + 1)) (S.data.toList ++ b ++ if false || (L.drop (k + 1)).isEmpty then [] else [13, 10]) = R) := ⟨by have := HRs.out; rw [HG.out.2] at this; exact this⟩
              have HU0 : Box (uqRest [] 0 t.data.toList = U) := ⟨by rw [HU.out, HG.out.1, uqRest_start]⟩
              have hZs : t.size ≤ 3000 := by omega
              clear HRs HG HU
              go_loopw [5, 7] (fun y x wr => ∃ (S2 t2 : ByteArray) (o : List UInt8) (V : Nat), y = .string S2 ∧ x = .string t2 ∧ S2.size + t2.size ≤ S.size + t.size ∧ Below w2.heap.size w2 wr ∧ Box (S2.data.toList = S.data.toList ++ o) ∧ Box (uqRest o V t2.data.toList = U)) (fun _ x _ => strSize x)
              case atStart => exact ⟨S, t, [], 0, rfl, rfl, Nat.le_refl _, hb2, ⟨by simp⟩, HU0⟩
              case round =>
                obtain ⟨S2, t2, o, V, rfl, rfl, hs2, hb3, HS2, HU2⟩ := hrel
                have hsz3 := hb3.size
                have hbw : Below w.heap.size w wr := hb.trans (hb3.mono hsz)
                clear HU0
                by_cases h0' : t2.size = 0
                · have he2 := empty_of t2 h0'
                  have HO : Box (U = some o) := ⟨by rw [← HU2.out, data_nil t2 h0', uqRest_nil]⟩
                  have HF' : Box (linesRun (L.drop (k + 1)) (S2.data.toList ++ if false || (L.drop (k + 1)).isEmpty then [] else [13, 10]) = R) := ⟨by rw [HS2.out]; exact HF.out o HO.out⟩
                  clear HF HO HU2 HS2 HRn
                  by_cases hlast : k + 1 < L.length
                  · have hli : (k : Int) < (L.length : Int) - 1 := by omega
                    have HEm := HEm1.out hlast
                    rw [HEm] at HF'
                    clear HEm HEm1 HEm2
                    go_wp2_with fail
                    go_roundw
                    case rel => exact ⟨k + 1, _, by omega, by go_num, rfl, by rw [ByteArray.size_append]; show S2.size + 2 ≤ _; omega, hb3, ⟨by rw [← HF'.out]; simp⟩⟩
                    case measure => simp [intOf]; omega
                  · have hli : ¬ (k : Int) < (L.length : Int) - 1 := by omega
                    have HEm := HEm2.out hlast
                    rw [HEm] at HF'
                    clear HEm HEm1 HEm2
                    go_wp2_with fail
                    go_roundw
                    case rel => exact ⟨k + 1, _, by omega, by go_num, rfl, by omega, hb3, ⟨by rw [← HF'.out]; simp⟩⟩
                    case measure => simp [intOf]; omega
                · have hne2 := nonempty_of t2 h0'
                  have h1' : 0 < t2.size := by omega
                  have hby : (t2[0].toNat : Int) < 256 := by have := t2[0].toNat_lt; omega
                  clear HF
                  by_cases h61 : t2[0] = 61
                  · have t1 := eq61 _ h61
                    by_cases h3 : t2.size < 3
                    · have HN : Box (R = none) := ⟨HRn.out (by
                        rw [← HU2.out, first_split t2 h1', h61]
                        exact uqRest_short _ _ _ (by rw [extract_list, List.length_take]; omega))⟩
                      have i3 : (t2.size : Int) < 3 := by omega
                      clear HU2 HRn h61
                      go_wp2
                      go_ret2
                      exact ⟨by rw [HN.out]; rfl, hbw⟩
                    have h2' : 2 < t2.size := by omega
                    have i3 : ¬ (t2.size : Int) < 3 := by omega
                    have HD3 : Box (t2.data.toList = (61 : UInt8) :: t2[1] :: t2[2] :: (t2.extract 3 t2.size).data.toList) := ⟨by rw [three_split t2 h2', h61]⟩
                    clear h61
                    by_cases q1 : 126 < t2[1].toNat
                    · have HN : Box (R = none) := ⟨HRn.out (by rw [← HU2.out, HD3.out]; exact uqRest_hex1 _ _ _ _ (hexv_high _ q1))⟩
                      have i4 : (126 : Int) < (t2[1].toNat : Int) := by omega
                      clear HU2 HRn HD3
                      go_wp2
                      go_ret2
                      exact ⟨by rw [HN.out]; rfl, hbw⟩
                    have i4 : ¬ (126 : Int) < (t2[1].toNat : Int) := by omega
                    by_cases q2 : 126 < t2[2].toNat
                    · have HN : Box (R = none) := ⟨HRn.out (by rw [← HU2.out, HD3.out]; exact uqRest_hex2 _ _ _ _ _ (hexv_high _ q2))⟩
                      have i5 : (126 : Int) < (t2[2].toNat : Int) := by omega
                      clear HU2 HRn HD3
                      go_wp2
                      go_ret2
                      exact ⟨by rw [HN.out]; rfl, hbw⟩
                    have i5 : ¬ (126 : Int) < (t2[2].toNat : Int) := by omega
                    have c1 : t2[1].toNat < 128 := by omega
                    have c2 : t2[2].toNat < 128 := by omega
                    by_cases v1 : hexv t2[1] < 0
                    · have HN : Box (R = none) := ⟨HRn.out (by rw [← HU2.out, HD3.out]; exact uqRest_hex1 _ _ _ _ v1)⟩
                      clear HU2 HRn HD3
                      go_wp2_with (go_at_call 28; refine (hexOf_any _ _ c1).mono ?_; rintro e w9 ⟨rfl, hb9⟩)
                      go_ret2
                      exact ⟨by rw [HN.out]; rfl, hbw.trans (hb9.mono hbw.size)⟩
                    by_cases v2 : hexv t2[2] < 0
                    · have HN : Box (R = none) := ⟨HRn.out (by rw [← HU2.out, HD3.out]; exact uqRest_hex2 _ _ _ _ _ v2)⟩
                      clear HU2 HRn HD3
                      go_wp2_with (go_at_call 28; refine (hexOf_any _ _ (by assumption)).mono ?_; rintro e w9 ⟨rfl, hb9⟩)
                      obtain ⟨wa, hba, hb9⟩ : ∃ wa, Below wr.heap.size wr wa ∧ Below wa.heap.size wa w9 := ⟨_, by assumption, hb9⟩
                      go_ret2
                      exact ⟨by rw [HN.out]; rfl, (hbw.trans (hba.mono hbw.size)).trans (hb9.mono (Nat.le_trans hbw.size hba.size))⟩
                    · have l1 := hexv_lt t2[1]
                      have l2 := hexv_lt t2[2]
                      have HU3 : Box (uqRest (o ++ [UInt8.ofNat ((hexv t2[1]).toNat * 16 + (hexv t2[2]).toNat)]) ((hexv t2[1]).toNat * 16 + (hexv t2[2]).toNat) (t2.extract 3 t2.size).data.toList = U) := ⟨by rw [← HU2.out, HD3.out, uqRest_hex _ _ _ _ _ v1 v2]⟩
                      have HV : Box (hexv t2[1] * 16 + hexv t2[2] = ((UInt8.ofNat ((hexv t2[1]).toNat * 16 + (hexv t2[2]).toNat)).toNat : Int)) := ⟨ofNat_small _ _ (by omega) (by omega)⟩
                      have HV' : Box (IntKind.u8.wrap (IntKind.i64.wrap (IntKind.i64.wrap (hexv t2[1] * 16) + hexv t2[2])) = ((UInt8.ofNat ((hexv t2[1]).toNat * 16 + (hexv t2[2]).toNat)).toNat : Int)) := ⟨by
                        rw [IntWalk.i64_in (hexv t2[1] * 16) (by omega), IntWalk.i64_in _ (by omega), IntWalk.u8_in _ (by omega)]
                        exact HV.out⟩
                      have hcv1 := fun W => one_str W _ _ HV'.out
                      have p1 : 0 ≤ hexv t2[1] := by omega
                      have p2 : 0 ≤ hexv t2[2] := by omega
                      have hd3 := drop_three t2 h2'
                      have HD4 := Box.mk hd3
                      clear HU2 HRn HD3 hd3
                      clear HV HV'
                      generalize UInt8.ofNat ((hexv t2[1]).toNat * 16 + (hexv t2[2]).toNat) = d at HU3 hcv1
                      go_wp2_with (go_at_call 28; refine (hexOf_any _ _ (by assumption)).mono ?_; rintro e w9 ⟨rfl, hb9⟩)
                      obtain ⟨wa, hba, hb9⟩ : ∃ wa, Below wr.heap.size wr wa ∧ Below wa.heap.size wa w9 := ⟨_, by assumption, hb9⟩
                      have hbA : Below w2.heap.size w2 w9 := (hb3.trans (hba.mono hsz3)).trans (hb9.mono (Nat.le_trans hsz3 hba.size))
                      have hszA := hbA.size
                      clear hba hb9
                      go_region_with (go_at_call 28; refine (hexOf_any _ _ (by assumption)).mono ?_; rintro e w8 ⟨rfl, hb8⟩)
                      all_goals
                        obtain ⟨wb, hbb, hb8⟩ : ∃ wb, Below w9.drew.heap.size w9.drew wb ∧ Below wb.heap.size wb w8 := ⟨_, by assumption, hb8⟩
                        have hbB : Below w2.heap.size w2 w8 := (hbA.drew.trans (hbb.mono hszA)).trans (hb8.mono (Nat.le_trans hszA hbb.size))
                        have hszB := hbB.size
                        clear hbb hb8
                        go_wp2
                        go_roundw
                        case rel =>
                          refine ⟨_, _, o ++ [d], (hexv t2[1]).toNat * 16 + (hexv t2[2]).toNat, rfl, rfl, ?_, hbB.alloc hszB _, ⟨?_⟩, ⟨?_⟩⟩
                          · rw [ByteArray.size_append, ByteArray.size_extract, ByteArray.size_extract]
                            show S2.size + 1 + _ ≤ _
                            omega
                          · simp [HS2.out]
                          · rw [HD4.out]; exact HU3.out
                        case measure => simp [strSize]; omega
                  · have t1 := ne61 _ h61
                    have hcv := one_str wr t2[0] _ rfl
                    cases hq : (isLetter t2[0] || isBlank t2[0])
                    · have HN : Box (R = none) := ⟨HRn.out (by rw [← HU2.out, first_split t2 h1']; exact uqRest_bad _ _ _ _ h61 hq)⟩
                      have q1 : isLetter t2[0] = false := by cases hh : isLetter t2[0] <;> simp_all
                      have q2 : isBlank t2[0] = false := by cases hh : isBlank t2[0] <;> simp_all
                      have d1 := out_int _ q1 h61
                      obtain ⟨d2, d3⟩ := notBlank_int _ q2
                      clear HU2 HRn hq h61 q1 q2
                      go_wp2_with (go_at_call 29; refine (in_no _ _ _ _ d1).mono ?_; rintro e w' ⟨rfl, rfl⟩)
                      go_ret2
                      exact ⟨by rw [HN.out]; rfl, hbw⟩
                    · have HU3 : Box (uqRest (o ++ [t2[0]]) V (t2.extract 1 t2.size).data.toList = U) := ⟨by rw [← HU2.out, first_split t2 h1', uqRest_char _ _ _ _ h61 hq]⟩
                      have hxs1 : (t2.extract 1 t2.size).size = t2.size - 1 := by rw [ByteArray.size_extract]; omega
                      cases q1 : isLetter t2[0]
                      · have q2 : isBlank t2[0] = true := by simpa [q1] using hq
                        have d1 := out_int _ q1 h61
                        have d2 := blank_int _ q2
                        clear HU2 HRn hq h61 q1 q2
                        rcases d2 with d2 | ⟨d2, d3⟩
                        all_goals
                          go_wp2_with (go_at_call 29; refine (in_no _ _ _ _ d1).mono ?_; rintro e w' ⟨rfl, rfl⟩)
                          go_roundw
                          case rel => exact ⟨_, t2.extract 1 t2.size, o ++ [t2[0]], V, rfl, rfl, by rw [ByteArray.size_append, hxs1]; show S2.size + 1 + _ ≤ _; omega, hb3.alloc hsz3 _, ⟨by simp [HS2.out]⟩, HU3⟩
                          case measure => simp [strSize]; omega
                      · obtain ⟨d1, d2, d3⟩ := letter_int _ q1
                        clear HU2 HRn hq h61 q1
                        go_wp2_with (go_at_call 29; refine (in_yes _ _ _ _ d1 d2).mono ?_; rintro e w' ⟨rfl, rfl⟩)
                        go_roundw
                        case rel => exact ⟨_, t2.extract 1 t2.size, o ++ [t2[0]], V, rfl, rfl, by rw [ByteArray.size_append, hxs1]; show S2.size + 1 + _ ≤ _; omega, hb3.alloc hsz3 _, ⟨by simp [HS2.out]⟩, HU3⟩
                        case measure => simp [strSize]; omega
          · have HT' : Box (Lib.trimRightS (t.extract 0 (t.size - 1)).data.toList [32, 9] = Lib.trimRightS a.data.toList [32, 9]) := ⟨by
              rw [← HT.out, HD.out]
              refine (trim_yes _ _ ?_).symm
              unfold isBlank at hbl
              simpa using hbl⟩
            have hq := blank_int _ hbl
            clear HT hbl HD
            rcases hq with n1 | ⟨n1, n2⟩
            all_goals
              go_wp2
              go_round
              case rel => exact ⟨t.extract 0 (t.size - 1), rfl, by omega, HT'⟩
              case measure => simp [strSize]; omega
    · have HE : Box (R = some S.data.toList) := ⟨by
        rw [← HL.out, List.drop_of_length_le (by omega)]; rfl⟩
      clear HL
      go_wp2
      go_ret2
      exact ⟨by rw [HE.out]; simp [unR], hb.trans (hb2.mono hsz)⟩

end Go.Proofs.YtmjijnfhgedmlaaGreatDoor.Tx
