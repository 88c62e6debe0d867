import Derived.Test.YtnjjjkhhoaadfaaGreatDoorZ10
import Derived.LaidEql
import Derived.Stop.Asserts
import Derived.RowKitTokens
namespace Go.Proofs.YtnjjjkhhoaadfaaGreatDoor.Tx
open Go.RowKit Go.Proofs.Sx

set_option maxHeartbeats 400000 in
theorem in_any (n a b : Int) (w : World) : Calls Tryz.prog 29 #[.int .i64 n, .int .i64 a, .int .i64 b] w fun e w' => e = .returned (.bool (decide (a ≤ n) && decide (n ≤ b))) ∧ w' = w := by
  go_enter Tryz.func29, Tryz.ntmps29
  go_wp2
  all_goals
    go_ret
    refine ⟨ret_bool ?_, rfl⟩
    simp [*] <;> omega

set_option maxHeartbeats 400000 in
theorem letter_any (n : Nat) (h : n < 64) (w : World) : Calls Tryz.prog 21 #[.int .i64 (n : Int)] w fun e w' => e = .returned (.int .u8 ((lett n).toNat : Int)) ∧ w' = w := by
  have key : ∀ n : Fin 64, (lett n.val).toNat = if n.val < 26 then 65 + n.val else if n.val < 52 then 97 + n.val - 26 else if n.val < 62 then 48 + n.val - 52 else if n.val = 62 then 43 else 47 := by decide +kernel
  have HK := Hid.mk (key ⟨n, h⟩)
  clear key
  by_cases h1 : n < 26
  · have HE : Hid ((lett n).toNat = 65 + n) := by show _ = _; rw [HK.out]; simp [h1]
    clear HK
    go_enter Tryz.func21, Tryz.ntmps21
    go_wp2
    go_ret
    exact ⟨ret_int (by rw [HE.out]; omega), rfl⟩
  by_cases h2 : n < 52
  · have HE : Hid ((lett n).toNat = 97 + n - 26) := by show _ = _; rw [HK.out]; simp [h1, h2]
    clear HK
    go_enter Tryz.func21, Tryz.ntmps21
    go_wp2
    go_ret
    exact ⟨ret_int (by rw [HE.out]; omega), rfl⟩
  by_cases h3 : n < 62
  · have HE : Hid ((lett n).toNat = 48 + n - 52) := by show _ = _; rw [HK.out]; simp [h1, h2, h3]
    clear HK
    go_enter Tryz.func21, Tryz.ntmps21
    go_wp2
    go_ret
    exact ⟨ret_int (by rw [HE.out]; omega), rfl⟩
  by_cases h4 : n = 62
  · have HE : Hid ((lett n).toNat = 43) := by show _ = _; rw [HK.out]; simp [h4]
    have t : ((n : Int) == 62) = true := by rw [beq_iff_eq]; omega
    clear HK h4
    go_enter Tryz.func21, Tryz.ntmps21
    go_wp2
    go_ret
    exact ⟨ret_int (by rw [HE.out]; rfl), rfl⟩
  · have HE : Hid ((lett n).toNat = 47) := by show _ = _; rw [HK.out]; simp [h1, h2, h3, h4]
    have t : ((n : Int) == 62) = false := by rw [beq_eq_false_iff_ne]; omega
    clear HK h4
    go_enter Tryz.func21, Tryz.ntmps21
    go_wp2
    go_ret
    exact ⟨ret_int (by rw [HE.out]; rfl), rfl⟩

theorem one_str (w : World) (c : UInt8) (z : Int) (hz : z = (c.toNat : Int)) : (convert 46 9 (.slice (some ⟨w.heap.size, 0, none⟩) 1 1)).run Tryz.prog (w.alloc (.cells #[.int .u8 z] 5)) = .ok (.string ⟨#[c]⟩) (w.alloc (.cells #[.int .u8 z] 5)) := by
  subst hz
  exact (Own.lit w w.heap.size [c] 1 rfl (Nat.le_refl _) (by decide)).string
theorem two_str (w : World) (c d : UInt8) : (convert 46 9 (.slice (some ⟨w.heap.size, 0, none⟩) 2 2)).run Tryz.prog (w.alloc (.cells #[.int .u8 (c.toNat : Int), .int .u8 (d.toNat : Int)] 5)) = .ok (.string ⟨#[c, d]⟩) (w.alloc (.cells #[.int .u8 (c.toNat : Int), .int .u8 (d.toNat : Int)] 5)) :=
  (Own.lit w w.heap.size [c, d] 2 rfl (Nat.le_refl _) (by decide)).string

end Go.Proofs.YtnjjjkhhoaadfaaGreatDoor.Tx

namespace Go.Proofs.YtnjjjkhhoaadfaaGreatDoor.Tx
open Go.RowKit Go.Proofs.Sx

theorem in_yes (n a b : Int) (w : World) (h1 : a ≤ n) (h2 : n ≤ b) : Calls Tryz.prog 29 #[.int .i64 n, .int .i64 a, .int .i64 b] w fun e w' => e = .returned (.bool true) ∧ w' = w := by
  refine (in_any n a b w).mono ?_
  rintro e w' ⟨rfl, rfl⟩
  exact ⟨ret_bool (by simp [h1, h2]), rfl⟩
theorem in_no (n a b : Int) (w : World) (h : ¬ (a ≤ n ∧ n ≤ b)) : Calls Tryz.prog 29 #[.int .i64 n, .int .i64 a, .int .i64 b] w fun e w' => e = .returned (.bool false) ∧ w' = w := by
  refine (in_any n a b w).mono ?_
  rintro e w' ⟨rfl, rfl⟩
  refine ⟨ret_bool ?_, rfl⟩
  rw [Bool.eq_false_iff]
  simpa using h

theorem two_strD (W : World) (n : Nat) (hn : n = W.heap.size) (c d : UInt8) : (convert 46 9 (.slice (some ⟨n, 0, none⟩) 2 2)).run Tryz.prog (W.alloc (.cells #[.int .u8 (c.toNat : Int), .int .u8 (d.toNat : Int)] 5)).drew = .ok (.string ⟨#[c, d]⟩) (W.alloc (.cells #[.int .u8 (c.toNat : Int), .int .u8 (d.toNat : Int)] 5)).drew := by
  subst hn
  exact Own.string (w := (W.alloc (.cells #[.int .u8 (c.toNat : Int), .int .u8 (d.toNat : Int)] 5)).drew) (B := W.heap.size) (World.ownsRow.drew (Own.lit W W.heap.size [c, d] 2 rfl (Nat.le_refl _) (by decide)))

theorem letter_int (c : UInt8) (h : isLetter c = true) : (33 : Int) ≤ (c.toNat : Int) ∧ (c.toNat : Int) ≤ 126 ∧ ((c.toNat : Int) != 61) = true := by
  unfold isLetter at h
  simp only [Bool.and_eq_true, decide_eq_true_eq, bne_iff_ne] at h
  obtain ⟨⟨h1, h2⟩, h3⟩ := h
  have a1 := UInt8.le_iff_toNat_le.1 h1
  have a2 := UInt8.le_iff_toNat_le.1 h2
  simp at a1 a2
  refine ⟨by omega, by omega, ?_⟩
  rw [bne, ne61 c h3]; rfl
theorem out_int (c : UInt8) (h : isLetter c = false) (h61 : ¬ c = 61) : ¬ ((33 : Int) ≤ (c.toNat : Int) ∧ (c.toNat : Int) ≤ 126) := by
  rintro ⟨a, b⟩
  have : isLetter c = true := by
    unfold isLetter
    simp only [Bool.and_eq_true, decide_eq_true_eq, bne_iff_ne]
    exact ⟨⟨UInt8.le_iff_toNat_le.2 (by simp; omega), UInt8.le_iff_toNat_le.2 (by simp; omega)⟩, h61⟩
  rw [h] at this
  cases this
theorem notBlank_int (c : UInt8) (h : isBlank c = false) : ((c.toNat : Int) == 32) = false ∧ ((c.toNat : Int) == 9) = false := by
  unfold isBlank at h
  simp only [Bool.or_eq_false_iff] at h
  have e1 := u8eq c 32
  have e2 := u8eq c 9
  exact ⟨e1.trans h.1, e2.trans h.2⟩
theorem blank_int (c : UInt8) (h : isBlank c = true) : ((c.toNat : Int) == 32) = true ∨ (((c.toNat : Int) == 32) = false ∧ ((c.toNat : Int) == 9) = true) := by
  unfold isBlank at h
  simp only [Bool.or_eq_true, beq_iff_eq] at h
  rcases h with rfl | rfl
  · exact .inl rfl
  · exact .inr ⟨rfl, rfl⟩

set_option maxHeartbeats 6400000 in
set_option maxRecDepth 100000 in
theorem refQuote_any (b : ByteArray) (w : World) (hl : b.size ≤ 3000) :
    Calls Tryz.prog 14 #[.string b] w fun e w' => e = .returned (.string ⟨(quoteS b.data.toList).toArray⟩) ∧ Below w.heap.size w w' := by
  have HL : Hid (b.data.toList.length = b.size) := size_list b
  go_enter Tryz.func14, Tryz.ntmps14
  go_wp2
  go_loopw [3, 4, 13] (fun x y i wr => ∃ (k : Nat) (S L : ByteArray), k ≤ b.size ∧ i = .int .i64 k ∧ x = .string S ∧ y = .string L ∧ S.size + L.size ≤ 6 * k ∧ L.size ≤ 3 * k ∧ Below w.heap.size w wr ∧ Hid (quoteTo b.data.toList k = (S.data.toList ++ L.data.toList, L.size))) (fun _ _ i _ => b.size - (intOf i).toNat)
  case atStart => exact ⟨0, ⟨#[]⟩, ⟨#[]⟩, Nat.zero_le _, rfl, rfl, rfl, by decide, by decide, Below.refl _ _, rfl⟩
  case round =>
    obtain ⟨k, S, L, hk, rfl, rfl, rfl, hS, hL, hb, HQ⟩ := hrel
    by_cases hlt : k < b.size
    · have hsz := hb.size
      have HG : Hid (b.data.toList.getD k 0 = b[k]) := by
        show _ = _
        rw [List.getD_eq_getElem?_getD, getL b k hlt]; rfl
      have hbyte : (b[k].toNat : Int) < 256 := by have := b[k].toNat_lt; omega
      have hcv := one_str wr b[k] _ rfl
      have hcv2 := fun W n hn c d => two_strD W n hn c d
      have i1 : 0 ≤ (b[k].toNat : Int) / 16 := by omega
      have i2 : (b[k].toNat : Int) / 16 < 16 := by omega
      have i3 : 0 ≤ (b[k].toNat : Int) % 16 := by omega
      have i4 : (b[k].toNat : Int) % 16 < 16 := by omega
      by_cases hla : k + 1 = b.size
      · have t1 : ((k : Int) == (b.size : Int) - 1) = true := by rw [beq_iff_eq]; omega
        have HX : Hid (quoteTo b.data.toList (k + 1) = if 76 < L.size + (quotedL b[k] true).length then (S.data.toList ++ L.data.toList ++ [61, 13, 10] ++ quotedL b[k] true, (quotedL b[k] true).length) else (S.data.toList ++ L.data.toList ++ quotedL b[k] true, L.size + (quotedL b[k] true).length)) := by
          show _ = _
          rw [quoteTo, HQ.out, HG.out, HL.out, if_pos hla, decide_eq_true hla]
        clear hla
        by_cases hlet : isLetter b[k] = true
        · have HQL : Hid (quotedL b[k] true = [b[k]]) := by show _ = _; unfold quotedL; rw [hlet]; rfl
          obtain ⟨d1, d2, d3⟩ := letter_int b[k] hlet
          clear hlet
          have HX' : Hid (quoteTo b.data.toList (k + 1) = if 76 < L.size + 1 then (S.data.toList ++ L.data.toList ++ [61, 13, 10] ++ [b[k]], 1) else (S.data.toList ++ L.data.toList ++ [b[k]], L.size + 1)) := by
            show _ = _
            rw [HX.out, HQL.out]; rfl
          clear HX HQL
          by_cases hov : 76 < L.size + 1
          · have t2 : (76 : Int) < (L.size : Int) + 1 := by omega
            go_wp2_with (go_at_call 29; refine (in_yes _ _ _ _ d1 d2).mono ?_; rintro e w' ⟨rfl, rfl⟩)
            go_roundw
            case rel => exact ⟨k + 1, _, _, by omega, by go_num, rfl, rfl, by simp [ByteArray.size_mk']; omega, by simp [ByteArray.size_mk']; omega, hb.alloc hsz _, by show _ = _; rw [HX'.out, if_pos hov]; simp [ByteArray.size_mk']⟩
            case measure => simp [intOf]; omega
          · have t2 : ¬ (76 : Int) < (L.size : Int) + 1 := by omega
            go_wp2_with (go_at_call 29; refine (in_yes _ _ _ _ d1 d2).mono ?_; rintro e w' ⟨rfl, rfl⟩)
            go_roundw
            case rel => exact ⟨k + 1, _, _, by omega, by go_num, rfl, rfl, by simp [ByteArray.size_mk']; omega, by simp [ByteArray.size_mk']; omega, hb.alloc hsz _, by show _ = _; rw [HX'.out, if_neg hov]; simp [ByteArray.size_mk']⟩
            case measure => simp [intOf]; omega
        · have hlet' : isLetter b[k] = false := by simpa using hlet
          clear hlet
          by_cases h61 : b[k] = 61
          · have HQL : Hid (quotedL b[k] true = [61, hexd (b[k].toNat / 16), hexd (b[k].toNat % 16)]) := by show _ = _; unfold quotedL; rw [hlet', h61]; rfl
            have d1 : (33 : Int) ≤ (b[k].toNat : Int) := by rw [h61]; decide
            have d2 : (b[k].toNat : Int) ≤ 126 := by rw [h61]; decide
            have d3 : ((b[k].toNat : Int) != 61) = false := by rw [h61]; rfl
            clear hlet' h61
            have HX' : Hid (quoteTo b.data.toList (k + 1) = if 76 < L.size + 3 then (S.data.toList ++ L.data.toList ++ [61, 13, 10] ++ [61, hexd (b[k].toNat / 16), hexd (b[k].toNat % 16)], 3) else (S.data.toList ++ L.data.toList ++ [61, hexd (b[k].toNat / 16), hexd (b[k].toNat % 16)], L.size + 3)) := by
              show _ = _
              rw [HX.out, HQL.out]; rfl
            clear HX HQL
            by_cases hov : 76 < L.size + 3
            · have t2 : (76 : Int) < (L.size : Int) + 3 := by omega
              go_wp2_with (go_at_call 29; refine (in_yes _ _ _ _ d1 d2).mono ?_; rintro e w' ⟨rfl, rfl⟩)
              go_region
              simp only [hexd_at]
              go_wp2
              go_roundw
              case rel => exact ⟨k + 1, _, _, by omega, by go_num, rfl, rfl, by simp [ByteArray.size_mk']; omega, by simp [ByteArray.size_mk']; omega, ((hb.alloc hsz _).alloc (by simp; omega) _).drew, by show _ = _; rw [HX'.out, if_pos hov]; simp [ByteArray.size_mk']⟩
              case measure => simp [intOf]; omega
            · have t2 : ¬ (76 : Int) < (L.size : Int) + 3 := by omega
              go_wp2_with (go_at_call 29; refine (in_yes _ _ _ _ d1 d2).mono ?_; rintro e w' ⟨rfl, rfl⟩)
              go_region
              simp only [hexd_at]
              go_wp2
              go_roundw
              case rel => exact ⟨k + 1, _, _, by omega, by go_num, rfl, rfl, by simp [ByteArray.size_mk']; omega, by simp [ByteArray.size_mk']; omega, ((hb.alloc hsz _).alloc (by simp; omega) _).drew, by show _ = _; rw [HX'.out, if_neg hov]; simp [ByteArray.size_mk']⟩
              case measure => simp [intOf]; omega
          · have d0 : ¬ ((33 : Int) ≤ (b[k].toNat : Int) ∧ (b[k].toNat : Int) ≤ 126) := out_int b[k] hlet' h61
            cases hbl : isBlank b[k]
            · have HQL : Hid (quotedL b[k] true = [61, hexd (b[k].toNat / 16), hexd (b[k].toNat % 16)]) := by show _ = _; unfold quotedL; rw [hlet', hbl]; rfl
              obtain ⟨d4, d5⟩ := notBlank_int b[k] hbl
              clear hlet' h61 hbl
              have HX' : Hid (quoteTo b.data.toList (k + 1) = if 76 < L.size + 3 then (S.data.toList ++ L.data.toList ++ [61, 13, 10] ++ [61, hexd (b[k].toNat / 16), hexd (b[k].toNat % 16)], 3) else (S.data.toList ++ L.data.toList ++ [61, hexd (b[k].toNat / 16), hexd (b[k].toNat % 16)], L.size + 3)) := by
                show _ = _
                rw [HX.out, HQL.out]; rfl
              clear HX HQL
              by_cases hov : 76 < L.size + 3
              · have t2 : (76 : Int) < (L.size : Int) + 3 := by omega
                go_wp2_with (go_at_call 29; refine (in_no _ _ _ _ d0).mono ?_; rintro e w' ⟨rfl, rfl⟩)
                go_region
                simp only [hexd_at]
                go_wp2
                go_roundw
                case rel => exact ⟨k + 1, _, _, by omega, by go_num, rfl, rfl, by simp [ByteArray.size_mk']; omega, by simp [ByteArray.size_mk']; omega, ((hb.alloc hsz _).alloc (by simp; omega) _).drew, by show _ = _; rw [HX'.out, if_pos hov]; simp [ByteArray.size_mk']⟩
                case measure => simp [intOf]; omega
              · have t2 : ¬ (76 : Int) < (L.size : Int) + 3 := by omega
                go_wp2_with (go_at_call 29; refine (in_no _ _ _ _ d0).mono ?_; rintro e w' ⟨rfl, rfl⟩)
                go_region
                simp only [hexd_at]
                go_wp2
                go_roundw
                case rel => exact ⟨k + 1, _, _, by omega, by go_num, rfl, rfl, by simp [ByteArray.size_mk']; omega, by simp [ByteArray.size_mk']; omega, ((hb.alloc hsz _).alloc (by simp; omega) _).drew, by show _ = _; rw [HX'.out, if_neg hov]; simp [ByteArray.size_mk']⟩
                case measure => simp [intOf]; omega
            · obtain d4 | ⟨d4, d5⟩ := blank_int b[k] hbl
              · have HQL : Hid (quotedL b[k] true = [61, hexd (b[k].toNat / 16), hexd (b[k].toNat % 16)]) := by show _ = _; unfold quotedL; rw [hlet', hbl]; rfl
                clear hlet' h61 hbl
                have HX' : Hid (quoteTo b.data.toList (k + 1) = if 76 < L.size + 3 then (S.data.toList ++ L.data.toList ++ [61, 13, 10] ++ [61, hexd (b[k].toNat / 16), hexd (b[k].toNat % 16)], 3) else (S.data.toList ++ L.data.toList ++ [61, hexd (b[k].toNat / 16), hexd (b[k].toNat % 16)], L.size + 3)) := by
                  show _ = _
                  rw [HX.out, HQL.out]; rfl
                clear HX HQL
                by_cases hov : 76 < L.size + 3
                · have t2 : (76 : Int) < (L.size : Int) + 3 := by omega
                  go_wp2_with (go_at_call 29; refine (in_no _ _ _ _ d0).mono ?_; rintro e w' ⟨rfl, rfl⟩)
                  go_region
                  simp only [hexd_at]
                  go_wp2
                  go_roundw
                  case rel => exact ⟨k + 1, _, _, by omega, by go_num, rfl, rfl, by simp [ByteArray.size_mk']; omega, by simp [ByteArray.size_mk']; omega, ((hb.alloc hsz _).alloc (by simp; omega) _).drew, by show _ = _; rw [HX'.out, if_pos hov]; simp [ByteArray.size_mk']⟩
                  case measure => simp [intOf]; omega
                · have t2 : ¬ (76 : Int) < (L.size : Int) + 3 := by omega
                  go_wp2_with (go_at_call 29; refine (in_no _ _ _ _ d0).mono ?_; rintro e w' ⟨rfl, rfl⟩)
                  go_region
                  simp only [hexd_at]
                  go_wp2
                  go_roundw
                  case rel => exact ⟨k + 1, _, _, by omega, by go_num, rfl, rfl, by simp [ByteArray.size_mk']; omega, by simp [ByteArray.size_mk']; omega, ((hb.alloc hsz _).alloc (by simp; omega) _).drew, by show _ = _; rw [HX'.out, if_neg hov]; simp [ByteArray.size_mk']⟩
                  case measure => simp [intOf]; omega
              · have HQL : Hid (quotedL b[k] true = [61, hexd (b[k].toNat / 16), hexd (b[k].toNat % 16)]) := by show _ = _; unfold quotedL; rw [hlet', hbl]; rfl
                clear hlet' h61 hbl
                have HX' : Hid (quoteTo b.data.toList (k + 1) = if 76 < L.size + 3 then (S.data.toList ++ L.data.toList ++ [61, 13, 10] ++ [61, hexd (b[k].toNat / 16), hexd (b[k].toNat % 16)], 3) else (S.data.toList ++ L.data.toList ++ [61, hexd (b[k].toNat / 16), hexd (b[k].toNat % 16)], L.size + 3)) := by
                  show _ = _
                  rw [HX.out, HQL.out]; rfl
                clear HX HQL
                by_cases hov : 76 < L.size + 3
                · have t2 : (76 : Int) < (L.size : Int) + 3 := by omega
                  go_wp2_with (go_at_call 29; refine (in_no _ _ _ _ d0).mono ?_; rintro e w' ⟨rfl, rfl⟩)
                  go_region
                  simp only [hexd_at]
                  go_wp2
                  go_roundw
                  case rel => exact ⟨k + 1, _, _, by omega, by go_num, rfl, rfl, by simp [ByteArray.size_mk']; omega, by simp [ByteArray.size_mk']; omega, ((hb.alloc hsz _).alloc (by simp; omega) _).drew, by show _ = _; rw [HX'.out, if_pos hov]; simp [ByteArray.size_mk']⟩
                  case measure => simp [intOf]; omega
                · have t2 : ¬ (76 : Int) < (L.size : Int) + 3 := by omega
                  go_wp2_with (go_at_call 29; refine (in_no _ _ _ _ d0).mono ?_; rintro e w' ⟨rfl, rfl⟩)
                  go_region
                  simp only [hexd_at]
                  go_wp2
                  go_roundw
                  case rel => exact ⟨k + 1, _, _, by omega, by go_num, rfl, rfl, by simp [ByteArray.size_mk']; omega, by simp [ByteArray.size_mk']; omega, ((hb.alloc hsz _).alloc (by simp; omega) _).drew, by show _ = _; rw [HX'.out, if_neg hov]; simp [ByteArray.size_mk']⟩
                  case measure => simp [intOf]; omega
      · have t1 : ((k : Int) == (b.size : Int) - 1) = false := by rw [beq_eq_false_iff_ne]; omega
        have HX : Hid (quoteTo b.data.toList (k + 1) = if 75 < L.size + (quotedL b[k] false).length then (S.data.toList ++ L.data.toList ++ [61, 13, 10] ++ quotedL b[k] false, (quotedL b[k] false).length) else (S.data.toList ++ L.data.toList ++ quotedL b[k] false, L.size + (quotedL b[k] false).length)) := by
          show _ = _
          rw [quoteTo, HQ.out, HG.out, HL.out, if_neg hla, decide_eq_false hla]
        clear hla
        by_cases hlet : isLetter b[k] = true
        · have HQL : Hid (quotedL b[k] false = [b[k]]) := by show _ = _; unfold quotedL; rw [hlet]; rfl
          obtain ⟨d1, d2, d3⟩ := letter_int b[k] hlet
          clear hlet
          have HX' : Hid (quoteTo b.data.toList (k + 1) = if 75 < L.size + 1 then (S.data.toList ++ L.data.toList ++ [61, 13, 10] ++ [b[k]], 1) else (S.data.toList ++ L.data.toList ++ [b[k]], L.size + 1)) := by
            show _ = _
            rw [HX.out, HQL.out]; rfl
          clear HX HQL
          by_cases hov : 75 < L.size + 1
          · have t2 : (75 : Int) < (L.size : Int) + 1 := by omega
            go_wp2_with (go_at_call 29; refine (in_yes _ _ _ _ d1 d2).mono ?_; rintro e w' ⟨rfl, rfl⟩)
            go_roundw
            case rel => exact ⟨k + 1, _, _, by omega, by go_num, rfl, rfl, by simp [ByteArray.size_mk']; omega, by simp [ByteArray.size_mk']; omega, hb.alloc hsz _, by show _ = _; rw [HX'.out, if_pos hov]; simp [ByteArray.size_mk']⟩
            case measure => simp [intOf]; omega
          · have t2 : ¬ (75 : Int) < (L.size : Int) + 1 := by omega
            go_wp2_with (go_at_call 29; refine (in_yes _ _ _ _ d1 d2).mono ?_; rintro e w' ⟨rfl, rfl⟩)
            go_roundw
            case rel => exact ⟨k + 1, _, _, by omega, by go_num, rfl, rfl, by simp [ByteArray.size_mk']; omega, by simp [ByteArray.size_mk']; omega, hb.alloc hsz _, by show _ = _; rw [HX'.out, if_neg hov]; simp [ByteArray.size_mk']⟩
            case measure => simp [intOf]; omega
        · have hlet' : isLetter b[k] = false := by simpa using hlet
          clear hlet
          by_cases h61 : b[k] = 61
          · have HQL : Hid (quotedL b[k] false = [61, hexd (b[k].toNat / 16), hexd (b[k].toNat % 16)]) := by show _ = _; unfold quotedL; rw [hlet', h61]; rfl
            have d1 : (33 : Int) ≤ (b[k].toNat : Int) := by rw [h61]; decide
            have d2 : (b[k].toNat : Int) ≤ 126 := by rw [h61]; decide
            have d3 : ((b[k].toNat : Int) != 61) = false := by rw [h61]; rfl
            clear hlet' h61
            have HX' : Hid (quoteTo b.data.toList (k + 1) = if 75 < L.size + 3 then (S.data.toList ++ L.data.toList ++ [61, 13, 10] ++ [61, hexd (b[k].toNat / 16), hexd (b[k].toNat % 16)], 3) else (S.data.toList ++ L.data.toList ++ [61, hexd (b[k].toNat / 16), hexd (b[k].toNat % 16)], L.size + 3)) := by
              show _ = _
              rw [HX.out, HQL.out]; rfl
            clear HX HQL
            by_cases hov : 75 < L.size + 3
            · have t2 : (75 : Int) < (L.size : Int) + 3 := by omega
              go_wp2_with (go_at_call 29; refine (in_yes _ _ _ _ d1 d2).mono ?_; rintro e w' ⟨rfl, rfl⟩)
              go_region
              simp only [hexd_at]
              go_wp2
              go_roundw
              case rel => exact ⟨k + 1, _, _, by omega, by go_num, rfl, rfl, by simp [ByteArray.size_mk']; omega, by simp [ByteArray.size_mk']; omega, ((hb.alloc hsz _).alloc (by simp; omega) _).drew, by show _ = _; rw [HX'.out, if_pos hov]; simp [ByteArray.size_mk']⟩
              case measure => simp [intOf]; omega
            · have t2 : ¬ (75 : Int) < (L.size : Int) + 3 := by omega
              go_wp2_with (go_at_call 29; refine (in_yes _ _ _ _ d1 d2).mono ?_; rintro e w' ⟨rfl, rfl⟩)
              go_region
              simp only [hexd_at]
              go_wp2
              go_roundw
              case rel => exact ⟨k + 1, _, _, by omega, by go_num, rfl, rfl, by simp [ByteArray.size_mk']; omega, by simp [ByteArray.size_mk']; omega, ((hb.alloc hsz _).alloc (by simp; omega) _).drew, by show _ = _; rw [HX'.out, if_neg hov]; simp [ByteArray.size_mk']⟩
              case measure => simp [intOf]; omega
          · have d0 : ¬ ((33 : Int) ≤ (b[k].toNat : Int) ∧ (b[k].toNat : Int) ≤ 126) := out_int b[k] hlet' h61
            cases hbl : isBlank b[k]
            · have HQL : Hid (quotedL b[k] false = [61, hexd (b[k].toNat / 16), hexd (b[k].toNat % 16)]) := by show _ = _; unfold quotedL; rw [hlet', hbl]; rfl
              obtain ⟨d4, d5⟩ := notBlank_int b[k] hbl
              clear hlet' h61 hbl
              have HX' : Hid (quoteTo b.data.toList (k + 1) = if 75 < L.size + 3 then (S.data.toList ++ L.data.toList ++ [61, 13, 10] ++ [61, hexd (b[k].toNat / 16), hexd (b[k].toNat % 16)], 3) else (S.data.toList ++ L.data.toList ++ [61, hexd (b[k].toNat / 16), hexd (b[k].toNat % 16)], L.size + 3)) := by
                show _ = _
                rw [HX.out, HQL.out]; rfl
              clear HX HQL
              by_cases hov : 75 < L.size + 3
              · have t2 : (75 : Int) < (L.size : Int) + 3 := by omega
                go_wp2_with (go_at_call 29; refine (in_no _ _ _ _ d0).mono ?_; rintro e w' ⟨rfl, rfl⟩)
                go_region
                simp only [hexd_at]
                go_wp2
                go_roundw
                case rel => exact ⟨k + 1, _, _, by omega, by go_num, rfl, rfl, by simp [ByteArray.size_mk']; omega, by simp [ByteArray.size_mk']; omega, ((hb.alloc hsz _).alloc (by simp; omega) _).drew, by show _ = _; rw [HX'.out, if_pos hov]; simp [ByteArray.size_mk']⟩
                case measure => simp [intOf]; omega
              · have t2 : ¬ (75 : Int) < (L.size : Int) + 3 := by omega
                go_wp2_with (go_at_call 29; refine (in_no _ _ _ _ d0).mono ?_; rintro e w' ⟨rfl, rfl⟩)
                go_region
                simp only [hexd_at]
                go_wp2
                go_roundw
                case rel => exact ⟨k + 1, _, _, by omega, by go_num, rfl, rfl, by simp [ByteArray.size_mk']; omega, by simp [ByteArray.size_mk']; omega, ((hb.alloc hsz _).alloc (by simp; omega) _).drew, by show _ = _; rw [HX'.out, if_neg hov]; simp [ByteArray.size_mk']⟩
                case measure => simp [intOf]; omega
            · obtain d4 | ⟨d4, d5⟩ := blank_int b[k] hbl
              · have HQL : Hid (quotedL b[k] false = [b[k]]) := by show _ = _; unfold quotedL; rw [hlet', hbl]; rfl
                clear hlet' h61 hbl
                have HX' : Hid (quoteTo b.data.toList (k + 1) = if 75 < L.size + 1 then (S.data.toList ++ L.data.toList ++ [61, 13, 10] ++ [b[k]], 1) else (S.data.toList ++ L.data.toList ++ [b[k]], L.size + 1)) := by
                  show _ = _
                  rw [HX.out, HQL.out]; rfl
                clear HX HQL
                by_cases hov : 75 < L.size + 1
                · have t2 : (75 : Int) < (L.size : Int) + 1 := by omega
                  go_wp2_with (go_at_call 29; refine (in_no _ _ _ _ d0).mono ?_; rintro e w' ⟨rfl, rfl⟩)
                  go_roundw
                  case rel => exact ⟨k + 1, _, _, by omega, by go_num, rfl, rfl, by simp [ByteArray.size_mk']; omega, by simp [ByteArray.size_mk']; omega, hb.alloc hsz _, by show _ = _; rw [HX'.out, if_pos hov]; simp [ByteArray.size_mk']⟩
                  case measure => simp [intOf]; omega
                · have t2 : ¬ (75 : Int) < (L.size : Int) + 1 := by omega
                  go_wp2_with (go_at_call 29; refine (in_no _ _ _ _ d0).mono ?_; rintro e w' ⟨rfl, rfl⟩)
                  go_roundw
                  case rel => exact ⟨k + 1, _, _, by omega, by go_num, rfl, rfl, by simp [ByteArray.size_mk']; omega, by simp [ByteArray.size_mk']; omega, hb.alloc hsz _, by show _ = _; rw [HX'.out, if_neg hov]; simp [ByteArray.size_mk']⟩
                  case measure => simp [intOf]; omega
              · have HQL : Hid (quotedL b[k] false = [b[k]]) := by show _ = _; unfold quotedL; rw [hlet', hbl]; rfl
                clear hlet' h61 hbl
                have HX' : Hid (quoteTo b.data.toList (k + 1) = if 75 < L.size + 1 then (S.data.toList ++ L.data.toList ++ [61, 13, 10] ++ [b[k]], 1) else (S.data.toList ++ L.data.toList ++ [b[k]], L.size + 1)) := by
                  show _ = _
                  rw [HX.out, HQL.out]; rfl
                clear HX HQL
                by_cases hov : 75 < L.size + 1
                · have t2 : (75 : Int) < (L.size : Int) + 1 := by omega
                  go_wp2_with (go_at_call 29; refine (in_no _ _ _ _ d0).mono ?_; rintro e w' ⟨rfl, rfl⟩)
                  go_roundw
                  case rel => exact ⟨k + 1, _, _, by omega, by go_num, rfl, rfl, by simp [ByteArray.size_mk']; omega, by simp [ByteArray.size_mk']; omega, hb.alloc hsz _, by show _ = _; rw [HX'.out, if_pos hov]; simp [ByteArray.size_mk']⟩
                  case measure => simp [intOf]; omega
                · have t2 : ¬ (75 : Int) < (L.size : Int) + 1 := by omega
                  go_wp2_with (go_at_call 29; refine (in_no _ _ _ _ d0).mono ?_; rintro e w' ⟨rfl, rfl⟩)
                  go_roundw
                  case rel => exact ⟨k + 1, _, _, by omega, by go_num, rfl, rfl, by simp [ByteArray.size_mk']; omega, by simp [ByteArray.size_mk']; omega, hb.alloc hsz _, by show _ = _; rw [HX'.out, if_neg hov]; simp [ByteArray.size_mk']⟩
                  case measure => simp [intOf]; omega
    · have hke : k = b.size := by omega
      have HE : Hid (quoteS b.data.toList = S.data.toList ++ L.data.toList) := by
        show _ = _
        unfold quoteS
        rw [HL.out, ← hke, HQ.out]
      clear hke
      go_wp2
      go_ret
      exact ⟨ret_str (by rw [HE.out]; apply ByteArray.ext; simp), hb⟩

end Go.Proofs.YtnjjjkhhoaadfaaGreatDoor.Tx

namespace Go.Proofs.YtnjjjkhhoaadfaaGreatDoor.Tx
open Go.RowKit Go.Extern.Stop Go.Stop Go.Extern

/- errors.As at a target of type *api.Errno, the error an api.Errno: Go's own text walked, the model's entries for reflectlite by closed facts at this program's types. -/
theorem valueOfP (t : Addr) (w : World) : (ReflectliteValue.unpack (.iface 160 (.pointer (some t)))).run Tryz.prog w
    = .ok (.agg #[.pointer (some ⟨9, 160, none⟩), .pointer (some ⟨w.heap.size, 0, none⟩), .int .u64 150]) (w.alloc (.cells #[.pointer (some t)] 160)) := by kernel_rfl
theorem typeP (a : Addr) (w : World) : (ReflectliteValue.methodAny (ReflectliteValue.valueError "reflectlite.Value.Type" 0) (fun t _ _ _ => ReflectliteType.toType t) #[.agg #[.pointer (some ⟨9, 160, none⟩), .pointer (some a), .int .u64 150]]).run Tryz.prog w
    = .ok (.iface 220 (.agg #[.pointer (some ⟨9, 160, none⟩)])) w := by kernel_rfl
theorem methodKind (h : Value) (w : World) : (Go.method 378 220 (.agg #[h]) "Kind").run Tryz.prog w = .ok (229, h) w := by kernel_rfl
theorem kindP (w : World) : ((ReflectliteType.abiMethod fun t => (fun a : Nat => Value.int IntKind.u8 (a : Int)) <$> Rtype.kind t) #[.pointer (some ⟨9, 160, none⟩)]).run Tryz.prog w = .ok (.int .u8 22) w := by kernel_rfl
theorem kindE (w : World) : ((ReflectliteType.abiMethod fun t => (fun a : Nat => Value.int IntKind.u8 (a : Int)) <$> Rtype.kind t) #[.pointer (some ⟨9, 22, none⟩)]).run Tryz.prog w = .ok (.int .u8 2) w := by kernel_rfl

theorem rlm (z : Sem Value) (f : TypeId → Addr → Nat → Nat → Sem Value) (v : Value) :
    ReflectliteValue.method z f #[v] = (do match ← ReflectliteValue.parts v with | none => z | some (t, a, fl) => f t a fl (fl % 32)) := rfl
theorem partsP (a : Addr) (w : World) : (ReflectliteValue.parts (.agg #[.pointer (some ⟨9, 160, none⟩), .pointer (some a), .int .u64 150])).run Tryz.prog w = .ok (some (160, a, 150)) w := by kernel_rfl
theorem isNilP (a p : Addr) (W : World) (ha : W.cell? a = some (.pointer (some p))) :
    (ReflectliteValue.method (ReflectliteValue.valueError "reflectlite.Value.IsNil" 0) ReflectliteValue.isNil #[.agg #[.pointer (some ⟨9, 160, none⟩), .pointer (some a), .int .u64 150]]).run Tryz.prog W = .ok (.bool false) W := by
  rw [rlm]
  simp only [Sem.run_bind, partsP, Result.andThen]
  simp [ReflectliteValue.isNil, loadVar, isAgg, underlying, Tryz.underlying160, ha, Result.andThen]
theorem methodElem (h : Value) (w : World) : (Go.method 378 220 (.agg #[h]) "Elem").run Tryz.prog w = .ok (242, .agg #[h]) w := by kernel_rfl
theorem methodImplements (h : Value) (w : World) : (Go.method 378 220 (.agg #[h]) "Implements").run Tryz.prog w = .ok (243, .agg #[h]) w := by kernel_rfl
theorem methodAssignableTo (h : Value) (w : World) : (Go.method 378 220 (.agg #[h]) "AssignableTo").run Tryz.prog w = .ok (240, .agg #[h]) w := by kernel_rfl
theorem elemP (w : World) : (ReflectliteType.method ReflectliteType.elem #[.agg #[.pointer (some ⟨9, 160, none⟩)]]).run Tryz.prog w = .ok (.iface 220 (.agg #[.pointer (some ⟨9, 22, none⟩)])) w := by kernel_rfl
theorem implementsE (w : World) : (ReflectliteType.relation "Implements" ReflectliteType.implements_ #[.agg #[.pointer (some ⟨9, 22, none⟩)], .iface 220 (.agg #[.pointer (some ⟨9, 26, none⟩)])]).run Tryz.prog w = .ok (.bool true) w := by kernel_rfl
theorem typeOfE (v : Value) (w : World) : (ReflectliteType.typeOf #[.iface 22 v]).run Tryz.prog w = .ok (.iface 220 (.agg #[.pointer (some ⟨9, 22, none⟩)])) w := by kernel_rfl
theorem assignableE (w : World) : (ReflectliteType.relation "AssignableTo" ReflectliteType.assignableTo #[.agg #[.pointer (some ⟨9, 22, none⟩)], .iface 220 (.agg #[.pointer (some ⟨9, 22, none⟩)])]).run Tryz.prog w = .ok (.bool true) w := by kernel_rfl
theorem valueOfE (n : Int) (w : World) : (ReflectliteValue.unpack (.iface 22 (.int .i64 n))).run Tryz.prog w
    = .ok (.agg #[.pointer (some ⟨9, 22, none⟩), .pointer (some ⟨w.heap.size, 0, none⟩), .int .u64 130]) (w.alloc (.cells #[.int .i64 n] 22)) := by kernel_rfl
theorem elemOfP (w : World) : (Rtype.elem? 160).run Tryz.prog w = .ok (some 22) w := by kernel_rfl
theorem mkE (p : Addr) (w : World) : (ReflectliteValue.mk 22 p ReflectliteValue.flagAddr).run Tryz.prog w = .ok (.agg #[.pointer (some ⟨9, 22, none⟩), .pointer (some p), .int .u64 386]) w := by kernel_rfl
theorem elemVP (a p : Addr) (W : World) (ha : W.cell? a = some (.pointer (some p))) :
    (ReflectliteValue.method (ReflectliteValue.valueError "reflectlite.Value.Elem" 0) ReflectliteValue.elem #[.agg #[.pointer (some ⟨9, 160, none⟩), .pointer (some a), .int .u64 150]]).run Tryz.prog W
      = .ok (.agg #[.pointer (some ⟨9, 22, none⟩), .pointer (some p), .int .u64 386]) W := by
  rw [rlm]
  simp only [Sem.run_bind, partsP, Result.andThen]
  simp [ReflectliteValue.elem, loadVar, isAgg, underlying, Tryz.underlying160, ha, Result.andThen, elemOfP, mkE]
/-- What Set comes to, its other ways left open. -/
theorem rls (v x : Value) : ∃ (u1 : Sem Value) (u2 : TypeId → Addr → Nat → TypeId → Addr → Sem Value) (g : TypeId → Addr → TypeId → Value → Sem Value), ReflectliteValue.set #[v, x] = (do
    let p ← ReflectliteValue.parts v
    let q ← ReflectliteValue.parts x
    match (p, q) with
    | (some (dst, a, fl), some (src, b, _)) =>
      if (fl / ReflectliteValue.flagAddr % 2 == 0) = true then u2 dst a fl src b
      else do
        let val ← loadVar src b
        let c ← Rtype.directlyAssignable dst src
        if c = true then do
          storeVar dst a val
          pure (.tuple #[])
        else g dst a src val
    | _ => u1) := ⟨_, _, _, rfl⟩
theorem partsEa (a : Addr) (w : World) : (ReflectliteValue.parts (.agg #[.pointer (some ⟨9, 22, none⟩), .pointer (some a), .int .u64 386])).run Tryz.prog w = .ok (some (22, a, 386)) w := by kernel_rfl
theorem partsE (a : Addr) (w : World) : (ReflectliteValue.parts (.agg #[.pointer (some ⟨9, 22, none⟩), .pointer (some a), .int .u64 130])).run Tryz.prog w = .ok (some (22, a, 130)) w := by kernel_rfl
theorem directE (w : World) : (Rtype.directlyAssignable 22 22).run Tryz.prog w = .ok true w := by kernel_rfl
theorem setE (ta b : Addr) (n : Int) (old : Value) (W : World) (hb : W.cell? b = some (.int .i64 n)) (ht : W.cell? ta = some old) (hf : W.frozen? ta = false) :
    (ReflectliteValue.set #[.agg #[.pointer (some ⟨9, 22, none⟩), .pointer (some ta), .int .u64 386], .agg #[.pointer (some ⟨9, 22, none⟩), .pointer (some b), .int .u64 130]]).run Tryz.prog W
      = .ok (.tuple #[]) (W.setCell ta (.int .i64 n)) := by
  obtain ⟨u1, u2, g, e⟩ := rls (.agg #[.pointer (some ⟨9, 22, none⟩), .pointer (some ta), .int .u64 386]) (.agg #[.pointer (some ⟨9, 22, none⟩), .pointer (some b), .int .u64 130])
  rw [e]
  simp only [Sem.run_bind, partsEa, partsE, Result.andThen]
  simp [ReflectliteValue.flagAddr, loadVar, isAgg, underlying, Tryz.underlying22, hb, Result.andThen, directE, storeVar, Value.cells, storeCells, Addr.add]
  rw [run_store Tryz.prog W ta _ _ (by rfl)]
  simp [ht, hf]

end Go.Proofs.YtnjjjkhhoaadfaaGreatDoor.Tx

namespace Go.Proofs.YtnjjjkhhoaadfaaGreatDoor.Tx
open Go.RowKit Go.Extern.Stop Go.Stop Go.Extern

/-- The library's variable that holds the type 'error'. -/
def ErrT (w : World) : Prop := w.cell? ⟨2, 0, none⟩ = some (.iface 220 (.agg #[.pointer (some ⟨9, 26, none⟩)]))
theorem ErrT.lt {w : World} (h : ErrT w) : 2 < w.heap.size := World.block_lt_of_cell? w _ h
theorem ErrT.below {w w' : World} {B : Nat} (h : ErrT w) (hb : Below B w w') (hB : 2 < B) : ErrT w' := (hb.cell (p := ⟨2, 0, none⟩) hB).trans h

theorem as_nil (t : Value) (w : World) :
    Calls Tryz.prog 127 #[.nilIface, t] w fun e w' => e = .returned (.bool false) ∧ w' = w := by
  go_enter Tryz.func127, Tryz.ntmps127
  go_wp2
  go_ret
  exact ⟨rfl, rfl⟩

set_option maxHeartbeats 4000000 in
theorem as_hit (n : Int) (t : Addr) (old : Value) (w : World) (hg0 : ErrT w) (ht0 : w.cell? t = some old) (hf0 : w.frozen? t = false) :
    Calls Tryz.prog 127 #[.iface 22 (.int .i64 n), .iface 160 (.pointer (some t))] w fun ev w' => ev = .returned (.bool true) ∧ w' = ((((w.alloc (.cells #[.pointer (some t)] 160)).alloc (.cells #[.pointer (some ⟨9, 160, none⟩), .pointer (some ⟨w.heap.size, 0, none⟩), .int .u64 150] 189)).alloc (.cells #[.pointer (some ⟨9, 160, none⟩), .pointer (some ⟨w.heap.size, 0, none⟩), .int .u64 150] 189)).alloc (.cells #[.int .i64 n] 22)).setCell t (.int .i64 n) := by
  have hg : w.cell? ⟨2, 0, none⟩ = some (.iface 220 (.agg #[.pointer (some ⟨9, 26, none⟩)])) := hg0
  have hlt := hg0.lt
  have h6 := @run_callFunc_extern Tryz.prog 166 _ (fun args => ReflectliteValue.unpack (args.getD 0 (.tuple #[]))) Tryz.func166 (by kernel_rfl) (by kernel_rfl) (by kernel_rfl) (by kernel_rfl)
  have h7 := @run_callFunc_extern Tryz.prog 167 _ (ReflectliteValue.methodAny (ReflectliteValue.valueError "reflectlite.Value.Type" 0) (fun t _ _ _ => ReflectliteType.toType t)) Tryz.func167 (by kernel_rfl) (by kernel_rfl) (by kernel_rfl) (by kernel_rfl)
  have h8 := @run_callFunc_extern Tryz.prog 168 _ (ReflectliteValue.method (ReflectliteValue.valueError "reflectlite.Value.IsNil" 0) ReflectliteValue.isNil) Tryz.func168 (by kernel_rfl) (by kernel_rfl) (by kernel_rfl) (by kernel_rfl)
  have h27 := @run_callFunc_extern Tryz.prog 229 _ (ReflectliteType.abiMethod fun t => do pure (.int .u8 (← Rtype.kind t))) Tryz.func229 (by kernel_rfl) (by kernel_rfl) (by kernel_rfl) (by kernel_rfl)
  have h37 := @run_callFunc_extern Tryz.prog 242 _ (ReflectliteType.method ReflectliteType.elem) Tryz.func242 (by kernel_rfl) (by kernel_rfl) (by kernel_rfl) (by kernel_rfl)
  have h38 := @run_callFunc_extern Tryz.prog 243 _ (ReflectliteType.relation "Implements" ReflectliteType.implements_) Tryz.func243 (by kernel_rfl) (by kernel_rfl) (by kernel_rfl) (by kernel_rfl)
  have h10 := @run_callFunc_extern Tryz.prog 197 _ ReflectliteType.typeOf Tryz.func197 (by kernel_rfl) (by kernel_rfl) (by kernel_rfl) (by kernel_rfl)
  have h35 := @run_callFunc_extern Tryz.prog 240 _ (ReflectliteType.relation "AssignableTo" ReflectliteType.assignableTo) Tryz.func240 (by kernel_rfl) (by kernel_rfl) (by kernel_rfl) (by kernel_rfl)
  have h11 := @run_callFunc_extern Tryz.prog 198 _ (ReflectliteValue.method (ReflectliteValue.valueError "reflectlite.Value.Elem" 0) ReflectliteValue.elem) Tryz.func198 (by kernel_rfl) (by kernel_rfl) (by kernel_rfl) (by kernel_rfl)
  have h12 := @run_callFunc_extern Tryz.prog 199 _ ReflectliteValue.set Tryz.func199 (by kernel_rfl) (by kernel_rfl) (by kernel_rfl) (by kernel_rfl)
  have tO := typeOfE
  have mA := methodAssignableTo
  have a25 := assignableE
  have v25 := valueOfE
  have f6 := valueOfP
  have f7 := typeP
  have mK := methodKind
  have mE := methodElem
  have mI := methodImplements
  have k27 := kindP
  have k25 := kindE
  have e27 := elemP
  have i25 := implementsE
  have n8 := isNilP ⟨w.heap.size, 0, none⟩ t ((w.alloc (.cells #[.pointer (some t)] 160)).alloc (.cells #[.pointer (some ⟨9, 160, none⟩), .pointer (some ⟨w.heap.size, 0, none⟩), .int .u64 150] 189)) (by simp)
  have hg2 : ((w.alloc (.cells #[.pointer (some t)] 160)).alloc (.cells #[.pointer (some ⟨9, 160, none⟩), .pointer (some ⟨w.heap.size, 0, none⟩), .int .u64 150] 189)).cell? ⟨2, 0, none⟩ = some (.iface 220 (.agg #[.pointer (some ⟨9, 26, none⟩)])) := by
    rw [World.cell?_alloc_lt _ _ ⟨2, 0, none⟩ (by simp; omega), World.cell?_alloc_lt _ _ ⟨2, 0, none⟩ hlt]; exact hg
  have htl : t.block < w.heap.size := World.block_lt_of_cell? w _ ht0
  have el := elemVP ⟨w.heap.size, 0, none⟩ t (((w.alloc (.cells #[.pointer (some t)] 160)).alloc (.cells #[.pointer (some ⟨9, 160, none⟩), .pointer (some ⟨w.heap.size, 0, none⟩), .int .u64 150] 189)).alloc (.cells #[.pointer (some ⟨9, 160, none⟩), .pointer (some ⟨w.heap.size, 0, none⟩), .int .u64 150] 189)) (by rw [World.cell?_alloc_lt _ _ ⟨w.heap.size, 0, none⟩ (by simp; omega)]; simp)
  have st := setE t ⟨w.heap.size + 1 + 1 + 1, 0, none⟩ n old ((((w.alloc (.cells #[.pointer (some t)] 160)).alloc (.cells #[.pointer (some ⟨9, 160, none⟩), .pointer (some ⟨w.heap.size, 0, none⟩), .int .u64 150] 189)).alloc (.cells #[.pointer (some ⟨9, 160, none⟩), .pointer (some ⟨w.heap.size, 0, none⟩), .int .u64 150] 189)).alloc (.cells #[.int .i64 n] 22))
    (by rw [World.cell?_alloc_at _ _ _ _ (by simp)]; rfl)
    (by rw [World.cell?_alloc_lt _ _ t (by simp; omega), World.cell?_alloc_lt _ _ t (by simp; omega), World.cell?_alloc_lt _ _ t (by simp; omega), World.cell?_alloc_lt _ _ t htl]; exact ht0)
    (by rw [World.frozen?_alloc_old _ _ t (by simp; omega), World.frozen?_alloc_old _ _ t (by simp; omega), World.frozen?_alloc_old _ _ t (by simp; omega), World.frozen?_alloc_old _ _ t (Nat.ne_of_lt htl)]; exact hf0)
  clear hg0
  go_enter Tryz.func127, Tryz.ntmps127
  go_wp2
  refine wp_loop_rounds 1 ?_
  rw [rounds_succ]
  go_wp2
  go_ret
  exact ⟨rfl, rfl⟩

set_option maxHeartbeats 1000000 in
theorem tell_nil (w : World) : Calls Tryz.prog 79 #[.nilIface] w fun e w' => e = .returned (.int .i64 0) ∧ w' = w := by
  go_enter Tryz.func79, Tryz.ntmps79
  go_wp2
  go_ret
  exact ⟨rfl, rfl⟩

set_option maxHeartbeats 1000000 in
theorem tell_errno (n : Int) (w : World) (hg : ErrT w) : Calls Tryz.prog 79 #[.iface 22 (.int .i64 n)] w fun e w' => e = .returned (.int .i64 n) ∧ Below w.heap.size w w' := by
  have hgA : ErrT (w.alloc (.cells #[.int .i64 0] 22)) := hg.below ((Below.refl w.heap.size w).alloc (Nat.le_refl _) _) hg.lt
  have htA : (w.alloc (.cells #[.int .i64 0] 22)).cell? ⟨w.heap.size, 0, none⟩ = some (.int .i64 0) := by simp
  have hfA : (w.alloc (.cells #[.int .i64 0] 22)).frozen? ⟨w.heap.size, 0, none⟩ = false := by simp
  go_enter Tryz.func79, Tryz.ntmps79
  go_wp2_with (go_at_call 127; refine (as_hit n _ (.int .i64 0) _ hgA htA hfA).mono ?_; rintro e w' ⟨rfl, rfl⟩)
  go_ret
  refine ⟨rfl, ?_⟩
  exact (((((Below.refl _ _).alloc (Nat.le_refl _) _).alloc (by simp) _).alloc (by simp; omega) _).alloc (by simp; omega) _).alloc (by simp; omega) _

end Go.Proofs.YtnjjjkhhoaadfaaGreatDoor.Tx

namespace Go.Proofs.YtnjjjkhhoaadfaaGreatDoor.Tx
open Go.RowKit Go.Extern.Stop Go.Stop Go.Extern

theorem noUnwrap (v : Value) (xT : TypeId) (w : World) : (Instr.typeAssert (.iface 22 v) xT 127 true).run Tryz.prog w = .ok (.tuple #[.nilIface, .bool false]) w :=
  run_typeAssert_lacksB Tryz.underlying127 (by kernel_rfl) (by kernel_rfl) v xT w
theorem noAt (n : Int) (w : World) : (Instr.typeAssert (.iface 22 (.int .i64 n)) 26 124 true).run Tryz.prog w = .ok (.tuple #[.pointer none, .bool false]) w := by kernel_rfl

set_option maxHeartbeats 1000000 in
theorem place_nil (w : World) : Calls Tryz.prog 43 #[.nilIface] w fun e w' => e = .returned (.tuple #[.int .i64 0, .int .i64 (-1)]) ∧ w' = w := by
  go_enter Tryz.func43, Tryz.ntmps43
  go_wp2_with (go_at_call 79; refine (tell_nil _).mono ?_; rintro e w' ⟨rfl, rfl⟩)
  refine wp_loop_rounds 1 ?_
  rw [rounds_succ]
  go_wp2
  go_ret2
  exact ⟨rfl, rfl⟩

set_option maxHeartbeats 1000000 in
set_option maxRecDepth 100000 in
theorem place_errno (n : Int) (w : World) (hg : ErrT w) : Calls Tryz.prog 43 #[.iface 22 (.int .i64 n)] w fun e w' => e = .returned (.tuple #[.int .i64 n, .int .i64 (-1)]) ∧ Below w.heap.size w w' := by
  have q1 := noUnwrap
  have q2 := noAt
  go_enter Tryz.func43, Tryz.ntmps43
  go_wp2_with (go_at_call 79; refine (tell_errno n _ hg).mono ?_; rintro e w' ⟨rfl, hb⟩)
  refine wp_loop_rounds 1 ?_
  rw [rounds_succ]
  go_wp2
  go_ret2
  exact ⟨rfl, hb⟩

set_option maxHeartbeats 1000000 in
theorem fault_any (n : Int) (w : World) : Calls Tryz.prog 26 #[.int .i64 n] w fun e w' => e = .returned (.agg #[.int .i64 n, .int .i64 (-1)]) ∧ Below w.heap.size w w' := by
  go_enter Tryz.func26, Tryz.ntmps26
  go_wp2
  exact bodyPost_ret (v := .agg #[.int .i64 n, .int .i64 (-1)]) (by simp [results, Tryz.results26, go_sem]) rfl ⟨rfl, (Below.refl _ _).alloc (Nat.le_refl _) _⟩

set_option maxHeartbeats 1000000 in
theorem is_nil (w : World) : Calls Tryz.prog 25 #[.nilIface, .agg #[.int .i64 0, .int .i64 (-1)]] w fun e w' => e = .returned (.bool true) ∧ Below w.heap.size w w' := by
  go_enter Tryz.func25, Tryz.ntmps25
  go_wp2_with (go_at_call 43; refine (place_nil _).mono ?_; rintro e w' ⟨rfl, hw⟩; subst hw)
  go_ret
  exact ⟨rfl, (Below.refl _ _).alloc (Nat.le_refl _) _⟩

set_option maxHeartbeats 1000000 in
theorem is_errno (n : Int) (w : World) (hg : ErrT w) : Calls Tryz.prog 25 #[.iface 22 (.int .i64 n), .agg #[.int .i64 n, .int .i64 (-1)]] w fun e w' => e = .returned (.bool true) ∧ Below w.heap.size w w' := by
  have hgA : ErrT (w.alloc (.cells #[.int .i64 n, .int .i64 (-1)] 55)) := hg.below ((Below.refl w.heap.size w).alloc (Nat.le_refl _) _) hg.lt
  go_enter Tryz.func25, Tryz.ntmps25
  go_wp2_with fail
  refine (place_errno n _ hgA).mono ?_
  rintro e w' ⟨rfl, hb⟩
  have c0 : w'.cell? ⟨w.heap.size, 0, none⟩ = some (.int .i64 n) := (hb.cell (p := ⟨w.heap.size, 0, none⟩) (by simp)).trans (by simp)
  have c1 : w'.cell? ⟨w.heap.size, 1, none⟩ = some (.int .i64 (-1)) := (hb.cell (p := ⟨w.heap.size, 1, none⟩) (by simp)).trans (by simp)
  go_wp2
  go_ret
  exact ⟨rfl, ((Below.refl _ _).alloc (Nat.le_refl _) _).trans (hb.mono (by simp))⟩

set_option maxHeartbeats 1000000 in
theorem bare_ok (w : World) : Calls Tryz.prog 8 #[.nilIface, .int .i64 0] w fun e w' => e = .returned (.bool true) ∧ Below w.heap.size w w' := by
  go_enter Tryz.func8, Tryz.ntmps8
  go_wp2_with fail
  refine (fault_any 0 _).mono ?_
  rintro e w1 ⟨rfl, hb1⟩
  go_wp2_with fail
  refine (is_nil _).mono ?_
  rintro e w2 ⟨rfl, hb2⟩
  go_wp2
  go_ret
  exact ⟨rfl, hb1.trans (hb2.mono hb1.size)⟩

set_option maxHeartbeats 1000000 in
theorem bare_err (n : Int) (w : World) (hg : ErrT w) : Calls Tryz.prog 8 #[.iface 22 (.int .i64 n), .int .i64 n] w fun e w' => e = .returned (.bool true) ∧ Below w.heap.size w w' := by
  go_enter Tryz.func8, Tryz.ntmps8
  go_wp2_with fail
  refine (fault_any n _).mono ?_
  rintro e w1 ⟨rfl, hb1⟩
  go_wp2_with fail
  refine (is_errno n _ (hg.below hb1 hg.lt)).mono ?_
  rintro e w2 ⟨rfl, hb2⟩
  go_wp2
  go_ret
  exact ⟨rfl, hb1.trans (hb2.mono hb1.size)⟩

end Go.Proofs.YtnjjjkhhoaadfaaGreatDoor.Tx

namespace Go.Proofs.YtnjjjkhhoaadfaaGreatDoor.Tx
open Go.RowKit Go.Proofs.Sx

/-- Numbers as cells of a slice of the call's own. -/
def ci (l : List Nat) : List Value := l.map fun (n : Nat) => Value.int .i64 (n : Int)
theorem ci_append (a b : List Nat) : ci (a ++ b) = ci a ++ ci b := by simp [ci]
theorem ci_oneCell (l : List Nat) : ∀ u ∈ ci l, u.oneCell' = true := by
  intro u hu
  simp only [ci, List.mem_map] at hu
  obtain ⟨b, _, rfl⟩ := hu
  rfl
def OwnI (w : World) (B : Nat) (v : Value) (l : List Nat) : Prop := w.ownsRow B 3 1 v l.length (ci l)
theorem Tryz.infoInt : (Tryz.prog.info? 3).map (fun i => (i.zero, i.size, i.bytes)) = some (some (.int .i64 0), 1, 8) := by kernel_rfl
theorem OwnI.nil (w : World) (B : Nat) : OwnI w B (.slice none 0 0) [] := World.ownsRow_nil _ _ _ _
theorem OwnI.below {w w' : World} {B C : Nat} {v : Value} {l : List Nat} (h : OwnI w B v l) (hb : Below C w w') (hC : w.heap.size ≤ C) : OwnI w' B v l := by
  obtain ⟨h1, h2⟩ := h
  refine ⟨h1, ?_⟩
  rcases h2 with h2 | ⟨g, cap, cur, a, b, c, d⟩
  · exact .inl h2
  · refine .inr ⟨g, cap, cur, a, b, ?_, d⟩
    rw [hb.block g ?_]
    · exact c
    · have := (Array.getElem?_eq_some_iff.1 c).1
      omega
theorem OwnI.shape {w : World} {B : Nat} {v : Value} {l : List Nat} (h : OwnI w B v l) :
    (v = .slice none 0 0 ∧ l = []) ∨ ∃ g cap, v = .slice (some ⟨g, 0, none⟩) l.length cap ∧ B ≤ g ∧ g < w.heap.size ∧ l.length ≤ cap ∧ cap ≤ maxLen ∧ ∀ k (hk : k < l.length), w.cell? ⟨g, k, none⟩ = some (.int .i64 (l[k] : Int)) := by
  rcases h.2 with ⟨a, b⟩ | ⟨g, cap, cur, a, b, c, d, e, _⟩
  · exact .inl ⟨a, List.eq_nil_of_length_eq_zero b⟩
  · refine .inr ⟨g, cap, a, b, (Array.getElem?_eq_some_iff.1 c).1, d, e, fun k hk => ?_⟩
    have h' := h
    rw [a] at h'
    have hc := World.ownsRow.cellAt h' k (by omega)
    rw [hc]
    simp [ci, List.getElem?_eq_getElem hk]

section
variable {ops : Array Oper} {rest : List Oper} {o : Oper} {a : Act} {Q : Exit → Act → World → Prop}
/-- 'append(v, n)' of a number. -/
theorem wp_appI (wr w0 : World) (z : Int) (hgd : o.guard = none) (s x : Operand) (ho : o.op = .call { callee := .builtin .append, args := #[s, x], argTypes := #[47, 47] })
    (B : Nat) (v : Value) (l : List Nat) (hs : a.eval s = v) (hown : OwnI wr B v l) (hx : a.eval x = .slice (some ⟨wr.heap.size, 0, none⟩) 1 1) (c : Nat) (hz : z = (c : Int))
    (hl : l.length + 1 ≤ 10000000) (hB : B ≤ wr.heap.size) (hb : Below B w0 wr)
    (h : ∀ v' w', OwnI w' B v' (l ++ [c]) → Below B w0 w' → (wr.alloc (.cells #[.int .i64 z] 3)).grownBy w' v.ownBlock → wpList Tryz.prog ops Q rest (a.put o.dst v') w') : wpList Tryz.prog ops Q (o :: rest) a (wr.alloc (.cells #[.int .i64 z] 3)) := by
  subst hz
  obtain ⟨i0, hi, hz0, hz1, hz2⟩ := info_parts Tryz.infoInt
  refine wpList_append_own _ hgd s x 47 ho B 3 i0 (.int .i64 0) 1 8 Tryz.underlying47 hi hz0 hz1 hz2 rfl (by decide) v l.length (ci l) hs (hown.alloc _) ⟨wr.heap.size, 0, none⟩ 1 1 (ci [c]) hx (by simp [ci]) (cell_one_new _ _ _) (ci_oneCell _) (by unfold maxLen; omega) (by omega) (by simp; omega) ?_
  intro v' w' h1 h2 _
  refine h v' w' ?_ ((hb.alloc hB _).grown h2 (by simp; omega) (fun k hk => (hown.lt k hk).1)) h2
  unfold OwnI
  rw [List.length_append, ci_append]
  exact h1
end

/-- The w last bits of n, the greatest first. -/
def toBits (n : Nat) : Nat → List Nat
  | 0 => []
  | w + 1 => toBits (n / 2) w ++ [n % 2]
theorem toBits_length (n w : Nat) : (toBits n w).length = w := by
  induction w generalizing n with
  | zero => rfl
  | succ w ih => simp [toBits, ih]
theorem toBits_cons (n w : Nat) : toBits n (w + 1) = n / 2 ^ w % 2 :: toBits n w := by
  induction w generalizing n with
  | zero => simp [toBits]
  | succ w ih =>
    rw [toBits, ih, toBits]
    rw [Nat.div_div_eq_div_mul, Nat.pow_succ, Nat.mul_comm (2 ^ w) 2]
    rfl

theorem toBits_get (n w j : Nat) (h : j < w) : (toBits n w)[j]? = some (n / 2 ^ (w - 1 - j) % 2) := by
  induction w generalizing j with
  | zero => omega
  | succ w ih =>
    rw [toBits_cons]
    cases j with
    | zero => simp
    | succ j =>
      rw [List.getElem?_cons_succ, ih j (by omega)]
      congr 4
      omega
theorem toBits_take (n w j : Nat) (h : j < w) : (toBits n w).take (j + 1) = (toBits n w).take j ++ [n / 2 ^ (w - 1 - j) % 2] := by
  rw [List.take_add_one, toBits_get n w j h]; rfl
theorem toBits_le (n w : Nat) : ∀ c ∈ toBits n w, c ≤ 1 := by
  induction w generalizing n with
  | zero => intro c hc; cases hc
  | succ w ih =>
    intro c hc
    rw [toBits, List.mem_append] at hc
    rcases hc with hc | hc
    · exact ih _ c hc
    · simp at hc; omega
theorem and1 (x : Nat) (h : x < 1000000) : bits .and .i64 (x : Int) 1 = ((x % 2 : Nat) : Int) := by
  have := and_i64 1 (x : Int) (by omega) (by omega) (by omega)
  simpa using this

/-- The number of k bits from place i on; what is not there is 0. -/
def grp (l : List Nat) (i : Nat) : Nat → Nat
  | 0 => 0
  | k + 1 => grp l i k * 2 + l.getD (i + k) 0
theorem grp_lt (l : List Nat) (hl : ∀ c ∈ l, c ≤ 1) (i k : Nat) : grp l i k < 2 ^ k := by
  induction k with
  | zero => simp [grp]
  | succ k ih =>
    have : l.getD (i + k) 0 ≤ 1 := by
      rw [List.getD_eq_getElem?_getD]
      by_cases h : i + k < l.length
      · rw [List.getElem?_eq_getElem h]; exact hl _ (List.getElem_mem h)
      · rw [List.getElem?_eq_none (by omega)]; exact Nat.zero_le _
    rw [grp, Nat.pow_succ]
    omega
/-- The first m groups of six bits as letters. -/
def lets (l : List Nat) (m : Nat) : List UInt8 := (List.range m).map fun j => lett (grp l (6 * j) 6)
theorem lets_succ (l : List Nat) (m : Nat) : lets l (m + 1) = lets l m ++ [lett (grp l (6 * m) 6)] := by simp [lets, List.range_succ]
theorem lets_length (l : List Nat) (m : Nat) : (lets l m).length = m := by simp [lets]

theorem drop_take_succ (F : List UInt8) (p j : Nat) (h : p + j < F.length) : (F.drop p).take (j + 1) = (F.drop p).take j ++ [F.getD (p + j) 0] := by
  rw [List.take_add_one, List.getElem?_drop, List.getD_eq_getElem?_getD, List.getElem?_eq_getElem h]; rfl
theorem inLines_run (F : List UInt8) (p j : Nat) (hp : p % 76 = 0) (hj : j ≤ 75) (h : p + j < F.length) : inLinesTo F (p + j) = inLinesTo F p ++ (F.drop p).take j := by
  induction j with
  | zero => simp
  | succ j ih =>
    rw [← Nat.add_assoc, inLinesTo_on F (p + j) (by omega), ih (by omega) (by omega), List.append_assoc, drop_take_succ F p j (by omega)]
theorem inLines_line (F : List UInt8) (p j : Nat) (hp : p % 76 = 0) (hj : j + 1 ≤ 76) (h : p + (j + 1) ≤ F.length) (hc : j + 1 = 76 ∨ p + (j + 1) = F.length) : inLinesTo F (p + (j + 1)) = inLinesTo F p ++ ((F.drop p).take (j + 1) ++ [13, 10]) := by
  rw [← Nat.add_assoc, inLinesTo_cut F (p + j) (by omega), inLines_run F p j hp (by omega) (by omega), drop_take_succ F p j (by omega)]
  simp

def sliceLen : Value → Nat
  | .slice _ n _ => n
  | _ => 0
def allBits (b : List UInt8) : List Nat := b.flatMap fun c => toBits c.toNat 8
theorem allBits_le (b : List UInt8) : ∀ c ∈ allBits b, c ≤ 1 := by
  intro c hc
  simp only [allBits, List.mem_flatMap] at hc
  obtain ⟨x, _, hc⟩ := hc
  exact toBits_le _ _ c hc
theorem allBits_length (b : List UInt8) : (allBits b).length = 8 * b.length := by
  induction b with
  | nil => rfl
  | cons x b ih => rw [show allBits (x :: b) = toBits x.toNat 8 ++ allBits b from rfl, List.length_append, toBits_length, ih]; simp; omega
theorem allBits_snoc (b : List UInt8) (c : UInt8) : allBits (b ++ [c]) = allBits b ++ toBits c.toNat 8 := by simp [allBits]

end Go.Proofs.YtnjjjkhhoaadfaaGreatDoor.Tx

namespace Go.Proofs.YtnjjjkhhoaadfaaGreatDoor.Tx
open Go.RowKit Go.Proofs.Sx

theorem toBits_add (n w v : Nat) : toBits n (w + v) = toBits (n / 2 ^ v) w ++ toBits n v := by
  induction v generalizing n with
  | zero => simp [toBits]
  | succ v ih =>
    rw [← Nat.add_assoc, toBits, ih, toBits, List.append_assoc]
    congr 2
    rw [Nat.div_div_eq_div_mul, Nat.pow_succ, Nat.mul_comm]
theorem toBits_mod (n w : Nat) : toBits (n % 2 ^ w) w = toBits n w := by
  induction w generalizing n with
  | zero => rfl
  | succ w ih =>
    rw [toBits, toBits]
    have h1 : n % 2 ^ (w + 1) / 2 = n / 2 % 2 ^ w := by
      rw [Nat.pow_succ, Nat.mul_comm, Nat.mod_mul_right_div_self]
    have h2 : n % 2 ^ (w + 1) % 2 = n % 2 := Nat.mod_mod_of_dvd n ⟨2 ^ w, by rw [Nat.pow_succ, Nat.mul_comm]⟩
    rw [h1, h2, ih]

theorem grp_shift (a l : List Nat) (i k : Nat) : grp (a ++ l) (a.length + i) k = grp l i k := by
  induction k with
  | zero => rfl
  | succ k ih =>
    rw [grp, grp, ih]
    congr 1
    rw [List.getD_eq_getElem?_getD, List.getD_eq_getElem?_getD, Nat.add_assoc, List.getElem?_append_right (by omega), Nat.add_sub_cancel_left]
theorem grp_prefix (a l : List Nat) (i k : Nat) (h : i + k ≤ a.length) : grp (a ++ l) i k = grp a i k := by
  induction k with
  | zero => rfl
  | succ k ih =>
    rw [grp, grp, ih (by omega)]
    congr 1
    rw [List.getD_eq_getElem?_getD, List.getD_eq_getElem?_getD, List.getElem?_append_left (by omega)]
theorem grp_toBits (n w : Nat) : grp (toBits n w) 0 w = n % 2 ^ w := by
  have key : ∀ k, k ≤ w → grp (toBits n w) 0 k = n / 2 ^ (w - k) % 2 ^ k := by
    intro k
    induction k with
    | zero => intro _; simp [grp, Nat.mod_one]
    | succ k ih =>
      intro hk
      rw [grp, ih (by omega), List.getD_eq_getElem?_getD, Nat.zero_add, toBits_get n w k (by omega)]
      show _ * 2 + n / 2 ^ (w - 1 - k) % 2 = _
      have e : w - k = (w - (k + 1)) + 1 := by omega
      have e2 : w - 1 - k = w - (k + 1) := by omega
      rw [e, e2]
      generalize w - (k + 1) = v
      rw [Nat.pow_succ 2 v, ← Nat.div_div_eq_div_mul]
      generalize n / 2 ^ v = x
      rw [Nat.pow_succ 2 k]
      have h1 : x % (2 ^ k * 2) = x % 2 + 2 * (x / 2 % 2 ^ k) := by
        rw [Nat.mul_comm, Nat.mod_mul]
      rw [h1]
      omega
  have := key w (Nat.le_refl _)
  simpa using this

/-- Six bits of a number, from the front. -/
theorem grp_six (n w : Nat) (l : List Nat) : grp (toBits n (6 + w) ++ l) 0 6 = n / 2 ^ w % 64 := by
  rw [grp_prefix _ _ _ _ (by rw [toBits_length]; omega), toBits_add, grp_prefix _ _ _ _ (by rw [toBits_length]; omega), grp_toBits]

theorem lets_cons (a l : List Nat) (m : Nat) (h : a.length = 6) : lets (a ++ l) (m + 1) = lett (grp (a ++ l) 0 6) :: lets l m := by
  unfold lets
  rw [List.range_succ_eq_map, List.map_cons, List.map_map]
  congr 1
  apply List.map_congr_left
  intro j _
  show lett (grp (a ++ l) (6 * (j + 1)) 6) = lett (grp l (6 * j) 6)
  rw [show 6 * (j + 1) = a.length + 6 * j from by omega, grp_shift]

theorem three_bits (x y z : UInt8) : toBits x.toNat 8 ++ (toBits y.toNat 8 ++ toBits z.toNat 8) = toBits (bitsOf [x, y, z]) 24 := by
  have hx := x.toNat_lt
  have hy := y.toNat_lt
  have hz := z.toNat_lt
  have hN : bitsOf [x, y, z] = (x.toNat * 256 + y.toNat) * 256 + z.toNat := rfl
  rw [hN, show (24 : Nat) = 8 + (8 + 8) from rfl, toBits_add, toBits_add]
  congr 1
  · congr 1; omega
  · congr 1
    · rw [← toBits_mod]; rw [← toBits_mod (_ / _)]; congr 1; omega
    · rw [← toBits_mod]; rw [← toBits_mod ((x.toNat * 256 + y.toNat) * 256 + z.toNat)]; congr 1; omega

theorem lets_three (x y z : UInt8) (l : List Nat) (m : Nat) : lets (toBits x.toNat 8 ++ (toBits y.toNat 8 ++ toBits z.toNat 8) ++ l) (m + 4) = fourL [x, y, z] ++ lets l m := by
  rw [three_bits, show (24 : Nat) = 6 + 18 from rfl]
  have e1 : toBits (bitsOf [x, y, z]) (6 + 18) ++ l = toBits (bitsOf [x, y, z] / 2 ^ 18) 6 ++ (toBits (bitsOf [x, y, z]) (6 + 12) ++ l) := by rw [toBits_add, List.append_assoc]
  have e2 : toBits (bitsOf [x, y, z]) (6 + 12) ++ l = toBits (bitsOf [x, y, z] / 2 ^ 12) 6 ++ (toBits (bitsOf [x, y, z]) (6 + 6) ++ l) := by rw [toBits_add, List.append_assoc]
  have e3 : toBits (bitsOf [x, y, z]) (6 + 6) ++ l = toBits (bitsOf [x, y, z] / 2 ^ 6) 6 ++ (toBits (bitsOf [x, y, z]) (6 + 0) ++ l) := by rw [toBits_add _ 6 6, List.append_assoc]
  have g1 := grp_six (bitsOf [x, y, z]) 18 l
  have g2 := grp_six (bitsOf [x, y, z]) 12 l
  have g3 := grp_six (bitsOf [x, y, z]) 6 l
  have g4 := grp_six (bitsOf [x, y, z]) 0 l
  rw [e1] at g1 ⊢
  rw [show m + 4 = (m + 3) + 1 from rfl, lets_cons _ _ _ (toBits_length _ _), g1]
  rw [e2] at g2 ⊢
  rw [show m + 3 = (m + 2) + 1 from rfl, lets_cons _ _ _ (toBits_length _ _), g2]
  rw [e3] at g3 ⊢
  rw [show m + 2 = (m + 1) + 1 from rfl, lets_cons _ _ _ (toBits_length _ _), g3, lets_cons _ _ _ (toBits_length _ _), g4]
  simp [fourL, fourN]

theorem grp_pad (l : List Nat) (z i k : Nat) : grp (l ++ List.replicate z 0) i k = grp l i k := by
  induction k with
  | zero => rfl
  | succ k ih =>
    rw [grp, grp, ih]
    congr 1
    rw [List.getD_eq_getElem?_getD, List.getD_eq_getElem?_getD]
    by_cases h : i + k < l.length
    · rw [List.getElem?_append_left h]
    · have e : l[i + k]? = none := List.getElem?_eq_none (by omega)
      rw [List.getElem?_append_right (by omega), e, List.getElem?_replicate]
      split <;> rfl
theorem lets_pad (l : List Nat) (z m : Nat) : lets (l ++ List.replicate z 0) m = lets l m := by
  unfold lets
  apply List.map_congr_left
  intro j _
  rw [grp_pad]

theorem two_bits (x y : UInt8) : toBits x.toNat 8 ++ toBits y.toNat 8 ++ List.replicate 2 0 = toBits ((x.toNat * 256 + y.toNat) * 4) 18 := by
  have hx := x.toNat_lt
  have hy := y.toNat_lt
  rw [show (18 : Nat) = 8 + (8 + 2) from rfl, toBits_add, toBits_add, List.append_assoc]
  congr 1
  · congr 1; omega
  · congr 1
    · rw [← toBits_mod]; rw [← toBits_mod (_ / _)]; congr 1; omega
    · rw [← toBits_mod, show (x.toNat * 256 + y.toNat) * 4 % 2 ^ 2 = 0 from by omega]; rfl
theorem one_bits (x : UInt8) : toBits x.toNat 8 ++ List.replicate 4 0 = toBits (x.toNat * 16) 12 := by
  have hx := x.toNat_lt
  rw [show (12 : Nat) = 8 + 4 from rfl, toBits_add]
  congr 1
  · congr 1; omega
  · rw [← toBits_mod, show x.toNat * 16 % 2 ^ 4 = 0 from by omega]; rfl

theorem lets_two (x y : UInt8) : lets (toBits x.toNat 8 ++ toBits y.toNat 8) 3 = (fourL [x, y]).take 3 := by
  have hx := x.toNat_lt
  have hy := y.toNat_lt
  have hN : bitsOf [x, y] = (x.toNat * 256 + y.toNat) * 256 := by simp [bitsOf]
  rw [← lets_pad _ 2, two_bits]
  obtain ⟨M, hM⟩ : ∃ M, M = (x.toNat * 256 + y.toNat) * 4 := ⟨_, rfl⟩
  rw [← hM, show (18 : Nat) = 6 + 12 from rfl]
  have e1 : toBits M (6 + 12) ++ [] = toBits (M / 2 ^ 12) 6 ++ (toBits M (6 + 6) ++ []) := by rw [toBits_add, List.append_assoc]
  have e2 : toBits M (6 + 6) ++ [] = toBits (M / 2 ^ 6) 6 ++ (toBits M (6 + 0) ++ []) := by rw [toBits_add _ 6 6, List.append_assoc]
  have g1 := grp_six M 12 []
  have g2 := grp_six M 6 []
  have g3 := grp_six M 0 []
  rw [← List.append_nil (toBits M (6 + 12))]
  rw [e1] at g1 ⊢
  rw [show (3 : Nat) = 2 + 1 from rfl, lets_cons _ _ _ (toBits_length _ _), g1]
  rw [e2] at g2 ⊢
  rw [show (2 : Nat) = 1 + 1 from rfl, lets_cons _ _ _ (toBits_length _ _), g2, show (1 : Nat) = 0 + 1 from rfl, lets_cons _ _ _ (toBits_length _ _), g3]
  have f : (fourL [x, y]).take 3 = [lett (bitsOf [x, y] / 262144 % 64), lett (bitsOf [x, y] / 4096 % 64), lett (bitsOf [x, y] / 64 % 64)] := rfl
  rw [f, hN]
  show [lett _, lett _, lett _] = _
  rw [show M / 2 ^ 12 % 64 = (x.toNat * 256 + y.toNat) * 256 / 262144 % 64 from by omega, show M / 2 ^ 6 % 64 = (x.toNat * 256 + y.toNat) * 256 / 4096 % 64 from by omega, show M / 2 ^ 0 % 64 = (x.toNat * 256 + y.toNat) * 256 / 64 % 64 from by omega]
theorem lets_one (x : UInt8) : lets (toBits x.toNat 8) 2 = (fourL [x]).take 2 := by
  have hx := x.toNat_lt
  have hN : bitsOf [x] = x.toNat * 256 * 256 := by simp [bitsOf]
  rw [← lets_pad _ 4, one_bits]
  obtain ⟨M, hM⟩ : ∃ M, M = x.toNat * 16 := ⟨_, rfl⟩
  rw [← hM, show (12 : Nat) = 6 + 6 from rfl]
  have e2 : toBits M (6 + 6) ++ [] = toBits (M / 2 ^ 6) 6 ++ (toBits M (6 + 0) ++ []) := by rw [toBits_add _ 6 6, List.append_assoc]
  have g2 := grp_six M 6 []
  have g3 := grp_six M 0 []
  rw [← List.append_nil (toBits M (6 + 6))]
  rw [e2] at g2 ⊢
  rw [show (2 : Nat) = 1 + 1 from rfl, lets_cons _ _ _ (toBits_length _ _), g2, show (1 : Nat) = 0 + 1 from rfl, lets_cons _ _ _ (toBits_length _ _), g3]
  have f : (fourL [x]).take 2 = [lett (bitsOf [x] / 262144 % 64), lett (bitsOf [x] / 4096 % 64)] := rfl
  rw [f, hN]
  show [lett _, lett _] = _
  rw [show M / 2 ^ 6 % 64 = x.toNat * 256 * 256 / 262144 % 64 from by omega, show M / 2 ^ 0 % 64 = x.toNat * 256 * 256 / 4096 % 64 from by omega]

theorem packTo_cons (x y z : UInt8) (r : List UInt8) (k : Nat) : packTo (x :: y :: z :: r) (k + 1) = fourL [x, y, z] ++ packTo r k := by
  induction k with
  | zero => simp [packTo]
  | succ k ih =>
    rw [packTo, ih, packTo, List.append_assoc]
    congr 3

theorem refLetters : ∀ (b : List UInt8) (m p : Nat), 6 * m ≤ 8 * b.length + 5 → 8 * b.length ≤ 6 * m → (m + p) % 4 = 0 → p ≤ 3 → (∀ q, q < p → (m + q) % 4 ≠ 0) →
    lets (allBits b) m ++ List.replicate p 61 = packTo b ((b.length + 2) / 3)
  | [], m, p, h1, h2, h3, h4, h5 => by
    have hm : m = 0 := by simp at h1; omega
    subst hm
    have hp : p = 0 := by omega
    subst hp
    rfl
  | [x], m, p, h1, h2, h3, h4, h5 => by
    have hm : m = 2 := by simp at h1 h2; omega
    subst hm
    have hp : p = 2 := by omega
    subst hp
    rw [show allBits [x] = toBits x.toNat 8 from by simp [allBits], lets_one]
    rw [show ([x].length + 2) / 3 = 1 from by simp]
    simp [packTo, fourL, fourN]
  | [x, y], m, p, h1, h2, h3, h4, h5 => by
    have hm : m = 3 := by simp at h1 h2; omega
    subst hm
    have hp : p = 1 := by omega
    subst hp
    rw [show allBits [x, y] = toBits x.toNat 8 ++ toBits y.toNat 8 from by simp [allBits], lets_two]
    rw [show ([x, y].length + 2) / 3 = 1 from by simp]
    simp [packTo, fourL, fourN]
  | x :: y :: z :: r, m, p, h1, h2, h3, h4, h5 => by
    simp only [List.length_cons] at h1 h2
    obtain ⟨m', rfl⟩ : ∃ m', m = m' + 4 := ⟨m - 4, by omega⟩
    have ih := refLetters r m' p (by omega) (by omega) (by omega) h4 (fun q hq => by have := h5 q hq; omega)
    have e : allBits (x :: y :: z :: r) = toBits x.toNat 8 ++ (toBits y.toNat 8 ++ toBits z.toNat 8) ++ allBits r := by simp [allBits]
    rw [e, lets_three, List.append_assoc, ih]
    rw [show ((x :: y :: z :: r).length + 2) / 3 = (r.length + 2) / 3 + 1 from by simp only [List.length_cons]; omega, packTo_cons]

end Go.Proofs.YtnjjjkhhoaadfaaGreatDoor.Tx

