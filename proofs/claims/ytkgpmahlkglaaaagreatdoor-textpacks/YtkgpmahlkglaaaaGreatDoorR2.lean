import Derived.Test.YtkgpmahlkglaaaaGreatDoorR1
namespace Go.Proofs.YtkgpmahlkglaaaaGreatDoor
open Go.RowKit

theorem in_yes (n a b : Int) (w : World) (h1 : a ≤ n) (h2 : n ≤ b) : Calls Tryz.prog 21 #[.int .i64 n, .int .i64 a, .int .i64 b] w fun e w' => e = .returned (.bool true) ∧ w' = w := by
  refine (in_any n a b w).mono ?_
  rintro e w' ⟨rfl, rfl⟩
  exact ⟨ret_bool (by simp [h1, h2]), rfl⟩
theorem in_no (n a b : Int) (w : World) (h : ¬ (a ≤ n ∧ n ≤ b)) : Calls Tryz.prog 21 #[.int .i64 n, .int .i64 a, .int .i64 b] w fun e w' => e = .returned (.bool false) ∧ w' = w := by
  refine (in_any n a b w).mono ?_
  rintro e w' ⟨rfl, rfl⟩
  refine ⟨ret_bool ?_, rfl⟩
  rw [Bool.eq_false_iff]
  simpa using h

theorem two_strD (W : World) (n : Nat) (hn : n = W.heap.size) (c d : UInt8) : (convert 32 9 (.slice (some ⟨n, 0, none⟩) 2 2)).run Tryz.prog (W.alloc (.cells #[.int .u8 (c.toNat : Int), .int .u8 (d.toNat : Int)] 5)).drew = .ok (.string ⟨#[c, d]⟩) (W.alloc (.cells #[.int .u8 (c.toNat : Int), .int .u8 (d.toNat : Int)] 5)).drew := by
  subst hn
  exact Own.string (w := (W.alloc (.cells #[.int .u8 (c.toNat : Int), .int .u8 (d.toNat : Int)] 5)).drew) (B := W.heap.size) (World.ownsRow.drew (Own.lit W W.heap.size [c, d] 2 rfl (Nat.le_refl _) (by decide)))

theorem letter_int (c : UInt8) (h : isLetter c = true) : (33 : Int) ≤ (c.toNat : Int) ∧ (c.toNat : Int) ≤ 126 ∧ ((c.toNat : Int) != 61) = true := by
  unfold isLetter at h
  simp only [Bool.and_eq_true, decide_eq_true_eq, bne_iff_ne] at h
  obtain ⟨⟨h1, h2⟩, h3⟩ := h
  have a1 := UInt8.le_iff_toNat_le.1 h1
  have a2 := UInt8.le_iff_toNat_le.1 h2
  simp at a1 a2
  refine ⟨by omega, by omega, ?_⟩
  rw [bne, ne61 c h3]; rfl
theorem out_int (c : UInt8) (h : isLetter c = false) (h61 : ¬ c = 61) : ¬ ((33 : Int) ≤ (c.toNat : Int) ∧ (c.toNat : Int) ≤ 126) := by
  rintro ⟨a, b⟩
  have : isLetter c = true := by
    unfold isLetter
    simp only [Bool.and_eq_true, decide_eq_true_eq, bne_iff_ne]
    exact ⟨⟨UInt8.le_iff_toNat_le.2 (by simp; omega), UInt8.le_iff_toNat_le.2 (by simp; omega)⟩, h61⟩
  rw [h] at this
  cases this
theorem notBlank_int (c : UInt8) (h : isBlank c = false) : ((c.toNat : Int) == 32) = false ∧ ((c.toNat : Int) == 9) = false := by
  unfold isBlank at h
  simp only [Bool.or_eq_false_iff] at h
  have e1 := u8eq c 32
  have e2 := u8eq c 9
  exact ⟨e1.trans h.1, e2.trans h.2⟩
theorem blank_int (c : UInt8) (h : isBlank c = true) : ((c.toNat : Int) == 32) = true ∨ (((c.toNat : Int) == 32) = false ∧ ((c.toNat : Int) == 9) = true) := by
  unfold isBlank at h
  simp only [Bool.or_eq_true, beq_iff_eq] at h
  rcases h with rfl | rfl
  · exact .inl rfl
  · exact .inr ⟨rfl, rfl⟩

set_option maxHeartbeats 6400000 in
set_option maxRecDepth 100000 in
theorem refQuote_any (b : ByteArray) (w : World) (hl : b.size ≤ 2000) :
    Calls Tryz.prog 12 #[.string b] w fun e w' => e = .returned (.string ⟨(quoteS b.data.toList).toArray⟩) ∧ Below w.heap.size w w' := by
  have HL : Hid (b.data.toList.length = b.size) := size_list b
  go_enter Tryz.func12, Tryz.ntmps12
  go_wp2
  go_loopw [3, 4, 13] (fun x y i wr => ∃ (k : Nat) (S L : ByteArray), k ≤ b.size ∧ i = .int .i64 k ∧ x = .string S ∧ y = .string L ∧ S.size + L.size ≤ 6 * k ∧ L.size ≤ 3 * k ∧ Below w.heap.size w wr ∧ Hid (quoteTo b.data.toList k = (S.data.toList ++ L.data.toList, L.size))) (fun _ _ i _ => b.size - (intOf i).toNat)
  case atStart => exact ⟨0, ⟨#[]⟩, ⟨#[]⟩, Nat.zero_le _, rfl, rfl, rfl, by decide, by decide, Below.refl _ _, rfl⟩
  case round =>
    obtain ⟨k, S, L, hk, rfl, rfl, rfl, hS, hL, hb, HQ⟩ := hrel
    by_cases hlt : k < b.size
    · have hsz := hb.size
      have HG : Hid (b.data.toList.getD k 0 = b[k]) := by
        show _ = _
        rw [List.getD_eq_getElem?_getD, getL b k hlt]; rfl
      have hbyte : (b[k].toNat : Int) < 256 := by have := b[k].toNat_lt; omega
      have hcv := one_str wr b[k] _ rfl
      have hcv2 := fun W n hn c d => two_strD W n hn c d
      have i1 : 0 ≤ (b[k].toNat : Int) / 16 := by omega
      have i2 : (b[k].toNat : Int) / 16 < 16 := by omega
      have i3 : 0 ≤ (b[k].toNat : Int) % 16 := by omega
      have i4 : (b[k].toNat : Int) % 16 < 16 := by omega
      by_cases hla : k + 1 = b.size
      · have t1 : ((k : Int) == (b.size : Int) - 1) = true := by rw [beq_iff_eq]; omega
        have HX : Hid (quoteTo b.data.toList (k + 1) = if 76 < L.size + (quotedL b[k] true).length then (S.data.toList ++ L.data.toList ++ [61, 13, 10] ++ quotedL b[k] true, (quotedL b[k] true).length) else (S.data.toList ++ L.data.toList ++ quotedL b[k] true, L.size + (quotedL b[k] true).length)) := by
          show _ = _
          rw [quoteTo, HQ.out, HG.out, HL.out, if_pos hla, decide_eq_true hla]
        clear hla
        by_cases hlet : isLetter b[k] = true
        · have HQL : Hid (quotedL b[k] true = [b[k]]) := by show _ = _; unfold quotedL; rw [hlet]; rfl
          obtain ⟨d1, d2, d3⟩ := letter_int b[k] hlet
          clear hlet
          have HX' : Hid (quoteTo b.data.toList (k + 1) = if 76 < L.size + 1 then (S.data.toList ++ L.data.toList ++ [61, 13, 10] ++ [b[k]], 1) else (S.data.toList ++ L.data.toList ++ [b[k]], L.size + 1)) := by
            show _ = _
            rw [HX.out, HQL.out]; rfl
          clear HX HQL
          by_cases hov : 76 < L.size + 1
          · have t2 : (76 : Int) < (L.size : Int) + 1 := by omega
            go_wp2_with (go_at_call 21; refine (in_yes _ _ _ _ d1 d2).mono ?_; rintro e w' ⟨rfl, rfl⟩)
            go_roundw
            case rel => exact ⟨k + 1, _, _, by omega, by go_num, rfl, rfl, by simp [ByteArray.size_mk']; omega, by simp [ByteArray.size_mk']; omega, hb.alloc hsz _, by show _ = _; rw [HX'.out, if_pos hov]; simp [ByteArray.size_mk']⟩
            case measure => simp [intOf]; omega
          · have t2 : ¬ (76 : Int) < (L.size : Int) + 1 := by omega
            go_wp2_with (go_at_call 21; refine (in_yes _ _ _ _ d1 d2).mono ?_; rintro e w' ⟨rfl, rfl⟩)
            go_roundw
            case rel => exact ⟨k + 1, _, _, by omega, by go_num, rfl, rfl, by simp [ByteArray.size_mk']; omega, by simp [ByteArray.size_mk']; omega, hb.alloc hsz _, by show _ = _; rw [HX'.out, if_neg hov]; simp [ByteArray.size_mk']⟩
            case measure => simp [intOf]; omega
        · have hlet' : isLetter b[k] = false := by simpa using hlet
          clear hlet
          by_cases h61 : b[k] = 61
          · have HQL : Hid (quotedL b[k] true = [61, hexd (b[k].toNat / 16), hexd (b[k].toNat % 16)]) := by show _ = _; unfold quotedL; rw [hlet', h61]; rfl
            have d1 : (33 : Int) ≤ (b[k].toNat : Int) := by rw [h61]; decide
            have d2 : (b[k].toNat : Int) ≤ 126 := by rw [h61]; decide
            have d3 : ((b[k].toNat : Int) != 61) = false := by rw [h61]; rfl
            clear hlet' h61
            have HX' : Hid (quoteTo b.data.toList (k + 1) = if 76 < L.size + 3 then (S.data.toList ++ L.data.toList ++ [61, 13, 10] ++ [61, hexd (b[k].toNat / 16), hexd (b[k].toNat % 16)], 3) else (S.data.toList ++ L.data.toList ++ [61, hexd (b[k].toNat / 16), hexd (b[k].toNat % 16)], L.size + 3)) := by
              show _ = _
              rw [HX.out, HQL.out]; rfl
            clear HX HQL
            by_cases hov : 76 < L.size + 3
            · have t2 : (76 : Int) < (L.size : Int) + 3 := by omega
              go_wp2_with (go_at_call 21; refine (in_yes _ _ _ _ d1 d2).mono ?_; rintro e w' ⟨rfl, rfl⟩)
              go_region
              simp only [hexd_at]
              go_wp2
              go_roundw
              case rel => exact ⟨k + 1, _, _, by omega, by go_num, rfl, rfl, by simp [ByteArray.size_mk']; omega, by simp [ByteArray.size_mk']; omega, ((hb.alloc hsz _).alloc (by simp; omega) _).drew, by show _ = _; rw [HX'.out, if_pos hov]; simp [ByteArray.size_mk']⟩
              case measure => simp [intOf]; omega
            · have t2 : ¬ (76 : Int) < (L.size : Int) + 3 := by omega
              go_wp2_with (go_at_call 21; refine (in_yes _ _ _ _ d1 d2).mono ?_; rintro e w' ⟨rfl, rfl⟩)
              go_region
              simp only [hexd_at]
              go_wp2
              go_roundw
              case rel => exact ⟨k + 1, _, _, by omega, by go_num, rfl, rfl, by simp [ByteArray.size_mk']; omega, by simp [ByteArray.size_mk']; omega, ((hb.alloc hsz _).alloc (by simp; omega) _).drew, by show _ = _; rw [HX'.out, if_neg hov]; simp [ByteArray.size_mk']⟩
              case measure => simp [intOf]; omega
          · have d0 : ¬ ((33 : Int) ≤ (b[k].toNat : Int) ∧ (b[k].toNat : Int) ≤ 126) := out_int b[k] hlet' h61
            cases hbl : isBlank b[k]
            · have HQL : Hid (quotedL b[k] true = [61, hexd (b[k].toNat / 16), hexd (b[k].toNat % 16)]) := by show _ = _; unfold quotedL; rw [hlet', hbl]; rfl
              obtain ⟨d4, d5⟩ := notBlank_int b[k] hbl
              clear hlet' h61 hbl
              have HX' : Hid (quoteTo b.data.toList (k + 1) = if 76 < L.size + 3 then (S.data.toList ++ L.data.toList ++ [61, 13, 10] ++ [61, hexd (b[k].toNat / 16), hexd (b[k].toNat % 16)], 3) else (S.data.toList ++ L.data.toList ++ [61, hexd (b[k].toNat / 16), hexd (b[k].toNat % 16)], L.size + 3)) := by
                show _ = _
                rw [HX.out, HQL.out]; rfl
              clear HX HQL
              by_cases hov : 76 < L.size + 3
              · have t2 : (76 : Int) < (L.size : Int) + 3 := by omega
                go_wp2_with (go_at_call 21; refine (in_no _ _ _ _ d0).mono ?_; rintro e w' ⟨rfl, rfl⟩)
                go_region
                simp only [hexd_at]
                go_wp2
                go_roundw
                case rel => exact ⟨k + 1, _, _, by omega, by go_num, rfl, rfl, by simp [ByteArray.size_mk']; omega, by simp [ByteArray.size_mk']; omega, ((hb.alloc hsz _).alloc (by simp; omega) _).drew, by show _ = _; rw [HX'.out, if_pos hov]; simp [ByteArray.size_mk']⟩
                case measure => simp [intOf]; omega
              · have t2 : ¬ (76 : Int) < (L.size : Int) + 3 := by omega
                go_wp2_with (go_at_call 21; refine (in_no _ _ _ _ d0).mono ?_; rintro e w' ⟨rfl, rfl⟩)
                go_region
                simp only [hexd_at]
                go_wp2
                go_roundw
                case rel => exact ⟨k + 1, _, _, by omega, by go_num, rfl, rfl, by simp [ByteArray.size_mk']; omega, by simp [ByteArray.size_mk']; omega, ((hb.alloc hsz _).alloc (by simp; omega) _).drew, by show _ = _; rw [HX'.out, if_neg hov]; simp [ByteArray.size_mk']⟩
                case measure => simp [intOf]; omega
            · obtain d4 | ⟨d4, d5⟩ := blank_int b[k] hbl
              · have HQL : Hid (quotedL b[k] true = [61, hexd (b[k].toNat / 16), hexd (b[k].toNat % 16)]) := by show _ = _; unfold quotedL; rw [hlet', hbl]; rfl
                clear hlet' h61 hbl
                have HX' : Hid (quoteTo b.data.toList (k + 1) = if 76 < L.size + 3 then (S.data.toList ++ L.data.toList ++ [61, 13, 10] ++ [61, hexd (b[k].toNat / 16), hexd (b[k].toNat % 16)], 3) else (S.data.toList ++ L.data.toList ++ [61, hexd (b[k].toNat / 16), hexd (b[k].toNat % 16)], L.size + 3)) := by
                  show _ = _
                  rw [HX.out, HQL.out]; rfl
                clear HX HQL
                by_cases hov : 76 < L.size + 3
                · have t2 : (76 : Int) < (L.size : Int) + 3 := by omega
                  go_wp2_with (go_at_call 21; refine (in_no _ _ _ _ d0).mono ?_; rintro e w' ⟨rfl, rfl⟩)
                  go_region
                  simp only [hexd_at]
                  go_wp2
                  go_roundw
                  case rel => exact ⟨k + 1, _, _, by omega, by go_num, rfl, rfl, by simp [ByteArray.size_mk']; omega, by simp [ByteArray.size_mk']; omega, ((hb.alloc hsz _).alloc (by simp; omega) _).drew, by show _ = _; rw [HX'.out, if_pos hov]; simp [ByteArray.size_mk']⟩
                  case measure => simp [intOf]; omega
                · have t2 : ¬ (76 : Int) < (L.size : Int) + 3 := by omega
                  go_wp2_with (go_at_call 21; refine (in_no _ _ _ _ d0).mono ?_; rintro e w' ⟨rfl, rfl⟩)
                  go_region
                  simp only [hexd_at]
                  go_wp2
                  go_roundw
                  case rel => exact ⟨k + 1, _, _, by omega, by go_num, rfl, rfl, by simp [ByteArray.size_mk']; omega, by simp [ByteArray.size_mk']; omega, ((hb.alloc hsz _).alloc (by simp; omega) _).drew, by show _ = _; rw [HX'.out, if_neg hov]; simp [ByteArray.size_mk']⟩
                  case measure => simp [intOf]; omega
              · have HQL : Hid (quotedL b[k] true = [61, hexd (b[k].toNat / 16), hexd (b[k].toNat % 16)]) := by show _ = _; unfold quotedL; rw [hlet', hbl]; rfl
                clear hlet' h61 hbl
                have HX' : Hid (quoteTo b.data.toList (k + 1) = if 76 < L.size + 3 then (S.data.toList ++ L.data.toList ++ [61, 13, 10] ++ [61, hexd (b[k].toNat / 16), hexd (b[k].toNat % 16)], 3) else (S.data.toList ++ L.data.toList ++ [61, hexd (b[k].toNat / 16), hexd (b[k].toNat % 16)], L.size + 3)) := by
                  show _ = _
                  rw [HX.out, HQL.out]; rfl
                clear HX HQL
                by_cases hov : 76 < L.size + 3
                · have t2 : (76 : Int) < (L.size : Int) + 3 := by omega
                  go_wp2_with (go_at_call 21; refine (in_no _ _ _ _ d0).mono ?_; rintro e w' ⟨rfl, rfl⟩)
                  go_region
                  simp only [hexd_at]
                  go_wp2
                  go_roundw
                  case rel => exact ⟨k + 1, _, _, by omega, by go_num, rfl, rfl, by simp [ByteArray.size_mk']; omega, by simp [ByteArray.size_mk']; omega, ((hb.alloc hsz _).alloc (by simp; omega) _).drew, by show _ = _; rw [HX'.out, if_pos hov]; simp [ByteArray.size_mk']⟩
                  case measure => simp [intOf]; omega
                · have t2 : ¬ (76 : Int) < (L.size : Int) + 3 := by omega
                  go_wp2_with (go_at_call 21; refine (in_no _ _ _ _ d0).mono ?_; rintro e w' ⟨rfl, rfl⟩)
                  go_region
                  simp only [hexd_at]
                  go_wp2
                  go_roundw
                  case rel => exact ⟨k + 1, _, _, by omega, by go_num, rfl, rfl, by simp [ByteArray.size_mk']; omega, by simp [ByteArray.size_mk']; omega, ((hb.alloc hsz _).alloc (by simp; omega) _).drew, by show _ = _; rw [HX'.out, if_neg hov]; simp [ByteArray.size_mk']⟩
                  case measure => simp [intOf]; omega
      · have t1 : ((k : Int) == (b.size : Int) - 1) = false := by rw [beq_eq_false_iff_ne]; omega
        have HX : Hid (quoteTo b.data.toList (k + 1) = if 75 < L.size + (quotedL b[k] false).length then (S.data.toList ++ L.data.toList ++ [61, 13, 10] ++ quotedL b[k] false, (quotedL b[k] false).length) else (S.data.toList ++ L.data.toList ++ quotedL b[k] false, L.size + (quotedL b[k] false).length)) := by
          show _ = _
          rw [quoteTo, HQ.out, HG.out, HL.out, if_neg hla, decide_eq_false hla]
        clear hla
        by_cases hlet : isLetter b[k] = true
        · have HQL : Hid (quotedL b[k] false = [b[k]]) := by show _ = _; unfold quotedL; rw [hlet]; rfl
          obtain ⟨d1, d2, d3⟩ := letter_int b[k] hlet
          clear hlet
          have HX' : Hid (quoteTo b.data.toList (k + 1) = if 75 < L.size + 1 then (S.data.toList ++ L.data.toList ++ [61, 13, 10] ++ [b[k]], 1) else (S.data.toList ++ L.data.toList ++ [b[k]], L.size + 1)) := by
            show _ = _
            rw [HX.out, HQL.out]; rfl
          clear HX HQL
          by_cases hov : 75 < L.size + 1
          · have t2 : (75 : Int) < (L.size : Int) + 1 := by omega
            go_wp2_with (go_at_call 21; refine (in_yes _ _ _ _ d1 d2).mono ?_; rintro e w' ⟨rfl, rfl⟩)
            go_roundw
            case rel => exact ⟨k + 1, _, _, by omega, by go_num, rfl, rfl, by simp [ByteArray.size_mk']; omega, by simp [ByteArray.size_mk']; omega, hb.alloc hsz _, by show _ = _; rw [HX'.out, if_pos hov]; simp [ByteArray.size_mk']⟩
            case measure => simp [intOf]; omega
          · have t2 : ¬ (75 : Int) < (L.size : Int) + 1 := by omega
            go_wp2_with (go_at_call 21; refine (in_yes _ _ _ _ d1 d2).mono ?_; rintro e w' ⟨rfl, rfl⟩)
            go_roundw
            case rel => exact ⟨k + 1, _, _, by omega, by go_num, rfl, rfl, by simp [ByteArray.size_mk']; omega, by simp [ByteArray.size_mk']; omega, hb.alloc hsz _, by show _ = _; rw [HX'.out, if_neg hov]; simp [ByteArray.size_mk']⟩
            case measure => simp [intOf]; omega
        · have hlet' : isLetter b[k] = false := by simpa using hlet
          clear hlet
          by_cases h61 : b[k] = 61
          · have HQL : Hid (quotedL b[k] false = [61, hexd (b[k].toNat / 16), hexd (b[k].toNat % 16)]) := by show _ = _; unfold quotedL; rw [hlet', h61]; rfl
            have d1 : (33 : Int) ≤ (b[k].toNat : Int) := by rw [h61]; decide
            have d2 : (b[k].toNat : Int) ≤ 126 := by rw [h61]; decide
            have d3 : ((b[k].toNat : Int) != 61) = false := by rw [h61]; rfl
            clear hlet' h61
            have HX' : Hid (quoteTo b.data.toList (k + 1) = if 75 < L.size + 3 then (S.data.toList ++ L.data.toList ++ [61, 13, 10] ++ [61, hexd (b[k].toNat / 16), hexd (b[k].toNat % 16)], 3) else (S.data.toList ++ L.data.toList ++ [61, hexd (b[k].toNat / 16), hexd (b[k].toNat % 16)], L.size + 3)) := by
              show _ = _
              rw [HX.out, HQL.out]; rfl
            clear HX HQL
            by_cases hov : 75 < L.size + 3
            · have t2 : (75 : Int) < (L.size : Int) + 3 := by omega
              go_wp2_with (go_at_call 21; refine (in_yes _ _ _ _ d1 d2).mono ?_; rintro e w' ⟨rfl, rfl⟩)
              go_region
              simp only [hexd_at]
              go_wp2
              go_roundw
              case rel => exact ⟨k + 1, _, _, by omega, by go_num, rfl, rfl, by simp [ByteArray.size_mk']; omega, by simp [ByteArray.size_mk']; omega, ((hb.alloc hsz _).alloc (by simp; omega) _).drew, by show _ = _; rw [HX'.out, if_pos hov]; simp [ByteArray.size_mk']⟩
              case measure => simp [intOf]; omega
            · have t2 : ¬ (75 : Int) < (L.size : Int) + 3 := by omega
              go_wp2_with (go_at_call 21; refine (in_yes _ _ _ _ d1 d2).mono ?_; rintro e w' ⟨rfl, rfl⟩)
              go_region
              simp only [hexd_at]
              go_wp2
              go_roundw
              case rel => exact ⟨k + 1, _, _, by omega, by go_num, rfl, rfl, by simp [ByteArray.size_mk']; omega, by simp [ByteArray.size_mk']; omega, ((hb.alloc hsz _).alloc (by simp; omega) _).drew, by show _ = _; rw [HX'.out, if_neg hov]; simp [ByteArray.size_mk']⟩
              case measure => simp [intOf]; omega
          · have d0 : ¬ ((33 : Int) ≤ (b[k].toNat : Int) ∧ (b[k].toNat : Int) ≤ 126) := out_int b[k] hlet' h61
            cases hbl : isBlank b[k]
            · have HQL : Hid (quotedL b[k] false = [61, hexd (b[k].toNat / 16), hexd (b[k].toNat % 16)]) := by show _ = _; unfold quotedL; rw [hlet', hbl]; rfl
              obtain ⟨d4, d5⟩ := notBlank_int b[k] hbl
              clear hlet' h61 hbl
              have HX' : Hid (quoteTo b.data.toList (k + 1) = if 75 < L.size + 3 then (S.data.toList ++ L.data.toList ++ [61, 13, 10] ++ [61, hexd (b[k].toNat / 16), hexd (b[k].toNat % 16)], 3) else (S.data.toList ++ L.data.toList ++ [61, hexd (b[k].toNat / 16), hexd (b[k].toNat % 16)], L.size + 3)) := by
                show _ = _
                rw [HX.out, HQL.out]; rfl
              clear HX HQL
              by_cases hov : 75 < L.size + 3
              · have t2 : (75 : Int) < (L.size : Int) + 3 := by omega
                go_wp2_with (go_at_call 21; refine (in_no _ _ _ _ d0).mono ?_; rintro e w' ⟨rfl, rfl⟩)
                go_region
                simp only [hexd_at]
                go_wp2
                go_roundw
                case rel => exact ⟨k + 1, _, _, by omega, by go_num, rfl, rfl, by simp [ByteArray.size_mk']; omega, by simp [ByteArray.size_mk']; omega, ((hb.alloc hsz _).alloc (by simp; omega) _).drew, by show _ = _; rw [HX'.out, if_pos hov]; simp [ByteArray.size_mk']⟩
                case measure => simp [intOf]; omega
              · have t2 : ¬ (75 : Int) < (L.size : Int) + 3 := by omega
                go_wp2_with (go_at_call 21; refine (in_no _ _ _ _ d0).mono ?_; rintro e w' ⟨rfl, rfl⟩)
                go_region
                simp only [hexd_at]
                go_wp2
                go_roundw
                case rel => exact ⟨k + 1, _, _, by omega, by go_num, rfl, rfl, by simp [ByteArray.size_mk']; omega, by simp [ByteArray.size_mk']; omega, ((hb.alloc hsz _).alloc (by simp; omega) _).drew, by show _ = _; rw [HX'.out, if_neg hov]; simp [ByteArray.size_mk']⟩
                case measure => simp [intOf]; omega
            · obtain d4 | ⟨d4, d5⟩ := blank_int b[k] hbl
              · have HQL : Hid (quotedL b[k] false = [b[k]]) := by show _ = _; unfold quotedL; rw [hlet', hbl]; rfl
                clear hlet' h61 hbl
                have HX' : Hid (quoteTo b.data.toList (k + 1) = if 75 < L.size + 1 then (S.data.toList ++ L.data.toList ++ [61, 13, 10] ++ [b[k]], 1) else (S.data.toList ++ L.data.toList ++ [b[k]], L.size + 1)) := by
                  show _ = _
                  rw [HX.out, HQL.out]; rfl
                clear HX HQL
                by_cases hov : 75 < L.size + 1
                · have t2 : (75 : Int) < (L.size : Int) + 1 := by omega
                  go_wp2_with (go_at_call 21; refine (in_no _ _ _ _ d0).mono ?_; rintro e w' ⟨rfl, rfl⟩)
                  go_roundw
                  case rel => exact ⟨k + 1, _, _, by omega, by go_num, rfl, rfl, by simp [ByteArray.size_mk']; omega, by simp [ByteArray.size_mk']; omega, hb.alloc hsz _, by show _ = _; rw [HX'.out, if_pos hov]; simp [ByteArray.size_mk']⟩
                  case measure => simp [intOf]; omega
                · have t2 : ¬ (75 : Int) < (L.size : Int) + 1 := by omega
                  go_wp2_with (go_at_call 21; refine (in_no _ _ _ _ d0).mono ?_; rintro e w' ⟨rfl, rfl⟩)
                  go_roundw
                  case rel => exact ⟨k + 1, _, _, by omega, by go_num, rfl, rfl, by simp [ByteArray.size_mk']; omega, by simp [ByteArray.size_mk']; omega, hb.alloc hsz _, by show _ = _; rw [HX'.out, if_neg hov]; simp [ByteArray.size_mk']⟩
                  case measure => simp [intOf]; omega
              · have HQL : Hid (quotedL b[k] false = [b[k]]) := by show _ = _; unfold quotedL; rw [hlet', hbl]; rfl
                clear hlet' h61 hbl
                have HX' : Hid (quoteTo b.data.toList (k + 1) = if 75 < L.size + 1 then (S.data.toList ++ L.data.toList ++ [61, 13, 10] ++ [b[k]], 1) else (S.data.toList ++ L.data.toList ++ [b[k]], L.size + 1)) := by
                  show _ = _
                  rw [HX.out, HQL.out]; rfl
                clear HX HQL
                by_cases hov : 75 < L.size + 1
                · have t2 : (75 : Int) < (L.size : Int) + 1 := by omega
                  go_wp2_with (go_at_call 21; refine (in_no _ _ _ _ d0).mono ?_; rintro e w' ⟨rfl, rfl⟩)
                  go_roundw
                  case rel => exact ⟨k + 1, _, _, by omega, by go_num, rfl, rfl, by simp [ByteArray.size_mk']; omega, by simp [ByteArray.size_mk']; omega, hb.alloc hsz _, by show _ = _; rw [HX'.out, if_pos hov]; simp [ByteArray.size_mk']⟩
                  case measure => simp [intOf]; omega
                · have t2 : ¬ (75 : Int) < (L.size : Int) + 1 := by omega
                  go_wp2_with (go_at_call 21; refine (in_no _ _ _ _ d0).mono ?_; rintro e w' ⟨rfl, rfl⟩)
                  go_roundw
                  case rel => exact ⟨k + 1, _, _, by omega, by go_num, rfl, rfl, by simp [ByteArray.size_mk']; omega, by simp [ByteArray.size_mk']; omega, hb.alloc hsz _, by show _ = _; rw [HX'.out, if_neg hov]; simp [ByteArray.size_mk']⟩
                  case measure => simp [intOf]; omega
    · have hke : k = b.size := by omega
      have HE : Hid (quoteS b.data.toList = S.data.toList ++ L.data.toList) := by
        show _ = _
        unfold quoteS
        rw [HL.out, ← hke, HQ.out]
      clear hke
      go_wp2
      go_ret
      exact ⟨ret_str (by rw [HE.out]; apply ByteArray.ext; simp), hb⟩

end Go.Proofs.YtkgpmahlkglaaaaGreatDoor
