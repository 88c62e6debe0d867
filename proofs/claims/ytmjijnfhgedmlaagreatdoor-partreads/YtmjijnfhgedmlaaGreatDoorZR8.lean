import Derived.Test.YtmjijnfhgedmlaaGreatDoorZR8a
namespace Go.Proofs.YtmjijnfhgedmlaaGreatDoor.Tx
open Go.RowKit Go.Proofs.Sx

/-- What the document's Unpack, Unquote hand back. -/
def unR : Option (List UInt8) → Value
  | some o => .tuple #[.string ⟨o.toArray⟩, .int .i64 0]
  | none => .tuple #[.string ⟨#[]⟩, .int .i64 3]

theorem u8bne (c d : UInt8) : ((c.toNat : Int) != (d.toNat : Int)) = (c != d) := by
  show (!((c.toNat : Int) == (d.toNat : Int))) = !(c == d)
  rw [u8eq]

theorem skip_yes (c : UInt8) (h : isSkip c = true) : ((c.toNat : Int) != 13) = false ∨ (((c.toNat : Int) != 13) = true ∧ ((c.toNat : Int) != 10) = false) ∨ (((c.toNat : Int) != 13) = true ∧ ((c.toNat : Int) != 10) = true ∧ ((c.toNat : Int) != 32) = false) ∨ (((c.toNat : Int) != 13) = true ∧ ((c.toNat : Int) != 10) = true ∧ ((c.toNat : Int) != 32) = true ∧ ((c.toNat : Int) != 9) = false) := by
  unfold isSkip at h
  simp only [Bool.or_eq_true, beq_iff_eq] at h
  rcases h with ((rfl | rfl) | rfl) | rfl <;> decide
theorem skip_no (c : UInt8) (h : isSkip c = false) : ((c.toNat : Int) != 13) = true ∧ ((c.toNat : Int) != 10) = true ∧ ((c.toNat : Int) != 32) = true ∧ ((c.toNat : Int) != 9) = true := by
  unfold isSkip at h
  simp only [Bool.or_eq_false_iff] at h
  obtain ⟨⟨⟨a, b⟩, d⟩, e⟩ := h
  have e1 := u8bne c 13
  have e2 := u8bne c 10
  have e3 := u8bne c 32
  have e4 := u8bne c 9
  refine ⟨e1.trans ?_, e2.trans ?_, e3.trans ?_, e4.trans ?_⟩ <;> simp [bne, a, b, d, e]

set_option maxHeartbeats 6400000 in
set_option maxRecDepth 100000 in
theorem refUnpack_any (s : ByteArray) (w : World) (hl : s.size ≤ 3000) :
    Calls Tryz.prog 6 #[.string s] w fun e w' => e = .returned (unR (unpackS s.data.toList)) ∧ Below w.heap.size w w' := by
  obtain ⟨R, HR⟩ : ∃ R, Box (R = unpackS s.data.toList) := ⟨_, ⟨rfl⟩⟩
  rw [← HR.out]
  go_enter Tryz.func6, Tryz.ntmps6
  go_wp2
  go_loopw [4, 21] (fun v i wr => ∃ k : Nat, k ≤ s.size ∧ i = .int .i64 k ∧ Own wr w.heap.size v (solidL (s.data.toList.take k)) ∧ Below w.heap.size w wr) (fun _ i _ => s.size - (intOf i).toNat)
  case atStart => exact ⟨0, Nat.zero_le _, rfl, Own.nil _ _, Below.refl _ _⟩
  case round =>
    obtain ⟨k, hk, rfl, hown, hb⟩ := hrel
    have hsz := hb.size
    have hlen : (solidL (s.data.toList.take k)).length ≤ k := Nat.le_trans (solidL_length _) (List.length_take_le _ _)
    by_cases hlt : k < s.size
    · have HT : Box (solidL (s.data.toList.take (k + 1)) = solidL (s.data.toList.take k) ++ if isSkip s[k] then [] else [s[k]]) := ⟨by rw [take_snoc s k hlt, solidL_snoc]⟩
      cases hs : isSkip s[k]
      · have HT' : Box (solidL (s.data.toList.take (k + 1)) = solidL (s.data.toList.take k) ++ [s[k]]) := ⟨by rw [HT.out, hs]; rfl⟩
        obtain ⟨q1, q2, q3, q4⟩ := skip_no s[k] hs
        clear hs HT
        go_wp2_with (at_builtin; refine wp_app1 _ w _ rfl (.tmp 41) (.tmp 43) rfl w.heap.size _ _ rfl hown rfl s[k] rfl (by omega) hsz hb ?_; intro v' w1 hown1 hb1)
        go_roundw
        case rel => exact ⟨k + 1, by omega, by go_num, by rw [HT'.out]; exact hown1, hb1⟩
        case measure => simp [intOf]; omega
      · have HT' : Box (solidL (s.data.toList.take (k + 1)) = solidL (s.data.toList.take k)) := ⟨by rw [HT.out, hs]; simp⟩
        have hq := skip_yes s[k] hs
        clear hs HT
        rcases hq with q1 | ⟨q1, q2⟩ | ⟨q1, q2, q3⟩ | ⟨q1, q2, q3, q4⟩
        all_goals
          go_wp2
          go_roundw
          case rel => exact ⟨k + 1, by omega, by go_num, by rw [HT'.out]; exact hown, hb⟩
          case measure => simp [intOf]; omega
    · have HK : Box (s.data.toList.take k = s.data.toList) := ⟨List.take_of_length_le (by rw [size_list]; omega)⟩
      rw [HK.out] at hown hlen
      clear HK
      have HS : Box (unpackS s.data.toList = if (solidL s.data.toList).length % 4 = 0 then joinedS ((solidL s.data.toList).take ((solidL s.data.toList).length - fillN (solidL s.data.toList))) else none) := ⟨rfl⟩
      rw [← HR.out] at HS
      clear HR
      generalize solidL s.data.toList = l at hlen HS hown
      have hl2 : l.length ≤ 3000 := by omega
      by_cases h0 : l.length = 0
      · have hl0 : l = [] := List.eq_nil_of_length_eq_zero h0
        subst hl0
        have HE : Box (R = some []) := ⟨HS.out.trans rfl⟩
        clear HS hl2 h0 hlen
        obtain ⟨ad, cap, rfl⟩ : ∃ ad cap, u4 = .slice ad 0 cap := by
          rcases hown.shape with ⟨rfl, _⟩ | ⟨g, cap, rfl, _⟩
          · exact ⟨_, _, rfl⟩
          · exact ⟨_, _, rfl⟩
        have hcap : 0 ≤ cap := by omega
        go_wp2_with fail
        refine wp_loop_rounds 1 ?_
        rw [rounds_succ]
        go_wp2_with fail
        refine wp_loop_rounds 1 ?_
        rw [rounds_succ]
        go_wp2_with fail
        refine wp_loop_rounds 1 ?_
        rw [rounds_succ]
        go_wp2_with fail
        refine wp_loop_rounds 1 ?_
        rw [rounds_succ]
        go_wp2
        go_ret2
        exact ⟨by rw [HE.out]; rfl, hb⟩
      rcases hown.shape with ⟨_, rfl⟩ | ⟨g, cap, rfl, hgB, hgs, hcap, hmax, hc⟩
      · exact absurd rfl h0
      by_cases h4 : l.length % 4 = 0
      · have HS' : Box (R = joinedS (l.take (l.length - fillN l))) := ⟨by rw [HS.out, if_pos h4]⟩
        clear HS
        have t4 : ((l.length : Int) % 4 != 0) = false := by simp; omega
        obtain ⟨w1, rfl⟩ : ∃ w1 : World, w1 = wr := ⟨_, rfl⟩
        have HC : Box (∀ k (hk : k < l.length), w1.cell? ⟨g, k, none⟩ = some (.int .u8 (l[k].toNat : Int))) := ⟨hc⟩
        clear hc hown
        go_wp2_with fail
        go_loop [7] (fun i => ∃ p : Nat, p ≤ 2 ∧ i = .int .i64 p ∧ Box (∀ q, q < p → l.getD (l.length - 1 - q) 0 = 61)) (fun i => 2 - (intOf i).toNat)
        case atStart => exact ⟨0, by omega, rfl, ⟨fun q hq => absurd hq (by omega)⟩⟩
        case round =>
          obtain ⟨p, hp2, rfl, HA⟩ := hrel
          have hpl : p < l.length := by omega
          have hget : l.getD (l.length - 1 - p) 0 = l[l.length - 1 - p] := by rw [List.getD_eq_getElem?_getD, List.getElem?_eq_getElem (by omega)]; rfl
          have hcx : w1.cell? ⟨g, l.length - 1 - p, none⟩ = some (.int .u8 (l[l.length - 1 - p].toNat : Int)) := HC.out _ (by omega)
          by_cases hmore : p < 2 ∧ l[l.length - 1 - p] = 61
          · obtain ⟨m1, m3⟩ := hmore
            have HA' : Box (∀ q, q < p + 1 → l.getD (l.length - 1 - q) 0 = 61) := ⟨fun q hq => by
              by_cases hqp : q < p
              · exact HA.out q hqp
              · have : q = p := by omega
                subst this
                rw [hget, m3]⟩
            rw [m3] at hcx
            clear m3 hget
            go_wp2
            go_round
            case rel => exact ⟨p + 1, by omega, by go_num, HA'⟩
            case measure => simp [intOf]; omega
          · have HF : Box (fillN l = p) := ⟨fill_end l p hp2 (by omega) HA.out (by
              by_cases h2 : p = 2
              · exact .inl h2
              · exact .inr (.inr ⟨hpl, fun h => hmore ⟨by omega, by rw [← hget]; exact h⟩⟩))⟩
            have HS'' : Box (R = joinedS (l.take (l.length - p))) := ⟨by rw [HS'.out, HF.out]⟩
            clear HS' HF HA hget
            have hx : 2 ≤ p ∨ (p < 2 ∧ ((l[l.length - 1 - p].toNat : Int) == 61) = false) := by
              by_cases h2 : p = 2
              · exact .inl (by omega)
              · exact .inr ⟨by omega, ne61 _ fun h => hmore ⟨by omega, h⟩⟩
            clear hmore
            have hpi : (p : Int) ≤ 2 := by omega
            rcases hx with hx1 | ⟨hx1, hx2⟩
            all_goals
              go_wp2_with fail
              go_loopw [8, 78] (fun v i wr => ∃ k : Nat, k ≤ l.length - p ∧ i = .int .i64 k ∧ OwnI wr w1.heap.size v (upBits (l.take k)) ∧ Below w1.heap.size w1 wr ∧ Box (∀ c ∈ l.take k, 0 ≤ lettv c)) (fun _ i _ => l.length - p - (intOf i).toNat)
              case atStart => exact ⟨0, by omega, rfl, OwnI.nil _ _, Below.refl _ _, ⟨fun c hc => by simp at hc⟩⟩
              case round =>
                obtain ⟨k, hk, rfl, hown2, hb2, HV⟩ := hrel
                have hsz2 := hb2.size
                have hul2 : (upBits (l.take k)).length ≤ 6 * k := by rw [upBits_length, List.length_take]; omega
                by_cases hlt3 : k < l.length - p
                · have hkl : k < l.length := by omega
                  have hcx : wr.cell? ⟨g, k, none⟩ = some (.int .u8 (l[k].toNat : Int)) := (hb2.cell (p := ⟨g, k, none⟩) hgs).trans (HC.out k hkl)
                  have hI : (k : Int) < ((l.length - p : Nat) : Int) := by omega
                  obtain ⟨c, hc⟩ : ∃ c, c = l[k] := ⟨_, rfl⟩
                  rw [← hc] at hcx
                  have Hc : Box (c = l[k]) := ⟨hc⟩
                  clear hc
                  go_wp2_with fail
                  go_loop [11] (fun n => ∃ j : Nat, j ≤ 64 ∧ n = .int .i64 j ∧ Box (∀ i, i < j → lett i ≠ c)) (fun n => 64 - (intOf n).toNat)
                  case atStart => exact ⟨0, by omega, rfl, ⟨fun i hi => absurd hi (by omega)⟩⟩
                  case round =>
                    obtain ⟨j, hj, rfl, HJ⟩ := hrel
                    by_cases hj64 : j < 64
                    · by_cases hjc : lett j = c
                      · have t5 : (((lett j).toNat : Int) != (c.toNat : Int)) = false := by rw [hjc]; simp
                        have t6 : ((j : Int) == 64) = false := by rw [beq_eq_false_iff_ne]; omega
                        have HV' : Box (∀ c ∈ l.take (k + 1), 0 ≤ lettv c) := ⟨by
                          intro x hx
                          rw [take_snocL l k hkl, List.mem_append] at hx
                          rcases hx with hx | hx
                          · exact HV.out x hx
                          · simp only [List.mem_singleton] at hx
                            rw [hx, ← Hc.out, ← hjc, lettv_of j hj64]
                            omega⟩
                        have HU : Box (upBits (l.take (k + 1)) = upBits (l.take k) ++ toBits j 6) := ⟨by
                          rw [take_snocL l k hkl, upBits_snoc, ← Hc.out, ← hjc, lettv_of j hj64]; rfl⟩
                        clear hjc HJ HV Hc
                        obtain ⟨wo, rfl⟩ : ∃ wo : World, wo = wr := ⟨_, rfl⟩
                        go_wp2_with (go_at_call 21; refine (letter_any j hj64 _).mono ?_; rintro e w' ⟨rfl, rfl⟩)
                        go_loopw [8, 12] (fun v i wr => ∃ q : Nat, q ≤ 6 ∧ i = .int .i64 (5 - (q : Int)) ∧ OwnI wr w1.heap.size v (upBits (l.take k) ++ (toBits j 6).take q) ∧ Below w1.heap.size w1 wr) (fun _ i _ => (intOf i + 1).toNat)
                        case atStart => exact ⟨0, by omega, rfl, by simpa using hown2, hb2⟩
                        case round =>
                          obtain ⟨q, hq, rfl, hown4, hb4⟩ := hrel
                          have hsz4 := hb4.size
                          by_cases hq6 : q < 6
                          · have hq0 : (0 : Int) ≤ 5 - (q : Int) := by omega
                            have HA1 : Box (bits .and .i64 ((j : Int) / 2 ^ (5 - q)) 1 = ((j / 2 ^ (5 - q) % 2 : Nat) : Int)) := by
                              constructor
                              have h1 : j / 2 ^ (5 - q) ≤ j := Nat.div_le_self _ _
                              have := and1 (j / 2 ^ (5 - q)) (by omega)
                              rw [← this]
                              congr 1
                            have HB : Box ((toBits j 6).take (q + 1) = (toBits j 6).take q ++ [j / 2 ^ (5 - q) % 2]) := ⟨toBits_take _ 6 q hq6⟩
                            have hlen4 : (upBits (l.take k) ++ (toBits j 6).take q).length ≤ 6 * k + 6 := by rw [List.length_append, List.length_take]; omega
                            go_wp2_with (at_builtin; refine wp_appI _ w1 _ rfl (.tmp 98) (.tmp 103) rfl w1.heap.size _ _ rfl hown4 rfl _ HA1.out (by omega) hsz4 hb4 ?_; intro v5 w5 hown5 hb5 _)
                            go_roundw
                            case rel => exact ⟨q + 1, by omega, by go_num, by rw [HB.out, ← List.append_assoc]; exact hown5, hb5⟩
                            case measure => simp [intOf]; omega
                          · have hq0 : ¬ (0 : Int) ≤ 5 - (q : Int) := by omega
                            have hown6 : OwnI wr w1.heap.size u8 (upBits (l.take (k + 1))) := by
                              rw [HU.out]
                              rw [List.take_of_length_le (l := toBits j 6) (by rw [toBits_length]; omega)] at hown4
                              exact hown4
                            clear hown4
                            go_wp2_with fail
                            go_roundw
                            case rel => exact ⟨k + 1, by omega, by go_num, hown6, hb4, HV'⟩
                            case measure => simp [intOf]; omega
                      · have t5 : (((lett j).toNat : Int) != (c.toNat : Int)) = true := by
                          rw [u8bne]
                          simpa using hjc
                        have HJ' : Box (∀ i, i < j + 1 → lett i ≠ c) := ⟨fun i hi => by
                          by_cases hij : i < j
                          · exact HJ.out i hij
                          · have : i = j := by omega
                            subst this; exact hjc⟩
                        clear hjc
                        go_wp2_with (go_at_call 21; refine (letter_any j hj64 _).mono ?_; rintro e w' ⟨rfl, hw⟩; rw [hw]; clear hw w')
                        go_round
                        case rel => exact ⟨j + 1, by omega, by go_num, HJ'⟩
                        case measure => simp [intOf]; omega
                    · have hje : j = 64 := by omega
                      subst hje
                      have HN : Box (R = none) := ⟨by
                        rw [HS''.out]
                        refine joined_bad (l.take (l.length - p)) k (by rw [List.length_take]; omega) ?_
                        rw [List.getElem_take, ← Hc.out]
                        exact lettv_none c HJ.out⟩
                      clear HJ HV HS'' HC
                      go_wp2
                      go_ret2
                      exact ⟨by rw [HN.out]; rfl, hb.trans (hb2.mono hsz)⟩
                · have hke : k = l.length - p := by omega
                  have HZ : Box (∀ q, 8 * q ≤ (upBits (l.take k)).length → (upBits (l.take k)).length < 8 * q + 8 → ((∀ c ∈ (upBits (l.take k)).drop (8 * q), c = 0) → R = some (eights (upBits (l.take k)) q)) ∧ ((¬ ∀ c ∈ (upBits (l.take k)).drop (8 * q), c = 0) → R = none)) := ⟨fun q h1 h2 => by
                    rw [HS''.out, ← hke]
                    exact joined_up (l.take k) HV.out q h1 h2⟩
                  have HLE : Box (∀ c ∈ upBits (l.take k), c ≤ 1) := ⟨upBits_le _⟩
                  have hk2 : k ≤ 3000 := by omega
                  clear hke HS'' HV
                  generalize upBits (l.take k) = bits at HZ HLE hown2 hul2
                  rcases hown2.shape with ⟨rfl, rfl⟩ | ⟨g7, cap7, rfl, hgB7, hgs7, hcap7, hmax7, hc7⟩
                  · have HE : Box (R = some []) := ⟨((HZ.out 0 (by simp) (by simp)).1 (by simp)).trans rfl⟩
                    clear HZ HLE hul2
                    go_wp2_with fail
                    refine wp_loop_rounds 1 ?_
                    rw [rounds_succ]
                    go_wp2_with fail
                    refine wp_loop_rounds 1 ?_
                    rw [rounds_succ]
                    go_wp2
                    go_ret2
                    exact ⟨by rw [HE.out]; rfl, hb.trans (hb2.mono hsz)⟩
                  · obtain ⟨w3, rfl⟩ : ∃ w3 : World, w3 = wr := ⟨_, rfl⟩
                    have HC7 : Box (∀ k (hk : k < bits.length), w3.cell? ⟨g7, k, none⟩ = some (.int .i64 (bits[k] : Int))) := ⟨hc7⟩
                    clear hc7 hown2
                    go_wp2_with fail
                    go_loopw [8, 13] (fun v x wr => ∃ (q : Nat) (S : ByteArray) (ad : Option Addr) (cap8 : Nat), 8 * q ≤ bits.length ∧ v = .slice ad (bits.length - 8 * q) cap8 ∧ x = .string S ∧ (8 * q < bits.length → ad = some ⟨g7, 8 * q, none⟩) ∧ bits.length - 8 * q ≤ cap8 ∧ cap8 ≤ maxLen ∧ S.size = q ∧ Box (S.data.toList = eights bits q) ∧ Below w3.heap.size w3 wr) (fun v _ _ => sliceLen v)
                    case atStart => exact ⟨0, ⟨#[]⟩, _, _, by omega, rfl, rfl, fun _ => rfl, by omega, hmax7, rfl, ⟨rfl⟩, Below.refl _ _⟩
                    case round =>
                      obtain ⟨q, S, ad, cap8, hq, rfl, rfl, had, hcap8, hmax8, hSs, HSd, hb5⟩ := hrel
                      have hsz5 := hb5.size
                      by_cases h8 : 8 ≤ bits.length - 8 * q
                      · obtain rfl := had (by omega)
                        clear had
                        have i8 : (8 : Int) ≤ ((bits.length - 8 * q : Nat) : Int) := by omega
                        go_wp2_with fail
                        go_loop [14, 112] (fun n i => ∃ k : Nat, k ≤ 8 ∧ i = .int .i64 k ∧ n = .int .i64 (grp bits (8 * q) k : Nat)) (fun _ i => 8 - (intOf i).toNat)
                        case atStart => exact ⟨0, by omega, rfl, rfl⟩
                        case round =>
                          obtain ⟨k, hk, rfl, rfl⟩ := hrel
                          have hgl := grp_lt bits HLE.out (8 * q) k
                          have hp : 2 ^ k ≤ 256 := by
                            have : 2 ^ k ≤ 2 ^ 8 := Nat.pow_le_pow_right (by omega) hk
                            omega
                          by_cases hk8 : k < 8
                          · have hin : 8 * q + k < bits.length := by omega
                            have hcx : wr.cell? ⟨g7, 8 * q + k, none⟩ = some (.int .i64 (bits[8 * q + k] : Int)) := (hb5.cell (p := ⟨g7, 8 * q + k, none⟩) hgs7).trans (HC7.out _ hin)
                            have hb1 : bits[8 * q + k] ≤ 1 := HLE.out _ (List.getElem_mem hin)
                            have HG : Box (grp bits (8 * q) (k + 1) = grp bits (8 * q) k * 2 + bits[8 * q + k]) := by
                              constructor
                              rw [grp, List.getD_eq_getElem?_getD, List.getElem?_eq_getElem hin]; rfl
                            generalize grp bits (8 * q) k = G at hgl HG ⊢
                            generalize bits[8 * q + k] = x at hcx hb1 HG
                            go_wp2
                            go_round
                            case rel => exact ⟨k + 1, by omega, by go_num, by rw [HG.out]; go_num⟩
                            case measure => simp [intOf]; omega
                          · have hk8' : k = 8 := by omega
                            subst hk8'
                            have hlt256 : grp bits (8 * q) 8 < 256 := by omega
                            have HS8 : Box (eights bits (q + 1) = eights bits q ++ [UInt8.ofNat (grp bits (8 * q) 8)]) := ⟨eights_succ bits q⟩
                            generalize grp bits (8 * q) 8 = G at hlt256 HS8 ⊢
                            clear hgl
                            have hcv := one_str wr (UInt8.ofNat G) (G : Int) (ofNat_small _ _ rfl hlt256)
                            go_wp2
                            go_roundw
                            case rel =>
                              refine ⟨q + 1, _, _, _, by omega, by rw [show bits.length - 8 * (q + 1) = bits.length - 8 * q - 8 from by omega], rfl, ?_, by omega, by omega, ?_, ⟨?_⟩, hb5.alloc hsz5 _⟩
                              · intro hlt2
                                rw [if_neg (by omega)]
                                rfl
                              · rw [ByteArray.size_append, hSs]; rfl
                              · rw [HS8.out, ← HSd.out]; simp
                            case measure => simp [sliceLen]; omega
                      · have i8 : ¬ (8 : Int) ≤ ((bits.length - 8 * q : Nat) : Int) := by omega
                        have g7' : Below w.heap.size w wr := (hb.trans (hb2.mono hsz)).trans (hb5.mono (Nat.le_trans hsz hsz2))
                        have HZ' := HZ.out q hq (by omega)
                        have HZ1 : Box ((∀ c ∈ bits.drop (8 * q), c = 0) → R = some (eights bits q)) := ⟨HZ'.1⟩
                        have HZ2 : Box ((¬ ∀ c ∈ bits.drop (8 * q), c = 0) → R = none) := ⟨HZ'.2⟩
                        clear HZ' HZ
                        go_wp2_with fail
                        go_loop [131] (fun i => ∃ k : Nat, k ≤ bits.length - 8 * q ∧ i = .int .i64 k ∧ Box (∀ j, j < k → bits.getD (8 * q + j) 0 = 0)) (fun i => bits.length - 8 * q - (intOf i).toNat)
                        case atStart => exact ⟨0, by omega, rfl, ⟨fun j hj => absurd hj (by omega)⟩⟩
                        case round =>
                          obtain ⟨k, hk, rfl, HA⟩ := hrel
                          by_cases hkl : k < bits.length - 8 * q
                          · obtain rfl := had (by omega)
                            have hin : 8 * q + k < bits.length := by omega
                            have hcx : wr.cell? ⟨g7, 8 * q + k, none⟩ = some (.int .i64 (bits[8 * q + k] : Int)) := (hb5.cell (p := ⟨g7, 8 * q + k, none⟩) hgs7).trans (HC7.out _ hin)
                            have hI : (k : Int) < ((bits.length - 8 * q : Nat) : Int) := by omega
                            by_cases hz : bits[8 * q + k] = 0
                            · have HA' : Box (∀ j, j < k + 1 → bits.getD (8 * q + j) 0 = 0) := ⟨fun j hj => by
                                by_cases hjk : j < k
                                · exact HA.out j hjk
                                · have : j = k := by omega
                                  subst this
                                  rw [List.getD_eq_getElem?_getD, List.getElem?_eq_getElem hin, hz]; rfl⟩
                              rw [hz] at hcx
                              clear hz
                              go_wp2
                              go_round
                              case rel => exact ⟨k + 1, by omega, by go_num, HA'⟩
                              case measure => simp [intOf]; omega
                            · have HN : Box (R = none) := ⟨HZ2.out (fun h => hz (h _ (by
                                rw [List.mem_iff_getElem?]
                                exact ⟨k, by rw [List.getElem?_drop, List.getElem?_eq_getElem hin]⟩)))⟩
                              have t7 : ((bits[8 * q + k] : Int) != 0) = true := by simp; omega
                              clear HZ1 HZ2 hz
                              go_wp2
                              go_ret2
                              exact ⟨by rw [HN.out]; rfl, g7'⟩
                          · have hI : ¬ (k : Int) < ((bits.length - 8 * q : Nat) : Int) := by omega
                            have HE : Box (R = some (eights bits q)) := ⟨HZ1.out (by
                              intro c hc
                              rw [List.mem_iff_getElem?] at hc
                              obtain ⟨i, hi⟩ := hc
                              rw [List.getElem?_drop] at hi
                              have hil := (List.getElem?_eq_some_iff.1 hi).1
                              have := HA.out i (by omega)
                              rw [List.getD_eq_getElem?_getD, hi] at this
                              exact this)⟩
                            clear HZ1 HZ2 HA
                            go_wp2
                            go_ret2
                            exact ⟨by rw [HE.out, ← HSd.out]; simp [unR], g7'⟩
      · have HN : Box (R = none) := ⟨by rw [HS.out, if_neg h4]⟩
        clear HS
        have t4 : ((l.length : Int) % 4 != 0) = true := by simp; omega
        go_wp2
        go_ret2
        exact ⟨by rw [HN.out]; rfl, hb⟩

end Go.Proofs.YtmjijnfhgedmlaaGreatDoor.Tx
