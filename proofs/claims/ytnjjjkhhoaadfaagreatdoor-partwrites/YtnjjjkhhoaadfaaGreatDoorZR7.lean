import Derived.Test.YtnjjjkhhoaadfaaGreatDoorZ12
namespace Go.Proofs.YtnjjjkhhoaadfaaGreatDoor.Tx
open Go.RowKit Go.Proofs.Sx

/-- A fact kept from the walk, shut to unfolding. -/
structure Box (p : Prop) : Prop where
  out : p

theorem eta (b : ByteArray) : (⟨b.data.toList.toArray⟩ : ByteArray) = b := by simp

set_option maxHeartbeats 3200000 in
set_option maxRecDepth 100000 in
theorem refPack_any (b : ByteArray) (w : World) (hl : b.size ≤ 3000) :
    Calls Tryz.prog 12 #[.string b] w fun e w' => e = .returned (.string ⟨(packS b.data.toList).toArray⟩) ∧ Below w.heap.size w w' := by
  go_enter Tryz.func12, Tryz.ntmps12
  go_wp2
  go_loopw [3, 14] (fun v i wr => ∃ k : Nat, k ≤ b.size ∧ i = .int .i64 k ∧ OwnI wr w.heap.size v (allBits (b.data.toList.take k)) ∧ Below w.heap.size w wr) (fun _ i _ => b.size - (intOf i).toNat)
  case atStart => exact ⟨0, Nat.zero_le _, rfl, OwnI.nil _ _, Below.refl _ _⟩
  case round =>
    obtain ⟨k, hk, rfl, hown, hb⟩ := hrel
    by_cases hlt : k < b.size
    · have hbyte : (b[k].toNat : Int) < 256 := by have := b[k].toNat_lt; omega
      have hlen : (allBits (b.data.toList.take k)).length ≤ 8 * k := by rw [allBits_length, List.length_take]; omega
      have HT : Box (allBits (b.data.toList.take (k + 1)) = allBits (b.data.toList.take k) ++ toBits b[k].toNat 8) := ⟨by rw [take_snoc b k hlt, allBits_snoc]⟩
      go_wp2_with fail
      obtain ⟨wo, rfl⟩ : ∃ wo : World, wo = wr := ⟨_, rfl⟩
      go_loopw [3, 5] (fun v i wr => ∃ j : Nat, j ≤ 8 ∧ i = .int .i64 (7 - (j : Int)) ∧ OwnI wr w.heap.size v (allBits (b.data.toList.take k) ++ (toBits b[k].toNat 8).take j) ∧ Below w.heap.size w wr) (fun _ i _ => (intOf i + 1).toNat)
      case atStart => exact ⟨0, by omega, rfl, by simpa using hown, hb⟩
      case round =>
        obtain ⟨j, hj, rfl, hown2, hb2⟩ := hrel
        have hsz := hb2.size
        by_cases hj8 : j < 8
        · have hj0 : (0 : Int) ≤ 7 - (j : Int) := by omega
          have HA : Box (bits .and .i64 ((b[k].toNat : Int) / 2 ^ (7 - j)) 1 = ((b[k].toNat / 2 ^ (7 - j) % 2 : Nat) : Int)) := by
            constructor
            have h1 : b[k].toNat / 2 ^ (7 - j) ≤ b[k].toNat := Nat.div_le_self _ _
            have := and1 (b[k].toNat / 2 ^ (7 - j)) (by omega)
            rw [← this]
            congr 1
          have HB : Box ((toBits b[k].toNat 8).take (j + 1) = (toBits b[k].toNat 8).take j ++ [b[k].toNat / 2 ^ (7 - j) % 2]) := ⟨toBits_take _ 8 j hj8⟩
          have hlen2 : (allBits (b.data.toList.take k) ++ (toBits b[k].toNat 8).take j).length ≤ 8 * k + 8 := by rw [List.length_append, List.length_take]; omega
          go_wp2_with (at_builtin; refine wp_appI _ w _ rfl (.tmp 21) (.tmp 29) rfl w.heap.size _ _ rfl hown2 rfl _ HA.out (by omega) hsz hb2 ?_; intro v1 w1 hown3 hb3 _)
          go_roundw
          case rel => exact ⟨j + 1, by omega, by go_num, by rw [HB.out, ← List.append_assoc]; exact hown3, hb3⟩
          case measure => simp [intOf]; omega
        · have hj0 : ¬ (0 : Int) ≤ 7 - (j : Int) := by omega
          have hown4 : OwnI wr w.heap.size u3 (allBits (b.data.toList.take (k + 1))) := by
            rw [HT.out]
            rw [List.take_of_length_le (l := toBits b[k].toNat 8) (by rw [toBits_length]; omega)] at hown2
            exact hown2
          clear hown2
          go_wp2_with fail
          go_roundw
          case rel => exact ⟨k + 1, by omega, by go_num, hown4, hb2⟩
          case measure => simp [intOf]; omega
    · have HT : Box (b.data.toList.take k = b.data.toList) := ⟨List.take_of_length_le (by rw [size_list]; omega)⟩
      rw [HT.out] at hown
      clear HT
      have hlenE := allBits_length b.data.toList
      rw [size_list] at hlenE
      have hle := allBits_le b.data.toList
      have HLE : Box (∀ c ∈ allBits b.data.toList, c ≤ 1) := ⟨hle⟩
      have HLN : Box ((allBits b.data.toList).length = 8 * b.size) := ⟨hlenE⟩
      have hlen : (allBits b.data.toList).length ≤ 32000 := by omega
      clear hle hlenE
      have hsz3 := hb.size
      obtain ⟨bits, hbits⟩ : ∃ bits, bits = allBits b.data.toList := ⟨_, rfl⟩
      rw [← hbits] at hown HLE HLN hlen
      have HBits : Box (bits = allBits b.data.toList) := ⟨hbits⟩
      clear hbits
      rcases hown.shape with ⟨rfl, rfl⟩ | ⟨g, cap, rfl, hgB, hgs, hcap, hmax, hc⟩
      · have hb0 : b.size = 0 := by have := HLN.out; simp at this; omega
        have HE : Box (packS b.data.toList = []) := by
          constructor
          have : b.data.toList = [] := List.eq_nil_of_length_eq_zero (by rw [size_list]; exact hb0)
          rw [this]; rfl
        clear hb0 HLE HLN hlen HBits
        go_wp2_with fail
        refine wp_loop_rounds 1 ?_
        rw [rounds_succ]
        go_wp2_with fail
        refine wp_loop_rounds 1 ?_
        rw [rounds_succ]
        go_wp2_with fail
        refine wp_loop_rounds 1 ?_
        rw [rounds_succ]
        go_wp2
        go_ret
        exact ⟨ret_str (by rw [HE.out]), hb⟩
      · obtain ⟨w3, rfl⟩ : ∃ w3 : World, w3 = wr := ⟨_, rfl⟩
        have HC : Box (∀ k (hk : k < bits.length), w3.cell? ⟨g, k, none⟩ = some (.int .i64 (bits[k] : Int))) := ⟨hc⟩
        clear hc hown
        go_wp2_with fail
        go_loopw [6, 7] (fun v i wr => ∃ m : Nat, 6 * m ≤ bits.length + 5 ∧ i = .int .i64 (6 * (m : Int)) ∧ Own wr w3.heap.size v (lets bits m) ∧ Below w3.heap.size w3 wr) (fun _ i _ => bits.length - (intOf i).toNat)
        case atStart => exact ⟨0, by omega, rfl, Own.nil _ _, Below.refl _ _⟩
        case round =>
          obtain ⟨m, hm, rfl, hown2, hb2⟩ := hrel
          have hsz := hb2.size
          have hll := lets_length bits m
          have HLL : Box ((lets bits m).length = m) := ⟨hll⟩
          clear hll
          by_cases hmlt : 6 * m < bits.length
          · have hT : 6 * (m : Int) < (bits.length : Int) := by omega
            go_wp2_with fail
            go_loop [8, 38] (fun n i => ∃ k : Nat, k ≤ 6 ∧ i = .int .i64 k ∧ n = .int .i64 (grp bits (6 * m) k : Nat)) (fun _ i => 6 - (intOf i).toNat)
            case atStart => exact ⟨0, by omega, rfl, rfl⟩
            case round =>
              obtain ⟨k, hk, rfl, rfl⟩ := hrel
              have hgl := grp_lt bits HLE.out (6 * m) k
              have hp : 2 ^ k ≤ 64 := by
                have : 2 ^ k ≤ 2 ^ 6 := Nat.pow_le_pow_right (by omega) hk
                omega
              by_cases hk6 : k < 6
              · by_cases hin : 6 * m + k < bits.length
                · have hcx : wr.cell? ⟨g, 6 * m + k, none⟩ = some (.int .i64 (bits[6 * m + k] : Int)) := (hb2.cell (p := ⟨g, 6 * m + k, none⟩) hgs).trans (HC.out _ hin)
                  have hb1 : bits[6 * m + k] ≤ 1 := HLE.out _ (List.getElem_mem hin)
                  have HG : Box (grp bits (6 * m) (k + 1) = grp bits (6 * m) k * 2 + bits[6 * m + k]) := by
                    constructor
                    rw [grp, List.getD_eq_getElem?_getD, List.getElem?_eq_getElem hin]; rfl
                  have hI : 6 * (m : Int) + (k : Int) < (bits.length : Int) := by omega
                  generalize grp bits (6 * m) k = G at hgl HG ⊢
                  generalize bits[6 * m + k] = q at hcx hb1 HG
                  go_wp2
                  go_round
                  case rel => exact ⟨k + 1, by omega, by go_num, by rw [HG.out]; go_num⟩
                  case measure => simp [intOf]; omega
                · have HG : Box (grp bits (6 * m) (k + 1) = grp bits (6 * m) k * 2) := by
                    constructor
                    rw [grp, List.getD_eq_getElem?_getD, List.getElem?_eq_none (by omega)]; rfl
                  have hI : ¬ 6 * (m : Int) + (k : Int) < (bits.length : Int) := by omega
                  generalize grp bits (6 * m) k = G at hgl HG ⊢
                  go_wp2
                  go_round
                  case rel => exact ⟨k + 1, by omega, by go_num, by rw [HG.out]; go_num⟩
                  case measure => simp [intOf]; omega
              · have hk6' : k = 6 := by omega
                subst hk6'
                have hlt64 : grp bits (6 * m) 6 < 64 := by omega
                have HS : Box (lets bits (m + 1) = lets bits m ++ [lett (grp bits (6 * m) 6)]) := ⟨lets_succ bits m⟩
                generalize grp bits (6 * m) 6 = G at hlt64 HS ⊢
                clear hgl
                have hl1 : (lets bits m).length + 1 ≤ 10000000 := by rw [HLL.out]; omega
                go_wp2_with (first | (go_at_call 21; refine (letter_any G hlt64 _).mono ?_; rintro e w' ⟨rfl, rfl⟩) | (at_builtin; refine wp_app1 _ w3 _ rfl (.tmp 58) (.tmp 61) rfl w3.heap.size _ _ rfl hown2 rfl (lett G) rfl hl1 hsz hb2 ?_; intro v1 w1 hown3 hb3))
                go_roundw
                case rel => exact ⟨m + 1, by omega, by go_num, by rw [HS.out]; exact hown3, hb3⟩
                case measure => simp [intOf]; omega
          · have hT : ¬ 6 * (m : Int) < (bits.length : Int) := by omega
            go_wp2_with fail
            obtain ⟨wq, rfl⟩ : ∃ wq : World, wq = wr := ⟨_, rfl⟩
            go_loopw [6] (fun v wr => ∃ p : Nat, p ≤ 3 ∧ Own wr w3.heap.size v (lets bits m ++ List.replicate p 61) ∧ Below w3.heap.size w3 wr ∧ ∀ q, q < p → (m + q) % 4 ≠ 0) (fun v _ => (4 - sliceLen v % 4) % 4)
            case atStart => exact ⟨0, by omega, by simpa using hown2, hb2, fun q hq => by omega⟩
            case round =>
              obtain ⟨p, hp3, hown4, hb4, hq⟩ := hrel
              have hsz4 := hb4.size
              have hFl : (lets bits m ++ List.replicate p 61).length = m + p := by rw [List.length_append, HLL.out, List.length_replicate]
              have HFl : Box ((lets bits m ++ List.replicate p 61).length = m + p) := ⟨hFl⟩
              have HQ : Box (∀ q, q < p → (m + q) % 4 ≠ 0) := ⟨hq⟩
              clear hFl hq
              obtain ⟨F, hFd⟩ : ∃ F, F = lets bits m ++ List.replicate p 61 := ⟨_, rfl⟩
              rw [← hFd] at hown4 HFl
              have HFd : Box (F = lets bits m ++ List.replicate p 61) := ⟨hFd⟩
              clear hFd
              rcases hown4.shape with ⟨rfl, hnil⟩ | ⟨g6, cap6, rfl, hgB6, hgs6, hcap6, hmax6, hc6⟩
              · have hmp : m + p = 0 := by have := HFl.out; rw [hnil] at this; simpa using this.symm
                have HE : Box (packS b.data.toList = []) := by
                  constructor
                  have h0 : b.size = 0 := by have := HLN.out; omega
                  have : b.data.toList = [] := List.eq_nil_of_length_eq_zero (by rw [size_list]; exact h0)
                  rw [this]; rfl
                clear hnil hmp
                go_wp2_with fail
                refine wp_loop_rounds 1 ?_
                rw [rounds_succ]
                go_wp2
                go_ret
                exact ⟨ret_str (by rw [HE.out]), hb.trans (hb4.mono hsz3)⟩
              · by_cases h4 : (m + p) % 4 = 0
                · have HF : Box (F = packTo b.data.toList ((b.data.toList.length + 2) / 3)) := by
                    constructor
                    rw [HFd.out, HBits.out]
                    have hn := HLN.out
                    exact refLetters b.data.toList m p (by rw [size_list]; omega) (by rw [size_list]; omega) h4 hp3 HQ.out
                  have t4 : ((F.length : Int) % 4 != 0) = false := by rw [HFl.out]; simp; omega
                  have HC6 : Box (∀ k (hk : k < F.length), wr.cell? ⟨g6, k, none⟩ = some (.int .u8 (F[k].toNat : Int))) := ⟨hc6⟩
                  have hFb : F.length ≤ 10000 := by rw [HFl.out]; omega
                  have g7 : Below w.heap.size w wr := hb.trans (hb4.mono hsz3)
                  clear hc6 hown4 hb4 hown2 hb2 HQ HFd
                  go_wp2_with fail
                  go_loop [6, 10] (fun v x => ∃ (p : Nat) (S : ByteArray) (ad : Option Addr) (cap7 : Nat), p ≤ F.length ∧ v = .slice ad (F.length - p) cap7 ∧ x = .string S ∧ (p < F.length → ad = some ⟨g6, p, none⟩) ∧ F.length - p ≤ cap7 ∧ cap7 ≤ maxLen ∧ S.size ≤ 3 * p ∧ (p % 76 = 0 ∨ p = F.length) ∧ Box (S.data.toList = inLinesTo F p)) (fun v _ => sliceLen v)
                  case atStart => exact ⟨0, ⟨#[]⟩, _, _, by omega, rfl, rfl, fun _ => rfl, by omega, hmax6, by decide, .inl rfl, ⟨rfl⟩⟩
                  case round =>
                    obtain ⟨p, S, ad, cap7, hp, rfl, rfl, had, hcap7, hmax7, hSs, hp76, HSd⟩ := hrel
                    by_cases hpl : p < F.length
                    · obtain rfl := had hpl
                      clear had
                      have hx0 : (0 : Int) < ((F.length - p : Nat) : Int) := by omega
                      by_cases h76 : 76 ≤ F.length - p
                      · have hcv : ∀ c, (convert 46 9 (.slice (some ⟨g6, p, none⟩) 76 c)).run Tryz.prog wr = .ok (.string ⟨((F.drop p).take 76).toArray⟩) wr := by
                          intro c
                          have hlen : ((F.drop p).take 76).length = 76 := by rw [List.length_take, List.length_drop]; omega
                          have := run_convert_bytes_back (P := Tryz.prog) wr 46 9 5 ⟨g6, p, none⟩ c ((F.drop p).take 76) Tryz.underlying46 Tryz.underlying5 Tryz.underlying9 (by
                            intro j hj
                            rw [hlen] at hj
                            rw [Addr.add_lit, HC6.out (p + j) (by omega)]
                            simp)
                          rw [hlen] at this
                          exact this
                        have i76 : (76 : Int) ≤ ((F.length - p : Nat) : Int) := by omega
                        have hmin : min ((F.length - p : Nat) : Int) 76 = 76 := by omega
                        have hlen7 : ((F.drop p).take 76).length = 76 := by rw [List.length_take, List.length_drop]; omega
                        have HI : Box (inLinesTo F (p + 76) = inLinesTo F p ++ ((F.drop p).take 76 ++ [13, 10])) := ⟨inLines_line F p 75 (by omega) (by omega) (by omega) (.inl rfl)⟩
                        generalize (F.drop p).take 76 = D at hcv hlen7 HI
                        go_wp2
                        go_round
                        case rel =>
                          refine ⟨p + 76, _, _, _, by omega, by rw [show F.length - (p + 76) = F.length - p - 76 from by omega], rfl, ?_, by omega, by omega, ?_, .inl (by omega), ⟨?_⟩⟩
                          · intro hlt2
                            rw [if_neg (by omega)]
                          · rw [ByteArray.size_append, ByteArray.size_append]; have hsD := size_mk D; show S.size + ((ByteArray.mk D.toArray).size + 2) ≤ _; omega
                          · rw [HI.out, ← HSd.out]; simp
                        case measure => simp [sliceLen]; omega
                      · have hlenE : ((F.drop p).take (F.length - p)).length = F.length - p := by rw [List.length_take, List.length_drop]; omega
                        have hcv : ∀ c, (convert 46 9 (.slice (some ⟨g6, p, none⟩) (F.length - p) c)).run Tryz.prog wr = .ok (.string ⟨((F.drop p).take (F.length - p)).toArray⟩) wr := by
                          intro c
                          have := run_convert_bytes_back (P := Tryz.prog) wr 46 9 5 ⟨g6, p, none⟩ c ((F.drop p).take (F.length - p)) Tryz.underlying46 Tryz.underlying5 Tryz.underlying9 (by
                            intro j hj
                            rw [hlenE] at hj
                            rw [Addr.add_lit, HC6.out (p + j) (by omega)]
                            simp)
                          rw [hlenE] at this
                          exact this
                        have hmin : min ((F.length - p : Nat) : Int) 76 = ((F.length - p : Nat) : Int) := by omega
                        have HI : Box (inLinesTo F F.length = inLinesTo F p ++ ((F.drop p).take (F.length - p) ++ [13, 10])) := by
                          constructor
                          have := inLines_line F p (F.length - p - 1) (by omega) (by omega) (by omega) (.inr (by omega))
                          rw [show F.length - p - 1 + 1 = F.length - p from by omega, show p + (F.length - p) = F.length from by omega] at this
                          exact this
                        generalize (F.drop p).take (F.length - p) = D at hcv hlenE HI
                        go_wp2
                        go_round
                        case rel =>
                          refine ⟨F.length, _, _, _, by omega, by rw [show F.length - F.length = 0 from by omega], rfl, ?_, by omega, by omega, ?_, .inr rfl, ⟨?_⟩⟩
                          · intro hlt2
                            omega
                          · rw [ByteArray.size_append, ByteArray.size_append]; have hsD := size_mk D; show S.size + ((ByteArray.mk D.toArray).size + 2) ≤ _; omega
                          · rw [HI.out, ← HSd.out]; simp
                        case measure => simp [sliceLen]; omega
                    · have hpe : p = F.length := by omega
                      have HE : Box (packS b.data.toList = S.data.toList) := by
                        constructor
                        unfold packS
                        show inLinesTo (packTo b.data.toList ((b.data.toList.length + 2) / 3)) (packTo b.data.toList ((b.data.toList.length + 2) / 3)).length = _
                        rw [← HF.out, HSd.out, hpe]
                      have hx0 : ¬ (0 : Int) < ((F.length - p : Nat) : Int) := by omega
                      clear hpe
                      go_wp2
                      go_ret
                      exact ⟨ret_str (by rw [HE.out, eta]), g7⟩
                · have t4 : ((F.length : Int) % 4 != 0) = true := by rw [HFl.out]; simp; omega
                  have hp2 : p + 1 ≤ 3 := by
                    apply Decidable.byContradiction
                    intro hn
                    have e3 : p = 3 := by omega
                    have a0 := HQ.out 0 (by omega)
                    have a1 := HQ.out 1 (by omega)
                    have a2 := HQ.out 2 (by omega)
                    omega
                  have hl1 : F.length + 1 ≤ 10000000 := by rw [HFl.out]; omega
                  go_wp2_with (at_builtin; refine wp_app1 _ w3 _ rfl (.tmp 67) (.tmp 68) rfl w3.heap.size _ _ rfl hown4 rfl 61 rfl hl1 hsz4 hb4 ?_; intro v1 w1 hown5 hb5)
                  go_roundw
                  case rel => exact ⟨p + 1, hp2, by rw [List.replicate_succ', ← List.append_assoc, ← HFd.out]; exact hown5, hb5, fun q hq => by
                    by_cases hqp : q < p
                    · exact HQ.out q hqp
                    · have : q = p := by omega
                      subst this; exact h4⟩
                  case measure => 
                    have hl5 := hown5.shape
                    rcases hl5 with ⟨_, e⟩ | ⟨g5, c5, e, _⟩
                    · simp at e
                    · rw [e]
                      simp only [sliceLen, List.length_append, HFl.out, List.length_cons, List.length_nil]
                      omega

end Go.Proofs.YtnjjjkhhoaadfaaGreatDoor.Tx
