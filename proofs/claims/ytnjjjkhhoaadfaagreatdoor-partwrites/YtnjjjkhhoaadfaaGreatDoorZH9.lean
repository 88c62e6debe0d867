import Derived.Test.YtnjjjkhhoaadfaaGreatDoorZ5
import Derived.Test.YtnjjjkhhoaadfaaGreatDoorZ6
namespace Go.Proofs.YtnjjjkhhoaadfaaGreatDoor
open Go.RowKit

theorem says_first (v : ByteArray) (h : saysS v.data.toList = true) (h0 : 0 < v.size) : ((v[0].toNat : Int) == 32) = false := by
  unfold saysS at h
  simp only [Bool.and_eq_true, decide_eq_true_eq] at h
  have := ((trim_iff _).1 h.2).1
  rw [head_split v h0] at this
  simp at this
  exact (blk_no _ this).1
theorem cut_zero (vl : List UInt8) : cutP vl 0 = false := rfl
theorem one_firstW (f : Fl) : firstW [f] = if rightF f then 1 else 0 := by
  unfold firstW
  cases h : rightF f <;> simp [h]
theorem ext_one (v : ByteArray) (k : Nat) (h : k < v.size) : (v.extract k (k + 1)).data.toList = [v[k]] := by
  rw [extract_list]
  have e : k + 1 - k = 0 + 1 := by omega
  rw [e, List.take_add_one, List.getElem?_drop, Nat.add_zero, getL v k h]; rfl

theorem phase_of {vl : List UInt8} {k : Nat} {ws : List (List UInt8)} {wd wd' : List UInt8} (h : Phase vl k ws wd) (e : wd' = wd) : Phase vl k ws wd' := e ▸ h
theorem line_of {S0 nl S line S' line' : List UInt8} {ws : List (List UInt8)} (h : LineP S0 nl ws S line) (e1 : S' = S) (e2 : line' = line) : LineP S0 nl ws S' line' := e1 ▸ e2 ▸ h

set_option maxHeartbeats 3200000 in
set_option maxRecDepth 100000 in
theorem writeHead_any (v : Value) (L : List Fl) (w : World) (hM : Mid L) (hF : FL w v L) :
    Calls Tryz.prog 71 #[v] w fun e w' => (∃ S : ByteArray, (firstW L < L.length → e = .returned (.tuple #[.string ⟨#[]⟩, .agg #[.int .i64 1, .int .i64 (firstW L)]])) ∧ (firstW L = L.length → e = .returned (.tuple #[.string S, .agg #[.int .i64 0, .int .i64 (-1)]]) ∧ S.data.toList = fieldsB L ++ [13, 10])) ∧ Below w.heap.size w w' := by
  have hlen := hM.1
  have HM := Box.mk hM
  obtain ⟨A, cap, rfl, hcap, hcells⟩ := hF
  have HC := Box.mk hcells
  clear hcells hM
  go_enter Tryz.func71, Tryz.ntmps71
  go_wp2
  go_loopw [4, 13] (fun x i wr => ∃ (k : Nat) (S : ByteArray), k ≤ L.length ∧ i = .int .i64 k ∧ x = .string S ∧ S.size ≤ k * 8006 ∧ Box (S.data.toList = fieldsB (L.take k)) ∧ Box ((L.take k).all rightF = true) ∧ Below (w.heap.size + 1) (w.alloc (.cells #[.int .i64 0, .int .i64 0] 55)) wr) (fun _ i _ => L.length - (intOf i).toNat)
  case atStart => exact ⟨0, ⟨#[]⟩, Nat.zero_le _, rfl, rfl, by decide, ⟨rfl⟩, ⟨rfl⟩, Below.refl _ _⟩
  case round =>
    obtain ⟨k, S, hk, rfl, rfl, hSs, HS, HA, hbf⟩ := hrel
    have hb : Below w.heap.size w wr := ((Below.refl _ _).alloc (Nat.le_refl _) _).trans (hbf.mono (by omega))
    have hsz : w.heap.size + 1 ≤ wr.heap.size := by have := hbf.size; simp at this; omega
    by_cases hlt : k < L.length
    · obtain ⟨b, off, n, v, rfl, HN, hn, hv, hbl, d0, d1⟩ := HC.out.elem HM.out.tiny hb k hlt
      have hs := HM.out.2 (n, v) (List.mem_of_getElem? HN.out)
      have hs1 : n.size ≤ 2000 := hs.1
      have hs2 : v.size ≤ 2000 := hs.2
      have hb2 := hbf.alloc hsz (.cells #[.string n, .string v] 75)
      have hb3 := hb2.alloc (by simp; omega) (.cells #[.string n, .string v] 75)
      have hfl : FL ((wr.alloc (.cells #[.string n, .string v] 75)).alloc (.cells #[.string n, .string v] 75)) (.slice (some ⟨wr.heap.size + 1, 0, none⟩) 1 1) [(n, v)] := by
        refine ⟨_, _, rfl, Nat.le_refl _, fun j hj => ?_⟩
        have : j = 0 := by simp at hj; exact hj
        subst this
        exact ⟨_, _, rfl, by simp, by simp⟩
      clear HC hs hn hv
      go_wp2_with fail
      refine (rHead_any _ [(n, v)] _ ⟨by simp, fun f hf => by rw [List.mem_singleton.1 hf]; exact ⟨by show n.size ≤ _; omega, by show v.size ≤ _; omega⟩⟩ hfl).mono ?_
      rintro e w2 ⟨rfl, hb4⟩
      have hb5 := hb3.trans (hb4.mono (by simp; omega))
      have e0 : w2.cell? ⟨wr.heap.size, 0, none⟩ = some (.string n) := (hb4.cell (p := ⟨wr.heap.size, 0, none⟩) (by simp; omega)).trans (by rw [World.cell?_alloc_lt _ _ ⟨wr.heap.size, 0, none⟩ (by simp)]; simp)
      have e1 : w2.cell? ⟨wr.heap.size, 1, none⟩ = some (.string v) := (hb4.cell (p := ⟨wr.heap.size, 1, none⟩) (by simp; omega)).trans (by rw [World.cell?_alloc_lt _ _ ⟨wr.heap.size, 1, none⟩ (by simp)]; simp)
      have q0 : w2.cell? ⟨w.heap.size, 0, none⟩ = some (.int .i64 0) := (hb5.cell (p := ⟨w.heap.size, 0, none⟩) (by simp)).trans (by simp)
      have q1 : w2.cell? ⟨w.heap.size, 1, none⟩ = some (.int .i64 0) := (hb5.cell (p := ⟨w.heap.size, 1, none⟩) (by simp)).trans (by simp)
      have f0 : w2.frozen? ⟨w.heap.size, 0, none⟩ = false := (hb5.frozen (p := ⟨w.heap.size, 0, none⟩) (by simp)).trans (by simp)
      have f1 : w2.frozen? ⟨w.heap.size, 1, none⟩ = false := (hb5.frozen (p := ⟨w.heap.size, 1, none⟩) (by simp)).trans (by simp)
      have hbw : Below w.heap.size w w2 := ((Below.refl _ _).alloc (Nat.le_refl _) _).trans (hb5.mono (by omega))
      clear hb2 hb3 hb4 hfl d0 d1
      rw [one_firstW]
      cases hr : rightF (n, v)
      · have HF : Box (firstW L = k) := ⟨firstW_stop L k _ HN.out HA.out hr⟩
        clear HN HA HS HM
        go_wp2
        exact bodyPost_ret (v := .tuple #[.string ⟨#[]⟩, .agg #[.int .i64 1, .int .i64 k]]) (by simp [results, Tryz.results71, go_sem, q0, q1]) rfl ⟨⟨⟨#[]⟩, fun _ => by rw [HF.out], fun h => absurd h (by rw [HF.out]; omega)⟩, (hbw.setCell (Nat.le_refl _) _).setCell (Nat.le_refl _) _⟩
      · have hr2 : nameS n.data.toList = true ∧ saysS v.data.toList = true := by
          have := hr
          unfold rightF at this
          simpa using this
        have HA' : Box ((L.take (k + 1)).all rightF = true) := ⟨all_onF L k _ HN.out HA.out hr⟩
        have HS' : Box (fieldsB (L.take (k + 1)) = S.data.toList ++ fieldS n.data.toList v.data.toList) := ⟨by rw [fieldsB_snoc L k _ HN.out, HS.out]; rfl⟩
        have HSl : Box ((fieldsB (L.take (k + 1))).length ≤ (k + 1) * 8006) := ⟨by
          have := fieldsB_len (L.take (k + 1)) fun f hf => HM.out.2 f (List.mem_of_mem_take hf)
          have h2 : (L.take (k + 1)).length ≤ k + 1 := List.length_take_le _ _
          omega⟩
        have H0 : Box (∀ h : 0 < v.size, ((v[0].toNat : Int) == 32) = false) := ⟨says_first v hr2.2⟩
        clear HN HA HS HM hr2 q0 q1 f0 f1
        go_wp2_with fail
        go_loop [4, 7, 8, 9, 10] (fun x4 x7 x8 x9 i => ∃ (j : Nat) (S1 line word : ByteArray) (ws : List (List UInt8)) (fst : Bool), j ≤ v.size + 1 ∧ i = .int .i64 j ∧ x4 = .string S1 ∧ x7 = .string line ∧ x8 = .string word ∧ x9 = .bool fst ∧ Box (fst = ws.isEmpty) ∧ Box (Phase v.data.toList j ws word.data.toList) ∧ Box (LineP S.data.toList n.data.toList ws S1.data.toList line.data.toList)) (fun _ _ _ _ i => v.size + 1 - (intOf i).toNat)
        case atStart => exact ⟨0, S, _, ⟨#[]⟩, [], true, Nat.zero_le _, rfl, rfl, rfl, rfl, rfl, ⟨rfl⟩, ⟨Phase.start _⟩, ⟨line_of (LineP.start _ _) (by simp) (by simp)⟩⟩
        case round =>
          obtain ⟨j, S1, line, word, ws, fst, hj, rfl, rfl, rfl, rfl, rfl, HFs, HP, HL⟩ := hrel
          have hl1 := HP.out.len
          have hl2 := HL.out.len
          simp only [size_list] at hl1 hl2
          have hz0 : S1.size ≤ 50000000 := by omega
          have hz1 : line.size ≤ 50000000 := by omega
          have hz2 : word.size ≤ 10000000 := by omega
          clear hl1 hl2
          by_cases hjv : j ≤ v.size
          · by_cases hje : j = v.size
            · have t1 : ((j : Int) == (v.size : Int)) = true := beqI (by omega)
              have HPh : Box (Phase v.data.toList (j + 1) (ws ++ [word.data.toList]) []) := ⟨by have := HP.out; rw [hje, ← size_list] at this ⊢; exact this.last⟩
              have t2 : ¬ (j : Int) < (v.size : Int) := by omega
              cases fst
              · have HE1 : Box (ws ≠ []) := ⟨fun h => by have := HFs.out; rw [h] at this; cases this⟩
                have hwd : word.toList.isEmpty = false := nonempty_of word (by have := HP.out.word (by rw [size_list]; omega) HE1.out; rw [size_list] at this; omega)
                by_cases hov : 76 < line.size + word.size
                · have z : (76 : Int) < (line.size : Int) + (word.size : Int) := by omega
                  have HL' := Box.mk (HL.out.brk word.data.toList HE1.out (by rw [size_list, size_list]; exact hov))
                  clear HL HP HFs HE1 hov
                  go_wp2
                  go_round
                  case rel => exact ⟨j + 1, _, _, _, _, false, by omega, by go_num, rfl, rfl, rfl, rfl, ⟨by simp⟩, ⟨phase_of HPh.out (by simp)⟩, ⟨line_of HL'.out (by simp) (by simp)⟩⟩
                  case measure => simp [intOf]; omega
                · have z : ¬ (76 : Int) < (line.size : Int) + (word.size : Int) := by omega
                  have HL' := Box.mk (HL.out.keep word.data.toList (by rw [size_list, size_list]; exact hov))
                  clear HL HP HFs HE1 hov
                  go_wp2
                  go_round
                  case rel => exact ⟨j + 1, _, _, _, _, false, by omega, by go_num, rfl, rfl, rfl, rfl, ⟨by simp⟩, ⟨phase_of HPh.out (by simp)⟩, ⟨line_of HL'.out (by simp) (by simp)⟩⟩
                  case measure => simp [intOf]; omega
              · have HE1 : Box (ws = []) := ⟨List.isEmpty_iff.1 HFs.out.symm⟩
                have HL' : Box (LineP S.data.toList n.data.toList (ws ++ [word.data.toList]) S1.data.toList (line.data.toList ++ word.data.toList)) := ⟨by have := HL.out; rw [HE1.out] at this ⊢; exact this.first _⟩
                clear HL HP HFs HE1
                go_wp2
                go_round
                case rel => exact ⟨j + 1, _, _, _, _, false, by omega, by go_num, rfl, rfl, rfl, rfl, ⟨by simp⟩, ⟨phase_of HPh.out (by simp)⟩, ⟨line_of HL'.out (by simp) (by simp)⟩⟩
                case measure => simp [intOf]; omega
            · have hjl : j < v.size := by omega
              have t1 : ((j : Int) == (v.size : Int)) = false := bneI (by omega)
              have HX : Box (List.take 1 (List.drop j v.data.toList) = [v[j]]) := ⟨by have := ext_one v j hjl; rw [extract_list, Nat.add_sub_cancel_left] at this; exact this⟩
              have hb1 : (v[j].toNat : Int) < 256 := by have := v[j].toNat_lt; omega
              by_cases hj0 : j = 0
              · subst hj0
                have t2 := H0.out hjl
                have HCt : Box (cutP v.data.toList 0 = false) := ⟨rfl⟩
                have HX0 : Box (List.take 1 v.data.toList = [v[0]]) := ⟨HX.out⟩
                clear HX
                have HP' := Box.mk (HP.out.on v[0] (getL v 0 hjl) HCt.out)
                clear HP HCt
                go_wp2
                go_round
                case rel => exact ⟨0 + 1, S1, line, _, ws, fst, by omega, by go_num, rfl, rfl, rfl, rfl, HFs, ⟨phase_of HP'.out (by simp [HX0.out])⟩, HL⟩
                case measure => simp [intOf]
              · have t3 : ((j : Int) == 0) = false := bneI (by omega)
                have hkm : ((j : Int) - 1).toNat = j - 1 := by omega
                have HCq := Box.mk (cutP_at v j (by omega) hjl)
                cases t2 : ((v[j].toNat : Int) == 32)
                · have HCt : Box (cutP v.data.toList j = false) := ⟨by rw [HCq.out, t2]; rfl⟩
                  clear HCq
                  have HP' := Box.mk (HP.out.on v[j] (getL v j hjl) HCt.out)
                  clear HP HCt
                  go_wp2
                  go_round
                  case rel => exact ⟨j + 1, S1, line, _, ws, fst, by omega, by go_num, rfl, rfl, rfl, rfl, HFs, ⟨phase_of HP'.out (by simp [HX.out])⟩, HL⟩
                  case measure => simp [intOf]; omega
                · cases t4 : ((v[j - 1].toNat : Int) != 32)
                  · have HCt : Box (cutP v.data.toList j = false) := ⟨by rw [HCq.out, t2, t4]; rfl⟩
                    clear HCq
                    have HP' := Box.mk (HP.out.on v[j] (getL v j hjl) HCt.out)
                    clear HP HCt
                    go_wp2
                    go_round
                    case rel => exact ⟨j + 1, S1, line, _, ws, fst, by omega, by go_num, rfl, rfl, rfl, rfl, HFs, ⟨phase_of HP'.out (by simp [HX.out])⟩, HL⟩
                    case measure => simp [intOf]; omega
                  · have HPh := Box.mk (HP.out.cut v[j] (getL v j hjl) (by rw [HCq.out, t2, t4]; rfl))
                    clear HCq
                    cases fst
                    · have HE1 : Box (ws ≠ []) := ⟨fun h => by have := HFs.out; rw [h] at this; cases this⟩
                      have hwd : word.toList.isEmpty = false := nonempty_of word (by have := HP.out.word (by rw [size_list]; omega) HE1.out; rw [size_list] at this; omega)
                      by_cases hov : 76 < line.size + word.size
                      · have z : (76 : Int) < (line.size : Int) + (word.size : Int) := by omega
                        have HL' := Box.mk (HL.out.brk word.data.toList HE1.out (by rw [size_list, size_list]; exact hov))
                        clear HL HP HFs HE1 hov
                        go_wp2
                        go_round
                        case rel => exact ⟨j + 1, _, _, _, _, false, by omega, by go_num, rfl, rfl, rfl, rfl, ⟨by simp⟩, ⟨phase_of HPh.out (by simp [HX.out])⟩, ⟨line_of HL'.out (by simp) (by simp)⟩⟩
                        case measure => simp [intOf]; omega
                      · have z : ¬ (76 : Int) < (line.size : Int) + (word.size : Int) := by omega
                        have HL' := Box.mk (HL.out.keep word.data.toList (by rw [size_list, size_list]; exact hov))
                        clear HL HP HFs HE1 hov
                        go_wp2
                        go_round
                        case rel => exact ⟨j + 1, _, _, _, _, false, by omega, by go_num, rfl, rfl, rfl, rfl, ⟨by simp⟩, ⟨phase_of HPh.out (by simp [HX.out])⟩, ⟨line_of HL'.out (by simp) (by simp)⟩⟩
                        case measure => simp [intOf]; omega
                    · have HE1 : Box (ws = []) := ⟨List.isEmpty_iff.1 HFs.out.symm⟩
                      have HL' : Box (LineP S.data.toList n.data.toList (ws ++ [word.data.toList]) S1.data.toList (line.data.toList ++ word.data.toList)) := ⟨by have := HL.out; rw [HE1.out] at this ⊢; exact this.first _⟩
                      clear HL HP HFs HE1
                      go_wp2
                      go_round
                      case rel => exact ⟨j + 1, _, _, _, _, false, by omega, by go_num, rfl, rfl, rfl, rfl, ⟨by simp⟩, ⟨phase_of HPh.out (by simp [HX.out])⟩, ⟨line_of HL'.out (by simp) (by simp)⟩⟩
                      case measure => simp [intOf]; omega
          · have HEn : Box (S1.data.toList ++ (line.data.toList ++ [13, 10]) = fieldsB (L.take (k + 1))) := ⟨by
              have h1 := HP.out.end (by rw [size_list]; exact hjv)
              have h2 := HL.out
              rw [h1] at h2
              rw [HS'.out, h2.end]⟩
            have HEm : Box ((S1 ++ (line ++ ⟨#[13, 10]⟩)).data.toList = fieldsB (L.take (k + 1))) := ⟨by rw [← HEn.out]; simp⟩
            have HEz : Box ((S1 ++ (line ++ ⟨#[13, 10]⟩)).size ≤ (k + 1) * 8006) := ⟨by rw [← size_list, HEm.out]; exact HSl.out⟩
            clear HP HL HFs HEn HS' HSl H0
            go_wp2
            go_roundw
            case rel => exact ⟨k + 1, _, by omega, by go_num, rfl, HEz.out, HEm, HA', hb5⟩
            case measure => simp [intOf]; omega
    · have HF : Box (firstW L = L.length) := ⟨firstW_all L (by rw [← HA.out, List.take_of_length_le (by omega)])⟩
      have HE : Box ((S ++ ⟨#[13, 10]⟩).data.toList = fieldsB L ++ [13, 10]) := ⟨by
        have := HS.out
        rw [List.take_of_length_le (by omega)] at this
        simp [this]⟩
      clear HA HS HC HM
      go_wp2_with fail
      refine (fault_any 0 _).mono ?_
      rintro e w2 ⟨rfl, hb4⟩
      have hb5 := hbf.trans (hb4.mono hsz)
      have q0 : w2.cell? ⟨w.heap.size, 0, none⟩ = some (.int .i64 0) := (hb5.cell (p := ⟨w.heap.size, 0, none⟩) (by simp)).trans (by simp)
      have q1 : w2.cell? ⟨w.heap.size, 1, none⟩ = some (.int .i64 0) := (hb5.cell (p := ⟨w.heap.size, 1, none⟩) (by simp)).trans (by simp)
      have f0 : w2.frozen? ⟨w.heap.size, 0, none⟩ = false := (hb5.frozen (p := ⟨w.heap.size, 0, none⟩) (by simp)).trans (by simp)
      have f1 : w2.frozen? ⟨w.heap.size, 1, none⟩ = false := (hb5.frozen (p := ⟨w.heap.size, 1, none⟩) (by simp)).trans (by simp)
      have hbw : Below w.heap.size w w2 := ((Below.refl _ _).alloc (Nat.le_refl _) _).trans (hb5.mono (by omega))
      go_wp2
      exact bodyPost_ret (v := .tuple #[.string (S ++ ⟨#[13, 10]⟩), .agg #[.int .i64 0, .int .i64 (-1)]]) (by simp [results, Tryz.results71, go_sem, q0, q1]) rfl ⟨⟨S ++ ⟨#[13, 10]⟩, fun h => absurd HF.out (by omega), fun _ => ⟨rfl, HE.out⟩⟩, (hbw.setCell (Nat.le_refl _) _).setCell (Nat.le_refl _) _⟩

end Go.Proofs.YtnjjjkhhoaadfaaGreatDoor
