import Derived.Test.YtnjjjkhhoaadfaaGreatDoorZ23
import Derived.Test.YtnjjjkhhoaadfaaGreatDoorZ18
import Derived.Test.YtnjjjkhhoaadfaaGreatDoorZ6
namespace Go.Proofs.YtnjjjkhhoaadfaaGreatDoor
open Go.RowKit

def RWPost (m : List UInt8) (L : List Fl) (e : Ending) : Prop :=
  (goodM m = false ∧ e = .returned (.tuple #[.string ⟨#[]⟩, .agg #[.int .i64 1, .int .i64 (-1)]])) ∨
  (goodM m = true ∧ firstQ L < L.length ∧ e = .returned (.tuple #[.string ⟨#[]⟩, .agg #[.int .i64 1, .int .i64 (firstQ L)]])) ∨
  (goodM m = true ∧ L.all goodF = true ∧ ∃ t : ByteArray, e = .returned (.tuple #[.string t, .agg #[.int .i64 0, .int .i64 (-1)]]) ∧ t.data.toList = writeK m (L.map pb2))

theorem esc_on (v : ByteArray) (j : Nat) (h : j < v.size) : (v.data.toList.take (j + 1)).flatMap escC = (v.data.toList.take j).flatMap escC ++ escC v[j] := by
  rw [take_snoc v j h, List.flatMap_append]; simp
theorem esc_len (l : List UInt8) : (l.flatMap escC).length ≤ 2 * l.length := by
  induction l with
  | nil => exact Nat.le_refl _
  | cons c l ih =>
    rw [List.flatMap_cons, List.length_append, List.length_cons]
    have : (escC c).length ≤ 2 := by unfold escC; split <;> simp
    omega
theorem in_on (v : ByteArray) (j : Nat) (h : j < v.size) : (v.data.toList.take (j + 1)).all inC = ((v.data.toList.take j).all inC && inC v[j]) := by
  rw [take_snoc v j h, List.all_append]; simp
/-- 'Token', by its answer. -/
theorem rToken_is (s : ByteArray) (w : World) (hl : s.size ≤ 1000000) (q : Bool) (hq : tokS s.data.toList = q) : Calls Tryz.prog 115 #[.string s] w fun e w' => e = .returned (.bool q) ∧ w' = w := by
  rw [← hq]; exact rToken_any s w hl

set_option maxHeartbeats 16000000 in
set_option maxRecDepth 100000 in
theorem rwrite_any (m : ByteArray) (v : Value) (L : List Fl) (w : World) (hm : m.size ≤ 100000) (hM : Mid L) (hF : FL w v L) (hx : Max w) :
    Calls Tryz.prog 70 #[.string m, v] w fun e w' => RWPost m.data.toList L e ∧ Below w.heap.size w w' := by
  obtain ⟨A, cap, rfl, hcap, hcells⟩ := hF
  have HC := Box.mk hcells
  have hlen := hM.1
  have HM := Box.mk hM
  have HMx := Box.mk hx
  have hw0 := hx.1
  clear hcells hM hx
  have bA : Below w.heap.size w (w.alloc (.cells #[.int .i64 0, .int .i64 0] 55)) := (Below.refl _ _).alloc (Nat.le_refl _) _
  go_enter Tryz.func70, Tryz.ntmps70
  go_wp2_with fail
  refine (rmain_any m _ (by omega) (HMx.out.below bA hw0)).mono ?_
  rintro e w1 ⟨rfl, hb1⟩
  have hf1 : Below (w.heap.size + 1) (w.alloc (.cells #[.int .i64 0, .int .i64 0] 55)) w1 := hb1.mono (by simp)
  clear hb1
  cases him : isMainS m.data.toList
  · have HG : Box (goodM m.data.toList = false) := ⟨by unfold goodM; rw [him]; rfl⟩
    clear him
    go_wp2_with fail
    refine (fault_any 1 _).mono ?_
    rintro e w2 ⟨rfl, hb2⟩
    have hf2 := hf1.trans (hb2.mono (by have := hf1.size; simp at this; omega))
    have q0 : w2.cell? ⟨w.heap.size, 0, none⟩ = some (.int .i64 0) := (hf2.cell (p := ⟨w.heap.size, 0, none⟩) (by simp)).trans (by simp)
    have q1 : w2.cell? ⟨w.heap.size, 1, none⟩ = some (.int .i64 0) := (hf2.cell (p := ⟨w.heap.size, 1, none⟩) (by simp)).trans (by simp)
    have f0 : w2.frozen? ⟨w.heap.size, 0, none⟩ = false := (hf2.frozen (p := ⟨w.heap.size, 0, none⟩) (by simp)).trans (by simp)
    have f1 : w2.frozen? ⟨w.heap.size, 1, none⟩ = false := (hf2.frozen (p := ⟨w.heap.size, 1, none⟩) (by simp)).trans (by simp)
    have hbw : Below w.heap.size w w2 := bA.trans (hf2.mono (by omega))
    go_wp2
    exact bodyPost_ret (v := .tuple #[.string ⟨#[]⟩, .agg #[.int .i64 1, .int .i64 (-1)]]) (by simp [results, Tryz.results70, go_sem, q0, q1]) rfl ⟨.inl ⟨HG.out, rfl⟩, (hbw.setCell (Nat.le_refl _) _).setCell (Nat.le_refl _) _⟩
  · go_wp2_with fail
    refine (low_any m _ (by omega)).mono ?_
    rintro e w2 ⟨ml, rfl, hml, hb2⟩
    have hf2 := hf1.trans (hb2.mono (by have := hf1.size; simp at this; omega))
    clear hf1 hb2
    by_cases hsm : smallS m.data.toList = m.data.toList
    · have HG : Box (goodM m.data.toList = true) := ⟨by unfold goodM; rw [him, decide_eq_true hsm]; rfl⟩
      have hne : (!(ml.toList == m.toList)) = false := by rw [str_eq (hml.trans hsm)]; rfl
      clear him hsm hml
      go_wp2
      go_loopw [6, 26] (fun x i wr => ∃ (k : Nat) (S : ByteArray), k ≤ L.length ∧ i = .int .i64 k ∧ x = .string S ∧ Below (w.heap.size + 1) (w.alloc (.cells #[.int .i64 0, .int .i64 0] 55)) wr ∧ Box (S.data.toList = writeK m.data.toList ((L.take k).map pb2)) ∧ Box ((L.take k).all goodF = true)) (fun _ i _ => L.length - (intOf i).toNat)
      case atStart => exact ⟨0, m, Nat.zero_le _, rfl, rfl, hf2, ⟨by unfold writeK; simp⟩, ⟨rfl⟩⟩
      case round =>
        generalize wr = wo at hrel ⊢
        obtain ⟨k, S, hk, rfl, rfl, hbf, HS, HA⟩ := hrel
        have hb : Below w.heap.size w wo := bA.trans (hbf.mono (by omega))
        have hsz : w.heap.size + 1 ≤ wo.heap.size := by have := hbf.size; simp at this; omega
        have hSl : S.size ≤ 7000000 := by
          have := writeK_len m.data.toList (L.take k) (fun f hf => HM.out.2 f (List.mem_of_mem_take hf))
          rw [← HS.out, size_list, size_list, List.length_take] at this
          have h2 : min k L.length ≤ 1000 := by omega
          have h3 : min k L.length * 6005 ≤ 1000 * 6005 := Nat.mul_le_mul_right _ h2
          omega
        by_cases hlt : k < L.length
        · obtain ⟨b, off, n, v, rfl, HN, _, _, hbl, d0, d1⟩ := HC.out.elem HM.out.tiny hb k hlt
          have hnv := HM.out.2 (n, v) (List.mem_of_getElem? HN.out)
          obtain ⟨hn, hv⟩ := hnv
          simp only at hn hv
          have hb3 := hbf.alloc hsz (.cells #[.string n, .string v] 114)
          clear HC HM
          obtain ⟨tk, Htk⟩ : ∃ tk, Box (tokS n.data.toList = tk) := ⟨_, ⟨rfl⟩⟩
          go_wp2
          have p0 : (wo.alloc (.cells #[.string n, .string v] 114)).drew.cell? ⟨wo.heap.size, 0, none⟩ = some (.string n) := (cell_new wo n v wo.heap.size rfl).1
          have p1 : (wo.alloc (.cells #[.string n, .string v] 114)).drew.cell? ⟨wo.heap.size, 1, none⟩ = some (.string v) := (cell_new wo n v wo.heap.size rfl).2
          have hPd : wo.heap.size < (wo.alloc (.cells #[.string n, .string v] 114)).drew.heap.size := by simp
          cases tk
          · first | go_region_with (go_at_call 115; refine (rToken_is n _ (by omega) _ Htk.out).mono ?_; rintro e w' ⟨rfl, rfl⟩) | fail
            all_goals
              have HNo : Box (goodF (n, v) = false) := ⟨goodF_no1 n v Htk.out⟩
              have hW := hb3.drew
              have v1 := p1
              go_wp2
              go_loopw [9, 10, 45] (fun x y i wr => ∃ (j : Nat) (V : ByteArray), j ≤ v.size ∧ i = .int .i64 j ∧ x = .string V ∧ y = .bool false ∧ V.size ≤ 2 * j ∧ Box (V.data.toList = (v.data.toList.take j).flatMap escC) ∧ Below (wo.alloc (.cells #[.string n, .string v] 114)).drew.heap.size (wo.alloc (.cells #[.string n, .string v] 114)).drew wr) (fun _ _ i _ => v.size - (intOf i).toNat)
              case atStart => exact ⟨0, ⟨#[]⟩, Nat.zero_le _, rfl, rfl, rfl, Nat.le_refl _, ⟨rfl⟩, Below.refl _ _⟩
              case round =>
                obtain ⟨j, V, hj, rfl, rfl, rfl, hVs, HV, hbi⟩ := hrel
                have hszi := hbi.size
                have c1 : wr.cell? ⟨wo.heap.size, 1, none⟩ = some (.string v) := (hbi.cell (p := ⟨wo.heap.size, 1, none⟩) hPd).trans v1
                by_cases hjl : j < v.size
                · have hbyte : (v[j].toNat : Int) < 256 := by have := v[j].toNat_lt; omega
                  have hcv := one_str wr v[j] (v[j].toNat : Int) rfl
                  obtain ⟨cc, HCc⟩ : ∃ cc, Box (v[j] = cc) := ⟨_, ⟨rfl⟩⟩
                  have HV1 : Box ((v.data.toList.take (j + 1)).flatMap escC = V.data.toList ++ escC cc) := ⟨by rw [esc_on v j hjl, HV.out, HCc.out]⟩
                  clear HV
                  by_cases h34 : cc = 34
                  · have HE1 : Box (escC cc = [92, cc]) := ⟨by unfold escC; rw [if_pos (.inl h34)]⟩
                    have x1 : ((v[j].toNat : Int) == 34) = true := by rw [HCc.out, h34]; rfl
                    clear h34
                    go_wp2
                    go_roundw
                    case rel => exact ⟨j + 1, _, by omega, by go_num, rfl, rfl, by simp [ByteArray.size_append, ByteArray.size_mk']; omega, ⟨by rw [HV1.out, HE1.out]; simp [HCc.out]⟩, hbi.alloc hszi _⟩
                    case measure => simp [intOf]; omega
                  · have x1 : ((v[j].toNat : Int) == 34) = false := by
                      have e := u8eq v[j] 34
                      rw [HCc.out] at e ⊢
                      exact e.trans (by simpa using h34)
                    by_cases h92 : cc = 92
                    · have HE1 : Box (escC cc = [92, cc]) := ⟨by unfold escC; rw [if_pos (.inr h92)]⟩
                      have x2 : ((v[j].toNat : Int) == 92) = true := by rw [HCc.out, h92]; rfl
                      clear h34 h92
                      go_wp2
                      go_roundw
                      case rel => exact ⟨j + 1, _, by omega, by go_num, rfl, rfl, by simp [ByteArray.size_append, ByteArray.size_mk']; omega, ⟨by rw [HV1.out, HE1.out]; simp [HCc.out]⟩, hbi.alloc hszi _⟩
                      case measure => simp [intOf]; omega
                    · have HE1 : Box (escC cc = [cc]) := ⟨by unfold escC; rw [if_neg (fun h => h.elim h34 h92)]⟩
                      have x2 : ((v[j].toNat : Int) == 92) = false := by
                        have e := u8eq v[j] 92
                        rw [HCc.out] at e ⊢
                        exact e.trans (by simpa using h92)
                      clear h34 h92
                      go_wp2
                      go_roundw
                      case rel => exact ⟨j + 1, _, by omega, by go_num, rfl, rfl, by simp [ByteArray.size_append, ByteArray.size_mk']; omega, ⟨by rw [HV1.out, HE1.out]; simp [HCc.out]⟩, hbi.alloc hszi _⟩
                      case measure => simp [intOf]; omega
                · have HE : Box (firstQ L = k) := ⟨firstQ_stop L k _ HN.out HA.out HNo.out⟩
                  clear HN HA HV HNo HS
                  have hf9 : Below (w.heap.size + 1) (w.alloc (.cells #[.int .i64 0, .int .i64 0] 55)) wr := hW.trans (hbi.mono (by omega))
                  have q0 : wr.cell? ⟨w.heap.size, 0, none⟩ = some (.int .i64 0) := (hf9.cell (p := ⟨w.heap.size, 0, none⟩) (by simp)).trans (by simp)
                  have q1 : wr.cell? ⟨w.heap.size, 1, none⟩ = some (.int .i64 0) := (hf9.cell (p := ⟨w.heap.size, 1, none⟩) (by simp)).trans (by simp)
                  have f0 : wr.frozen? ⟨w.heap.size, 0, none⟩ = false := (hf9.frozen (p := ⟨w.heap.size, 0, none⟩) (by simp)).trans (by simp)
                  have f1 : wr.frozen? ⟨w.heap.size, 1, none⟩ = false := (hf9.frozen (p := ⟨w.heap.size, 1, none⟩) (by simp)).trans (by simp)
                  have hbw : Below w.heap.size w wr := bA.trans (hf9.mono (by omega))
                  go_wp2
                  exact bodyPost_ret (v := .tuple #[.string ⟨#[]⟩, .agg #[.int .i64 1, .int .i64 k]]) (by simp [results, Tryz.results70, go_sem, q0, q1]) rfl ⟨.inr (.inl ⟨HG.out, by rw [HE.out]; exact hlt, by rw [HE.out]⟩), (hbw.setCell (Nat.le_refl _) _).setCell (Nat.le_refl _) _⟩
          · first | go_region_with (first | (go_at_call 115; refine (rToken_is n _ (by omega) _ Htk.out).mono ?_; rintro e w' ⟨rfl, rfl⟩) | (go_at_call 59; refine (low_any n _ (by omega)).mono ?_; rintro e w4 ⟨nl, rfl, hnl, hb4⟩; have s0 : w4.cell? ⟨wo.heap.size, 0, none⟩ = some (.string n) := (hb4.cell (p := ⟨wo.heap.size, 0, none⟩) hPd).trans p0; have HNl := Box.mk hnl; clear hnl)) | fail
            all_goals
              have hW := hb3.drew.trans (hb4.mono (by simp; omega))
              have v0 := s0
              have v1 : w4.cell? ⟨wo.heap.size, 1, none⟩ = some (.string v) := (hb4.cell (p := ⟨wo.heap.size, 1, none⟩) hPd).trans p1
              have hPd4 : wo.heap.size < w4.heap.size := by have := hb4.size; omega
              clear hPd
              have hPd := hPd4
              by_cases hsl : smallS n.data.toList = n.data.toList
              · have hnn : (nl.toList == n.toList) = true := str_eq (HNl.out.trans hsl)
                have HAL : Box (v.data.toList.all inC = true → goodF (n, v) = true) := ⟨fun h => goodF_yes n v Htk.out (decide_eq_true hsl) h⟩
                clear hsl HNl hb4 p0 p1 s0
                go_wp2
                go_loopw [9, 10, 45] (fun x y i wr => ∃ (j : Nat) (V : ByteArray) (q : Bool), j ≤ v.size ∧ i = .int .i64 j ∧ x = .string V ∧ y = .bool q ∧ V.size ≤ 2 * j ∧ Box (V.data.toList = (v.data.toList.take j).flatMap escC) ∧ Box (q = (v.data.toList.take j).all inC) ∧ Below w4.heap.size w4 wr) (fun _ _ i _ => v.size - (intOf i).toNat)
                case atStart => exact ⟨0, ⟨#[]⟩, true, Nat.zero_le _, rfl, rfl, rfl, Nat.le_refl _, ⟨rfl⟩, ⟨rfl⟩, Below.refl _ _⟩
                case round =>
                  obtain ⟨j, V, q, hj, rfl, rfl, rfl, hVs, HV, HQ, hbi⟩ := hrel
                  have hszi := hbi.size
                  have c1 : wr.cell? ⟨wo.heap.size, 1, none⟩ = some (.string v) := (hbi.cell (p := ⟨wo.heap.size, 1, none⟩) hPd).trans v1
                  by_cases hjl : j < v.size
                  · have hbyte : (v[j].toNat : Int) < 256 := by have := v[j].toNat_lt; omega
                    have hcv := one_str wr v[j] (v[j].toNat : Int) rfl
                    obtain ⟨cc, HCc⟩ : ∃ cc, Box (v[j] = cc) := ⟨_, ⟨rfl⟩⟩
                    have HV1 : Box ((v.data.toList.take (j + 1)).flatMap escC = V.data.toList ++ escC cc) := ⟨by rw [esc_on v j hjl, HV.out, HCc.out]⟩
                    have HQ1 : Box ((v.data.toList.take (j + 1)).all inC = (q && inC cc)) := ⟨by rw [in_on v j hjl, HQ.out, HCc.out]⟩
                    clear HV HQ
                    cases q
                    · skip
                      by_cases h34 : cc = 34
                      · have HE1 : Box (escC cc = [92, cc]) := ⟨by unfold escC; rw [if_pos (.inl h34)]⟩
                        have x1 : ((v[j].toNat : Int) == 34) = true := by rw [HCc.out, h34]; rfl
                        clear h34
                        go_wp2
                        go_roundw
                        case rel => exact ⟨j + 1, _, _, by omega, by go_num, rfl, rfl, by simp [ByteArray.size_append, ByteArray.size_mk']; omega, ⟨by rw [HV1.out, HE1.out]; simp [HCc.out]⟩, ⟨by rw [HQ1.out]; simp []⟩, hbi.alloc hszi _⟩
                        case measure => simp [intOf]; omega
                      · have x1 : ((v[j].toNat : Int) == 34) = false := by
                          have e := u8eq v[j] 34
                          rw [HCc.out] at e ⊢
                          exact e.trans (by simpa using h34)
                        by_cases h92 : cc = 92
                        · have HE1 : Box (escC cc = [92, cc]) := ⟨by unfold escC; rw [if_pos (.inr h92)]⟩
                          have x2 : ((v[j].toNat : Int) == 92) = true := by rw [HCc.out, h92]; rfl
                          clear h34 h92
                          go_wp2
                          go_roundw
                          case rel => exact ⟨j + 1, _, _, by omega, by go_num, rfl, rfl, by simp [ByteArray.size_append, ByteArray.size_mk']; omega, ⟨by rw [HV1.out, HE1.out]; simp [HCc.out]⟩, ⟨by rw [HQ1.out]; simp []⟩, hbi.alloc hszi _⟩
                          case measure => simp [intOf]; omega
                        · have HE1 : Box (escC cc = [cc]) := ⟨by unfold escC; rw [if_neg (fun h => h.elim h34 h92)]⟩
                          have x2 : ((v[j].toNat : Int) == 92) = false := by
                            have e := u8eq v[j] 92
                            rw [HCc.out] at e ⊢
                            exact e.trans (by simpa using h92)
                          clear h34 h92
                          go_wp2
                          go_roundw
                          case rel => exact ⟨j + 1, _, _, by omega, by go_num, rfl, rfl, by simp [ByteArray.size_append, ByteArray.size_mk']; omega, ⟨by rw [HV1.out, HE1.out]; simp [HCc.out]⟩, ⟨by rw [HQ1.out]; simp []⟩, hbi.alloc hszi _⟩
                          case measure => simp [intOf]; omega
                    · skip
                      by_cases h34 : cc = 34
                      · have HE1 : Box (escC cc = [92, cc]) := ⟨by unfold escC; rw [if_pos (.inl h34)]⟩
                        have x1 : ((v[j].toNat : Int) == 34) = true := by rw [HCc.out, h34]; rfl
                        have HI : Box (inC cc = true) := ⟨by rw [h34]; decide⟩
                        have HIy := Box.mk (inC_yes v[j] (by rw [HCc.out]; exact HI.out))
                        clear h34
                        go_wp2_with (go_at_call 29; refine (in_yes _ _ _ _ HIy.out.1 HIy.out.2).mono ?_; rintro e w9 ⟨rfl, rfl⟩)
                        go_roundw
                        case rel => exact ⟨j + 1, _, _, by omega, by go_num, rfl, rfl, by simp [ByteArray.size_append, ByteArray.size_mk']; omega, ⟨by rw [HV1.out, HE1.out]; simp [HCc.out]⟩, ⟨by rw [HQ1.out]; simp [HI.out]⟩, hbi.alloc hszi _⟩
                        case measure => simp [intOf]; omega
                      · have x1 : ((v[j].toNat : Int) == 34) = false := by
                          have e := u8eq v[j] 34
                          rw [HCc.out] at e ⊢
                          exact e.trans (by simpa using h34)
                        by_cases h92 : cc = 92
                        · have HE1 : Box (escC cc = [92, cc]) := ⟨by unfold escC; rw [if_pos (.inr h92)]⟩
                          have x2 : ((v[j].toNat : Int) == 92) = true := by rw [HCc.out, h92]; rfl
                          have HI : Box (inC cc = true) := ⟨by rw [h92]; decide⟩
                          have HIy := Box.mk (inC_yes v[j] (by rw [HCc.out]; exact HI.out))
                          clear h34 h92
                          go_wp2_with (go_at_call 29; refine (in_yes _ _ _ _ HIy.out.1 HIy.out.2).mono ?_; rintro e w9 ⟨rfl, rfl⟩)
                          go_roundw
                          case rel => exact ⟨j + 1, _, _, by omega, by go_num, rfl, rfl, by simp [ByteArray.size_append, ByteArray.size_mk']; omega, ⟨by rw [HV1.out, HE1.out]; simp [HCc.out]⟩, ⟨by rw [HQ1.out]; simp [HI.out]⟩, hbi.alloc hszi _⟩
                          case measure => simp [intOf]; omega
                        · have HE1 : Box (escC cc = [cc]) := ⟨by unfold escC; rw [if_neg (fun h => h.elim h34 h92)]⟩
                          have x2 : ((v[j].toNat : Int) == 92) = false := by
                            have e := u8eq v[j] 92
                            rw [HCc.out] at e ⊢
                            exact e.trans (by simpa using h92)
                          clear h34 h92
                          cases hin : inC cc
                          · have HI := Box.mk hin
                            have HIn := Box.mk (inC_no v[j] (by rw [HCc.out]; exact HI.out))
                            clear hin
                            go_wp2_with (go_at_call 29; refine (in_no _ _ _ _ HIn.out).mono ?_; rintro e w9 ⟨rfl, rfl⟩)
                            go_roundw
                            case rel => exact ⟨j + 1, _, _, by omega, by go_num, rfl, rfl, by simp [ByteArray.size_append, ByteArray.size_mk']; omega, ⟨by rw [HV1.out, HE1.out]; simp [HCc.out]⟩, ⟨by rw [HQ1.out]; simp [HI.out]⟩, hbi.alloc hszi _⟩
                            case measure => simp [intOf]; omega
                          · have HI := Box.mk hin
                            have HIy := Box.mk (inC_yes v[j] (by rw [HCc.out]; exact HI.out))
                            clear hin
                            go_wp2_with (go_at_call 29; refine (in_yes _ _ _ _ HIy.out.1 HIy.out.2).mono ?_; rintro e w9 ⟨rfl, rfl⟩)
                            go_roundw
                            case rel => exact ⟨j + 1, _, _, by omega, by go_num, rfl, rfl, by simp [ByteArray.size_append, ByteArray.size_mk']; omega, ⟨by rw [HV1.out, HE1.out]; simp [HCc.out]⟩, ⟨by rw [HQ1.out]; simp [HI.out]⟩, hbi.alloc hszi _⟩
                            case measure => simp [intOf]; omega
                  · have HQe : Box (q = v.data.toList.all inC) := ⟨by rw [HQ.out, take_all v j hjl]⟩
                    have HVe : Box (V.data.toList = v.data.toList.flatMap escC) := ⟨by rw [HV.out, take_all v j hjl]⟩
                    clear HQ HV
                    cases q
                    · have HE : Box (firstQ L = k) := ⟨firstQ_stop L k _ HN.out HA.out (goodF_no3 n v HQe.out.symm)⟩
                      clear HN HA HVe HQe HS HAL
                      have hf9 : Below (w.heap.size + 1) (w.alloc (.cells #[.int .i64 0, .int .i64 0] 55)) wr := hW.trans (hbi.mono (by omega))
                      have q0 : wr.cell? ⟨w.heap.size, 0, none⟩ = some (.int .i64 0) := (hf9.cell (p := ⟨w.heap.size, 0, none⟩) (by simp)).trans (by simp)
                      have q1 : wr.cell? ⟨w.heap.size, 1, none⟩ = some (.int .i64 0) := (hf9.cell (p := ⟨w.heap.size, 1, none⟩) (by simp)).trans (by simp)
                      have f0 : wr.frozen? ⟨w.heap.size, 0, none⟩ = false := (hf9.frozen (p := ⟨w.heap.size, 0, none⟩) (by simp)).trans (by simp)
                      have f1 : wr.frozen? ⟨w.heap.size, 1, none⟩ = false := (hf9.frozen (p := ⟨w.heap.size, 1, none⟩) (by simp)).trans (by simp)
                      have hbw : Below w.heap.size w wr := bA.trans (hf9.mono (by omega))
                      go_wp2
                      exact bodyPost_ret (v := .tuple #[.string ⟨#[]⟩, .agg #[.int .i64 1, .int .i64 k]]) (by simp [results, Tryz.results70, go_sem, q0, q1]) rfl ⟨.inr (.inl ⟨HG.out, by rw [HE.out]; exact hlt, by rw [HE.out]⟩), (hbw.setCell (Nat.le_refl _) _).setCell (Nat.le_refl _) _⟩
                    · have HA2 : Box ((L.take (k + 1)).all goodF = true) := ⟨goodF_on L k _ HN.out HA.out (HAL.out HQe.out.symm)⟩
                      have HS2 : Box (writeK m.data.toList ((L.take (k + 1)).map pb2) = S.data.toList ++ ([59, 32] ++ n.data.toList ++ [61] ++ valW v.data.toList)) := ⟨by rw [writeK_on _ L k _ HN.out, ← HS.out]; rfl⟩
                      have hf9 : Below (w.heap.size + 1) (w.alloc (.cells #[.int .i64 0, .int .i64 0] 55)) wr := hW.trans (hbi.mono (by omega))
                      have c0 : wr.cell? ⟨wo.heap.size, 0, none⟩ = some (.string n) := (hbi.cell (p := ⟨wo.heap.size, 0, none⟩) hPd).trans v0
                      clear HN HA HS HAL HQe
                      cases htv : tokS v.data.toList
                      · have HVw : Box (valW v.data.toList = 34 :: (V.data.toList ++ [34])) := ⟨by unfold valW; rw [htv, HVe.out]; rfl⟩
                        have Hv := Box.mk htv
                        clear htv HVe
                        go_wp2_with (go_at_call 115; refine (rToken_is v _ (by omega) _ Hv.out).mono ?_; rintro e w9 ⟨rfl, rfl⟩)
                        go_roundw
                        case rel => exact ⟨k + 1, _, by omega, by go_num, rfl, hf9, ⟨by rw [HS2.out, HVw.out]; simp⟩, HA2⟩
                        case measure => simp [intOf]; omega
                      · have HVw : Box (valW v.data.toList = v.data.toList) := ⟨by unfold valW; rw [htv]; rfl⟩
                        have Hv := Box.mk htv
                        clear htv HVe
                        go_wp2_with (go_at_call 115; refine (rToken_is v _ (by omega) _ Hv.out).mono ?_; rintro e w9 ⟨rfl, rfl⟩)
                        go_roundw
                        case rel => exact ⟨k + 1, _, by omega, by go_num, rfl, hf9, ⟨by rw [HS2.out, HVw.out]; simp⟩, HA2⟩
                        case measure => simp [intOf]; omega
              · have hnn : (nl.toList == n.toList) = false := str_ne (fun h => hsl (HNl.out.symm.trans h))
                have HNo : Box (goodF (n, v) = false) := ⟨goodF_no2 n v (decide_eq_false hsl)⟩
                clear hsl HNl hb4 p0 p1 s0 v0
                go_wp2
                go_loopw [9, 10, 45] (fun x y i wr => ∃ (j : Nat) (V : ByteArray), j ≤ v.size ∧ i = .int .i64 j ∧ x = .string V ∧ y = .bool false ∧ V.size ≤ 2 * j ∧ Box (V.data.toList = (v.data.toList.take j).flatMap escC) ∧ Below w4.heap.size w4 wr) (fun _ _ i _ => v.size - (intOf i).toNat)
                case atStart => exact ⟨0, ⟨#[]⟩, Nat.zero_le _, rfl, rfl, rfl, Nat.le_refl _, ⟨rfl⟩, Below.refl _ _⟩
                case round =>
                  obtain ⟨j, V, hj, rfl, rfl, rfl, hVs, HV, hbi⟩ := hrel
                  have hszi := hbi.size
                  have c1 : wr.cell? ⟨wo.heap.size, 1, none⟩ = some (.string v) := (hbi.cell (p := ⟨wo.heap.size, 1, none⟩) hPd).trans v1
                  by_cases hjl : j < v.size
                  · have hbyte : (v[j].toNat : Int) < 256 := by have := v[j].toNat_lt; omega
                    have hcv := one_str wr v[j] (v[j].toNat : Int) rfl
                    obtain ⟨cc, HCc⟩ : ∃ cc, Box (v[j] = cc) := ⟨_, ⟨rfl⟩⟩
                    have HV1 : Box ((v.data.toList.take (j + 1)).flatMap escC = V.data.toList ++ escC cc) := ⟨by rw [esc_on v j hjl, HV.out, HCc.out]⟩
                    clear HV
                    by_cases h34 : cc = 34
                    · have HE1 : Box (escC cc = [92, cc]) := ⟨by unfold escC; rw [if_pos (.inl h34)]⟩
                      have x1 : ((v[j].toNat : Int) == 34) = true := by rw [HCc.out, h34]; rfl
                      clear h34
                      go_wp2
                      go_roundw
                      case rel => exact ⟨j + 1, _, by omega, by go_num, rfl, rfl, by simp [ByteArray.size_append, ByteArray.size_mk']; omega, ⟨by rw [HV1.out, HE1.out]; simp [HCc.out]⟩, hbi.alloc hszi _⟩
                      case measure => simp [intOf]; omega
                    · have x1 : ((v[j].toNat : Int) == 34) = false := by
                        have e := u8eq v[j] 34
                        rw [HCc.out] at e ⊢
                        exact e.trans (by simpa using h34)
                      by_cases h92 : cc = 92
                      · have HE1 : Box (escC cc = [92, cc]) := ⟨by unfold escC; rw [if_pos (.inr h92)]⟩
                        have x2 : ((v[j].toNat : Int) == 92) = true := by rw [HCc.out, h92]; rfl
                        clear h34 h92
                        go_wp2
                        go_roundw
                        case rel => exact ⟨j + 1, _, by omega, by go_num, rfl, rfl, by simp [ByteArray.size_append, ByteArray.size_mk']; omega, ⟨by rw [HV1.out, HE1.out]; simp [HCc.out]⟩, hbi.alloc hszi _⟩
                        case measure => simp [intOf]; omega
                      · have HE1 : Box (escC cc = [cc]) := ⟨by unfold escC; rw [if_neg (fun h => h.elim h34 h92)]⟩
                        have x2 : ((v[j].toNat : Int) == 92) = false := by
                          have e := u8eq v[j] 92
                          rw [HCc.out] at e ⊢
                          exact e.trans (by simpa using h92)
                        clear h34 h92
                        go_wp2
                        go_roundw
                        case rel => exact ⟨j + 1, _, by omega, by go_num, rfl, rfl, by simp [ByteArray.size_append, ByteArray.size_mk']; omega, ⟨by rw [HV1.out, HE1.out]; simp [HCc.out]⟩, hbi.alloc hszi _⟩
                        case measure => simp [intOf]; omega
                  · have HE : Box (firstQ L = k) := ⟨firstQ_stop L k _ HN.out HA.out HNo.out⟩
                    clear HN HA HV HNo HS
                    have hf9 : Below (w.heap.size + 1) (w.alloc (.cells #[.int .i64 0, .int .i64 0] 55)) wr := hW.trans (hbi.mono (by omega))
                    have q0 : wr.cell? ⟨w.heap.size, 0, none⟩ = some (.int .i64 0) := (hf9.cell (p := ⟨w.heap.size, 0, none⟩) (by simp)).trans (by simp)
                    have q1 : wr.cell? ⟨w.heap.size, 1, none⟩ = some (.int .i64 0) := (hf9.cell (p := ⟨w.heap.size, 1, none⟩) (by simp)).trans (by simp)
                    have f0 : wr.frozen? ⟨w.heap.size, 0, none⟩ = false := (hf9.frozen (p := ⟨w.heap.size, 0, none⟩) (by simp)).trans (by simp)
                    have f1 : wr.frozen? ⟨w.heap.size, 1, none⟩ = false := (hf9.frozen (p := ⟨w.heap.size, 1, none⟩) (by simp)).trans (by simp)
                    have hbw : Below w.heap.size w wr := bA.trans (hf9.mono (by omega))
                    go_wp2
                    exact bodyPost_ret (v := .tuple #[.string ⟨#[]⟩, .agg #[.int .i64 1, .int .i64 k]]) (by simp [results, Tryz.results70, go_sem, q0, q1]) rfl ⟨.inr (.inl ⟨HG.out, by rw [HE.out]; exact hlt, by rw [HE.out]⟩), (hbw.setCell (Nat.le_refl _) _).setCell (Nat.le_refl _) _⟩
        · have HE : Box (L.all goodF = true) := ⟨by rw [← HA.out, List.take_of_length_le (by omega)]⟩
          have HS2 : Box (S.data.toList = writeK m.data.toList (L.map pb2)) := ⟨by rw [HS.out, List.take_of_length_le (by omega)]⟩
          clear HA HS HC HM
          go_wp2_with fail
          refine (fault_any 0 _).mono ?_
          rintro e w5 ⟨rfl, hb5⟩
          have hf5 := hbf.trans (hb5.mono hsz)
          have q0 : w5.cell? ⟨w.heap.size, 0, none⟩ = some (.int .i64 0) := (hf5.cell (p := ⟨w.heap.size, 0, none⟩) (by simp)).trans (by simp)
          have q1 : w5.cell? ⟨w.heap.size, 1, none⟩ = some (.int .i64 0) := (hf5.cell (p := ⟨w.heap.size, 1, none⟩) (by simp)).trans (by simp)
          have f0 : w5.frozen? ⟨w.heap.size, 0, none⟩ = false := (hf5.frozen (p := ⟨w.heap.size, 0, none⟩) (by simp)).trans (by simp)
          have f1 : w5.frozen? ⟨w.heap.size, 1, none⟩ = false := (hf5.frozen (p := ⟨w.heap.size, 1, none⟩) (by simp)).trans (by simp)
          have hbw : Below w.heap.size w w5 := bA.trans (hf5.mono (by omega))
          go_wp2
          exact bodyPost_ret (v := .tuple #[.string S, .agg #[.int .i64 0, .int .i64 (-1)]]) (by simp [results, Tryz.results70, go_sem, q0, q1]) rfl ⟨.inr (.inr ⟨HG.out, HE.out, S, rfl, HS2.out⟩), (hbw.setCell (Nat.le_refl _) _).setCell (Nat.le_refl _) _⟩
    · have HG : Box (goodM m.data.toList = false) := ⟨by unfold goodM; rw [decide_eq_false hsm, Bool.and_false]⟩
      have hne : (!(ml.toList == m.toList)) = true := by rw [str_ne (fun h => hsm (hml.symm.trans h))]; rfl
      clear him hsm hml
      go_wp2_with fail
      refine (fault_any 1 _).mono ?_
      rintro e w3 ⟨rfl, hb3⟩
      have hf3 := hf2.trans (hb3.mono (by have := hf2.size; simp at this; omega))
      have q0 : w3.cell? ⟨w.heap.size, 0, none⟩ = some (.int .i64 0) := (hf3.cell (p := ⟨w.heap.size, 0, none⟩) (by simp)).trans (by simp)
      have q1 : w3.cell? ⟨w.heap.size, 1, none⟩ = some (.int .i64 0) := (hf3.cell (p := ⟨w.heap.size, 1, none⟩) (by simp)).trans (by simp)
      have f0 : w3.frozen? ⟨w.heap.size, 0, none⟩ = false := (hf3.frozen (p := ⟨w.heap.size, 0, none⟩) (by simp)).trans (by simp)
      have f1 : w3.frozen? ⟨w.heap.size, 1, none⟩ = false := (hf3.frozen (p := ⟨w.heap.size, 1, none⟩) (by simp)).trans (by simp)
      have hbw : Below w.heap.size w w3 := bA.trans (hf3.mono (by omega))
      go_wp2
      exact bodyPost_ret (v := .tuple #[.string ⟨#[]⟩, .agg #[.int .i64 1, .int .i64 (-1)]]) (by simp [results, Tryz.results70, go_sem, q0, q1]) rfl ⟨.inl ⟨HG.out, rfl⟩, (hbw.setCell (Nat.le_refl _) _).setCell (Nat.le_refl _) _⟩

end Go.Proofs.YtnjjjkhhoaadfaaGreatDoor
