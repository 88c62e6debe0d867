import Derived.Test.YteglkbkdalaaiaaDoorK2
import Derived.Test.YteglkbkdalaaiaaDoorShelfK
import Derived.Test.YteglkbkdalaaiaaDoorPF
namespace Go.Proofs.YteglkbkdalaaiaaDoor
open Go.RowKit

theorem headed_spec : refRun (hl [65, 58, 32, 98, 13, 10, 32, 99, 13, 10, 13, 10, 114, 101, 115, 116]).1 0 [] = .ok [([65], [32, 98, 32, 99])] ∧ (hl [65, 58, 32, 98, 13, 10, 32, 99, 13, 10, 13, 10, 114, 101, 115, 116]).2 = [114, 101, 115, 116] := ⟨by kernel_rfl, by kernel_rfl⟩

set_option maxHeartbeats 1600000 in
set_option maxRecDepth 100000 in
theorem headed_any (w : World) (hm : Max w) : Calls Tryd.prog 27 #[] w fun e w' => e = .returned (.bool true) ∧ Below w.heap.size w w' := by
  have HMx := Box.mk hm
  clear hm
  go_enter Tryd.func27, Tryd.ntmps27
  go_wp2_with fail
  refine (read_any _ _ (by decide) HMx.out).mono ?_
  rintro e w1 ⟨h, hb⟩
  have key : ∃ v g cap, e = .returned (.tuple #[.slice (some ⟨g, 0, none⟩) 1 cap, .string ⟨#[114, 101, 115, 116]⟩, .nilIface]) ∧ 1 ≤ cap ∧ v = Value.nilIface ∧ w1.cell? ⟨g, 1, none⟩ = some (.string ⟨#[32, 98, 32, 99]⟩) := by
    rcases h with ⟨n, _, h1, _⟩ | ⟨v, r, L, rfl, h1, hown, _, hr⟩
    · have := headed_spec.1.symm.trans h1
      cases this
    · have h2 : L.map fl2 = [([65], [32, 98, 32, 99])] := Except.ok.inj (h1.symm.trans headed_spec.1)
      have hr2 : r.data.toList = [114, 101, 115, 116] := hr.trans headed_spec.2
      obtain rfl : r = ⟨#[114, 101, 115, 116]⟩ := bytes_eq hr2
      obtain ⟨f, rfl⟩ : ∃ f, L = [f] := by
        cases L with
        | nil => simp at h2
        | cons f L =>
          cases L with
          | nil => exact ⟨f, rfl⟩
          | cons _ _ => simp at h2
      have h3 : f.2.data.toList = [32, 98, 32, 99] := by
        have : fl2 f = ([65], [32, 98, 32, 99]) := by simpa using h2
        exact congrArg Prod.snd this
      have h4 : f.2 = ⟨#[32, 98, 32, 99]⟩ := bytes_eq h3
      rcases hown.shape with ⟨_, h⟩ | ⟨g, cap, rfl, _, _, hc⟩
      · cases h
      · refine ⟨_, g, cap, rfl, hc, rfl, ?_⟩
        have := (hown.cell 0 (by simp)).2.1
        rw [← h4]
        simpa using this
  obtain ⟨_, g, cap, rfl, hc1, _, hcell⟩ := key
  clear h
  go_wp2
  go_ret
  exact ⟨rfl, hb⟩

theorem fieldsB_short (L : List Fl) (h : ∀ f ∈ L, f.1.size + f.2.size ≤ 400) : (fieldsB L).length ≤ L.length * 1206 := by
  induction L with
  | nil => exact Nat.le_refl _
  | cons f L ih =>
    have h0 := h f List.mem_cons_self
    have h1 := fieldS_len f.1.data.toList f.2.data.toList
    rw [size_list, size_list] at h1
    have h2 := ih fun g hg => h g (List.mem_cons_of_mem _ hg)
    have : fieldsB (f :: L) = fieldS f.1.data.toList f.2.data.toList ++ fieldsB L := rfl
    rw [this, List.length_append, List.length_cons]
    omega
theorem mid_of {L : List Fl} (h : L.length ≤ 20 ∧ ∀ f ∈ L, f.1.size + f.2.size ≤ 400) : Mid L := ⟨by omega, fun f hf => by have := h.2 f hf; omega⟩
theorem firstW_right (L : List Fl) (h : firstW L = L.length) : L.all rightF = true := by
  induction L with
  | nil => rfl
  | cons f L ih =>
    unfold firstW at h
    rw [List.takeWhile_cons] at h
    cases hf : rightF f
    · rw [hf] at h; simp at h
    · rw [hf] at h
      have h' : (L.takeWhile rightF).length + 1 = L.length + 1 := h
      rw [List.all_cons, hf, ih (by unfold firstW; omega)]; rfl
theorem firstW_small (L : List Fl) (h : firstW L ≠ L.length) : firstW L < L.length := by
  have : firstW L ≤ L.length := by
    unfold firstW
    exact List.IsPrefix.length_le (List.takeWhile_prefix _)
  omega

theorem idx_any (x : ByteArray) (w : World) :
    Calls Tryd.prog 31 #[.string x, .string ⟨#[58]⟩] w fun e w' => ∃ k : Nat, e = .returned (.int .i64 ((k : Int) - 1)) ∧ k ≤ x.size ∧ w' = w := by
  refine (Tryd.strings_Index_one x 58 w).mono ?_
  rintro e w' ⟨rfl, rfl⟩
  rw [← index_one]
  have h1 := Lib.index_ge x.data.toList [58]
  by_cases h : 0 ≤ Lib.index x.data.toList [58]
  · have hr := Lib.index_room x.data.toList [58] h
    rw [size_list] at hr
    have h2 : ([58] : List UInt8).length = 1 := rfl
    exact ⟨(Lib.index x.data.toList [58] + 1).toNat, ret_int (by omega), by omega, rfl⟩
  · exact ⟨0, ret_int (by omega), by omega, rfl⟩
theorem tl_any (x : ByteArray) (w : World) :
    Calls Tryd.prog 30 #[.string x, .string ⟨#[32]⟩] w fun e w' => ∃ y : ByteArray, e = .returned (.string y) ∧ y.data.toList = x.data.toList.dropWhile (· == 32) ∧ w' = w := by
  refine (Tryd.strings_TrimLeft_one x 32 (by decide) w).mono ?_
  rintro e w' ⟨rfl, rfl⟩
  exact ⟨_, rfl, rfl, rfl⟩
theorem ct_any (y : ByteArray) (w : World) (q : Bool) (hq : decide (0 ≤ Lib.indexByte y.data.toList 32) = q) :
    Calls Tryd.prog 29 #[.string y, .string ⟨#[32]⟩] w fun e w' => e = .returned (.bool q) ∧ w' = w := by
  subst hq
  exact Tryd.strings_Contains_one y 32 w
theorem split_any (S : ByteArray) (ls : List (List UInt8)) (w : World) (hs : S.size ≤ 100000) (hm : Max w) (h : ∀ x ∈ ls, ∀ c ∈ x, c ≠ 13) (hS : S.data.toList = onLines ls ++ [13, 10]) :
    Calls Tryd.prog 28 #[.string S, .string ⟨#[13, 10]⟩] w fun e w' => ∃ (g : Nat) (xs : List ByteArray), e = .returned (.slice (some ⟨g, 0, none⟩) xs.length xs.length) ∧ xs.length ≤ 1000000 ∧ g < w'.heap.size ∧ (∀ k (hk : k < xs.length), w'.cell? ⟨g, k, none⟩ = some (.string xs[k])) ∧ (∀ x ∈ xs, x.data.toList ∈ ls ∨ x.data.toList = []) ∧ Below w.heap.size w w' := by
  obtain ⟨_, m, hm⟩ := hm
  refine (Tryd.strings_Split S ⟨#[13, 10]⟩ m w (by omega) hm (by decide)).mono ?_
  rintro e w' ⟨rfl, rfl⟩
  have hlen := Lib.splitB_all ⟨#[13, 10]⟩ (by decide) 0 _ S rfl
  have hcnt := Lib.countB_le ⟨#[13, 10]⟩ (by decide) _ S (Nat.le_refl _)
  refine ⟨_, Lib.splitB ⟨#[13, 10]⟩ 0 (Lib.countB S ⟨#[13, 10]⟩) S, by rw [hlen], by omega, by simp, ?_, split_lines ls h S hS, (Below.refl _ _).alloc (Nat.le_refl _) _⟩
  intro k hk
  simp

theorem line_len (ls : List (List UInt8)) (x : List UInt8) (h : x ∈ ls) : x.length ≤ (onLines ls).length := by
  induction ls with
  | nil => exact absurd h (by simp)
  | cons y ls ih =>
    have e : onLines (y :: ls) = y ++ [13, 10] ++ onLines ls := rfl
    rw [e, List.length_append, List.length_append]
    rcases List.mem_cons.1 h with rfl | h
    · omega
    · have := ih h; omega
theorem fine_cases (x : ByteArray) (h : Fine x.data.toList) (hl : ¬ x.size ≤ 76) : (∃ h0 : 0 < x.size, ((x[0].toNat : Int) == 32) = false) ∨ Single x.data.toList := by
  rcases h with h | h | h
  · rw [size_list] at h
    exact absurd h hl
  · left
    refine ⟨by omega, ?_⟩
    rw [beq_eq_false_iff_ne]
    intro e
    apply h (x.extract 1 x.size).data.toList
    rw [head_split x (by omega)]
    have : x[0] = 32 := by
      rw [← UInt8.toNat_inj]
      have : ((32 : UInt8).toNat) = 32 := rfl
      omega
    rw [this]
  · exact .inr h

set_option maxHeartbeats 6400000 in
set_option maxRecDepth 100000 in
theorem back_any (v : Value) (L : List Fl) (t : ByteArray) (w : World) (ht : t.size ≤ 1000000000000000) (hB : Big L) (hF : FL w v L) (hm : Max w) :
    Calls Tryd.prog 6 #[v, .string t] w fun e w' => e = .returned (.bool true) ∧ Below w.heap.size w w' := by
  have hw0 := hm.1
  have HMx := Box.mk hm
  have HF := Box.mk hF
  have hBl := hB.1
  have HB := Box.mk hB.2
  obtain ⟨A, cap, rfl, hcap, hcells⟩ := hF
  have HC := Box.mk hcells
  clear hB hm hcells
  by_cases h20 : L.length ≤ 20 ∧ t.size ≤ 500
  · obtain ⟨h20, h500⟩ := h20
    have z1 : ¬ (20 : Int) < (L.length : Int) := by omega
    have z2 : ¬ (500 : Int) < (t.size : Int) := by omega
    go_enter Tryd.func6, Tryd.ntmps6
    go_wp2
    go_loopw [5] (fun i wr => ∃ k : Nat, k ≤ L.length ∧ i = .int .i64 k ∧ Below w.heap.size w wr ∧ Box (∀ f ∈ L.take k, f.1.size + f.2.size ≤ 400)) (fun i _ => L.length - (intOf i).toNat)
    case atStart => exact ⟨0, Nat.zero_le _, rfl, Below.refl _ _, ⟨fun f hf => absurd hf (by simp)⟩⟩
    case round =>
      obtain ⟨k, hk, rfl, hb, HA⟩ := hrel
      by_cases hlt : k < L.length
      · obtain ⟨b, off, rfl, c0, c1⟩ := HC.out k hlt
        have hbl : b < w.heap.size := World.block_lt_of_cell? w _ c0
        have hs := HB.out L[k] (List.getElem_mem hlt)
        have d0 := (hb.cell (p := ⟨b, off + k * 2, none⟩) hbl).trans c0
        have d1 := (hb.cell (p := ⟨b, off + k * 2 + 1, none⟩) hbl).trans c1
        have HA' : Box (L[k].1.size + L[k].2.size ≤ 400 → ∀ f ∈ L.take (k + 1), f.1.size + f.2.size ≤ 400) := ⟨fun h f hf => by
          rw [take_snocF L k L[k] (List.getElem?_eq_getElem hlt)] at hf
          rcases List.mem_append.1 hf with h' | h'
          · exact HA.out f h'
          · obtain rfl := List.mem_singleton.1 h'
            exact h⟩
        clear c0 c1 HC HB HA HF
        obtain ⟨n, hn⟩ : ∃ n, n = L[k].1 := ⟨_, rfl⟩
        obtain ⟨v, hv⟩ : ∃ v, v = L[k].2 := ⟨_, rfl⟩
        rw [← hn] at hs d0 HA'
        rw [← hv] at hs d1 HA'
        clear hn hv
        by_cases h4 : n.size + v.size ≤ 400
        · have HA2 := Box.mk (HA'.out h4)
          have h4' : ¬ (400 : Int) < (n.size : Int) + (v.size : Int) := by omega
          clear HA'
          go_wp2
          go_region
          go_wp2
          go_roundw
          case rel => exact ⟨k + 1, by omega, by go_num, hb.drew, HA2⟩
          case measure => simp [intOf]; omega
        · have h4' : (400 : Int) < (n.size : Int) + (v.size : Int) := by omega
          clear HA'
          go_wp2
          go_region
          go_wp2
          go_ret
          exact ⟨rfl, hb.drew⟩
      · have HA2 := HA.out
        rw [List.take_of_length_le (by omega)] at HA2
        have HSh := Box.mk HA2
        have HM := Box.mk (mid_of ⟨h20, HA2⟩)
        clear HA HA2 HB
        obtain ⟨w0, hw0'⟩ : ∃ w0 : World, w0 = wr := ⟨_, rfl⟩
        subst hw0'
        go_wp2_with fail
        refine (headed_any _ (HMx.out.below hb hw0)).mono ?_
        rintro e w1 ⟨rfl, hb1⟩
        have g1 := hb.trans (hb1.mono hb.size)
        clear hb1 hb
        go_wp2_with fail
        by_cases hfw : firstW L = L.length
        · have HAll := Box.mk (firstW_right L hfw)
          refine (write_good _ L _ HM.out (HF.out.below g1 (Nat.le_refl _)) hfw).mono ?_
          rintro e w2 ⟨S, rfl, hS, hb2⟩
          have g2 := g1.trans (hb2.mono g1.size)
          have HS := Box.mk hS
          have hSs : S.size ≤ 30000 := by
            have h1 := fieldsB_short L HSh.out
            have h2 := congrArg List.length hS
            rw [size_list, List.length_append] at h2
            simp only [List.length_cons, List.length_nil] at h2
            have h3 : L.length * 1206 ≤ 20 * 1206 := Nat.mul_le_mul_right _ h20
            omega
          clear hb2 hS g1
          go_wp2_with fail
          refine (read_any _ _ (by rw [ByteArray.size_append]; omega) (HMx.out.below g2 hw0)).mono ?_
          rintro e w3 ⟨h, hb3⟩
          have hrb := read_back L HAll.out t.data.toList
          have hst : (S ++ t).data.toList = fieldsB L ++ [13, 10] ++ t.data.toList := by simp [HS.out]
          rw [hst] at h
          rcases h with ⟨n, _, h1, _⟩ | ⟨vm, r, M, rfl, h1, hOm, hTm, hr⟩
          · have := hrb.1.symm.trans h1
            cases this
          · obtain rfl : r = t := bytes_eq (hr.trans hrb.2)
            have hM := Except.ok.inj (h1.symm.trans hrb.1)
            have HCb := Box.mk (clean_back L M HAll.out hM)
            have g3 := g2.trans (hb3.mono g2.size)
            have HOm := Box.mk hOm
            have HTm := Box.mk hTm
            obtain ⟨Am, cm, rfl, _, _⟩ := hOm.fl
            clear h1 hr hM hrb hst hOm hTm hb3 g2
            go_wp2_with fail
            refine (right_any _ L _ HM.out.tiny (HF.out.below g3 (Nat.le_refl _))).mono ?_
            rw [decide_eq_true hfw]
            rintro e w4 ⟨rfl, hb4⟩
            have g4 := g3.trans (hb4.mono g3.size)
            clear g3
            go_wp2_with fail
            refine (hClean_any _ M _ HTm.out (HOm.out.fl.below hb4 (Nat.le_refl _))).mono ?_
            rintro e w5 ⟨h, hb5⟩
            have g5 := g4.trans (hb5.mono g4.size)
            rcases h with ⟨_, h, _⟩ | ⟨vc, N, _, rfl, hOc, hN, hTN⟩
            · rw [HCb.out.1] at h
              exact absurd h (Nat.lt_irrefl _)
            · obtain rfl : L = N := fl2_inj (HCb.out.2.symm.trans hN.symm)
              have HFc := Box.mk hOc.fl
              obtain ⟨Ac, cc, rfl, hcc, hcellc⟩ := hOc.fl
              have HCc := Box.mk hcellc
              clear hOc hN hTN HCb HOm HTm hb4 hb5 g4 hcellc
              go_wp2_with fail
              go_loopw [11] (fun i wr => ∃ k : Nat, k ≤ L.length ∧ i = .int .i64 k ∧ Below w5.heap.size w5 wr) (fun i _ => L.length - (intOf i).toNat)
              case atStart => exact ⟨0, Nat.zero_le _, rfl, Below.refl _ _⟩
              case round =>
                obtain ⟨k, hk, rfl, hb6⟩ := hrel
                have g6 := g5.trans (hb6.mono g5.size)
                by_cases hlt : k < L.length
                · obtain ⟨b, off, n, v, rfl, HN, hn, hv, hbl, d0, d1⟩ := HC.out.elem HM.out.tiny g6 k hlt
                  obtain ⟨b2, off2, n2, v2, rfl, HN2, _, _, hbl2, d2, d3⟩ := HCc.out.elem HM.out.tiny hb6 k hlt
                  have hnv : n = n2 ∧ v = v2 := by
                    have := HN.out.symm.trans HN2.out
                    simpa using this
                  obtain ⟨rfl, rfl⟩ := hnv
                  clear HC HCc HN HN2 HFc HF HS HAll HSh HM
                  go_wp2
                  go_region
                  go_wp2
                  go_roundw
                  case rel => exact ⟨k + 1, by omega, by go_num, hb6.drew⟩
                  case measure => simp [intOf]; omega
                · clear HC HCc HFc HF HSh HM
                  have hMx := HMx.out.below g6 hw0
                  have HMy := Box.mk hMx
                  clear hMx HMx
                  go_wp2_with fail
                  refine (split_any S (allLines L) _ (by omega) HMy.out (fun x hx => (all_plain L HAll.out x hx).2) (by rw [HS.out, fieldsB_lines])).mono ?_
                  rintro e w7 ⟨g, xs, rfl, hxn, hgs, hcx, hxs, hb7⟩
                  have HX := Box.mk hcx
                  have HFi : Box (∀ x ∈ xs, Fine x.data.toList ∧ x.size ≤ 30000) := ⟨fun x hx => by
                    rcases hxs x hx with h | h
                    · refine ⟨all_fine L HAll.out _ h, ?_⟩
                      have h1 := line_len _ _ h
                      have h2 := congrArg List.length HS.out
                      rw [size_list, List.length_append, fieldsB_lines] at h2
                      rw [size_list] at h1
                      omega
                    · refine ⟨by rw [h]; exact .inl (by simp), ?_⟩
                      rw [← size_list, h]; simp⟩
                  have g7 := g6.trans (hb7.mono g6.size)
                  clear hcx hxs HMy HAll HS hb7
                  go_wp2_with fail
                  go_loop [106] (fun i => ∃ k : Nat, k ≤ xs.length ∧ i = .int .i64 k) (fun i => xs.length - (intOf i).toNat)
                  case atStart => exact ⟨0, Nat.zero_le _, rfl⟩
                  case round =>
                    obtain ⟨k, hk, rfl⟩ := hrel
                    by_cases hlt : k < xs.length
                    · have hcell := HX.out k hlt
                      have hfi := HFi.out xs[k] (List.getElem_mem hlt)
                      generalize xs[k] = x at hcell hfi
                      obtain ⟨hfi, hx3⟩ := hfi
                      by_cases h76 : x.size ≤ 76
                      · have z : ¬ (76 : Int) < (x.size : Int) := by omega
                        clear hfi HX HFi
                        go_wp2
                        go_round
                        case rel => exact ⟨k + 1, by omega, by go_num⟩
                        case measure => simp [intOf]; omega
                      · have z : (76 : Int) < (x.size : Int) := by omega
                        have hcs := fine_cases x hfi h76
                        clear hfi HX HFi
                        go_wp2_with fail
                        refine (idx_any x _).mono ?_
                        rintro e w7 ⟨m, rfl, hm, rfl⟩
                        have hmi : (m : Int) ≤ (x.size : Int) := by omega
                        have hms : (m : Int) - 1 + 1 = (m : Int) := by omega
                        go_wp2_with fail
                        refine (tl_any _ _).mono ?_
                        rintro e w7 ⟨y, rfl, hy, rfl⟩
                        have HY : Box (y.data.toList = (x.data.toList.drop m).dropWhile (· == 32)) := ⟨by rw [hy, extract_list, List.take_of_length_le (by rw [List.length_drop, size_list]; exact Nat.le_refl _)]⟩
                        clear hy
                        go_wp2_with fail
                        rcases hcs with ⟨h0, hx0⟩ | hsg
                        · cases hq : decide (0 ≤ Lib.indexByte y.data.toList 32)
                          · refine (ct_any y _ _ hq).mono ?_
                            rintro e w7 ⟨rfl, rfl⟩
                            clear HY hq
                            go_wp2
                            go_round
                            case rel => exact ⟨k + 1, by omega, by go_num⟩
                            case measure => simp [intOf]; omega
                          · refine (ct_any y _ _ hq).mono ?_
                            rintro e w7 ⟨rfl, rfl⟩
                            clear HY hq
                            go_wp2
                            go_round
                            case rel => exact ⟨k + 1, by omega, by go_num⟩
                            case measure => simp [intOf]; omega
                        · have hq : decide (0 ≤ Lib.indexByte y.data.toList 32) = false := by
                            rw [HY.out, indexByte_none _ _ (single_drop _ hsg m)]; rfl
                          refine (ct_any y _ _ hq).mono ?_
                          rintro e w7 ⟨rfl, rfl⟩
                          clear HY hq hsg
                          go_wp2
                          go_round
                          case rel => exact ⟨k + 1, by omega, by go_num⟩
                          case measure => simp [intOf]; omega
                    · clear HX HFi
                      go_wp2
                      go_ret
                      exact ⟨rfl, g7⟩
        · have hfw' := firstW_small L hfw
          refine (write_bad _ L _ HM.out (HF.out.below g1 (Nat.le_refl _)) hfw').mono ?_
          rintro e w2 ⟨E, rfl, ⟨b, rfl, _, _⟩, hb2⟩
          have g2 := g1.trans (hb2.mono g1.size)
          clear hb2 g1
          go_wp2_with fail
          refine (right_any _ L _ HM.out.tiny (HF.out.below g2 (Nat.le_refl _))).mono ?_
          rw [decide_eq_false hfw]
          rintro e w3 ⟨rfl, hb3⟩
          go_wp2
          go_ret
          exact ⟨rfl, g2.trans (hb3.mono g2.size)⟩
  · have hz : (20 : Int) < (L.length : Int) ∨ (¬ (20 : Int) < (L.length : Int) ∧ (500 : Int) < (t.size : Int)) := by omega
    clear h20
    rcases hz with z1 | ⟨z1, z2⟩
    all_goals
      go_enter Tryd.func6, Tryd.ntmps6
      go_wp2
      go_ret
      exact ⟨rfl, Below.refl _ _⟩

end Go.Proofs.YteglkbkdalaaiaaDoor
