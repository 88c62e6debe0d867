import Derived.Test.YtpdfghmfhljfiaaDoorA9
import Derived.Deep.DeepCutAuto
namespace Go.Proofs.YtpdfghmfhljfiaaDoor
open Go.RowKit

def RRPost (l : List UInt8) (n : Nat) (e : Ending) : Prop := (readA l = none ∧ e = .returned (.tuple #[avZero.val, .int .i64 3])) ∨ ∃ v : AV, readA l = some v.ab ∧ v.Small n ∧ e = .returned (.tuple #[v.val, .int .i64 0])

theorem set_heap0 {w : World} {b : Nat} {v0 v1 v2 v3 v4 v5 v6 v7 : Value} (h : w.heap[b]? = some (.cells #[v0, v1, v2, v3, v4, v5, v6, v7] 73 (0, 0))) (u : Value) : (w.setCell ⟨b, 0, none⟩ u).heap[b]? = some (.cells #[u, v1, v2, v3, v4, v5, v6, v7] 73 (0, 0)) := by
  rw [setCell_eq_setRow w b 0 _ _ _ _ h]
  exact setRow_heap w b _ _ _ _ h
theorem low_one (s : ByteArray) (k : Nat) (h : k < s.size) (w : World) : Calls Tryd.prog 82 #[.string (s.extract k (k + 1))] w fun e w' => ∃ (t : ByteArray) (ht : 0 < t.size), e = .returned (.string t) ∧ t[0] = smallC s[k] ∧ Below w.heap.size w w' := by
  rw [one_byte s k h]
  refine (low_is ⟨#[s[k]]⟩ w (by show 1 ≤ 1000000; omega)).mono ?_
  rintro e w' ⟨rfl, hb⟩
  exact ⟨_, by show 0 < 1; omega, rfl, rfl, hb⟩
theorem dig_int (c : UInt8) : digC c = (decide ((48 : Int) ≤ (c.toNat : Int)) && decide ((c.toNat : Int) ≤ 57)) := by
  rw [Bool.eq_iff_iff]
  simp only [digC, Bool.and_eq_true, decide_eq_true_eq]
  omega
theorem plus_int (c : UInt8) : plusC c = (((c.toNat : Int) == 43) || ((c.toNat : Int) == 45) || ((c.toNat : Int) == 46)) := by
  have e1 := u8eq c 43
  have e2 := u8eq c 45
  have e3 := u8eq c 46
  unfold plusC
  rw [← e1, ← e2, ← e3]; rfl
theorem let_int (c c' : UInt8) (h : c' = smallC c) : letC c = (decide ((97 : Int) ≤ (c'.toNat : Int)) && decide ((c'.toNat : Int) ≤ 122)) := by
  rw [Bool.eq_iff_iff, h]
  simp only [letC, Bool.and_eq_true, decide_eq_true_eq]
  omega
theorem pos_int (k : Nat) : decide (0 < k) = decide ((0 : Int) < (k : Int)) := by
  rw [Bool.eq_iff_iff]
  simp only [decide_eq_true_eq]
  omega
theorem cut_found (x y : List UInt8) (d : UInt8) (s : ByteArray) (h : s.data.toList = x ++ d :: y) (hx : ∀ c ∈ x, c ≠ d) : x.length < s.size ∧ Lib.cut s.data.toList [d] = ((s.extract 0 x.length).data.toList, (s.extract (x.length + 1) s.size).data.toList, true) := by
  have hsz : s.size = x.length + (y.length + 1) := by rw [← size_list, h]; simp
  refine ⟨by omega, ?_⟩
  rw [h, index_first1 x y d hx, extract_list, extract_list, h]
  congr 1
  · simp
  · congr 1
    have : x ++ d :: y = (x ++ [d]) ++ y := by simp
    rw [this, List.drop_left' (by simp), List.take_of_length_le (by omega)]
theorem cut_lost (d : UInt8) (s : ByteArray) (hx : ∀ c ∈ s.data.toList, c ≠ d) : Lib.cut s.data.toList [d] = (s.data.toList, (⟨#[]⟩ : ByteArray).data.toList, false) := cut_none1 _ _ hx
theorem idx_slash : ∀ l : List UInt8, Lib.indexByte (l ++ [47]) 47 = ((l.takeWhile (· != 47)).length : Int)
  | [] => rfl
  | b :: l => by
    rw [List.cons_append, Lib.indexByte, List.takeWhile_cons]
    by_cases hb : b = 47
    · subst hb; rfl
    · have h1 : (b == 47) = false := by simpa using hb
      have h2 : (b != 47) = true := by simpa using hb
      have ih := idx_slash l
      have h3 : (((l.takeWhile (· != 47)).length : Int) == -1) = false := by rw [beq_eq_false_iff_ne]; omega
      rw [h1, h2, ih, h3]
      simp
theorem auth_split (s : ByteArray) : ∃ n, n ≤ s.size ∧ Lib.indexByte (s.data.toList ++ [47]) 47 = (n : Int) ∧ (s.extract 0 n).data.toList = s.data.toList.takeWhile (· != 47) ∧ (s.extract n s.size).data.toList = s.data.toList.dropWhile (· != 47) := by
  have hl := size_list s
  have e := List.takeWhile_append_dropWhile (p := (· != 47)) (l := s.data.toList)
  have hlen := congrArg List.length e
  rw [List.length_append] at hlen
  refine ⟨(s.data.toList.takeWhile (· != 47)).length, by omega, idx_slash _, ?_, ?_⟩
  · have h := List.take_left (l₁ := s.data.toList.takeWhile (· != 47)) (l₂ := s.data.toList.dropWhile (· != 47))
    rw [e] at h
    rw [extract_list, Nat.sub_zero, List.drop_zero]
    exact h
  · have h := List.drop_left (l₁ := s.data.toList.takeWhile (· != 47)) (l₂ := s.data.toList.dropWhile (· != 47))
    rw [e] at h
    rw [extract_list, List.take_of_length_le (by rw [List.length_drop]; omega)]
    exact h
/-- The parts of a text that may stand, once its scheme is known. -/
theorem readA_parts2 {s s1 fr s2 qu s3 : ByteArray} {hF hQ : Bool} (h0 : s.data.toList.all in33 = true) (h1 : Lib.cut s.data.toList [35] = (s1.data.toList, fr.data.toList, hF)) (h2 : Lib.cut s1.data.toList [63] = (s2.data.toList, qu.data.toList, hQ))
    (S : ByteArray) (hs : schOf s2.data.toList = (S.data.toList, s3.data.toList)) (q : Bool) (au pa : ByteArray) (ha : authOf s3.data.toList = (q, au.data.toList, pa.data.toList)) : readA s.data.toList = some (AV.ab ⟨S, q, au, pa, hQ, qu, hF, fr⟩) := by
  unfold readA
  rw [if_pos h0]
  simp only [h1, h2, hs, ha, AV.ab]
theorem wrap1 (n : Nat) (h : n ≤ 1000000) : IntKind.i64.wrap ((n : Int) + 1) = ((n + 1 : Nat) : Int) := by rw [IntKind.wrap_i64]; omega

/-- The scheme's loop: whether all was well so far. -/
def SchR (W : World) (n : Nat) (x : List UInt8) (o i : Value) (wr : World) : Prop := ∃ (k : Nat) (q : Bool), k ≤ n ∧ i = .int .i64 k ∧ o = .bool q ∧ Below W.heap.size W wr ∧ Box (q = (decide (0 < n) && schTo x k))

set_option maxHeartbeats 4000000 in
set_option maxRecDepth 100000 in
theorem rread_any (s : ByteArray) (w : World) (hs : s.size ≤ 1000000) :
    Calls Tryd.prog 47 #[.string s] w fun e w' => RRPost s.data.toList s.size e ∧ Below w.heap.size w w' := by
  go_enter Tryd.func47, Tryd.ntmps47
  go_wp2
  go_loop [16] (fun i => ∃ k : Nat, k ≤ s.size ∧ i = .int .i64 k ∧ Box ((s.data.toList.take k).all in33 = true)) (fun i => s.size - (intOf i).toNat)
  case atStart => exact ⟨0, Nat.zero_le _, rfl, ⟨rfl⟩⟩
  case round =>
    obtain ⟨k, hk, rfl, HA⟩ := hrel
    by_cases hlt : k < s.size
    · have hbyte : (s[k].toNat : Int) < 256 := by have := s[k].toNat_lt; omega
      cases hc : in33 s[k]
      · have HE : Box (readA s.data.toList = none) := ⟨by unfold readA; rw [all_stop s k hlt hc]; rfl⟩
        have hx := in33_no _ hc
        clear hc HA
        go_wp2_with fail
        refine (in_no _ _ _ _ (fun h => by omega)).mono ?_
        rintro e w1 ⟨rfl, rfl⟩
        have hfz := two_frozen w
        have hcl := two_cell w
        go_wp2
        exact bodyPost_ret (v := .tuple #[avZero.val, .int .i64 3]) (by simp [results, Tryd.results47, go_sem]) rfl ⟨.inl ⟨HE.out, rfl⟩, below_two w _ _⟩
      · have HA' : Box ((s.data.toList.take (k + 1)).all in33 = true) := ⟨all_on s k hlt HA.out hc⟩
        obtain ⟨x1, x2⟩ := in33_yes _ hc
        clear hc HA
        go_wp2_with fail
        refine (in_yes _ _ _ _ (by omega) (by omega)).mono ?_
        rintro e w1 ⟨rfl, rfl⟩
        go_wp2
        go_round
        case rel => exact ⟨k + 1, by omega, by go_num, HA'⟩
        case measure => simp [intOf]; omega
    · have H0 : Box (s.data.toList.all in33 = true) := ⟨by rw [← take_all s k hlt]; exact HA.out⟩
      clear HA
      obtain ⟨z, hz⟩ : ∃ z, Lib.indexByte s.data.toList 35 = z := ⟨_, rfl⟩
      go_upto_if 30 with (go_at_call 36; refine (Tryd.strings_Index_one s 35 _).mono ?_; rintro e w' ⟨rfl, rfl⟩; rw [hz])
      go_cut [0] from 5 (fun v wx => ∃ (s1 fr : ByteArray) (hF : Bool) (N : Nat), v = .string s1 ∧ s1.size ≤ s.size ∧ fr.size ≤ s.size ∧ Box (Lib.cut s.data.toList [35] = (s1.data.toList, fr.data.toList, hF)) ∧ wx = ((w.drewN N).alloc avObj).alloc (obj8 ⟨#[]⟩ false ⟨#[]⟩ ⟨#[]⟩ false ⟨#[]⟩ hF fr))
      case first =>
        rcases find_byte s.data.toList 35 with ⟨h1, h2⟩ | ⟨x, y, h1, h2, h3⟩
        · obtain rfl : z = -1 := hz.symm.trans h1
          have HC := Box.mk (cut_lost 35 s h2)
          clear h1 h2 hz
          go_wp2
          go_meet
          exact ⟨s, ⟨#[]⟩, false, 0, rfl, Nat.le_refl _, Nat.zero_le _, HC, rfl⟩
        · obtain ⟨hn, hc⟩ := cut_found x y 35 s h1 h2
          obtain ⟨n, hnx⟩ : ∃ n, n = x.length := ⟨_, rfl⟩
          rw [← hnx] at hn hc h3
          obtain rfl : z = (n : Int) := hz.symm.trans h3
          have HC := Box.mk hc
          have hwr := wrap1 n (by omega)
          clear h1 h2 h3 hc hnx hz
          go_wp2
          go_region
          go_wp2
          go_meet
          exact ⟨s.extract 0 n, s.extract (n + 1) s.size, true, 1, rfl, by simp; omega, by simp, HC, rfl⟩
      case rest =>
        obtain ⟨s1, fr, hF, N, rfl, z1, z2, H1, rfl⟩ := hcut
        clear hz
        obtain ⟨z, hz⟩ : ∃ z, Lib.indexByte s1.data.toList 63 = z := ⟨_, rfl⟩
        go_upto_if 43 with (go_at_call 36; refine (Tryd.strings_Index_one s1 63 _).mono ?_; rintro e w' ⟨rfl, rfl⟩; rw [hz])
        go_cut [0] from 5 (fun v wx => ∃ (s2 qu : ByteArray) (hQ : Bool) (N : Nat), v = .string s2 ∧ s2.size ≤ s1.size ∧ qu.size ≤ s1.size ∧ Box (Lib.cut s1.data.toList [63] = (s2.data.toList, qu.data.toList, hQ)) ∧ wx = ((w.drewN N).alloc avObj).alloc (obj8 ⟨#[]⟩ false ⟨#[]⟩ ⟨#[]⟩ hQ qu hF fr))
        case first =>
          rcases find_byte s1.data.toList 63 with ⟨h1, h2⟩ | ⟨x, y, h1, h2, h3⟩
          · obtain rfl : z = -1 := hz.symm.trans h1
            have HC := Box.mk (cut_lost 63 s1 h2)
            clear h1 h2 hz
            go_wp2
            go_meet
            exact ⟨s1, ⟨#[]⟩, false, N, rfl, Nat.le_refl _, Nat.zero_le _, HC, rfl⟩
          · obtain ⟨hn, hc⟩ := cut_found x y 63 s1 h1 h2
            obtain ⟨n, hnx⟩ : ∃ n, n = x.length := ⟨_, rfl⟩
            rw [← hnx] at hn hc h3
            obtain rfl : z = (n : Int) := hz.symm.trans h3
            have HC := Box.mk hc
            have hwr := wrap1 n (by omega)
            clear h1 h2 h3 hc hnx hz
            go_wp2
            go_region
            go_wp2
            go_meet
            exact ⟨s1.extract 0 n, s1.extract (n + 1) s1.size, true, N + 1, rfl, by simp; omega, by simp, HC, rfl⟩
        case rest =>
          obtain ⟨s2, qu, hQ, N, rfl, z3, z4, H2, rfl⟩ := hcut
          clear hz
          obtain ⟨z, hz⟩ : ∃ z, Lib.indexByte s2.data.toList 58 = z := ⟨_, rfl⟩
          go_upto_if 56 with (go_at_call 36; refine (Tryd.strings_Index_one s2 58 _).mono ?_; rintro e w' ⟨rfl, rfl⟩; rw [hz])
          go_cut [0] from 5 (fun v wx => ∃ (s3 S : ByteArray), v = .string s3 ∧ s3.size ≤ s2.size ∧ S.size ≤ s2.size ∧ Box (schOf s2.data.toList = (S.data.toList, s3.data.toList)) ∧ Box (wx.heap[w.heap.size]? = some avObj) ∧ Box (wx.heap[w.heap.size + 1]? = some (obj8 S false ⟨#[]⟩ ⟨#[]⟩ hQ qu hF fr)) ∧ Below w.heap.size w wx)
          case first =>
            have HW0 := Box.mk (heap_two (w.drewN N) avObj (obj8 ⟨#[]⟩ false ⟨#[]⟩ ⟨#[]⟩ hQ qu hF fr))
            have bW := below_two (w.drewN N) avObj (obj8 ⟨#[]⟩ false ⟨#[]⟩ ⟨#[]⟩ hQ qu hF fr)
            have bw : Below w.heap.size w (((w.drewN N).alloc avObj).alloc (obj8 ⟨#[]⟩ false ⟨#[]⟩ ⟨#[]⟩ hQ qu hF fr)) := (below_dN (Below.refl w.heap.size w) N).trans bW
            clear bW
            rcases find_byte s2.data.toList 58 with ⟨h1, h2⟩ | ⟨x, y, h1, h2, h3⟩
            · obtain rfl : z = -1 := hz.symm.trans h1
              have HC : Box (schOf s2.data.toList = ((⟨#[]⟩ : ByteArray).data.toList, s2.data.toList)) := ⟨by unfold schOf; rw [cut_none1 _ _ h2]; rfl⟩
              clear h1 h2 hz
              go_wp2
              go_meet
              exact ⟨s2, ⟨#[]⟩, rfl, Nat.le_refl _, Nat.zero_le _, HC, ⟨HW0.out.1⟩, ⟨HW0.out.2⟩, bw⟩
            · obtain ⟨hn, hc⟩ := cut_found x y 58 s2 h1 h2
              obtain ⟨n, hnx⟩ : ∃ n, n = x.length := ⟨_, rfl⟩
              have HX : Box (∀ k (hk : k < s2.size), k < n → x.getD k 0 = s2[k]) := ⟨fun k hk hkn => by
                have h5 := getL s2 k hk
                rw [h1, List.getElem?_append_left (by omega)] at h5
                rw [List.getD_eq_getElem?_getD, h5]; rfl⟩
              have HSch : Box (schOf s2.data.toList = if (decide (0 < n) && schTo x n) then ((s2.extract 0 n).data.toList, (s2.extract (n + 1) s2.size).data.toList) else ([], s2.data.toList)) := ⟨by
                have hx2 : (s2.extract 0 x.length).data.toList = x := by rw [extract_list, h1]; simp
                have e : (decide (0 < n) && schTo x n) = schS x := by
                  rw [hnx]
                  cases x with
                  | nil => rfl
                  | cons c r => rw [schTo_all _ (by simp)]; simp
                unfold schOf
                rw [hc, e, hnx, hx2]
                rfl⟩
              rw [← hnx] at hn h3
              obtain rfl : z = (n : Int) := hz.symm.trans h3
              have hwr := wrap1 n (by omega)
              clear h1 h2 h3 hc hnx hz
              go_wp2
              go_loopw [9, 60] (fun o i wr => SchR (((w.drewN N).alloc avObj).alloc (obj8 ⟨#[]⟩ false ⟨#[]⟩ ⟨#[]⟩ hQ qu hF fr)) n x o i wr) (fun _ i _ => n - (intOf i).toNat)
              case atStart => exact ⟨0, _, Nat.zero_le _, rfl, rfl, Below.refl _ _, ⟨by simp [schTo]⟩⟩
              case round =>
                obtain ⟨k, q, hk, rfl, rfl, hb, HQ⟩ := hrel
                by_cases hlt : k < n
                · have hk2 : k < s2.size := by omega
                  have hn0 : decide (0 < n) = true := decide_eq_true (by omega)
                  have HSt : Box (∀ c', c' = smallC s2[k] → (decide (0 < n) && schTo x (k + 1)) = (q && ((decide ((97 : Int) ≤ (c'.toNat : Int)) && decide ((c'.toNat : Int) ≤ 122)) || (decide ((0 : Int) < (k : Int)) && ((decide ((48 : Int) ≤ (c'.toNat : Int)) && decide ((c'.toNat : Int) ≤ 57)) || (((c'.toNat : Int) == 43) || ((c'.toNat : Int) == 45) || ((c'.toNat : Int) == 46))))))) := ⟨fun c' hc' => by
                    rw [HQ.out, hn0, Bool.true_and, Bool.true_and, schTo, HX.out k hk2 hlt, let_int _ c' hc', ← hc', dig_int, plus_int, pos_int]⟩
                  clear HQ HX HSch hn0
                  go_wp2_with fail
                  refine (low_one s2 k hk2 _).mono ?_
                  rintro e w3 ⟨t, ht, rfl, htc, hb3⟩
                  have HS2 := Box.mk (HSt.out t[0] htc)
                  have hti : (0 : Int) < (t.size : Int) := by omega
                  have hbyte : (t[0].toNat : Int) < 256 := by have := t[0].toNat_lt; omega
                  have b3 := hb.trans (hb3.mono hb.size)
                  obtain ⟨F, HF⟩ : ∃ F : Bool, Box (F = (decide (0 < n) && schTo x (k + 1))) := ⟨_, ⟨rfl⟩⟩
                  rw [← HF.out] at HS2
                  clear HSt htc hb hb3
                  cases q
                  all_goals go_wp2
                  all_goals
                    go_roundw
                    case rel =>
                      first | (refine ⟨_, _, _, _, _, ?_, rfl, rfl, rfl, rfl, rfl⟩) | ((repeat apply Exists.intro); refine ⟨?_, rfl⟩) | skip
                      refine ⟨k + 1, _, by omega, by go_num, rfl, b3, ⟨?_⟩⟩
                      rw [← HF.out, HS2.out, Bool.eq_iff_iff]
                      simp only [Bool.and_eq_true, Bool.or_eq_true, decide_eq_true_eq, beq_iff_eq, Bool.true_and, Bool.false_and, Bool.false_eq_true, true_iff, false_iff, iff_self]
                      try omega
                    case measure => simp [intOf]; omega
                · have hkn : k = n := by omega
                  rw [hkn] at HQ
                  clear HX
                  cases q
                  · have HC : Box (schOf s2.data.toList = ((⟨#[]⟩ : ByteArray).data.toList, s2.data.toList)) := ⟨by rw [HSch.out, ← HQ.out]; rfl⟩
                    have hA1 : Box (wr.heap[w.heap.size]? = some avObj) := ⟨(hb.block w.heap.size (by simp; omega)).trans HW0.out.1⟩
                    have hA2 : Box (wr.heap[w.heap.size + 1]? = some (obj8 ⟨#[]⟩ false ⟨#[]⟩ ⟨#[]⟩ hQ qu hF fr)) := ⟨(hb.block (w.heap.size + 1) (by simp)).trans HW0.out.2⟩
                    have bb := bw.trans (hb.mono (by simp; omega))
                    clear HSch HQ hkn HW0
                    go_wp2
                    go_meet
                    exact ⟨s2, ⟨#[]⟩, rfl, Nat.le_refl _, Nat.zero_le _, HC, hA1, hA2, bb⟩
                  · have HC : Box (schOf s2.data.toList = ((s2.extract 0 n).data.toList, (s2.extract (n + 1) s2.size).data.toList)) := ⟨by rw [HSch.out, ← HQ.out]; rfl⟩
                    have hA1 : Box (wr.heap[w.heap.size]? = some avObj) := ⟨(hb.block w.heap.size (by simp; omega)).trans HW0.out.1⟩
                    have hA2 : Box (wr.heap[w.heap.size + 1]? = some (obj8 ⟨#[]⟩ false ⟨#[]⟩ ⟨#[]⟩ hQ qu hF fr)) := ⟨(hb.block (w.heap.size + 1) (by simp)).trans HW0.out.2⟩
                    have bb := bw.trans (hb.mono (by simp; omega))
                    obtain ⟨x0, x1, x2, x3, x4, x5, x6, x7, xf⟩ := blk_of hA2.out
                    clear HSch HQ hkn HW0 hb
                    go_wp2
                    go_region
                    go_wp2
                    go_meet
                    exact ⟨s2.extract (n + 1) s2.size, s2.extract 0 n, rfl, by simp, by simp; omega, HC, ⟨(Below.heap_setCell _ _ _ _ (by simp)).trans hA1.out⟩, ⟨set_heap0 hA2.out _⟩, (bb.setCell (by simp) _).drew⟩
          case rest =>
            obtain ⟨s3, S, rfl, z5, z6, H3, K1, K2, bw⟩ := hcut
            clear hz
            obtain ⟨x0, x1, x2, x3, x4, x5, x6, x7, xf⟩ := blk_of K2.out
            obtain ⟨y0, y1, y2, y3, y4, y5, y6, y7, yf⟩ := blk_of K1.out
            clear K1 K2
            go_wp2_with fail
            refine (Tryd.strings_HasPrefix s3 ⟨#[47, 47]⟩ _).mono ?_
            rintro e w1 ⟨rfl, h⟩
            obtain rfl := h.symm
            rw [show (⟨#[47, 47]⟩ : ByteArray).data.toList = [47, 47] from rfl, two_slash]
            cases h5 : decide (s3.data.toList.take 2 = [47, 47])
            · have HE : Box (readA s.data.toList = some (AV.ab ⟨S, false, ⟨#[]⟩, s3, hQ, qu, hF, fr⟩)) := ⟨readA_parts2 H0.out H1.out H2.out S H3.out false ⟨#[]⟩ s3 (by unfold authOf; rw [if_neg (of_decide_eq_false h5)])⟩
              have HZ : Box (AV.Small ⟨S, false, ⟨#[]⟩, s3, hQ, qu, hF, fr⟩ s.size) := ⟨av_small (by omega) (Nat.zero_le _) (by omega) (by omega) (by omega)⟩
              clear h5 H0 H1 H2 H3
              go_wp2
              refine bodyPost_ret (v := .tuple #[agg8 S false ⟨#[]⟩ s3 hQ qu hF fr, .int .i64 0]) (by simp [results, Tryd.results47, go_sem, y0, y1, y2, y3, y4, y5, y6, y7]) rfl ⟨.inr ⟨_, HE.out, HZ.out, rfl⟩, ?_⟩
              iterate 9 (refine Below.setCell ?_ (by simp) _)
              exact bw
            · have h6 : s3.data.toList.take 2 = [47, 47] := of_decide_eq_true h5
              have hs3 : 2 ≤ s3.size := by
                have := congrArg List.length h6
                rw [List.length_take, size_list] at this
                simp at this
                omega
              obtain ⟨s4, HS4, hs4⟩ : ∃ s4, Box (s3.extract 2 s3.size = s4) ∧ s4.size ≤ s3.size := ⟨_, ⟨rfl⟩, by simp⟩
              have HL4 : Box (s4.data.toList = s3.data.toList.drop 2) := ⟨by rw [← HS4.out, extract_list, List.take_of_length_le (by rw [List.length_drop, size_list]; exact Nat.le_refl _)]⟩
              obtain ⟨n, hn, hix, ht1, ht2⟩ := auth_split s4
              have HIx := Box.mk hix
              have HE : Box (readA s.data.toList = some (AV.ab ⟨S, true, s4.extract 0 n, s4.extract n s4.size, hQ, qu, hF, fr⟩)) := ⟨readA_parts2 H0.out H1.out H2.out S H3.out true _ _ (by unfold authOf; rw [if_pos h6, ht1, ht2, HL4.out])⟩
              have HZ : Box (AV.Small ⟨S, true, s4.extract 0 n, s4.extract n s4.size, hQ, qu, hF, fr⟩ s.size) := ⟨av_small (by omega) (by simp; omega) (by simp; omega) (by omega) (by omega)⟩
              have hsum : ¬ 9223372036854775807 < s4.size + 1 := by omega
              have hex := HS4.out
              clear h5 h6 H0 H1 H2 H3 HL4 hix ht1 ht2
              go_wp2_with fail
              refine (Tryd.strings_Index_one _ 47 _).mono ?_
              rintro e w1 ⟨rfl, h⟩
              obtain rfl := h.symm
              rw [show ∀ t : ByteArray, (t ++ ⟨#[47]⟩).data.toList = t.data.toList ++ [47] from fun t => by simp]
              rw [HIx.out]
              go_wp2
              go_region
              go_wp2
              refine bodyPost_ret (v := .tuple #[agg8 S true (s4.extract 0 n) (s4.extract n s4.size) hQ qu hF fr, .int .i64 0]) (by simp [results, Tryd.results47, go_sem, y0, y1, y2, y3, y4, y5, y6, y7]) rfl ⟨.inr ⟨_, HE.out, HZ.out, rfl⟩, ?_⟩
              refine Below.drew ?_
              iterate 11 (refine Below.setCell ?_ (by simp) _)
              exact bw

end Go.Proofs.YtpdfghmfhljfiaaDoor
