import Derived.Test.YteglkbkdalaaiaaDoorH14
import Derived.Test.YteglkbkdalaaiaaDoorE6
namespace Go.Proofs.YteglkbkdalaaiaaDoor
open Go.RowKit

/-- The two readers' answers, held against each other. -/
theorem read_pair (s : ByteArray) (w : World) (hs : s.size ≤ 100000) (hm : Max w) : ∃ n p : Int, Calls Tryd.prog 14 #[.string s] w (fun e w' => ∃ (vl : Value) (r : ByteArray) (L : List Fl), e = .returned (.tuple #[vl, .string r, .agg #[.int .i64 n, .int .i64 p]]) ∧ Below w.heap.size w w' ∧ FL w' vl L ∧ Tiny L ∧
    ∀ w3, Max w3 → Calls Tryd.prog 15 #[.string s] w3 fun e w4 => ∃ (vm E : Value), e = .returned (.tuple #[vm, .string r, E]) ∧ Below w3.heap.size w3 w4 ∧ FL w4 vm L ∧
      ∀ w5, Below w4.heap.size w4 w5 → ErrT w5 → Calls Tryd.prog 16 #[E, .agg #[.int .i64 n, .int .i64 p]] w5 fun e w6 => e = .returned (.bool true) ∧ Below w5.heap.size w5 w6) := by
  cases hR : refRun (hl s.data.toList).1 0 [] with
  | error k =>
    refine ⟨3, k, (readHead_any s w hs hm).mono ?_⟩
    rintro e w' ⟨h, hb⟩
    rcases h with ⟨k', h1, rfl⟩ | ⟨_, _, _, _, h1, _⟩
    · obtain rfl : k = k' := by rw [hR] at h1; exact Except.error.inj h1
      refine ⟨_, _, [], rfl, hb, FL.nil _, ⟨by simp, fun f hf => absurd hf (by simp)⟩, fun w3 hm3 => (read_any s w3 hs hm3).mono ?_⟩
      rintro e w4 ⟨h, hb4⟩
      rcases h with ⟨k2, E, h2, rfl, hE⟩ | ⟨_, _, _, _, h2, _⟩
      · obtain rfl : k = k2 := by rw [hR] at h2; exact Except.error.inj h2
        refine ⟨_, E, rfl, hb4, FL.nil _, fun w5 hb5 hE5 => ?_⟩
        obtain ⟨b, rfl, c0, c1⟩ := hE.below hb5 (Nat.le_refl _)
        exact is_at 3 k b w5 c0 c1 hE5
      · rw [hR] at h2; cases h2
    · rw [hR] at h1; cases h1
  | ok R =>
    refine ⟨0, -1, (readHead_any s w hs hm).mono ?_⟩
    rintro e w' ⟨h, hb⟩
    rcases h with ⟨k', h1, _⟩ | ⟨v, r, L, rfl, h1, hown, hT, hr⟩
    · rw [hR] at h1; cases h1
    · refine ⟨v, r, L, rfl, hb, hown.fl, hT, fun w3 hm3 => (read_any s w3 hs hm3).mono ?_⟩
      rintro e w4 ⟨h, hb4⟩
      rcases h with ⟨k2, _, h2, _⟩ | ⟨v2, r2, L2, rfl, h2, hown2, _, hr2⟩
      · rw [hR] at h2; cases h2
      · obtain rfl : r = r2 := bytes_eq (hr.trans hr2.symm)
        obtain rfl : L = L2 := fl2_inj (Except.ok.inj (h1.symm.trans h2))
        exact ⟨v2, _, rfl, hb4, hown2.fl, fun w5 _ _ => is_nil w5⟩

theorem clean_pair (v : Value) (L : List Fl) (w : World) (hT : Tiny L) (hF : FL w v L) : ∃ n p : Int, Calls Tryd.prog 18 #[v] w (fun e w' => ∃ (vc : Value) (M : List Fl), e = .returned (.tuple #[vc, .agg #[.int .i64 n, .int .i64 p]]) ∧ Below w.heap.size w w' ∧ OwnF w' w.heap.size vc M ∧ Tiny M ∧
    ∀ w3, FL w3 v L → Calls Tryd.prog 19 #[v] w3 fun e w4 => ∃ (vd E : Value), e = .returned (.tuple #[vd, E]) ∧ Below w3.heap.size w3 w4 ∧ FL w4 vd M ∧
      ∀ w5, Below w4.heap.size w4 w5 → ErrT w5 → Calls Tryd.prog 16 #[E, .agg #[.int .i64 n, .int .i64 p]] w5 fun e w6 => e = .returned (.bool true) ∧ Below w5.heap.size w5 w6) := by
  by_cases hR : firstP okC L < L.length
  · refine ⟨1, firstP okC L, (rClean_any v L w hT hF).mono ?_⟩
    rintro e w' ⟨h, hb⟩
    rcases h with ⟨_, rfl⟩ | ⟨_, _, h1, _⟩
    · refine ⟨_, [], rfl, hb, OwnF.nil _ _, ⟨by simp, fun f hf => absurd hf (by simp)⟩, fun w3 hF3 => (hClean_any v L w3 hT hF3).mono ?_⟩
      rintro e w4 ⟨h, hb4⟩
      rcases h with ⟨E, _, rfl, hE⟩ | ⟨_, _, h2, _⟩
      · refine ⟨_, E, rfl, hb4, FL.nil _, fun w5 hb5 hE5 => ?_⟩
        obtain ⟨b, rfl, c0, c1⟩ := hE.below hb5 (Nat.le_refl _)
        exact is_at 1 _ b w5 c0 c1 hE5
      · omega
    · omega
  · refine ⟨0, -1, (rClean_any v L w hT hF).mono ?_⟩
    rintro e w' ⟨h, hb⟩
    rcases h with ⟨h1, _⟩ | ⟨vc, M, _, rfl, hown, hM, hTM⟩
    · exact absurd h1 hR
    · refine ⟨vc, M, rfl, hb, hown, hTM, fun w3 hF3 => (hClean_any v L w3 hT hF3).mono ?_⟩
      rintro e w4 ⟨h, hb4⟩
      rcases h with ⟨_, h2, _⟩ | ⟨vd, M2, _, rfl, hown2, hM2, _⟩
      · exact absurd h2 hR
      · obtain rfl : M = M2 := fl2_inj (hM.trans hM2.symm)
        exact ⟨vd, _, rfl, hb4, hown2.fl, fun w5 _ _ => is_nil w5⟩

theorem getV_pair (o : Option Fl) : ∃ (S : ByteArray) (q : Bool), getV o = .tuple #[.string S, .bool q] := by
  cases o with
  | none => exact ⟨_, _, rfl⟩
  | some f => exact ⟨_, _, rfl⟩

set_option maxHeartbeats 400000 in
theorem reads_big (s t : ByteArray) (w : World) (h : (1500 : Int) < (s.size : Int) ∨ (¬ (1500 : Int) < (s.size : Int) ∧ (100 : Int) < (t.size : Int))) :
    Calls Tryd.prog 4 #[.string s, .string t] w fun e w' => e = .returned (.bool true) ∧ Below w.heap.size w w' := by
  rcases h with h1 | ⟨h1, h2⟩
  all_goals
    go_enter Tryd.func4, Tryd.ntmps4
    go_wp2
    go_ret
    exact ⟨rfl, Below.refl _ _⟩

set_option maxHeartbeats 4000000 in
set_option maxRecDepth 100000 in
theorem reads_small (s t : ByteArray) (w : World) (h1 : ¬ (1500 : Int) < (s.size : Int)) (h2 : ¬ (100 : Int) < (t.size : Int)) (hm : Max w) (hE : ErrT w) :
    Calls Tryd.prog 4 #[.string s, .string t] w fun e w' => e = .returned (.bool true) ∧ Below w.heap.size w w' := by
  have HMx := Box.mk hm
  have HEr := Box.mk hE
  have hw0 := hm.1
  have hEl := hE.lt
  clear hm hE
  go_enter Tryd.func4, Tryd.ntmps4
  go_wp2_with fail
  obtain ⟨n, p, hc⟩ := read_pair s w (by omega) HMx.out
  refine hc.mono ?_
  rintro e w1 ⟨vl, r, L, rfl, hb1, hFl, hT, hk⟩
  have HK := Box.mk hk
  have HFl := Box.mk hFl
  have HT := Box.mk hT
  have hsz1 := hb1.size
  obtain ⟨A, cap, rfl, hcap, _⟩ := hFl
  clear hk hc hT
  go_wp2_with fail
  have a1 : Below w1.heap.size w1 (w1.alloc (.cells #[.int .i64 n, .int .i64 p] 34)) := (Below.refl _ _).alloc (Nat.le_refl _) _
  refine (HK.out _ (HMx.out.below (hb1.trans (a1.mono hsz1)) hw0)).mono ?_
  rintro e w2 ⟨vm, E, rfl, hb2, hFm, hk⟩
  have HK2 := Box.mk hk
  have HFm := Box.mk hFm
  have a2 := a1.trans (hb2.mono (by simp))
  have c0 : w2.cell? ⟨w1.heap.size, 0, none⟩ = some (.int .i64 n) := (hb2.cell (p := ⟨w1.heap.size, 0, none⟩) (by simp)).trans (by simp)
  have c1 : w2.cell? ⟨w1.heap.size, 1, none⟩ = some (.int .i64 p) := (hb2.cell (p := ⟨w1.heap.size, 1, none⟩) (by simp)).trans (by simp)
  have z0 : w2.frozen? ⟨w1.heap.size, 0, none⟩ = false := (hb2.frozen (p := ⟨w1.heap.size, 0, none⟩) (by simp)).trans (by simp)
  have z1 : w2.frozen? ⟨w1.heap.size, 1, none⟩ = false := (hb2.frozen (p := ⟨w1.heap.size, 1, none⟩) (by simp)).trans (by simp)
  have hl2 : w1.heap.size < w2.heap.size := by have := hb2.size; simp at this; omega
  clear hk HK a1 hFm hb2
  go_wp2_with fail
  refine (HK2.out _ (Below.refl _ _) (HEr.out.below (hb1.trans (a2.mono hsz1)) hEl)).mono ?_
  rintro e w3 ⟨rfl, hb3⟩
  have a3 := a2.trans (hb3.mono a2.size)
  clear HK2
  go_wp2_with fail
  refine (sameFields_any _ _ L _ HT.out (HFm.out.below hb3 (Nat.le_refl _)) (HFl.out.below a3 (Nat.le_refl _))).mono ?_
  rintro e w4 ⟨rfl, hb4⟩
  have b24 := hb3.trans (hb4.mono hb3.size)
  have a4 := a2.trans (b24.mono a2.size)
  clear HFm a3 a2 hb3 hb4
  go_wp2_with fail
  obtain ⟨n2, p2, hc⟩ := clean_pair (.slice A L.length cap) L w4 HT.out (HFl.out.below a4 (Nat.le_refl _))
  refine hc.mono ?_
  rintro e w5 ⟨vc, M, rfl, hb5, hOc, hTM, hk⟩
  have HK3 := Box.mk hk
  have HOc := Box.mk hOc
  have HTM := Box.mk hTM
  obtain ⟨A5, cap5, rfl, _, _⟩ := hOc.fl
  have b25 := b24.trans (hb5.mono b24.size)
  have a5 := a4.trans (hb5.mono a4.size)
  have d0 := (b25.cell (p := ⟨w1.heap.size, 0, none⟩) hl2).trans c0
  have d1 := (b25.cell (p := ⟨w1.heap.size, 1, none⟩) hl2).trans c1
  have y0 := (b25.frozen (p := ⟨w1.heap.size, 0, none⟩) hl2).trans z0
  have y1 := (b25.frozen (p := ⟨w1.heap.size, 1, none⟩) hl2).trans z1
  have hl4 : w1.heap.size < w4.heap.size := Nat.lt_of_lt_of_le hl2 b24.size
  clear hk hc hOc hTM hb5 b24 a4 c0 c1 z0 z1
  go_wp2_with fail
  have a5s : Below w1.heap.size w1 ((w5.setCell ⟨w1.heap.size, 0, none⟩ (.int .i64 n2)).setCell ⟨w1.heap.size, 1, none⟩ (.int .i64 p2)) := (a5.setCell (Nat.le_refl _) _).setCell (Nat.le_refl _) _
  have hOs : OwnF ((w5.setCell ⟨w1.heap.size, 0, none⟩ (.int .i64 n2)).setCell ⟨w1.heap.size, 1, none⟩ (.int .i64 p2)) w4.heap.size (.slice A5 M.length cap5) M := ownsRow_setCell_below (ownsRow_setCell_below HOc.out hl4 _) hl4 _
  have HFs := Box.mk hOs.fl
  have s0 : ((w5.setCell ⟨w1.heap.size, 0, none⟩ (.int .i64 n2)).setCell ⟨w1.heap.size, 1, none⟩ (.int .i64 p2)).cell? ⟨w1.heap.size, 0, none⟩ = some (.int .i64 n2) := (World.cell?_setCell_other _ _ _ _ (by simp)).trans (World.cell?_setCell_same _ _ _ d0)
  have s1 : ((w5.setCell ⟨w1.heap.size, 0, none⟩ (.int .i64 n2)).setCell ⟨w1.heap.size, 1, none⟩ (.int .i64 p2)).cell? ⟨w1.heap.size, 1, none⟩ = some (.int .i64 p2) := World.cell?_setCell_same _ _ _ ((World.cell?_setCell_other _ _ _ _ (by simp)).trans d1)
  have hl5 : w1.heap.size < ((w5.setCell ⟨w1.heap.size, 0, none⟩ (.int .i64 n2)).setCell ⟨w1.heap.size, 1, none⟩ (.int .i64 p2)).heap.size := World.block_lt_of_cell? _ ⟨w1.heap.size, 0, none⟩ s0
  refine (HK3.out _ (HFl.out.below a5s (Nat.le_refl _))).mono ?_
  rintro e w6 ⟨vd, E6, rfl, hb6, hFd, hk⟩
  have HK4 := Box.mk hk
  have HFd := Box.mk hFd
  have HFc := Box.mk (HFs.out.below hb6 (Nat.le_refl _))
  have t0 := (hb6.cell (p := ⟨w1.heap.size, 0, none⟩) hl5).trans s0
  have t1 := (hb6.cell (p := ⟨w1.heap.size, 1, none⟩) hl5).trans s1
  have hl6 : w1.heap.size < w6.heap.size := Nat.lt_of_lt_of_le hl5 hb6.size
  have a6 := a5s.trans (hb6.mono a5s.size)
  clear hk HK3 hFd HFs hOs a5s s0 s1 d0 d1 y0 y1 hb6 HOc a5 b25 hl5 HFl
  go_wp2_with fail
  refine (getField_any _ M t _ (by omega) HTM.out HFc.out).mono ?_
  rintro e w7 ⟨rfl, hb7⟩
  obtain ⟨GS, Gq, hG⟩ := getV_pair (getS M t.data.toList)
  rw [hG]
  have HGb := Box.mk hG
  clear hG
  go_wp2_with fail
  refine (get_any _ M t _ (by omega) HTM.out (HFc.out.below hb7 (Nat.le_refl _))).mono ?_
  rintro e w8 ⟨rfl, hb8⟩
  rw [HGb.out]
  have b68 := hb7.trans (hb8.mono hb7.size)
  have a8 := a6.trans (b68.mono a6.size)
  have r0 := (b68.cell (p := ⟨w1.heap.size, 0, none⟩) hl6).trans t0
  have r1 := (b68.cell (p := ⟨w1.heap.size, 1, none⟩) hl6).trans t1
  clear hb7 hb8 a6 t0 t1 HGb
  go_wp2_with fail
  refine (HK4.out _ b68 (HEr.out.below (hb1.trans (a8.mono hsz1)) hEl)).mono ?_
  rintro e w9 ⟨rfl, hb9⟩
  have b69 := b68.trans (hb9.mono b68.size)
  have a9 := a8.trans (hb9.mono a8.size)
  clear HK4 r0 r1 b68 a8 hb9
  go_wp2_with fail
  refine (sameFields_any _ _ M _ HTM.out (HFd.out.below b69 (Nat.le_refl _)) (HFc.out.below b69 (Nat.le_refl _))).mono ?_
  rintro e w10 ⟨rfl, hb10⟩
  have a10 := a9.trans (hb10.mono a9.size)
  clear b69 a9 hb10 HFd HFc
  go_wp2
  go_ret
  exact ⟨rfl, hb1.trans (a10.mono hsz1)⟩

end Go.Proofs.YteglkbkdalaaiaaDoor
