import Derived.Test.YteglkbkdalaaiaaDoorH9
import Derived.Test.YteglkbkdalaaiaaDoorPF
namespace Go.Proofs.YteglkbkdalaaiaaDoor
open Go.RowKit

theorem mid_of {L : List Fl} (h : L.length ≤ 20 ∧ ∀ f ∈ L, f.1.size + f.2.size ≤ 400) : Mid L := ⟨by omega, fun f hf => by have := h.2 f hf; omega⟩

/-- The two writers' answers, held against each other. -/
theorem write_pair (v : Value) (L : List Fl) (w : World) (hM : Mid L) (hF : FL w v L) : ∃ n p : Int, Calls Tryd.prog 23 #[v] w (fun e w' => ∃ S : ByteArray, e = .returned (.tuple #[.string S, .agg #[.int .i64 n, .int .i64 p]]) ∧ Below w.heap.size w w' ∧
    ∀ w3, FL w3 v L → Calls Tryd.prog 24 #[v] w3 fun e w4 => ∃ (T : ByteArray) (E : Value), e = .returned (.tuple #[.string T, E]) ∧ (T.toList == S.toList) = true ∧ Below w3.heap.size w3 w4 ∧
      ∀ w5, Below w4.heap.size w4 w5 → ErrT w5 → Calls Tryd.prog 16 #[E, .agg #[.int .i64 n, .int .i64 p]] w5 fun e w6 => e = .returned (.bool true) ∧ Below w5.heap.size w5 w6) := by
  by_cases h : firstW L = L.length
  · refine ⟨0, -1, (writeHead_any v L w hM hF).mono ?_⟩
    rintro e w' ⟨⟨S, _, h2⟩, hb⟩
    obtain ⟨rfl, hS⟩ := h2 h
    refine ⟨S, rfl, hb, fun w3 hF3 => (write_good v L w3 hM hF3 h).mono ?_⟩
    rintro e w4 ⟨T, rfl, hT, hb4⟩
    exact ⟨T, _, rfl, str_eq (by rw [hT, hS]), hb4, fun w5 _ _ => is_nil w5⟩
  · have h' : firstW L < L.length := by
      have : firstW L ≤ L.length := by
        unfold firstW
        exact List.IsPrefix.length_le (List.takeWhile_prefix _)
      omega
    refine ⟨1, firstW L, (writeHead_any v L w hM hF).mono ?_⟩
    rintro e w' ⟨⟨S, h1, _⟩, hb⟩
    obtain rfl := h1 h'
    refine ⟨_, rfl, hb, fun w3 hF3 => (write_bad v L w3 hM hF3 h').mono ?_⟩
    rintro e w4 ⟨E, rfl, hE, hb4⟩
    refine ⟨_, E, rfl, str_eq rfl, hb4, fun w5 hb5 hE5 => ?_⟩
    obtain ⟨b, rfl, c0, c1⟩ := hE.below hb5 (Nat.le_refl _)
    exact is_at 1 (firstW L) b w5 c0 c1 hE5

theorem getV_pair (o : Option Fl) : ∃ (S : ByteArray) (q : Bool), getV o = .tuple #[.string S, .bool q] := by
  cases o with
  | none => exact ⟨_, _, rfl⟩
  | some f => exact ⟨_, _, rfl⟩

set_option maxHeartbeats 4000000 in
set_option maxRecDepth 100000 in
theorem writes_any (v : Value) (L : List Fl) (s : ByteArray) (w : World) (hs : s.size ≤ 1000000000000000) (hB : Big L) (hF : FL w v L) (hE : ErrT w) :
    Calls Tryd.prog 5 #[v, .string s] w fun e w' => e = .returned (.bool true) ∧ Below w.heap.size w w' := by
  have HB := Box.mk hB
  have HF := Box.mk hF
  have HEr := Box.mk hE
  have hEl := hE.lt
  obtain ⟨A, cap, rfl, hcap, _⟩ := hF
  clear hE hB
  go_enter Tryd.func5, Tryd.ntmps5
  go_wp2_with fail
  refine (short_any _ L _ HB.out.2 HF.out HB.out.1).mono ?_
  rintro e w1 ⟨⟨q, rfl, hq⟩, hb1⟩
  cases q
  · clear hq
    go_wp2
    go_ret
    exact ⟨rfl, hb1⟩
  · have HM := Box.mk (mid_of (hq rfl))
    clear hq
    by_cases hn : s.size ≤ 100
    · have hn' : ¬ (100 : Int) < (s.size : Int) := by omega
      go_wp2_with fail
      obtain ⟨n, p, hc⟩ := write_pair _ L w1 HM.out (HF.out.below hb1 (Nat.le_refl _))
      refine hc.mono ?_
      rintro e w2 ⟨S, rfl, hb2, hk⟩
      have HK := Box.mk hk
      have g2 := hb1.trans (hb2.mono hb1.size)
      clear hk hc hb1 hb2
      go_wp2_with fail
      have g3 := g2.alloc g2.size (.cells #[.int .i64 n, .int .i64 p] 34)
      refine (HK.out _ (HF.out.below g3 (Nat.le_refl _))).mono ?_
      rintro e w4 ⟨T, E, rfl, hTS, hb4, hk⟩
      have HK2 := Box.mk hk
      have g4 := g3.trans (hb4.mono g3.size)
      have c0 : w4.cell? ⟨w2.heap.size, 0, none⟩ = some (.int .i64 n) := (hb4.cell (p := ⟨w2.heap.size, 0, none⟩) (by simp)).trans (by simp)
      have c1 : w4.cell? ⟨w2.heap.size, 1, none⟩ = some (.int .i64 p) := (hb4.cell (p := ⟨w2.heap.size, 1, none⟩) (by simp)).trans (by simp)
      have hlt : w2.heap.size < w4.heap.size := by have := hb4.size; simp at this; omega
      clear hk HK g3 g2 hb4
      go_wp2_with fail
      refine (getField_any _ L s _ (by omega) HM.out.tiny (HF.out.below g4 (Nat.le_refl _))).mono ?_
      rintro e w5 ⟨rfl, hb5⟩
      have HG := getV_pair (getS L s.data.toList)
      obtain ⟨GS, Gq, hG⟩ := HG
      rw [hG]
      have HGb := Box.mk hG
      clear hG
      have g5 := g4.trans (hb5.mono g4.size)
      go_wp2_with fail
      refine (get_any _ L s _ (by omega) HM.out.tiny (HF.out.below g5 (Nat.le_refl _))).mono ?_
      rintro e w6 ⟨rfl, hb6⟩
      rw [HGb.out]
      have hb46 := hb5.trans (hb6.mono hb5.size)
      have g6 := g4.trans (hb46.mono g4.size)
      have c0' := (hb46.cell (p := ⟨w2.heap.size, 0, none⟩) hlt).trans c0
      have c1' := (hb46.cell (p := ⟨w2.heap.size, 1, none⟩) hlt).trans c1
      clear c0 c1 hb5 hb6 g5 HGb
      go_wp2_with fail
      refine (HK2.out _ hb46 (HEr.out.below g6 hEl)).mono ?_
      rintro e w7 ⟨rfl, hb7⟩
      have g7 := g6.trans (hb7.mono g6.size)
      clear HK2 hb46 c0' c1' hb7 g6
      go_wp2_with fail
      refine (right_any _ L _ HM.out.tiny (HF.out.below g7 (Nat.le_refl _))).mono ?_
      rintro e w8 ⟨rfl, hb8⟩
      have g8 := g7.trans (hb8.mono g7.size)
      clear hb8 g7
      go_wp2_with fail
      refine (rHead_any _ L _ HM.out.tiny (HF.out.below g8 (Nat.le_refl _))).mono ?_
      rintro e w9 ⟨rfl, hb9⟩
      have g9 := g8.trans (hb9.mono g8.size)
      clear hb9 g8
      generalize decide (firstW L = L.length) = R
      go_wp2
      go_ret
      exact ⟨rfl, g9⟩
    · have hn' : (100 : Int) < (s.size : Int) := by omega
      go_wp2
      go_ret
      exact ⟨rfl, hb1⟩

end Go.Proofs.YteglkbkdalaaiaaDoor
