import Derived.Test.YtiecpbhikkcmjaaDoorJX
import Derived.Test.YtiecpbhikkcmjaaDoorE6
namespace Go.Proofs.YtiecpbhikkcmjaaDoor
open Go.RowKit

/-- Both answers at one value: the same, whatever world the second begins in. -/
theorem kwrite_pair (m : ByteArray) (v : Value) (L : List Fl) (w : World) (hm : m.size ≤ 100000) (hM : Mid L) (hF : FL w v L) (hx : Max w) :
    Calls Tryd.prog 41 #[.string m, v] w fun e w1 => ∃ (t : ByteArray) (n p : Int), e = .returned (.tuple #[.string t, .agg #[.int .i64 n, .int .i64 p]]) ∧ Below w.heap.size w w1 ∧
      ∀ w2, FL w2 v L → Max w2 → Calls Tryd.prog 42 #[.string m, v] w2 fun e w3 => ∃ E : Value, e = .returned (.tuple #[.string t, E]) ∧ Below w2.heap.size w2 w3 ∧
        ∀ w4, Below w3.heap.size w3 w4 → ErrT w4 → Calls Tryd.prog 19 #[E, .agg #[.int .i64 n, .int .i64 p]] w4 fun e w5 => e = .returned (.bool true) ∧ Below w4.heap.size w4 w5 := by
  refine (rwrite_any m v L w hm hM hF hx).mono ?_
  rintro e w1 ⟨hp, hb1⟩
  rcases hp with ⟨hg, rfl⟩ | ⟨hg, hq, rfl⟩ | ⟨hg, hL, t, rfl, ht⟩
  · refine ⟨_, 1, -1, rfl, hb1, fun w2 hF2 hx2 => (kwrite_any m v L w2 hm hM hF2 hx2).mono ?_⟩
    rintro e w3 ⟨hp3, hb3⟩
    rcases hp3 with ⟨_, rfl⟩ | ⟨h, _⟩ | ⟨h, _⟩
    · exact ⟨_, rfl, hb3, fun w4 _ hE => is_errno 1 w4 hE⟩
    · rw [hg] at h; cases h
    · rw [hg] at h; cases h
  · refine ⟨_, 1, firstQ L, rfl, hb1, fun w2 hF2 hx2 => (kwrite_any m v L w2 hm hM hF2 hx2).mono ?_⟩
    rintro e w3 ⟨hp3, hb3⟩
    rcases hp3 with ⟨h, _⟩ | ⟨_, _, E, rfl, b, rfl, e0, e1⟩ | ⟨_, h, _⟩
    · rw [hg] at h; cases h
    · have hlt : b < w3.heap.size := World.block_lt_of_cell? w3 _ e0
      exact ⟨_, rfl, hb3, fun w4 hb4 hE => is_at 1 (firstQ L) b w4 ((hb4.cell (p := ⟨b, 0, none⟩) hlt).trans e0) ((hb4.cell (p := ⟨b, 1, none⟩) hlt).trans e1) hE⟩
    · rw [firstQ_all L h] at hq; omega
  · refine ⟨t, 0, -1, rfl, hb1, fun w2 hF2 hx2 => (kwrite_any m v L w2 hm hM hF2 hx2).mono ?_⟩
    rintro e w3 ⟨hp3, hb3⟩
    rcases hp3 with ⟨h, _⟩ | ⟨_, h, _⟩ | ⟨_, _, t2, rfl, ht2⟩
    · rw [hg] at h; cases h
    · rw [firstQ_all L hL] at h; omega
    · obtain rfl : t = t2 := bytes_eq (ht.trans ht2.symm)
      exact ⟨_, rfl, hb3, fun w4 _ _ => is_nil w4⟩

set_option maxHeartbeats 400000 in
theorem kwrites_big (m : ByteArray) (v : Value) (L : List Fl) (w : World) (hF : FL w v L) (h : (100 : Int) < (m.size : Int) ∨ (¬ (100 : Int) < (m.size : Int) ∧ (20 : Int) < (L.length : Int))) :
    Calls Tryd.prog 8 #[.string m, v] w fun e w' => e = .returned (.bool true) ∧ Below w.heap.size w w' := by
  obtain ⟨A, cap, rfl, hcap, _⟩ := hF
  rcases h with h1 | ⟨h1, h2⟩
  all_goals
    go_enter Tryd.func8, Tryd.ntmps8
    go_wp2
    go_ret
    exact ⟨rfl, Below.refl _ _⟩

set_option maxHeartbeats 8000000 in
set_option maxRecDepth 100000 in
theorem kwrites_small (m : ByteArray) (v : Value) (L : List Fl) (w : World) (hF : FL w v L) (hB : ∀ f ∈ L, f.1.size ≤ 1000000000000000 ∧ f.2.size ≤ 1000000000000000) (h1 : ¬ (100 : Int) < (m.size : Int)) (h2 : ¬ (20 : Int) < (L.length : Int)) (hx : Max w) (hE : ErrT w) :
    Calls Tryd.prog 8 #[.string m, v] w fun e w' => e = .returned (.bool true) ∧ Below w.heap.size w w' := by
  obtain ⟨A, cap, rfl, hcap, hcells⟩ := hF
  have HC := Box.mk hcells
  have HB := Box.mk hB
  have HMx := Box.mk hx
  have HEr := Box.mk hE
  have hw0 := hx.1
  have hEl := hE.lt
  clear hcells hB hx hE
  go_enter Tryd.func8, Tryd.ntmps8
  go_wp2
  go_loopw [5] (fun i wr => ∃ k : Nat, k ≤ L.length ∧ i = .int .i64 k ∧ Below w.heap.size w wr ∧ Box (∀ f ∈ L.take k, f.1.size + f.2.size ≤ 200)) (fun i _ => L.length - (intOf i).toNat)
  case atStart => exact ⟨0, Nat.zero_le _, rfl, Below.refl _ _, ⟨fun f hf => absurd hf (by simp)⟩⟩
  case round =>
    obtain ⟨k, hk, rfl, hb, HA⟩ := hrel
    have hsz := hb.size
    by_cases hlt : k < L.length
    · obtain ⟨b, off, rfl, d0', d1'⟩ := HC.out k hlt
      have hbl : b < w.heap.size := World.block_lt_of_cell? w _ d0'
      obtain ⟨n, hn⟩ : ∃ n, n = L[k].1 := ⟨_, rfl⟩
      obtain ⟨x, hxx⟩ : ∃ x, x = L[k].2 := ⟨_, rfl⟩
      have hsn := HB.out L[k] (List.getElem_mem hlt)
      have d0 : wr.cell? ⟨b, off + k * 2, none⟩ = some (.string n) := by rw [hn]; exact (hb.cell (p := ⟨b, off + k * 2, none⟩) hbl).trans d0'
      have d1 : wr.cell? ⟨b, off + k * 2 + 1, none⟩ = some (.string x) := by rw [hxx]; exact (hb.cell (p := ⟨b, off + k * 2 + 1, none⟩) hbl).trans d1'
      rw [← hn, ← hxx] at hsn
      have HA' : Box (n.size + x.size ≤ 200 → ∀ f ∈ L.take (k + 1), f.1.size + f.2.size ≤ 200) := ⟨fun h f hf => by
        rw [take_snocF L k L[k] (by rw [List.getElem?_eq_getElem hlt])] at hf
        rcases List.mem_append.1 hf with hf | hf
        · exact HA.out f hf
        · rw [List.mem_singleton.1 hf, ← hn, ← hxx]; exact h⟩
      clear hn hxx d0' d1' HA
      by_cases h4 : n.size + x.size ≤ 200
      · have HA2 := Box.mk (HA'.out h4)
        have h4' : ¬ (200 : Int) < (n.size : Int) + (x.size : Int) := by omega
        clear HA'
        go_wp2
        go_region
        go_wp2
        go_roundw
        case rel => exact ⟨k + 1, by omega, by go_num, hb.drew, HA2⟩
        case measure => simp [intOf]; omega
      · have h4' : (200 : Int) < (n.size : Int) + (x.size : Int) := by omega
        clear HA'
        go_wp2
        go_region
        go_wp2
        go_ret
        exact ⟨rfl, hb.drew⟩
    · have HA2 : Box (∀ f ∈ L, f.1.size + f.2.size ≤ 200) := ⟨by have := HA.out; rw [List.take_of_length_le (by omega)] at this; exact this⟩
      have HM : Box (Mid L) := ⟨⟨by omega, fun f hf => ⟨by have := HA2.out f hf; omega, by have := HA2.out f hf; omega⟩⟩⟩
      have HCr := Box.mk (HC.out.below hb (Nat.le_refl _))
      clear HA HA2 HB HC
      go_wp2_with fail
      refine (kwrite_pair m _ L wr (by omega) HM.out ⟨A, cap, rfl, hcap, HCr.out⟩ (HMx.out.below hb hw0)).mono ?_
      rintro e w1 ⟨t, n, p, rfl, hb1, hk1⟩
      have HK := Box.mk hk1
      have b1 := hb.trans (hb1.mono hsz)
      have HC1 := Box.mk (HCr.out.below hb1 (Nat.le_refl _))
      have hsz1 := b1.size
      clear hk1 hb hb1 HCr
      have a1 : Below w1.heap.size w1 (w1.alloc (.cells #[.int .i64 n, .int .i64 p] 34)) := (Below.refl _ _).alloc (Nat.le_refl _) _
      go_wp2_with fail
      refine (HK.out (w1.alloc (.cells #[.int .i64 n, .int .i64 p] 34)) ⟨A, cap, rfl, hcap, HC1.out.below a1 (Nat.le_refl _)⟩ (HMx.out.below (b1.alloc hsz1 _) hw0)).mono ?_
      rintro e w2 ⟨E, rfl, hb2, hk2⟩
      have HK2 := Box.mk hk2
      have c0 : w2.cell? ⟨w1.heap.size, 0, none⟩ = some (.int .i64 n) := (hb2.cell (p := ⟨w1.heap.size, 0, none⟩) (by simp)).trans (by simp)
      have c1 : w2.cell? ⟨w1.heap.size, 1, none⟩ = some (.int .i64 p) := (hb2.cell (p := ⟨w1.heap.size, 1, none⟩) (by simp)).trans (by simp)
      have b2 := (b1.alloc hsz1 (.cells #[.int .i64 n, .int .i64 p] 34)).trans (hb2.mono (by simp; omega))
      have htt : (t.toList == t.toList) = true := by simp
      clear hk2 HK hb2 HC1 a1
      go_wp2_with fail
      refine (HK2.out w2 (Below.refl _ _) (HEr.out.below b2 hEl)).mono ?_
      rintro e w3 ⟨rfl, hb3⟩
      have b3 := b2.trans (hb3.mono b2.size)
      go_wp2
      go_ret
      exact ⟨rfl, b3⟩

end Go.Proofs.YtiecpbhikkcmjaaDoor
