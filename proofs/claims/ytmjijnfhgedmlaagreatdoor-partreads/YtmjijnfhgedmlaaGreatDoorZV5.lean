import Derived.Test.YtmjijnfhgedmlaaGreatDoorZV4
namespace Go.Proofs.YtmjijnfhgedmlaaGreatDoor
open Go.RowKit

def RRTPost (O : Except Nat PT) (B : Nat) (e : Ending) (w' : World) : Prop :=
  match O with
  | .error c => e = .returned (.tuple #[zeroP, .int .i64 c])
  | .ok p => ∃ v : P4, e = .returned (.tuple #[v.v, .int .i64 0]) ∧ PV w' (fun i => B ≤ i) 4 v p
theorem readTop_err (s : List UInt8) (c : Nat) (h : readTop s = .error c) : 1 ≤ c := by
  unfold readTop at h
  split at h
  · cases h; decide
  · cases h1 : readU 4 0 s with
    | error c1 => rw [h1] at h; cases h; exact (readU_err _ _ _ _ h1).1
    | ok q => rw [h1] at h; cases h

set_option maxHeartbeats 2000000 in
set_option maxRecDepth 100000 in
theorem rReadTop_any (s : ByteArray) (w : World) (hs : s.size ≤ 3000 ∨ (20000 < s.size ∧ s.size ≤ 1000000)) (hG : Max w) :
    Calls Tryz.prog 15 #[.string s] w fun e w' => RRTPost (readTop s.data.toList) w.heap.size e w' ∧ Below w.heap.size w w' := by
  by_cases h2 : 20000 < s.size
  · have e : readTop s.data.toList = .error 4 := by unfold readTop; rw [size_list, if_pos h2]
    rw [e]
    have hs1 : s.size ≤ 1000000 := by omega
    have hb0 := below_oneP w zeroO
    obtain ⟨x0, x1, x2, x3, xf⟩ := b4_of (heap_oneP w zeroO)
    clear hG e hs
    go_enter Tryz.func15, Tryz.ntmps15
    go_wp2
    refine bodyPost_ret (v := .tuple #[zeroP, .int .i64 4]) (by simp [results, Tryz.results15, go_sem, x0, x1, x2, x3]) rfl ⟨rfl, ?_⟩
    exact hb0
  · have hs1 : s.size ≤ 3000 := by omega
    have hb0 := below_oneP w zeroO
    have hb1 := (below_oneP (w.alloc zeroO) (.cells #[.int .i64 0] 3))
    have hC : CI ((w.alloc zeroO).alloc (.cells #[.int .i64 0] 3)) (w.heap.size + 1) 0 := by
      have hh := heap_oneP (w.alloc zeroO) (.cells #[.int .i64 0] 3)
      rw [size_oneP] at hh
      exact ci_of hh
    have HC := Box.mk hC
    have hgb := hG.1
    have HG := Box.mk ((hG.below hb0 hgb).below hb1 (by simp; omega))
    have hk0 : ((w.alloc zeroO).alloc (.cells #[.int .i64 0] 3)).heap[w.heap.size]? = some zeroO := (Below.heap_alloc (w.alloc zeroO) _ w.heap.size (by simp)).trans (heap_oneP w zeroO)
    obtain ⟨O, HO⟩ : ∃ O, Box (O = readTop s.data.toList) := ⟨_, ⟨rfl⟩⟩
    rw [← HO.out]
    have HO1 : Box (O = match readU 4 0 s.data.toList with | .error c => .error c | .ok q => .ok q.1) := ⟨by rw [HO.out]; unfold readTop; rw [size_list, if_neg h2]; rfl⟩
    clear hC hG HO hs
    go_enter Tryz.func15, Tryz.ntmps15
    go_wp2_with fail
    refine (rread_all 4 s 0 (w.heap.size + 1) 0 _ (by omega) (by omega) (by omega) HC.out HG.out (by omega)).mono ?_
    rintro e w1 ⟨hR, hg1⟩
    have hsz1 := hg1.size
    have hbb : Below w.heap.size w w1 := hb0.trans ((hb1.mono (by simp)).trans (below_gr hg1 (by omega) (by simp)))
    have hl1 : w.heap.size < w1.heap.size := by simp at hsz1; omega
    have hk1 := (hg1.block w.heap.size (by simp; omega) (by simp)).trans hk0
    obtain ⟨x0, x1, x2, x3, xf⟩ := b4_of hk1
    clear HC HG hk0 hb1
    unfold RrPost at hR
    cases hq : readU 4 0 s.data.toList with
    | error c =>
      rw [hq] at hR
      obtain ⟨A1, n1, c1, b1, m1, A2, n2, c2, rfl⟩ := hR
      have hc1 := (readU_err _ _ _ _ hq).1
      have HO2 : Box (O = .error c) := ⟨by rw [HO1.out, hq]⟩
      clear HO1 hq hg1
      go_wp2
      refine ret_at ?_
      intro Wf hWf
      have hk : Wf.heap[w.heap.size]? = some (obj4 (.slice none 0 0) (.string ⟨#[]⟩) (.bool false) (.slice none 0 0)) ∧ Below w.heap.size w Wf := by
        rw [hWf]
        refine ⟨(Below.heap_alloc _ _ _ (by simp; omega)).trans (set4_heap _ _ _ _ _ _ _ _ _ _ hk1), Below.alloc ?_ (by simp; omega) _⟩
        iterate 4 (refine Below.setCell ?_ (by simp) _)
        exact hbb
      clear hWf x0 x1 x2 x3 xf
      obtain ⟨x0, x1, x2, x3, xf⟩ := b4_of hk.1
      exact bodyPost_ret (v := .tuple #[zeroP, .int .i64 c]) (by simp [results, Tryz.results15, go_sem, x0, x1, x2, x3]) rfl ⟨by rw [HO2.out]; rfl, hk.2⟩
    | ok q =>
      rw [hq] at hR
      obtain ⟨p4, rfl, hPV, _⟩ := hR
      have HO2 : Box (O = .ok q.1) := ⟨by rw [HO1.out, hq]⟩
      obtain ⟨A1, n1, c1, bb, mm, A2, n2, c2, rfl⟩ := hPV.shape
      have HPV : Box (PV w1 (fun i => w.heap.size < i) 4 (.slice A1 n1 c1, .string bb, .bool mm, .slice A2 n2 c2) q.1) := ⟨PV.mono (fun i _ hi => by
        have : ((w.alloc zeroO).alloc (.cells #[.int .i64 0] 3)).heap.size ≤ i := hi
        simp at this
        show w.heap.size < i
        omega) _ _ _ hPV⟩
      clear HO1 hq hPV hg1
      unfold P4.v
      go_wp2
      refine ret_at ?_
      intro Wf hWf
      have hk : Wf.heap[w.heap.size]? = some (obj4 (.slice A1 n1 c1) (.string bb) (.bool mm) (.slice A2 n2 c2)) ∧ Below w.heap.size w Wf ∧ PV Wf (fun i => w.heap.size < i) 4 (.slice A1 n1 c1, .string bb, .bool mm, .slice A2 n2 c2) q.1 := by
        rw [hWf]
        refine ⟨(Below.heap_alloc _ _ _ (by simp; omega)).trans (set4_heap _ _ _ _ _ _ _ _ _ _ hk1), Below.alloc ?_ (by simp; omega) _, PV.abv (abv_gr (r := some w.heap.size) (gr_alloc (gr_set4 _ _ _ _ _ _) _) (fun i hi e => by simp at e; omega)) _ _ _ HPV.out⟩
        iterate 4 (refine Below.setCell ?_ (by simp) _)
        exact hbb
      clear hWf x0 x1 x2 x3 xf
      obtain ⟨x0, x1, x2, x3, xf⟩ := b4_of hk.1
      exact bodyPost_ret (v := .tuple #[.agg #[.slice A1 n1 c1, .string bb, .bool mm, .slice A2 n2 c2], .int .i64 0]) (by simp [results, Tryz.results15, go_sem, x0, x1, x2, x3]) rfl ⟨by rw [HO2.out]; exact ⟨_, rfl, PV.mono (fun i _ hi => Nat.le_of_lt hi) _ _ _ hk.2.2⟩, hk.2.1⟩

end Go.Proofs.YtmjijnfhgedmlaaGreatDoor
