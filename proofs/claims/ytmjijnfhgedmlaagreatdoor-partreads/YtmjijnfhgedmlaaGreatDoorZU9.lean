import Derived.Test.YtmjijnfhgedmlaaGreatDoorZ11
namespace Go.Proofs.YtmjijnfhgedmlaaGreatDoor
open Go.RowKit

theorem ci_of {w : World} {b n : Nat} {t : TypeId} (h : w.heap[b]? = some (.cells #[.int .i64 n] t (0, 0))) : CI w b n :=
  ⟨by simp [World.cell?, h], by simp [World.frozen?, h], (Array.getElem?_eq_some_iff.1 h).1⟩
def readTop (s : List UInt8) : Except Nat PT := if 20000 < s.length then .error 4 else match readU 4 0 s with | .error c => .error c | .ok q => .ok q.1
def RTPost (O : Except Nat PT) (B : Nat) (e : Ending) (w' : World) : Prop :=
  match O with
  | .error c => e = .returned (.tuple #[zeroP, .iface 22 (.int .i64 c)])
  | .ok p => ∃ v : P4, e = .returned (.tuple #[v.v, .nilIface]) ∧ PV w' (fun i => B ≤ i) 4 v p

set_option maxHeartbeats 2000000 in
set_option maxRecDepth 100000 in
theorem pReadTop_any (s : ByteArray) (w : World) (hs : s.size ≤ 1000000) (hG : Glob w) :
    Calls Tryz.prog 16 #[.string s] w fun e w' => RTPost (readTop s.data.toList) w.heap.size e w' ∧ Below w.heap.size w w' := by
  by_cases h2 : 20000 < s.size
  · have e : readTop s.data.toList = .error 4 := by unfold readTop; rw [size_list, if_pos h2]
    rw [e]
    have hb0 := below_oneP w zeroO
    obtain ⟨x0, x1, x2, x3, xf⟩ := b4_of (heap_oneP w zeroO)
    clear hG e
    go_enter Tryz.func16, Tryz.ntmps16
    go_wp2
    refine bodyPost_ret (v := .tuple #[zeroP, .iface 22 (.int .i64 4)]) (by simp [results, Tryz.results16, go_sem, x0, x1, x2, x3]) rfl ⟨rfl, ?_⟩
    exact hb0
  · have hb0 := below_oneP w zeroO
    have hb1 := (below_oneP (w.alloc zeroO) (.cells #[.int .i64 0] 72))
    have hC : CI ((w.alloc zeroO).alloc (.cells #[.int .i64 0] 72)) (w.heap.size + 1) 0 := by
      have hh := heap_oneP (w.alloc zeroO) (.cells #[.int .i64 0] 72)
      rw [size_oneP] at hh
      exact ci_of hh
    have HC := Box.mk hC
    have hgb := hG.gb
    have HG := Box.mk ((hG.below hb0 hgb).below hb1 (hgb.mono (by simp)))
    have hk0 : ((w.alloc zeroO).alloc (.cells #[.int .i64 0] 72)).heap[w.heap.size]? = some zeroO := (Below.heap_alloc (w.alloc zeroO) _ w.heap.size (by simp)).trans (heap_oneP w zeroO)
    obtain ⟨O, HO⟩ : ∃ O, Box (O = readTop s.data.toList) := ⟨_, ⟨rfl⟩⟩
    rw [← HO.out]
    have HO1 : Box (O = match readU 4 0 s.data.toList with | .error c => .error c | .ok q => .ok q.1) := ⟨by rw [HO.out]; unfold readTop; rw [size_list, if_neg h2]⟩
    clear hC hG HO
    go_enter Tryz.func16, Tryz.ntmps16
    go_wp2_with fail
    refine (pread_all 4 s 0 (w.heap.size + 1) 0 _ (by omega) (by omega) (by omega) HC.out HG.out (hgb.mono (by omega))).mono ?_
    rintro e w1 ⟨hR, hg1⟩
    have hsz1 := hg1.size
    have hbb : Below w.heap.size w w1 := hb0.trans ((hb1.mono (by simp)).trans (below_gr hg1 (by omega) (by simp)))
    obtain ⟨x0, x1, x2, x3, xf⟩ := b4_of ((hg1.block w.heap.size (by simp; omega) (by simp)).trans hk0)
    clear HC HG hk0 hb1
    unfold RdPost at hR
    cases hq : readU 4 0 s.data.toList with
    | error c =>
      rw [hq] at hR
      obtain rfl := hR
      have HO2 : Box (O = .error c) := ⟨by rw [HO1.out, hq]⟩
      clear HO1 hq
      go_wp2
      refine bodyPost_ret (v := .tuple #[zeroP, .iface 22 (.int .i64 c)]) (by simp [results, Tryz.results16, go_sem, x0, x1, x2, x3]) rfl ⟨by rw [HO2.out]; rfl, ?_⟩
      iterate 4 (refine Below.setCell ?_ (by simp) _)
      exact hbb
    | ok q =>
      rw [hq] at hR
      obtain ⟨p4, rfl, hPV, _⟩ := hR
      have HO2 : Box (O = .ok q.1) := ⟨by rw [HO1.out, hq]⟩
      obtain ⟨A1, n1, c1, bb, mm, A2, n2, c2, rfl⟩ := hPV.shape
      have HPV := Box.mk hPV
      clear HO1 hq hPV
      unfold P4.v
      go_wp2
      refine bodyPost_ret (v := .tuple #[.agg #[.slice A1 n1 c1, .string bb, .bool mm, .slice A2 n2 c2], .nilIface]) (by simp [results, Tryz.results16, go_sem, x0, x1, x2, x3]) rfl ⟨?_, ?_⟩
      · rw [HO2.out]
        refine ⟨(.slice A1 n1 c1, .string bb, .bool mm, .slice A2 n2 c2), rfl, ?_⟩
        refine PV.mono (S := fun i => w.heap.size < i) (fun i _ hi => Nat.le_of_lt hi) _ _ _ (PV.abv (w := w1) ?_ 4 _ _ (PV.mono (fun i _ hi => ?_) _ _ _ HPV.out))
        · refine abv_gr (r := some w.heap.size) ?_ (fun i hi e => by simp at e; omega)
          iterate 4 (refine gr_trans ?_ (gr_set _ _ _ _))
          exact gr_below (Below.refl _ _) _
        · have : ((w.alloc zeroO).alloc (.cells #[.int .i64 0] 72)).heap.size ≤ i := hi
          simp at this
          show w.heap.size < i
          omega
      · iterate 4 (refine Below.setCell ?_ (by simp) _)
        exact hbb

end Go.Proofs.YtmjijnfhgedmlaaGreatDoor
