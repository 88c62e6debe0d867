import Derived.Test.YtnjjjkhhoaadfabGreatDoorZ18
import Derived.Test.YtnjjjkhhoaadfabGreatDoorZ23
import Derived.Deep.RegionHeld3
namespace Go.Proofs.YtnjjjkhhoaadfabGreatDoor
open Go.RowKit

/- Parts that came in, however great. -/
def BigL (L : List Fl) : Prop := L.length ≤ 2000000000000000 ∧ ∀ f ∈ L, f.1.size ≤ 2000000000000000 ∧ f.2.size ≤ 2000000000000000
/-- A part lies at a value; no bound is asked of it but the machine's. -/
def PVX (w : World) (S : Nat → Prop) : Nat → P4 → PT → Prop
  | 0, _, _ => False
  | d + 1, v, .mk L b many ps => ∃ A cap bb lh, v.2.1 = .string bb ∧ v.2.2.1 = .bool many ∧ v.2.2.2 = .slice A ps.length cap ∧ FLB w S v.1 lh ∧ lh.map fl2 = L ∧ BigL lh ∧ bb.data.toList = b ∧ bb.size ≤ 2000000000000000 ∧ ps.length ≤ cap ∧ ps.length ≤ 2000000000000000 ∧ ∀ k (hk : k < ps.length), ∃ q, PC w S A k q ∧ PVX w S d q ps[k]
theorem PVX.abv {w w' : World} {S : Nat → Prop} (ha : Abv S w w') : ∀ (d : Nat) (v : P4) (p : PT), PVX w S d v p → PVX w' S d v p
  | 0, _, _, h => h.elim
  | d + 1, v, .mk L b many ps, h => by
    obtain ⟨A, cap, bb, lh, h1, h2, h3, h4, h5, h6, h7, h8, h9, h10, h11⟩ := h
    refine ⟨A, cap, bb, lh, h1, h2, h3, h4.abv ha, h5, h6, h7, h8, h9, h10, fun k hk => ?_⟩
    obtain ⟨q, hc, hq⟩ := h11 k hk
    exact ⟨q, hc.abv ha, PVX.abv ha d q _ hq⟩
theorem PVX.mono {w : World} {S T : Nat → Prop} (hS : ∀ i, i < w.heap.size → S i → T i) : ∀ (d : Nat) (v : P4) (p : PT), PVX w S d v p → PVX w T d v p
  | 0, _, _, h => h.elim
  | d + 1, v, .mk L b many ps, h => by
    obtain ⟨A, cap, bb, lh, h1, h2, h3, h4, h5, h6, h7, h8, h9, h10, h11⟩ := h
    refine ⟨A, cap, bb, lh, h1, h2, h3, h4.mono hS, h5, h6, h7, h8, h9, h10, fun k hk => ?_⟩
    obtain ⟨q, hc, hq⟩ := h11 k hk
    exact ⟨q, hc.mono hS, PVX.mono hS d q _ hq⟩
theorem PVX.shape {w : World} {S : Nat → Prop} {d : Nat} {v : P4} {p : PT} (h : PVX w S d v p) : ∃ A n c bb m A2 n2 c2, v = (.slice A n c, .string bb, .bool m, .slice A2 n2 c2) := by
  match d, p, h with
  | 0, _, h => exact h.elim
  | d + 1, .mk L b many ps, h =>
    obtain ⟨A, cap, bb, lh, h1, h2, h3, ⟨A', cap', h4, _⟩, _⟩ := h
    obtain ⟨a, b, c, d⟩ := v
    simp only at h1 h2 h3 h4
    subst h1 h2 h3 h4
    exact ⟨_, _, _, _, _, _, _, _, rfl⟩
/-- What is small enough lies so. -/
theorem PVX.pv {w : World} {S : Nat → Prop} : ∀ (d : Nat) (v : P4) (p : PT), PVX w S d v p → SmT d p → PV w S d v p
  | 0, _, _, h, _ => h.elim
  | d + 1, v, .mk L b many ps, h, hs => by
    obtain ⟨A, cap, bb, lh, h1, h2, h3, h4, h5, h6, h7, h8, h9, h10, h11⟩ := h
    obtain ⟨⟨s1, s2, _⟩, s3, s4, s5⟩ := hs
    have hH : Half lh := by
      rw [← h5] at s1 s2
      rw [List.length_map] at s1
      refine ⟨by omega, fun f hf => ?_⟩
      have := s2 (fl2 f) (List.mem_map_of_mem hf)
      unfold fl2 at this
      simp only at this
      rw [size_list, size_list] at this
      omega
    refine ⟨A, cap, bb, lh, h1, h2, h3, h4, h5, hH, h7, h9, by omega, fun k hk => ?_⟩
    obtain ⟨q, hc, hq⟩ := h11 k hk
    exact ⟨q, hc, PVX.pv d q _ hq (s5 _ (List.getElem_mem hk))⟩

theorem head_small (lh : List Fl) (h1 : lh.length ≤ 20) (h2 : ∀ f ∈ lh, f.1.size + f.2.size ≤ 400) : (lh.map fl2).length ≤ 3000 ∧ (∀ f ∈ lh.map fl2, f.1.length ≤ 8000 ∧ f.2.length ≤ 8000) ∧ hsz (lh.map fl2) ≤ 30000 := by
  have key : ∀ f ∈ lh.map fl2, f.1.length + f.2.length ≤ 400 := by
    intro f hf
    obtain ⟨g, hg, rfl⟩ := List.mem_map.1 hf
    have := h2 g hg
    unfold fl2
    simp only
    rw [size_list, size_list]
    exact this
  refine ⟨by rw [List.length_map]; omega, fun f hf => by have := key f hf; omega, ?_⟩
  have := hsz_few (lh.map fl2) 20 400 (by rw [List.length_map]; exact h1) key
  omega

end Go.Proofs.YtnjjjkhhoaadfabGreatDoor
