import Derived.Test.YtkgpmahlkglaaaaGreatDoorW5
namespace Go.Proofs.YtkgpmahlkglaaaaGreatDoor
open Go.RowKit

set_option maxHeartbeats 400000 in
theorem fill_two (n g cap : Nat) (w : World) (hn : 2 ≤ n) (hl : n ≤ 100000) (h0 : w.cell? ⟨g, n - 1, none⟩ = some (.int .u8 61)) (h1 : w.cell? ⟨g, n - 1 - 1, none⟩ = some (.int .u8 61)) :
    Calls Tryz.prog 16 #[.slice (some ⟨g, 0, none⟩) n cap] w fun e w' => e = .returned (.int .i64 2) ∧ w' = w := by
  go_enter Tryz.func16, Tryz.ntmps16
  go_wp2
  refine wp_loop_rounds 3 ?_
  rw [rounds_succ]
  go_wp2
  rw [rounds_succ]
  go_wp2
  rw [rounds_succ]
  go_wp2
  go_ret
  exact ⟨rfl, rfl⟩

set_option maxHeartbeats 400000 in
theorem fill_one (n g cap : Nat) (w : World) (hn : 2 ≤ n) (hl : n ≤ 100000) (c : UInt8) (hc : ((c.toNat : Int) == 61) = false) (h0 : w.cell? ⟨g, n - 1, none⟩ = some (.int .u8 61)) (h1 : w.cell? ⟨g, n - 1 - 1, none⟩ = some (.int .u8 (c.toNat : Int))) :
    Calls Tryz.prog 16 #[.slice (some ⟨g, 0, none⟩) n cap] w fun e w' => e = .returned (.int .i64 1) ∧ w' = w := by
  go_enter Tryz.func16, Tryz.ntmps16
  go_wp2
  refine wp_loop_rounds 2 ?_
  rw [rounds_succ]
  go_wp2
  rw [rounds_succ]
  go_wp2
  go_ret
  exact ⟨rfl, rfl⟩

set_option maxHeartbeats 400000 in
theorem fill_single (g cap : Nat) (w : World) (h0 : w.cell? ⟨g, 0, none⟩ = some (.int .u8 61)) :
    Calls Tryz.prog 16 #[.slice (some ⟨g, 0, none⟩) 1 cap] w fun e w' => e = .returned (.int .i64 1) ∧ w' = w := by
  go_enter Tryz.func16, Tryz.ntmps16
  go_wp2
  refine wp_loop_rounds 2 ?_
  rw [rounds_succ]
  go_wp2
  rw [rounds_succ]
  go_wp2
  go_ret
  exact ⟨rfl, rfl⟩

set_option maxHeartbeats 400000 in
theorem fill_none (n g cap : Nat) (w : World) (hn : 1 ≤ n) (hl : n ≤ 100000) (c : UInt8) (hc : ((c.toNat : Int) == 61) = false) (h0 : w.cell? ⟨g, n - 1, none⟩ = some (.int .u8 (c.toNat : Int))) :
    Calls Tryz.prog 16 #[.slice (some ⟨g, 0, none⟩) n cap] w fun e w' => e = .returned (.int .i64 0) ∧ w' = w := by
  go_enter Tryz.func16, Tryz.ntmps16
  go_wp2
  refine wp_loop_rounds 1 ?_
  rw [rounds_succ]
  go_wp2
  go_ret
  exact ⟨rfl, rfl⟩

set_option maxHeartbeats 400000 in
theorem fill_empty (a : Option Addr) (cap : Nat) (w : World) :
    Calls Tryz.prog 16 #[.slice a 0 cap] w fun e w' => e = .returned (.int .i64 0) ∧ w' = w := by
  go_enter Tryz.func16, Tryz.ntmps16
  go_wp2
  refine wp_loop_rounds 1 ?_
  rw [rounds_succ]
  go_wp2
  go_ret
  exact ⟨rfl, rfl⟩

/-- How many = stand at the end, two at most. -/
def fillN (l : List UInt8) : Nat := if l.getD (l.length - 1) 0 = 61 ∧ 1 ≤ l.length then if l.getD (l.length - 2) 0 = 61 ∧ 2 ≤ l.length then 2 else 1 else 0

theorem fillN_le (l : List UInt8) : fillN l ≤ l.length := by
  unfold fillN
  split
  · split <;> omega
  · omega
theorem fillN_two (l : List UInt8) : fillN l ≤ 2 := by
  unfold fillN
  split
  · split <;> omega
  · omega

theorem ne61 (c : UInt8) (h : ¬ c = 61) : ((c.toNat : Int) == 61) = false := by
  rw [show (61 : Int) = ((61 : UInt8).toNat : Int) from rfl, u8eq]
  simpa using h

theorem fill_any (l : List UInt8) (v : Value) (B : Nat) (w : World) (hl : l.length ≤ 100000) (hown : Own w B v l) :
    Calls Tryz.prog 16 #[v] w fun e w' => e = .returned (.int .i64 (fillN l : Nat)) ∧ w' = w := by
  rcases hown.shape with ⟨rfl, rfl⟩ | ⟨g, cap, rfl, _, hg, _, _, hc⟩
  · exact fill_empty _ _ w
  · by_cases h1 : 1 ≤ l.length
    · have c1 := hc (l.length - 1) (by omega)
      have g1 : l.getD (l.length - 1) 0 = l[l.length - 1] := by rw [List.getD_eq_getElem?_getD, List.getElem?_eq_getElem (by omega)]; rfl
      by_cases e1 : l[l.length - 1] = 61
      · rw [e1] at c1
        by_cases h2 : 2 ≤ l.length
        · have c2 := hc (l.length - 2) (by omega)
          have g2 : l.getD (l.length - 2) 0 = l[l.length - 2] := by rw [List.getD_eq_getElem?_getD, List.getElem?_eq_getElem (by omega)]; rfl
          by_cases e2 : l[l.length - 2] = 61
          · rw [e2] at c2
            unfold fillN
            rw [if_pos ⟨g1.trans e1, h1⟩, if_pos ⟨g2.trans e2, h2⟩]
            exact fill_two _ g cap w h2 hl c1 c2
          · unfold fillN
            rw [if_pos ⟨g1.trans e1, h1⟩, if_neg (fun h => e2 (g2 ▸ h.1))]
            exact fill_one _ g cap w h2 hl _ (ne61 _ e2) c1 c2
        · unfold fillN
          rw [if_pos ⟨g1.trans e1, h1⟩, if_neg (fun h => h2 h.2)]
          have hl1 : l.length = 1 := by omega
          rw [hl1] at c1 ⊢
          exact fill_single g cap w c1
      · unfold fillN
        rw [if_neg (fun h => e1 (g1 ▸ h.1))]
        exact fill_none _ g cap w h1 hl _ (ne61 _ e1) c1
    · have hl0 : l.length = 0 := by omega
      unfold fillN
      rw [if_neg (fun h => h1 h.2), hl0]
      exact fill_empty _ _ w

end Go.Proofs.YtkgpmahlkglaaaaGreatDoor
