import Derived.Test.YtkgpmahlkglaaaaGreatDoorW12
namespace Go.Proofs.YtkgpmahlkglaaaaGreatDoor
open Go.RowKit

set_option maxHeartbeats 400000 in
theorem in_any (n a b : Int) (w : World) : Calls Tryz.prog 21 #[.int .i64 n, .int .i64 a, .int .i64 b] w fun e w' => e = .returned (.bool (decide (a ≤ n) && decide (n ≤ b))) ∧ w' = w := by
  go_enter Tryz.func21, Tryz.ntmps21
  go_wp2
  all_goals
    go_ret
    refine ⟨ret_bool ?_, rfl⟩
    simp [*] <;> omega

set_option maxHeartbeats 400000 in
theorem letter_any (n : Nat) (h : n < 64) (w : World) : Calls Tryz.prog 13 #[.int .i64 (n : Int)] w fun e w' => e = .returned (.int .u8 ((lett n).toNat : Int)) ∧ w' = w := by
  have key : ∀ n : Fin 64, (lett n.val).toNat = if n.val < 26 then 65 + n.val else if n.val < 52 then 97 + n.val - 26 else if n.val < 62 then 48 + n.val - 52 else if n.val = 62 then 43 else 47 := by decide +kernel
  have HK := Hid.mk (key ⟨n, h⟩)
  clear key
  by_cases h1 : n < 26
  · have HE : Hid ((lett n).toNat = 65 + n) := by show _ = _; rw [HK.out]; simp [h1]
    clear HK
    go_enter Tryz.func13, Tryz.ntmps13
    go_wp2
    go_ret
    exact ⟨ret_int (by rw [HE.out]; omega), rfl⟩
  by_cases h2 : n < 52
  · have HE : Hid ((lett n).toNat = 97 + n - 26) := by show _ = _; rw [HK.out]; simp [h1, h2]
    clear HK
    go_enter Tryz.func13, Tryz.ntmps13
    go_wp2
    go_ret
    exact ⟨ret_int (by rw [HE.out]; omega), rfl⟩
  by_cases h3 : n < 62
  · have HE : Hid ((lett n).toNat = 48 + n - 52) := by show _ = _; rw [HK.out]; simp [h1, h2, h3]
    clear HK
    go_enter Tryz.func13, Tryz.ntmps13
    go_wp2
    go_ret
    exact ⟨ret_int (by rw [HE.out]; omega), rfl⟩
  by_cases h4 : n = 62
  · have HE : Hid ((lett n).toNat = 43) := by show _ = _; rw [HK.out]; simp [h4]
    have t : ((n : Int) == 62) = true := by rw [beq_iff_eq]; omega
    clear HK h4
    go_enter Tryz.func13, Tryz.ntmps13
    go_wp2
    go_ret
    exact ⟨ret_int (by rw [HE.out]; rfl), rfl⟩
  · have HE : Hid ((lett n).toNat = 47) := by show _ = _; rw [HK.out]; simp [h1, h2, h3, h4]
    have t : ((n : Int) == 62) = false := by rw [beq_eq_false_iff_ne]; omega
    clear HK h4
    go_enter Tryz.func13, Tryz.ntmps13
    go_wp2
    go_ret
    exact ⟨ret_int (by rw [HE.out]; rfl), rfl⟩

theorem one_str (w : World) (c : UInt8) (z : Int) (hz : z = (c.toNat : Int)) : (convert 32 9 (.slice (some ⟨w.heap.size, 0, none⟩) 1 1)).run Tryz.prog (w.alloc (.cells #[.int .u8 z] 5)) = .ok (.string ⟨#[c]⟩) (w.alloc (.cells #[.int .u8 z] 5)) := by
  subst hz
  exact (Own.lit w w.heap.size [c] 1 rfl (Nat.le_refl _) (by decide)).string
theorem two_str (w : World) (c d : UInt8) : (convert 32 9 (.slice (some ⟨w.heap.size, 0, none⟩) 2 2)).run Tryz.prog (w.alloc (.cells #[.int .u8 (c.toNat : Int), .int .u8 (d.toNat : Int)] 5)) = .ok (.string ⟨#[c, d]⟩) (w.alloc (.cells #[.int .u8 (c.toNat : Int), .int .u8 (d.toNat : Int)] 5)) :=
  (Own.lit w w.heap.size [c, d] 2 rfl (Nat.le_refl _) (by decide)).string

end Go.Proofs.YtkgpmahlkglaaaaGreatDoor
