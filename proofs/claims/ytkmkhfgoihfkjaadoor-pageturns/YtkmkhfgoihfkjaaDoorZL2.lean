import Derived.Test.YtkmkhfgoihfkjaaDoorZL1
namespace Go.Proofs.YtkmkhfgoihfkjaaDoor
open Go.RowKit

def bgA : ByteArray := ⟨#[98, 97, 99, 107, 103, 114, 111, 117, 110, 100]⟩
def hrA : ByteArray := ⟨#[104, 114, 101, 102]⟩
def srA : ByteArray := ⟨#[115, 114, 99]⟩
def scA : ByteArray := ⟨#[115, 99, 114, 105, 112, 116]⟩
def stA : ByteArray := ⟨#[115, 116, 121, 108, 101]⟩
def txA : ByteArray := ⟨#[116, 101, 120, 116, 97, 114, 101, 97]⟩
def tiA : ByteArray := ⟨#[116, 105, 116, 108, 101]⟩
theorem bstr (n s : ByteArray) : (n.toList == s.toList) = (n.data.toList == s.data.toList) := by rw [ByteArray.toList_eq, ByteArray.toList_eq]
theorem bcomm (x y : List UInt8) : (x == y) = (y == x) := by rw [Bool.eq_iff_iff, beq_iff_eq, beq_iff_eq]; exact eq_comm
structure Leads (w : World) : Prop where
  c0 : w.cell? ⟨3, 0, none⟩ = some (.string bgA)
  c1 : w.cell? ⟨3, 1, none⟩ = some (.string hrA)
  c2 : w.cell? ⟨3, 2, none⟩ = some (.string srA)
theorem idx3_0 (a b c : Value) : ∀ w : World, (Instr.index 69 (.agg #[a, b, c]) (.int .i64 0)).run Tryd.prog w = .ok a w := fun w => by kernel_rfl
theorem idx3_1 (a b c : Value) : ∀ w : World, (Instr.index 69 (.agg #[a, b, c]) (.int .i64 1)).run Tryd.prog w = .ok b w := fun w => by kernel_rfl
theorem idx3_2 (a b c : Value) : ∀ w : World, (Instr.index 69 (.agg #[a, b, c]) (.int .i64 2)).run Tryd.prog w = .ok c w := fun w => by kernel_rfl

set_option maxHeartbeats 800000 in
theorem isLeading_any (s : ByteArray) (w : World) (h : Leads w) :
    Calls Tryd.prog 38 #[.string s] w fun e w' => e = .returned (.bool (linkNames.contains s.data.toList)) ∧ w' = w := by
  obtain ⟨c0, c1, c2⟩ := h
  obtain ⟨q, HQ⟩ : ∃ q, Box (linkNames.contains s.data.toList = q) := ⟨_, ⟨rfl⟩⟩
  rw [HQ.out]
  have i0 := idx3_0 (.string bgA) (.string hrA) (.string srA)
  have i1 := idx3_1 (.string bgA) (.string hrA) (.string srA)
  have i2 := idx3_2 (.string bgA) (.string hrA) (.string srA)
  obtain ⟨q0, hq0⟩ : ∃ q0, (bgA.toList == s.toList) = q0 := ⟨_, rfl⟩
  obtain ⟨q1, hq1⟩ : ∃ q1, (hrA.toList == s.toList) = q1 := ⟨_, rfl⟩
  obtain ⟨q2, hq2⟩ : ∃ q2, (srA.toList == s.toList) = q2 := ⟨_, rfl⟩
  have HE : Box (q = (q2 || (q1 || q0))) := ⟨by
    rw [← HQ.out, ← hq0, ← hq1, ← hq2, bstr, bstr, bstr, bcomm bgA.data.toList, bcomm hrA.data.toList, bcomm srA.data.toList]
    simp only [linkNames, List.contains_cons, List.contains_nil, Bool.or_false]
    rfl⟩
  clear HQ
  go_enter Tryd.func38, Tryd.ntmps38
  go_wp2
  go_loop [6] (fun i => ∃ k : Nat, k ≤ 3 ∧ i = .int .i64 k ∧ Box ((0 < k → q0 = false) ∧ (1 < k → q1 = false) ∧ (2 < k → q2 = false))) (fun i => 3 - (intOf i).toNat)
  case atStart => exact ⟨0, by omega, rfl, ⟨fun h => absurd h (by omega), fun h => absurd h (by omega), fun h => absurd h (by omega)⟩⟩
  case round =>
    obtain ⟨k, hk, rfl, HA⟩ := hrel
    obtain rfl | rfl | rfl | rfl : k = 0 ∨ k = 1 ∨ k = 2 ∨ k = 3 := by omega
    · cases q0
      · go_wp2
        go_round
        case rel => exact ⟨1, by omega, by go_num, ⟨fun _ => by first | rfl | trivial, fun h => absurd h (by omega), fun h => absurd h (by omega)⟩⟩
        case measure => simp [intOf]
      · go_wp2
        go_ret
        exact ⟨ret_bool (by rw [HE.out]; simp), rfl⟩
    · have h0 := HA.out.1 (by omega)
      cases q1
      · go_wp2
        go_round
        case rel => exact ⟨2, by omega, by go_num, ⟨fun _ => h0, fun _ => by first | rfl | trivial, fun h => absurd h (by omega)⟩⟩
        case measure => simp [intOf]
      · go_wp2
        go_ret
        exact ⟨ret_bool (by rw [HE.out]; simp), rfl⟩
    · have h0 := HA.out.1 (by omega)
      have h1 := HA.out.2.1 (by omega)
      cases q2
      · go_wp2
        go_round
        case rel => exact ⟨3, by omega, by go_num, ⟨fun _ => h0, fun _ => h1, fun _ => by first | rfl | trivial⟩⟩
        case measure => simp [intOf]
      · go_wp2
        go_ret
        exact ⟨ret_bool (by rw [HE.out]; simp), rfl⟩
    · have HF : Box (q = false) := ⟨by rw [HE.out, HA.out.1 (by omega), HA.out.2.1 (by omega), HA.out.2.2 (by omega)]; rfl⟩
      go_wp2
      go_ret
      exact ⟨ret_bool HF.out.symm, rfl⟩

structure Verbs (w : World) : Prop where
  c0 : w.cell? ⟨1, 0, none⟩ = some (.string scA)
  c1 : w.cell? ⟨1, 1, none⟩ = some (.string stA)
  c2 : w.cell? ⟨1, 2, none⟩ = some (.string txA)
  c3 : w.cell? ⟨1, 3, none⟩ = some (.string tiA)
theorem idx4_0 (a b c d : Value) : ∀ w : World, (Instr.index 64 (.agg #[a, b, c, d]) (.int .i64 0)).run Tryd.prog w = .ok a w := fun w => by kernel_rfl
theorem idx4_1 (a b c d : Value) : ∀ w : World, (Instr.index 64 (.agg #[a, b, c, d]) (.int .i64 1)).run Tryd.prog w = .ok b w := fun w => by kernel_rfl
theorem idx4_2 (a b c d : Value) : ∀ w : World, (Instr.index 64 (.agg #[a, b, c, d]) (.int .i64 2)).run Tryd.prog w = .ok c w := fun w => by kernel_rfl
theorem idx4_3 (a b c d : Value) : ∀ w : World, (Instr.index 64 (.agg #[a, b, c, d]) (.int .i64 3)).run Tryd.prog w = .ok d w := fun w => by kernel_rfl

set_option maxHeartbeats 800000 in
theorem isVerbatim_any (s : ByteArray) (w : World) (h : Verbs w) :
    Calls Tryd.prog 27 #[.string s] w fun e w' => e = .returned (.bool (skipNames.contains s.data.toList)) ∧ w' = w := by
  obtain ⟨c0, c1, c2, c3⟩ := h
  obtain ⟨q, HQ⟩ : ∃ q, Box (skipNames.contains s.data.toList = q) := ⟨_, ⟨rfl⟩⟩
  rw [HQ.out]
  have i0 := idx4_0 (.string scA) (.string stA) (.string txA) (.string tiA)
  have i1 := idx4_1 (.string scA) (.string stA) (.string txA) (.string tiA)
  have i2 := idx4_2 (.string scA) (.string stA) (.string txA) (.string tiA)
  have i3 := idx4_3 (.string scA) (.string stA) (.string txA) (.string tiA)
  obtain ⟨q0, hq0⟩ : ∃ q0, (scA.toList == s.toList) = q0 := ⟨_, rfl⟩
  obtain ⟨q1, hq1⟩ : ∃ q1, (stA.toList == s.toList) = q1 := ⟨_, rfl⟩
  obtain ⟨q2, hq2⟩ : ∃ q2, (txA.toList == s.toList) = q2 := ⟨_, rfl⟩
  obtain ⟨q3, hq3⟩ : ∃ q3, (tiA.toList == s.toList) = q3 := ⟨_, rfl⟩
  have HE : Box (q = (q0 || (q1 || (q2 || q3)))) := ⟨by
    rw [← HQ.out, ← hq0, ← hq1, ← hq2, ← hq3, bstr, bstr, bstr, bstr, bcomm scA.data.toList, bcomm stA.data.toList, bcomm txA.data.toList, bcomm tiA.data.toList]
    simp only [skipNames, List.contains_cons, List.contains_nil, Bool.or_false]
    rfl⟩
  clear HQ
  go_enter Tryd.func27, Tryd.ntmps27
  go_wp2
  go_loop [6] (fun i => ∃ k : Nat, k ≤ 4 ∧ i = .int .i64 k ∧ Box ((0 < k → q0 = false) ∧ (1 < k → q1 = false) ∧ (2 < k → q2 = false) ∧ (3 < k → q3 = false))) (fun i => 4 - (intOf i).toNat)
  case atStart => exact ⟨0, by omega, rfl, ⟨fun h => absurd h (by omega), fun h => absurd h (by omega), fun h => absurd h (by omega), fun h => absurd h (by omega)⟩⟩
  case round =>
    obtain ⟨k, hk, rfl, HA⟩ := hrel
    obtain rfl | rfl | rfl | rfl | rfl : k = 0 ∨ k = 1 ∨ k = 2 ∨ k = 3 ∨ k = 4 := by omega
    · cases q0
      · go_wp2
        go_round
        case rel => exact ⟨1, by omega, by go_num, ⟨fun _ => by first | rfl | trivial, fun h => absurd h (by omega), fun h => absurd h (by omega), fun h => absurd h (by omega)⟩⟩
        case measure => simp [intOf]
      · go_wp2
        go_ret
        exact ⟨ret_bool (by rw [HE.out]; simp), rfl⟩
    · have h0 := HA.out.1 (by omega)
      cases q1
      · go_wp2
        go_round
        case rel => exact ⟨2, by omega, by go_num, ⟨fun _ => h0, fun _ => by first | rfl | trivial, fun h => absurd h (by omega), fun h => absurd h (by omega)⟩⟩
        case measure => simp [intOf]
      · go_wp2
        go_ret
        exact ⟨ret_bool (by rw [HE.out]; simp), rfl⟩
    · have h0 := HA.out.1 (by omega)
      have h1 := HA.out.2.1 (by omega)
      cases q2
      · go_wp2
        go_round
        case rel => exact ⟨3, by omega, by go_num, ⟨fun _ => h0, fun _ => h1, fun _ => by first | rfl | trivial, fun h => absurd h (by omega)⟩⟩
        case measure => simp [intOf]
      · go_wp2
        go_ret
        exact ⟨ret_bool (by rw [HE.out]; simp), rfl⟩
    · have h0 := HA.out.1 (by omega)
      have h1 := HA.out.2.1 (by omega)
      have h2 := HA.out.2.2.1 (by omega)
      cases q3
      · go_wp2
        go_round
        case rel => exact ⟨4, by omega, by go_num, ⟨fun _ => h0, fun _ => h1, fun _ => h2, fun _ => by first | rfl | trivial⟩⟩
        case measure => simp [intOf]
      · go_wp2
        go_ret
        exact ⟨ret_bool (by rw [HE.out]; simp), rfl⟩
    · have HF : Box (q = false) := ⟨by rw [HE.out, HA.out.1 (by omega), HA.out.2.1 (by omega), HA.out.2.2.1 (by omega), HA.out.2.2.2 (by omega)]; rfl⟩
      go_wp2
      go_ret
      exact ⟨ret_bool HF.out.symm, rfl⟩

end Go.Proofs.YtkmkhfgoihfkjaaDoor
