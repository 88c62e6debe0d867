import Derived.Test.YtkgpmahlkglaaaaGreatDoorB0
namespace Go.Proofs.YtkgpmahlkglaaaaGreatDoor
open Go.RowKit

def isBlank (c : UInt8) : Bool := c == 32 || c == 9
def isLetter (c : UInt8) : Bool := 33 ≤ c && c ≤ 126 && c != 61

theorem u8eq (c d : UInt8) : ((c.toNat : Int) == (d.toNat : Int)) = (c == d) := by
  rw [Bool.eq_iff_iff]; simp [← UInt8.toNat_inj]; omega

set_option maxHeartbeats 400000 in
theorem isBlank_any (c : UInt8) (w : World) :
    Calls Tryz.prog 41 #[.int .u8 (c.toNat : Int)] w fun e w' => e = .returned (.bool (isBlank c)) ∧ w' = w := by
  have e1 := u8eq c 32
  have e2 := u8eq c 9
  have H : Hid (isBlank c = (((c.toNat : Int) == 32) || ((c.toNat : Int) == 9))) := by
    show _ = _
    unfold isBlank
    rw [← e1, ← e2]; rfl
  clear e1 e2
  go_enter Tryz.func41, Tryz.ntmps41
  go_wp2
  all_goals
    go_ret
    exact ⟨ret_bool (by rw [H.out]; try simp [*]), rfl⟩

set_option maxHeartbeats 400000 in
theorem isLetter_any (c : UInt8) (w : World) :
    Calls Tryz.prog 40 #[.int .u8 (c.toNat : Int)] w fun e w' => e = .returned (.bool (isLetter c)) ∧ w' = w := by
  have H : Hid (isLetter c = (decide (33 ≤ (c.toNat : Int)) && decide ((c.toNat : Int) ≤ 126) && !((c.toNat : Int) == 61))) := by
    show _ = _
    have e1 := u8eq c 61
    unfold isLetter
    have e2 : decide (33 ≤ (c.toNat : Int)) = decide (33 ≤ c) := by rw [decide_eq_decide, UInt8.le_iff_toNat_le]; show (33 : Int) ≤ _ ↔ 33 ≤ c.toNat; omega
    have e3 : decide ((c.toNat : Int) ≤ 126) = decide (c ≤ 126) := by rw [decide_eq_decide, UInt8.le_iff_toNat_le]; show _ ≤ (126 : Int) ↔ c.toNat ≤ 126; omega
    rw [e2, e3, show (61 : Int) = ((61 : UInt8).toNat : Int) from rfl, e1]; rfl
  go_enter Tryz.func40, Tryz.ntmps40
  go_wp2
  all_goals
    go_ret
    refine ⟨ret_bool ?_, rfl⟩
    rw [H.out]
    have h0 : True := trivial
    simp [*, bne]
    try omega

end Go.Proofs.YtkgpmahlkglaaaaGreatDoor
