import Derived.Test.YtkgpmahlkglaaaaGreatDoorR8
import Derived.Test.YtkgpmahlkglaaaaGreatDoorShelf2
namespace Go.Proofs.YtkgpmahlkglaaaaGreatDoor
open Go.RowKit

theorem hexv_upper (c : UInt8) (h : c.toNat < 128) : digv (Lib.upperB c) = hexv c := by
  have key : ∀ n : Fin 128, digv (Lib.upperB (UInt8.ofNat n.val)) = hexv (UInt8.ofNat n.val) := by decide +kernel
  have := key ⟨c.toNat, h⟩
  simpa using this
theorem hexv_high (c : UInt8) (h : 126 < c.toNat) : hexv c < 0 := by
  have key : ∀ n : Fin 256, 126 < n.val → hexv (UInt8.ofNat n.val) < 0 := by decide +kernel
  have := key ⟨c.toNat, c.toNat_lt⟩ h
  simpa using this

theorem upper_one (c : UInt8) (w : World) (h : c.toNat < 128) :
    Calls Tryz.prog 32 #[.string ⟨#[c]⟩] w fun e w' => e = .returned (.string ⟨#[Lib.upperB c]⟩) ∧ Below w.heap.size w w' := by
  refine (Tryz.strings_ToUpper_ascii ⟨#[c]⟩ w (by simp [ByteArray.size]) ?_).mono ?_
  · intro j b hj
    have hl : j < 1 := by
      have := (List.getElem?_eq_some_iff.1 hj).1
      simpa using this
    have : j = 0 := by omega
    subst this
    simp at hj
    rw [← hj]; exact h
  · rintro e w' ⟨rfl, hb⟩
    exact ⟨rfl, hb⟩

set_option maxHeartbeats 1000000 in
theorem hexOf_any (c : UInt8) (w : World) (h : c.toNat < 128) :
    Calls Tryz.prog 20 #[.int .u8 (c.toNat : Int)] w fun e w' => e = .returned (.int .i64 (hexv c)) ∧ Below w.heap.size w w' := by
  have HV : Box (digv (Lib.upperB c) = hexv c) := ⟨hexv_upper c h⟩
  have hcv := one_str w c _ rfl
  go_enter Tryz.func20, Tryz.ntmps20
  go_wp2_with fail
  refine (upper_one c _ h).mono ?_
  rintro e w1 ⟨rfl, hb1⟩
  generalize Lib.upperB c = d at HV
  go_wp2_with (go_at_call 29; refine (idx_dig _ d rfl _).mono ?_; rintro e w' ⟨rfl, rfl⟩)
  go_ret
  exact ⟨ret_int HV.out, ((Below.refl _ _).alloc (Nat.le_refl _) _).trans (hb1.mono (by simp))⟩

end Go.Proofs.YtkgpmahlkglaaaaGreatDoor
