import Derived.Test.YtkmkhfgoihfkjaaDoorZL3
namespace Go.Proofs.YtkmkhfgoihfkjaaDoor
open Go.RowKit

set_option maxHeartbeats 800000 in
theorem clEsc_any (x : UInt8 × ByteArray) (p q : Nat) (s : ByteArray) (k : Nat) (w : World) (h1 : w.cell? ⟨p, 0, none⟩ = some (.string s)) (h2 : w.cell? ⟨q, 0, none⟩ = some (.int .i64 (k : Int))) (hk : k < s.size) :
    Calls Tryd.prog 31 #[.agg #[.int .u8 (x.1.toNat : Int), .string x.2], .pointer (some ⟨p, 0, none⟩), .pointer (some ⟨q, 0, none⟩)] w fun e w' => e = .returned (.bool (x.1 == s[k])) ∧ Below w.heap.size w w' := by
  have hp := World.block_lt_of_cell? w _ h1
  have hq := World.block_lt_of_cell? w _ h2
  have hk0 : (0 : Int) ≤ (k : Int) := by omega
  have hk1 : (k : Int) < (s.size : Int) := by omega
  have hE : ((x.1.toNat : Int) == (s[k].toNat : Int)) = (x.1 == s[k]) := by
    rw [Bool.eq_iff_iff, beq_iff_eq, beq_iff_eq, ← UInt8.toNat_inj]
    omega
  go_enter Tryd.func31, Tryd.ntmps31
  go_wp2
  go_region
  go_wp2
  go_ret
  exact ⟨rfl, ((Below.refl _ _).alloc (Nat.le_refl _) _).drew⟩

theorem has_prefix (s p : List UInt8) : Lib.hasPrefix s p = p.isPrefixOf s := rfl

set_option maxHeartbeats 800000 in
theorem clSaid_any (x : UInt8 × ByteArray) (p q : Nat) (s : ByteArray) (k : Nat) (w : World) (h1 : w.cell? ⟨p, 0, none⟩ = some (.string s)) (h2 : w.cell? ⟨q, 0, none⟩ = some (.int .i64 (k : Int))) (hk : k < s.size) :
    Calls Tryd.prog 42 #[.agg #[.int .u8 (x.1.toNat : Int), .string x.2], .pointer (some ⟨p, 0, none⟩), .pointer (some ⟨q, 0, none⟩)] w fun e w' => e = .returned (.bool (x.2.data.toList.isPrefixOf (s.data.toList.drop k))) ∧ Below w.heap.size w w' := by
  have hp := World.block_lt_of_cell? w _ h1
  have hq := World.block_lt_of_cell? w _ h2
  have hk0 : (0 : Int) ≤ (k : Int) := by omega
  have hk1 : (k : Int) ≤ (s.size : Int) := by omega
  have ex : (s.extract k s.size).data.toList = s.data.toList.drop k := by
    rw [extract_list, List.take_of_length_le (by rw [List.length_drop, size_list]; exact Nat.le_refl _)]
  obtain ⟨z, HZ⟩ : ∃ z, Box (x.2.data.toList.isPrefixOf (s.data.toList.drop k) = z) := ⟨_, ⟨rfl⟩⟩
  rw [HZ.out]
  have hb0 : Below w.heap.size w (w.alloc (.cells #[.int .u8 (x.1.toNat : Int), .string x.2] 55)) := (Below.refl _ _).alloc (Nat.le_refl _) _
  have HK : Box (∀ w', Below (w.alloc (.cells #[.int .u8 (x.1.toNat : Int), .string x.2] 55)).heap.size (w.alloc (.cells #[.int .u8 (x.1.toNat : Int), .string x.2] 55)) w' → w'.cell? ⟨p, 0, none⟩ = some (.string s) ∧ w'.cell? ⟨q, 0, none⟩ = some (.int .i64 (k : Int)) ∧ w'.cell? ⟨w.heap.size, 1, none⟩ = some (.string x.2) ∧ Below (w.alloc (.cells #[.int .u8 (x.1.toNat : Int), .string x.2] 55)).heap.size (w.alloc (.cells #[.int .u8 (x.1.toNat : Int), .string x.2] 55)) w') := ⟨fun w' hb => by
    obtain ⟨y0, y1, y2, y3, y4⟩ := obj2_of (alloc_new w (.cells #[.int .u8 (x.1.toNat : Int), .string x.2] 55))
    exact pkeep3 ((hb0.cell (p := ⟨p, 0, none⟩) hp).trans h1) ((hb0.cell (p := ⟨q, 0, none⟩) hq).trans h2) y1 hb⟩
  go_enter Tryd.func42, Tryd.ntmps42
  go_wp2_with fail
  go_region_held3 (fun w' => w'.cell? ⟨p, 0, none⟩ = some (.string s) ∧ w'.cell? ⟨q, 0, none⟩ = some (.int .i64 (k : Int)) ∧ w'.cell? ⟨w.heap.size, 1, none⟩ = some (.string x.2) ∧ Below (w.alloc (.cells #[.int .u8 (x.1.toNat : Int), .string x.2] 55)).heap.size (w.alloc (.cells #[.int .u8 (x.1.toNat : Int), .string x.2] 55)) w')
    ((first | assumption | exact HK.out _ (Below.refl _ _).drew))
    (first
      | (go_at_call 16; refine (Tryd.strings_HasPrefix _ _ _).mono ?_; rw [ex, has_prefix, HZ.out]; rintro e w5 ⟨rfl, rfl⟩))
  all_goals
    go_wp2
    go_ret
    exact ⟨rfl, hb0.drew⟩

end Go.Proofs.YtkmkhfgoihfkjaaDoor
