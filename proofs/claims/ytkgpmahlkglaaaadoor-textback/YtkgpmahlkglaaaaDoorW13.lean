import Derived.Test.YtkgpmahlkglaaaaDoorW12
namespace Go.Proofs.YtkgpmahlkglaaaaDoor
open Go.RowKit

def okByte (c : UInt8) : Prop := (32 ≤ c.toNat ∧ c.toNat ≤ 126) ∨ c = 9
def okLine (p : ByteArray) : Prop := p.size ≤ 76 ∧ Lib.hasSuffix p.data.toList [32] = false ∧ Lib.hasSuffix p.data.toList [9] = false ∧ ∀ k (h : k < p.size), okByte p[k]

theorem suffix_any (s : ByteArray) (c : UInt8) (w : World) (hs : s.size ≤ 100000) (h : Lib.hasSuffix s.data.toList [c] = false) :
    Calls Tryd.prog 22 #[.string s, .string ⟨#[c]⟩] w fun e w' => e = .returned (.bool false) ∧ w' = w := by
  refine (Tryd.strings_HasSuffix s ⟨#[c]⟩ w (by omega)).mono ?_
  rintro e w' ⟨rfl, rfl⟩
  exact ⟨ret_bool h, rfl⟩

set_option maxHeartbeats 1600000 in
theorem lines_true (s : ByteArray) (w : World) (hs : s.size ≤ 20000) (hm : Max w) (L : List ByteArray) (hL : Lib.splitB ⟨#[13, 10]⟩ 0 (Lib.countB s ⟨#[13, 10]⟩) s = L) (hn : L.length = Lib.countB s ⟨#[13, 10]⟩ + 1) (hn2 : L.length ≤ 100000) (hp : ∀ p ∈ L, okLine p) :
    Calls Tryd.prog 9 #[.string s] w fun e w' => e = .returned (.bool true) ∧ Below w.heap.size w w' := by
  have HL := Hid.mk hL
  have HN := Hid.mk hn
  clear hL hn
  obtain ⟨_, m, hm⟩ := hm
  go_enter Tryd.func9, Tryd.ntmps9
  go_wp2_with fail
  refine (Tryd.strings_Split s ⟨#[13, 10]⟩ m w (by omega) hm (by decide)).mono ?_
  rintro e w1 ⟨rfl, rfl⟩
  rw [HL.out, ← HN.out]
  have hcell : ∀ k (hk : k < L.length), (w.alloc (.cells (L.map Value.string).toArray 9)).cell? ⟨w.heap.size, k, none⟩ = some (.string L[k]) := by
    intro k hk
    simp [hk]
  have hbelow : Below w.heap.size w (w.alloc (.cells (L.map Value.string).toArray 9)) := (Below.refl _ _).alloc (Nat.le_refl _) _
  clear HL HN hm
  generalize w.alloc (.cells (L.map Value.string).toArray 9) = W at hcell hbelow ⊢
  have HP : Hid (∀ p ∈ L, okLine p) := hp
  have HCell : Hid (∀ k (hk : k < L.length), W.cell? ⟨w.heap.size, k, none⟩ = some (.string L[k])) := hcell
  clear hp hcell
  go_wp2
  go_loop [10] (fun i => ∃ k : Nat, k ≤ L.length ∧ i = .int .i64 k) (fun i => L.length - (intOf i).toNat)
  case atStart => exact ⟨0, Nat.zero_le _, rfl⟩
  case round =>
    obtain ⟨k, hk, rfl⟩ := hrel
    by_cases hlt : k < L.length
    · have hcx := HCell.out k hlt
      obtain ⟨h1, h2, h3, h4⟩ := HP.out L[k] (List.getElem_mem hlt)
      generalize L[k] = p at hcx h1 h2 h3 h4
      have HS2 := Hid.mk h2
      have HS3 := Hid.mk h3
      have HS4 : Hid (∀ k (h : k < p.size), okByte p[k]) := h4
      clear h2 h3 h4
      have t76 : decide (76 < (p.size : Int)) = false := by simp; omega
      go_wp2_with (first | (go_at_call 22; refine (suffix_any p 32 _ (by omega) HS2.out).mono ?_; rintro e w' ⟨rfl, rfl⟩) | (go_at_call 22; refine (suffix_any p 9 _ (by omega) HS3.out).mono ?_; rintro e w' ⟨rfl, rfl⟩))
      go_loop [5] (fun i => ∃ j : Nat, j ≤ p.size ∧ i = .int .i64 j) (fun i => p.size - (intOf i).toNat)
      case atStart => exact ⟨0, Nat.zero_le _, rfl⟩
      case round =>
        obtain ⟨j, hj, rfl⟩ := hrel
        by_cases hjl : j < p.size
        · rcases HS4.out j hjl with ⟨c1, c2⟩ | c1
          · have d1 : (32 : Int) ≤ (p[j].toNat : Int) := by omega
            have d2 : (p[j].toNat : Int) ≤ 126 := by omega
            clear c1 c2
            go_wp2
            go_round
            case rel => exact ⟨j + 1, by omega, by go_num⟩
            case measure => simp [intOf]; omega
          · have d1 : (p[j].toNat : Int) < 32 := by rw [c1]; decide
            have d2 : ((p[j].toNat : Int) != 9) = false := by rw [c1]; rfl
            clear c1
            go_wp2
            go_round
            case rel => exact ⟨j + 1, by omega, by go_num⟩
            case measure => simp [intOf]; omega
        · go_wp2
          go_round
          case rel => exact ⟨k + 1, by omega, by go_num⟩
          case measure => simp [intOf]; omega
    · go_wp2
      go_ret
      exact ⟨rfl, hbelow⟩

end Go.Proofs.YtkgpmahlkglaaaaDoor
