import Derived.Test.YtkgpmahlkglaaaaGreatDoorW10
import Derived.WalkSmall
import Derived.Lib.IndexMore
namespace Go.Proofs.YtkgpmahlkglaaaaGreatDoor
open Go.RowKit

/-- The variable of the library's that its search reads. -/
def Max (w : World) : Prop := 0 < w.heap.size ∧ ∃ m, w.cell? ⟨0, 0, none⟩ = some (.int .i64 m)
theorem Max.below {w w' : World} {B : Nat} (h : Max w) (hb : Below B w w') (hB : 0 < B) : Max w' := by
  obtain ⟨h0, m, hm⟩ := h
  exact ⟨Nat.lt_of_lt_of_le h0 hb.size, m, (hb.cell (p := ⟨0, 0, none⟩) hB).trans hm⟩

theorem below_draws (w : World) (n : Nat) : Below w.heap.size w (w.drewN n) := by
  induction n with
  | zero => exact Below.refl _ _
  | succ n ih => exact ih.drew

theorem size_mk (l : List UInt8) : (ByteArray.mk l.toArray).size = l.length := by simp [ByteArray.size]

theorem cut_any (s : ByteArray) (w : World) (hs : s.size ≤ 100000) (hm : Max w) :
    Calls Tryz.prog 22 #[.string s, .string ⟨#[13, 10]⟩] w fun e w' => ∃ a b f, e = .returned (.tuple #[.string a, .string b, .bool f]) ∧ Lib.cut s.data.toList [13, 10] = (a.data.toList, b.data.toList, f) ∧ ((f = true ∧ a.size + 2 + b.size = s.size) ∨ (f = false ∧ a.size = s.size ∧ b.size = 0)) ∧ Below w.heap.size w w' := by
  obtain ⟨_, m, hm⟩ := hm
  refine (Tryz.strings_Cut s ⟨#[13, 10]⟩ m w (by omega) hm).mono ?_
  rintro e w' ⟨rfl, n, rfl⟩
  have hsz := size_list s
  refine ⟨_, _, _, rfl, rfl, ?_, below_draws _ _⟩
  rw [size_mk, size_mk]
  show ((Lib.cut s.data.toList [13, 10]).2.2 = true ∧ (Lib.cut s.data.toList [13, 10]).1.length + 2 + (Lib.cut s.data.toList [13, 10]).2.1.length = s.size) ∨ ((Lib.cut s.data.toList [13, 10]).2.2 = false ∧ (Lib.cut s.data.toList [13, 10]).1.length = s.size ∧ (Lib.cut s.data.toList [13, 10]).2.1.length = 0)
  by_cases h0 : 0 ≤ Lib.index s.data.toList [13, 10]
  · left
    have hr := Lib.index_room s.data.toList [13, 10] h0
    unfold Lib.cut
    rw [if_pos h0]
    refine ⟨rfl, ?_⟩
    show (s.data.toList.take _).length + 2 + (s.data.toList.drop _).length = _
    rw [List.length_take, List.length_drop]
    simp only [List.length_cons, List.length_nil] at hr ⊢
    omega
  · right
    unfold Lib.cut
    rw [if_neg h0]
    exact ⟨rfl, hsz, rfl⟩

theorem trim_len (l c : List UInt8) : (Lib.trimRightS l c).length ≤ l.length := by
  unfold Lib.trimRightS
  rw [List.length_reverse]
  have := (List.dropWhile_sublist (fun x => c.contains x) (l := l.reverse)).length_le
  simpa using this

theorem trim_any (s : ByteArray) (w : World) (hs : s.size ≤ 100000) :
    Calls Tryz.prog 24 #[.string s, .string ⟨#[32, 9]⟩] w fun e w' => ∃ t, e = .returned (.string t) ∧ t.data.toList = Lib.trimRightS s.data.toList [32, 9] ∧ t.size ≤ s.size ∧ Below w.heap.size w w' := by
  refine (Tryz.strings_TrimRight_laid s ⟨#[32, 9]⟩ w (by omega) (by decide) ?_).mono ?_
  · intro j b hj
    match j, hj with
    | 0, hj => cases hj; decide
    | 1, hj => cases hj; decide
    | j + 2, hj => simp at hj
  · rintro e w' ⟨rfl, hb⟩
    refine ⟨_, rfl, rfl, ?_, hb⟩
    rw [size_mk, ← size_list s]
    exact trim_len _ _

theorem trimSuffix_len (l c : List UInt8) : (Lib.trimSuffix l c).length ≤ l.length := by
  unfold Lib.trimSuffix
  split
  · exact List.length_take_le' _ _
  · exact Nat.le_refl _

theorem cutSuffix_any (s : ByteArray) (w : World) (hs : s.size ≤ 100000) :
    Calls Tryz.prog 23 #[.string s, .string ⟨#[61]⟩] w fun e w' => ∃ t f, e = .returned (.tuple #[.string t, .bool f]) ∧ t.data.toList = Lib.trimSuffix s.data.toList [61] ∧ f = Lib.hasSuffix s.data.toList [61] ∧ t.size ≤ s.size ∧ w' = w := by
  refine (Tryz.strings_CutSuffix s ⟨#[61]⟩ w (by omega)).mono ?_
  rintro e w' ⟨rfl, rfl⟩
  refine ⟨_, _, rfl, rfl, rfl, ?_, rfl⟩
  rw [size_mk, ← size_list s]
  exact trimSuffix_len _ _

end Go.Proofs.YtkgpmahlkglaaaaGreatDoor
