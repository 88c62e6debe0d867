import Derived.Test.YtpdfghmfhljfiaaDoorH3
namespace Go.Proofs.YtpdfghmfhljfiaaDoor
open Go.RowKit

/-- The first k bytes in small letters. -/
def smallTo (l : List UInt8) (k : Nat) : List UInt8 := smallS (l.take k) ++ l.drop k
theorem smallTo_length (l : List UInt8) (k : Nat) : (smallTo l k).length = l.length := by
  simp [smallTo, smallS]; omega
theorem smallTo_get (s : ByteArray) (k : Nat) (h : k < s.size) (hk2 : k < (smallTo s.data.toList k).length) : (smallTo s.data.toList k)[k]'hk2 = s[k] := by
  have e : (smallS (s.data.toList.take k)).length = k := by simp [smallS]; omega
  have h2 : (smallTo s.data.toList k)[k]? = some s[k] := by
    unfold smallTo
    rw [List.getElem?_append_right (by rw [e]; exact Nat.le_refl _), e, Nat.sub_self, List.getElem?_drop, Nat.add_zero, getL s k h]
  exact (List.getElem?_eq_some_iff.1 h2).2
theorem smallTo_on (s : ByteArray) (k : Nat) (h : k < s.size) : (smallTo s.data.toList k).set k (smallC s[k]) = smallTo s.data.toList (k + 1) := by
  have e : (smallS (s.data.toList.take k)).length = k := by simp [smallS]; omega
  have hd : s.data.toList.drop k = s[k] :: s.data.toList.drop (k + 1) := by
    rw [List.drop_eq_getElem_cons (by rw [size_list]; exact h)]; rfl
  unfold smallTo
  rw [take_snoc s k h, List.set_append_right _ _ (by rw [e]; exact Nat.le_refl _), e, Nat.sub_self, hd]
  simp [smallS]
theorem smallTo_keep (s : ByteArray) (k : Nat) (h : k < s.size) (hc : smallC s[k] = s[k]) : smallTo s.data.toList (k + 1) = smallTo s.data.toList k := by
  rw [← smallTo_on s k h, hc]
  have hl : k < (smallTo s.data.toList k).length := by rw [smallTo_length, size_list]; exact h
  have := smallTo_get s k h hl
  rw [← this]
  exact List.set_getElem_self _
theorem smallTo_end (s : ByteArray) (k : Nat) (h : ¬ k < s.size) : smallTo s.data.toList k = smallS s.data.toList := by
  unfold smallTo
  rw [take_all s k h, List.drop_eq_nil_of_le (by rw [size_list]; omega), List.append_nil]

set_option maxHeartbeats 1600000 in
set_option maxRecDepth 100000 in
theorem small_any (s : ByteArray) (w : World) (hl : s.size ≤ 1000000) :
    Calls Tryd.prog 83 #[.string s] w fun e w' => e = .returned (.string ⟨(smallS s.data.toList).toArray⟩) ∧ Below w.heap.size w w' := by
  have hcv := run_bytes w s
  go_enter Tryd.func83, Tryd.ntmps83
  go_wp2
  clear hcv
  have hown0 := fun w' e => OwnG.bytes w w' w.heap.size s (Nat.le_refl _) (by omega) e
  have HO := Box.mk hown0
  clear hown0
  generalize grownCap w s.size 0 5 = cap at HO
  generalize hcells : Obj.cells (bytesRow s cap) 5 ((bytesRow s cap).size, (bytesRow s cap).size + 1) = ob at HO
  have HC := Box.mk hcells
  clear hcells
  go_loopw [10] (fun i wr => ∃ k : Nat, k ≤ s.size ∧ i = .int .i64 k ∧ OwnG wr w.heap.size (.slice (some ⟨w.heap.size, 0, none⟩) s.size cap) (smallTo s.data.toList k) ∧ Below w.heap.size w wr) (fun i _ => s.size - (intOf i).toNat)
  case atStart => exact ⟨0, Nat.zero_le _, rfl, HO.out _ rfl, ((Below.refl _ _).alloc (Nat.le_refl _) _).drew⟩
  case round =>
    obtain ⟨k, hk, rfl, hown, hb⟩ := hrel
    have hcap := hown.len.2.1
    rw [smallTo_length, size_list] at hcap
    by_cases hlt : k < s.size
    · have hl' : k < (smallTo s.data.toList k).length := by rw [smallTo_length, size_list]; exact hlt
      have hc := hown.cell k hl'
      rw [smallTo_get s k hlt hl'] at hc
      obtain ⟨hc1, hc2⟩ := hc
      have hbyte : (s[k].toNat : Int) < 256 := by have := s[k].toNat_lt; omega
      by_cases hup : 65 ≤ s[k].toNat ∧ s[k].toNat ≤ 90
      · have HS : Box ((smallTo s.data.toList k).set k (smallC s[k]) = smallTo s.data.toList (k + 1)) := ⟨smallTo_on s k hlt⟩
        have HV : Box (((smallC s[k]).toNat : Int) = (s[k].toNat : Int) + 32) := ⟨smallC_yes _ hup⟩
        have u1 : (65 : Int) ≤ (s[k].toNat : Int) := by omega
        have u2 : (s[k].toNat : Int) ≤ 90 := by omega
        have hw2 := hown.set k (smallC s[k])
        rw [HS.out, HV.out] at hw2
        have HW := Box.mk hw2
        clear hw2 HS HV hup hown
        go_wp2
        go_roundw
        case rel => exact ⟨k + 1, by omega, by go_num, HW.out, hb.setCell (Nat.le_refl _) _⟩
        case measure => simp [intOf]; omega
      · have HS : Box (smallTo s.data.toList (k + 1) = smallTo s.data.toList k) := ⟨smallTo_keep s k hlt (smallC_no _ hup)⟩
        have hx : (s[k].toNat : Int) < 65 ∨ (65 ≤ (s[k].toNat : Int) ∧ 90 < (s[k].toNat : Int)) := by omega
        clear hup
        rcases hx with u1 | ⟨u1, u2⟩
        all_goals
          go_wp2
          go_roundw
          case rel => exact ⟨k + 1, by omega, by go_num, by rw [HS.out]; exact hown, hb⟩
          case measure => simp [intOf]; omega
    · rw [smallTo_end s k hlt] at hown
      have hcv := hown.string
      go_wp2
      go_ret
      exact ⟨rfl, hb⟩

theorem small_str (s : ByteArray) (w : World) (hl : s.size ≤ 1000000) :
    Calls Tryd.prog 83 #[.string s] w fun e w' => ∃ t : ByteArray, e = .returned (.string t) ∧ t.data.toList = smallS s.data.toList ∧ Below w.heap.size w w' := by
  refine (small_any s w hl).mono ?_
  rintro e w' ⟨rfl, hb⟩
  exact ⟨_, rfl, rfl, hb⟩

theorem small_snoc (s : ByteArray) (k : Nat) (h : k < s.size) : smallS (s.data.toList.take (k + 1)) = smallS (s.data.toList.take k) ++ [smallC s[k]] := by
  rw [take_snoc s k h]; simp [smallS]

set_option maxHeartbeats 1600000 in
set_option maxRecDepth 100000 in
theorem low_any (s : ByteArray) (w : World) (hl : s.size ≤ 1000000) :
    Calls Tryd.prog 82 #[.string s] w fun e w' => ∃ t : ByteArray, e = .returned (.string t) ∧ t.data.toList = smallS s.data.toList ∧ Below w.heap.size w w' := by
  go_enter Tryd.func82, Tryd.ntmps82
  go_wp2
  go_loopw [3, 8] (fun x i wr => ∃ (k : Nat) (t : ByteArray), k ≤ s.size ∧ i = .int .i64 k ∧ x = .string t ∧ t.size = k ∧ Box (t.data.toList = smallS (s.data.toList.take k)) ∧ Below w.heap.size w wr) (fun _ i _ => s.size - (intOf i).toNat)
  case atStart => exact ⟨0, ⟨#[]⟩, Nat.zero_le _, rfl, rfl, rfl, ⟨rfl⟩, Below.refl _ _⟩
  case round =>
    obtain ⟨k, t, hk, rfl, rfl, hts, HT, hb⟩ := hrel
    have hsz := hb.size
    by_cases hlt : k < s.size
    · have hbyte : (s[k].toNat : Int) < 256 := by have := s[k].toNat_lt; omega
      have HS : Box (smallS (s.data.toList.take (k + 1)) = t.data.toList ++ [smallC s[k]]) := ⟨by rw [small_snoc s k hlt, HT.out]⟩
      clear HT
      by_cases hup : 65 ≤ s[k].toNat ∧ s[k].toNat ≤ 90
      · have u1 : (65 : Int) ≤ (s[k].toNat : Int) := by omega
        have u2 : (s[k].toNat : Int) ≤ 90 := by omega
        have hcv := one_str wr (smallC s[k]) _ (smallC_yes _ hup).symm
        clear hup
        go_wp2
        go_roundw
        case rel => exact ⟨k + 1, _, by omega, by go_num, rfl, by simp [ByteArray.size_mk']; omega, ⟨by rw [HS.out]; simp⟩, hb.alloc hsz _⟩
        case measure => simp [intOf]; omega
      · have hx : (s[k].toNat : Int) < 65 ∨ (65 ≤ (s[k].toNat : Int) ∧ 90 < (s[k].toNat : Int)) := by omega
        have hcv := one_str wr (smallC s[k]) (s[k].toNat : Int) (by rw [smallC_no _ hup])
        clear hup
        rcases hx with u1 | ⟨u1, u2⟩
        all_goals
          go_wp2
          go_roundw
          case rel => exact ⟨k + 1, _, by omega, by go_num, rfl, by simp [ByteArray.size_mk']; omega, ⟨by rw [HS.out]; simp⟩, hb.alloc hsz _⟩
          case measure => simp [intOf]; omega
    · have HE : Box (t.data.toList = smallS s.data.toList) := ⟨by rw [HT.out, take_all s k hlt]⟩
      clear HT
      go_wp2
      go_ret
      exact ⟨_, rfl, HE.out, hb⟩

end Go.Proofs.YtpdfghmfhljfiaaDoor
