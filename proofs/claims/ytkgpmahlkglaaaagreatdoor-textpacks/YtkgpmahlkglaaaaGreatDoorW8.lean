import Derived.Test.YtkgpmahlkglaaaaGreatDoorW7
namespace Go.Proofs.YtkgpmahlkglaaaaGreatDoor
open Go.RowKit

/-- What Unpack, Unquote hand back. -/
def unV : Option (List UInt8) → Value
  | some o => .tuple #[.string ⟨o.toArray⟩, .nilIface]
  | none => .tuple #[.string ⟨#[]⟩, .iface 22 (.int .i64 3)]

def unpackS (s : List UInt8) : Option (List UInt8) := if (solidL s).length % 4 = 0 then joinedS ((solidL s).take ((solidL s).length - fillN (solidL s))) else none

set_option maxHeartbeats 400000 in
theorem unpack_any (s : ByteArray) (w : World) (hl : s.size ≤ 100000) :
    Calls Tryz.prog 5 #[.string s] w fun e w' => e = .returned (unV (unpackS s.data.toList)) ∧ Below w.heap.size w w' := by
  have hlen := solidL_length s.data.toList
  rw [size_list] at hlen
  have HS : Hid (unpackS s.data.toList = if (solidL s.data.toList).length % 4 = 0 then joinedS ((solidL s.data.toList).take ((solidL s.data.toList).length - fillN (solidL s.data.toList))) else none) := rfl
  go_enter Tryz.func5, Tryz.ntmps5
  go_wp2_with fail
  refine (solid_any s _ hl).mono ?_
  rintro e w1 ⟨v, rfl, hown, hb⟩
  generalize solidL s.data.toList = l at hlen HS hown
  have hf := fillN_le l
  by_cases h4 : l.length % 4 = 0
  · have HS' : Hid (unpackS s.data.toList = joinedS (l.take (l.length - fillN l))) := by show _ = _; rw [HS.out, if_pos h4]
    clear HS
    rcases hown.shape with ⟨rfl, rfl⟩ | ⟨g, cap, rfl, hB, hg, hcap, hmax, hc⟩
    · have hown2 : Own w1 w.heap.size (.slice none 0 0) [] := Own.nil _ _
      have HM : ([] : List UInt8).length ≤ 100000 := by simp
      have HS'' : Hid (unpackS s.data.toList = joinedS []) := HS'
      clear HS'
      have HS' := HS''
      clear HS'' hf h4 hlen
      go_wp2_with (first | (go_at_call 16; refine (fill_empty _ _ _).mono ?_; rintro e w2 ⟨rfl, rfl⟩))
      refine (joined_any [] _ _ _ HM hown2).mono ?_
      rintro e w3 ⟨v3, rfl, ho3, hb3⟩
      have hb4 : Below w.heap.size w w3 := hb.trans (hb3.mono hb.size)
      cases hj : joinedS [] with
      | none =>
        have HJ := Hid.mk hj
        clear hj ho3 hb3
        go_wp2
        go_ret2
        exact ⟨by rw [HS'.out, HJ.out]; rfl, hb4⟩
      | some o =>
        have ho4 := ho3 o hj
        have HJ := Hid.mk hj
        clear hj ho3 hb3
        have hcv := ho4.string
        go_wp2
        go_ret2
        exact ⟨by rw [HS'.out, HJ.out]; rfl, hb4⟩
    · have t4 : ((l.length : Int) % 4 != 0) = false := by simp; omega
      have hown2 := hown.take (l.length - fillN l) (by omega)
      have HM : (l.take (l.length - fillN l)).length ≤ 100000 := by rw [List.length_take]; omega
      go_wp2_with (first | (go_at_call 16; refine (fill_any l _ _ _ (by omega) hown).mono ?_; rintro e w2 ⟨rfl, rfl⟩))
      generalize l.take (l.length - fillN l) = m at hown2 HS' HM
      refine (joined_any m _ _ _ HM hown2).mono ?_
      rintro e w3 ⟨v3, rfl, ho3, hb3⟩
      have hb4 : Below w.heap.size w w3 := hb.trans (hb3.mono hb.size)
      cases hj : joinedS m with
      | none =>
        have HJ := Hid.mk hj
        clear hj ho3 hb3
        go_wp2
        go_ret2
        exact ⟨by rw [HS'.out, HJ.out]; rfl, hb4⟩
      | some o =>
        have ho4 := ho3 o hj
        have HJ := Hid.mk hj
        clear hj ho3 hb3
        have hcv := ho4.string
        go_wp2
        go_ret2
        exact ⟨by rw [HS'.out, HJ.out]; rfl, hb4⟩
  · have HS' : Hid (unpackS s.data.toList = none) := by show _ = _; rw [HS.out, if_neg h4]
    clear HS
    have t4 : ((l.length : Int) % 4 != 0) = true := by simp; omega
    rcases hown.shape with ⟨rfl, rfl⟩ | ⟨g, cap, rfl, hB, hg, hcap, hmax, hc⟩
    · exact absurd rfl h4
    · go_wp2
      go_ret2
      exact ⟨by rw [HS'.out]; rfl, hb⟩

end Go.Proofs.YtkgpmahlkglaaaaGreatDoor
