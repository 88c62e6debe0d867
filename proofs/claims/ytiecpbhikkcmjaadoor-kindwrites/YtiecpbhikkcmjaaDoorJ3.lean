import Derived.Test.YtiecpbhikkcmjaaDoorJ2
namespace Go.Proofs.YtiecpbhikkcmjaaDoor
open Go.RowKit

theorem QPost_some {b : Nat} {ok : Bool} {e : Ending} {w' : World} (o r : List UInt8) (Q : Option (List UInt8 × List UInt8)) (hQ : Q = some (o, r)) (t u : ByteArray) (he : e = .returned (.string t)) (ht : t.data.toList = o) (hr : RS w' b u ok) (hu : u.data.toList = r) : QPost Q b ok e w' := by
  subst hQ
  exact ⟨t, u, he, ht, hr, hu⟩
theorem QPost_none {b : Nat} {ok : Bool} {e : Ending} {w' : World} (Q : Option (List UInt8 × List UInt8)) (hQ : Q = none) (u : ByteArray) (he : e = .returned (.string ⟨#[]⟩)) (hr : RS w' b u false) (hu : u.size ≤ 1000000) : QPost Q b ok e w' := by
  subst hQ
  exact ⟨he, u, hr, hu⟩
theorem quoted_step (Q : Option (List UInt8 × List UInt8)) (o : List UInt8) (l r : List UInt8) (d : UInt8) (h : Q = (quotedS l).map fun q => (o ++ q.1, q.2)) (hl : quotedS l = (quotedS r).map fun q => (d :: q.1, q.2)) : Q = (quotedS r).map fun q => (o ++ [d] ++ q.1, q.2) := by
  rw [h, hl, map_map_q]

/-- 'take', with the byte's number by itself. -/
theorem take_yesZ (b : Nat) (s : ByteArray) (ok : Bool) (z : Int) (c : UInt8) (hz : z = (c.toNat : Int)) (r : List UInt8) (w : World) (h : RS w b s ok) (hs : s.data.toList = c :: r) :
    Calls Tryd.prog 78 #[.pointer (some ⟨b, 0, none⟩), .int .u8 z] w fun e w' => e = .returned (.bool true) ∧ ∃ t, RS w' b t ok ∧ t.data.toList = r ∧ w.grownBy w' (some b) := by
  subst hz
  exact take_yes b s ok c r w h hs
theorem take_noZ (b : Nat) (s : ByteArray) (ok : Bool) (z : Int) (c : UInt8) (hz : z = (c.toNat : Int)) (w : World) (h : RS w b s ok) (hs : s.data.toList.head? ≠ some c) :
    Calls Tryd.prog 78 #[.pointer (some ⟨b, 0, none⟩), .int .u8 z] w fun e w' => e = .returned (.bool false) ∧ w' = w := by
  subst hz
  exact take_no b s ok c w h hs

set_option maxHeartbeats 3200000 in
set_option maxRecDepth 100000 in
theorem rquoted_any (b : Nat) (s : ByteArray) (ok : Bool) (w : World) (h : RS w b s ok) (hl : s.size ≤ 1000000) :
    Calls Tryd.prog 81 #[.pointer (some ⟨b, 0, none⟩)] w fun e w' => QPost (quotedS s.data.toList) b ok e w' ∧ w.grownBy w' (some b) := by
  obtain ⟨Q, HQ⟩ : ∃ Q, Box (Q = quotedS s.data.toList) := ⟨_, ⟨rfl⟩⟩
  rw [← HQ.out]
  go_enter Tryd.func81, Tryd.ntmps81
  go_wp2
  go_loopg [3] s.size (fun gf x wx => ∃ t o : ByteArray, x = .string o ∧ RS wx b t ok ∧ Box (Q = (quotedS t.data.toList).map fun q => (o.data.toList ++ q.1, q.2)) ∧ w.grownBy wx (some b) ∧ t.size ≤ gf ∧ t.size + o.size ≤ s.size)
  case atStart => exact ⟨s, ⟨#[]⟩, rfl, h, ⟨by rw [HQ.out]; simp⟩, grown_refl _ _, Nat.le_refl _, Nat.le_refl (s.size + 0)⟩
  case round =>
    obtain ⟨t, o, rfl, hr, HT, hg, hgf, hso⟩ := hrel
    obtain ⟨c0, c1, f0, f1, hb⟩ := hr.cells
    by_cases h0 : t.size = 0
    · have he := empty_of t h0
      have HN : Box (Q = none) := ⟨by rw [HT.out, data_nil t h0, quoted_nil]; rfl⟩
      have HR := Box.mk (hr.setO false)
      clear HT HQ
      go_wp2
      go_ret
      exact ⟨QPost_none Q HN.out _ rfl HR.out (by omega), hg.trans (grown_set _ _ _ _)⟩
    · have hp : 0 < t.size := by omega
      have he := nonempty_of t h0
      have HS := Box.mk (head_split t hp)
      obtain ⟨c, HC⟩ : ∃ c, Box (t[0] = c) := ⟨_, ⟨rfl⟩⟩
      rw [HC.out] at HS
      obtain ⟨r, Hr⟩ : ∃ r, Box ((t.extract 1 t.size).data.toList = r) := ⟨_, ⟨rfl⟩⟩
      rw [Hr.out] at HS
      have hrl : r.length + 1 = t.size := by rw [← size_list t, HS.out]; simp
      have hbyte : (t[0].toNat : Int) < 256 := by have := t[0].toNat_lt; omega
      by_cases h34 : c = 34
      · have HE : Box (Q = some (o.data.toList, r)) := ⟨by rw [HT.out, HS.out, h34, quoted_end]; simp⟩
        have HS' : Box (t.data.toList = 34 :: r) := ⟨by rw [HS.out, h34]⟩
        clear HT HQ HC
        go_wp2_with (go_at_call 78; refine (take_yesZ b t ok 34 34 rfl r _ hr HS'.out).mono ?_; rintro e w1 ⟨rfl, u, hr1, hu, hg1⟩)
        go_ret
        exact ⟨QPost_some _ _ Q HE.out _ u rfl rfl hr1 hu, hg.trans hg1⟩
      · have HN34 : Box (t.data.toList.head? ≠ some 34) := ⟨by rw [HS.out]; simpa using h34⟩
        by_cases h1 : t.size = 1
        · -- one byte is left
          have hr0 : r = [] := List.eq_nil_of_length_eq_zero (by omega)
          have HN : Box (Q = none) := ⟨by rw [HT.out, HS.out, hr0, quoted_one c h34]; rfl⟩
          have z1 : ¬ (1 : Int) < (t.size : Int) := by omega
          clear h1
          cases hin : inC t[0]
          · have HI := Box.mk (inC_no _ hin)
            have HR := Box.mk (hr.setO false)
            clear HT HQ HC hin h34
            go_wp2_with (first | (go_at_call 78; refine (take_noZ b t ok 34 34 rfl _ hr HN34.out).mono ?_; rintro e w1 ⟨rfl, rfl⟩) | (go_at_call 86; refine (in_no _ _ _ _ HI.out).mono ?_; rintro e w' ⟨rfl, rfl⟩))
            go_ret
            exact ⟨QPost_none Q HN.out _ rfl HR.out (by omega), hg.trans (grown_set _ _ _ _)⟩
          · have HI := Box.mk (inC_yes _ hin)
            have HR := Box.mk (hr.setS (t.extract 1 t.size))
            have hsz : (t.extract 1 t.size).size = t.size - 1 := by simp [ByteArray.size_extract]
            have hsz0 : (t.extract 0 1).size = 1 := by rw [← size_list, extract_one t 0 hp]; rfl
            have HN' : Box (Q = (quotedS (t.extract 1 t.size).data.toList).map fun q => ((o ++ t.extract 0 1).data.toList ++ q.1, q.2)) := ⟨by rw [HN.out, Hr.out, hr0, quoted_nil]; rfl⟩
            clear HT HQ HC hin h34
            go_wp2_with (first | (go_at_call 78; refine (take_noZ b t ok 34 34 rfl _ hr HN34.out).mono ?_; rintro e w1 ⟨rfl, rfl⟩) | (go_at_call 86; refine (in_yes _ _ _ _ HI.out.1 HI.out.2).mono ?_; rintro e w' ⟨rfl, rfl⟩))
            go_roundg (t.size - 1)
            case measure => omega
            case rel => exact ⟨_, _, rfl, HR.out, HN', hg.trans (grown_set _ _ _ _), by omega, by rw [ByteArray.size_append]; omega⟩
        · have z1 : (1 : Int) < (t.size : Int) := by omega
          by_cases h92 : c = 92
          · -- a byte behind a backslash
            obtain ⟨d, r', hrd⟩ : ∃ d r', r = d :: r' := by
              cases r with
              | nil => simp at hrl; omega
              | cons d r' => exact ⟨d, r', rfl⟩
            have HS' : Box (t.data.toList = 92 :: d :: r') := ⟨by rw [HS.out, h92, hrd]⟩
            have HX : Box (Q = (if inC d then (quotedS r').map fun q => (d :: q.1, q.2) else none).map fun q => (o.data.toList ++ q.1, q.2)) := ⟨by rw [HT.out, HS'.out, quoted_esc1]⟩
            clear HT HQ HC h34 h92
            cases hin : inC d
            · have HN : Box (Q = none) := ⟨by rw [HX.out, hin]; rfl⟩
              have HI := Box.mk (inC_no _ hin)
              clear HX hin
              go_wp2_with fail
              refine (take_noZ b t ok 34 34 rfl _ hr HN34.out).mono ?_
              rintro e w1 ⟨rfl, rfl⟩
              go_wp2_with fail
              refine (take_yesZ b t ok 92 92 rfl (d :: r') _ hr HS'.out).mono ?_
              rintro e w1 ⟨rfl, u, hr1, hu, hg1⟩
              obtain ⟨up, ud, ux⟩ := cons_get u d r' hu
              have HI' := Box.mk (ud ▸ HI.out)
              have hbu : (u[0].toNat : Int) < 256 := by (have := u[0].toNat_lt; omega)
              have HU := Box.mk hu
              have HR := Box.mk (hr1.setO false)
              obtain ⟨d0, d1, g0, g1, hb1⟩ := hr1.cells
              clear ux hu ud
              go_wp2_with fail
              refine (in_no _ _ _ _ HI'.out).mono ?_
              rintro e w' ⟨rfl, rfl⟩
              go_wp2
              go_ret
              exact ⟨QPost_none Q HN.out _ rfl HR.out (by rw [← size_list, HU.out]; have := hrd ▸ hrl; simp at this ⊢; omega), (hg.trans hg1).trans (grown_set _ _ _ _)⟩
            · have HN : Box (Q = (quotedS r').map fun q => (o.data.toList ++ [d] ++ q.1, q.2)) := ⟨by rw [HX.out, hin]; exact map_map_q _ _ _⟩
              have HI := Box.mk (inC_yes _ hin)
              clear HX hin
              go_wp2_with fail
              refine (take_noZ b t ok 34 34 rfl _ hr HN34.out).mono ?_
              rintro e w1 ⟨rfl, rfl⟩
              go_wp2_with fail
              refine (take_yesZ b t ok 92 92 rfl (d :: r') _ hr HS'.out).mono ?_
              rintro e w1 ⟨rfl, u, hr1, hu, hg1⟩
              obtain ⟨up, ud, ux⟩ := cons_get u d r' hu
              have HI' := Box.mk (ud ▸ HI.out)
              have hbu : (u[0].toNat : Int) < 256 := by (have := u[0].toNat_lt; omega)
              have HU := Box.mk hu
              have HUX := Box.mk ux
              have HUD := Box.mk ud
              have HR := Box.mk (hr1.setS (u.extract 1 u.size))
              obtain ⟨d0, d1, g0, g1, hb1⟩ := hr1.cells
              clear ux hu ud
              go_wp2_with fail
              refine (in_yes _ _ _ _ HI'.out.1 HI'.out.2).mono ?_
              rintro e w' ⟨rfl, rfl⟩
              go_wp2
              have hus : u.size + 1 = t.size := by
                have e := size_list u
                rw [HU.out] at e
                rw [hrd] at hrl
                omega
              have hsz : (u.extract 1 u.size).size = u.size - 1 := by simp [ByteArray.size_extract]
              have hsz0 : (u.extract 0 1).size = 1 := by rw [← size_list, extract_one u 0 up]; rfl
              have e0 : (u.extract 0 1).data.toList = [d] := by rw [extract_one u 0 up, HUD.out]
              go_roundg (t.size - 2)
              case measure => omega
              case rel => exact ⟨_, _, rfl, HR.out, ⟨by rw [HN.out, HUX.out, ByteArray.data_append, Array.toList_append, e0]⟩, (hg.trans hg1).trans (grown_set _ _ _ _), by omega, by rw [ByteArray.size_append]; omega⟩
          · have HN92 : Box (t.data.toList.head? ≠ some 92) := ⟨by rw [HS.out]; simpa using h92⟩
            cases hin : inC t[0]
            · have HN : Box (Q = none) := ⟨by rw [HT.out, HS.out, quoted_on c r h34 h92, ← HC.out, hin]; rfl⟩
              have HI := Box.mk (inC_no _ hin)
              have HR := Box.mk (hr.setO false)
              clear HT HQ HC hin h34 h92
              go_wp2_with fail
              refine (take_noZ b t ok 34 34 rfl _ hr HN34.out).mono ?_
              rintro e w1 ⟨rfl, rfl⟩
              go_wp2_with fail
              refine (take_noZ b t ok 92 92 rfl _ hr HN92.out).mono ?_
              rintro e w1 ⟨rfl, rfl⟩
              go_wp2_with fail
              refine (in_no _ _ _ _ HI.out).mono ?_
              rintro e w' ⟨rfl, rfl⟩
              go_wp2
              go_ret
              exact ⟨QPost_none Q HN.out _ rfl HR.out (by omega), hg.trans (grown_set _ _ _ _)⟩
            · have hsz : (t.extract 1 t.size).size = t.size - 1 := by simp [ByteArray.size_extract]
              have hsz0 : (t.extract 0 1).size = 1 := by rw [← size_list, extract_one t 0 hp]; rfl
              have HN : Box (Q = (quotedS (t.extract 1 t.size).data.toList).map fun q => ((o ++ t.extract 0 1).data.toList ++ q.1, q.2)) := ⟨by
                have e0 : (t.extract 0 1).data.toList = [c] := by rw [extract_one t 0 hp, HC.out]
                rw [HC.out] at hin
                rw [HT.out, HS.out, quoted_on c r h34 h92, hin, Hr.out, ByteArray.data_append, Array.toList_append, e0]
                exact map_map_q _ _ _⟩
              have HI := Box.mk (inC_yes _ hin)
              have HR := Box.mk (hr.setS (t.extract 1 t.size))
              clear HT HQ HC hin h34 h92
              go_wp2_with fail
              refine (take_noZ b t ok 34 34 rfl _ hr HN34.out).mono ?_
              rintro e w1 ⟨rfl, rfl⟩
              go_wp2_with fail
              refine (take_noZ b t ok 92 92 rfl _ hr HN92.out).mono ?_
              rintro e w1 ⟨rfl, rfl⟩
              go_wp2_with fail
              refine (in_yes _ _ _ _ HI.out.1 HI.out.2).mono ?_
              rintro e w' ⟨rfl, rfl⟩
              go_wp2
              go_roundg (t.size - 1)
              case measure => omega
              case rel => exact ⟨_, _, rfl, HR.out, HN, hg.trans (grown_set _ _ _ _), by omega, by rw [ByteArray.size_append]; omega⟩

end Go.Proofs.YtiecpbhikkcmjaaDoor
