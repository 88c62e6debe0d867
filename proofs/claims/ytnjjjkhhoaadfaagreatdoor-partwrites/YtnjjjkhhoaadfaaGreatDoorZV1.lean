import Derived.Test.YtnjjjkhhoaadfaaGreatDoorZ19
import Derived.Test.YtnjjjkhhoaadfaaGreatDoorZ18
namespace Go.Proofs.YtnjjjkhhoaadfaaGreatDoor
open Go.RowKit

/- Parts, read: the reference's. -/
def MPostR (O : Except Nat (Option (List UInt8))) (e : Ending) : Prop :=
  match O with
  | .error c => e = .returned (.tuple #[.string ⟨#[]⟩, .bool false, .int .i64 c])
  | .ok none => e = .returned (.tuple #[.string ⟨#[]⟩, .bool false, .int .i64 0])
  | .ok (some b) => ∃ bb : ByteArray, e = .returned (.tuple #[.string bb, .bool true, .int .i64 0]) ∧ bb.data.toList = b ∧ bb.size ≤ 70

theorem last_at (t : ByteArray) (h : 0 < t.size) : t.data.toList.getLast? = some t[t.size - 1] := by
  rw [last_split t h]; simp

theorem rkind_all (s : ByteArray) (w : World) (hs : s.size ≤ 100000) (hm : Max w) :
    Calls Tryz.prog 69 #[.string s] w fun e w' => RKPost (readK s.data.toList) s.size w.heap.size e w' ∧ Below w.heap.size w w' := by
  rcases byte_while s.data.toList 59 with ⟨h1, h2, h3⟩ | ⟨h1, r, h2⟩
  · exact rkind_short s w hs hm h1 h2 h3
  · exact rkind_long s w hs hm _ rfl h1 r h2

set_option maxHeartbeats 1000000 in
set_option maxRecDepth 100000 in
theorem rmanies_any (v : Value) (lh : List Fl) (w : World) (hT : Half lh) (hF : FL w v lh) (hm : Max w) :
    Calls Tryz.prog 57 #[v] w fun e w' => MPostR (maniesS (lh.map fl2)) e ∧ Below w.heap.size w w' := by
  obtain ⟨O, HO⟩ : ∃ O, Box (O = maniesS (lh.map fl2)) := ⟨_, ⟨rfl⟩⟩
  rw [← HO.out]
  have hg := getS_getB lh ctN
  rw [show smallS ctN = ctN by decide] at hg
  have HMx := Box.mk hm
  have HT := Box.mk hT
  have HF := Box.mk hF
  have hlt := hm.1
  clear hm hT hF
  go_enter Tryz.func57, Tryz.ntmps57
  go_wp2_with fail
  refine (getField_any v lh ⟨#[99, 111, 110, 116, 101, 110, 116, 45, 116, 121, 112, 101]⟩ _ (by decide) HT.out.tiny HF.out).mono ?_
  rintro e w1 ⟨rfl, hb1⟩
  rw [show (⟨#[99, 111, 110, 116, 101, 110, 116, 45, 116, 121, 112, 101]⟩ : ByteArray).data.toList = ctN from rfl]
  cases hgs : getS lh ctN with
  | none =>
    rw [hgs] at hg
    have HO' : Box (O = .ok none) := ⟨by rw [HO.out, maniesS, hg]; rfl⟩
    clear hg hgs HO
    rw [show getV none = .tuple #[.string ⟨#[]⟩, .bool false] from rfl]
    go_wp2
    go_ret3
    refine ⟨?_, hb1⟩
    rw [HO'.out]; rfl
  | some f =>
    rw [hgs] at hg
    have hfs := (HT.out.2 f (getS_mem _ _ _ hgs)).2
    have HO' : Box (O = match readK f.2.data.toList with
      | none => .error 3
      | some q => if multiN.isPrefixOf q.1 then (if 1 ≤ (getPB q.2).length ∧ (getPB q.2).length ≤ 70 ∧ (getPB q.2).getLast? ≠ some 32 then .ok (some (getPB q.2)) else .error 3) else .ok none) := ⟨by rw [HO.out, maniesS, hg]; rfl⟩
    have HM1 := Box.mk (HMx.out.below hb1 hlt)
    clear hg hgs HO HMx
    obtain ⟨fn, fv⟩ := f
    rw [show getV (some (fn, fv)) = .tuple #[.string fv, .bool true] from rfl]
    go_wp2_with fail
    refine (rkind_all fv _ hfs HM1.out).mono ?_
    rintro e w2 ⟨hR, hb2⟩
    have hb02 := hb1.trans (hb2.mono hb1.size)
    unfold RKPost at hR
    cases hk : readK fv.data.toList with
    | none =>
      rw [hk] at hR
      obtain rfl := hR
      have HO2 : Box (O = .error 3) := ⟨by rw [HO'.out]; simp only [hk]⟩
      clear HO' hk
      go_wp2
      go_ret3
      refine ⟨?_, hb02⟩
      rw [HO2.out]; rfl
    | some q =>
      rw [hk] at hR
      obtain ⟨m, vq, L, rfl, hm, hown, hL, hms, hLs, hfsz⟩ := hR
      have HO2 : Box (O = if multiN.isPrefixOf q.1 then (if 1 ≤ (getPB q.2).length ∧ (getPB q.2).length ≤ 70 ∧ (getPB q.2).getLast? ≠ some 32 then .ok (some (getPB q.2)) else .error 3) else .ok none) := ⟨by rw [HO'.out]; simp only [hk]⟩
      have HFL := Box.mk hown.fl
      have HTL : Box (Tiny L) := ⟨⟨by omega, fun g hg => by have := hfsz g hg; omega⟩⟩
      rw [← hm, ← hL] at HO2
      clear HO' hk hm hL hown hfsz
      go_wp2_with fail
      refine (Tryz.strings_HasPrefix m ⟨#[109, 117, 108, 116, 105, 112, 97, 114, 116, 47]⟩ _).mono ?_
      rintro e w3 ⟨rfl, hw3⟩
      obtain rfl := hw3.symm
      have hpe : Lib.hasPrefix m.data.toList (⟨#[109, 117, 108, 116, 105, 112, 97, 114, 116, 47]⟩ : ByteArray).data.toList = multiN.isPrefixOf m.data.toList := rfl
      rw [hpe]
      clear hpe
      cases hp : multiN.isPrefixOf m.data.toList with
      | false =>
        have HO3 : Box (O = .ok none) := ⟨by rw [HO2.out, hp]; rfl⟩
        clear HO2 hp
        go_wp2
        go_ret3
        refine ⟨?_, hb02⟩
        rw [HO3.out]; rfl
      | true =>
        obtain ⟨bb, qq, hV, hbb⟩ := getP_getPB L
        have HO3 : Box (O = if 1 ≤ bb.data.toList.length ∧ bb.data.toList.length ≤ 70 ∧ bb.data.toList.getLast? ≠ some 32 then .ok (some bb.data.toList) else .error 3) := ⟨by rw [HO2.out, hp, hbb]; rfl⟩
        have HV := Box.mk hV
        rw [size_list] at HO3
        clear HO2 hp hV hbb
        go_wp2_with fail
        refine (rget_any vq L ⟨#[98, 111, 117, 110, 100, 97, 114, 121]⟩ _ HTL.out HFL.out).mono ?_
        rintro e w4 ⟨rfl, hb4⟩
        have hb04 := hb02.trans (hb4.mono hb02.size)
        rw [show (⟨#[98, 111, 117, 110, 100, 97, 114, 121]⟩ : ByteArray).data.toList = bdN from rfl, HV.out]
        clear HV HTL HFL
        go_wp2_with fail
        refine (in_any _ _ _ _).mono ?_
        rintro e w5 ⟨rfl, hw5⟩
        obtain rfl := hw5.symm
        by_cases h1 : 1 ≤ bb.size ∧ bb.size ≤ 70
        · have e1 : (decide ((1 : Int) ≤ (bb.size : Int)) && decide ((bb.size : Int) ≤ 70)) = true := by
            rw [decide_eq_true (by omega), decide_eq_true (by omega)]; rfl
          rw [e1]
          have hla := last_at bb (by omega)
          have hbyte : (bb[bb.size - 1].toNat : Int) < 256 := by have := bb[bb.size - 1].toNat_lt; omega
          have hidx : ((bb.size : Int) - 1).toNat = bb.size - 1 := by omega
          obtain ⟨h1, h1'⟩ := h1
          cases h2 : ((bb[bb.size - 1].toNat : Int) == 32)
          · have hne : bb.data.toList.getLast? ≠ some 32 := by
              intro h
              rw [hla, Option.some.injEq] at h
              rw [beq_eq_false_iff_ne] at h2
              apply h2
              rw [h]; rfl
            have HO4 : Box (O = .ok (some bb.data.toList)) := ⟨by rw [HO3.out, if_pos ⟨h1, h1', hne⟩]⟩
            clear hne
            clear HO3 hla e1
            go_wp2
            go_ret3
            refine ⟨?_, hb04⟩
            rw [HO4.out]
            exact ⟨bb, rfl, rfl, h1'⟩
          · have hne : bb.data.toList.getLast? = some 32 := by
              rw [hla]
              congr 1
              rw [beq_iff_eq] at h2
              apply UInt8.toNat_inj.1
              show _ = 32
              omega
            have HO4 : Box (O = .error 3) := ⟨by rw [HO3.out, if_neg (fun h => h.2.2 hne)]⟩
            clear hne
            clear HO3 hla e1
            go_wp2
            go_ret3
            refine ⟨?_, hb04⟩
            rw [HO4.out]; rfl
        · have e1 : (decide ((1 : Int) ≤ (bb.size : Int)) && decide ((bb.size : Int) ≤ 70)) = false := by
            rw [Bool.and_eq_false_iff]
            by_cases h : 1 ≤ bb.size
            · right; rw [decide_eq_false_iff_not]; omega
            · left; rw [decide_eq_false_iff_not]; omega
          rw [e1]
          have HO4 : Box (O = .error 3) := ⟨by rw [HO3.out, if_neg (fun h => h1 ⟨h.1, h.2.1⟩)]⟩
          clear HO3 e1
          go_wp2
          go_ret3
          refine ⟨?_, hb04⟩
          rw [HO4.out]; rfl

end Go.Proofs.YtnjjjkhhoaadfaaGreatDoor
