import Derived.Test.YtpdfghmfhljfiaaDoorAA
import Derived.Test.YtpdfghmfhljfiaaDoorA8
import Derived.Test.YtpdfghmfhljfiaaDoorAE
import Derived.Test.YtpdfghmfhljfiaaDoorE5
namespace Go.Proofs.YtpdfghmfhljfiaaDoor
open Go.RowKit

/- The reference's functions, each by one answer. -/
def codeV (l : List UInt8) : Int := match readA l with | some _ => 0 | none => 3
theorem rread_is (s : ByteArray) (w : World) (hs : s.size ≤ 1000000) : Calls Tryd.prog 47 #[.string s] w fun e w' => e = .returned (.tuple #[(readV s.data.toList).val, .int .i64 (codeV s.data.toList)]) ∧ (readV s.data.toList).Small s.size ∧ Below w.heap.size w w' := by
  refine (rread_any s w hs).mono ?_
  rintro e w' ⟨⟨h, rfl⟩ | ⟨v, h, hz, rfl⟩, hb⟩
  · obtain ⟨h1, _⟩ := readV_none h
    have h2 : codeV s.data.toList = 3 := by unfold codeV; rw [h]
    rw [h1, h2]
    exact ⟨rfl, av_small (Nat.zero_le _) (Nat.zero_le _) (Nat.zero_le _) (Nat.zero_le _) (Nat.zero_le _), hb⟩
  · obtain ⟨h1, _⟩ := readV_some h
    have h2 : codeV s.data.toList = 0 := by unfold codeV; rw [h]
    rw [h1, h2]
    exact ⟨rfl, hz, hb⟩
theorem rwrite_any (a : AV) (w : World) (h : a.Small 1000000) : Calls Tryd.prog 51 #[a.val] w fun e w' => e = .returned (.string (writeB a)) ∧ Below w.heap.size w w' := by
  refine (rwrite_raw a.sc a.au a.pa a.qu a.fr a.hA a.hQ a.hF w h.sc h.au h.pa h.qu h.fr).mono ?_
  rintro e w' ⟨S, rfl, hS, hb⟩
  exact ⟨ret_str (bytes_eq (hS.trans (writeB_list a).symm)), hb⟩
theorem rwhole_any (a : AV) (w : World) (h : a.Small 1000000) : Calls Tryd.prog 54 #[a.val] w fun e w' => e = .returned (wholeV a).val ∧ Below w.heap.size w w' :=
  rwhole_raw a.sc a.au a.pa a.qu a.fr a.hA a.hQ a.hF w h.sc h.au
theorem rres_any (b a : AV) (w : World) (hb : b.pa.size ≤ 400000) (ha : a.pa.size ≤ 400000) (hm : Max w) : Calls Tryd.prog 50 #[b.val, a.val] w fun e w' => e = .returned (resV b a).val ∧ Below w.heap.size w w' := by
  obtain ⟨sc0, hA0, au0, pa0, hQ0, qu0, hF0, fr0⟩ := b
  obtain ⟨sc, hA, au, pa, hQ, qu, hF, fr⟩ := a
  by_cases h0 : sc.size = 0
  · have n0 := (nil_iff sc).2 h0
    cases hA
    · by_cases h1 : pa.size = 0
      · have n1 := (nil_iff pa).2 h1
        cases hQ
        · refine (rres_same sc0 au0 pa0 qu0 fr0 sc au pa qu fr hA0 hQ0 hF0 hF w h0 h1).mono ?_
          rintro e w' ⟨rfl, hbw⟩
          refine ⟨?_, hbw⟩
          rw [← resV_is (v := ⟨sc0, hA0, au0, pa0, hQ0, qu0, hF, fr⟩) (by simp [resA, AV.ab, n0, n1])]
        · refine (rres_query sc0 au0 pa0 qu0 fr0 sc au pa qu fr hA0 hQ0 hF0 hF w h0 h1).mono ?_
          rintro e w' ⟨rfl, hbw⟩
          refine ⟨?_, hbw⟩
          rw [← resV_is (v := ⟨sc0, hA0, au0, pa0, true, qu, hF, fr⟩) (by simp [resA, AV.ab, n0, n1])]
      · have n1 : ¬ pa.data.toList = [] := fun h => h1 ((nil_iff pa).1 h)
        by_cases h2 : pa[0] = 47
        · refine (rres_slash sc0 au0 pa0 qu0 fr0 sc au pa qu fr hA0 hQ0 hF0 hQ hF w ha hm h0 (by omega) h2).mono ?_
          rintro e w' ⟨⟨S, rfl, hS⟩, hbw⟩
          refine ⟨?_, hbw⟩
          rw [← resV_is (v := ⟨sc0, hA0, au0, S, hQ, qu, hF, fr⟩) (by simp [resA, AV.ab, n0, n1, hS, besideA])]
        · refine (rres_beside sc0 au0 pa0 qu0 fr0 sc au pa qu fr hA0 hQ0 hF0 hQ hF w hb ha hm h0 (by omega) h2).mono ?_
          rintro e w' ⟨⟨S, rfl, hS⟩, hbw⟩
          refine ⟨?_, hbw⟩
          rw [← resV_is (v := ⟨sc0, hA0, au0, S, hQ, qu, hF, fr⟩) (by simp [resA, AV.ab, n0, n1, hS, besideA])]
    · refine (rres_auth sc0 au0 pa0 qu0 fr0 sc au pa qu fr hA0 hQ0 hF0 hQ hF w (Nat.le_trans ha (by omega)) hm h0).mono ?_
      rintro e w' ⟨⟨S, rfl, hS⟩, hbw⟩
      refine ⟨?_, hbw⟩
      rw [← resV_is (v := ⟨sc0, true, au, S, hQ, qu, hF, fr⟩) (by simp [resA, AV.ab, n0, hS])]
  · have n0 : ¬ sc.data.toList = [] := fun h => h0 ((nil_iff sc).1 h)
    refine (rres_scheme sc0 au0 pa0 qu0 fr0 sc au pa qu fr hA0 hQ0 hF0 hA hQ hF w (Nat.le_trans ha (by omega)) hm h0).mono ?_
    rintro e w' ⟨⟨S, rfl, hS⟩, hbw⟩
    refine ⟨?_, hbw⟩
    rw [← resV_is (v := ⟨sc, hA, au, S, hQ, qu, hF, fr⟩) (by simp [resA, AV.ab, n0, hS])]
def dotsB (s : ByteArray) : ByteArray := ⟨(dotsS s.data.toList).toArray⟩
theorem dotsB_list (s : ByteArray) : dotsS s.data.toList = (dotsB s).data.toList := by simp [dotsB]
theorem rdots_is (s : ByteArray) (w : World) (hs : s.size ≤ 1000000) (hm : Max w) : Calls Tryd.prog 56 #[.string s] w fun e w' => e = .returned (.string (dotsB s)) ∧ Below w.heap.size w w' := by
  refine (rdots_any s w hs hm).mono ?_
  rintro e w' ⟨T, rfl, hT, hb⟩
  exact ⟨ret_str (bytes_eq (hT.trans (dotsB_list s))), hb⟩

theorem abare_any (l : List UInt8) (w : World) (hg : ErrT w) : Calls Tryd.prog 41 #[errV l, .int .i64 (codeV l)] w fun e w' => e = .returned (.bool true) ∧ Below w.heap.size w w' := by
  unfold errV codeV
  cases readA l with
  | none =>
    go_enter Tryd.func41, Tryd.ntmps41
    go_wp2_with fail
    refine (fault_any 3 _).mono ?_
    rintro e w1 ⟨rfl, hb1⟩
    go_wp2_with fail
    refine (is_errno 3 _ (hg.below hb1 hg.lt)).mono ?_
    rintro e w2 ⟨rfl, hb2⟩
    go_wp2
    go_ret
    exact ⟨rfl, hb1.trans (hb2.mono hb1.size)⟩
  | some a =>
    go_enter Tryd.func41, Tryd.ntmps41
    go_wp2_with fail
    refine (fault_any 0 _).mono ?_
    rintro e w1 ⟨rfl, hb1⟩
    go_wp2_with fail
    refine (is_nil _).mono ?_
    rintro e w2 ⟨rfl, hb2⟩
    go_wp2
    go_ret
    exact ⟨rfl, hb1.trans (hb2.mono hb1.size)⟩

/-- Few enough signs. -/
def tinyN (a : AV) : Nat := a.sc.size + a.au.size + a.pa.size + a.qu.size + a.fr.size
set_option maxHeartbeats 800000 in
theorem tiny_raw (sc au pa qu fr : ByteArray) (hA hQ hF : Bool) (w : World) (s0 : sc.size ≤ 1000000000000000) (s1 : au.size ≤ 1000000000000000) (s2 : pa.size ≤ 1000000000000000) (s3 : qu.size ≤ 1000000000000000) (s4 : fr.size ≤ 1000000000000000) (q : Bool) (hq : decide (sc.size + au.size + pa.size + qu.size + fr.size ≤ 400) = q) :
    Calls Tryd.prog 46 #[agg8 sc hA au pa hQ qu hF fr] w fun e w' => e = .returned (.bool q) ∧ Below w.heap.size w w' := by
  have hb := (Below.refl w.heap.size w).alloc (Nat.le_refl _) (obj8 sc hA au pa hQ qu hF fr)
  cases q
  · have h := of_decide_eq_false hq
    have h' : ¬ ((sc.size : Int) + (au.size : Int) + (pa.size : Int) + (qu.size : Int) + (fr.size : Int) ≤ 400) := by omega
    clear hq h
    go_enter Tryd.func46, Tryd.ntmps46
    go_wp2
    go_ret
    exact ⟨rfl, hb⟩
  · have h := of_decide_eq_true hq
    have h' : (sc.size : Int) + (au.size : Int) + (pa.size : Int) + (qu.size : Int) + (fr.size : Int) ≤ 400 := by omega
    clear hq h
    go_enter Tryd.func46, Tryd.ntmps46
    go_wp2
    go_ret
    exact ⟨rfl, hb⟩

end Go.Proofs.YtpdfghmfhljfiaaDoor
