import Derived.Test.YtpdfghmfhljfiaaDoorA1
import Derived.Test.YtpdfghmfhljfiaaDoorH4
namespace Go.Proofs.YtpdfghmfhljfiaaDoor
open Go.RowKit

/- An address as Go lays it. -/
structure AV where
  sc : ByteArray
  hA : Bool
  au : ByteArray
  pa : ByteArray
  hQ : Bool
  qu : ByteArray
  hF : Bool
  fr : ByteArray
abbrev AV.val (a : AV) : Value := .agg #[.string a.sc, .bool a.hA, .string a.au, .string a.pa, .bool a.hQ, .string a.qu, .bool a.hF, .string a.fr]
def AV.ab (a : AV) : AB := ⟨a.sc.data.toList, a.hA, a.au.data.toList, a.pa.data.toList, a.hQ, a.qu.data.toList, a.hF, a.fr.data.toList⟩
structure AV.Small (a : AV) (n : Nat) : Prop where
  sc : a.sc.size ≤ n
  au : a.au.size ≤ n
  pa : a.pa.size ≤ n
  qu : a.qu.size ≤ n
  fr : a.fr.size ≤ n
theorem av_small {sc au pa qu fr : ByteArray} {hA hQ hF : Bool} {n : Nat} (h0 : sc.size ≤ n) (h1 : au.size ≤ n) (h2 : pa.size ≤ n) (h3 : qu.size ≤ n) (h4 : fr.size ≤ n) : AV.Small ⟨sc, hA, au, pa, hQ, qu, hF, fr⟩ n := ⟨h0, h1, h2, h3, h4⟩
theorem ab_inj {a b : AV} (h : a.ab = b.ab) : a = b := by
  obtain ⟨a0, a1, a2, a3, a4, a5, a6, a7⟩ := a
  obtain ⟨b0, b1, b2, b3, b4, b5, b6, b7⟩ := b
  simp only [AV.ab, AB.mk.injEq] at h
  obtain ⟨h0, h1, h2, h3, h4, h5, h6, h7⟩ := h
  rw [bytes_eq h0, h1, bytes_eq h2, bytes_eq h3, h4, bytes_eq h5, h6, bytes_eq h7]
def AV.of (a : AB) : AV := ⟨⟨a.sch.toArray⟩, a.hasA, ⟨a.auth.toArray⟩, ⟨a.path.toArray⟩, a.hasQ, ⟨a.query.toArray⟩, a.hasF, ⟨a.frag.toArray⟩⟩
theorem ab_of (a : AB) : (AV.of a).ab = a := by cases a; simp [AV.of, AV.ab]
theorem of_ab (a : AV) : AV.of a.ab = a := ab_inj (ab_of _)

set_option maxHeartbeats 1600000 in
set_option maxRecDepth 100000 in
theorem awrite_raw (sc au pa qu fr : ByteArray) (hA hQ hF : Bool) (w : World) (s0 : sc.size ≤ 1000000) (s1 : au.size ≤ 1000000) (s2 : pa.size ≤ 1000000) (s3 : qu.size ≤ 1000000) (s4 : fr.size ≤ 1000000) :
    Calls Tryd.prog 52 #[.agg #[.string sc, .bool hA, .string au, .string pa, .bool hQ, .string qu, .bool hF, .string fr]] w fun e w' => ∃ S : ByteArray, e = .returned (.string S) ∧ S.data.toList = writeA (AV.ab ⟨sc, hA, au, pa, hQ, qu, hF, fr⟩) ∧ Below w.heap.size w w' := by
  have hb := (Below.refl w.heap.size w).alloc (Nat.le_refl _) (.cells #[.string sc, .bool hA, .string au, .string pa, .bool hQ, .string qu, .bool hF, .string fr] 73)
  by_cases h0 : sc.size = 0
  · have he : sc.toList.isEmpty = true := empty_of sc h0
    have HE : Box (sc.data.toList = []) := ⟨data_nil sc h0⟩
    clear h0
    cases hA <;> cases hQ <;> cases hF
    all_goals
      go_enter Tryd.func52, Tryd.ntmps52
      go_wp2
      go_ret
      exact ⟨_, rfl, by simp [writeA, AV.ab, HE.out], hb⟩
  · have he : sc.toList.isEmpty = false := nonempty_of sc h0
    have HE : Box (¬ sc.data.toList = []) := ⟨fun e => h0 (by rw [← size_list, e]; rfl)⟩
    clear h0
    cases hA <;> cases hQ <;> cases hF
    all_goals
      go_enter Tryd.func52, Tryd.ntmps52
      go_wp2
      go_ret
      exact ⟨_, rfl, by simp [writeA, AV.ab, HE.out], hb⟩

end Go.Proofs.YtpdfghmfhljfiaaDoor
