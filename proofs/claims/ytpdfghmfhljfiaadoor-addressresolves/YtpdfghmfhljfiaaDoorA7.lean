import Derived.Test.YtpdfghmfhljfiaaDoorA4
import Derived.Test.YtpdfghmfhljfiaaDoorA6
import Derived.Deep.QuietTactic
import Derived.BigQuiet
namespace Go.Proofs.YtpdfghmfhljfiaaDoor
open Go.RowKit

/- Blocks that hold an address. -/
structure Blk (w : World) (b : Nat) (v0 v1 v2 v3 v4 v5 v6 v7 : Value) : Prop where
  c0 : w.cell? ⟨b, 0, none⟩ = some v0
  c1 : w.cell? ⟨b, 1, none⟩ = some v1
  c2 : w.cell? ⟨b, 2, none⟩ = some v2
  c3 : w.cell? ⟨b, 3, none⟩ = some v3
  c4 : w.cell? ⟨b, 4, none⟩ = some v4
  c5 : w.cell? ⟨b, 5, none⟩ = some v5
  c6 : w.cell? ⟨b, 6, none⟩ = some v6
  c7 : w.cell? ⟨b, 7, none⟩ = some v7
  fz : ∀ i, w.frozen? ⟨b, i, none⟩ = false
theorem blk_of {w : World} {b : Nat} {v0 v1 v2 v3 v4 v5 v6 v7 : Value} (h : w.heap[b]? = some (.cells #[v0, v1, v2, v3, v4, v5, v6, v7] 73 (0, 0))) : Blk w b v0 v1 v2 v3 v4 v5 v6 v7 :=
  ⟨by simp [World.cell?, h], by simp [World.cell?, h], by simp [World.cell?, h], by simp [World.cell?, h], by simp [World.cell?, h], by simp [World.cell?, h], by simp [World.cell?, h], by simp [World.cell?, h], fun i => by simp [World.frozen?, h]⟩
theorem heap_three (w : World) (A B Z : Obj) : (((w.alloc A).alloc B).alloc Z).heap[w.heap.size]? = some A ∧ (((w.alloc A).alloc B).alloc Z).heap[w.heap.size + 1]? = some B ∧ (((w.alloc A).alloc B).alloc Z).heap[w.heap.size + 2]? = some Z := by
  refine ⟨?_, ?_, ?_⟩
  · show ((((w.heap.push A).push B).push Z))[w.heap.size]? = _
    rw [Array.getElem?_push, if_neg (by simp; omega), Array.getElem?_push, if_neg (by simp), Array.getElem?_push, if_pos rfl]
  · show ((((w.heap.push A).push B).push Z))[w.heap.size + 1]? = _
    rw [Array.getElem?_push, if_neg (by simp), Array.getElem?_push, if_pos (by simp)]
  · show ((((w.heap.push A).push B).push Z))[w.heap.size + 2]? = _
    rw [Array.getElem?_push, if_pos (by simp)]
theorem size_three (w : World) (A B Z : Obj) : (((w.alloc A).alloc B).alloc Z).heap.size = w.heap.size + 3 := by simp
theorem below_three (w : World) (A B Z : Obj) : Below w.heap.size w (((w.alloc A).alloc B).alloc Z) := (((Below.refl w.heap.size w).alloc (Nat.le_refl _) _).alloc (by simp) _).alloc (by simp; omega) _

theorem below_dN {B : Nat} {a w : World} (h : Below B a w) (n : Nat) : Below B a (w.drewN n) := h.trans ⟨rfl, rfl, rfl, Nat.le_refl _, fun _ _ => rfl⟩

/-- A path as it stands at an address. -/
def besideA (b : AB) (p : List UInt8) : List UInt8 := if p.head? = some 47 then p else dirA b ++ p
theorem one_slash (t : List UInt8) : Lib.hasPrefix t [47] = decide (t.head? = some 47) := by
  unfold Lib.hasPrefix
  cases t with
  | nil => rfl
  | cons a t =>
    rw [Bool.eq_iff_iff]
    simp only [List.isPrefixOf, Bool.and_true, beq_iff_eq, decide_eq_true_eq, List.head?_cons, Option.some.injEq]
    exact eq_comm

theorem lastb_any (pa : ByteArray) (z : Int) (hz : Lib.lastIndexByte pa 47 = z) (hs : pa.size ≤ 400000) (w : World) : Calls Tryd.prog 147 #[.string pa, .int .u8 47] w fun e w' => e = .returned (.int .i64 z) ∧ w' = w := by
  refine (Tryd.strings_LastIndexByte pa 47 (by omega) w).mono ?_
  rintro e w' ⟨rfl, rfl⟩
  exact ⟨ret_int hz, rfl⟩

set_option maxHeartbeats 1000000 in
set_option maxRecDepth 100000 in
theorem beside_any (sc au pa qu fr p : ByteArray) (hA hQ hF : Bool) (w : World) (s2 : pa.size ≤ 400000) (s5 : p.size ≤ 400000) :
    Calls Tryd.prog 110 #[.agg #[.string sc, .bool hA, .string au, .string pa, .bool hQ, .string qu, .bool hF, .string fr], .string p] w fun e w' => ∃ S : ByteArray, e = .returned (.string S) ∧ S.data.toList = besideA (AV.ab ⟨sc, hA, au, pa, hQ, qu, hF, fr⟩) p.data.toList ∧ S.size ≤ pa.size + p.size + 1 ∧ Below w.heap.size w w' := by
  have hb := (Below.refl w.heap.size w).alloc (Nat.le_refl _) (.cells #[.string sc, .bool hA, .string au, .string pa, .bool hQ, .string qu, .bool hF, .string fr] 73)
  cases h1 : decide (p.data.toList.head? = some 47)
  · have HB : Box (besideA (AV.ab ⟨sc, hA, au, pa, hQ, qu, hF, fr⟩) p.data.toList = dirA (AV.ab ⟨sc, hA, au, pa, hQ, qu, hF, fr⟩) ++ p.data.toList) := ⟨by unfold besideA; rw [if_neg (of_decide_eq_false h1)]⟩
    have h1' := Box.mk ((one_slash p.data.toList).trans h1)
    clear h1
    by_cases h2 : hA = true ∧ pa.size = 0
    · obtain ⟨rfl, h3⟩ := h2
      have he := empty_of pa h3
      have HD : Box (dirA (AV.ab ⟨sc, true, au, pa, hQ, qu, hF, fr⟩) = [47]) := ⟨by unfold dirA; rw [if_pos ⟨rfl, data_nil pa h3⟩]⟩
      clear h3
      go_enter Tryd.func110, Tryd.ntmps110
      go_wp2_with fail
      refine (Tryd.strings_HasPrefix p ⟨#[47]⟩ _).mono ?_
      rintro e w1 ⟨rfl, rfl⟩
      rw [show (⟨#[47]⟩ : ByteArray).data.toList = [47] from rfl, h1'.out]
      go_wp2
      go_ret
      exact ⟨_, rfl, by rw [HB.out, HD.out]; simp, by rw [ByteArray.size_append]; show 1 + p.size ≤ _; omega, hb⟩
    · have HD : Box (dirA (AV.ab ⟨sc, hA, au, pa, hQ, qu, hF, fr⟩) = dirS pa.data.toList) := ⟨by unfold dirA; rw [if_neg (fun h => h2 ⟨h.1, by rw [← size_list]; exact congrArg List.length h.2⟩)]; rfl⟩
      have hcs : hA = false ∨ (hA = true ∧ pa.toList.isEmpty = false) := by
        cases hA
        · exact .inl rfl
        · exact .inr ⟨rfl, nonempty_of pa (fun h => h2 ⟨rfl, h⟩)⟩
      clear h2
      obtain ⟨z, hz, n, hn, hnn, HN⟩ : ∃ z : Int, Lib.lastIndexByte pa 47 = z ∧ ∃ n : Nat, IntKind.i64.wrap (z + 1) = (n : Int) ∧ n ≤ pa.size ∧ Box (dirS pa.data.toList = (pa.extract 0 n).data.toList) := by
        rcases dirS_cases pa with ⟨h, h'⟩ | ⟨i, hi, h, h'⟩
        · refine ⟨-1, h, 0, by decide, Nat.zero_le _, ⟨by rw [h', extract_list]; rfl⟩⟩
        · refine ⟨i, h, i + 1, ?_, hi, ⟨by rw [h', extract_list]; simp⟩⟩
          rw [IntKind.wrap_i64]; omega
      rcases hcs with rfl | ⟨rfl, he⟩
      all_goals
        go_enter Tryd.func110, Tryd.ntmps110
        go_wp2_with fail
        refine (Tryd.strings_HasPrefix p ⟨#[47]⟩ _).mono ?_
        rintro e w1 ⟨rfl, rfl⟩
        rw [show (⟨#[47]⟩ : ByteArray).data.toList = [47] from rfl, h1'.out]
        go_wp2
        have hsum : ¬ 9223372036854775807 < n + p.size := by omega
        have hsz : (pa.extract 0 n).size = n := by simp; omega
        go_quiet (first | (go_at_call 147; refine Calls.quiet_of_same (lastb_any pa z hz s2 _)))
        go_wp2
        go_ret
        exact ⟨_, rfl, by rw [HB.out, HD.out, HN.out]; simp, by rw [ByteArray.size_append]; omega, below_dN hb _⟩
  · have HB : Box (besideA (AV.ab ⟨sc, hA, au, pa, hQ, qu, hF, fr⟩) p.data.toList = p.data.toList) := ⟨by unfold besideA; rw [if_pos (of_decide_eq_true h1)]⟩
    have h1' := Box.mk ((one_slash p.data.toList).trans h1)
    clear h1
    go_enter Tryd.func110, Tryd.ntmps110
    go_wp2_with fail
    refine (Tryd.strings_HasPrefix p ⟨#[47]⟩ _).mono ?_
    rintro e w1 ⟨rfl, rfl⟩
    rw [show (⟨#[47]⟩ : ByteArray).data.toList = [47] from rfl, h1'.out]
    go_wp2
    go_ret
    exact ⟨_, rfl, HB.out.symm, by omega, hb⟩

/- Where an address leads. -/
abbrev agg8 (sc : ByteArray) (hA : Bool) (au pa : ByteArray) (hQ : Bool) (qu : ByteArray) (hF : Bool) (fr : ByteArray) : Value := .agg #[.string sc, .bool hA, .string au, .string pa, .bool hQ, .string qu, .bool hF, .string fr]
abbrev obj8 (sc : ByteArray) (hA : Bool) (au pa : ByteArray) (hQ : Bool) (qu : ByteArray) (hF : Bool) (fr : ByteArray) : Obj := .cells #[.string sc, .bool hA, .string au, .string pa, .bool hQ, .string qu, .bool hF, .string fr] 73

set_option maxHeartbeats 1000000 in
set_option maxRecDepth 100000 in
theorem ares_scheme (sc0 au0 pa0 qu0 fr0 sc au pa qu fr : ByteArray) (hA0 hQ0 hF0 hA hQ hF : Bool) (w : World) (s2 : pa.size ≤ 1000000) (hm : Max w) (h0 : ¬ sc.size = 0) :
    Calls Tryd.prog 49 #[agg8 sc0 hA0 au0 pa0 hQ0 qu0 hF0 fr0, agg8 sc hA au pa hQ qu hF fr] w fun e w' => (∃ S : ByteArray, e = .returned (agg8 sc hA au S hQ qu hF fr) ∧ S.data.toList = dotsS pa.data.toList) ∧ Below w.heap.size w w' := by
  have he := nonempty_of sc h0
  have hw0 := hm.1
  have HMx := Box.mk hm
  clear h0 hm
  go_enter Tryd.func49, Tryd.ntmps49
  go_wp2_with fail
  refine (adots_any pa _ (by omega) (HMx.out.below (below_three w _ _ _) hw0)).mono ?_
  rintro e w1 ⟨S, rfl, hS, hb1⟩
  have hsz1 := hb1.size
  obtain ⟨x0, x1, x2, x3, x4, x5, x6, x7, xf⟩ := blk_of ((hb1.block (w.heap.size + 1) (by simp)).trans (heap_three w _ _ _).2.1)
  obtain ⟨y0, y1, y2, y3, y4, y5, y6, y7, yf⟩ := blk_of ((hb1.block (w.heap.size + 2) (by simp)).trans (heap_three w _ _ _).2.2)
  have b1 := (below_three w (obj8 sc0 hA0 au0 pa0 hQ0 qu0 hF0 fr0) (obj8 sc hA au pa hQ qu hF fr) avObj).trans (hb1.mono (by show _ ≤ (((w.alloc _).alloc _).alloc _).heap.size; rw [size_three]; omega))
  clear hb1
  go_wp2
  refine bodyPost_ret (v := agg8 sc hA au S hQ qu hF fr) (by simp [results, Tryd.results49, go_sem, y0, y1, y2, y3, y4, y5, y6, y7]) rfl ⟨⟨S, rfl, hS⟩, ?_⟩
  iterate 9 (refine Below.setCell ?_ (by simp <;> omega) _)
  exact b1

set_option maxHeartbeats 1000000 in
set_option maxRecDepth 100000 in
theorem ares_auth (sc0 au0 pa0 qu0 fr0 sc au pa qu fr : ByteArray) (hA0 hQ0 hF0 hQ hF : Bool) (w : World) (s2 : pa.size ≤ 1000000) (hm : Max w) (h0 : sc.size = 0) :
    Calls Tryd.prog 49 #[agg8 sc0 hA0 au0 pa0 hQ0 qu0 hF0 fr0, agg8 sc true au pa hQ qu hF fr] w fun e w' => (∃ S : ByteArray, e = .returned (agg8 sc0 true au S hQ qu hF fr) ∧ S.data.toList = dotsS pa.data.toList) ∧ Below w.heap.size w w' := by
  have he := empty_of sc h0
  have hw0 := hm.1
  have HMx := Box.mk hm
  clear h0 hm
  go_enter Tryd.func49, Tryd.ntmps49
  go_wp2_with fail
  refine (adots_any pa _ (by omega) (HMx.out.below (below_three w _ _ _) hw0)).mono ?_
  rintro e w1 ⟨S, rfl, hS, hb1⟩
  have hsz1 := hb1.size
  obtain ⟨x0, x1, x2, x3, x4, x5, x6, x7, xf⟩ := blk_of ((hb1.block (w.heap.size + 1) (by simp)).trans (heap_three w _ _ _).2.1)
  obtain ⟨y0, y1, y2, y3, y4, y5, y6, y7, yf⟩ := blk_of ((hb1.block (w.heap.size + 2) (by simp)).trans (heap_three w _ _ _).2.2)
  have b1 := (below_three w (obj8 sc0 hA0 au0 pa0 hQ0 qu0 hF0 fr0) (obj8 sc0 true au pa hQ qu hF fr) avObj).trans (hb1.mono (by show _ ≤ (((w.alloc _).alloc _).alloc _).heap.size; rw [size_three]; omega))
  clear hb1
  go_wp2
  refine bodyPost_ret (v := agg8 sc0 true au S hQ qu hF fr) (by simp [results, Tryd.results49, go_sem, y0, y1, y2, y3, y4, y5, y6, y7]) rfl ⟨⟨S, rfl, hS⟩, ?_⟩
  iterate 9 (refine Below.setCell ?_ (by simp <;> omega) _)
  exact b1

set_option maxHeartbeats 1000000 in
set_option maxRecDepth 100000 in
theorem ares_path (sc0 au0 pa0 qu0 fr0 sc au pa qu fr : ByteArray) (hA0 hQ0 hF0 hQ hF : Bool) (w : World) (s1 : pa0.size ≤ 400000) (s2 : pa.size ≤ 400000) (hm : Max w) (h0 : sc.size = 0) (h1 : ¬ pa.size = 0) :
    Calls Tryd.prog 49 #[agg8 sc0 hA0 au0 pa0 hQ0 qu0 hF0 fr0, agg8 sc false au pa hQ qu hF fr] w fun e w' => (∃ S : ByteArray, e = .returned (agg8 sc0 hA0 au0 S hQ qu hF fr) ∧ S.data.toList = dotsS (besideA (AV.ab ⟨sc0, hA0, au0, pa0, hQ0, qu0, hF0, fr0⟩) pa.data.toList)) ∧ Below w.heap.size w w' := by
  have he := empty_of sc h0
  have hp := nonempty_of pa h1
  have hw0 := hm.1
  have HMx := Box.mk hm
  clear h0 hm h1
  go_enter Tryd.func49, Tryd.ntmps49
  go_wp2
  go_region
  go_wp2_with fail
  refine (beside_any sc0 au0 pa0 qu0 fr0 pa hA0 hQ0 hF0 _ s1 s2).mono ?_
  rintro e w1 ⟨P, rfl, hP, hPs, hb1⟩
  have hsz1 := hb1.size
  have b0 := (below_three w (obj8 sc0 hA0 au0 pa0 hQ0 qu0 hF0 fr0) (obj8 sc0 hA0 au0 pa hQ qu hF fr) avObj).drew.trans (hb1.mono (by show _ ≤ (((w.alloc _).alloc _).alloc _).heap.size; rw [size_three]; omega))
  go_wp2_with fail
  refine (adots_any P _ (by omega) (HMx.out.below b0 hw0)).mono ?_
  rintro e w2 ⟨S, rfl, hS, hb2⟩
  have hsz2 := hb2.size
  rw [hP] at hS
  have hb3 := hb1.trans (hb2.mono hsz1)
  obtain ⟨x0, x1, x2, x3, x4, x5, x6, x7, xf⟩ := blk_of ((hb3.block (w.heap.size + 1) (by simp)).trans (heap_three w _ _ _).2.1)
  obtain ⟨y0, y1, y2, y3, y4, y5, y6, y7, yf⟩ := blk_of ((hb3.block (w.heap.size + 2) (by simp)).trans (heap_three w _ _ _).2.2)
  have b1 := b0.trans (hb2.mono (Nat.le_trans b0.size (Nat.le_refl _)))
  clear hb1 hb2 hb3 b0
  go_wp2
  refine bodyPost_ret (v := agg8 sc0 hA0 au0 S hQ qu hF fr) (by simp [results, Tryd.results49, go_sem, y0, y1, y2, y3, y4, y5, y6, y7]) rfl ⟨⟨S, rfl, hS⟩, ?_⟩
  iterate 9 (refine Below.setCell ?_ (by simp <;> omega) _)
  exact b1

set_option maxHeartbeats 1000000 in
set_option maxRecDepth 100000 in
theorem ares_query (sc0 au0 pa0 qu0 fr0 sc au pa qu fr : ByteArray) (hA0 hQ0 hF0 hF : Bool) (w : World) (h0 : sc.size = 0) (h1 : pa.size = 0) :
    Calls Tryd.prog 49 #[agg8 sc0 hA0 au0 pa0 hQ0 qu0 hF0 fr0, agg8 sc false au pa true qu hF fr] w fun e w' => e = .returned (agg8 sc0 hA0 au0 pa0 true qu hF fr) ∧ Below w.heap.size w w' := by
  have he := empty_of sc h0
  have hp := empty_of pa h1
  clear h0 h1
  go_enter Tryd.func49, Tryd.ntmps49
  go_wp2
  go_region
  go_wp2
  exact bodyPost_ret (v := agg8 sc0 hA0 au0 pa0 true qu hF fr) (by simp [results, Tryd.results49, go_sem]) rfl ⟨rfl, (below_three w _ _ _).drew⟩

set_option maxHeartbeats 1000000 in
set_option maxRecDepth 100000 in
theorem ares_same (sc0 au0 pa0 qu0 fr0 sc au pa qu fr : ByteArray) (hA0 hQ0 hF0 hF : Bool) (w : World) (h0 : sc.size = 0) (h1 : pa.size = 0) :
    Calls Tryd.prog 49 #[agg8 sc0 hA0 au0 pa0 hQ0 qu0 hF0 fr0, agg8 sc false au pa false qu hF fr] w fun e w' => e = .returned (agg8 sc0 hA0 au0 pa0 hQ0 qu0 hF fr) ∧ Below w.heap.size w w' := by
  have he := empty_of sc h0
  have hp := empty_of pa h1
  clear h0 h1
  go_enter Tryd.func49, Tryd.ntmps49
  go_wp2
  go_region
  go_wp2
  go_region
  go_wp2
  exact bodyPost_ret (v := agg8 sc0 hA0 au0 pa0 hQ0 qu0 hF fr) (by simp [results, Tryd.results49, go_sem]) rfl ⟨rfl, (below_three w _ _ _).drew.drew⟩

end Go.Proofs.YtpdfghmfhljfiaaDoor
