import Derived.Test.YtkmkhfgoihfkjaaDoorZLB
namespace Go.Proofs.YtkmkhfgoihfkjaaDoor
open Go.RowKit

/- A value, in one word. -/
theorem findL_while (d : UInt8) : ∀ s : List UInt8, findL [d] s = if s.dropWhile (· != d) = [] then none else some (s.takeWhile (· != d), s.dropWhile (· != d))
  | [] => rfl
  | c :: s => by
    unfold findL
    by_cases h : c = d
    · subst h
      simp [List.isPrefixOf]
    · have h1 : (c != d) = true := by simpa using h
      have h2 : ([d] : List UInt8).isPrefixOf (c :: s) = false := by
        simp only [List.isPrefixOf, Bool.and_true, beq_eq_false_iff_ne]
        exact fun e => h e.symm
      rw [h2, List.dropWhile_cons_of_pos (p := fun x => x != d) h1, List.takeWhile_cons_of_pos (p := fun x => x != d) h1, findL_while d s]
      by_cases h3 : s.dropWhile (· != d) = []
      · rw [if_pos h3, if_pos h3]; rfl
      · rw [if_neg h3, if_neg h3]; rfl
/-- A value that stands next, and whether it stands in quotes; none: it does not end. -/
def valS : List UInt8 → Option (List UInt8 × Bool)
  | [] => none
  | q :: t => if q = 34 ∨ q = 39 then (if t.dropWhile (· != q) = [] then none else some (t.takeWhile (· != q), true)) else if (q :: t).dropWhile bareC = [] then none else some ((q :: t).takeWhile bareC, false)
def qn (q : Bool) : Nat := if q then 1 else 0
def ValPost (pg sm : ByteArray) (b a : Nat) (L : Value) (w : World) : Option (List UInt8 × Bool) → Ending → World → Prop
  | none, e, w' => e = .returned (.tuple #[.agg #[.int .i64 0, .int .i64 0, .string ⟨#[]⟩], .bool false]) ∧ PR w' b pg sm pg.size L ∧ w.grownBy w' (some b)
  | some (v, q), e, w' => (∃ V : ByteArray, e = .returned (.tuple #[.agg #[.int .i64 ((a + qn q : Nat) : Int), .int .i64 (v.length : Int), .string V], .bool true]) ∧ V.data.toList = unescS v) ∧ PR w' b pg sm (a + v.length + 2 * qn q) L ∧ a + v.length + 2 * qn q ≤ pg.size ∧ w.grownBy w' (some b)
theorem while_lenP {p : UInt8 → Bool} (l : List UInt8) : (l.takeWhile p).length + (l.dropWhile p).length = l.length := by
  rw [← List.length_append, List.takeWhile_append_dropWhile]
theorem take_while {p : UInt8 → Bool} (l : List UInt8) : l.take (l.takeWhile p).length = l.takeWhile p := by
  have e := List.takeWhile_append_dropWhile (p := p) (l := l)
  exact (congrArg (List.take (l.takeWhile p).length) e.symm).trans List.take_left

theorem value_any (b a : Nat) (pg sm : ByteArray) (L : Value) (w : World) (h : PR w b pg sm a L) (hW : Words w) (hgb : 2 ≠ b) (hl : pg.size ≤ 100000000) (hsm : sm.data.toList = smallS pg.data.toList) (ha : a ≤ pg.size) :
    Calls Tryd.prog 37 #[.pointer (some ⟨b, 0, none⟩)] w (ValPost pg sm b a L w (valS (pg.data.toList.drop a))) := by
  have hs : sm.size = pg.size := by rw [← size_list, hsm, ← size_list]; unfold smallS; simp
  have hq := isAt_small quotesA sm _ quote_c pg.data.toList hsm a
  have hln : (pg.data.toList.drop a).length = pg.size - a := by rw [List.length_drop, size_list]
  have hub : untilN bareA.data.toList sm.data.toList a = ((pg.data.toList.drop a).takeWhile bareC).length := by rw [hsm]; exact until_small bareL bareC bare_c _ a
  have hwl := while_lenP (p := bareC) (pg.data.toList.drop a)
  cases hd : pg.data.toList.drop a with
  | nil =>
    rw [hd] at hq hln hub hwl
    simp at hln hub
    refine (value_bare_no b a pg sm L w h hl hs ha hq (by rw [hub]; omega)).mono ?_
    exact fun e w' x => x
  | cons c t =>
    have hlt : a < pg.size := by rw [hd] at hln; simp at hln; omega
    by_cases hc : c = 34 ∨ c = 39
    · have hd1 : pg.data.toList.drop (a + 1) = t := by
        have := congrArg (List.drop 1) hd
        simpa [List.drop_drop] using this
      have hpc : pg[a] = c := by
        have := List.drop_eq_getElem_cons (l := pg.data.toList) (i := a) (by rw [size_list]; exact hlt)
        rw [hd] at this
        injection this with h1 _
        exact h1.symm
      have hx : (pg.extract a (a + 1)).data.toList = [c] := by
        rw [extract_list, hd]
        simp
      have hcc : ∀ d, (!([c] : List UInt8).contains (smallC d)) = (d != c) := by
        rcases hc with rfl | rfl
        · exact q34_c
        · exact q39_c
      have hu : untilN (pg.extract a (a + 1)).data.toList sm.data.toList (a + 1) = (t.takeWhile (· != c)).length := by
        rw [hx, hsm, until_small [c] (· != c) hcc _ (a + 1), hd1]
      have hw2 := while_lenP (p := (· != c)) t
      have hq1 : isAtB quotesA sm a = true := by
        rw [hq, hd]
        rcases hc with rfl | rfl <;> rfl
      have htl : t.length = pg.size - a - 1 := by rw [hd] at hln; simp at hln; omega
      rw [valS, if_pos hc]
      by_cases he : t.dropWhile (· != c) = []
      · rw [if_pos he]
        rw [he] at hw2
        simp at hw2
        refine (value_quo_no b a pg sm L w h hl hs hlt hq1 (by rw [hu]; omega)).mono ?_
        exact fun e w' x => x
      · rw [if_neg he]
        have hpos : 0 < (t.dropWhile (· != c)).length := List.length_pos_iff.2 he
        refine (value_quo_yes b a (a + 1 + (t.takeWhile (· != c)).length) pg sm L w h hW hgb hl hs hlt hq1 (by rw [hu]) (by omega) (by omega)).mono ?_
        rintro e w' ⟨⟨V, rfl, hV⟩, hP, hg⟩
        rw [hd1, Nat.add_sub_cancel_left, take_while] at hV
        refine ⟨⟨V, ?_, hV⟩, ?_, ?_, hg⟩
        · rw [Nat.add_sub_cancel_left]; rfl
        · have e : a + (t.takeWhile (· != c)).length + 2 * qn true = a + 1 + (t.takeWhile (· != c)).length + 1 := by show _ + 2 * 1 = _; omega
          rw [e]; exact hP
        · show _ + 2 * 1 ≤ _
          omega
    · have hq0 : isAtB quotesA sm a = false := by
        rw [hq, hd]
        simp only [List.head?_cons, Option.any_some, Bool.or_eq_false_iff, beq_eq_false_iff_ne]
        exact ⟨fun e => hc (.inl e), fun e => hc (.inr e)⟩
      rw [hd] at hub hwl hln
      simp only [List.length_cons] at hwl hln
      rw [valS, if_neg hc]
      by_cases he : (c :: t).dropWhile bareC = []
      · rw [if_pos he]
        rw [he] at hwl
        simp at hwl
        refine (value_bare_no b a pg sm L w h hl hs ha hq0 (by rw [hub]; omega)).mono ?_
        exact fun e w' x => x
      · rw [if_neg he]
        have hpos : 0 < ((c :: t).dropWhile bareC).length := List.length_pos_iff.2 he
        refine (value_bare_yes b a (a + ((c :: t).takeWhile bareC).length) pg sm L w h hW hgb hl hs ha hq0 (by rw [hub]) (by omega) (by omega)).mono ?_
        rintro e w' ⟨⟨V, rfl, hV⟩, hP, hg⟩
        rw [hd, Nat.add_sub_cancel_left, take_while] at hV
        refine ⟨⟨V, ?_, hV⟩, hP, ?_, hg⟩
        · rw [Nat.add_sub_cancel_left]; rfl
        · show _ + 2 * 0 ≤ _
          omega

end Go.Proofs.YtkmkhfgoihfkjaaDoor
