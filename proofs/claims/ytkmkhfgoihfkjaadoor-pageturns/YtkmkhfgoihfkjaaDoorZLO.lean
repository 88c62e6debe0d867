import Derived.Test.YtkmkhfgoihfkjaaDoorZLN
namespace Go.Proofs.YtkmkhfgoihfkjaaDoor
open Go.RowKit

/- What stands ahead of a value: its quote, or none. -/
def GoodI : PItem → Prop
  | (_, none) => True
  | (c, some (_, true)) => ∃ d, c.getLast? = some d ∧ (d = 34 ∨ d = 39)
  | (c, some (_, false)) => ∃ d, c.getLast? = some d ∧ d ≠ 34 ∧ d ≠ 39
theorem gap_noq (c : UInt8) (h : gapC c = true) : c ≠ 34 ∧ c ≠ 39 := by
  constructor <;> rintro rfl <;> exact absurd h (by decide)
theorem tag_goodI (n s c r v : List UInt8) (q : Bool) (m : Md) (h : stepTag n s = some (c, some (v, q), m, r)) : GoodI (c, some (v, q)) := by
  unfold stepTag at h
  cases hs : s.dropWhile skipC with
  | nil => rw [hs] at h; cases h
  | cons d t =>
    rw [hs] at h
    simp only at h
    by_cases h0 : d = 62
    · rw [if_pos h0] at h
      simp at h
    · rw [if_neg h0] at h
      by_cases h1 : t.dropWhile attrC = []
      · rw [if_pos h1] at h; cases h
      · rw [if_neg h1] at h
        by_cases h2 : ((t.dropWhile attrC).dropWhile gapC).head? = some 61
        · rw [if_pos h2, val_by] at h
          generalize ((t.dropWhile attrC).dropWhile gapC).drop 1 = y at h
          cases hv : valS (y.dropWhile gapC) with
          | none => rw [hv] at h; cases h
          | some vq =>
            obtain ⟨v', q'⟩ := vq
            rw [hv] at h
            simp only at h
            split at h
            · simp only [Option.some.injEq, Prod.mk.injEq] at h
              obtain ⟨rfl, ⟨rfl, rfl⟩, _, _⟩ := h
              cases q' with
              | true =>
                cases hy : y.dropWhile gapC with
                | nil => rw [hy] at hv; cases hv
                | cons e z =>
                  rw [hy, valS] at hv
                  have he : e = 34 ∨ e = 39 := by
                    by_cases he : e = 34 ∨ e = 39
                    · exact he
                    · rw [if_neg he] at hv
                      split at hv
                      · cases hv
                      · simp at hv
                  refine ⟨e, ?_, he⟩
                  have : qn true = 1 := rfl
                  rw [this, List.getLast?_append]
                  simp
              | false =>
                have : qn false = 0 := rfl
                rw [this, List.take_zero, List.append_nil]
                cases hg : (y.takeWhile gapC).getLast? with
                | none =>
                  refine ⟨61, ?_, by decide, by decide⟩
                  rw [List.getLast?_append, hg, Option.none_or, List.getLast?_append]
                  rfl
                | some g =>
                  have hgm : gapC g = true := takeWhile_all _ g (List.mem_of_getLast? hg)
                  refine ⟨g, ?_, (gap_noq g hgm).1, (gap_noq g hgm).2⟩
                  rw [List.getLast?_append, hg]
                  rfl
            · simp at h
        · rw [if_neg h2] at h
          simp at h
theorem run_goodI (m : Md) (s : List UInt8) (its : List PItem) (tl : List UInt8) (h : Run m s its tl) : ∀ it ∈ its, GoodI it := by
  induction h with
  | stop m s _ => intro it hit; cases hit
  | go m m' s c r tl e its h0 _ ih =>
    intro it hit
    rcases List.mem_cons.1 hit with rfl | hit
    · match m with
      | none =>
        have h0 : stepTop s = some (c, e, m', r) := h0
        obtain ⟨rfl, _⟩ := top_local s c r r e m' h0 rfl
        exact trivial
      | some (true, n) =>
        have h0 : stepSkip n s = some (c, e, m', r) := h0
        unfold stepSkip at h0
        obtain ⟨q, hq, hq2⟩ := Option.map_eq_some_iff.1 h0
        simp only [Prod.mk.injEq] at hq2
        obtain ⟨rfl, rfl, rfl, rfl⟩ := hq2
        exact trivial
      | some (false, n) =>
        match e with
        | none => exact trivial
        | some (v, q) => exact tag_goodI n s c r v q m' h0
    · exact ih it hit
/-- The next link of a page, and what stands ahead of its value. -/
theorem next_good : ∀ its : List PItem, (∀ it ∈ its, GoodI it) →
    (countP its = 0 ∧ ∀ (vs : List (List UInt8)) (tl : List UInt8), outP its vs tl = srcP its tl)
    ∨ ∃ (c v op cl cl' : List UInt8) (its' : List PItem) (d : UInt8), countP its = countP its' + 1 ∧ (∀ it ∈ its', GoodI it) ∧ c.getLast? = some d
      ∧ ((op = [] ∧ cl' = cl ∧ (d = 34 ∨ d = 39)) ∨ (op = [34] ∧ cl = [] ∧ cl' = [34] ∧ ¬ (d = 34 ∨ d = 39)))
      ∧ (∀ tl, srcP its tl = c ++ (v ++ (cl ++ srcP its' tl)))
      ∧ (∀ k, linksP k its = (k + c.length, v.length, unescS v) :: linksP (k + c.length + v.length + cl.length) its')
      ∧ (∀ (vs : List (List UInt8)) (tl : List UInt8), outP its vs tl = c ++ (op ++ (vs.headD [] ++ (cl' ++ outP its' vs.tail tl))))
  | [], _ => .inl ⟨rfl, fun _ _ => rfl⟩
  | (c, none) :: its, hg => by
    rcases next_good its (fun it h => hg it (by simp [h])) with ⟨h1, h2⟩ | ⟨c1, v, op, cl, cl', its', d, h0, hg', hl, h1, h2, h3, h4⟩
    · exact .inl ⟨h1, fun vs tl => by rw [outP, srcP, h2]⟩
    · refine .inr ⟨c ++ c1, v, op, cl, cl', its', d, h0, hg', by rw [List.getLast?_append, hl]; rfl, h1, fun tl => ?_, fun k => ?_, fun vs tl => ?_⟩
      · rw [srcP, h2]; simp
      · rw [linksP, h3, List.length_append, Nat.add_assoc k]
      · rw [outP, h4]; simp
  | (c, some (v, true)) :: its, hg => by
    obtain ⟨d, hd1, hd2⟩ := hg (c, some (v, true)) (by simp)
    exact .inr ⟨c, v, [], [c.getLast?.getD 0], [c.getLast?.getD 0], its, d, rfl, fun it h => hg it (by simp [h]), hd1, .inl ⟨rfl, rfl, hd2⟩, fun tl => rfl, fun k => rfl, fun vs tl => rfl⟩
  | (c, some (v, false)) :: its, hg => by
    obtain ⟨d, hd1, hd2, hd3⟩ := hg (c, some (v, false)) (by simp)
    exact .inr ⟨c, v, [34], [], [34], its, d, rfl, fun it h => hg it (by simp [h]), hd1, .inr ⟨rfl, rfl, rfl, fun h => h.elim hd2 hd3⟩, fun tl => rfl, fun k => rfl, fun vs tl => rfl⟩

/- A page with other values, written from its beginning on. -/
def wrS (x : List UInt8) (c : UInt8) : List UInt8 := if c = 34 ∨ c = 39 then escS x else 34 :: (escS x ++ [34])
structure RepAt (s tl T : List UInt8) (lks : List (Nat × Nat × List UInt8)) (xs : List (List UInt8)) (d : Nat) (O : List UInt8) : Prop where
  ex : ∃ its pend, (∀ it ∈ its, GoodI it) ∧ s.drop d = pend ++ srcP its tl ∧ lks = linksP (d + pend.length) its ∧ O ++ (pend ++ outP its (xs.map escS) tl) = T ∧ d ≤ s.length
theorem rep_begin (s : List UInt8) (its : List PItem) (tl : List UInt8) (h : Run none s its tl) (xs : List (List UInt8)) : RepAt s tl (outP its (xs.map escS) tl) (linksP 0 its) xs 0 [] :=
  ⟨its, [], run_goodI _ _ _ _ h, by have := (page_turned s its tl h []).1; simpa using this, rfl, rfl, Nat.zero_le _⟩
theorem rep_end {s tl T : List UInt8} {xs : List (List UInt8)} {d : Nat} {O : List UInt8} (h : RepAt s tl T [] xs d O) : O ++ s.drop d = T := by
  obtain ⟨its, pend, hg, h1, h2, h3, _⟩ := h.ex
  rcases next_good its hg with ⟨_, h4⟩ | ⟨c, v, op, cl, cl', its', d', h0, hg', hl, _, _, h5, _⟩
  · rw [h4] at h3
    rw [h1, h3]
  · rw [h5] at h2; cases h2
theorem rep_step {s tl T V : List UInt8} {lks : List (Nat × Nat × List UInt8)} {x : List UInt8} {xs : List (List UInt8)} {a n d : Nat} {O : List UInt8} (h : RepAt s tl T ((a, n, V) :: lks) (x :: xs) d O) :
    d ≤ a ∧ 1 ≤ a ∧ a + n ≤ s.length ∧ ∀ c, s[a - 1]? = some c → RepAt s tl T lks xs (a + n) (O ++ (s.drop d).take (a - d) ++ wrS x c) := by
  obtain ⟨its, pend, hg, h1, h2, h3, hd⟩ := h.ex
  rcases next_good its hg with ⟨h4, h5⟩ | ⟨c, v, op, cl, cl', its', d', h0, hg', hl, hop, h4, h5, h6⟩
  · have := congrArg List.length h2
    rw [links_len, h4] at this
    simp at this
  · rw [h5] at h2
    simp only [List.cons.injEq, Prod.mk.injEq] at h2
    obtain ⟨⟨rfl, rfl, rfl⟩, rfl⟩ := h2
    have hcl : 0 < c.length := by
      cases c with
      | nil => cases hl
      | cons _ _ => simp
    rw [h4] at h1
    have hlen := congrArg List.length h1
    rw [List.length_drop] at hlen
    simp only [List.length_append] at hlen
    refine ⟨by omega, by omega, by omega, ?_⟩
    intro e he
    have h1' : s.drop d = (pend ++ c) ++ (v ++ (cl ++ srcP its' tl)) := by rw [h1]; simp
    have hed : e = d' := by
      have e1 : (s.drop d)[pend.length + c.length - 1]? = some e := by
        rw [List.getElem?_drop, ← he]
        congr 1
        omega
      rw [h1', List.getElem?_append_left (by simp; omega)] at e1
      have e2 : (pend ++ c).getLast? = some d' := by rw [List.getLast?_append, hl]; rfl
      rw [List.getLast?_eq_getElem?, List.length_append] at e2
      rw [e1] at e2
      exact Option.some.inj e2
    subst hed
    have htk : (s.drop d).take (d + pend.length + c.length - d) = pend ++ c := by
      rw [h1']
      exact List.take_left' (by simp; omega)
    rw [htk]
    have hdr : s.drop (d + pend.length + c.length + v.length) = cl ++ srcP its' tl := by
      have := drop_on s d (pend ++ c) _ h1'
      have := drop_on s _ v _ this
      rw [List.length_append] at this
      rw [← this]
      congr 1
      omega
    refine ⟨its', cl, hg', hdr, ?_, ?_, by omega⟩
    · rfl
    · rw [← h3, h6]
      rcases hop with ⟨rfl, rfl, hq⟩ | ⟨rfl, rfl, rfl, hq⟩
      · unfold wrS
        rw [if_pos hq]
        simp
      · unfold wrS
        rw [if_neg hq]
        simp

set_option maxHeartbeats 100000000 in
theorem pwritten_any (s : ByteArray) (c : UInt8) (w : World) (hW : Words w) (hs : s.size ≤ 100000000) :
    Calls Tryd.prog 12 #[.string s, .int .u8 (c.toNat : Int)] w fun e w' => ∃ S : ByteArray, e = .returned (.string S) ∧ S.data.toList = wrS s.data.toList c ∧ S.size ≤ 600000002 ∧ Below w.heap.size w w' := by
  have hix : ∀ w, Calls Tryd.prog 20 #[.string quotesA, .int .u8 (c.toNat : Int)] w fun e w' => e = .returned (.int .i64 (Lib.indexByte quotesA.data.toList c)) ∧ w' = w := by
    intro w
    refine (Tryd.strings_IndexByte _ _ w).mono ?_
    rintro e w' ⟨rfl, rfl⟩
    refine ⟨?_, rfl⟩
    congr 4
    simp
  have hq : decide (0 ≤ Lib.indexByte quotesA.data.toList c) = (c == 34 || c == 39) := by
    rw [idx_has]
    show List.elem c [34, 39] = _
    simp only [List.elem]
    cases c == 34 <;> cases c == 39 <;> rfl
  have HX := Box.mk hix
  obtain ⟨z, hz⟩ : ∃ z, Lib.indexByte quotesA.data.toList c = z := ⟨_, rfl⟩
  rw [hz] at HX hq
  clear hix hz
  have HW := Box.mk hW
  clear hW
  by_cases hc : c = 34 ∨ c = 39
  · have hz0 : 0 ≤ z := by
      have : decide (0 ≤ z) = true := by rw [hq]; rcases hc with rfl | rfl <;> rfl
      exact of_decide_eq_true this
    unfold wrS
    rw [if_pos hc]
    clear hq
    go_enter Tryd.func12, Tryd.ntmps12
    go_wp2_with (first
      | (go_at_call 20; refine (HX.out _).mono ?_; rintro e w6 ⟨rfl, rfl⟩)
      | (go_at_call 21; refine (escape_any s _ HW.out hs).mono ?_; rintro e w7 ⟨S, rfl, hS, hb7⟩))
    go_ret
    refine ⟨S, rfl, hS, ?_, hb7⟩
    have := escS_len s.data.toList
    rw [← hS, size_list, size_list] at this
    omega
  · have hz0 : ¬ 0 ≤ z := by
      intro h
      have : decide (0 ≤ z) = true := decide_eq_true h
      rw [hq] at this
      simp only [Bool.or_eq_true, beq_iff_eq] at this
      exact hc this
    have hz1 : z < 0 := by omega
    unfold wrS
    rw [if_neg hc]
    clear hq
    go_enter Tryd.func12, Tryd.ntmps12
    go_wp2_with (first
      | (go_at_call 20; refine (HX.out _).mono ?_; rintro e w6 ⟨rfl, rfl⟩)
      | (go_at_call 21; refine (escape_any s _ HW.out hs).mono ?_; rintro e w7 ⟨S, rfl, hS, hb7⟩; have hSl : S.size ≤ 600000000 := (by have := escS_len s.data.toList; rw [← hS, size_list, size_list] at this; omega)))
    go_ret
    refine ⟨_, rfl, ?_, ?_, hb7⟩
    · rw [ByteArray.data_append, Array.toList_append, ByteArray.data_append, Array.toList_append, hS]; rfl
    · rw [ByteArray.size_append, ByteArray.size_append]; show 1 + S.size + 1 ≤ _; omega

end Go.Proofs.YtkmkhfgoihfkjaaDoor
