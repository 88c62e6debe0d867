import Derived.Test.YtkmkhfgoihfkjaaDoorZLK
namespace Go.Proofs.YtkmkhfgoihfkjaaDoor
open Go.RowKit

/- What stands behind a <. -/
theorem seek_fixed (pg sm : ByteArray) (hsm : sm.data.toList = smallS pg.data.toList) (sub : List UInt8) (h0 : sub ≠ []) (hf : ∀ c ∈ sub, fixed c) (k : Nat) : (Lib.index (sm.data.toList.drop k) sub = match findL sub (pg.data.toList.drop k) with | none => -1 | some q => (q.1.length : Int)) ∧ seekTo sub sm.data.toList pg.size k = match findL sub (pg.data.toList.drop k) with | none => pg.size | some q => k + q.1.length := by
  have e : sm.data.toList.drop k = smallS (pg.data.toList.drop k) := by rw [hsm]; unfold smallS; rw [List.map_drop]
  have h := index_findN sub (pg.data.toList.drop k) h0
  rw [findN_fixed sub hf, ← e] at h
  refine ⟨h, ?_⟩
  unfold seekTo
  rw [h]
  cases findL sub (pg.data.toList.drop k) with
  | none => rfl
  | some q =>
    have h0 : (0 : Int) ≤ ((q.1.length : Nat) : Int) := by omega
    simp only [h0, if_true, Int.toNat_natCast]
theorem find_lt (rest : List UInt8) : findL [60] (60 :: rest) = some ([], 60 :: rest) := by
  unfold findL
  rw [if_pos (by simp [List.isPrefixOf])]
theorem top_nil (its : List PItem) (tl : List UInt8) (h : Run none [60] its tl) : its = [] := by
  cases h with
  | stop _ _ _ => rfl
  | go _ m' _ c r _ e its h0 _ =>
    have h0 : stepTop [60] = some (c, e, m', r) := h0
    unfold stepTop at h0
    rw [find_lt] at h0
    cases h0
theorem top_open (p : List UInt8) (its : List PItem) (tl : List UInt8) (h : Run none (60 :: 33 :: 45 :: 45 :: p) its tl) : (findL [45, 45, 62] p = none ∧ its = []) ∨ ∃ x y its' tl', findL [45, 45, 62] p = some (x, [45, 45, 62] ++ y) ∧ Run none y its' tl' ∧ p = x ++ ([45, 45, 62] ++ y) ∧ ∀ k, linksP k its = linksP (k + 4 + x.length + 3) its' := by
  have hst : stepTop (60 :: 33 :: 45 :: 45 :: p) = (findL [45, 45, 62] p).map fun q => ([] ++ [60, 33, 45, 45] ++ q.1 ++ [45, 45, 62], none, none, q.2.drop 3) := by
    unfold stepTop
    rw [find_lt]
    simp only [List.drop_succ_cons, List.drop_zero]
    rw [if_pos (by simp [List.isPrefixOf])]
  cases h with
  | stop _ _ h0 =>
    have h0 : stepTop (60 :: 33 :: 45 :: 45 :: p) = none := h0
    rw [hst] at h0
    exact .inl ⟨Option.map_eq_none_iff.1 h0, rfl⟩
  | go _ m' _ c r _ e its h0 hr =>
    have h0 : stepTop (60 :: 33 :: 45 :: 45 :: p) = some (c, e, m', r) := h0
    rw [hst] at h0
    obtain ⟨q, hq, he⟩ := Option.map_eq_some_iff.1 h0
    simp only [Prod.mk.injEq] at he
    obtain ⟨rfl, rfl, rfl, rfl⟩ := he
    obtain ⟨y, hy⟩ := findL_pre _ _ q.1 q.2 hq
    have hs := (findL_some _ _ q.1 q.2 hq).1
    rw [hy] at hs hr
    refine .inr ⟨q.1, y, its, tl, by rw [hq, ← hy], hr, hs, fun k => ?_⟩
    show linksP (k + _) its = _
    congr 1
    simp
    omega
theorem top_mark (c : UInt8) (t : List UInt8) (hp : [33, 45, 45].isPrefixOf (c :: t) = false) (hc : c = 47 ∨ c = 33 ∨ c = 63) (its : List PItem) (tl : List UInt8) (h : Run none (60 :: c :: t) its tl) : (findL [62] (c :: t) = none ∧ its = []) ∨ ∃ x y its' tl', findL [62] (c :: t) = some (x, 62 :: y) ∧ Run none y its' tl' ∧ c :: t = x ++ 62 :: y ∧ ∀ k, linksP k its = linksP (k + 1 + x.length + 1) its' := by
  have hst : stepTop (60 :: c :: t) = (findL [62] (c :: t)).map fun q => ([] ++ [60] ++ q.1 ++ [62], none, none, q.2.drop 1) := by
    unfold stepTop
    rw [find_lt]
    simp only [List.drop_succ_cons, List.drop_zero]
    rw [if_neg (by rw [hp]; simp), if_pos hc]
  cases h with
  | stop _ _ h0 =>
    have h0 : stepTop (60 :: c :: t) = none := h0
    rw [hst] at h0
    exact .inl ⟨Option.map_eq_none_iff.1 h0, rfl⟩
  | go _ m' _ c' r _ e its h0 hr =>
    have h0 : stepTop (60 :: c :: t) = some (c', e, m', r) := h0
    rw [hst] at h0
    obtain ⟨q, hq, he⟩ := Option.map_eq_some_iff.1 h0
    simp only [Prod.mk.injEq] at he
    obtain ⟨rfl, rfl, rfl, rfl⟩ := he
    obtain ⟨y, hy⟩ := findL_one 62 _ q.1 q.2 hq
    have hs := (findL_some _ _ q.1 q.2 hq).1
    rw [hy] at hs hr
    refine .inr ⟨q.1, y, its, tl, by rw [hq, ← hy], hr, hs, fun k => ?_⟩
    show linksP (k + _) its = _
    congr 1
    simp
    omega
theorem no_open (c : UInt8) (t : List UInt8) (hc : c ≠ 33) : [33, 45, 45].isPrefixOf (c :: t) = false := by
  simp only [List.isPrefixOf, Bool.and_eq_false_imp, beq_iff_eq]
  intro e
  exact absurd e.symm hc
theorem top_tag (c : UInt8) (t : List UInt8) (hc : ¬ (c = 47 ∨ c = 33 ∨ c = 63)) (hal : alphC c = true) (its : List PItem) (tl : List UInt8) (h : Run none (60 :: c :: t) its tl) : ∃ its' tl', Run (some (false, smallS ((c :: t).takeWhile alnumC))) ((c :: t).dropWhile alnumC) its' tl' ∧ ∀ k, linksP k its = linksP (k + 1 + (smallS ((c :: t).takeWhile alnumC)).length) its' := by
  have hst : stepTop (60 :: c :: t) = some ([] ++ [60] ++ (c :: t).takeWhile alnumC, none, some (false, smallS ((c :: t).takeWhile alnumC)), (c :: t).dropWhile alnumC) := by
    unfold stepTop
    rw [find_lt]
    simp only [List.drop_succ_cons, List.drop_zero]
    rw [if_neg (by rw [no_open c t (fun e => hc (.inr (.inl e)))]; simp), if_neg hc, if_pos hal]
  cases h with
  | stop _ _ h0 =>
    have h0 : stepTop (60 :: c :: t) = none := h0
    rw [hst] at h0; cases h0
  | go _ m' _ c' r _ e its h0 hr =>
    have h0 : stepTop (60 :: c :: t) = some (c', e, m', r) := h0
    rw [hst] at h0
    simp only [Option.some.injEq, Prod.mk.injEq] at h0
    obtain ⟨rfl, rfl, rfl, rfl⟩ := h0
    refine ⟨its, tl, hr, fun k => ?_⟩
    show linksP (k + _) its = _
    rw [smallS_len]
    congr 1
    simp
    omega
theorem top_none (c : UInt8) (t : List UInt8) (hc : ¬ (c = 47 ∨ c = 33 ∨ c = 63)) (hal : alphC c = false) (its : List PItem) (tl : List UInt8) (h : Run none (60 :: c :: t) its tl) : ∃ its' tl', Run none (c :: t) its' tl' ∧ ∀ k, linksP k its = linksP (k + 1) its' := by
  have hst : stepTop (60 :: c :: t) = some ([] ++ [60], none, none, c :: t) := by
    unfold stepTop
    rw [find_lt]
    simp only [List.drop_succ_cons, List.drop_zero]
    rw [if_neg (by rw [no_open c t (fun e => hc (.inr (.inl e)))]; simp), if_neg hc, if_neg (by rw [hal]; simp)]
  cases h with
  | stop _ _ h0 =>
    have h0 : stepTop (60 :: c :: t) = none := h0
    rw [hst] at h0; cases h0
  | go _ m' _ c' r _ e its h0 hr =>
    have h0 : stepTop (60 :: c :: t) = some (c', e, m', r) := h0
    rw [hst] at h0
    simp only [Option.some.injEq, Prod.mk.injEq] at h0
    obtain ⟨rfl, rfl, rfl, rfl⟩ := h0
    exact ⟨its, tl, hr, fun k => rfl⟩

def openA : ByteArray := ⟨#[33, 45, 45]⟩
def shutA : ByteArray := ⟨#[45, 45, 62]⟩
def markA : ByteArray := ⟨#[47, 33, 63]⟩
def lettersA : ByteArray := ⟨#[97, 98, 99, 100, 101, 102, 103, 104, 105, 106, 107, 108, 109, 110, 111, 112, 113, 114, 115, 116, 117, 118, 119, 120, 121, 122]⟩

/-- Behind a search that found, or did not. -/
theorem mark_open (pg sm : ByteArray) (hsm : sm.data.toList = smallS pg.data.toList) (b k : Nat) (w w' : World) (ALL : List (Nat × Nat × List UInt8)) (L : Value) (ls : List Lk) (p : List UInt8) (hd : pg.data.toList.drop (k + 1) = 33 :: 45 :: 45 :: p) (its : List PItem) (tl : List UInt8) (hR : Run none (60 :: pg.data.toList.drop (k + 1)) its tl) (hA : ls.map lk2 ++ linksP k its = ALL) (h : PR w' b pg sm (seekTo [45, 45, 62] sm.data.toList pg.size (k + 1 + 3)) L) (hO : OwnL w' (b + 1) L ls) (hk : k + 1 + 3 ≤ pg.size) (hb : Below b w w') : MarkPost pg sm b (k + 1) w ALL (.returned (.tuple #[])) w' := by
  have hsk := (seek_fixed pg sm hsm [45, 45, 62] (by simp) (by intro c hc; simp at hc; rcases hc with rfl | rfl; exact fixed45; exact fixed62) (k + 1 + 3)).2
  have hdp : pg.data.toList.drop (k + 1 + 3) = p := drop_on _ (k + 1) [33, 45, 45] p hd
  rw [hdp] at hsk
  rw [hd] at hR
  rcases top_open p its tl hR with ⟨h1, rfl⟩ | ⟨x, y, its', tl', h1, h2, h3, h4⟩
  · rw [hsk, h1] at h
    exact mend_page pg sm b (k + 1) w w' ALL L ls h hO (by omega) (by rw [← hA, linksP, List.append_nil]) hb
  · rw [hsk, h1] at h
    have hdx := drop_on _ (k + 1 + 3) x _ (hdp.trans h3)
    refine ⟨rfl, L, ls, k + 1 + 3 + x.length, [45, 45, 62], y, its', tl', h, hO, by omega, ?_, hdx, by simp, h2, ?_, hb⟩
    · have e := congrArg List.length hdp
      rw [List.length_drop, size_list, h3] at e
      simp at e
      omega
    · rw [← hA, h4]; rfl
theorem mark_mark (pg sm : ByteArray) (hsm : sm.data.toList = smallS pg.data.toList) (b k : Nat) (w w' : World) (ALL : List (Nat × Nat × List UInt8)) (L : Value) (ls : List Lk) (c : UInt8) (t : List UInt8) (hd : pg.data.toList.drop (k + 1) = c :: t) (hp : [33, 45, 45].isPrefixOf (c :: t) = false) (hc : c = 47 ∨ c = 33 ∨ c = 63) (its : List PItem) (tl : List UInt8) (hR : Run none (60 :: pg.data.toList.drop (k + 1)) its tl) (hA : ls.map lk2 ++ linksP k its = ALL) (h : PR w' b pg sm (seekTo [62] sm.data.toList pg.size (k + 1)) L) (hO : OwnL w' (b + 1) L ls) (hk : k + 1 ≤ pg.size) (hb : Below b w w') : MarkPost pg sm b (k + 1) w ALL (.returned (.tuple #[])) w' := by
  have hsk := (seek_fixed pg sm hsm [62] (by simp) (by intro c hc; simp at hc; rw [hc]; exact fixed62) (k + 1)).2
  rw [hd] at hR hsk
  rcases top_mark c t hp hc its tl hR with ⟨h1, rfl⟩ | ⟨x, y, its', tl', h1, h2, h3, h4⟩
  · rw [hsk, h1] at h
    exact mend_page pg sm b (k + 1) w w' ALL L ls h hO hk (by rw [← hA, linksP, List.append_nil]) hb
  · rw [hsk, h1] at h
    have hdx := drop_on _ (k + 1) x _ (hd.trans h3)
    refine ⟨rfl, L, ls, k + 1 + x.length, [62], y, its', tl', h, hO, by omega, ?_, hdx, by simp, h2, ?_, hb⟩
    · have e := congrArg List.length hd
      rw [List.length_drop, size_list, h3] at e
      simp at e
      omega
    · rw [← hA, h4]; rfl

set_option maxHeartbeats 4000000 in
set_option maxRecDepth 100000 in
theorem mark_any (b k : Nat) (pg sm : ByteArray) (L : Value) (w : World) (h : PR w b pg sm (k + 1) L) (hG : PGB w b) (hl : pg.size ≤ 100000000) (hsm : sm.data.toList = smallS pg.data.toList) (ha : k + 1 ≤ pg.size) (ls : List Lk) (hO : OwnL w (b + 1) L ls) (its : List PItem) (tl : List UInt8) (hR : Run none (60 :: pg.data.toList.drop (k + 1)) its tl) (ALL : List (Nat × Nat × List UInt8)) (hA : ls.map lk2 ++ linksP k its = ALL) (hAl : ALL.length ≤ 100000000) :
    Calls Tryd.prog 10 #[.pointer (some ⟨b, 0, none⟩)] w (MarkPost pg sm b (k + 1) w ALL) := by
  have hs : sm.size = pg.size := by rw [← size_list, hsm, ← size_list]; unfold smallS; simp
  obtain ⟨a, hka⟩ : ∃ a, a = k + 1 := ⟨_, rfl⟩
  rw [← hka] at h ha
  have ex : (pg.extract a pg.size).data.toList = pg.data.toList.drop a := by
    rw [extract_list, List.take_of_length_le (by rw [List.length_drop, size_list]; exact Nat.le_refl _)]
  obtain ⟨c0, c1, c2, c3, f2, f3, hb⟩ := h.cells
  have HS := Box.mk hsm
  have HG := Box.mk hG
  have HO := Box.mk hO
  have HP := Box.mk h
  have HAl := Box.mk hAl
  have HA := Box.mk hA
  have HR := Box.mk hR
  have HX := Box.mk ex
  have k1 : (0 : Int) ≤ (a : Int) := by omega
  have k2 : (a : Int) ≤ (pg.size : Int) := by omega
  have hb1 := (Below.refl w.heap.size w).drew
  have HP1 := Box.mk (HP.out.below hb1 hb)
  have HO1 := Box.mk (HO.out.below hb1 (Nat.le_refl _))
  have hbw1 : Below b w w.drew := hb1.mono (Nat.le_of_lt hb)
  have HG1 := Box.mk (HG.out.below hbw1)
  have HKA := Box.mk hka
  clear hsm hG hO h hAl hA hR ex hka
  cases hpp : [33, 45, 45].isPrefixOf (pg.data.toList.drop a)
  · have HPP : Box (Lib.hasPrefix (pg.extract a pg.size).data.toList openA.data.toList = false) := ⟨by rw [HX.out]; exact hpp⟩
    have HPF := Box.mk hpp
    clear hpp
    go_enter Tryd.func10, Tryd.ntmps10
    go_wp2_with fail
    go_region_held3 (fun w' => w'.cell? ⟨b, 0, none⟩ = some (.string pg) ∧ w'.cell? ⟨b, 1, none⟩ = some (.string sm) ∧ w'.cell? ⟨b, 2, none⟩ = some (.int .i64 (a : Int)) ∧ Below w.heap.size w w')
      ((go_split_ands; exact pkeep3 c0 c1 c2 (by first | exact (Below.refl _ _).drew | assumption)))
      (first
        | (go_at_call 16; refine (Tryd.strings_HasPrefix _ openA _).mono ?_; rw [HPP.out]; rintro e w5 ⟨rfl, rfl⟩))
    cases hd : pg.data.toList.drop a with
    | nil =>
      have HD := Box.mk hd
      have HQ1 : Box (isAtB markA sm a = false) := ⟨by rw [isAt_small markA sm _ mark_c pg.data.toList HS.out a, hd]; rfl⟩
      have HQ2 : Box (isAtB lettersA sm a = false) := ⟨by rw [isAt_small lettersA sm _ alph_c pg.data.toList HS.out a, hd]; rfl⟩
      clear hd
      go_wp2_with fail
      refine (isAt_any b a pg sm markA L _ HP1.out hs ha).mono ?_
      rw [HQ1.out]
      rintro e w5 ⟨rfl, hb5⟩
      have HP5 := Box.mk (HP1.out.below hb5 hb)
      go_wp2_with fail
      refine (isAt_any b a pg sm lettersA L _ HP5.out hs ha).mono ?_
      rw [HQ2.out]
      rintro e w6 ⟨rfl, hb6⟩
      have hb56 := hb5.trans (hb6.mono hb5.size)
      have HE : Box (MarkPost pg sm b (k + 1) w ALL (.returned (.tuple #[])) w6) := ⟨by
        have hR := HR.out
        rw [← HKA.out, HD.out] at hR
        have hit := top_nil its tl hR
        have hA := HA.out
        rw [hit, linksP, List.append_nil] at hA
        have hk : a = pg.size := by
          have e := congrArg List.length HD.out
          rw [List.length_drop, size_list] at e
          simp at e; omega
        have hP6 := HP1.out.below hb56 hb
        rw [hk] at hP6
        exact mend_page pg sm b (k + 1) w _ ALL L ls hP6 (HO1.out.below hb56 (Nat.le_refl _)) (by rw [← HKA.out]; exact ha) hA (hbw1.trans (hb56.mono (Nat.le_of_lt hb)))⟩
      go_wp2
      go_end0
      exact HE.out
    | cons c t =>
      have HD := Box.mk hd
      have hq1 := isAt_small markA sm _ mark_c pg.data.toList HS.out a
      have hq2 := isAt_small lettersA sm _ alph_c pg.data.toList HS.out a
      have hpf : [33, 45, 45].isPrefixOf (c :: t) = false := by rw [← hd]; exact HPF.out
      rw [hd] at hq1 hq2
      have HF := Box.mk hpf
      clear hd hpf
      by_cases hc : c = 47 ∨ c = 33 ∨ c = 63
      · have HQ1 : Box (isAtB markA sm a = true) := ⟨by rw [hq1]; rcases hc with rfl | rfl | rfl <;> rfl⟩
        clear hq1 hq2
        have HC := Box.mk hc
        clear hc
        go_wp2_with fail
        refine (isAt_any b a pg sm markA L _ HP1.out hs ha).mono ?_
        rw [HQ1.out]
        rintro e w5 ⟨rfl, hb5⟩
        have HP5 := Box.mk (HP1.out.below hb5 hb)
        have HO5 := Box.mk (HO1.out.below hb5 (Nat.le_refl _))
        have hbw5 := hbw1.trans (hb5.mono (Nat.le_of_lt hb))
        have hblt5 := HP5.out.cells.2.2.2.2.2.2
        have HG5 := Box.mk (HG.out.below hbw5)
        go_wp2_with fail
        refine (seek_any b a pg sm endA L _ HP5.out hl hs ha HG5.out.gp.mx).mono ?_
        rintro e w6 ⟨rfl, hP6, hg6⟩
        have HE : Box (MarkPost pg sm b (k + 1) w ALL (.returned (.tuple #[])) w6) := ⟨by
          have hP := hP6
          rw [HKA.out] at hP
          exact mark_mark pg sm HS.out b k w w6 ALL L ls c t (by rw [← HKA.out]; exact HD.out) HF.out HC.out its tl HR.out HA.out hP (HO5.out.kept hg6 (Nat.lt_succ_self b)) (by rw [← HKA.out]; exact ha) (hbw5.trans (below_of_grown hg6 (Nat.le_of_lt hblt5)))⟩
        clear hP6
        go_wp2
        go_end0
        exact HE.out
      · have HQ1 : Box (isAtB markA sm a = false) := ⟨by
          rw [hq1]
          simp only [List.head?_cons, Option.any_some, Bool.or_eq_false_iff, beq_eq_false_iff_ne]
          exact ⟨fun e => hc (.inl e), fun e => hc (.inr (.inl e)), fun e => hc (.inr (.inr e))⟩⟩
        have HC := Box.mk hc
        clear hq1 hc
        cases hal : alphC c
        · have HQ2 : Box (isAtB lettersA sm a = false) := ⟨by rw [hq2]; exact hal⟩
          have HL := Box.mk hal
          clear hq2 hal
          go_wp2_with fail
          refine (isAt_any b a pg sm markA L _ HP1.out hs ha).mono ?_
          rw [HQ1.out]
          rintro e w5 ⟨rfl, hb5⟩
          have HP5 := Box.mk (HP1.out.below hb5 hb)
          go_wp2_with fail
          refine (isAt_any b a pg sm lettersA L _ HP5.out hs ha).mono ?_
          rw [HQ2.out]
          rintro e w6 ⟨rfl, hb6⟩
          have hb56 := hb5.trans (hb6.mono hb5.size)
          have HE : Box (MarkPost pg sm b (k + 1) w ALL (.returned (.tuple #[])) w6) := ⟨by
            have hR := HR.out
            have hD := HD.out
            rw [HKA.out] at hD
            rw [hD] at hR
            obtain ⟨its', tl', h1, h2⟩ := top_none c t HC.out HL.out its tl hR
            have hP6 := HP1.out.below hb56 hb
            rw [HKA.out] at hP6
            exact ⟨rfl, L, ls, k + 1, [], c :: t, its', tl', hP6, HO1.out.below hb56 (Nat.le_refl _), Nat.le_refl _, by rw [← HKA.out]; exact ha, hD, by simp, h1, by rw [← HA.out, h2]; rfl, hbw1.trans (hb56.mono (Nat.le_of_lt hb))⟩⟩
          go_wp2
          go_end0
          exact HE.out
        · have HQ2 : Box (isAtB lettersA sm a = true) := ⟨by rw [hq2]; exact hal⟩
          have HL := Box.mk hal
          clear hq2 hal
          go_wp2_with fail
          refine (isAt_any b a pg sm markA L _ HP1.out hs ha).mono ?_
          rw [HQ1.out]
          rintro e w5 ⟨rfl, hb5⟩
          have HP5 := Box.mk (HP1.out.below hb5 hb)
          go_wp2_with fail
          refine (isAt_any b a pg sm lettersA L _ HP5.out hs ha).mono ?_
          rw [HQ2.out]
          rintro e w6 ⟨rfl, hb6⟩
          have hb56 := hb5.trans (hb6.mono hb5.size)
          have HP6 := Box.mk (HP1.out.below hb56 hb)
          have HO6 := Box.mk (HO1.out.below hb56 (Nat.le_refl _))
          have hbw6 := hbw1.trans (hb56.mono (Nat.le_of_lt hb))
          have HG6 := Box.mk (HG.out.below hbw6)
          obtain ⟨its', tl', h1, h2⟩ : ∃ its' tl', Run (some (false, smallS ((c :: t).takeWhile alnumC))) ((c :: t).dropWhile alnumC) its' tl' ∧ ∀ k, linksP k its = linksP (k + 1 + (smallS ((c :: t).takeWhile alnumC)).length) its' := by
            have hR := HR.out
            rw [← HKA.out, HD.out] at hR
            exact top_tag c t HC.out HL.out its tl hR
          have HR2 := Box.mk h1
          have HA2 : Box (ls.map lk2 ++ linksP (a + (smallS ((c :: t).takeWhile alnumC)).length) its' = ALL) := ⟨by rw [← HA.out, h2, HKA.out]⟩
          clear h1 h2
          go_wp2_with fail
          refine (tag_any b a pg sm L _ HP6.out HG6.out hl HS.out ha _ _ (by rw [HD.out]) (by rw [HD.out]) ls HO6.out its' tl' HR2.out ALL HA2.out HAl.out).mono ?_
          rintro e w7 ⟨rfl, L7, ls7, a7, z7, r7, its7, tl7, q1, q2, q3, q4, q5, q6, q7, q8, q9⟩
          have HE : Box (MarkPost pg sm b (k + 1) w ALL (.returned (.tuple #[])) w7) := ⟨⟨rfl, L7, ls7, a7, z7, r7, its7, tl7, q1, q2, by rw [← HKA.out]; exact q3, q4, q5, q6, q7, q8, hbw6.trans q9⟩⟩
          clear q1 q2 q3 q4 q5 q6 q7 q8 q9
          go_wp2
          go_end0
          exact HE.out
  · have HPP : Box (Lib.hasPrefix (pg.extract a pg.size).data.toList openA.data.toList = true) := ⟨by rw [HX.out]; exact hpp⟩
    obtain ⟨p, hp⟩ : ∃ p, pg.data.toList.drop a = 33 :: 45 :: 45 :: p := by
      obtain ⟨p, hp⟩ := List.isPrefixOf_iff_prefix.1 hpp
      exact ⟨p, hp.symm⟩
    have hal : a + 3 ≤ pg.size := by
      have e := congrArg List.length hp
      rw [List.length_drop, size_list] at e
      simp at e; omega
    have HD := Box.mk hp
    clear hpp hp
    go_enter Tryd.func10, Tryd.ntmps10
    go_wp2_with fail
    go_region_held3 (fun w' => w'.cell? ⟨b, 0, none⟩ = some (.string pg) ∧ w'.cell? ⟨b, 1, none⟩ = some (.string sm) ∧ w'.cell? ⟨b, 2, none⟩ = some (.int .i64 (a : Int)) ∧ Below w.heap.size w w')
      ((go_split_ands; exact pkeep3 c0 c1 c2 (by first | exact (Below.refl _ _).drew | assumption)))
      (first
        | (go_at_call 16; refine (Tryd.strings_HasPrefix _ openA _).mono ?_; rw [HPP.out]; rintro e w5 ⟨rfl, rfl⟩))
    obtain ⟨d0, d1, d2, d3, g2, g3, hb2⟩ := HP1.out.cells
    have HP2 := Box.mk (HP1.out.setA (a + 3))
    rw [Int.natCast_add] at HP2
    have hg2 := pgrown_set w.drew b 2 (.int .i64 ((a : Int) + 3))
    have HO2 := Box.mk (HO1.out.kept hg2 (Nat.lt_succ_self b))
    have hbw2 := hbw1.trans (below_of_grown hg2 (Nat.le_of_lt hb2))
    have HG2 := Box.mk (HG.out.below hbw2)
    go_wp2_with fail
    refine (seek_any b (a + 3) pg sm shutA L _ HP2.out hl hs hal HG2.out.gp.mx).mono ?_
    rintro e w6 ⟨rfl, hP6, hg6⟩
    have HE : Box (MarkPost pg sm b (k + 1) w ALL (.returned (.tuple #[])) w6) := ⟨by
      have hP := hP6
      have hal' := hal
      rw [HKA.out] at hP hal'
      exact mark_open pg sm HS.out b k w w6 ALL L ls p (by rw [← HKA.out]; exact HD.out) its tl HR.out HA.out hP (HO2.out.kept hg6 (Nat.lt_succ_self b)) hal' (hbw2.trans (below_of_grown hg6 (Nat.le_of_lt HP2.out.cells.2.2.2.2.2.2)))⟩
    clear hP6
    go_wp2
    go_end0
    exact HE.out

end Go.Proofs.YtkmkhfgoihfkjaaDoor
