import Derived.Test.YtkmkhfgoihfkjaaDoorZLJ
namespace Go.Proofs.YtkmkhfgoihfkjaaDoor
open Go.RowKit

/-- What a mark leaves: where the code is, and what is still to be met. -/
def MarkPost (pg sm : ByteArray) (b a : Nat) (w : World) (ALL : List (Nat × Nat × List UInt8)) (e : Ending) (w' : World) : Prop :=
  e = .returned (.tuple #[]) ∧ ∃ L' ls' a' z r its tl, PR w' b pg sm a' L' ∧ OwnL w' (b + 1) L' ls' ∧ a ≤ a' ∧ a' ≤ pg.size ∧ pg.data.toList.drop a' = z ++ r ∧ 60 ∉ z ∧ Run none r its tl ∧ ls'.map lk2 ++ linksP (a' + z.length) its = ALL ∧ Below b w w'
def alnumA : ByteArray := ⟨#[97, 98, 99, 100, 101, 102, 103, 104, 105, 106, 107, 108, 109, 110, 111, 112, 113, 114, 115, 116, 117, 118, 119, 120, 121, 122, 48, 49, 50, 51, 52, 53, 54, 55, 56, 57]⟩
def aheadA : ByteArray := ⟨#[32, 9, 13, 10, 47]⟩
def endA : ByteArray := ⟨#[62]⟩
structure TagAt (pg : ByteArray) (n : List UInt8) (ALL : List (Nat × Nat × List UInt8)) (k : Nat) (ls : List Lk) : Prop where
  hd : (pg.data.toList.drop k).head?.all (fun c => !skipC c) = true
  run : ∃ its tl, Run (some (false, n)) (pg.data.toList.drop k) its tl ∧ ls.map lk2 ++ linksP k its = ALL
theorem tag_at (pg sm : ByteArray) (hsm : sm.data.toList = smallS pg.data.toList) (n : List UInt8) (ALL : List (Nat × Nat × List UInt8)) (k : Nat) (ls : List Lk) (its : List PItem) (tl : List UInt8) (hR : Run (some (false, n)) (pg.data.toList.drop k) its tl) (hA : ls.map lk2 ++ linksP k its = ALL) : TagAt pg n ALL (k + runN aheadA.data.toList sm.data.toList k) ls := by
  have hr : runN aheadA.data.toList sm.data.toList k = ((pg.data.toList.drop k).takeWhile skipC).length := by
    have := run_small aheadL skipC ahead_c pg.data.toList k
    rw [← hsm] at this
    exact this
  have hd : pg.data.toList.drop (k + ((pg.data.toList.drop k).takeWhile skipC).length) = (pg.data.toList.drop k).dropWhile skipC := drop_on _ k _ _ (by rw [List.takeWhile_append_dropWhile])
  rw [hr]
  refine ⟨by rw [hd]; exact dropWhile_head _, ?_⟩
  obtain ⟨its', tl', h1, h2⟩ := run_skip n _ its tl hR
  exact ⟨its', tl', by rw [hd]; exact h1, by rw [h2]; exact hA⟩
theorem mend_page (pg sm : ByteArray) (b a : Nat) (w w' : World) (ALL : List (Nat × Nat × List UInt8)) (L : Value) (ls : List Lk) (h : PR w' b pg sm pg.size L) (hO : OwnL w' (b + 1) L ls) (ha : a ≤ pg.size) (hA : ls.map lk2 = ALL) (hb : Below b w w') : MarkPost pg sm b a w ALL (.returned (.tuple #[])) w' :=
  ⟨rfl, L, ls, pg.size, [], [], [], [], h, hO, ha, Nat.le_refl _, by rw [List.drop_of_length_le (by rw [size_list]; exact Nat.le_refl _)]; rfl, by simp, run_nil _, by rw [linksP, List.append_nil]; exact hA, hb⟩
/-- Where a tag is over. -/
theorem tag_over (pg sm : ByteArray) (b a k : Nat) (w w' : World) (ALL : List (Nat × Nat × List UInt8)) (L : Value) (ls : List Lk) (n t : List UInt8) (hd : pg.data.toList.drop k = 62 :: t) (hT : TagAt pg n ALL k ls) (hn : skipNames.contains n = false) (h : PR w' b pg sm k L) (hO : OwnL w' (b + 1) L ls) (ha : a ≤ k) (hk : k ≤ pg.size) (hb : Below b w w') : MarkPost pg sm b a w ALL (.returned (.tuple #[])) w' := by
  obtain ⟨its, tl, hR, hA⟩ := hT.run
  rw [hd] at hR
  obtain ⟨its', tl', h1, h2⟩ := (tag_exit n t its tl hR).1 hn
  exact ⟨rfl, L, ls, k, [62], t, its', tl', h, hO, ha, hk, hd, by simp, h1, by rw [← hA, h2]; rfl, hb⟩
/-- What is left out behind a tag. -/
theorem tag_verb (pg sm : ByteArray) (hsm : sm.data.toList = smallS pg.data.toList) (b a k : Nat) (w w' : World) (ALL : List (Nat × Nat × List UInt8)) (L : Value) (ls : List Lk) (n t : List UInt8) (hd : pg.data.toList.drop k = 62 :: t) (hT : TagAt pg n ALL k ls) (hn : skipNames.contains n = true) (h : PR w' b pg sm (seekTo (60 :: 47 :: n) sm.data.toList pg.size k) L) (hO : OwnL w' (b + 1) L ls) (ha : a ≤ k) (hk : k ≤ pg.size) (hb : Below b w w') : MarkPost pg sm b a w ALL (.returned (.tuple #[])) w' := by
  obtain ⟨its, tl, hR, hA⟩ := hT.run
  rw [hd] at hR
  have hix : Lib.index (sm.data.toList.drop k) (60 :: 47 :: n) = match findN (60 :: 47 :: n) (62 :: t) with | none => -1 | some q => (q.1.length : Int) := by
    have e : sm.data.toList.drop k = smallS (62 :: t) := by rw [hsm, ← hd]; unfold smallS; rw [List.map_drop]
    rw [e]
    exact index_findN _ _ (by simp)
  have hs : sm.data.toList.length = pg.size := by rw [hsm, smallS_len, size_list]
  have hle := seek_le (60 :: 47 :: n) sm.data.toList pg.size k hs hk
  unfold seekTo at h hle
  rw [hix] at h hle
  rcases (tag_exit n t its tl hR).2 hn with ⟨h1, h2⟩ | ⟨x, y, its', tl', h1, h2, h3, h4⟩
  · rw [h1] at h
    exact mend_page pg sm b a w w' ALL L ls h hO (by omega) (by rw [← hA, h2, List.append_nil]) hb
  · rw [h1] at h hle
    have h0 : (0 : Int) ≤ ((x.length : Nat) : Int) := by omega
    simp only [h0, if_true, Int.toNat_natCast] at h hle
    exact ⟨rfl, L, ls, k + x.length, [], y, its', tl', h, hO, by omega, hle, drop_on _ k x y (by rw [hd]; exact h3), by simp, h2, by rw [← hA, h4]; rfl, hb⟩

set_option maxHeartbeats 4000000 in
set_option maxRecDepth 100000 in
theorem tag_any (b a : Nat) (pg sm : ByteArray) (L : Value) (w : World) (h : PR w b pg sm a L) (hG : PGB w b) (hl : pg.size ≤ 100000000) (hsm : sm.data.toList = smallS pg.data.toList) (ha : a ≤ pg.size) (n rem : List UInt8) (hn : smallS ((pg.data.toList.drop a).takeWhile alnumC) = n) (hr : (pg.data.toList.drop a).dropWhile alnumC = rem) (ls : List Lk) (hO : OwnL w (b + 1) L ls) (its : List PItem) (tl : List UInt8) (hR : Run (some (false, n)) rem its tl) (ALL : List (Nat × Nat × List UInt8)) (hA : ls.map lk2 ++ linksP (a + n.length) its = ALL) (hAl : ALL.length ≤ 100000000) :
    Calls Tryd.prog 18 #[.pointer (some ⟨b, 0, none⟩)] w (MarkPost pg sm b a w ALL) := by
  have hs : sm.size = pg.size := by rw [← size_list, hsm, ← size_list]; unfold smallS; simp
  have hnl : n.length = ((pg.data.toList.drop a).takeWhile alnumC).length := by rw [← hn, smallS_len]
  have hu : a + runN alnumA.data.toList sm.data.toList a = a + n.length := by
    have := run_small alnumL alnumC alnum_c pg.data.toList a
    rw [← hsm, ← hnl] at this
    exact congrArg (a + ·) this
  have hdu : pg.data.toList.drop (a + n.length) = rem := by rw [hnl]; exact drop_on _ a _ _ (by rw [← hr, List.takeWhile_append_dropWhile])
  obtain ⟨u, hu'⟩ : ∃ u, a + n.length = u := ⟨_, rfl⟩
  rw [hu'] at hu hdu hA
  rw [← hdu] at hR
  have hnm : (sm.extract a u).data.toList = n := by
    rw [extract_list, small_at pg sm hsm, show u - a = ((pg.data.toList.drop a).takeWhile alnumC).length from by omega, take_while]
    exact hn
  have hT0 := tag_at pg sm hsm n ALL u ls its tl hR hA
  have hbl := h.cells.2.2.2.2.2.2
  have HU := Box.mk hu
  have HT0 := Box.mk hT0
  have HNM := Box.mk hnm
  have HS := Box.mk hsm
  have HG := Box.mk hG
  have HO := Box.mk hO
  have HP := Box.mk h
  have HAl := Box.mk hAl
  obtain ⟨c0, c1, c2, c3, f2, f3, hb⟩ := h.cells
  clear hu hdu hA hR hT0 hnm hr hn hsm hG hO h hAl hnl
  go_enter Tryd.func18, Tryd.ntmps18
  go_wp2_with fail
  refine (skip_any b a pg sm alnumA L _ HP.out hl hs ha).mono ?_
  rw [HU.out]
  rintro e w2 ⟨rfl, hP2, hu2, hg2⟩
  have HP2 := Box.mk hP2
  clear hP2 c0 c1 c2 c3 f2 f3
  obtain ⟨d0, d1, d2, d3, g2, g3, hb2⟩ := HP2.out.cells
  have k1 : (0 : Int) ≤ (a : Int) := by omega
  have k2 : (a : Int) ≤ (u : Int) := by omega
  have k3 : (u : Int) ≤ (sm.size : Int) := by omega
  go_wp2_with fail
  go_region
  go_wp2_with fail
  have HP3 := Box.mk (HP2.out.below (Below.refl w2.heap.size w2).drew hb2)
  have hg03 := hg2.trans (pgrown_of (Below.refl w2.heap.size w2).drew (some b))
  refine (skip_any b u pg sm aheadA L _ HP3.out hl hs hu2).mono ?_
  rintro e w4 ⟨rfl, hP4, hu4, hg4⟩
  have hg04 := hg03.trans hg4
  have HO4 := HO.out.kept hg04 (Nat.lt_succ_self b)
  have hbw4 := below_of_grown hg04 (Nat.le_of_lt hb)
  have hua : a ≤ u + runN aheadA.data.toList sm.data.toList u := by omega
  have HT4 := HT0
  generalize u + runN aheadA.data.toList sm.data.toList u = k0 at hP4 hu4 hua HT4
  clear hg2 hg4 hg03 hg04 HP3 HP2 d0 d1 d2 d3 g2 g3 HT0
  go_wp2
  go_loopg [] (pg.size - k0) (fun gf wx => ∃ k L ls, a ≤ k ∧ k ≤ pg.size ∧ PR wx b pg sm k L ∧ OwnL wx (b + 1) L ls ∧ Box (TagAt pg n ALL k ls) ∧ Below b w wx ∧ pg.size - k ≤ gf)
  case atStart => exact ⟨k0, L, ls, hua, hu4, hP4, HO4, HT4, hbw4, Nat.le_refl _⟩
  case round =>
    clear HO4 hP4 HT4 hbw4 HP HO
    obtain ⟨k, L, ls, hak, hk, hr, hO, HT, hbw, hgf⟩ := hrel
    have hblt := hr.cells.2.2.2.2.2.2
    have hq := isAt_small endA sm _ end_c pg.data.toList HS.out k
    have HR := Box.mk hr
    have HO := Box.mk hO
    have HGr := Box.mk (HG.out.below hbw)
    clear hr hO
    cases hd : pg.data.toList.drop k with
    | nil =>
      rw [hd] at hq
      have hkk : k = pg.size := by
        have e := congrArg List.length hd
        rw [List.length_drop, size_list] at e
        simp at e; omega
      have hq0 : isAtB endA sm k = false := by rw [hq]; rfl
      have HQ := Box.mk hq0
      have HD := Box.mk hd
      have hdt : decide (k = pg.size) = true := decide_eq_true hkk
      clear hq hq0 hd
      have hb5 := (Below.refl wr.heap.size wr).drew
      go_wp2_with fail
      refine (isAt_any b k pg sm endA L _ HR.out hs hk).mono ?_
      rw [HQ.out]
      rintro e w5 ⟨rfl, hb5⟩
      have HR5 := Box.mk (HR.out.below hb5 hblt)
      have HO5 := Box.mk (HO.out.below hb5 (Nat.le_refl _))
      have hbw5 : Below b w w5 := hbw.trans (hb5.mono (Nat.le_of_lt hblt))
      have hblt5 : b < w5.heap.size := Nat.lt_of_lt_of_le hblt hb5.size
      go_wp2_with fail
      refine (atEnd_any b k pg sm L _ HR5.out).mono ?_
      rw [hdt]
      rintro e w6 ⟨rfl, rfl⟩
      have hb6 := (Below.refl w5.heap.size w5).drew
      have HE : Box (MarkPost pg sm b a w ALL (.returned (.tuple #[])) w5.drew) := ⟨by
        obtain ⟨its, tl, hR, hA⟩ := HT.out.run
        rw [HD.out] at hR
        have hit : its = [] := by
          cases hR with
          | stop _ _ _ => rfl
          | go _ _ _ _ _ _ _ _ h0 _ => cases h0
        subst hit
        rw [linksP, List.append_nil] at hA
        have hP6 := HR5.out.below hb6 hblt5
        rw [hkk] at hP6
        exact mend_page pg sm b a w _ ALL L ls hP6 (HO5.out.below hb6 (Nat.le_refl _)) ha hA (hbw5.trans (hb6.mono (Nat.le_of_lt hblt5)))⟩
      go_wp2
      exact bodyPost_ret (v := .tuple #[]) (by simp [results, Tryd.results18, go_sem]) rfl HE.out
    | cons c t =>
      rw [hd] at hq
      have hkl : k < pg.size := by
        have e := congrArg List.length hd
        rw [List.length_drop, size_list, List.length_cons] at e
        omega
      have HD := Box.mk hd
      have hcs : skipC c = false := by
        have := HT.out.hd
        rw [hd] at this
        simpa using this
      clear hd
      by_cases hc : c = 62
      · subst hc
        have HQ : Box (isAtB endA sm k = true) := ⟨by rw [hq]; rfl⟩
        clear hq hcs
        go_wp2_with fail
        refine (isAt_any b k pg sm endA L _ HR.out hs hk).mono ?_
        rw [HQ.out]
        rintro e w5 ⟨rfl, hb5⟩
        have HR5 := Box.mk (HR.out.below hb5 hblt)
        have HO5 := Box.mk (HO.out.below hb5 (Nat.le_refl _))
        have hbw5 : Below b w w5 := hbw.trans (hb5.mono (Nat.le_of_lt hblt))
        have hblt5 : b < w5.heap.size := Nat.lt_of_lt_of_le hblt hb5.size
        have HG5 := Box.mk (HG.out.below hbw5)
        cases hnv : skipNames.contains n
        · have HE : Box (MarkPost pg sm b a w ALL (.returned (.tuple #[])) w5) := ⟨tag_over pg sm b a k w w5 ALL L ls n t HD.out HT.out hnv HR5.out HO5.out hak hk hbw5⟩
          have HNV : Box (skipNames.contains (sm.extract a u).data.toList = false) := ⟨by rw [HNM.out]; exact hnv⟩
          clear hnv
          go_wp2_with (go_at_call 27; refine (isVerbatim_any _ _ HG5.out.gp.verbs).mono ?_; rw [HNV.out]; rintro e w9 ⟨rfl, rfl⟩)
          go_end0
          exact HE.out
        · have HNV : Box (skipNames.contains (sm.extract a u).data.toList = true) := ⟨by rw [HNM.out]; exact hnv⟩
          have HN2 := Box.mk hnv
          clear hnv
          go_wp2_with (go_at_call 27; refine (isVerbatim_any _ _ HG5.out.gp.verbs).mono ?_; rw [HNV.out]; rintro e w9 ⟨rfl, rfl⟩)
          have HTx : Box (((⟨#[60, 47]⟩ : ByteArray) ++ sm.extract a u).data.toList = 60 :: 47 :: n) := ⟨by rw [ByteArray.data_append, Array.toList_append, HNM.out]; rfl⟩
          refine (seek_any b k pg sm _ L _ HR5.out hl hs hk HG5.out.gp.mx).mono ?_
          rw [HTx.out]
          rintro e w10 ⟨rfl, hP10, hg10⟩
          have HE : Box (MarkPost pg sm b a w ALL (.returned (.tuple #[])) w10) := ⟨tag_verb pg sm HS.out b a k w w10 ALL L ls n t HD.out HT.out HN2.out hP10 (HO5.out.kept hg10 (Nat.lt_succ_self b)) hak hk (hbw5.trans (below_of_grown hg10 (Nat.le_of_lt hblt5)))⟩
          clear hP10 hg10
          go_wp2
          go_end0
          exact HE.out
      · have HQ : Box (isAtB endA sm k = false) := ⟨by rw [hq]; simp [hc]⟩
        have hdt : decide (k = pg.size) = false := decide_eq_false (by omega)
        clear hq
        go_wp2_with fail
        refine (isAt_any b k pg sm endA L _ HR.out hs hk).mono ?_
        rw [HQ.out]
        rintro e w5 ⟨rfl, hb5⟩
        have HR5 := Box.mk (HR.out.below hb5 hblt)
        have HO5 := Box.mk (HO.out.below hb5 (Nat.le_refl _))
        have hbw5 : Below b w w5 := hbw.trans (hb5.mono (Nat.le_of_lt hblt))
        have hblt5 : b < w5.heap.size := Nat.lt_of_lt_of_le hblt hb5.size
        go_wp2_with fail
        refine (atEnd_any b k pg sm L _ HR5.out).mono ?_
        rw [hdt]
        rintro e w6 ⟨rfl, rfl⟩
        have hb6 := (Below.refl w5.heap.size w5).drew
        have HR6 := Box.mk (HR5.out.below hb6 hblt5)
        have HO6 := Box.mk (HO5.out.below hb6 (Nat.le_refl _))
        have hbw6 := hbw5.trans (hb6.mono (Nat.le_of_lt hblt5))
        have HG6 := Box.mk (HG.out.below hbw6)
        obtain ⟨its, tl, hR, hA⟩ := HT.out.run
        have HRR := Box.mk hR
        have HA := Box.mk hA
        clear hR hA HR5 HO5 HR HO
        go_wp2_with fail
        refine (attr_next b k pg sm L _ HR6.out HG6.out hl HS.out n t c HD.out hc hcs ls HO6.out its tl HRR.out ALL HA.out HAl.out).mono ?_
        rintro e w7 ⟨rfl, k7, L7, ls7, its7, tl7, hP7, hO7, hk7, hl7, hR7, hA7, hb7⟩
        have HT7 := Box.mk (tag_at pg sm HS.out n ALL k7 ls7 its7 tl7 hR7 hA7)
        have HP7 := Box.mk hP7
        have HO7 := Box.mk hO7
        have hbw7 := hbw6.trans hb7
        have hblt7 := hP7.cells.2.2.2.2.2.2
        clear hP7 hO7 hR7 hA7
        go_wp2_with fail
        refine (skip_any b k7 pg sm aheadA L7 _ HP7.out hl hs hl7).mono ?_
        rintro e w8 ⟨rfl, hP8, hu8, hg8⟩
        have hO8 := HO7.out.kept hg8 (Nat.lt_succ_self b)
        have hbw8 := hbw7.trans (below_of_grown hg8 (Nat.le_of_lt hblt7))
        have hk8 : k < k7 + runN aheadA.data.toList sm.data.toList k7 := by omega
        generalize k7 + runN aheadA.data.toList sm.data.toList k7 = k8 at hP8 hu8 HT7 hk8
        go_wp2
        go_roundg (pg.size - k - 1)
        case measure => omega
        case rel => exact ⟨k8, L7, ls7, by omega, hu8, hP8, hO8, HT7, hbw8, by omega⟩

end Go.Proofs.YtkmkhfgoihfkjaaDoor
