import Derived.Test.YtkmkhfgoihfkjaaDoorZLL
namespace Go.Proofs.YtkmkhfgoihfkjaaDoor
open Go.RowKit

theorem PGB.up {w : World} {b b' : Nat} (h : PGB w b) (hb : b ≤ b') : PGB w b' := by
  have h0 := h.l0
  have h1 := h.l1
  have h2 := h.l2
  have h3 := h.l3
  exact ⟨⟨h.gp.words, h.gp.leads, h.gp.verbs, h.gp.mx, by omega, by omega, by omega, by omega⟩, by omega, by omega, by omega, by omega⟩
theorem run_count (m : Md) (s : List UInt8) (its : List PItem) (tl : List UInt8) (h : Run m s its tl) : countP its ≤ s.length := by
  induction h with
  | stop m s _ => exact Nat.zero_le _
  | go m m' s c r tl e its h0 _ ih =>
    match m with
    | none =>
      have h0 : stepTop s = some (c, e, m', r) := h0
      obtain ⟨rfl, h1, h2, _⟩ := top_local s c r r e m' h0 rfl
      have := congrArg List.length h1
      rw [List.length_append] at this
      rw [countP]
      omega
    | some (true, n) =>
      have h0 : stepSkip n s = some (c, e, m', r) := h0
      unfold stepSkip at h0
      obtain ⟨q, hq, hq2⟩ := Option.map_eq_some_iff.1 h0
      simp only [Prod.mk.injEq] at hq2
      obtain ⟨rfl, rfl, rfl, rfl⟩ := hq2
      have := congrArg List.length (findN_some _ _ q.1 q.2 hq).1
      rw [List.length_append] at this
      rw [countP]
      omega
    | some (false, n) =>
      have h0 : stepTag n s = some (c, e, m', r) := h0
      match e with
      | none =>
        have := congrArg List.length (tag_none n s c r r m' h0 rfl).1
        rw [List.length_append] at this
        rw [countP]
        omega
      | some (v, b) =>
        obtain ⟨_, h2, ⟨_, q, _, _, h1, _⟩ | ⟨_, h1, _⟩⟩ := tag_some n s c r v b m' h0
        all_goals
          have := congrArg List.length h1
          have := List.length_pos_iff.2 h2
          simp only [List.length_append, List.length_cons] at *
          rw [countP]
          omega
theorem split_lt (z r x y : List UInt8) (h : z ++ r = x ++ 60 :: y) (hz : 60 ∉ z) : ∃ u, x = z ++ u ∧ r = u ++ 60 :: y := by
  rcases List.append_eq_append_iff.1 h with ⟨u, h1, h2⟩ | ⟨u, h1, h2⟩
  · exact ⟨u, h1, h2⟩
  · cases u with
    | nil => exact ⟨[], by simpa using h1.symm, by simpa using h2.symm⟩
    | cons c u =>
      simp only [List.cons_append, List.cons.injEq] at h2
      exact absurd (by rw [h1]; simp [h2.1]) hz

structure LinksAt (pg : ByteArray) (ALL : List (Nat × Nat × List UInt8)) (a : Nat) (ls : List Lk) : Prop where
  run : ∃ z r its tl, pg.data.toList.drop a = z ++ r ∧ 60 ∉ z ∧ Run none r its tl ∧ ls.map lk2 ++ linksP (a + z.length) its = ALL
def lessA : ByteArray := ⟨#[60]⟩

set_option maxHeartbeats 4000000 in
set_option maxRecDepth 100000 in
theorem links_any (pg : ByteArray) (w : World) (hG : PGB w w.heap.size) (hl : pg.size ≤ 100000000) (its : List PItem) (tl : List UInt8) (hR : Run none pg.data.toList its tl) :
    Calls Tryd.prog 5 #[.string pg] w fun e w' => ∃ v ls, e = .returned v ∧ OwnL w' w.heap.size v ls ∧ ls.map lk2 = linksP 0 its ∧ Below w.heap.size w w' := by
  obtain ⟨ALL, HALL⟩ : ∃ ALL, Box (linksP 0 its = ALL) := ⟨_, ⟨rfl⟩⟩
  rw [HALL.out]
  have HAl : Box (ALL.length ≤ 100000000) := ⟨by rw [← HALL.out, links_len]; have := run_count none _ its tl hR; rw [size_list] at this; omega⟩
  have HL0 : Box (LinksAt pg ALL 0 []) := ⟨⟨[], pg.data.toList, its, tl, rfl, by simp, hR, HALL.out⟩⟩
  have HG := Box.mk hG
  clear hG hR HALL
  go_enter Tryd.func5, Tryd.ntmps5
  go_wp2_with fail
  refine (small_any pg _ hl).mono ?_
  obtain ⟨sm, HSM⟩ : ∃ sm : ByteArray, Box (sm = ⟨(smallS pg.data.toList).toArray⟩) := ⟨_, ⟨rfl⟩⟩
  rw [← HSM.out]
  rintro e w1 ⟨rfl, hb1⟩
  have HS : Box (sm.data.toList = smallS pg.data.toList) := ⟨by rw [HSM.out]⟩
  clear HSM
  go_wp2
  obtain ⟨b, HB⟩ : ∃ b, Box (w1.heap.size = b) := ⟨_, ⟨rfl⟩⟩
  have hb2 : Below w1.heap.size w1 (w1.alloc (Obj.cells #[Value.string pg, Value.string sm, Value.int IntKind.i64 0, Value.slice none 0 0] 36)) := (Below.refl _ _).alloc (Nat.le_refl _) _
  have hP2 : PR (w1.alloc (Obj.cells #[Value.string pg, Value.string sm, Value.int IntKind.i64 0, Value.slice none 0 0] 36)) b pg sm 0 (.slice none 0 0) := by
    rw [← HB.out]
    exact Array.getElem?_push_size
  have hs : sm.size = pg.size := by rw [← size_list, HS.out, smallS_len, size_list]
  rw [HB.out]
  rw [HB.out] at hb2
  generalize w1.alloc (Obj.cells #[Value.string pg, Value.string sm, Value.int IntKind.i64 0, Value.slice none 0 0] 36) = w2 at hb2 hP2 ⊢
  have hwb : w.heap.size ≤ b := by rw [← HB.out]; exact hb1.size
  have hb02 : Below w.heap.size w w2 := hb1.trans (hb2.mono hwb)
  have HG2 := Box.mk ((HG.out.below hb02).up hwb)
  have hbl := hP2.cells.2.2.2.2.2.2
  clear HB hb1 hb2
  go_loopg [] (pg.size - 0) (fun gf wx => ∃ a L ls, a ≤ pg.size ∧ PR wx b pg sm a L ∧ OwnL wx (b + 1) L ls ∧ Box (LinksAt pg ALL a ls) ∧ Below b w2 wx ∧ pg.size - a ≤ gf)
  case atStart => exact ⟨0, _, [], Nat.zero_le _, hP2, OwnL.nil _ _, HL0, Below.refl _ _, Nat.le_refl _⟩
  case round =>
    clear hP2 HL0
    obtain ⟨a, L, ls, ha, hr, hO, HT, hbw, hgf⟩ := hrel
    have hblt := hr.cells.2.2.2.2.2.2
    have HR := Box.mk hr
    have HO := Box.mk hO
    have HGr := Box.mk (HG2.out.below hbw)
    obtain ⟨hix, hsk⟩ := seek_fixed pg sm HS.out [60] (by simp) (by intro c hc; simp at hc; rw [hc]; exact fixed60) a
    clear hr hO
    cases hf : findL [60] (pg.data.toList.drop a) with
    | none =>
      rw [hf] at hix hsk
      have HIX : Box (decide (0 ≤ Lib.index (sm.data.toList.drop a) lessA.data.toList) = false) := ⟨by
        have e : Lib.index (sm.data.toList.drop a) lessA.data.toList = -1 := hix
        rw [e]; rfl⟩
      have HA : Box (ls.map lk2 = ALL) := ⟨by
        obtain ⟨z, r, its', tl', h1, h2, h3, h4⟩ := HT.out.run
        have hn := findL_mem 60 _ hf
        rw [h1] at hn
        have := run_none r (fun h => hn (by simp [h])) its' tl' h3
        rw [this, linksP, List.append_nil] at h4
        exact h4⟩
      clear hix hsk hf
      go_wp2_with fail
      refine (seek_any b a pg sm lessA L _ HR.out hl hs ha HGr.out.gp.mx).mono ?_
      rw [HIX.out]
      rintro e w5 ⟨rfl, hP5, hg5⟩
      have hO5 := HO.out.kept hg5 (Nat.lt_succ_self b)
      have hb5 := hbw.trans (below_of_grown hg5 (Nat.le_of_lt hblt))
      obtain ⟨A5, cap5, hL5, hc5⟩ := hO5.len
      subst hL5
      obtain ⟨d0, d1, d2, d3, g2, g3, hb6⟩ := hP5.cells
      have HO5 := Box.mk hO5
      clear hP5 hO5
      go_wp2
      go_ret
      exact ⟨_, ls, rfl, HO5.out.mono (by omega), HA.out, hb02.trans (hb5.mono hwb)⟩
    | some q =>
      obtain ⟨x, y0⟩ := q
      obtain ⟨y, rfl⟩ := findL_one 60 _ x y0 hf
      have hxy := (findL_some _ _ x _ hf).1
      rw [hf] at hix hsk
      have HIX : Box (decide (0 ≤ Lib.index (sm.data.toList.drop a) lessA.data.toList) = true) := ⟨by
        have e : Lib.index (sm.data.toList.drop a) lessA.data.toList = ((x.length : Nat) : Int) := hix
        rw [e]; exact decide_eq_true (by omega)⟩
      have HSK : Box (seekTo lessA.data.toList sm.data.toList pg.size a = a + x.length) := ⟨hsk⟩
      have hdk : pg.data.toList.drop (a + x.length + 1) = y := by
        have := drop_on _ a x _ hxy
        exact drop_on _ (a + x.length) [60] y this
      have hkl : a + x.length + 1 ≤ pg.size := by
        have e := congrArg List.length hxy
        rw [List.length_drop, size_list] at e
        simp at e; omega
      obtain ⟨its', tl', hRm, hAm⟩ : ∃ its' tl', Run none (60 :: pg.data.toList.drop (a + x.length + 1)) its' tl' ∧ ls.map lk2 ++ linksP (a + x.length) its' = ALL := by
        obtain ⟨z, r, its0, tl0, h1, h2, h3, h4⟩ := HT.out.run
        rw [h1] at hxy
        obtain ⟨u, hu1, hu2⟩ := split_lt z r x y hxy h2
        have hxn := findL_ahead 60 _ x _ hf
        rw [hu2] at h3
        obtain ⟨its', tl', h5, h6⟩ := run_pre u (60 :: y) (fun h => hxn (by rw [hu1]; simp [h])) its0 tl0 h3
        refine ⟨its', tl', by rw [hdk]; exact h5, ?_⟩
        rw [← h4, ← h6, hu1, List.length_append, Nat.add_assoc]
      have HRM := Box.mk hRm
      have HAM := Box.mk hAm
      clear hix hsk hf hxy hdk hRm hAm
      generalize a + x.length = k at HSK hkl HRM HAM
      have hak : a ≤ k := by
        have := HSK.out
        unfold seekTo at this
        split at this <;> omega
      go_wp2_with fail
      refine (seek_any b a pg sm lessA L _ HR.out hl hs ha HGr.out.gp.mx).mono ?_
      rw [HIX.out, HSK.out]
      rintro e w5 ⟨rfl, hP5, hg5⟩
      obtain ⟨d0, d1, d2, d3, g2, g3, hb6⟩ := hP5.cells
      have HP6 := Box.mk (hP5.setA (k + 1))
      rw [Int.natCast_add] at HP6
      have hg6 := pgrown_set w5 b 2 (.int .i64 ((k : Int) + 1))
      have HO6 := Box.mk ((HO.out.kept hg5 (Nat.lt_succ_self b)).kept hg6 (Nat.lt_succ_self b))
      have hb7 := (hbw.trans (below_of_grown hg5 (Nat.le_of_lt hblt))).trans (below_of_grown hg6 (Nat.le_of_lt hb6))
      have HG7 := Box.mk (HG2.out.below hb7)
      clear hP5 hg5 hg6
      go_wp2_with fail
      refine (mark_any b k pg sm L _ HP6.out HG7.out hl HS.out hkl ls HO6.out its' tl' HRM.out ALL HAM.out HAl.out).mono ?_
      rintro e w8 ⟨rfl, L8, ls8, a8, z8, r8, its8, tl8, q1, q2, q3, q4, q5, q6, q7, q8, q9⟩
      have HT8 : Box (LinksAt pg ALL a8 ls8) := ⟨⟨z8, r8, its8, tl8, q5, q6, q7, q8⟩⟩
      clear q5 q6 q7 q8
      have hb8 := hb7.trans q9
      go_wp2
      go_roundg (pg.size - a - 1)
      case measure => omega
      case rel => exact ⟨a8, L8, ls8, q4, q1, q2, HT8, hb8, by omega⟩

end Go.Proofs.YtkmkhfgoihfkjaaDoor
