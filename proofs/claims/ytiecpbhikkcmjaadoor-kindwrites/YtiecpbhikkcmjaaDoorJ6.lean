import Derived.Test.YtiecpbhikkcmjaaDoorJ5
namespace Go.Proofs.YtiecpbhikkcmjaaDoor
open Go.RowKit

def pb2 (f : Fl) : PB := (f.1.data.toList, f.2.data.toList)
def saidS (l : List UInt8) : Option (List UInt8 × List UInt8) := if l.head? = some 34 then quotedS (l.drop 1) else if l.takeWhile tokC = [] then none else some (l.takeWhile tokC, l.dropWhile tokC)
theorem valueP_said (nm r5 : List UInt8) : valueP nm r5 = (saidS r5).map fun q => ((smallS nm, q.1), dropB q.2) := by
  unfold valueP saidS
  split
  · rfl
  · split <;> rfl
theorem quoted_len : ∀ (n : Nat) (l v r : List UInt8), l.length ≤ n → quotedS l = some (v, r) → v.length + r.length + 1 ≤ l.length := by
  intro n
  induction n with
  | zero =>
    intro l v r hl h
    rw [List.eq_nil_of_length_eq_zero (by omega : l.length = 0), quoted_nil] at h
    cases h
  | succ n ih =>
    intro l v r hl h
    cases l with
    | nil => rw [quoted_nil] at h; cases h
    | cons c l =>
      simp only [List.length_cons] at hl ⊢
      by_cases h1 : c = 34
      · rw [h1, quoted_end] at h
        injection h with h
        injection h with h2 h3
        subst h2 h3
        simp
      · by_cases h2 : c = 92
        · cases l with
          | nil => rw [h2, quoted_esc0] at h; cases h
          | cons d l =>
            rw [h2, quoted_esc1] at h
            simp only [List.length_cons] at hl ⊢
            split at h
            · cases hq : quotedS l with
              | none => rw [hq] at h; cases h
              | some q =>
                rw [hq] at h
                obtain ⟨a, b⟩ := q
                have := ih l a b (by omega) hq
                simp only [Option.map_some, Option.some.injEq, Prod.mk.injEq] at h
                obtain ⟨rfl, rfl⟩ := h
                simp only [List.length_cons]
                omega
            · cases h
        · rw [quoted_on c l h1 h2] at h
          split at h
          · cases hq : quotedS l with
            | none => rw [hq] at h; cases h
            | some q =>
              rw [hq] at h
              obtain ⟨a, b⟩ := q
              have := ih l a b (by omega) hq
              simp only [Option.map_some, Option.some.injEq, Prod.mk.injEq] at h
              obtain ⟨rfl, rfl⟩ := h
              simp only [List.length_cons]
              omega
          · cases h
theorem while_lens (l : List UInt8) : (l.takeWhile tokC).length + (l.dropWhile tokC).length = l.length := by
  conv => rhs; rw [← List.takeWhile_append_dropWhile (p := tokC) (l := l), List.length_append]
theorem said_len (l v r : List UInt8) (h : saidS l = some (v, r)) : v.length + r.length ≤ l.length := by
  unfold saidS at h
  split at h
  · have := quoted_len _ _ v r (Nat.le_refl _) h
    have h2 := List.length_drop (i := 1) (l := l)
    omega
  · split at h
    · cases h
    · simp only [Option.some.injEq, Prod.mk.injEq] at h
      obtain ⟨rfl, rfl⟩ := h
      have := while_lens l
      omega
theorem one_len (l : List UInt8) (p : PB) (r : List UInt8) (h : oneP l = some (p, r)) : p.1.length + p.2.length + r.length + 1 ≤ l.length := by
  unfold oneP at h
  split at h
  · cases h
  · split at h
    · rename_i h0 h1
      rw [valueP_said] at h
      generalize hx : dropB ((dropB l).dropWhile tokC) = x at h h1
      cases x with
      | nil => cases h1
      | cons c x =>
        rw [List.drop_succ_cons, List.drop_zero] at h
        cases hq : saidS (dropB x) with
        | none => rw [hq] at h; cases h
        | some q =>
          obtain ⟨v, rr⟩ := q
          rw [hq] at h
          simp only [Option.map_some, Option.some.injEq, Prod.mk.injEq] at h
          obtain ⟨rfl, rfl⟩ := h
          have h2 := said_len _ v rr hq
          have h3 := dropB_len x
          have h4 := dropB_len rr
          have h5 := dropB_len ((dropB l).dropWhile tokC)
          have h6 := while_lens (dropB l)
          have h7 := dropB_len l
          rw [hx, List.length_cons] at h5
          have h8 : (smallS ((dropB l).takeWhile tokC)).length = ((dropB l).takeWhile tokC).length := by simp [smallS]
          simp only
          omega
    · cases h

theorem cutp_any (s : ByteArray) (c : UInt8) (w : World) : Calls Tryd.prog 84 #[.string s, .string ⟨#[c]⟩] w fun e w' => ∃ t q, e = .returned (.tuple #[.string t, .bool q]) ∧ ((q = true ∧ s.data.toList = c :: t.data.toList) ∨ (q = false ∧ s.data.toList.head? ≠ some c ∧ t = s)) ∧ w' = w := by
  refine (Tryd.strings_CutPrefix s ⟨#[c]⟩ w).mono ?_
  rintro e w' ⟨rfl, rfl⟩
  refine ⟨_, _, rfl, ?_, rfl⟩
  unfold Lib.trimPrefix Lib.hasPrefix
  rw [show (⟨#[c]⟩ : ByteArray).data.toList = [c] from rfl]
  cases hs : s.data.toList with
  | nil => exact .inr ⟨rfl, by simp, bytes_eq (by rw [hs]; rfl)⟩
  | cons d l =>
    by_cases hd : c = d
    · subst hd
      exact .inl ⟨by simp, by simp⟩
    · have hp : ([c].isPrefixOf (d :: l)) = false := by simp [List.isPrefixOf, hd]
      refine .inr ⟨hp, by simpa using fun e => hd e.symm, bytes_eq ?_⟩
      rw [hp, hs]; rfl

set_option maxHeartbeats 800000 in
set_option maxRecDepth 100000 in
theorem ksaid_any (s : ByteArray) (w : World) (hs : s.size ≤ 1000000) :
    Calls Tryd.prog 118 #[.string s] w fun e w' => UPost (saidS s.data.toList) e ∧ Below w.heap.size w w' := by
  obtain ⟨Q, HQ⟩ : ∃ Q, Box (Q = saidS s.data.toList) := ⟨_, ⟨rfl⟩⟩
  rw [← HQ.out]
  go_enter Tryd.func118, Tryd.ntmps118
  go_wp2_with fail
  refine (cutp_any s 34 _).mono ?_
  rintro e w1 ⟨t, q, rfl, hq, rfl⟩
  rcases hq with ⟨rfl, hq⟩ | ⟨rfl, hq, rfl⟩
  · have HE : Box (Q = quotedS t.data.toList) := ⟨by rw [HQ.out, saidS, hq]; simp⟩
    have hts : t.size ≤ 1000000 := by
      have := congrArg List.length hq
      rw [List.length_cons, size_list, size_list] at this
      omega
    clear HQ hq
    go_wp2_with fail
    refine (unquoted_any t _ hts).mono ?_
    rintro e w2 ⟨hu, hb2⟩
    rw [← HE.out] at hu
    cases Q with
    | none =>
      obtain ⟨a, b, rfl⟩ := hu
      go_wp2
      go_ret3
      exact ⟨⟨a, b, rfl⟩, hb2⟩
    | some p =>
      obtain ⟨a, b, rfl, ha, hb⟩ := hu
      have HA := Box.mk ha
      have HB := Box.mk hb
      clear ha hb HE
      go_wp2
      go_ret3
      exact ⟨⟨a, b, rfl, HA.out, HB.out⟩, hb2⟩
  · have HE : Box (Q = if t.data.toList.takeWhile tokC = [] then none else some (t.data.toList.takeWhile tokC, t.data.toList.dropWhile tokC)) := ⟨by rw [HQ.out, saidS, if_neg hq]⟩
    clear HQ hq
    go_wp2_with fail
    refine (ktoken_any t _).mono ?_
    rintro e w2 ⟨a, b, rfl, ha, hb, hb2⟩
    rw [← ha, ← hb] at HE
    clear ha hb
    by_cases ha0 : a.size = 0
    · have he := empty_of a ha0
      have HE' : Box (Q = none) := ⟨by rw [HE.out, if_pos (data_nil a ha0)]⟩
      clear HE
      go_wp2
      go_ret3
      exact ⟨UPost_none Q HE'.out _ _ rfl, hb2⟩
    · have he := nonempty_of a ha0
      have HE' : Box (Q = some (a.data.toList, b.data.toList)) := ⟨by
        rw [HE.out, if_neg]
        intro h
        exact ha0 (by rw [← size_list, h]; rfl)⟩
      clear HE
      go_wp2
      go_ret3
      exact ⟨UPost_some _ _ Q HE'.out _ _ rfl rfl rfl, hb2⟩

def PPost (O : Option (PB × List UInt8)) (e : Ending) : Prop :=
  match O with
  | some q => ∃ n v u : ByteArray, e = .returned (.tuple #[.agg #[.string n, .string v], .string u, .bool true]) ∧ (n.data.toList, v.data.toList) = q.1 ∧ u.data.toList = q.2
  | none => ∃ n v u : ByteArray, e = .returned (.tuple #[.agg #[.string n, .string v], .string u, .bool false])

set_option maxHeartbeats 3200000 in
set_option maxRecDepth 100000 in
theorem kparam_any (s : ByteArray) (w : World) (hs : s.size ≤ 1000000) :
    Calls Tryd.prog 83 #[.string s] w fun e w' => PPost (oneP s.data.toList) e ∧ Below w.heap.size w w' := by
  obtain ⟨O, HO⟩ : ∃ O, Box (O = oneP s.data.toList) := ⟨_, ⟨rfl⟩⟩
  rw [← HO.out]
  go_enter Tryd.func83, Tryd.ntmps83
  go_wp2_with fail
  have b0 : Below w.heap.size w (w.alloc (.cells #[.string ⟨#[]⟩, .string ⟨#[]⟩] 67)) := (Below.refl _ _).alloc (Nat.le_refl _) _
  refine (kskip_any s _).mono ?_
  rintro e w1 ⟨s1, rfl, h1, hb1⟩
  go_wp2_with fail
  refine (ktoken_any s1 _).mono ?_
  rintro e w2 ⟨nm, s2, rfl, h2, h3, hb2⟩
  go_wp2_with fail
  refine (kskip_any s2 _).mono ?_
  rintro e w3 ⟨s3, rfl, h4, hb3⟩
  go_wp2_with fail
  refine (cutp_any s3 61 _).mono ?_
  rintro e w4 ⟨s4, q, rfl, hq, rfl⟩
  have hb13 := (hb1.trans (hb2.mono hb1.size)).trans (hb3.mono (hb1.trans (hb2.mono hb1.size)).size)
  clear hb1 hb2 hb3
  have l1 := dropB_len s.data.toList
  have l2 := while_lens s1.data.toList
  have l3 := dropB_len s2.data.toList
  rw [← h1, size_list, size_list] at l1
  rw [← h2, ← h3, size_list, size_list, size_list] at l2
  rw [← h4, size_list, size_list] at l3
  have HE : Box (O = if nm.data.toList = [] then none else if s3.data.toList.head? = some 61 then valueP nm.data.toList (dropB (s3.data.toList.drop 1)) else none) := ⟨by rw [HO.out, oneP, ← h1, ← h2, ← h3, ← h4]⟩
  clear h1 h2 h3 h4 HO
  have hsz := hb13.size
  have q0 : w4.cell? ⟨w.heap.size, 0, none⟩ = some (.string ⟨#[]⟩) := (hb13.cell (p := ⟨w.heap.size, 0, none⟩) (by simp)).trans (by simp)
  have q1 : w4.cell? ⟨w.heap.size, 1, none⟩ = some (.string ⟨#[]⟩) := (hb13.cell (p := ⟨w.heap.size, 1, none⟩) (by simp)).trans (by simp)
  have f0 : w4.frozen? ⟨w.heap.size, 0, none⟩ = false := (hb13.frozen (p := ⟨w.heap.size, 0, none⟩) (by simp)).trans (by simp)
  have f1 : w4.frozen? ⟨w.heap.size, 1, none⟩ = false := (hb13.frozen (p := ⟨w.heap.size, 1, none⟩) (by simp)).trans (by simp)
  have b4 : Below w.heap.size w w4 := b0.trans (hb13.mono (by simp))
  have hw4 : w.heap.size < w4.heap.size := by simp at hsz; omega
  by_cases hn0 : nm.size = 0
  · have he := empty_of nm hn0
    have HN : Box (O = none) := ⟨by rw [HE.out, if_pos (data_nil nm hn0)]⟩
    clear HE hq
    go_wp2
    exact bodyPost_ret (v := .tuple #[.agg #[.string ⟨#[]⟩, .string ⟨#[]⟩], .string ⟨#[]⟩, .bool false]) (by simp [results, Tryd.results83, go_sem, q0, q1]) rfl ⟨by rw [HN.out]; exact ⟨_, _, _, rfl⟩, (b4.setCell (Nat.le_refl _) _).setCell (Nat.le_refl _) _⟩
  · have he := nonempty_of nm hn0
    have hne : nm.data.toList ≠ [] := fun h => hn0 (by rw [← size_list, h]; rfl)
    rcases hq with ⟨rfl, hq⟩ | ⟨rfl, hq, rfl⟩
    · have HV : Box (O = valueP nm.data.toList (dropB s4.data.toList)) := ⟨by rw [HE.out, if_neg hne, hq]; simp⟩
      have l4 : s4.size ≤ 1000000 := by
        have := congrArg List.length hq
        rw [List.length_cons, size_list, size_list] at this
        omega
      clear HE hq hne
      go_wp2_with fail
      refine (kskip_any s4 _).mono ?_
      rintro e w5 ⟨s5, rfl, h5, hb5⟩
      have l5 := dropB_len s4.data.toList
      rw [← h5, size_list, size_list] at l5
      rw [← h5, valueP_said] at HV
      clear h5
      go_wp2_with fail
      refine (ksaid_any s5 _ (by omega)).mono ?_
      rintro e w6 ⟨hu, hb6⟩
      have hb46 := hb5.trans (hb6.mono hb5.size)
      clear hb5 hb6
      obtain ⟨v, s6, ok, rfl, hu'⟩ : ∃ v s6 ok, e = .returned (.tuple #[.string v, .string s6, .bool ok]) ∧ ((ok = true ∧ saidS s5.data.toList = some (v.data.toList, s6.data.toList)) ∨ (ok = false ∧ saidS s5.data.toList = none)) := by
        cases hQ : saidS s5.data.toList with
        | none =>
          rw [hQ] at hu
          obtain ⟨a, b, rfl⟩ := hu
          exact ⟨a, b, false, rfl, .inr ⟨rfl, rfl⟩⟩
        | some q =>
          rw [hQ] at hu
          obtain ⟨a, b, rfl, ha, hb⟩ := hu
          exact ⟨a, b, true, rfl, .inl ⟨rfl, by rw [ha, hb]⟩⟩
      clear hu
      have HU := Box.mk hu'
      clear hu'
      go_wp2_with fail
      refine (small_str nm _ (by omega)).mono ?_
      rintro e w7 ⟨nm2, rfl, h7, hb7⟩
      go_wp2_with fail
      refine (kskip_any s6 _).mono ?_
      rintro e w8 ⟨s7, rfl, h8, hb8⟩
      have hb48 := (hb46.trans (hb7.mono hb46.size)).trans (hb8.mono (hb46.trans (hb7.mono hb46.size)).size)
      clear hb46 hb7 hb8
      have r0 : w8.cell? ⟨w.heap.size, 0, none⟩ = some (.string ⟨#[]⟩) := (hb48.cell (p := ⟨w.heap.size, 0, none⟩) hw4).trans q0
      have r1 : w8.cell? ⟨w.heap.size, 1, none⟩ = some (.string ⟨#[]⟩) := (hb48.cell (p := ⟨w.heap.size, 1, none⟩) hw4).trans q1
      have g0 : w8.frozen? ⟨w.heap.size, 0, none⟩ = false := (hb48.frozen (p := ⟨w.heap.size, 0, none⟩) hw4).trans f0
      have g1 : w8.frozen? ⟨w.heap.size, 1, none⟩ = false := (hb48.frozen (p := ⟨w.heap.size, 1, none⟩) hw4).trans f1
      have b8 : Below w.heap.size w w8 := b4.trans (hb48.mono (by omega))
      have HP : Box (PPost O (.returned (.tuple #[.agg #[.string nm2, .string v], .string s7, .bool ok]))) := ⟨by
        rw [HV.out]
        rcases HU.out with ⟨rfl, h⟩ | ⟨rfl, h⟩
        · rw [h]
          exact ⟨nm2, v, s7, rfl, by rw [h7], h8⟩
        · rw [h]
          exact ⟨nm2, v, s7, rfl⟩⟩
      clear HU HV h7 h8 q0 q1 f0 f1
      go_wp2
      exact bodyPost_ret (v := .tuple #[.agg #[.string nm2, .string v], .string s7, .bool ok]) (by simp [results, Tryd.results83, go_sem, r0, r1]) rfl ⟨HP.out, (b8.setCell (Nat.le_refl _) _).setCell (Nat.le_refl _) _⟩
    · have HN : Box (O = none) := ⟨by rw [HE.out, if_neg hne, if_neg hq]⟩
      clear HE hq hne
      go_wp2
      exact bodyPost_ret (v := .tuple #[.agg #[.string ⟨#[]⟩, .string ⟨#[]⟩], .string ⟨#[]⟩, .bool false]) (by simp [results, Tryd.results83, go_sem, q0, q1]) rfl ⟨by rw [HN.out]; exact ⟨_, _, _, rfl⟩, (b4.setCell (Nat.le_refl _) _).setCell (Nat.le_refl _) _⟩

end Go.Proofs.YtiecpbhikkcmjaaDoor
