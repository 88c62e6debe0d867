import Derived.Test.YtnjjjkhhoaadfabGreatDoorZ25
namespace Go.Proofs.YtnjjjkhhoaadfabGreatDoor
open Go.RowKit

/- What comes back, and how it was made. -/
mutual
inductive Back : PT → PT → Prop
  | many (L : List PB) (b bd : List UInt8) (ps qs : List PT) : okBd bd → BackL ps qs → Back (.mk L b true ps) (.mk (setCT bd L) b true qs)
  | one (L : List PB) (b how : List UInt8) : how.length ≤ 16 → Back (.mk L b false []) (.mk (stripH L ++ [(cteB, how)]) b false [])
inductive BackL : List PT → List PT → Prop
  | nil : BackL [] []
  | cons (p q : PT) (ps qs : List PT) : Back p q → BackL ps qs → BackL (p :: ps) (q :: qs)
end
theorem how_len (Y : Beneath) (b : List UInt8) : (howW Y b).1.length ≤ 16 := by
  unfold howW
  split
  · exact (by decide : bit7.length ≤ 16)
  · split
    · exact (by decide : b64N.length ≤ 16)
    · exact (by decide : qpN.length ≤ 16)
theorem part_back2 (Y : Beneath) : ∀ (d n : Nat) (p : PT) (s : List UInt8) (n' : Nat), writeT Y d n p = .ok (s, n') → s.length ≤ 20000 → ∃ r, readT Y d n s = .ok (r, n') ∧ Likes p r ∧ writeT Y d n r = .ok (s, n') ∧ Back p r
  | 0, n, p, s, n', h, _ => by cases h
  | d + 1, n, .mk L b many ps, s, n', h, hs => by
    obtain ⟨hn, hL, ⟨rfl, rfl, b0, xs, hm, ha, rfl⟩ | ⟨rfl, rfl, hm, rfl, rfl⟩⟩ := write_forms Y d n n' L b many ps s h
    · have hlen : xs.flatten.length ≤ 20000 := by
        have := flatten_le xs (Y.bnd xs)
        rw [List.length_append] at hs
        omega
      have hall : ∀ (ps : List PT) (xs : List (List UInt8)) (n n' : Nat), allG (writeT Y d) ps n = .ok (xs, n') → xs.flatten.length ≤ 20000 → ∃ rs, allG (readT Y d) xs n = .ok (rs, n') ∧ LikesL ps rs ∧ allG (writeT Y d) rs n = .ok (xs, n') ∧ BackL ps rs := by
        intro ps
        induction ps with
        | nil =>
          intro xs n n' h _
          have h : Except.ok ([], n) = Except.ok (xs, n') := h
          simp only [Except.ok.injEq, Prod.mk.injEq] at h
          obtain ⟨rfl, rfl⟩ := h
          exact ⟨[], rfl, LikesL.nil, rfl, BackL.nil⟩
        | cons p ps ih =>
          intro xs n n' h hx
          obtain ⟨y, k, zs, h1, h2, rfl⟩ := allG_ok _ _ _ _ _ _ h
          rw [List.flatten_cons, List.length_append] at hx
          obtain ⟨r, r1, r2, r3, r4⟩ := part_back2 Y d n p y k h1 (by omega)
          obtain ⟨rs, i1, i2, i3, i4⟩ := ih zs k n' h2 (by omega)
          exact ⟨r :: rs, allG_mk _ _ _ _ _ _ _ _ r1 i1, LikesL.cons _ _ _ _ r2 i2, allG_mk _ _ _ _ _ _ _ _ r3 i3, BackL.cons _ _ _ _ r4 i4⟩
      obtain ⟨rs, i1, i2, i3, i4⟩ := hall ps xs (n + 1) n' ha hlen
      have hbd := Y.bok xs hlen
      have hread := manies_read L _ hm
      have hR := right_set (Y.bnd xs) hbd L hL hread
      have hM := manies_set (Y.bnd xs) b0 L hbd hm
      refine ⟨.mk (setCT (Y.bnd xs) L) [] true rs, ?_, ?_, ?_, Back.many _ _ _ _ _ hbd i4⟩
      · unfold readT
        rw [if_neg (by omega), Y.back _ _ hR]
        simp only
        rw [hM]
        simp only
        rw [between_back (Y.bnd xs) (okBd_no13 hbd) xs (Y.bap xs)]
        simp only
        rw [i1]
      · refine Likes.mk _ _ _ _ _ _ ?_ i2
        show blankCT L = blankCT (setCT (Y.bnd xs) L)
        rw [blank_set]
      · rw [write_many Y d n n' _ _ rs xs hn hR hM i3, set_again _ _ _ hbd hread]
    · have hR := right_how Y L b hL
      refine ⟨.mk (stripH L ++ [(cteB, (howW Y b).1)]) b false [], ?_, ?_, ?_, Back.one _ _ _ (how_len Y b)⟩
      · unfold readT
        rw [if_neg (by omega), Y.back _ _ hR]
        simp only
        rw [manies_plain, hm]
        simp only
        rw [decode_how]
      · refine Likes.mk _ _ _ _ _ _ ?_ LikesL.nil
        show stripH L = stripH (stripH L ++ [(cteB, (howW Y b).1)])
        rw [strip_plain]
      · rw [write_one Y d n _ b hn hR (by rw [manies_plain]; exact hm), strip_plain]
/-- All heads are right, down to a depth. -/
def RgT : Nat → PT → Prop
  | 0, _ => False
  | d + 1, .mk L _ _ ps => L.all rightB = true ∧ ∀ p ∈ ps, RgT d p
theorem write_right (Y : Beneath) : ∀ (d n : Nat) (p : PT) (s : List UInt8) (n' : Nat), writeT Y d n p = .ok (s, n') → RgT d p
  | 0, n, p, s, n', h => by cases h
  | d + 1, n, .mk L b many ps, s, n', h => by
    obtain ⟨hn, hL, ⟨rfl, rfl, b0, xs, hm, ha, rfl⟩ | ⟨rfl, rfl, hm, rfl, rfl⟩⟩ := write_forms Y d n n' L b many ps s h
    · refine ⟨hL, ?_⟩
      have hall : ∀ (ps : List PT) (xs : List (List UInt8)) (n n' : Nat), allG (writeT Y d) ps n = .ok (xs, n') → ∀ p ∈ ps, RgT d p := by
        intro ps
        induction ps with
        | nil => intro _ _ _ _ p hp; cases hp
        | cons p ps ih =>
          intro xs n n' h
          obtain ⟨y, k, zs, h1, h2, rfl⟩ := allG_ok _ _ _ _ _ _ h
          intro q hq
          rcases List.mem_cons.1 hq with rfl | hq
          · exact write_right Y d n q y k h1
          · exact ih zs k n' h2 q hq
      exact hall ps xs (n + 1) n' ha
    · exact ⟨hL, fun p hp => by cases hp⟩
theorem PV.down {w : World} {S : Nat → Prop} : ∀ (d D : Nat) (v : P4) (p : PT), PV w S D v p → RgT d p → PV w S d v p
  | 0, _, _, _, _, h => h.elim
  | d + 1, 0, _, _, h, _ => h.elim
  | d + 1, D + 1, v, .mk L b many ps, h, hr => by
    obtain ⟨A, cap, bb, lh, h1, h2, h3, h4, h5, h6, h7, h9, h10, h11⟩ := h
    refine ⟨A, cap, bb, lh, h1, h2, h3, h4, h5, h6, h7, h9, h10, fun k hk => ?_⟩
    obtain ⟨q, hc, hq⟩ := h11 k hk
    exact ⟨q, hc, PV.down d D q _ hq (hr.2 _ (List.getElem_mem hk))⟩
/-- Reading, by lists, is the mathematics' reading. -/
theorem readU_T : ∀ (d n : Nat) (s : List UInt8), readU d n s = readT Y0 d n s
  | 0, _, _ => rfl
  | d + 1, n, s => by
    have hall : ∀ (xs : List (List UInt8)) (n : Nat), allG (readU d) xs n = allG (readT Y0 d) xs n := by
      intro xs
      induction xs with
      | nil => intro n; rfl
      | cons x xs ih =>
        intro n
        unfold allG
        rw [readU_T d n x]
        cases readT Y0 d n x with
        | error c => rfl
        | ok q => simp only; rw [ih]
    have e : ∀ L b, decodeU L b = decodeS Y0 L b := fun _ _ => rfl
    have e2 : Y0.hr s = headR s := rfl
    unfold readU readT
    by_cases h1 : 40 ≤ n
    · rw [if_pos h1, if_pos h1]
    · rw [if_neg h1, if_neg h1, e2]
      cases headR s with
      | error c => rfl
      | ok h =>
        simp only
        cases maniesS h.1 with
        | error c => rfl
        | ok o =>
          cases o with
          | none =>
            simp only
            rw [e]
            cases decodeS Y0 h.1 h.2 <;> rfl
          | some b =>
            simp only
            cases betweenS b h.2 with
            | none => rfl
            | some xs =>
              simp only
              rw [hall]
              cases allG (readT Y0 d) xs (n + 1) <;> rfl
/-- A part, small enough to be written, and read back from that. -/
def Sm1 : Nat → PT → Prop
  | 0, _ => False
  | D + 1, .mk L b _ ps => (L.length ≤ 2990 ∧ (∀ f ∈ L, f.1.length ≤ 2500 ∧ f.2.length ≤ 2500) ∧ hsz L ≤ 9000) ∧ b.length ≤ 3000 ∧ ps.length ≤ 60 ∧ ∀ p ∈ ps, Sm1 D p
theorem Sm1.sm : ∀ (D : Nat) (p : PT), Sm1 D p → SmT D p
  | 0, _, h => h.elim
  | D + 1, .mk L b many ps, h => by
    obtain ⟨⟨h1, h2, h3⟩, h4, h5, h6⟩ := h
    exact ⟨⟨by omega, fun f hf => by have := h2 f hf; omega, by omega⟩, h4, h5, fun p hp => Sm1.sm D p (h6 p hp)⟩
theorem Sm1.back : ∀ (d D : Nat) (p q : PT), Sm1 D p → Back p q → RgT d q → SmT d q
  | 0, _, _, _, _, _, h => h.elim
  | _ + 1, 0, _, _, h, _, _ => h.elim
  | d + 1, D + 1, .mk L b many ps, q, h, hb, hr => by
    obtain ⟨⟨h1, h2, h3⟩, h4, h5, h6⟩ := h
    cases hb with
    | many _ _ bd _ qs hok hl =>
      obtain ⟨c1, c2⟩ := setCT_len bd L 2500 2500 h2
      have c3 := setCT_hsz bd L
      have hbl := hok.2.1
      have hlen : ∀ (ps qs : List PT), BackL ps qs → qs.length = ps.length ∧ ((∀ p ∈ ps, Sm1 D p) → (∀ q ∈ qs, RgT d q) → ∀ q ∈ qs, SmT d q) := by
        intro ps
        induction ps with
        | nil => intro qs h; cases h; exact ⟨rfl, fun _ _ q hq => by cases hq⟩
        | cons p ps ih =>
          intro qs h
          cases h with
          | cons _ q _ qs h1 h2 =>
            obtain ⟨i1, i2⟩ := ih qs h2
            refine ⟨by simp [i1], fun hp hq x hx => ?_⟩
            rcases List.mem_cons.1 hx with rfl | hx
            · exact Sm1.back d D p x (hp p (by simp)) h1 (hq x (by simp))
            · exact i2 (fun p hp' => hp p (by simp [hp'])) (fun q hq' => hq q (by simp [hq'])) x hx
      obtain ⟨l1, l2⟩ := hlen ps qs hl
      exact ⟨⟨by omega, fun f hf => by have := c2 f hf; omega, by omega⟩, h4, by omega, l2 h6 hr.2⟩
    | one _ _ how hh =>
      have g1 : hsz (stripH L) ≤ hsz L := hsz_filter _ _
      have g2 : (stripH L).length ≤ L.length := List.length_filter_le _ _
      refine ⟨⟨by rw [List.length_append, List.length_singleton]; omega, fun f hf => ?_, ?_⟩, h4, by simp, fun p hp => by cases hp⟩
      · rcases List.mem_append.1 hf with hf | hf
        · have := h2 f (List.mem_filter.1 hf).1; omega
        · rw [List.mem_singleton.1 hf]
          exact ⟨(by decide : cteB.length ≤ 8000), by simp only; omega⟩
      · have e0 : hsz ([] : List PB) = 0 := rfl
        have e1 : cteB.length = 25 := rfl
        rw [hsz_app, hsz_cons, e0]
        simp only
        omega

end Go.Proofs.YtnjjjkhhoaadfabGreatDoor
