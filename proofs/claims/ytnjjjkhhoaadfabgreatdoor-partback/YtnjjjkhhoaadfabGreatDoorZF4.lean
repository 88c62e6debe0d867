import Derived.Test.YtnjjjkhhoaadfabGreatDoorZ3
namespace Go.Proofs.YtnjjjkhhoaadfabGreatDoor
open Go.RowKit

/- All parts come back. -/
theorem allG_cons {α β : Type} (f : Nat → α → Except Nat (β × Nat)) (x : α) (xs : List α) (n : Nat) : allG f (x :: xs) n = match f n x with
    | .error e => .error e
    | .ok q => match allG f xs q.2 with
      | .error e => .error e
      | .ok r => .ok (q.1 :: r.1, r.2) := rfl
theorem allG_ok {α β : Type} (f : Nat → α → Except Nat (β × Nat)) (x : α) (xs : List α) (n n' : Nat) (ys : List β) (h : allG f (x :: xs) n = .ok (ys, n')) : ∃ y k zs, f n x = .ok (y, k) ∧ allG f xs k = .ok (zs, n') ∧ ys = y :: zs := by
  rw [allG_cons] at h
  cases h1 : f n x with
  | error e => rw [h1] at h; cases h
  | ok q =>
    rw [h1] at h
    simp only at h
    cases h2 : allG f xs q.2 with
    | error e => rw [h2] at h; cases h
    | ok r =>
      rw [h2] at h
      simp only [Except.ok.injEq, Prod.mk.injEq] at h
      exact ⟨q.1, q.2, r.1, rfl, by rw [h2, ← h.2], h.1.symm⟩
theorem allG_mk {α β : Type} (f : Nat → α → Except Nat (β × Nat)) (x : α) (xs : List α) (n k n' : Nat) (y : β) (zs : List β) (h1 : f n x = .ok (y, k)) (h2 : allG f xs k = .ok (zs, n')) : allG f (x :: xs) n = .ok (y :: zs, n') := by
  rw [allG_cons, h1]
  simp only
  rw [h2]
/-- What a part that could be written is. -/
theorem write_forms (Y : Beneath) (d n n' : Nat) (L : List PB) (b : List UInt8) (many : Bool) (ps : List PT) (s : List UInt8) (h : writeT Y (d + 1) n (.mk L b many ps) = .ok (s, n')) :
    n < 40 ∧ L.all rightB = true ∧ ((many = true ∧ b = [] ∧ ∃ b0 xs, maniesS L = .ok (some b0) ∧ allG (writeT Y d) ps (n + 1) = .ok (xs, n') ∧ s = Y.hw (setCT (Y.bnd xs) L) ++ piecesW (Y.bnd xs) xs)
      ∨ (many = false ∧ ps = [] ∧ maniesS L = .ok none ∧ n' = n + 1 ∧ s = Y.hw (stripH L ++ [(cteB, (howW Y b).1)]) ++ (howW Y b).2)) := by
  unfold writeT at h
  by_cases hn : 40 ≤ n
  · rw [if_pos hn] at h; cases h
  · rw [if_neg hn] at h
    cases hm : maniesS L with
    | error e => rw [hm] at h; cases h
    | ok o =>
      rw [hm] at h
      simp only at h
      by_cases hc : L.all rightB = true ∧ o.isSome = many ∧ (many = true → b = []) ∧ (many = false → ps = [])
      · rw [if_pos hc] at h
        obtain ⟨c1, c2, c3, c4⟩ := hc
        refine ⟨by omega, c1, ?_⟩
        cases ha : allG (writeT Y d) ps (n + 1) with
        | error e => rw [ha] at h; cases h
        | ok r =>
          rw [ha] at h
          simp only at h
          cases many with
          | true =>
            rw [if_pos rfl] at h
            simp only [Except.ok.injEq, Prod.mk.injEq] at h
            obtain ⟨b0, hb0⟩ := Option.isSome_iff_exists.1 c2
            exact .inl ⟨rfl, c3 rfl, b0, r.1, by rw [hb0], by rw [← h.2], h.1.symm⟩
          | false =>
            rw [if_neg (by simp)] at h
            simp only [Except.ok.injEq, Prod.mk.injEq] at h
            have hp := c4 rfl
            rw [hp] at ha
            have ha : Except.ok ([], n + 1) = Except.ok r := ha
            have hr : r = ([], n + 1) := by
              simp only [Except.ok.injEq] at ha
              exact ha.symm
            have ho : o = none := by
              cases o with
              | none => rfl
              | some x => cases c2
            exact .inr ⟨rfl, hp, by rw [ho], by rw [← h.2, hr], h.1.symm⟩
      · rw [if_neg hc] at h; cases h
theorem write_many (Y : Beneath) (d n n' : Nat) (L : List PB) (b0 : List UInt8) (ps : List PT) (xs : List (List UInt8)) (hn : n < 40) (hL : L.all rightB = true) (hm : maniesS L = .ok (some b0)) (ha : allG (writeT Y d) ps (n + 1) = .ok (xs, n')) :
    writeT Y (d + 1) n (.mk L [] true ps) = .ok (Y.hw (setCT (Y.bnd xs) L) ++ piecesW (Y.bnd xs) xs, n') := by
  unfold writeT
  rw [if_neg (by omega), hm]
  simp only
  rw [if_pos ⟨hL, rfl, fun _ => trivial, fun h => by cases h⟩, ha]
  simp only
  rw [if_pos trivial]
theorem write_one (Y : Beneath) (d n : Nat) (L : List PB) (b : List UInt8) (hn : n < 40) (hL : L.all rightB = true) (hm : maniesS L = .ok none) :
    writeT Y (d + 1) n (.mk L b false []) = .ok (Y.hw (stripH L ++ [(cteB, (howW Y b).1)]) ++ (howW Y b).2, n + 1) := by
  unfold writeT
  rw [if_neg (by omega), hm]
  simp only
  rw [if_pos ⟨hL, rfl, (fun h => by cases h), fun _ => trivial⟩]
  rfl
theorem flatten_le (xs : List (List UInt8)) (b : List UInt8) : xs.flatten.length ≤ (piecesW b xs).length := by
  have : xs.flatten.length ≤ (xs.flatMap (pieceW b)).length := by
    induction xs with
    | nil => simp
    | cons x xs ih =>
      rw [List.flatten_cons, List.flatMap_cons, List.length_append, List.length_append]
      have : x.length ≤ (pieceW b x).length := by unfold pieceW; simp only [List.length_append]; omega
      omega
  unfold piecesW
  simp only [List.length_append]
  omega
theorem part_back (Y : Beneath) : ∀ (d n : Nat) (p : PT) (s : List UInt8) (n' : Nat), writeT Y d n p = .ok (s, n') → s.length ≤ 20000 → ∃ r, readT Y d n s = .ok (r, n') ∧ Likes p r ∧ writeT Y d n r = .ok (s, n')
  | 0, n, p, s, n', h, _ => by cases h
  | d + 1, n, .mk L b many ps, s, n', h, hs => by
    obtain ⟨hn, hL, ⟨rfl, rfl, b0, xs, hm, ha, rfl⟩ | ⟨rfl, rfl, hm, rfl, rfl⟩⟩ := write_forms Y d n n' L b many ps s h
    · have hlen : xs.flatten.length ≤ 20000 := by
        have := flatten_le xs (Y.bnd xs)
        rw [List.length_append] at hs
        omega
      have hall : ∀ (ps : List PT) (xs : List (List UInt8)) (n n' : Nat), allG (writeT Y d) ps n = .ok (xs, n') → xs.flatten.length ≤ 20000 → ∃ rs, allG (readT Y d) xs n = .ok (rs, n') ∧ LikesL ps rs ∧ allG (writeT Y d) rs n = .ok (xs, n') := by
        intro ps
        induction ps with
        | nil =>
          intro xs n n' h _
          have h : Except.ok ([], n) = Except.ok (xs, n') := h
          simp only [Except.ok.injEq, Prod.mk.injEq] at h
          obtain ⟨rfl, rfl⟩ := h
          exact ⟨[], rfl, LikesL.nil, rfl⟩
        | cons p ps ih =>
          intro xs n n' h hx
          obtain ⟨y, k, zs, h1, h2, rfl⟩ := allG_ok _ _ _ _ _ _ h
          rw [List.flatten_cons, List.length_append] at hx
          obtain ⟨r, r1, r2, r3⟩ := part_back Y d n p y k h1 (by omega)
          obtain ⟨rs, i1, i2, i3⟩ := ih zs k n' h2 (by omega)
          exact ⟨r :: rs, allG_mk _ _ _ _ _ _ _ _ r1 i1, LikesL.cons _ _ _ _ r2 i2, allG_mk _ _ _ _ _ _ _ _ r3 i3⟩
      obtain ⟨rs, i1, i2, i3⟩ := hall ps xs (n + 1) n' ha hlen
      have hbd := Y.bok xs hlen
      have hread := manies_read L _ hm
      have hR := right_set (Y.bnd xs) hbd L hL hread
      have hM := manies_set (Y.bnd xs) b0 L hbd hm
      refine ⟨.mk (setCT (Y.bnd xs) L) [] true rs, ?_, ?_, ?_⟩
      · unfold readT
        rw [if_neg (by omega), Y.back _ _ hR]
        simp only
        rw [hM]
        simp only
        rw [between_back (Y.bnd xs) (okBd_no13 hbd) xs (Y.bap xs)]
        simp only
        rw [i1]
      · refine Likes.mk _ _ _ _ _ _ ?_ i2
        show blankCT L = blankCT (setCT (Y.bnd xs) L)
        rw [blank_set]
      · rw [write_many Y d n n' _ _ rs xs hn hR hM i3, set_again _ _ _ hbd hread]
    · have hR := right_how Y L b hL
      refine ⟨.mk (stripH L ++ [(cteB, (howW Y b).1)]) b false [], ?_, ?_, ?_⟩
      · unfold readT
        rw [if_neg (by omega), Y.back _ _ hR]
        simp only
        rw [manies_plain, hm]
        simp only
        rw [decode_how]
      · refine Likes.mk _ _ _ _ _ _ ?_ LikesL.nil
        show stripH L = stripH (stripH L ++ [(cteB, (howW Y b).1)])
        rw [strip_plain]
      · rw [write_one Y d n _ b hn hR (by rw [manies_plain]; exact hm), strip_plain]
/-- What is read can be written. -/
theorem read_writes (Y : Beneath) : ∀ (d n : Nat) (s : List UInt8) (p : PT) (n' : Nat), readT Y d n s = .ok (p, n') → ∃ t, writeT Y d n p = .ok (t, n')
  | 0, n, s, p, n', h => by cases h
  | d + 1, n, s, p, n', h => by
    unfold readT at h
    by_cases hn : 40 ≤ n
    · rw [if_pos hn] at h; cases h
    · rw [if_neg hn] at h
      cases hh : Y.hr s with
      | error e => rw [hh] at h; cases h
      | ok q =>
        rw [hh] at h
        simp only at h
        have hL := Y.good s q.1 q.2 hh
        cases hm : maniesS q.1 with
        | error e => rw [hm] at h; cases h
        | ok o =>
          rw [hm] at h
          cases o with
          | none =>
            simp only at h
            cases hd : decodeS Y q.1 q.2 with
            | error e => rw [hd] at h; cases h
            | ok b =>
              rw [hd] at h
              simp only [Except.ok.injEq, Prod.mk.injEq] at h
              obtain ⟨rfl, rfl⟩ := h
              exact ⟨_, write_one Y d n q.1 b (by omega) hL hm⟩
          | some b =>
            simp only at h
            cases hb : betweenS b q.2 with
            | none => rw [hb] at h; cases h
            | some xs =>
              rw [hb] at h
              simp only at h
              cases ha : allG (readT Y d) xs (n + 1) with
              | error e => rw [ha] at h; cases h
              | ok r =>
                rw [ha] at h
                simp only [Except.ok.injEq, Prod.mk.injEq] at h
                obtain ⟨rfl, rfl⟩ := h
                have hall : ∀ (xs : List (List UInt8)) (rs : List PT) (n n' : Nat), allG (readT Y d) xs n = .ok (rs, n') → ∃ ts, allG (writeT Y d) rs n = .ok (ts, n') := by
                  intro xs
                  induction xs with
                  | nil =>
                    intro rs n n' h
                    have h : Except.ok ([], n) = Except.ok (rs, n') := h
                    simp only [Except.ok.injEq, Prod.mk.injEq] at h
                    obtain ⟨rfl, rfl⟩ := h
                    exact ⟨[], rfl⟩
                  | cons x xs ih =>
                    intro rs n n' h
                    obtain ⟨y, k, zs, h1, h2, rfl⟩ := allG_ok _ _ _ _ _ _ h
                    obtain ⟨t, ht⟩ := read_writes Y d n x y k h1
                    obtain ⟨ts, hts⟩ := ih zs k n' h2
                    exact ⟨t :: ts, allG_mk _ _ _ _ _ _ _ _ ht hts⟩
                obtain ⟨ts, hts⟩ := hall xs r.1 (n + 1) r.2 ha
                exact ⟨_, write_many Y d n r.2 q.1 b r.1 ts (by omega) hL hm hts⟩

end Go.Proofs.YtnjjjkhhoaadfabGreatDoor
