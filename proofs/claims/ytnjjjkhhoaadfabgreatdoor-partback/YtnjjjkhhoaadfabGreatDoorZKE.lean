import Derived.Test.YtnjjjkhhoaadfabGreatDoorZF6
import Derived.Test.YtnjjjkhhoaadfabGreatDoorZ26
namespace Go.Proofs.YtnjjjkhhoaadfabGreatDoor
open Go.RowKit

/- What is read is small; what is written comes back. -/
theorem joinStep_len {q q' : List UInt8 × Nat × Nat} {c : UInt8} (h : Tx.joinStep q c = some q') : q'.1.length ≤ q.1.length + 1 := by
  unfold Tx.joinStep at h
  split at h
  · cases h
  · split at h
    · cases h; simp
    · cases h; simp
theorem joinAll_len (l : List UInt8) : ∀ q, Tx.joinAll l = some q → q.1.length ≤ l.length := by
  intro q
  have key : ∀ (n : Nat) (l : List UInt8), l.length = n → ∀ q, Tx.joinAll l = some q → q.1.length ≤ l.length := by
    intro n
    induction n with
    | zero =>
      intro l hl q h
      have : l = [] := List.eq_nil_of_length_eq_zero hl
      subst this
      cases h; simp
    | succ n ih =>
      intro l hl q h
      rcases List.eq_nil_or_concat l with rfl | ⟨m, c, rfl⟩
      · simp at hl
      · rw [List.concat_eq_append] at h hl ⊢
        rw [Tx.joinAll_snoc] at h
        obtain ⟨r, hr, hs⟩ := Option.bind_eq_some_iff.1 h
        have h1 := ih m (by simpa using hl) r hr
        have h2 := joinStep_len hs
        simp; omega
  exact key l.length l rfl q
theorem unpackS_len (l b : List UInt8) (h : Tx.unpackS l = some b) : b.length ≤ l.length := by
  unfold Tx.unpackS at h
  split at h
  · unfold Tx.joinedS at h
    obtain ⟨q, hq, h2⟩ := Option.bind_eq_some_iff.1 h
    have h1 := joinAll_len _ q hq
    have h3 := Tx.solidL_length l
    rw [List.length_take] at h1
    split at h2
    · cases h2; omega
    · cases h2
  · cases h
theorem lineOf_len (a : List UInt8) : (Tx.lineOf a).length ≤ a.length := by
  unfold Tx.lineOf
  have h1 : (Lib.trimRightS a [32, 9]).length ≤ a.length := by
    unfold Lib.trimRightS
    rw [List.length_reverse]
    have := xwhile_len (fun c => [32, 9].contains c) a.reverse
    rw [List.length_reverse] at this
    omega
  have h2 : (Lib.trimSuffix (Lib.trimRightS a [32, 9]) [61]).length ≤ (Lib.trimRightS a [32, 9]).length := by
    unfold Lib.trimSuffix
    split
    · rw [List.length_take]; omega
    · exact Nat.le_refl _
  omega
theorem uqLoop_len : ∀ (f : Nat) (s out o : List UInt8), Tx.uqLoop f s out = some o → o.length ≤ out.length + s.length
  | 0, s, out, o, h => by cases h
  | f + 1, s, out, o, h => by
    unfold Tx.uqLoop at h
    obtain ⟨b, hb, h2⟩ := Option.bind_eq_some_iff.1 h
    have h3 := Tx.unquotedS_len _ b hb
    have h4 := lineOf_len (Lib.cut s [13, 10]).1
    rcases cut_parts s [13, 10] with ⟨hc, hl⟩ | ⟨hc, h5, h6⟩
    · rw [hc] at h2
      simp only [if_true] at h2
      have h7 := uqLoop_len f _ _ o h2
      have h8 : (if Tx.goesOn (Lib.cut s [13, 10]).1 then ([] : List UInt8) else [13, 10]).length ≤ 2 := by split <;> simp
      rw [List.length_append, List.length_append] at h7
      simp only [List.length_cons, List.length_nil] at hl
      omega
    · rw [hc] at h2
      simp only [Bool.false_eq_true, if_false, Option.some.injEq] at h2
      rw [← h2, List.length_append]
      rw [h5] at h4 h3
      omega
theorem unquoteS_len (l b : List UInt8) (h : Tx.unquoteS l = some b) : b.length ≤ l.length := by
  have := uqLoop_len _ l [] b h
  simpa using this
theorem decodeU_len (L : List PB) (s b : List UInt8) (h : decodeU L s = .ok b) : b.length ≤ s.length := by
  unfold decodeU at h
  have h1 : ∀ o, someOr 3 o = .ok b → o = some b := by
    intro o ho
    cases o with
    | none => cases ho
    | some x => cases ho; rfl
  repeat' split at h
  all_goals first
    | (cases h; exact Nat.le_refl _)
    | (exact unpackS_len _ _ (h1 _ h))
    | (exact unquoteS_len _ _ (h1 _ h))
    | (cases h; done)
theorem hsz_tot (M : List FB) : hsz (M.map fun f => (f.1, trimS f.2)) ≤ totB M + 2 * M.length := by
  induction M with
  | nil => simp [hsz, totB]
  | cons f M ih =>
    have e : totB (f :: M) = f.1.length + f.2.length + totB M := by simp [totB]
    rw [List.map_cons, hsz_cons, e, List.length_cons]
    have := trimS_len f.2
    simp only
    omega
theorem headR_hsz (s : List UInt8) (h : List PB × List UInt8) (e : headR s = .ok h) : hsz h.1 ≤ 3 * s.length := by
  unfold headR at e
  have hf := hl_flat _ s (Nat.le_refl _)
  have hn := count_flatB _ (hl_some _ s (Nat.le_refl _))
  cases hr : refRun (hl s).1 0 [] with
  | error n => rw [hr] at e; cases e
  | ok M =>
    rw [hr] at e
    have ht := refRun_tot _ _ _ _ hr
    rw [show totB [] = 0 from rfl, List.length_nil] at ht
    simp only at e
    split at e
    · obtain rfl := (Except.ok.inj e).symm
      have := hsz_tot M
      simp only
      omega
    · cases e
theorem all_count {f : Nat → List UInt8 → Except Nat (PT × Nat)} (hf : ∀ n s q, f n s = .ok q → n + 1 ≤ q.2) : ∀ (xs : List (List UInt8)) (n : Nat) (r : List PT × Nat), allG f xs n = .ok r → n + r.1.length ≤ r.2
  | [], n, r, h => by cases h; simp
  | x :: xs, n, r, h => by
    obtain ⟨y, k, zs, h1, h2, h3⟩ := allG_ok _ _ _ _ _ _ (show allG f (x :: xs) n = .ok (r.1, r.2) from h)
    have a := hf n x (y, k) h1
    have b := all_count hf xs k (zs, r.2) h2
    rw [h3, List.length_cons]
    simp only at a b
    omega
theorem readU_more : ∀ (d n : Nat) (s : List UInt8) (q : PT × Nat), readU d n s = .ok q → n + 1 ≤ q.2
  | 0, n, s, q, h => by cases h
  | d + 1, n, s, q, h => by
    unfold readU at h
    split at h
    · cases h
    · cases h1 : headR s with
      | error c => rw [h1] at h; cases h
      | ok hh =>
        rw [h1] at h
        simp only at h
        cases h2 : maniesS hh.1 with
        | error c => rw [h2] at h; cases h
        | ok o =>
          rw [h2] at h
          cases o with
          | none =>
            simp only at h
            cases h3 : decodeU hh.1 hh.2 with
            | error c => rw [h3] at h; cases h
            | ok b => rw [h3] at h; cases h; exact Nat.le_refl _
          | some b =>
            simp only at h
            cases h3 : betweenS b hh.2 with
            | none => rw [h3] at h; cases h
            | some xs =>
              rw [h3] at h
              simp only at h
              cases h4 : allG (readU d) xs (n + 1) with
              | error c => rw [h4] at h; cases h
              | ok r =>
                rw [h4] at h
                cases h
                have := all_count (readU_more d) xs (n + 1) r h4
                simp only
                omega
theorem readU_sm : ∀ (d n : Nat) (s : List UInt8) (q : PT × Nat), readU d n s = .ok q → n ≤ 40 → s.length ≤ 2500 → Sm1 d q.1
  | 0, n, s, q, h, _, _ => by cases h
  | d + 1, n, s, q, h, hn, hs => by
    have hcnt := readU_cnt (d + 1) n s q h hn
    unfold readU at h
    split at h
    · cases h
    · cases h1 : headR s with
      | error c => rw [h1] at h; cases h
      | ok hh =>
        rw [h1] at h
        simp only at h
        obtain ⟨l1, l2, l3⟩ := headR_len s hh h1
        have l4 := headR_hsz s hh h1
        have hhd : hh.1.length ≤ 2990 ∧ (∀ f ∈ hh.1, f.1.length ≤ 2500 ∧ f.2.length ≤ 2500) ∧ hsz hh.1 ≤ 9000 := ⟨by omega, fun f hf => by have := l2 f hf; omega, by omega⟩
        cases h2 : maniesS hh.1 with
        | error c => rw [h2] at h; cases h
        | ok o =>
          rw [h2] at h
          cases o with
          | none =>
            simp only at h
            cases h3 : decodeU hh.1 hh.2 with
            | error c => rw [h3] at h; cases h
            | ok b =>
              rw [h3] at h
              cases h
              have := decodeU_len _ _ _ h3
              exact ⟨hhd, by omega, by simp, fun p hp => by cases hp⟩
          | some b =>
            simp only at h
            cases h3 : betweenS b hh.2 with
            | none => rw [h3] at h; cases h
            | some xs =>
              rw [h3] at h
              simp only at h
              have hx := between_len _ _ _ h3
              cases h4 : allG (readU d) xs (n + 1) with
              | error c => rw [h4] at h; cases h
              | ok r =>
                rw [h4] at h
                cases h
                have hc := all_count (readU_more d) xs (n + 1) r h4
                have hall : ∀ (xs : List (List UInt8)) (n : Nat) (r : List PT × Nat), (∀ x ∈ xs, x.length ≤ 2500) → allG (readU d) xs n = .ok r → r.2 ≤ 40 → n ≤ 40 → ∀ p ∈ r.1, Sm1 d p := by
                  intro xs
                  induction xs with
                  | nil => intro n r _ h _ _ p hp; cases h; cases hp
                  | cons x xs ihx =>
                    intro n r hl h hr hn p hp
                    obtain ⟨y, k, zs, h1, h2, h3⟩ := allG_ok _ _ _ _ _ _ (show allG (readU d) (x :: xs) n = .ok (r.1, r.2) from h)
                    have a := readU_cnt d n x (y, k) h1 hn
                    rw [h3] at hp
                    rcases List.mem_cons.1 hp with rfl | hp
                    · exact readU_sm d n x (p, k) h1 hn (hl x (by simp))
                    · exact ihx k (zs, r.2) (fun z hz => hl z (by simp [hz])) h2 hr a p hp
                simp only at hcnt
                exact ⟨hhd, by simp, by omega, hall xs (n + 1) r (fun x hx' => by have := hx x hx'; omega) h4 hcnt (by omega)⟩
theorem same_small {O O' : Except Nat (List UInt8 × Nat)} {t : List UInt8} {n : Nat} (h : SameO O O') (ho : O' = .ok (t, n)) (ht : t.length ≤ 20000) : O = .ok (t, n) := by
  subst ho
  cases O with
  | error c => exact (h : False).elim
  | ok q =>
    obtain ⟨h1, h2⟩ := (h : q.2 = n ∧ SameW q.1 t)
    rcases h2 with h2 | ⟨_, h2⟩
    · obtain ⟨a, b⟩ := q
      simp only at h1 h2
      rw [h1, h2]
    · simp only at h2; omega
theorem same_small' {O O' : Except Nat (List UInt8 × Nat)} {t : List UInt8} {n : Nat} (h : SameO O O') (ho : O = .ok (t, n)) (ht : t.length ≤ 20000) : O' = .ok (t, n) := by
  subst ho
  cases O' with
  | error c => exact (h : False).elim
  | ok q =>
    obtain ⟨h1, h2⟩ := (h : n = q.2 ∧ SameW t q.1)
    rcases h2 with h2 | ⟨h2, _⟩
    · obtain ⟨a, b⟩ := q
      simp only at h1 h2
      rw [h1, h2]
    · simp only at h2; omega
/-- What is written comes back, and is written so again. -/
theorem back_all (D : Nat) (p : PT) (t : List UInt8) (h : topW (writeC 4 0 p) = .ok t) (hs : Sm1 D p) : ∃ r, readTop t = .ok r ∧ t.length ≤ 20000 ∧ Likes p r ∧ RgT 4 p ∧ RgT 4 r ∧ SmT 4 r ∧ topW (writeC 4 0 r) = .ok t := by
  unfold topW at h
  cases hw : writeC 4 0 p with
  | error c => rw [hw] at h; cases h
  | ok q =>
    rw [hw] at h
    simp only at h
    split at h
    · cases h
    · rename_i hl
      obtain ⟨t', n⟩ := q
      simp only at hl h
      obtain rfl : t' = t := Except.ok.inj h
      have hT : writeT Y0 4 0 p = .ok (t', n) := by
        rw [← writeB_T]
        exact same_small' (same_write 4 0 p) hw (by omega)
      obtain ⟨r, h1, h2, h3, h4⟩ := part_back2 Y0 4 0 p t' n hT (by omega)
      have hR := write_right Y0 4 0 r t' n h3
      refine ⟨r, ?_, by omega, h2, write_right Y0 4 0 p t' n hT, hR, Sm1.back 4 D p r hs h4 hR, ?_⟩
      · unfold readTop
        rw [if_neg hl, readU_T, h1]
      · have : writeC 4 0 r = .ok (t', n) := by
          refine same_small (same_write 4 0 r) ?_ (by omega)
          rw [writeB_T]; exact h3
        unfold topW
        rw [this]
        simp only
        rw [if_neg hl]
/-- What is read can be written, or is too much. -/
theorem read_write (s : List UInt8) (q : PT) (h : readTop s = .ok q) : (∃ t, topW (writeC 4 0 q) = .ok t) ∨ topW (writeC 4 0 q) = .error 4 := by
  unfold readTop at h
  split at h
  · cases h
  · cases hr : readU 4 0 s with
    | error c => rw [hr] at h; cases h
    | ok r =>
      rw [hr] at h
      cases h
      rw [readU_T] at hr
      obtain ⟨t, ht⟩ := read_writes Y0 4 0 s r.1 r.2 hr
      rw [← writeB_T] at ht
      have hS := same_write 4 0 r.1
      rw [ht] at hS
      cases hw : writeC 4 0 r.1 with
      | error c =>
        have hw' : writeG freeU 4 0 r.1 = .error c := hw
        rw [hw'] at hS; exact (hS : False).elim
      | ok x =>
        unfold topW
        simp only
        by_cases hl : 20000 < x.1.length
        · rw [if_pos hl]; exact .inr rfl
        · rw [if_neg hl]; exact .inl ⟨_, rfl⟩
theorem top_sm (s : List UInt8) (q : PT) (h : readTop s = .ok q) (hs : s.length ≤ 2500) : Sm1 4 q := by
  unfold readTop at h
  split at h
  · cases h
  · cases hr : readU 4 0 s with
    | error c => rw [hr] at h; cases h
    | ok r =>
      rw [hr] at h
      cases h
      exact readU_sm 4 0 s r hr (by omega) hs

end Go.Proofs.YtnjjjkhhoaadfabGreatDoor
