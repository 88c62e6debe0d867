import Derived.Test.YtkgpmahlkglaaaaGreatDoorW11
namespace Go.Proofs.YtkgpmahlkglaaaaGreatDoor
open Go.RowKit

/-- A line's own part, and whether it goes on. -/
def lineOf (a : List UInt8) : List UInt8 := Lib.trimSuffix (Lib.trimRightS a [32, 9]) [61]
def goesOn (a : List UInt8) : Bool := Lib.hasSuffix (Lib.trimRightS a [32, 9]) [61]

/-- The bytes behind what is there, line by line. -/
def uqLoop : Nat → List UInt8 → List UInt8 → Option (List UInt8)
  | 0, _, _ => none
  | f + 1, s, out =>
    (unquotedS (lineOf (Lib.cut s [13, 10]).1)).bind fun b =>
      if (Lib.cut s [13, 10]).2.2 then uqLoop f (Lib.cut s [13, 10]).2.1 (out ++ b ++ if goesOn (Lib.cut s [13, 10]).1 then [] else [13, 10]) else some (out ++ b)

def unquoteS (s : List UInt8) : Option (List UInt8) := uqLoop (s.length + 1) s []

theorem uqLoop_stop (f : Nat) (s out a b : List UInt8) (m : Bool) (hc : Lib.cut s [13, 10] = (a, b, m)) (h : unquotedS (lineOf a) = none) : uqLoop (f + 1) s out = none := by
  unfold uqLoop; rw [hc]; show (unquotedS (lineOf a)).bind _ = _; rw [h]; rfl
theorem uqLoop_end (f : Nat) (s out a b q : List UInt8) (hc : Lib.cut s [13, 10] = (a, b, false)) (h : unquotedS (lineOf a) = some q) : uqLoop (f + 1) s out = some (out ++ q) := by
  unfold uqLoop; rw [hc]; show (unquotedS (lineOf a)).bind _ = _; rw [h]; rfl
theorem uqLoop_on (f : Nat) (s out a b q : List UInt8) (hc : Lib.cut s [13, 10] = (a, b, true)) (h : unquotedS (lineOf a) = some q) : uqLoop (f + 1) s out = uqLoop f b (out ++ q ++ if goesOn a then [] else [13, 10]) := by
  rw [uqLoop, hc]; show (unquotedS (lineOf a)).bind _ = _; rw [h]; rfl

section
variable {ops : Array Oper} {rest : List Oper} {o : Oper} {a : Act} {Q : Exit → Act → World → Prop}
/-- 'append(v, u...)', u a slice that is owned, nil or not. -/
theorem wp_appO (W w0 : World) (hgd : o.guard = none) (s x : Operand) (ho : o.op = .call { callee := .builtin .append, args := #[s, x], argTypes := #[32, 32] })
    (B : Nat) (v : Value) (l : List UInt8) (hs : a.eval s = v) (hown : Own W B v l) (B' : Nat) (u : Value) (n : List UInt8) (hx : a.eval x = u) (hu : Own W B' u n)
    (hl : l.length + n.length ≤ 10000000) (hB : B ≤ W.heap.size) (hb : Below B w0 W)
    (h : ∀ v' w', Own w' B v' (l ++ n) → Below B w0 w' → wpList Tryz.prog ops Q rest (a.put o.dst v') w') : wpList Tryz.prog ops Q (o :: rest) a W := by
  rcases hu.shape with ⟨rfl, rfl⟩ | ⟨g, cap, rfl, _⟩
  · obtain ⟨i0, hi, hz0, hz1, hz2⟩ := info_parts Tryz.infoByte
    refine wpList_plain hgd fun K hK => ?_
    have hr := run_append_owned_none (P := Tryz.prog) W B 32 o.type 5 i0 1 Tryz.underlying32 hi v l.length (cs l) hown
    unfold Oper.wp execOp
    simp only [ho, resolve, invoke, builtin, Sem.run_bind, Sem.run_pure, Result.andThen_ok, List.map_toArray, List.map_cons, List.map_nil, hs, hx, hr]
    exact hK _ _ (h v W (by rw [List.append_nil]; exact hown) hb)
  · exact wp_app W w0 hgd s x ho B v l hs hown ⟨g, 0, none⟩ n.length cap n hx rfl hu.cells hl hB hb fun v' w' h1 h2 _ => h v' w' h1 h2
end

theorem uqStep_len {q r : List UInt8 × Nat × Nat} {c : UInt8} (h : uqStep q c = some r) : r.1.length ≤ q.1.length + 1 := by
  unfold uqStep at h
  split at h
  · split at h
    · cases h
    · cases h; simp
  · split at h
    · split at h
      · cases h
      · cases h; simp
    · split at h
      · cases h; simp
      · split at h
        · cases h; simp
        · cases h

theorem uqFold_len (l : List UInt8) (q r : List UInt8 × Nat × Nat) (h : l.foldl (fun q c => q.bind fun q => uqStep q c) (some q) = some r) : r.1.length ≤ q.1.length + l.length := by
  induction l generalizing q with
  | nil => cases h; simp
  | cons c l ih =>
    rw [List.foldl_cons] at h
    cases hs : uqStep q c with
    | none =>
      have h' : l.foldl (fun q c => q.bind fun q => uqStep q c) none = some r := by rw [← hs]; exact h
      have : l.foldl (fun q c => q.bind fun q => uqStep q c) none = none := by
        clear ih h h'
        induction l with
        | nil => rfl
        | cons c l ih => exact ih
      rw [this] at h'
      cases h'
    | some q' =>
      have h' : l.foldl (fun q c => q.bind fun q => uqStep q c) (some q') = some r := by rw [← hs]; exact h
      have h1 := ih q' h'
      have h2 := uqStep_len hs
      simp
      omega

theorem unquotedS_len (l o : List UInt8) (h : unquotedS l = some o) : o.length ≤ l.length := by
  unfold unquotedS at h
  cases hu : uqAll l with
  | none => rw [hu] at h; cases h
  | some q =>
    rw [hu] at h
    have : q.1 = o := by
      simp only [Option.bind_some] at h
      split at h
      · cases h; rfl
      · cases h
    rw [← this]
    simpa using uqFold_len l ([], 0, 0) q hu

def strSize : Value → Nat
  | .string s => s.size
  | _ => 0
def boolNat : Value → Nat
  | .bool true => 1
  | _ => 0

set_option maxHeartbeats 1600000 in
theorem unquote_any (s : ByteArray) (w : World) (hl : s.size ≤ 20000) (hm : Max w) :
    Calls Tryz.prog 8 #[.string s] w fun e w' => e = .returned (unV (unquoteS s.data.toList)) ∧ Below w.heap.size w w' := by
  have hw0 := hm.1
  go_enter Tryz.func8, Tryz.ntmps8
  go_wp2
  go_loopw [0, 4, 5] (fun x v m wr => ∃ (t : ByteArray) (o : List UInt8), x = .string t ∧ Own wr w.heap.size v o ∧ Below w.heap.size w wr ∧ ((m = .bool true ∧ o.length + t.size ≤ s.size ∧ ∃ f, t.size < f ∧ Hid (uqLoop f t.data.toList o = unquoteS s.data.toList)) ∨ (m = .bool false ∧ Hid (unquoteS s.data.toList = some o)))) (fun x _ m _ => strSize x + boolNat m)
  case atStart => exact ⟨s, [], rfl, Own.nil _ _, Below.refl _ _, .inl ⟨rfl, by simp, s.size + 1, by omega, by show _ = _; unfold unquoteS; rw [size_list]⟩⟩
  case round =>
    obtain ⟨t, o, rfl, hown, hb, hM⟩ := hrel
    rcases hM with ⟨rfl, hlen, f, hf, HT⟩ | ⟨rfl, HT⟩
    · go_wp2_with fail
      refine (cut_any t _ (by omega) (hm.below hb hw0)).mono ?_
      rintro e w1 ⟨a, b, m, rfl, hcut, hsizes, hb1⟩
      have HC := Hid.mk hcut
      clear hcut
      go_wp2_with fail
      refine (trim_any a _ (by omega)).mono ?_
      rintro e w2 ⟨r, rfl, hr, hrs, hb2⟩
      have HR := Hid.mk hr
      clear hr
      go_wp2_with fail
      refine (cutSuffix_any r _ (by omega)).mono ?_
      rintro e w3 ⟨z, g, rfl, hz, hg, hzs, rfl⟩
      have HZ := Hid.mk hz
      have HG := Hid.mk hg
      clear hz hg
      go_wp2_with fail
      refine (unquoted_any z _ (by omega)).mono ?_
      rintro e w4 ⟨v4, rfl, ho4, hb4⟩
      have hb5 : Below w.heap.size w w4 := hb.trans ((hb1.trans ((hb2.mono hb1.size).trans (hb4.mono (Nat.le_trans hb1.size hb2.size)))).mono hb.size)
      have hown5 : Own w4 w.heap.size u4 o := ((hown.below hb1 (Nat.le_refl _)).below hb2 (Nat.le_refl _)).below hb4 (Nat.le_refl _)
      have hL : Hid (z.data.toList = lineOf a.data.toList) := by show _ = _; rw [HZ.out, HR.out]; rfl
      have hGo : Hid (g = goesOn a.data.toList) := by show _ = _; rw [HG.out, HR.out]; rfl
      have hzl := size_list z
      have HZL := Hid.mk hzl
      clear hzl
      obtain ⟨f', rfl⟩ : ∃ f', f = f' + 1 := ⟨f - 1, by omega⟩
      cases hq : unquotedS z.data.toList with
      | none =>
        have HN : Hid (unquoteS s.data.toList = none) := by
          show _ = _
          rw [← HT.out]
          exact uqLoop_stop _ _ _ _ _ _ HC.out (by rw [← hL.out]; exact hq)
        have HQ := Hid.mk hq
        clear hq ho4 hsizes
        go_wp2
        go_ret2
        exact ⟨by rw [HN.out]; rfl, hb5⟩
      | some q =>
        have hoq := ho4 q hq
        have hql := unquotedS_len _ _ hq
        rw [HZL.out] at hql
        have HQ := Hid.mk hq
        clear hq ho4
        rcases hsizes with ⟨rfl, hs1⟩ | ⟨rfl, hs1, hs2⟩
        · have HE : Hid (uqLoop f' b.data.toList (o ++ q ++ if goesOn a.data.toList then [] else [13, 10]) = unquoteS s.data.toList) := by
            show _ = _
            rw [← HT.out]
            exact (uqLoop_on _ _ _ _ _ _ HC.out (by rw [← hL.out]; exact HQ.out)).symm
          cases g
          · have HE' : Hid (uqLoop f' b.data.toList (o ++ q ++ [13, 10]) = unquoteS s.data.toList) := by
              show _ = _
              rw [← HE.out, ← hGo.out]; rfl
            go_wp2_with (first | (at_builtin; refine wp_appO _ w rfl (.tmp 31) (.tmp 32) rfl w.heap.size _ o rfl hown5 _ _ q rfl hoq (by omega) hb5.size hb5 ?_; intro v6 w6 hown6 hb6) | (at_builtin; refine wp_appS _ w rfl (.tmp 39) _ rfl w.heap.size _ _ rfl hown6 ⟨#[13, 10]⟩ rfl (by simp [ByteArray.size]; omega) hb6.size hb6 ?_; intro v7 w7 hown7 hb7))
            go_roundw
            case rel => exact ⟨b, _, rfl, hown7, hb7, .inl ⟨rfl, by simp; omega, f', by omega, HE'⟩⟩
            case measure => simp [strSize, boolNat]; omega
          · have HE' : Hid (uqLoop f' b.data.toList (o ++ q) = unquoteS s.data.toList) := by
              show _ = _
              rw [← HE.out, ← hGo.out]; simp
            go_wp2_with (first | (at_builtin; refine wp_appO _ w rfl (.tmp 31) (.tmp 32) rfl w.heap.size _ o rfl hown5 _ _ q rfl hoq (by omega) hb5.size hb5 ?_; intro v6 w6 hown6 hb6))
            go_roundw
            case rel => exact ⟨b, _, rfl, hown6, hb6, .inl ⟨rfl, by simp; omega, f', by omega, HE'⟩⟩
            case measure => simp [strSize, boolNat]; omega
        · have HE : Hid (unquoteS s.data.toList = some (o ++ q)) := by
            show _ = _
            rw [← HT.out]
            exact uqLoop_end _ _ _ _ _ _ HC.out (by rw [← hL.out]; exact HQ.out)
          go_wp2_with (first | (at_builtin; refine wp_appO _ w rfl (.tmp 31) (.tmp 32) rfl w.heap.size _ o rfl hown5 _ _ q rfl hoq (by omega) hb5.size hb5 ?_; intro v6 w6 hown6 hb6))
          go_roundw
          case rel => exact ⟨b, _, rfl, hown6, hb6, .inr ⟨rfl, HE⟩⟩
          case measure => simp [strSize, boolNat]; omega
    · have hcv := hown.string
      go_wp2
      go_ret2
      exact ⟨by rw [HT.out]; rfl, hb⟩

end Go.Proofs.YtkgpmahlkglaaaaGreatDoor
