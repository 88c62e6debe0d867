import Derived.Test.YtiecpbhikkcmjaaDoorJ4
import Derived.Test.YtiecpbhikkcmjaaDoorJ3
import Derived.Test.YtiecpbhikkcmjaaDoorJQ
import Derived.OwnWalk
namespace Go.Proofs.YtiecpbhikkcmjaaDoor
open Go.RowKit

theorem byte_while (l : List UInt8) (c : UInt8) : (Lib.indexByte l c = -1 ∧ l.dropWhile (· != c) = [] ∧ l.takeWhile (· != c) = l) ∨ (Lib.indexByte l c = ((l.takeWhile (· != c)).length : Int) ∧ ∃ r, l.dropWhile (· != c) = c :: r) := by
  induction l with
  | nil => exact .inl ⟨rfl, rfl, rfl⟩
  | cons b l ih =>
    by_cases hb : b = c
    · subst hb
      refine .inr ⟨?_, l, ?_⟩
      · simp [Lib.indexByte]
      · simp
    · have h1 : (b == c) = false := by simpa using hb
      have h2 : (b != c) = true := by simpa using hb
      have e1 : (b :: l).takeWhile (· != c) = b :: l.takeWhile (· != c) := by rw [List.takeWhile_cons, h2]; rfl
      have e2 : (b :: l).dropWhile (· != c) = l.dropWhile (· != c) := by rw [List.dropWhile_cons, h2]; rfl
      rw [e1, e2, Lib.indexByte, h1]
      rcases ih with ⟨i1, i2, i3⟩ | ⟨i1, i2⟩
      · exact .inl ⟨by rw [i1]; rfl, i2, by rw [i3]⟩
      · refine .inr ⟨?_, i2⟩
        rw [i1]
        have : (((l.takeWhile (· != c)).length : Int) == -1) = false := by rw [beq_eq_false_iff_ne]; omega
        rw [this, List.length_cons]
        simp
theorem cut_while (l : List UInt8) (c : UInt8) : Lib.cut l [c] = (l.takeWhile (· != c), (l.dropWhile (· != c)).drop 1, !(l.dropWhile (· != c)).isEmpty) := by
  unfold Lib.cut
  rw [index_one]
  have e := List.takeWhile_append_dropWhile (p := (· != c)) (l := l)
  rcases byte_while l c with ⟨h1, h2, h3⟩ | ⟨h1, r, h2⟩
  · rw [h1, if_neg (by omega), h2, h3]; rfl
  · rw [h1, if_pos (by omega), h2]
    rw [h2] at e
    simp only [Int.toNat_natCast, List.length_cons, List.length_nil, List.isEmpty_cons, Bool.not_false, List.drop_succ_cons, List.drop_zero]
    congr 1
    · conv => lhs; rhs; rw [← e]
      exact List.take_left
    · congr 1
      conv => lhs; rhs; rw [← e]
      rw [← List.drop_drop, List.drop_left]
      rfl

set_option maxHeartbeats 800000 in
set_option maxRecDepth 100000 in
theorem kmain_any (s : ByteArray) (w : World) (hs : s.size ≤ 100000) (hm : Max w) :
    Calls Tryd.prog 82 #[.string s] w fun e w' => e = .returned (.bool (isMainS s.data.toList)) ∧ Below w.heap.size w w' := by
  obtain ⟨R, HR⟩ : ∃ R, Box (R = isMainS s.data.toList) := ⟨_, ⟨rfl⟩⟩
  rw [← HR.out]
  go_enter Tryd.func82, Tryd.ntmps82
  go_wp2_with fail
  refine (cut_any s ⟨#[47]⟩ _ hs hm).mono ?_
  rintro e w1 ⟨a, b, f, rfl, hc, _, _, hb1⟩
  have hc' := cut_while s.data.toList 47
  rw [show (⟨#[47]⟩ : ByteArray).data.toList = [47] from rfl, hc'] at hc
  simp only [Prod.mk.injEq] at hc
  obtain ⟨q1, q2, q3⟩ := hc
  have HE : Box (R = (tokS a.data.toList && (!f || tokS b.data.toList))) := ⟨by
    rw [HR.out, isMainS, q1, q2, ← q3, Bool.not_not]⟩
  clear q1 q2 q3 hc' HR hm
  have hsz := hb1.size
  go_wp2_with fail
  refine (kisToken_any a _).mono ?_
  rintro e w2 ⟨rfl, hb2⟩
  have b2 := hb1.trans (hb2.mono hsz)
  cases h1 : tokS a.data.toList
  · have HE' : Box (R = false) := ⟨by rw [HE.out, h1]; rfl⟩
    clear HE
    go_wp2
    go_ret
    exact ⟨ret_bool (by rw [HE'.out]), b2⟩
  · cases f
    · have HE' : Box (R = true) := ⟨by rw [HE.out, h1]; rfl⟩
      clear HE
      go_wp2
      go_ret
      exact ⟨ret_bool (by rw [HE'.out]), b2⟩
    · have HE' : Box (R = tokS b.data.toList) := ⟨by rw [HE.out, h1]; rfl⟩
      clear HE
      go_wp2_with fail
      refine (kisToken_any b _).mono ?_
      rintro e w3 ⟨rfl, hb3⟩
      go_wp2
      go_ret
      exact ⟨ret_bool (by rw [HE'.out]), b2.trans (hb3.mono b2.size)⟩

/- What stands in quotes, by the bytes that stand for themselves. -/
theorem quoted_plain (x y : List UInt8) (h : ∀ c ∈ x, plainC c = true) : quotedS (x ++ y) = (quotedS y).map fun q => (x ++ q.1, q.2) := by
  induction x with
  | nil => simp
  | cons c x ih =>
    have hc := h c List.mem_cons_self
    unfold plainC at hc
    simp only [Bool.and_eq_true, bne_iff_ne, ne_eq] at hc
    rw [List.cons_append, quoted_on c _ hc.1.2 hc.2, hc.1.1, ih fun d hd => h d (List.mem_cons_of_mem _ hd)]
    cases quotedS y with
    | none => rfl
    | some q => rfl

def UPost (Q : Option (List UInt8 × List UInt8)) (e : Ending) : Prop :=
  match Q with
  | some q => ∃ t u : ByteArray, e = .returned (.tuple #[.string t, .string u, .bool true]) ∧ t.data.toList = q.1 ∧ u.data.toList = q.2
  | none => ∃ t u : ByteArray, e = .returned (.tuple #[.string t, .string u, .bool false])
theorem UPost_some {e : Ending} (o r : List UInt8) (Q : Option (List UInt8 × List UInt8)) (hQ : Q = some (o, r)) (t u : ByteArray) (he : e = .returned (.tuple #[.string t, .string u, .bool true])) (ht : t.data.toList = o) (hu : u.data.toList = r) : UPost Q e := by
  subst hQ
  exact ⟨t, u, he, ht, hu⟩
theorem UPost_none {e : Ending} (Q : Option (List UInt8 × List UInt8)) (hQ : Q = none) (t u : ByteArray) (he : e = .returned (.tuple #[.string t, .string u, .bool false])) : UPost Q e := by
  subst hQ
  exact ⟨t, u, he⟩

set_option maxHeartbeats 3200000 in
set_option maxRecDepth 100000 in
theorem unquoted_any (s : ByteArray) (w : World) (hs : s.size ≤ 1000000) :
    Calls Tryd.prog 133 #[.string s] w fun e w' => UPost (quotedS s.data.toList) e ∧ Below w.heap.size w w' := by
  obtain ⟨Q, HQ⟩ : ∃ Q, Box (Q = quotedS s.data.toList) := ⟨_, ⟨rfl⟩⟩
  rw [← HQ.out]
  go_enter Tryd.func133, Tryd.ntmps133
  go_wp2
  go_loopg [0, 5] s.size (fun gf x v wx => ∃ (t : ByteArray) (o : List UInt8), x = .string t ∧ Own wx w.heap.size v o ∧ Box (Q = (quotedS t.data.toList).map fun q => (o ++ q.1, q.2)) ∧ Below w.heap.size w wx ∧ t.size ≤ gf ∧ t.size + o.length ≤ s.size)
  case atStart => exact ⟨s, [], rfl, Own.nil _ _, ⟨by rw [HQ.out]; simp⟩, Below.refl _ _, Nat.le_refl _, Nat.le_refl (s.size + 0)⟩
  case round =>
    obtain ⟨t, o, rfl, hown, HT, hb, hgf, hso⟩ := hrel
    have hsz := hb.size
    have hw := while_take (p := plainC) t
    have hn := while_len (p := plainC) t
    have hdr : t.data.toList.takeWhile plainC ++ t.data.toList.dropWhile plainC = t.data.toList := List.takeWhile_append_dropWhile
    have hq := quoted_plain (t.data.toList.takeWhile plainC) (t.data.toList.dropWhile plainC) (takeWhile_all t.data.toList)
    rw [hdr] at hq
    obtain ⟨z, HZ⟩ : ∃ z : Int, Box (z = if (t.data.toList.takeWhile (fineC 32 [34, 92])).length = t.size then -1 else ((t.data.toList.takeWhile (fineC 32 [34, 92])).length : Int)) := ⟨_, ⟨rfl⟩⟩
    have hz := HZ.out
    rw [fine_plain] at hz
    obtain ⟨X, HX⟩ : ∃ X, Box (X = t.data.toList.takeWhile plainC) := ⟨_, ⟨rfl⟩⟩
    obtain ⟨Y, HY⟩ : ∃ Y, Box (Y = t.data.toList.dropWhile plainC) := ⟨_, ⟨rfl⟩⟩
    have hyd : Y.head?.all (fun c => !plainC c) = true := by
      rw [HY.out]
      generalize t.data.toList = l
      induction l with
      | nil => rfl
      | cons c l ih =>
        by_cases hc : plainC c = true
        · simpa [hc] using ih
        · simp [hc]
    rw [← HX.out, ← HY.out] at hw hq hdr
    rw [← HX.out] at hn hz
    have hlen : X.length + Y.length = t.size := by rw [← size_list t, ← hdr, List.length_append]
    obtain ⟨n, hnn⟩ : ∃ n, n = X.length := ⟨_, rfl⟩
    rw [← hnn] at hw hn hz hlen
    clear HX HY
    by_cases hnt : n = t.size
    · -- nothing ends it
      have hz' : z = -1 := by rw [hz, if_pos hnt]
      rw [hz'] at HZ
      have hY : Y = [] := List.eq_nil_of_length_eq_zero (by omega)
      have HN : Box (Q = none) := ⟨by rw [HT.out, hq, hY, quoted_nil]; rfl⟩
      clear HT HQ hw hn hz hdr hq hyd hlen hnt hz' hY hnn
      go_wp2_with fail
      refine (wrong_any 32 _ _).mono ?_
      rintro e w1 ⟨rfl, rfl⟩
      go_wp2_with fail
      refine (find_any 32 ⟨#[34, 92]⟩ t wr _ HZ.out).mono ?_
      rintro e w2 ⟨rfl, hb2⟩
      go_wp2
      go_ret3
      exact ⟨UPost_none Q HN.out _ _ rfl, hb.trans (hb2.mono hsz)⟩
    · have hz' : z = (n : Int) := by rw [hz, if_neg hnt]
      rw [hz'] at HZ
      have hlt : n < t.size := by omega
      obtain ⟨c, Y', hY⟩ : ∃ c Y', Y = c :: Y' := by
        cases Y with
        | nil => simp at hlen; omega
        | cons c Y' => exact ⟨c, Y', rfl⟩
      have htl : t.data.toList = X ++ c :: Y' := by rw [← hdr, hY]
      have hgetn : t[n] = c := by
        have h1 := getL t n hlt
        have e0 : n - X.length = 0 := by omega
        rw [htl, List.getElem?_append_right (by omega), e0] at h1
        exact (Option.some.inj h1).symm
      have hcp : plainC c = false := by rw [hY] at hyd; simpa using hyd
      have HX : Box ((t.extract 0 n).data.toList = X) := ⟨hw.1⟩
      have hxs : (t.extract 0 n).size = n := by rw [← size_list, hw.1, ← hnn]
      have HQ2 : Box (Q = ((quotedS (c :: Y')).map fun q => (X ++ q.1, q.2)).map fun q => (o ++ q.1, q.2)) := ⟨by rw [HT.out, hq, hY]⟩
      have hbyte : (t[n].toNat : Int) < 256 := by have := t[n].toNat_lt; omega
      have Hg := Box.mk hgetn
      have Hl := Box.mk htl
      have HnX := Box.mk hnn
      have hYl : Y'.length + n + 1 = t.size := by rw [hY] at hlen; simp at hlen; omega
      clear HT HQ hw hn hz hdr hq hyd hlen hnt hz' hY hnn hgetn htl
      go_wp2_with fail
      refine (wrong_any 32 _ _).mono ?_
      rintro e w1 ⟨rfl, rfl⟩
      go_wp2_with fail
      refine (find_any 32 ⟨#[34, 92]⟩ t wr _ HZ.out).mono ?_
      rintro e w2 ⟨rfl, hb2⟩
      have b2 := hb.trans (hb2.mono hsz)
      have hsz2 := b2.size
      have hown2 := hown.below hb2 (Nat.le_refl _)
      clear hown HZ
      by_cases h34 : c = 34
      · have HE : Box (Q = some (o ++ X, Y')) := ⟨by rw [HQ2.out, h34, quoted_end]; simp⟩
        have x1 : ((t[n].toNat : Int) == 34) = true := by
          have := u8eq t[n] 34
          rw [Hg.out, h34] at this
          rw [Hg.out, h34]; rfl
        have HY : Box ((t.extract (n + 1) t.size).data.toList = Y') := ⟨by
          rw [extract_list, List.take_of_length_le (by rw [List.length_drop, size_list]; exact Nat.le_refl _), Hl.out, HnX.out, ← List.drop_drop, List.drop_left]; rfl⟩
        clear HQ2 h34 hcp
        go_wp2_with (at_builtin; refine wp_appS _ w rfl (.tmp 12) (.tmp 15) rfl w.heap.size _ o rfl hown2 (t.extract 0 n) rfl (by omega) hsz2 b2 ?_; intro v3 w3 hown3 hb3; rw [HX.out] at hown3; have hcv := hown3.string)
        have hcd : (convert 72 9 v3).run Tryd.prog w3.drew = .ok (.string ⟨(o ++ X).toArray⟩) w3.drew := Own.string (w := w3.drew) (B := w.heap.size) hown3
        go_region
        go_wp2
        go_ret3
        refine ⟨UPost_some _ _ Q HE.out _ _ rfl ?_ HY.out, hb3.drew⟩
        simp
      · have x1 : ((t[n].toNat : Int) == 34) = false := by
          have e := u8eq t[n] 34
          rw [Hg.out] at e ⊢
          exact e.trans (by simpa using h34)
        by_cases h92 : c = 92
        · have x2 : ((t[n].toNat : Int) != 92) = false := by rw [Hg.out, h92]; rfl
          by_cases hend : Y' = []
          · have HN : Box (Q = none) := ⟨by rw [HQ2.out, h92, hend, quoted_esc0]; rfl⟩
            have x3 : (((n : Int) + 1) == (t.size : Int)) = true := beqI (by rw [hend] at hYl; simp at hYl; omega)
            clear HQ2 h34 h92 hcp hend
            go_wp2_with (at_builtin; refine wp_appS _ w rfl (.tmp 12) (.tmp 15) rfl w.heap.size _ o rfl hown2 (t.extract 0 n) rfl (by omega) hsz2 b2 ?_; intro v3 w3 hown3 hb3)
            go_ret3
            exact ⟨UPost_none Q HN.out _ _ rfl, hb3⟩
          · obtain ⟨d, Y2, hY2⟩ : ∃ d Y2, Y' = d :: Y2 := by
              cases Y' with
              | nil => exact absurd rfl hend
              | cons d Y2 => exact ⟨d, Y2, rfl⟩
            have hY2l : Y2.length + n + 2 = t.size := by rw [hY2] at hYl; simp at hYl; omega
            have hlt1 : n + 1 < t.size := by omega
            have x3 : (((n : Int) + 1) == (t.size : Int)) = false := bneI (by omega)
            have hgd : t[n + 1] = d := by
              have h1 := getL t (n + 1) hlt1
              have e0 : n + 1 - X.length = 1 := by have := HnX.out; omega
              rw [Hl.out, hY2, List.getElem?_append_right (by have := HnX.out; omega), e0] at h1
              exact (Option.some.inj h1).symm
            have HD := Box.mk hgd
            have e1 := extract_one t (n + 1) hlt1
            rw [hgd] at e1
            have HE1 := Box.mk e1
            have HY3 : Box ((t.extract (n + 2) t.size).data.toList = Y2) := ⟨by
              rw [extract_list, List.take_of_length_le (by rw [List.length_drop, size_list]; exact Nat.le_refl _), Hl.out, hY2, HnX.out, ← List.drop_drop, List.drop_left]; rfl⟩
            have hy3 : (t.extract (n + 2) t.size).size = t.size - (n + 2) := by simp [ByteArray.size_extract]
            have HQ3 : Box (Q = ((if inC d then (quotedS Y2).map fun q => (d :: q.1, q.2) else none).map fun q => (X ++ q.1, q.2)).map fun q => (o ++ q.1, q.2)) := ⟨by rw [HQ2.out, h92, hY2, quoted_esc1]⟩
            have hbd : (t[n + 1].toNat : Int) < 256 := by have := t[n + 1].toNat_lt; omega
            clear HQ2 h34 h92 hcp hend hY2 hgd e1
            go_wp2_with (at_builtin; refine wp_appS _ w rfl (.tmp 12) (.tmp 15) rfl w.heap.size _ o rfl hown2 (t.extract 0 n) rfl (by omega) hsz2 b2 ?_; intro v3 w3 hown3 hb3)
            refine (ksay_any (t.extract (n + 1) (n + 2)) _).mono ?_
            rintro e w4 ⟨rfl, hb4⟩
            have b4 := hb3.trans (hb4.mono hb3.size)
            have hown4 := hown3.below hb4 (Nat.le_refl _)
            rw [HX.out] at hown4
            have hsz4 := b4.size
            have hXl : (o ++ X).length = o.length + n := by rw [List.length_append, HnX.out]
            rw [HE1.out]
            cases hin : inC d
            · have HN : Box (Q = none) := ⟨by rw [HQ3.out, hin]; rfl⟩
              have hal : [d].all inC = false := by simp [hin]
              rw [hal]
              clear HQ3 hin hal
              go_wp2
              go_ret3
              exact ⟨UPost_none Q HN.out _ _ rfl, b4⟩
            · have HN : Box (Q = (quotedS (t.extract (n + 2) t.size).data.toList).map fun q => ((o ++ X) ++ [d] ++ q.1, q.2)) := ⟨by
                rw [HQ3.out, hin, HY3.out]
                cases quotedS Y2 with
                | none => rfl
                | some q => simp⟩
              have hal : [d].all inC = true := by simp [hin]
              rw [hal]
              clear HQ3 hin hal
              go_wp2_with (at_builtin; refine wp_app1 w4 w _ rfl (.tmp 48) (.tmp 53) rfl w.heap.size _ _ rfl hown4 rfl d (by rw [HD.out]) (by omega) hsz4 b4 ?_; intro v5 w5 hown5 hb5)
              go_roundg (t.size - (n + 2))
              case measure => omega
              case rel => exact ⟨_, _, rfl, hown5, HN, hb5, by omega, by rw [List.length_append, hXl]; simp; omega⟩
        · have HN : Box (Q = none) := ⟨by
            have hin : inC c = false := by
              unfold plainC at hcp
              rw [show (c != 34) = true by simpa using h34, show (c != 92) = true by simpa using h92] at hcp
              simpa using hcp
            rw [HQ2.out, quoted_on c Y' h34 h92, hin]; rfl⟩
          have x2 : ((t[n].toNat : Int) != 92) = true := by
            have e := u8bne t[n] 92
            rw [Hg.out] at e ⊢
            exact e.trans (by simpa using h92)
          clear HQ2 h34 h92 hcp
          go_wp2_with (at_builtin; refine wp_appS _ w rfl (.tmp 12) (.tmp 15) rfl w.heap.size _ o rfl hown2 (t.extract 0 n) rfl (by omega) hsz2 b2 ?_; intro v3 w3 hown3 hb3)
          go_ret3
          exact ⟨UPost_none Q HN.out _ _ rfl, hb3⟩

end Go.Proofs.YtiecpbhikkcmjaaDoor
