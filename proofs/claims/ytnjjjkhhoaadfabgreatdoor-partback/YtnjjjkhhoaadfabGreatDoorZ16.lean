import Derived.Test.YtnjjjkhhoaadfabGreatDoorZJ4
import Derived.Test.YtnjjjkhhoaadfabGreatDoorZ15
import Derived.Test.YtnjjjkhhoaadfabGreatDoorZJQ
import Derived.OwnWalk
namespace Go.Proofs.YtnjjjkhhoaadfabGreatDoor
open Go.RowKit

theorem byte_while (l : List UInt8) (c : UInt8) : (Lib.indexByte l c = -1 ∧ l.dropWhile (· != c) = [] ∧ l.takeWhile (· != c) = l) ∨ (Lib.indexByte l c = ((l.takeWhile (· != c)).length : Int) ∧ ∃ r, l.dropWhile (· != c) = c :: r) := by
  induction l with
  | nil => exact .inl ⟨rfl, rfl, rfl⟩
  | cons b l ih =>
    by_cases hb : b = c
    · subst hb
      refine .inr ⟨?_, l, ?_⟩
      · simp [Lib.indexByte]
      · simp
    · have h1 : (b == c) = false := by simpa using hb
      have h2 : (b != c) = true := by simpa using hb
      have e1 : (b :: l).takeWhile (· != c) = b :: l.takeWhile (· != c) := by rw [List.takeWhile_cons, h2]; rfl
      have e2 : (b :: l).dropWhile (· != c) = l.dropWhile (· != c) := by rw [List.dropWhile_cons, h2]; rfl
      rw [e1, e2, Lib.indexByte, h1]
      rcases ih with ⟨i1, i2, i3⟩ | ⟨i1, i2⟩
      · exact .inl ⟨by rw [i1]; rfl, i2, by rw [i3]⟩
      · refine .inr ⟨?_, i2⟩
        rw [i1]
        have : (((l.takeWhile (· != c)).length : Int) == -1) = false := by rw [beq_eq_false_iff_ne]; omega
        rw [this, List.length_cons]
        simp
theorem cut_while (l : List UInt8) (c : UInt8) : Lib.cut l [c] = (l.takeWhile (· != c), (l.dropWhile (· != c)).drop 1, !(l.dropWhile (· != c)).isEmpty) := by
  unfold Lib.cut
  rw [index_one]
  have e := List.takeWhile_append_dropWhile (p := (· != c)) (l := l)
  rcases byte_while l c with ⟨h1, h2, h3⟩ | ⟨h1, r, h2⟩
  · rw [h1, if_neg (by omega), h2, h3]; rfl
  · rw [h1, if_pos (by omega), h2]
    rw [h2] at e
    simp only [Int.toNat_natCast, List.length_cons, List.length_nil, List.isEmpty_cons, Bool.not_false, List.drop_succ_cons, List.drop_zero]
    congr 1
    · conv => lhs; rhs; rw [← e]
      exact List.take_left
    · congr 1
      conv => lhs; rhs; rw [← e]
      rw [← List.drop_drop, List.drop_left]
      rfl

set_option maxHeartbeats 800000 in
set_option maxRecDepth 100000 in
theorem kmain_any (s : ByteArray) (w : World) (hs : s.size ≤ 100000) (hm : Max w) :
    Calls Tryz.prog 74 #[.string s] w fun e w' => e = .returned (.bool (isMainS s.data.toList)) ∧ Below w.heap.size w w' := by
  obtain ⟨R, HR⟩ : ∃ R, Box (R = isMainS s.data.toList) := ⟨_, ⟨rfl⟩⟩
  rw [← HR.out]
  go_enter Tryz.func74, Tryz.ntmps74
  go_wp2_with fail
  refine (cut_any s ⟨#[47]⟩ _ hs hm).mono ?_
  rintro e w1 ⟨a, b, f, rfl, hc, _, _, hb1⟩
  have hc' := cut_while s.data.toList 47
  rw [show (⟨#[47]⟩ : ByteArray).data.toList = [47] from rfl, hc'] at hc
  simp only [Prod.mk.injEq] at hc
  obtain ⟨q1, q2, q3⟩ := hc
  have HE : Box (R = (tokS a.data.toList && (!f || tokS b.data.toList))) := ⟨by
    rw [HR.out, isMainS, q1, q2, ← q3, Bool.not_not]⟩
  clear q1 q2 q3 hc' HR hm
  have hsz := hb1.size
  go_wp2_with fail
  refine (kisToken_any a _).mono ?_
  rintro e w2 ⟨rfl, hb2⟩
  have b2 := hb1.trans (hb2.mono hsz)
  cases h1 : tokS a.data.toList
  · have HE' : Box (R = false) := ⟨by rw [HE.out, h1]; rfl⟩
    clear HE
    go_wp2
    go_ret
    exact ⟨ret_bool (by rw [HE'.out]), b2⟩
  · cases f
    · have HE' : Box (R = true) := ⟨by rw [HE.out, h1]; rfl⟩
      clear HE
      go_wp2
      go_ret
      exact ⟨ret_bool (by rw [HE'.out]), b2⟩
    · have HE' : Box (R = tokS b.data.toList) := ⟨by rw [HE.out, h1]; rfl⟩
      clear HE
      go_wp2_with fail
      refine (kisToken_any b _).mono ?_
      rintro e w3 ⟨rfl, hb3⟩
      go_wp2
      go_ret
      exact ⟨ret_bool (by rw [HE'.out]), b2.trans (hb3.mono b2.size)⟩

/- What stands in quotes, by the bytes that stand for themselves. -/
theorem quoted_plain (x y : List UInt8) (h : ∀ c ∈ x, plainC c = true) : quotedS (x ++ y) = (quotedS y).map fun q => (x ++ q.1, q.2) := by
  induction x with
  | nil => simp
  | cons c x ih =>
    have hc := h c List.mem_cons_self
    unfold plainC at hc
    simp only [Bool.and_eq_true, bne_iff_ne, ne_eq] at hc
    rw [List.cons_append, quoted_on c _ hc.1.2 hc.2, hc.1.1, ih fun d hd => h d (List.mem_cons_of_mem _ hd)]
    cases quotedS y with
    | none => rfl
    | some q => rfl

def UPost (Q : Option (List UInt8 × List UInt8)) (e : Ending) : Prop :=
  match Q with
  | some q => ∃ t u : ByteArray, e = .returned (.tuple #[.string t, .string u, .bool true]) ∧ t.data.toList = q.1 ∧ u.data.toList = q.2
  | none => ∃ t u : ByteArray, e = .returned (.tuple #[.string t, .string u, .bool false])
theorem UPost_some {e : Ending} (o r : List UInt8) (Q : Option (List UInt8 × List UInt8)) (hQ : Q = some (o, r)) (t u : ByteArray) (he : e = .returned (.tuple #[.string t, .string u, .bool true])) (ht : t.data.toList = o) (hu : u.data.toList = r) : UPost Q e := by
  subst hQ
  exact ⟨t, u, he, ht, hu⟩
theorem UPost_none {e : Ending} (Q : Option (List UInt8 × List UInt8)) (hQ : Q = none) (t u : ByteArray) (he : e = .returned (.tuple #[.string t, .string u, .bool false])) : UPost Q e := by
  subst hQ
  exact ⟨t, u, he⟩

set_option maxHeartbeats 3200000 in
set_option maxRecDepth 100000 in
theorem unquoted_any (s : ByteArray) (w : World) (hs : s.size ≤ 1000000) :
    Calls Tryz.prog 146 #[.string s] w fun e w' => UPost (quotedS s.data.toList) e ∧ Below w.heap.size w w' := by
  obtain ⟨Q, HQ⟩ : ∃ Q, Box (Q = quotedS s.data.toList) := ⟨_, ⟨rfl⟩⟩
  rw [← HQ.out]
  go_enter Tryz.func146, Tryz.ntmps146
  go_wp2
  go_loopg [0, 5] s.size (fun gf x v wx => ∃ (t : ByteArray) (o : List UInt8), x = .string t ∧ Own wx w.heap.size v o ∧ Box (Q = (quotedS t.data.toList).map fun q => (o ++ q.1, q.2)) ∧ Below w.heap.size w wx ∧ t.size ≤ gf ∧ t.size + o.length ≤ s.size)
  case atStart => exact ⟨s, [], rfl, Own.nil _ _, ⟨by rw [HQ.out]; simp⟩, Below.refl _ _, Nat.le_refl _, Nat.le_refl (s.size + 0)⟩
  case round =>
    obtain ⟨t, o, rfl, hown, HT, hb, hgf, hso⟩ := hrel
    have hsz := hb.size
    have hw := while_take (p := plainC) t
    have hn := while_len (p := plainC) t
    have hdr : t.data.toList.takeWhile plainC ++ t.data.toList.dropWhile plainC = t.data.toList := List.takeWhile_append_dropWhile
    have hq := quoted_plain (t.data.toList.takeWhile plainC) (t.data.toList.dropWhile plainC) (takeWhile_all t.data.toList)
    rw [hdr] at hq
    obtain ⟨z, HZ⟩ : ∃ z : Int, Box (z = if (t.data.toList.takeWhile (fineC 32 [34, 92])).length = t.size then -1 else ((t.data.toList.takeWhile (fineC 32 [34, 92])).length : Int)) := ⟨_, ⟨rfl⟩⟩
    have hz := HZ.out
    rw [fine_plain] at hz
    obtain ⟨X, HX⟩ : ∃ X, Box (X = t.data.toList.takeWhile plainC) := ⟨_, ⟨rfl⟩⟩
    obtain ⟨Y, HY⟩ : ∃ Y, Box (Y = t.data.toList.dropWhile plainC) := ⟨_, ⟨rfl⟩⟩
    have hyd : Y.head?.all (fun c => !plainC c) = true := by
      rw [HY.out]
      generalize t.data.toList = l
      induction l with
      | nil => rfl
      | cons c l ih =>
        by_cases hc : plainC c = true
        · simpa [hc] using ih
        · simp [hc]
    rw [← HX.out, ← HY.out] at hw hq hdr
    rw [← HX.out] at hn hz
    have hlen : X.length + Y.length = t.size := by rw [← size_list t, ← hdr, List.length_append]
    obtain ⟨n, hnn⟩ : ∃ n, n = X.length := ⟨_, rfl⟩
    rw [← hnn] at hw hn hz hlen
    clear HX HY
    by_cases hnt : n = t.size
    · -- nothing ends it
      have hz' : z = -1 := by rw [hz, if_pos hnt]
      rw [hz'] at HZ
      have hY : Y = [] := List.eq_nil_of_length_eq_zero (by omega)
      have HN : Box (Q = none) := ⟨by rw [HT.out, hq, hY, quoted_nil]; rfl⟩
      clear HT HQ hw hn hz hdr hq hyd hlen hnt hz' hY hnn
      go_wp2_with fail
      refine (wrong_any 32 _ _).mono ?_
      rintro e w1 ⟨rfl, rfl⟩
      go_wp2_with fail
      refine (find_any 32 ⟨#[34, 92]⟩ t wr _ HZ.out).mono ?_
      rintro e w2 ⟨rfl, hb2⟩
      go_wp2
      go_ret3
      exact ⟨UPost_none Q HN.out _ _ rfl, hb.trans (hb2.mono hsz)⟩
    · have hz' : z = (n : Int) := by rw [hz, if_neg hnt]
      rw [hz'] at HZ
      have hlt : n < t.size := by omega
      obtain ⟨c, Y', hY⟩ : ∃ c Y', Y = c :: Y' := by
        cases Y with
        | nil => simp at hlen; omega
        | cons c Y' => exact ⟨c, Y', rfl⟩
      have htl : t.data.toList = X ++ c :: Y' := by rw [← hdr, hY]
      have hgetn : t[n] = c := by
        have h1 := getL t n hlt
        have e0 : n - X.length = 0 := by omega
        rw [htl, List.getElem?_append_right (by omega), e0] at h1
        exact (Option.some.inj h1).symm
      have hcp : plainC c = false := by rw [hY] at hyd; simpa using hyd
      have HX : Box ((t.extract 0 n).data.toList = X) := ⟨hw.1⟩
      have hxs : (t.extract 0 n).size = n := by rw [← size_list, hw.1, ← hnn]
      have HQ2 : Box (Q = ((quotedS (c :: Y')).map fun q => (X ++ q.1, q.2)).map fun q => (o ++ q.1, q.2)) := ⟨by rw [HT.out, hq, hY]⟩
      have hbyte : (t[n].toNat : Int) < 256 := by have := t[n].toNat_lt; omega
      have Hg := Box.mk hgetn
      have Hl := Box.mk htl
      have HnX := Box.mk hnn
      have hYl : Y'.length + n + 1 = t.size := by rw [hY] at hlen; simp at hlen; omega
      clear HT HQ hw hn hz hdr hq hyd hlen hnt hz' hY hnn hgetn htl
      go_wp2_with fail
      refine (wrong_any 32 _ _).mono ?_
      rintro e w1 ⟨rfl, rfl⟩
      go_wp2_with fail
      refine (find_any 32 ⟨#[34, 92]⟩ t wr _ HZ.out).mono ?_
      rintro e w2 ⟨rfl, hb2⟩
      have b2 := hb.trans (hb2.mono hsz)
      have hsz2 := b2.size
      have hown2 := hown.below hb2 (Nat.le_refl _)
      clear hown HZ
      by_cases h34 : c = 34
      · have HE : Box (Q = some (o ++ X, Y')) := ⟨by rw [HQ2.out, h34, quoted_end]; simp⟩
        have x1 : ((t[n].toNat : Int) == 34) = true := by
          have := u8eq t[n] 34
          rw [Hg.out, h34] at this
          rw [Hg.out, h34]; rfl
        have HY : Box ((t.extract (n + 1) t.size).data.toList = Y') := ⟨by
          rw [extract_list, List.take_of_length_le (by rw [List.length_drop, size_list]; exact Nat.le_refl _), Hl.out, HnX.out, ← List.drop_drop, List.drop_left]; rfl⟩
        clear HQ2 h34 hcp
        go_wp2_with (at_builtin; refine wp_appS _ w rfl (.tmp 12) (.tmp 15) rfl w.heap.size _ o rfl hown2 (t.extract 0 n) rfl (by omega) hsz2 b2 ?_; intro v3 w3 hown3 hb3; rw [HX.out] at hown3; have hcv := hown3.string)
        have hcd : (convert 74 9 v3).run Tryz.prog w3.drew = .ok (.string ⟨(o ++ X).toArray⟩) w3.drew := Own.string (w := w3.drew) (B := w.heap.size) hown3
        go_region
        go_wp2
        go_ret3
        refine ⟨UPost_some _ _ Q HE.out _ _ rfl ?_ HY.out, hb3.drew⟩
        simp
      · have x1 : ((t[n].toNat : Int) == 34) = false := by
          have e := u8eq t[n] 34
          rw [Hg.out] at e ⊢
          exact e.trans (by simpa using h34)
        by_cases h92 : c = 92
        · have x2 : ((t[n].toNat : Int) != 92) = false := by rw [Hg.out, h92]; rfl
          by_cases hend : Y' = []
          · have HN : Box (Q = none) := ⟨by rw [HQ2.out, h92, hend, quoted_esc0]; rfl⟩
            have x3 : (((n : Int) + 1) == (t.size : Int)) = true := beqI (by rw [hend] at hYl; simp at hYl; omega)
            clear HQ2 h34 h92 hcp hend
            go_wp2_with (at_builtin; refine wp_appS _ w rfl (.tmp 12) (.tmp 15) rfl w.heap.size _ o rfl hown2 (t.extract 0 n) rfl (by omega) hsz2 b2 ?_; intro v3 w3 hown3 hb3)
            go_ret3
            exact ⟨UPost_none Q HN.out _ _ rfl, hb3⟩
          · obtain ⟨d, Y2, hY2⟩ : ∃ d Y2, Y' = d :: Y2 := by
              cases Y' with
              | nil => exact absurd rfl hend
              | cons d Y2 => exact ⟨d, Y2, rfl⟩
            have hY2l : Y2.length + n + 2 = t.size := by rw [hY2] at hYl; simp at hYl; omega
            have hlt1 : n + 1 < t.size := by omega
            have x3 : (((n : Int) + 1) == (t.size : Int)) = false := bneI (by omega)
            have hgd : t[n + 1] = d := by
              have h1 := getL t (n + 1) hlt1
              have e0 : n + 1 - X.length = 1 := by have := HnX.out; omega
              rw [Hl.out, hY2, List.getElem?_append_right (by have := HnX.out; omega), e0] at h1
              exact (Option.some.inj h1).symm
            have HD := Box.mk hgd
            have e1 := extract_one t (n + 1) hlt1
            rw [hgd] at e1
            have HE1 := Box.mk e1
            have HY3 : Box ((t.extract (n + 2) t.size).data.toList = Y2) := ⟨by
              rw [extract_list, List.take_of_length_le (by rw [List.length_drop, size_list]; exact Nat.le_refl _), Hl.out, hY2, HnX.out, ← List.drop_drop, List.drop_left]; rfl⟩
            have hy3 : (t.extract (n + 2) t.size).size = t.size - (n + 2) := by simp [ByteArray.size_extract]
            have HQ3 : Box (Q = ((if inC d then (quotedS Y2).map fun q => (d :: q.1, q.2) else none).map fun q => (X ++ q.1, q.2)).map fun q => (o ++ q.1, q.2)) := ⟨by rw [HQ2.out, h92, hY2, quoted_esc1]⟩
            have hbd : (t[n + 1].toNat : Int) < 256 := by have := t[n + 1].toNat_lt; omega
            clear HQ2 h34 h92 hcp hend hY2 hgd e1
            go_wp2_with (at_builtin; refine wp_appS _ w rfl (.tmp 12) (.tmp 15) rfl w.heap.size _ o rfl hown2 (t.extract 0 n) rfl (by omega) hsz2 b2 ?_; intro v3 w3 hown3 hb3)
            refine (ksay_any (t.extract (n + 1) (n + 2)) _).mono ?_
            rintro e w4 ⟨rfl, hb4⟩
            have b4 := hb3.trans (hb4.mono hb3.size)
            have hown4 := hown3.below hb4 (Nat.le_refl _)
            rw [HX.out] at hown4
            have hsz4 := b4.size
            have hXl : (o ++ X).length = o.length + n := by rw [List.length_append, HnX.out]
            rw [HE1.out]
            cases hin : inC d
            · have HN : Box (Q = none) := ⟨by rw [HQ3.out, hin]; rfl⟩
              have hal : [d].all inC = false := by simp [hin]
              rw [hal]
              clear HQ3 hin hal
              go_wp2
              go_ret3
              exact ⟨UPost_none Q HN.out _ _ rfl, b4⟩
            · have HN : Box (Q = (quotedS (t.extract (n + 2) t.size).data.toList).map fun q => ((o ++ X) ++ [d] ++ q.1, q.2)) := ⟨by
                rw [HQ3.out, hin, HY3.out]
                cases quotedS Y2 with
                | none => rfl
                | some q => simp⟩
              have hal : [d].all inC = true := by simp [hin]
              rw [hal]
              clear HQ3 hin hal
              go_wp2_with (at_builtin; refine wp_app1 w4 w _ rfl (.tmp 48) (.tmp 53) rfl w.heap.size _ _ rfl hown4 rfl d (by rw [HD.out]) (by omega) hsz4 b4 ?_; intro v5 w5 hown5 hb5)
              go_roundg (t.size - (n + 2))
              case measure => omega
              case rel => exact ⟨_, _, rfl, hown5, HN, hb5, by omega, by rw [List.length_append, hXl]; simp; omega⟩
        · have HN : Box (Q = none) := ⟨by
            have hin : inC c = false := by
              unfold plainC at hcp
              rw [show (c != 34) = true by simpa using h34, show (c != 92) = true by simpa using h92] at hcp
              simpa using hcp
            rw [HQ2.out, quoted_on c Y' h34 h92, hin]; rfl⟩
          have x2 : ((t[n].toNat : Int) != 92) = true := by
            have e := u8bne t[n] 92
            rw [Hg.out] at e ⊢
            exact e.trans (by simpa using h92)
          clear HQ2 h34 h92 hcp
          go_wp2_with (at_builtin; refine wp_appS _ w rfl (.tmp 12) (.tmp 15) rfl w.heap.size _ o rfl hown2 (t.extract 0 n) rfl (by omega) hsz2 b2 ?_; intro v3 w3 hown3 hb3)
          go_ret3
          exact ⟨UPost_none Q HN.out _ _ rfl, hb3⟩

end Go.Proofs.YtnjjjkhhoaadfabGreatDoor

namespace Go.Proofs.YtnjjjkhhoaadfabGreatDoor
open Go.RowKit

def pb2 (f : Fl) : PB := (f.1.data.toList, f.2.data.toList)
def saidS (l : List UInt8) : Option (List UInt8 × List UInt8) := if l.head? = some 34 then quotedS (l.drop 1) else if l.takeWhile tokC = [] then none else some (l.takeWhile tokC, l.dropWhile tokC)
theorem valueP_said (nm r5 : List UInt8) : valueP nm r5 = (saidS r5).map fun q => ((smallS nm, q.1), dropB q.2) := by
  unfold valueP saidS
  split
  · rfl
  · split <;> rfl
theorem quoted_len : ∀ (n : Nat) (l v r : List UInt8), l.length ≤ n → quotedS l = some (v, r) → v.length + r.length + 1 ≤ l.length := by
  intro n
  induction n with
  | zero =>
    intro l v r hl h
    rw [List.eq_nil_of_length_eq_zero (by omega : l.length = 0), quoted_nil] at h
    cases h
  | succ n ih =>
    intro l v r hl h
    cases l with
    | nil => rw [quoted_nil] at h; cases h
    | cons c l =>
      simp only [List.length_cons] at hl ⊢
      by_cases h1 : c = 34
      · rw [h1, quoted_end] at h
        injection h with h
        injection h with h2 h3
        subst h2 h3
        simp
      · by_cases h2 : c = 92
        · cases l with
          | nil => rw [h2, quoted_esc0] at h; cases h
          | cons d l =>
            rw [h2, quoted_esc1] at h
            simp only [List.length_cons] at hl ⊢
            split at h
            · cases hq : quotedS l with
              | none => rw [hq] at h; cases h
              | some q =>
                rw [hq] at h
                obtain ⟨a, b⟩ := q
                have := ih l a b (by omega) hq
                simp only [Option.map_some, Option.some.injEq, Prod.mk.injEq] at h
                obtain ⟨rfl, rfl⟩ := h
                simp only [List.length_cons]
                omega
            · cases h
        · rw [quoted_on c l h1 h2] at h
          split at h
          · cases hq : quotedS l with
            | none => rw [hq] at h; cases h
            | some q =>
              rw [hq] at h
              obtain ⟨a, b⟩ := q
              have := ih l a b (by omega) hq
              simp only [Option.map_some, Option.some.injEq, Prod.mk.injEq] at h
              obtain ⟨rfl, rfl⟩ := h
              simp only [List.length_cons]
              omega
          · cases h
theorem while_lens (l : List UInt8) : (l.takeWhile tokC).length + (l.dropWhile tokC).length = l.length := by
  conv => rhs; rw [← List.takeWhile_append_dropWhile (p := tokC) (l := l), List.length_append]
theorem said_len (l v r : List UInt8) (h : saidS l = some (v, r)) : v.length + r.length ≤ l.length := by
  unfold saidS at h
  split at h
  · have := quoted_len _ _ v r (Nat.le_refl _) h
    have h2 := List.length_drop (i := 1) (l := l)
    omega
  · split at h
    · cases h
    · simp only [Option.some.injEq, Prod.mk.injEq] at h
      obtain ⟨rfl, rfl⟩ := h
      have := while_lens l
      omega
theorem one_len (l : List UInt8) (p : PB) (r : List UInt8) (h : oneP l = some (p, r)) : p.1.length + p.2.length + r.length + 1 ≤ l.length := by
  unfold oneP at h
  split at h
  · cases h
  · split at h
    · rename_i h0 h1
      rw [valueP_said] at h
      generalize hx : dropB ((dropB l).dropWhile tokC) = x at h h1
      cases x with
      | nil => cases h1
      | cons c x =>
        rw [List.drop_succ_cons, List.drop_zero] at h
        cases hq : saidS (dropB x) with
        | none => rw [hq] at h; cases h
        | some q =>
          obtain ⟨v, rr⟩ := q
          rw [hq] at h
          simp only [Option.map_some, Option.some.injEq, Prod.mk.injEq] at h
          obtain ⟨rfl, rfl⟩ := h
          have h2 := said_len _ v rr hq
          have h3 := dropB_len x
          have h4 := dropB_len rr
          have h5 := dropB_len ((dropB l).dropWhile tokC)
          have h6 := while_lens (dropB l)
          have h7 := dropB_len l
          rw [hx, List.length_cons] at h5
          have h8 : (smallS ((dropB l).takeWhile tokC)).length = ((dropB l).takeWhile tokC).length := by simp [smallS]
          simp only
          omega
    · cases h

theorem cutp_any (s : ByteArray) (c : UInt8) (w : World) : Calls Tryz.prog 76 #[.string s, .string ⟨#[c]⟩] w fun e w' => ∃ t q, e = .returned (.tuple #[.string t, .bool q]) ∧ ((q = true ∧ s.data.toList = c :: t.data.toList) ∨ (q = false ∧ s.data.toList.head? ≠ some c ∧ t = s)) ∧ w' = w := by
  refine (Tryz.strings_CutPrefix s ⟨#[c]⟩ w).mono ?_
  rintro e w' ⟨rfl, rfl⟩
  refine ⟨_, _, rfl, ?_, rfl⟩
  unfold Lib.trimPrefix Lib.hasPrefix
  rw [show (⟨#[c]⟩ : ByteArray).data.toList = [c] from rfl]
  cases hs : s.data.toList with
  | nil => exact .inr ⟨rfl, by simp, bytes_eq (by rw [hs]; rfl)⟩
  | cons d l =>
    by_cases hd : c = d
    · subst hd
      exact .inl ⟨by simp, by simp⟩
    · have hp : ([c].isPrefixOf (d :: l)) = false := by simp [List.isPrefixOf, hd]
      refine .inr ⟨hp, by simpa using fun e => hd e.symm, bytes_eq ?_⟩
      rw [hp, hs]; rfl

set_option maxHeartbeats 800000 in
set_option maxRecDepth 100000 in
theorem ksaid_any (s : ByteArray) (w : World) (hs : s.size ≤ 1000000) :
    Calls Tryz.prog 117 #[.string s] w fun e w' => UPost (saidS s.data.toList) e ∧ Below w.heap.size w w' := by
  obtain ⟨Q, HQ⟩ : ∃ Q, Box (Q = saidS s.data.toList) := ⟨_, ⟨rfl⟩⟩
  rw [← HQ.out]
  go_enter Tryz.func117, Tryz.ntmps117
  go_wp2_with fail
  refine (cutp_any s 34 _).mono ?_
  rintro e w1 ⟨t, q, rfl, hq, rfl⟩
  rcases hq with ⟨rfl, hq⟩ | ⟨rfl, hq, rfl⟩
  · have HE : Box (Q = quotedS t.data.toList) := ⟨by rw [HQ.out, saidS, hq]; simp⟩
    have hts : t.size ≤ 1000000 := by
      have := congrArg List.length hq
      rw [List.length_cons, size_list, size_list] at this
      omega
    clear HQ hq
    go_wp2_with fail
    refine (unquoted_any t _ hts).mono ?_
    rintro e w2 ⟨hu, hb2⟩
    rw [← HE.out] at hu
    cases Q with
    | none =>
      obtain ⟨a, b, rfl⟩ := hu
      go_wp2
      go_ret3
      exact ⟨⟨a, b, rfl⟩, hb2⟩
    | some p =>
      obtain ⟨a, b, rfl, ha, hb⟩ := hu
      have HA := Box.mk ha
      have HB := Box.mk hb
      clear ha hb HE
      go_wp2
      go_ret3
      exact ⟨⟨a, b, rfl, HA.out, HB.out⟩, hb2⟩
  · have HE : Box (Q = if t.data.toList.takeWhile tokC = [] then none else some (t.data.toList.takeWhile tokC, t.data.toList.dropWhile tokC)) := ⟨by rw [HQ.out, saidS, if_neg hq]⟩
    clear HQ hq
    go_wp2_with fail
    refine (ktoken_any t _).mono ?_
    rintro e w2 ⟨a, b, rfl, ha, hb, hb2⟩
    rw [← ha, ← hb] at HE
    clear ha hb
    by_cases ha0 : a.size = 0
    · have he := empty_of a ha0
      have HE' : Box (Q = none) := ⟨by rw [HE.out, if_pos (data_nil a ha0)]⟩
      clear HE
      go_wp2
      go_ret3
      exact ⟨UPost_none Q HE'.out _ _ rfl, hb2⟩
    · have he := nonempty_of a ha0
      have HE' : Box (Q = some (a.data.toList, b.data.toList)) := ⟨by
        rw [HE.out, if_neg]
        intro h
        exact ha0 (by rw [← size_list, h]; rfl)⟩
      clear HE
      go_wp2
      go_ret3
      exact ⟨UPost_some _ _ Q HE'.out _ _ rfl rfl rfl, hb2⟩

def PPost (O : Option (PB × List UInt8)) (e : Ending) : Prop :=
  match O with
  | some q => ∃ n v u : ByteArray, e = .returned (.tuple #[.agg #[.string n, .string v], .string u, .bool true]) ∧ (n.data.toList, v.data.toList) = q.1 ∧ u.data.toList = q.2
  | none => ∃ n v u : ByteArray, e = .returned (.tuple #[.agg #[.string n, .string v], .string u, .bool false])

set_option maxHeartbeats 3200000 in
set_option maxRecDepth 100000 in
theorem kparam_any (s : ByteArray) (w : World) (hs : s.size ≤ 1000000) :
    Calls Tryz.prog 75 #[.string s] w fun e w' => PPost (oneP s.data.toList) e ∧ Below w.heap.size w w' := by
  obtain ⟨O, HO⟩ : ∃ O, Box (O = oneP s.data.toList) := ⟨_, ⟨rfl⟩⟩
  rw [← HO.out]
  go_enter Tryz.func75, Tryz.ntmps75
  go_wp2_with fail
  have b0 : Below w.heap.size w (w.alloc (.cells #[.string ⟨#[]⟩, .string ⟨#[]⟩] 133)) := (Below.refl _ _).alloc (Nat.le_refl _) _
  refine (kskip_any s _).mono ?_
  rintro e w1 ⟨s1, rfl, h1, hb1⟩
  go_wp2_with fail
  refine (ktoken_any s1 _).mono ?_
  rintro e w2 ⟨nm, s2, rfl, h2, h3, hb2⟩
  go_wp2_with fail
  refine (kskip_any s2 _).mono ?_
  rintro e w3 ⟨s3, rfl, h4, hb3⟩
  go_wp2_with fail
  refine (cutp_any s3 61 _).mono ?_
  rintro e w4 ⟨s4, q, rfl, hq, rfl⟩
  have hb13 := (hb1.trans (hb2.mono hb1.size)).trans (hb3.mono (hb1.trans (hb2.mono hb1.size)).size)
  clear hb1 hb2 hb3
  have l1 := dropB_len s.data.toList
  have l2 := while_lens s1.data.toList
  have l3 := dropB_len s2.data.toList
  rw [← h1, size_list, size_list] at l1
  rw [← h2, ← h3, size_list, size_list, size_list] at l2
  rw [← h4, size_list, size_list] at l3
  have HE : Box (O = if nm.data.toList = [] then none else if s3.data.toList.head? = some 61 then valueP nm.data.toList (dropB (s3.data.toList.drop 1)) else none) := ⟨by rw [HO.out, oneP, ← h1, ← h2, ← h3, ← h4]⟩
  clear h1 h2 h3 h4 HO
  have hsz := hb13.size
  have q0 : w4.cell? ⟨w.heap.size, 0, none⟩ = some (.string ⟨#[]⟩) := (hb13.cell (p := ⟨w.heap.size, 0, none⟩) (by simp)).trans (by simp)
  have q1 : w4.cell? ⟨w.heap.size, 1, none⟩ = some (.string ⟨#[]⟩) := (hb13.cell (p := ⟨w.heap.size, 1, none⟩) (by simp)).trans (by simp)
  have f0 : w4.frozen? ⟨w.heap.size, 0, none⟩ = false := (hb13.frozen (p := ⟨w.heap.size, 0, none⟩) (by simp)).trans (by simp)
  have f1 : w4.frozen? ⟨w.heap.size, 1, none⟩ = false := (hb13.frozen (p := ⟨w.heap.size, 1, none⟩) (by simp)).trans (by simp)
  have b4 : Below w.heap.size w w4 := b0.trans (hb13.mono (by simp))
  have hw4 : w.heap.size < w4.heap.size := by simp at hsz; omega
  by_cases hn0 : nm.size = 0
  · have he := empty_of nm hn0
    have HN : Box (O = none) := ⟨by rw [HE.out, if_pos (data_nil nm hn0)]⟩
    clear HE hq
    go_wp2
    exact bodyPost_ret (v := .tuple #[.agg #[.string ⟨#[]⟩, .string ⟨#[]⟩], .string ⟨#[]⟩, .bool false]) (by simp [results, Tryz.results75, go_sem, q0, q1]) rfl ⟨by rw [HN.out]; exact ⟨_, _, _, rfl⟩, (b4.setCell (Nat.le_refl _) _).setCell (Nat.le_refl _) _⟩
  · have he := nonempty_of nm hn0
    have hne : nm.data.toList ≠ [] := fun h => hn0 (by rw [← size_list, h]; rfl)
    rcases hq with ⟨rfl, hq⟩ | ⟨rfl, hq, rfl⟩
    · have HV : Box (O = valueP nm.data.toList (dropB s4.data.toList)) := ⟨by rw [HE.out, if_neg hne, hq]; simp⟩
      have l4 : s4.size ≤ 1000000 := by
        have := congrArg List.length hq
        rw [List.length_cons, size_list, size_list] at this
        omega
      clear HE hq hne
      go_wp2_with fail
      refine (kskip_any s4 _).mono ?_
      rintro e w5 ⟨s5, rfl, h5, hb5⟩
      have l5 := dropB_len s4.data.toList
      rw [← h5, size_list, size_list] at l5
      rw [← h5, valueP_said] at HV
      clear h5
      go_wp2_with fail
      refine (ksaid_any s5 _ (by omega)).mono ?_
      rintro e w6 ⟨hu, hb6⟩
      have hb46 := hb5.trans (hb6.mono hb5.size)
      clear hb5 hb6
      obtain ⟨v, s6, ok, rfl, hu'⟩ : ∃ v s6 ok, e = .returned (.tuple #[.string v, .string s6, .bool ok]) ∧ ((ok = true ∧ saidS s5.data.toList = some (v.data.toList, s6.data.toList)) ∨ (ok = false ∧ saidS s5.data.toList = none)) := by
        cases hQ : saidS s5.data.toList with
        | none =>
          rw [hQ] at hu
          obtain ⟨a, b, rfl⟩ := hu
          exact ⟨a, b, false, rfl, .inr ⟨rfl, rfl⟩⟩
        | some q =>
          rw [hQ] at hu
          obtain ⟨a, b, rfl, ha, hb⟩ := hu
          exact ⟨a, b, true, rfl, .inl ⟨rfl, by rw [ha, hb]⟩⟩
      clear hu
      have HU := Box.mk hu'
      clear hu'
      go_wp2_with fail
      refine (small_str nm _ (by omega)).mono ?_
      rintro e w7 ⟨nm2, rfl, h7, hb7⟩
      go_wp2_with fail
      refine (kskip_any s6 _).mono ?_
      rintro e w8 ⟨s7, rfl, h8, hb8⟩
      have hb48 := (hb46.trans (hb7.mono hb46.size)).trans (hb8.mono (hb46.trans (hb7.mono hb46.size)).size)
      clear hb46 hb7 hb8
      have r0 : w8.cell? ⟨w.heap.size, 0, none⟩ = some (.string ⟨#[]⟩) := (hb48.cell (p := ⟨w.heap.size, 0, none⟩) hw4).trans q0
      have r1 : w8.cell? ⟨w.heap.size, 1, none⟩ = some (.string ⟨#[]⟩) := (hb48.cell (p := ⟨w.heap.size, 1, none⟩) hw4).trans q1
      have g0 : w8.frozen? ⟨w.heap.size, 0, none⟩ = false := (hb48.frozen (p := ⟨w.heap.size, 0, none⟩) hw4).trans f0
      have g1 : w8.frozen? ⟨w.heap.size, 1, none⟩ = false := (hb48.frozen (p := ⟨w.heap.size, 1, none⟩) hw4).trans f1
      have b8 : Below w.heap.size w w8 := b4.trans (hb48.mono (by omega))
      have HP : Box (PPost O (.returned (.tuple #[.agg #[.string nm2, .string v], .string s7, .bool ok]))) := ⟨by
        rw [HV.out]
        rcases HU.out with ⟨rfl, h⟩ | ⟨rfl, h⟩
        · rw [h]
          exact ⟨nm2, v, s7, rfl, by rw [h7], h8⟩
        · rw [h]
          exact ⟨nm2, v, s7, rfl⟩⟩
      clear HU HV h7 h8 q0 q1 f0 f1
      go_wp2
      exact bodyPost_ret (v := .tuple #[.agg #[.string nm2, .string v], .string s7, .bool ok]) (by simp [results, Tryz.results75, go_sem, r0, r1]) rfl ⟨HP.out, (b8.setCell (Nat.le_refl _) _).setCell (Nat.le_refl _) _⟩
    · have HN : Box (O = none) := ⟨by rw [HE.out, if_neg hne, if_neg hq]⟩
      clear HE hq hne
      go_wp2
      exact bodyPost_ret (v := .tuple #[.agg #[.string ⟨#[]⟩, .string ⟨#[]⟩], .string ⟨#[]⟩, .bool false]) (by simp [results, Tryz.results75, go_sem, q0, q1]) rfl ⟨by rw [HN.out]; exact ⟨_, _, _, rfl⟩, (b4.setCell (Nat.le_refl _) _).setCell (Nat.le_refl _) _⟩

end Go.Proofs.YtnjjjkhhoaadfabGreatDoor

namespace Go.Proofs.YtnjjjkhhoaadfabGreatDoor
open Go.RowKit

theorem params_nil (k : Nat) : paramsF k [] = some [] := by
  cases k <;> simp [paramsF]
theorem params_bad (k : Nat) (l : List UInt8) (h0 : l ≠ []) (h : l.head? ≠ some 59) : paramsF k l = none := by
  cases k with
  | zero => unfold paramsF; rw [if_neg h0]
  | succ k => unfold paramsF; rw [if_neg h0, if_neg h]
theorem params_none (k : Nat) (r : List UInt8) (h : oneP r = none) : paramsF k (59 :: r) = none := by
  cases k with
  | zero => unfold paramsF; rw [if_neg (by simp)]
  | succ k =>
    unfold paramsF
    rw [if_neg (by simp), List.head?_cons, if_pos rfl, List.drop_succ_cons, List.drop_zero, h]; rfl
theorem params_step (k : Nat) (r : List UInt8) (p : PB) (u : List UInt8) (h : oneP r = some (p, u)) : paramsF (k + 1) (59 :: r) = (paramsF k u).map fun x => p :: x := by
  conv => lhs; unfold paramsF
  rw [if_neg (by simp), List.head?_cons, if_pos rfl, List.drop_succ_cons, List.drop_zero, h]; rfl

def RPost (O : Option (List UInt8 × List PB)) (n B : Nat) (e : Ending) (w' : World) : Prop :=
  match O with
  | some q => ∃ (m : ByteArray) (v : Value) (L : List Fl), e = .returned (.tuple #[.string m, v, .nilIface]) ∧ m.data.toList = q.1 ∧ OwnQ w' B v L ∧ L.map pb2 = q.2 ∧ m.size ≤ n ∧ L.length ≤ n ∧ ∀ f ∈ L, f.1.size ≤ n ∧ f.2.size ≤ n
  | none => e = .returned (.tuple #[.string ⟨#[]⟩, .slice none 0 0, .iface 35 (.int .i64 3)])
theorem RPost_none {O : Option (List UInt8 × List PB)} {n B : Nat} {e : Ending} {w' : World} (hO : O = none) (he : e = .returned (.tuple #[.string ⟨#[]⟩, .slice none 0 0, .iface 35 (.int .i64 3)])) : RPost O n B e w' := by
  subst hO
  exact he

set_option maxHeartbeats 4000000 in
set_option maxRecDepth 100000 in
theorem kread_any (s : ByteArray) (w : World) (hs : s.size ≤ 100000) (hm : Max w) :
    Calls Tryz.prog 38 #[.string s] w fun e w' => RPost (readK s.data.toList) s.size w.heap.size e w' ∧ Below w.heap.size w w' := by
  obtain ⟨O, HO⟩ : ∃ O, Box (O = readK s.data.toList) := ⟨_, ⟨rfl⟩⟩
  rw [← HO.out]
  have HMx := Box.mk hm
  have hw0 := hm.1
  clear hm
  go_enter Tryz.func38, Tryz.ntmps38
  go_wp2_with fail
  refine (cut_any s ⟨#[59]⟩ _ hs HMx.out).mono ?_
  rintro e w1 ⟨a, r0, f, rfl, hc, hal, hrl, hb1⟩
  have hc' := cut_while s.data.toList 59
  rw [show (⟨#[59]⟩ : ByteArray).data.toList = [59] from rfl, hc'] at hc
  simp only [Prod.mk.injEq] at hc
  obtain ⟨c1, c2, c3⟩ := hc
  have hrem : s.data.toList.dropWhile (· != 59) = if f then 59 :: r0.data.toList else [] := by
    rw [← c2, ← c3]
    rcases byte_while s.data.toList 59 with ⟨_, h2, _⟩ | ⟨_, r, h2⟩
    · rw [h2]; rfl
    · rw [h2]; rfl
  have hfr : f = true → r0.size + 1 ≤ s.size := by
    intro hf
    have h1 := List.takeWhile_append_dropWhile (p := (· != 59)) (l := s.data.toList)
    have h2 := congrArg List.length h1
    rw [List.length_append, hrem, hf, size_list] at h2
    simp only [if_true, List.length_cons, size_list] at h2
    omega
  clear hc' c2 c3
  go_wp2_with fail
  refine (hTrim_any a _ (by omega)).mono ?_
  rintro e w2 ⟨b, rfl, hb, hb2⟩
  have hbl := trimS_len a.data.toList
  rw [← hb, size_list, size_list] at hbl
  go_wp2_with fail
  refine (small_str b _ (by omega)).mono ?_
  rintro e w3 ⟨m, rfl, hmn, hb3⟩
  have hml : m.size = b.size := by rw [← size_list, hmn]; simp [smallS]
  have hb13 := (hb1.trans (hb2.mono hb1.size)).trans (hb3.mono (hb1.trans (hb2.mono hb1.size)).size)
  clear hb1 hb2 hb3
  have hsz3 := hb13.size
  go_wp2_with fail
  refine (kmain_any m _ (by omega) (HMx.out.below hb13 hw0)).mono ?_
  rintro e w4 ⟨rfl, hb4⟩
  have b4 := hb13.trans (hb4.mono hsz3)
  clear hb13 hb4 hsz3
  have hsz4 := b4.size
  have HE : Box (O = if isMainS m.data.toList then (paramsF s.size (if f then 59 :: r0.data.toList else [])).map (fun k => (m.data.toList, k)) else none) := ⟨by
    rw [HO.out, readK, ← hrem, size_list, c1, ← hb, ← hmn]⟩
  clear HO hb hmn c1 hrem
  cases him : isMainS m.data.toList
  · have HN : Box (O = none) := ⟨by rw [HE.out, him]; rfl⟩
    clear HE him
    go_wp2
    go_ret3
    exact ⟨RPost_none HN.out rfl, b4⟩
  · have HE' : Box (O = (paramsF s.size (if f then 59 :: r0.data.toList else [])).map (fun k => (m.data.toList, k))) := ⟨by rw [HE.out, him]; rfl⟩
    clear HE him
    go_wp2
    go_loopg [6, 7, 9] (s.size + 1) (fun gf x y v wr => ∃ (r : ByteArray) (g : Bool) (acc : List Fl) (k : Nat), x = .string r ∧ y = .bool g ∧ OwnQ wr w.heap.size v acc ∧ Below w.heap.size w wr ∧ (g = true → r.size + 1 ≤ gf ∧ r.size + 1 ≤ k ∧ r.size + 1 + acc.length ≤ s.size) ∧ acc.length ≤ s.size ∧ r.size ≤ s.size ∧ Box (∀ f ∈ acc, f.1.size ≤ s.size ∧ f.2.size ≤ s.size) ∧ Box (O = (paramsF k (if g then 59 :: r.data.toList else [])).map (fun x => (m.data.toList, acc.map pb2 ++ x))))
    case atStart => exact ⟨r0, f, [], s.size, rfl, rfl, OwnQ.nil _ _, b4, fun h => ⟨by have := hfr h; omega, hfr h, hfr h⟩, Nat.zero_le _, hrl, ⟨fun f hf => absurd hf (by simp)⟩, ⟨by rw [HE'.out]; simp⟩⟩
    case round =>
      obtain ⟨r, g, acc, k, rfl, rfl, hown, hbw, hbd, hacl, hrs, HA, HR⟩ := hrel
      have hsz := hbw.size
      cases g
      · have HF : Box (O = some (m.data.toList, acc.map pb2)) := ⟨by rw [HR.out]; simp [params_nil]⟩
        clear HR HE'
        go_wp2
        go_ret3
        refine ⟨?_, hbw⟩
        rw [HF.out]
        exact ⟨m, _, acc, rfl, rfl, hown, rfl, by omega, hacl, HA.out⟩
      · obtain ⟨d1, d2, d3⟩ := hbd rfl
        have HR' : Box (O = (paramsF k (59 :: r.data.toList)).map (fun x => (m.data.toList, acc.map pb2 ++ x))) := ⟨by rw [HR.out]; simp⟩
        clear HR HE' hbd
        obtain ⟨k', hk⟩ : ∃ k', k = k' + 1 := ⟨k - 1, by omega⟩
        go_wp2_with fail
        refine (kparam_any r _ (by omega)).mono ?_
        rintro e w5 ⟨hp, hb5⟩
        have b5 := hbw.trans (hb5.mono hsz)
        have hown5 := hown.below hb5 (Nat.le_refl _)
        have hsz5 := b5.size
        clear hown hb5
        cases hone : oneP r.data.toList with
        | none =>
          rw [hone] at hp
          obtain ⟨n1, v1, u1, rfl⟩ := hp
          have HN : Box (O = none) := ⟨by rw [HR'.out, params_none _ _ hone]; rfl⟩
          clear HR' hone
          go_wp2
          go_ret3
          exact ⟨RPost_none HN.out rfl, b5.alloc hsz5 _⟩
        | some q =>
          obtain ⟨p, u⟩ := q
          rw [hone] at hp
          obtain ⟨n1, v1, u1, rfl, hpq, hu⟩ := hp
          simp only at hpq hu
          have hlen := one_len _ _ _ hone
          rw [← hpq, ← hu, size_list] at hlen
          simp only [size_list] at hlen
          have HR2 : Box (O = (paramsF k' u1.data.toList).map (fun x => (m.data.toList, acc.map pb2 ++ ([pb2 (n1, v1)] ++ x)))) := ⟨by
            rw [HR'.out, hk, params_step _ _ _ _ hone, ← hu, ← hpq, Option.map_map]
            rfl⟩
          have HA2 : Box (∀ f ∈ acc ++ [(n1, v1)], f.1.size ≤ s.size ∧ f.2.size ≤ s.size) := ⟨fun f hf => by
            rcases List.mem_append.1 hf with h | h
            · exact HA.out f h
            · rw [List.mem_singleton.1 h]
              simp only
              omega⟩
          clear HR' hone hpq hu HA
          go_wp2_with (at_builtin; refine wp_appQ ((w5.alloc (.cells #[.string n1, .string v1] 133)).alloc (.cells #[.string n1, .string v1] 133)) w rfl (.tmp 36) (.tmp 38) rfl w.heap.size _ acc rfl (World.ownsRow.alloc (World.ownsRow.alloc hown5 _) _) (w5.heap.size + 1) 1 (n1, v1) rfl (by simp) (by simp) (by omega) (by simp; omega) ((b5.alloc hsz5 _).alloc (by simp; omega) _) ?_; intro v6 w6 hown6 hb6)
          refine (cutp_any u1 59 _).mono ?_
          rintro e w7 ⟨t, q, rfl, hq, rfl⟩
          rcases hq with ⟨rfl, hq⟩ | ⟨rfl, hq, rfl⟩
          · have hts : t.size + 1 = u1.size := by
              have := congrArg List.length hq
              rw [List.length_cons, size_list, size_list] at this
              omega
            have HR3 : Box (O = (paramsF k' (if true then 59 :: t.data.toList else [])).map (fun x => (m.data.toList, (acc ++ [(n1, v1)]).map pb2 ++ x))) := ⟨by
              rw [HR2.out, hq]
              simp⟩
            clear HR2 hq
            go_wp2
            go_roundg (t.size + 1)
            case measure => omega
            case rel => exact ⟨t, true, _, k', rfl, rfl, hown6, hb6, fun _ => ⟨Nat.le_refl _, by omega, by rw [List.length_append]; simp; omega⟩, by rw [List.length_append]; simp; omega, by omega, HA2, HR3⟩
          · by_cases ht0 : t.size = 0
            · have he := empty_of t ht0
              have HR3 : Box (O = (paramsF k' (if false then 59 :: t.data.toList else [])).map (fun x => (m.data.toList, (acc ++ [(n1, v1)]).map pb2 ++ x))) := ⟨by
                rw [HR2.out, data_nil t ht0]
                simp⟩
              clear HR2 hq ht0
              go_wp2
              go_roundg 0
              case measure => omega
              case rel => exact ⟨t, false, _, k', rfl, rfl, hown6, hb6, fun h => (by cases h), by rw [List.length_append]; simp; omega, by omega, HA2, HR3⟩
            · have he := nonempty_of t ht0
              have HN : Box (O = none) := ⟨by
                rw [HR2.out, params_bad _ _ (fun h => ht0 (by rw [← size_list, h]; rfl)) hq]; rfl⟩
              clear HR2 hq ht0
              go_wp2
              go_ret3
              exact ⟨RPost_none HN.out rfl, hb6⟩

end Go.Proofs.YtnjjjkhhoaadfabGreatDoor

