import Derived.Test.YtmjijnfhgedmlaaGreatDoorZ6
import Derived.Test.YtmjijnfhgedmlaaGreatDoorZShelfK
import Derived.Test.YtmjijnfhgedmlaaGreatDoorZShelfA
import Derived.Test.YtmjijnfhgedmlaaGreatDoorZShelfJ
import Derived.Test.YtmjijnfhgedmlaaGreatDoorZ2
namespace Go.Proofs.YtmjijnfhgedmlaaGreatDoor
open Go.RowKit

/- Parts that are begun, lines that part them: the code's. -/
theorem begin_no (b n d : Nat) (w : World) (h : CI w b n) (hn : n ≤ 1000000) (hd : d ≤ 1000000) (hx : 40 ≤ n ∨ 4 ≤ d) :
    Calls Tryz.prog 61 #[.pointer (some ⟨b, 0, none⟩), .int .i64 d] w fun e w' => e = .returned (.iface 22 (.int .i64 4)) ∧ w' = w := by
  obtain ⟨c, f, lt⟩ := h
  by_cases h1 : 40 ≤ n
  · clear hx
    go_enter Tryz.func61, Tryz.ntmps61
    go_wp2
    go_ret
    exact ⟨rfl, rfl⟩
  · have h2 : 4 ≤ d := by omega
    clear hx
    go_enter Tryz.func61, Tryz.ntmps61
    go_wp2
    go_ret
    exact ⟨rfl, rfl⟩
theorem begin_yes (b n d : Nat) (w : World) (h : CI w b n) (h1 : ¬ 40 ≤ n) (h2 : ¬ 4 ≤ d) :
    Calls Tryz.prog 61 #[.pointer (some ⟨b, 0, none⟩), .int .i64 d] w fun e w' => e = .returned .nilIface ∧ CI w' b (n + 1) ∧ w.grownBy w' (some b) := by
  have HC : Box (CI (w.setCell ⟨b, 0, none⟩ (.int .i64 ((n : Int) + 1))) b (n + 1)) := ⟨h.set (n + 1)⟩
  obtain ⟨c, f, lt⟩ := h
  go_enter Tryz.func61, Tryz.ntmps61
  go_wp2
  go_ret
  exact ⟨rfl, HC.out, gr_set _ _ _ _⟩

theorem splitC_len (l x : List UInt8) (h : x ∈ splitC l) : x.length ≤ l.length := by
  obtain ⟨u, v, rfl⟩ := splitC_in l x h
  simp; omega
/-- strings.Split at line ends. -/
theorem split_any (s : ByteArray) (w : World) (hs : s.size ≤ 100000) (hm : Max w) :
    Calls Tryz.prog 27 #[.string s, .string ⟨#[13, 10]⟩] w fun e w' => ∃ (n : Nat) (L : List ByteArray), e = .returned (.slice (some ⟨w.heap.size, 0, none⟩) n n) ∧ L.length = n ∧ n ≤ 100001 ∧ (∀ k (hk : k < L.length), w'.cell? ⟨w.heap.size, k, none⟩ = some (.string L[k])) ∧ (∀ x ∈ L, x.size ≤ s.size) ∧ L.map lst = splitC s.data.toList ∧ w.heap.size < w'.heap.size ∧ Below w.heap.size w w' := by
  obtain ⟨_, m, hm⟩ := hm
  refine (Tryz.strings_Split s ⟨#[13, 10]⟩ m w (by omega) hm (by decide)).mono ?_
  rintro e w' ⟨rfl, rfl⟩
  have hlen := Lib.splitB_all ⟨#[13, 10]⟩ (by decide) 0 _ s rfl
  have hcnt := Lib.countB_le ⟨#[13, 10]⟩ (by decide) _ s (Nat.le_refl _)
  refine ⟨_, Lib.splitB ⟨#[13, 10]⟩ 0 (Lib.countB s ⟨#[13, 10]⟩) s, rfl, hlen, by omega, ?_, ?_, split_lines _ s (Nat.lt_succ_self _), by simp, (Below.refl _ _).alloc (Nat.le_refl _) _⟩
  · intro k hk
    simp
  · intro x hx
    have hx' : lst x ∈ splitC s.data.toList := by rw [← split_lines _ s (Nat.lt_succ_self _)]; exact List.mem_map_of_mem hx
    have := splitC_len _ _ hx'
    unfold lst at this
    rw [size_list, size_list] at this
    exact this


def MPost (o : Option Bool) (e : Ending) : Prop := ∃ q1 q2 : Bool, e = .returned (.tuple #[.bool q1, .bool q2]) ∧ ((o = none ∧ q1 = false ∧ q2 = false) ∨ (o = some false ∧ q1 = true ∧ q2 = false) ∨ (o = some true ∧ q1 = false ∧ q2 = true))
theorem lead_list (b : ByteArray) : ((⟨#[45, 45]⟩ : ByteArray) ++ b).data.toList = lead b.data.toList := by simp [lead]
theorem trimPrefix_at (x p : List UInt8) (h : Lib.hasPrefix x p = true) : Lib.trimPrefix x p = x.drop p.length := by
  unfold Lib.trimPrefix
  rw [h]; simp
set_option maxHeartbeats 1000000 in
theorem marks_any (x b : ByteArray) (w : World) (hx : x.size ≤ 100000) (hb : b.size ≤ 100000) :
    Calls Tryz.prog 152 #[.string x, .string b] w fun e w' => MPost (markOf b.data.toList x.data.toList) e ∧ Below w.heap.size w w' := by
  have hsum : ¬ 9223372036854775807 < 2 + b.size := by omega
  cases hp : Lib.hasPrefix x.data.toList (lead b.data.toList)
  · have HM : Box (markOf b.data.toList x.data.toList = none) := ⟨by unfold markOf; rw [if_neg (by rw [show (lead b.data.toList).isPrefixOf x.data.toList = Lib.hasPrefix x.data.toList (lead b.data.toList) from rfl, hp]; decide)]⟩
    rw [HM.out]
    have hp' := Box.mk hp
    clear hp
    go_enter Tryz.func152, Tryz.ntmps152
    go_wp2_with fail
    refine (Tryz.strings_CutPrefix x _ _).mono ?_
    rintro e w1 ⟨rfl, rfl⟩
    rw [lead_list, hp'.out]
    go_wp2
    go_ret2
    exact ⟨⟨false, false, rfl, .inl ⟨rfl, rfl, rfl⟩⟩, Below.refl _ _⟩
  · have HM : Box (markOf b.data.toList x.data.toList = if trimS (x.data.toList.drop (lead b.data.toList).length) = [] then some false else if trimS (x.data.toList.drop (lead b.data.toList).length) = [45, 45] then some true else none) := ⟨by unfold markOf; rw [if_pos (by rw [show (lead b.data.toList).isPrefixOf x.data.toList = Lib.hasPrefix x.data.toList (lead b.data.toList) from rfl, hp])]⟩
    obtain ⟨r, HR⟩ : ∃ r : ByteArray, Box (r.data.toList = x.data.toList.drop (lead b.data.toList).length) := ⟨⟨(x.data.toList.drop (lead b.data.toList).length).toArray⟩, ⟨rfl⟩⟩
    have hr : r.size ≤ 100000 := by rw [← size_list, HR.out, List.length_drop, size_list]; omega
    have hE : (ByteArray.mk (Lib.trimPrefix x.data.toList (lead b.data.toList)).toArray) = r := by
      rw [trimPrefix_at _ _ hp, ← HR.out]
    have hp' := Box.mk hp
    have HE := Box.mk hE
    clear hp hE
    obtain ⟨R, HQ⟩ : ∃ R, Box (R = markOf b.data.toList x.data.toList) := ⟨_, ⟨rfl⟩⟩
    rw [← HQ.out]
    go_enter Tryz.func152, Tryz.ntmps152
    go_wp2_with fail
    refine (Tryz.strings_CutPrefix x _ _).mono ?_
    rintro e w1 ⟨rfl, rfl⟩
    rw [lead_list, hp'.out, HE.out]
    go_wp2_with fail
    refine (hTrim_any r _ (by omega)).mono ?_
    rintro e w2 ⟨t, rfl, ht, hb2⟩
    rw [HM.out, ← HR.out, ← ht] at HQ
    clear ht HM HR HE hp'
    go_wp2
    go_ret2
    refine ⟨⟨_, _, rfl, ?_⟩, hb2⟩
    rw [HQ.out, ByteArray.toList_eq]
    by_cases e1 : t.data.toList = []
    · rw [if_pos e1, e1]
      exact .inr (.inl ⟨rfl, rfl, rfl⟩)
    · rw [if_neg e1]
      have e3 : t.data.toList.isEmpty = false := by rw [← Bool.not_eq_true, List.isEmpty_iff]; exact e1
      by_cases e2 : t.data.toList = [45, 45]
      · rw [if_pos e2, e2]
        exact .inr (.inr ⟨rfl, rfl, rfl⟩)
      · rw [if_neg e2]
        refine .inl ⟨rfl, e3, ?_⟩
        rw [beq_eq_false_iff_ne]; exact e2

end Go.Proofs.YtmjijnfhgedmlaaGreatDoor

namespace Go.Proofs.YtmjijnfhgedmlaaGreatDoor
open Go.RowKit

/- What stands between the lines that part it: the code's cut. -/
def wt (ls : List (List UInt8)) : Nat := (ls.map fun x => x.length + 2).sum
theorem wt_append (a b : List (List UInt8)) : wt (a ++ b) = wt a + wt b := by simp [wt]
theorem wt_cons (a : List UInt8) (b : List (List UInt8)) : wt (a :: b) = a.length + 2 + wt b := by simp [wt]
theorem join_wt : ∀ xs : List (List UInt8), xs ≠ [] → (joinC xs).length + 2 = wt xs
  | [], h => absurd rfl h
  | [x], _ => by simp [joinC, wt]
  | x :: y :: r, _ => by
    rw [joinC, wt_cons, List.length_append, List.length_cons, List.length_cons]
    have := join_wt (y :: r) (by simp)
    omega
theorem bet_wt (b : List UInt8) : ∀ (ls : List (List UInt8)) (begun : Bool) (cur xs : List (List UInt8)), betS b ls begun cur = some xs → ∀ x ∈ xs, x.length + 2 ≤ wt cur + wt ls
  | [], _, _, _, h => by cases h
  | y :: r, begun, cur, xs, h => by
    unfold betS at h
    rw [wt_cons]
    have hj : (joinC cur).length + 2 ≤ wt cur + 2 := by
      by_cases hc : cur = []
      · subst hc; simp [joinC]
      · have := join_wt cur hc; omega
    cases hm : markOf b y with
    | none =>
      rw [hm] at h
      intro x hx
      have := bet_wt b r begun _ xs h x hx
      rw [wt_append, wt_cons] at this
      simp [wt] at this ⊢
      omega
    | some q =>
      rw [hm] at h
      cases q with
      | true =>
        simp only [Option.some.injEq] at h
        subst h
        intro x hx
        cases begun with
        | false => simp at hx
        | true =>
          have : x = joinC cur := by simpa using hx
          subst this
          omega
      | false =>
        simp only [Option.map_eq_some_iff] at h
        obtain ⟨o, ho, rfl⟩ := h
        intro x hx
        have ih := bet_wt b r true [] o ho
        cases begun with
        | false =>
          have := ih x (by simpa using hx)
          simp [wt] at this ⊢
          omega
        | true =>
          rcases List.mem_cons.1 (by simpa using hx : x ∈ joinC cur :: o) with rfl | hx
          · omega
          · have := ih x hx
            simp [wt] at this ⊢
            omega
theorem between_len (b s : List UInt8) (xs : List (List UInt8)) (h : betweenS b s = some xs) : ∀ x ∈ xs, x.length ≤ s.length := by
  intro x hx
  have h1 := bet_wt b _ _ _ _ h x hx
  have h2 := join_wt (splitC s) (splitC_ne s)
  rw [joinC_split] at h2
  simp [wt] at h1 h2
  omega
def CutI (b : List UInt8) (LL : List (List UInt8)) (T : Option (List (List UInt8))) (k : Nat) (z : Int) (out : List (List UInt8)) : Prop :=
  (z = -1 ∧ T = (betS b (LL.drop k) false []).map (out ++ ·)) ∨ (∃ f : Nat, z = f ∧ f ≤ k ∧ T = (betS b (LL.drop k) true ((LL.take k).drop f)).map (out ++ ·))
theorem drop_at {α : Type} (L : List α) (k : Nat) (x : α) (h : L[k]? = some x) : L.drop k = x :: L.drop (k + 1) := by
  obtain ⟨hk, e⟩ := List.getElem?_eq_some_iff.1 h
  rw [← e]; exact (List.getElem_cons_drop (h := hk)).symm
theorem take_drop_snoc {α : Type} (L : List α) (k f : Nat) (x : α) (h : L[k]? = some x) (hf : f ≤ k) : (L.take (k + 1)).drop f = (L.take k).drop f ++ [x] := by
  have hk := (List.getElem?_eq_some_iff.1 h).1
  rw [take_snocF L k x h, List.drop_append_of_le_length (by rw [List.length_take]; omega)]
theorem cut_none {b : List UInt8} {LL : List (List UInt8)} {T : Option (List (List UInt8))} {k : Nat} {z : Int} {out : List (List UInt8)} (h : CutI b LL T k z out) (x : List UInt8) (hx : LL[k]? = some x) (hm : markOf b x = none) : CutI b LL T (k + 1) z out := by
  rcases h with ⟨hz, h⟩ | ⟨f, hz, hf, h⟩
  · refine .inl ⟨hz, ?_⟩
    rw [h, drop_at LL k x hx, betS, hm]
    exact congrArg _ (bet_false b _ _ _)
  · refine .inr ⟨f, hz, by omega, ?_⟩
    rw [h, drop_at LL k x hx, betS, hm, take_drop_snoc LL k f x hx hf]
theorem cut_begin0 {b : List UInt8} {LL : List (List UInt8)} {T : Option (List (List UInt8))} {k : Nat} {z : Int} {out : List (List UInt8)} (h : CutI b LL T k z out) (hz : z < 0) (x : List UInt8) (hx : LL[k]? = some x) (hm : markOf b x = some false) : CutI b LL T (k + 1) ((k : Int) + 1) out := by
  rcases h with ⟨_, h⟩ | ⟨f, hz', _⟩
  · refine .inr ⟨k + 1, by omega, Nat.le_refl _, ?_⟩
    rw [h, drop_at LL k x hx, betS, hm, show (LL.take (k + 1)).drop (k + 1) = [] from List.drop_of_length_le (by rw [List.length_take]; omega)]
    simp
  · omega
theorem cut_begin1 {b : List UInt8} {LL : List (List UInt8)} {T : Option (List (List UInt8))} {k f : Nat} {out : List (List UInt8)} (h : CutI b LL T k f out) (x : List UInt8) (hx : LL[k]? = some x) (hm : markOf b x = some false) : CutI b LL T (k + 1) ((k : Int) + 1) (out ++ [joinC ((LL.take k).drop f)]) := by
  rcases h with ⟨h', _⟩ | ⟨f', hz, _, h⟩
  · omega
  · have : f' = f := by omega
    subst this
    refine .inr ⟨k + 1, by omega, Nat.le_refl _, ?_⟩
    rw [h, drop_at LL k x hx, betS, hm, show (LL.take (k + 1)).drop (k + 1) = [] from List.drop_of_length_le (by rw [List.length_take]; omega), Option.map_map]
    congr 1
    funext o
    simp
theorem cut_end0 {b : List UInt8} {LL : List (List UInt8)} {T : Option (List (List UInt8))} {k : Nat} {z : Int} {out : List (List UInt8)} (h : CutI b LL T k z out) (hz : z < 0) (x : List UInt8) (hx : LL[k]? = some x) (hm : markOf b x = some true) : T = some out := by
  rcases h with ⟨_, h⟩ | ⟨f, hz', _⟩
  · rw [h, drop_at LL k x hx, betS, hm]; simp
  · omega
theorem cut_end1 {b : List UInt8} {LL : List (List UInt8)} {T : Option (List (List UInt8))} {k f : Nat} {out : List (List UInt8)} (h : CutI b LL T k f out) (x : List UInt8) (hx : LL[k]? = some x) (hm : markOf b x = some true) : T = some (out ++ [joinC ((LL.take k).drop f)]) := by
  rcases h with ⟨h', _⟩ | ⟨f', hz, _, h⟩
  · omega
  · have : f' = f := by omega
    subst this
    rw [h, drop_at LL k x hx, betS, hm]; simp
theorem cut_out {b : List UInt8} {LL : List (List UInt8)} {T : Option (List (List UInt8))} {k : Nat} {z : Int} {out : List (List UInt8)} (h : CutI b LL T k z out) (hk : LL.length ≤ k) : T = none := by
  rcases h with ⟨_, h⟩ | ⟨f, _, _, h⟩ <;> rw [h, List.drop_of_length_le hk] <;> rfl
theorem join_len (M : Nat) : ∀ xs : List (List UInt8), (∀ x ∈ xs, x.length ≤ M) → (joinC xs).length ≤ xs.length * (M + 2) := by
  intro xs h
  by_cases hc : xs = []
  · subst hc; simp [joinC]
  · have h1 := join_wt xs hc
    have h2 : wt xs ≤ xs.length * (M + 2) := by
      clear h1 hc
      induction xs with
      | nil => simp [wt]
      | cons a xs ih =>
        rw [wt_cons, List.length_cons, Nat.succ_mul]
        have := h a (by simp)
        have := ih fun x hx => h x (by simp [hx])
        omega
    omega
theorem OwnS.mono {w : World} {B C : Nat} {v : Value} {l : List ByteArray} (h : OwnS w C v l) (hB : B ≤ C) : OwnS w B v l := by
  obtain ⟨h1, h2⟩ := h
  refine ⟨h1, ?_⟩
  rcases h2 with h2 | ⟨g, cap, cur, a, b, c⟩
  · exact .inl h2
  · exact .inr ⟨g, cap, cur, a, Nat.le_trans hB b, c⟩
/-- strings.Join of a stretch of lines. -/
theorem join_crlf (A : Option Addr) (g f m c : Nat) (ss : List ByteArray) (w : World) (hA : f < m → A = some ⟨g, f, none⟩ ∧ m - f ≤ c) (hc : ∀ k (hk : k < ss.length), w.cell? ⟨g, k, none⟩ = some (.string ss[k])) (hg : g < w.heap.size) (h1 : f ≤ m) (h2 : m ≤ ss.length) (hl : ∀ x ∈ ss, x.size ≤ 100000) (hn : ss.length ≤ 100001) :
    Calls Tryz.prog 100 #[.slice A (m - f) c, .string ⟨#[13, 10]⟩] w fun e w' => ∃ t : ByteArray, e = .returned (.string t) ∧ t.data.toList = joinC (((ss.map lst).take m).drop f) ∧ Below w.heap.size w w' := by
  by_cases hlt : f < m
  · obtain ⟨rfl, hcap⟩ := hA hlt
    have hlen : ((ss.take m).drop f).length = m - f := by rw [List.length_drop, List.length_take]; omega
    have hmap : (((ss.take m).drop f).map (·.data.toList)) = ((ss.map lst).take m).drop f := by
      rw [← List.map_take, ← List.map_drop]; rfl
    have hj := Tryz.strings_Join g f c ((ss.take m).drop f) ⟨#[13, 10]⟩ w ?_ hg (by omega) (by omega) ?_
    · rw [hlen, hmap] at hj
      refine hj.mono ?_
      rintro e w' ⟨rfl, hb⟩
      exact ⟨_, rfl, (joinC_lib _).symm, hb⟩
    · intro j x hj
      rw [List.getElem?_drop, List.getElem?_take] at hj
      split at hj
      · obtain ⟨hk, e⟩ := List.getElem?_eq_some_iff.1 hj
        rw [hc _ hk, e]
      · cases hj
    · have := join_len 100000 (((ss.map lst).take m).drop f) (by
        intro x hx
        obtain ⟨y, hy, rfl⟩ := List.mem_map.1 (List.mem_of_mem_take (List.mem_of_mem_drop hx))
        have := hl y hy
        rw [lst, size_list]; exact this)
      rw [List.length_drop, List.length_take, List.length_map] at this
      rw [hmap, ← show joinC (((ss.map lst).take m).drop f) = Lib.join (((ss.map lst).take m).drop f) [13, 10] from joinC_lib _]
      have h3 : (min m ss.length - f) * (100000 + 2) ≤ 100001 * 100002 := Nat.mul_le_mul (by omega) (by omega)
      omega
  · have e0 : m - f = 0 := by omega
    rw [e0]
    refine (Tryz.strings_Join_none A c ⟨#[13, 10]⟩ w).mono ?_
    rintro e w' ⟨rfl, rfl⟩
    refine ⟨_, rfl, ?_, Below.refl _ _⟩
    rw [List.drop_of_length_le (by rw [List.length_take]; omega)]
    rfl
def CPost (T : Option (List (List UInt8))) (B : Nat) (e : Ending) (w' : World) : Prop :=
  match T with
  | none => e = .returned (.tuple #[.slice none 0 0, .bool false])
  | some xs => ∃ v ss, e = .returned (.tuple #[v, .bool true]) ∧ OwnS w' B v ss ∧ ss.map lst = xs ∧ ss.length ≤ 100001

end Go.Proofs.YtmjijnfhgedmlaaGreatDoor

namespace Go.Proofs.YtmjijnfhgedmlaaGreatDoor
open Go.RowKit

set_option maxHeartbeats 1000000 in
set_option maxRecDepth 100000 in
theorem pcut_any (s b : ByteArray) (w : World) (hs : s.size ≤ 100000) (hbs : b.size ≤ 100000) (hm : Max w) :
    Calls Tryz.prog 108 #[.string s, .string b] w fun e w' => CPost (betweenS b.data.toList s.data.toList) w.heap.size e w' ∧ Below w.heap.size w w' := by
  obtain ⟨T, HT⟩ : ∃ T, Box (T = betweenS b.data.toList s.data.toList) := ⟨_, ⟨rfl⟩⟩
  rw [← HT.out]
  have HMx := Box.mk hm
  clear hm
  go_enter Tryz.func108, Tryz.ntmps108
  go_wp2_with fail
  refine (split_any s _ hs HMx.out).mono ?_
  rintro e w1 ⟨n, L, rfl, hL, hn, hc, hx, hsp, hlt1, hb1⟩
  have HC := Box.mk hc
  have HX := Box.mk hx
  have HN := Box.mk hL
  have hLn : L.length ≤ n := Nat.le_of_eq hL
  have hLn' : n ≤ L.length := Nat.le_of_eq hL.symm
  have H0 : Box (CutI b.data.toList (L.map lst) T 0 (-1) []) := ⟨.inl ⟨rfl, by rw [HT.out, betweenS, ← hsp]; simp⟩⟩
  clear hc hx hL hsp HT HMx
  go_wp2
  go_loopw [7, 8, 17] (fun v p i wr => ∃ (k : Nat) (z : Int) (ss : List ByteArray), k ≤ n ∧ i = .int .i64 k ∧ p = .int .i64 z ∧ -1 ≤ z ∧ z ≤ k ∧ ss.length ≤ k ∧ OwnS wr w1.heap.size v ss ∧ Below w1.heap.size w1 wr ∧ Box (CutI b.data.toList (L.map lst) T k z (ss.map lst))) (fun _ _ i _ => n - (intOf i).toNat)
  case atStart => exact ⟨0, -1, [], Nat.zero_le _, rfl, rfl, by omega, by omega, Nat.le_refl _, OwnS.nil _ _, Below.refl _ _, H0⟩
  case round =>
    obtain ⟨k, z, ss, hk, rfl, rfl, hz1, hz2, hss, hown, hb, HI⟩ := hrel
    have hsz := hb.size
    by_cases hlt : k < n
    · have hkL : k < L.length := by omega
      obtain ⟨x, HXk⟩ : ∃ x, Box (L[k]? = some x) := ⟨_, ⟨List.getElem?_eq_getElem hkL⟩⟩
      have hcell : wr.cell? ⟨w.heap.size, k, none⟩ = some (.string x) := by
        rw [hb.cell (p := ⟨w.heap.size, k, none⟩) hlt1, HC.out k hkL]
        have := HXk.out
        rw [List.getElem?_eq_getElem hkL] at this
        rw [Option.some.inj this]
      have HXl : Box ((L.map lst)[k]? = some x.data.toList) := ⟨by rw [List.getElem?_map, HXk.out]; rfl⟩
      have hxs : x.size ≤ 100000 := by
        have := HX.out x (List.mem_of_getElem? HXk.out)
        omega
      clear HXk hkL
      go_wp2_with fail
      refine (marks_any x b _ hxs hbs).mono ?_
      rintro e w2 ⟨⟨q1, q2, rfl, hq⟩, hb2⟩
      have hsz2 := hb2.size
      have hb12 := hb.trans (hb2.mono hsz)
      rcases hq with ⟨hm, rfl, rfl⟩ | ⟨hm, rfl, rfl⟩ | ⟨hm, rfl, rfl⟩
      · have HI' := Box.mk (cut_none HI.out _ HXl.out hm)
        clear HI HXl hm
        go_wp2
        go_roundw
        case rel => exact ⟨k + 1, z, ss, by omega, by go_num, rfl, hz1, by omega, by omega, hown.below hb2 (Nat.le_refl _), hb12, HI'⟩
        case measure => simp [intOf]; omega
      · by_cases hz : z < 0
        · have HI' := Box.mk (cut_begin0 HI.out hz _ HXl.out hm)
          clear HI HXl hm
          go_wp2
          go_roundw
          case rel => exact ⟨k + 1, (k : Int) + 1, ss, by omega, by go_num, by go_num, by omega, by omega, by omega, hown.below hb2 (Nat.le_refl _), hb12, HI'⟩
          case measure => simp [intOf]; omega
        · obtain ⟨f, rfl⟩ : ∃ f : Nat, z = (f : Int) := ⟨z.toNat, by omega⟩
          have HI' := Box.mk (cut_begin1 HI.out _ HXl.out hm)
          clear HI HXl hm
          go_wp2_with fail
          refine (join_crlf _ w.heap.size f k (n - f) L _ (fun _ => ⟨rfl, by omega⟩) (fun j hj => by rw [hb12.cell (p := ⟨w.heap.size, j, none⟩) hlt1]; exact HC.out j hj) (by omega) (by omega) (by omega) (fun y hy => Nat.le_trans (HX.out y hy) hs) (by omega)).mono ?_
          rintro e w3 ⟨t, rfl, ht, hb3⟩
          have hb13 := hb12.trans (hb3.mono (by omega))
          have hown3 := (hown.below hb2 (Nat.le_refl _)).below hb3 (Nat.le_refl _)
          have hsz3 := hb13.size
          have HJ : Box ((ss ++ [t]).map lst = ss.map lst ++ [joinC (((L.map lst).take k).drop f)]) := ⟨by rw [List.map_append, ← ht]; rfl⟩
          rw [← HJ.out] at HI'
          clear ht HJ HC HX
          go_wp2_with (at_builtin; refine wp_appT _ w1 rfl (.tmp 36) (.tmp 42) rfl w1.heap.size _ _ rfl hown3 t rfl (by omega) hsz3 hb13 ?_; intro v' w4 hown4 hb4)
          go_roundw
          case rel => exact ⟨k + 1, (k : Int) + 1, ss ++ [t], by omega, by go_num, by go_num, by omega, by omega, by simp; omega, hown4, hb4, HI'⟩
          case measure => simp [intOf]; omega
      · by_cases hz : z < 0
        · have HI' := Box.mk (cut_end0 HI.out hz _ HXl.out hm)
          clear HI HXl hm HC HX
          go_wp2
          go_ret2
          refine ⟨?_, hb1.trans (hb12.mono hb1.size)⟩
          rw [HI'.out]
          exact ⟨_, ss, rfl, (hown.below hb2 (Nat.le_refl _)).mono hb1.size, rfl, by omega⟩
        · obtain ⟨f, rfl⟩ : ∃ f : Nat, z = (f : Int) := ⟨z.toNat, by omega⟩
          have HI' := Box.mk (cut_end1 HI.out _ HXl.out hm)
          clear HI HXl hm
          go_wp2_with fail
          refine (join_crlf _ w.heap.size f k (n - f) L _ (fun _ => ⟨rfl, by omega⟩) (fun j hj => by rw [hb12.cell (p := ⟨w.heap.size, j, none⟩) hlt1]; exact HC.out j hj) (by omega) (by omega) (by omega) (fun y hy => Nat.le_trans (HX.out y hy) hs) (by omega)).mono ?_
          rintro e w3 ⟨t, rfl, ht, hb3⟩
          have hb13 := hb12.trans (hb3.mono (by omega))
          have hown3 := (hown.below hb2 (Nat.le_refl _)).below hb3 (Nat.le_refl _)
          have hsz3 := hb13.size
          have HJ : Box ((ss ++ [t]).map lst = ss.map lst ++ [joinC (((L.map lst).take k).drop f)]) := ⟨by rw [List.map_append, ← ht]; rfl⟩
          rw [← HJ.out] at HI'
          clear ht HJ HC HX
          go_wp2_with (at_builtin; refine wp_appT _ w1 rfl (.tmp 36) (.tmp 42) rfl w1.heap.size _ _ rfl hown3 t rfl (by omega) hsz3 hb13 ?_; intro v' w4 hown4 hb4)
          go_ret2
          refine ⟨?_, hb1.trans (hb4.mono hb1.size)⟩
          rw [HI'.out]
          exact ⟨_, _, rfl, hown4.mono hb1.size, rfl, by simp; omega⟩
    · have HE := Box.mk (cut_out HI.out (by rw [List.length_map]; omega))
      clear HI HC HX
      go_wp2
      go_ret2
      refine ⟨?_, hb1.trans (hb.mono hb1.size)⟩
      rw [HE.out]; rfl
end Go.Proofs.YtmjijnfhgedmlaaGreatDoor

namespace Go.Proofs.YtmjijnfhgedmlaaGreatDoor
open Go.RowKit

/-- One word more: what is written, how long its last line is, whether a word stands there. -/
def stepW (q : List UInt8 × Nat × Bool) (w : List UInt8) : List UInt8 × Nat × Bool :=
  if q.2.2 && decide (76 < q.2.1 + w.length) then (q.1 ++ [13, 10] ++ w, w.length, true) else (q.1 ++ w, q.2.1 + w.length, true)
def begin (n : List UInt8) : List UInt8 × Nat × Bool := (n ++ [58, 32], n.length + 2, false)
def linesW (n : List UInt8) (ws : List (List UInt8)) : List UInt8 × Nat × Bool := ws.foldl stepW (begin n)
/-- A field's lines. -/
def fieldS (n v : List UInt8) : List UInt8 := (linesW n (wordsS v)).1 ++ [13, 10]

theorem snoc_ind {α : Type} {P : List α → Prop} (h0 : P []) (h1 : ∀ l x, P l → P (l ++ [x])) (l : List α) : P l := by
  have key : ∀ l : List α, P l.reverse := fun l => by
    induction l with
    | nil => exact h0
    | cons x l ih => rw [List.reverse_cons]; exact h1 _ _ ih
  have := key l.reverse
  rwa [List.reverse_reverse] at this

theorem linesW_snoc (n : List UInt8) (ws : List (List UInt8)) (x : List UInt8) : linesW n (ws ++ [x]) = stepW (linesW n ws) x := by unfold linesW; rw [List.foldl_append]; rfl
theorem linesW_len (n : List UInt8) (ws : List (List UInt8)) : (linesW n ws).1.length ≤ n.length + 2 + ws.flatten.length + 2 * ws.length ∧ (linesW n ws).2.1 ≤ n.length + 2 + ws.flatten.length := by
  induction ws using snoc_ind with
  | h0 => simp [linesW, begin]
  | h1 ws x ih =>
    rw [linesW_snoc]
    unfold stepW
    simp only [List.flatten_append, List.length_append, List.flatten_cons, List.flatten_nil, List.length_cons, List.length_nil, List.append_nil]
    split
    · simp only [List.length_append, List.length_cons, List.length_nil]; omega
    · simp only [List.length_append]; omega
theorem linesW_some (n : List UInt8) (ws : List (List UInt8)) (h : ws ≠ []) : (linesW n ws).2.2 = true := by
  induction ws using snoc_ind with
  | h0 => exact absurd rfl h
  | h1 ws x ih =>
    rw [linesW_snoc]
    unfold stepW
    split <;> rfl
theorem flat_take (ws : List (List UInt8)) (k : Nat) : (ws.take k).flatten.length ≤ ws.flatten.length := by
  conv => rhs; rw [← List.take_append_drop k ws, List.flatten_append, List.length_append]
  omega
theorem fieldS_len (n v : List UInt8) : (fieldS n v).length ≤ n.length + 3 * v.length + 6 := by
  unfold fieldS
  have h1 := (linesW_len n (wordsS v)).1
  have h2 := wordsS_count v
  rw [wordsS_flat] at h1
  rw [List.length_append]
  simp only [List.length_cons, List.length_nil]
  omega

theorem bytes_at (W w' : World) (B b : Nat) (s : ByteArray) (l : List UInt8) (n cap : Nat) (hbk : b = W.heap.size) (hcap : cap = grownCap W s.size 0 5) (hn : n = s.size) (hs : s.data.toList = l) (hB : B ≤ W.heap.size) (hl : s.size ≤ 10000000) (e : w'.heap = W.heap.push (.cells (bytesRow s cap) 5 ((bytesRow s cap).size, (bytesRow s cap).size + 1))) :
    OwnG w' B (.slice (some ⟨b, 0, none⟩) n cap) l := by
  subst hbk
  subst hcap
  subst hs
  subst hn
  exact OwnG.bytes W w' B s hB hl e

theorem word_len (ws : List (List UInt8)) (x : List UInt8) (h : x ∈ ws) : x.length ≤ ws.flatten.length := by
  induction ws with
  | nil => exact absurd h (by simp)
  | cons y ws ih =>
    rw [List.flatten_cons, List.length_append]
    rcases List.mem_cons.1 h with rfl | h
    · omega
    · have := ih h; omega
theorem linesW_on (n : List UInt8) (ws : List (List UInt8)) (j : Nat) (x : List UInt8) (hx : ws[j]? = some x) {o : List UInt8} {g : Nat} {q : Bool} (h : linesW n (ws.take j) = (o, g, q)) : linesW n (ws.take (j + 1)) = if q && decide (76 < g + x.length) then (o ++ [13, 10] ++ x, x.length, true) else (o ++ x, g + x.length, true) := by
  rw [take_snocF ws j x hx, linesW_snoc, h]; rfl

set_option maxHeartbeats 3200000 in
set_option maxRecDepth 100000 in
theorem written_any (n v : ByteArray) (w : World) (hn : n.size ≤ 100000) (hv : v.size ≤ 100000) :
    Calls Tryz.prog 165 #[.agg #[.string n, .string v]] w fun e w' => ∃ x, e = .returned x ∧ OwnG w' w.heap.size x (fieldS n.data.toList v.data.toList) ∧ Below w.heap.size w w' := by
  obtain ⟨R, HR⟩ : ∃ R, Box (R = fieldS n.data.toList v.data.toList) := ⟨_, ⟨rfl⟩⟩
  rw [← HR.out]
  have hcv := run_bytes
  go_enter Tryz.func165, Tryz.ntmps165
  go_wp2_with fail
  have hB0 := bytes_at (w.alloc (.cells #[.string n, .string v] 75)) (((w.alloc (.cells #[.string n, .string v] 75)).alloc (.cells (bytesRow (n ++ ⟨#[58, 32]⟩) (grownCap (w.alloc (.cells #[.string n, .string v] 75)) (n.size + 2) 0 5)) 5 ((bytesRow (n ++ ⟨#[58, 32]⟩) (grownCap (w.alloc (.cells #[.string n, .string v] 75)) (n.size + 2) 0 5)).size, (bytesRow (n ++ ⟨#[58, 32]⟩) (grownCap (w.alloc (.cells #[.string n, .string v] 75)) (n.size + 2) 0 5)).size + 1))).drew) w.heap.size (w.heap.size + 1) (n ++ ⟨#[58, 32]⟩) (n.data.toList ++ [58, 32]) (n.size + 2) _ (by simp) (by simp [ByteArray.size_append, ByteArray.size_mk']) (by simp [ByteArray.size_append, ByteArray.size_mk']) (by simp) (by simp) (by simp [ByteArray.size_append, ByteArray.size_mk']; omega) rfl
  have hb0 : Below w.heap.size w (((w.alloc (.cells #[.string n, .string v] 75)).alloc (.cells (bytesRow (n ++ ⟨#[58, 32]⟩) (grownCap (w.alloc (.cells #[.string n, .string v] 75)) (n.size + 2) 0 5)) 5 ((bytesRow (n ++ ⟨#[58, 32]⟩) (grownCap (w.alloc (.cells #[.string n, .string v] 75)) (n.size + 2) 0 5)).size, (bytesRow (n ++ ⟨#[58, 32]⟩) (grownCap (w.alloc (.cells #[.string n, .string v] 75)) (n.size + 2) 0 5)).size + 1))).drew) := (((Below.refl _ _).alloc (Nat.le_refl _) _).alloc (by simp) _).drew
  clear hcv
  refine (words_any v _ (by omega)).mono ?_
  rintro e w1 ⟨x, ss, rfl, hownS, hss, hb1⟩
  have hB1 := hB0.below hb1 (Nat.le_refl _)
  have g1 : Below w.heap.size w w1 := hb0.trans (hb1.mono hb0.size)
  clear hB0 hb0 hb1
  have HSS := Box.mk hss
  have hne : ss ≠ [] := by
    intro h
    have := hss
    rw [h] at this
    unfold wordsS at this
    simp at this
  clear hss
  rcases hownS.shape with ⟨_, h⟩ | ⟨g, cap, rfl, hgB, hgs, hcap, hmax, hc⟩
  · exact absurd h hne
  have HC := Box.mk hc
  have hgB' : w.heap.size + 1 < g := by have := hgB; simp at this; omega
  have hcnt : ss.length ≤ v.size + 1 := by
    have := wordsS_count v.data.toList
    rw [← HSS.out, List.length_map, size_list] at this
    exact this
  have HL : Box (∀ j, ((ss.map lst).take j).flatten.length ≤ v.size) := ⟨fun j => by
    have := flat_take (ss.map lst) j
    rw [HSS.out, wordsS_flat, size_list, ← HSS.out] at this
    exact this⟩
  have HM : Box (∀ a ∈ ss, a.size ≤ v.size) := ⟨fun a ha => by
    have := word_len (ss.map lst) (lst a) (List.mem_map.2 ⟨a, ha, rfl⟩)
    rw [HSS.out, wordsS_flat, size_list] at this
    rw [lst, size_list] at this
    exact this⟩
  have HR' : Box (R = (linesW n.data.toList (ss.map lst)).1 ++ [13, 10]) := ⟨by rw [HR.out, HSS.out]; rfl⟩
  clear hc hne hownS hgB HSS HR
  go_wp2_with fail
  go_loopw [3, 4, 17] (fun x p i wr => ∃ (j gl : Nat) (o : List UInt8) (h : Nat), j ≤ ss.length ∧ i = .int .i64 j ∧ p = .int .i64 gl ∧ x.ownBlock = some h ∧ h ≠ g ∧ OwnG wr w.heap.size x o ∧ Below w.heap.size w wr ∧ g < wr.heap.size ∧ Box (∀ k (hk : k < ss.length), wr.cell? ⟨g, k, none⟩ = some (.string ss[k])) ∧ Box (linesW n.data.toList ((ss.map lst).take j) = (o, gl, decide (0 < j)))) (fun _ _ i _ => ss.length - (intOf i).toNat)
  case atStart => exact ⟨0, n.size + 2, n.data.toList ++ [58, 32], w.heap.size + 1, Nat.zero_le _, rfl, by go_num, by simp [Value.ownBlock], by omega, hB1, g1, hgs, HC, ⟨by unfold linesW begin; rw [size_list]; rfl⟩⟩
  case round =>
    obtain ⟨j, gl, o, h, hj, rfl, rfl, hx, hhg, hown, hb, hgw, HCw, HW⟩ := hrel
    have hsz := hb.size
    have hbd := linesW_len n.data.toList ((ss.map lst).take j)
    rw [HW.out, size_list] at hbd
    have hbd2 := HL.out j
    have hbd3 : ((ss.map lst).take j).length ≤ j := List.length_take_le _ _
    have hol : o.length ≤ 500000 := by have := hbd.1; simp only at this; omega
    have hgl : gl ≤ 300000 := by have := hbd.2; simp only at this; omega
    clear hbd hbd2 hbd3
    by_cases hlt : j < ss.length
    · have hcx := HCw.out j hlt
      obtain ⟨a, ha⟩ : ∃ a, a = ss[j] := ⟨_, rfl⟩
      rw [← ha] at hcx
      have has : a.size ≤ v.size := by rw [ha]; exact HM.out _ (List.getElem_mem hlt)
      have HN : Box (linesW n.data.toList ((ss.map lst).take (j + 1)) = if decide (0 < j) && decide (76 < gl + a.size) then (o ++ [13, 10] ++ a.data.toList, a.size, true) else (o ++ a.data.toList, gl + a.size, true)) := ⟨by
        have := linesW_on n.data.toList (ss.map lst) j (lst a) (by rw [List.getElem?_map, List.getElem?_eq_getElem hlt, ← ha]; rfl) HW.out
        rw [this, lst, size_list]⟩
      have hd : decide (0 < j + 1) = true := decide_eq_true (by omega)
      clear ha HW
      by_cases hbr : 0 < j ∧ 76 < gl + a.size
      · have HN' : Box (linesW n.data.toList ((ss.map lst).take (j + 1)) = (o ++ [13, 10] ++ a.data.toList, a.size, decide (0 < j + 1))) := ⟨by rw [HN.out, decide_eq_true hbr.1, decide_eq_true hbr.2, hd]; rfl⟩
        have z1 : (0 : Int) < (j : Int) := by omega
        have z2 : (76 : Int) < (gl : Int) + (a.size : Int) := by omega
        clear HN hbr hd
        go_wp2_with (first | (at_builtin; refine wp_appG _ w rfl (.tmp 31) _ rfl w.heap.size u3 _ rfl hown ⟨#[13, 10]⟩ rfl (by simp [ByteArray.size_mk']; omega) hsz hb ?_; intro v2 w2 hown2 hb2 hg2 ho2) | (at_builtin; refine wp_appG _ w rfl (.tmp 33) _ rfl w.heap.size v2 _ rfl hown2 a rfl (by simp; omega) hb2.size hb2 ?_; intro v3 w3 hown3 hb3 hg3 ho3))
        have hs2 : wr.heap.size ≤ w2.heap.size := hg2.size
        have hs3 : w2.heap.size ≤ w3.heap.size := hg3.size
        have hx2 : ∃ h2, v2.ownBlock = some h2 ∧ h2 ≠ g := by
          rcases ho2 with q | q
          · exact ⟨h, q.trans hx, hhg⟩
          · exact ⟨_, q, by omega⟩
        obtain ⟨h2, hx2, hh2⟩ := hx2
        have hx3 : ∃ h3, v3.ownBlock = some h3 ∧ h3 ≠ g := by
          rcases ho3 with q | q
          · exact ⟨h2, q.trans hx2, hh2⟩
          · exact ⟨_, q, by omega⟩
        obtain ⟨h3, hx3, hh3⟩ := hx3
        have HC3 : Box (∀ k (hk : k < ss.length), w3.cell? ⟨g, k, none⟩ = some (.string ss[k])) := ⟨fun k hk => by
          rw [grown_cell hg3 ⟨g, k, none⟩ (by show g < _; omega) (by rw [hx2]; simpa using hh2), grown_cell hg2 ⟨g, k, none⟩ hgw (by rw [hx]; simpa using hhg)]
          exact HCw.out k hk⟩
        go_roundw
        case rel => exact ⟨j + 1, a.size, _, h3, by omega, by go_num, by go_num, hx3, hh3, hown3, hb3, by omega, HC3, HN'⟩
        case measure => simp [intOf]; omega
      · have HN' : Box (linesW n.data.toList ((ss.map lst).take (j + 1)) = (o ++ a.data.toList, gl + a.size, decide (0 < j + 1))) := ⟨by
          rw [HN.out, if_neg, hd]
          intro hq
          simp at hq
          exact hbr hq⟩
        have hz : ¬ (0 : Int) < (j : Int) ∨ ((0 : Int) < (j : Int) ∧ ¬ (76 : Int) < (gl : Int) + (a.size : Int)) := by omega
        clear HN hbr hd
        rcases hz with z1 | ⟨z1, z2⟩
        all_goals
          go_wp2_with (at_builtin; refine wp_appG _ w rfl (.tmp 33) _ rfl w.heap.size u3 _ rfl hown a rfl (by omega) hsz hb ?_; intro v3 w3 hown3 hb3 hg3 ho3)
          have hs3 : wr.heap.size ≤ w3.heap.size := hg3.size
          have hx3 : ∃ h3, v3.ownBlock = some h3 ∧ h3 ≠ g := by
            rcases ho3 with q | q
            · exact ⟨h, q.trans hx, hhg⟩
            · exact ⟨_, q, by omega⟩
          obtain ⟨h3, hx3, hh3⟩ := hx3
          have HC3 : Box (∀ k (hk : k < ss.length), w3.cell? ⟨g, k, none⟩ = some (.string ss[k])) := ⟨fun k hk => by
            rw [grown_cell hg3 ⟨g, k, none⟩ hgw (by rw [hx]; simpa using hhg)]
            exact HCw.out k hk⟩
          go_roundw
          case rel => exact ⟨j + 1, gl + a.size, _, h3, by omega, by go_num, by go_num, hx3, hh3, hown3, hb3, by omega, HC3, HN'⟩
          case measure => simp [intOf]; omega
    · have HE : Box (R = o ++ [13, 10]) := ⟨by
        have := HW.out
        rw [List.take_of_length_le (by rw [List.length_map]; omega)] at this
        rw [HR'.out, this]⟩
      clear HW HCw HL HM HR'
      go_wp2_with (at_builtin; refine wp_appG _ w rfl (.tmp 41) _ rfl w.heap.size _ _ rfl hown ⟨#[13, 10]⟩ rfl (by simp [ByteArray.size_mk']; omega) hsz hb ?_; intro v3 w3 hown3 hb3 hg3 ho3)
      go_ret
      exact ⟨_, rfl, by rw [HE.out]; exact hown3, hb3⟩

end Go.Proofs.YtmjijnfhgedmlaaGreatDoor

namespace Go.Proofs.YtmjijnfhgedmlaaGreatDoor
open Go.RowKit

def Mid (L : List Fl) : Prop := L.length ≤ 1000 ∧ ∀ f ∈ L, f.1.size ≤ 2000 ∧ f.2.size ≤ 2000
theorem Mid.tiny {L : List Fl} (h : Mid L) : Tiny L := ⟨Nat.le_trans h.1 (by decide), fun f hf => ⟨Nat.le_trans (h.2 f hf).1 (by decide), Nat.le_trans (h.2 f hf).2 (by decide)⟩⟩
def fieldB (f : Fl) : List UInt8 := fieldS f.1.data.toList f.2.data.toList
/-- A head's lines, but for the last one. -/
def fieldsB (L : List Fl) : List UInt8 := (L.map fieldB).flatten
theorem fieldsB_snoc (L : List Fl) (k : Nat) (f : Fl) (h : L[k]? = some f) : fieldsB (L.take (k + 1)) = fieldsB (L.take k) ++ fieldB f := by
  unfold fieldsB
  rw [take_snocF L k f h]; simp
theorem fieldB_len (f : Fl) (h : f.1.size ≤ 2000 ∧ f.2.size ≤ 2000) : (fieldB f).length ≤ 8006 := by
  have := fieldS_len f.1.data.toList f.2.data.toList
  rw [size_list, size_list] at this
  unfold fieldB
  omega
theorem fieldsB_len (L : List Fl) (h : ∀ f ∈ L, f.1.size ≤ 2000 ∧ f.2.size ≤ 2000) : (fieldsB L).length ≤ L.length * 8006 := by
  induction L with
  | nil => exact Nat.le_refl _
  | cons f L ih =>
    have h1 := fieldB_len f (h f List.mem_cons_self)
    have h2 := ih fun g hg => h g (List.mem_cons_of_mem _ hg)
    have : fieldsB (f :: L) = fieldB f ++ fieldsB L := rfl
    rw [this, List.length_append, List.length_cons]
    omega

/-- An error with its place. -/
def ErrAt (w : World) (E : Value) (n p : Int) : Prop := ∃ b, E = .iface 124 (.pointer (some ⟨b, 0, none⟩)) ∧ w.cell? ⟨b, 0, none⟩ = some (.int .i64 n) ∧ w.cell? ⟨b, 1, none⟩ = some (.int .i64 p)
theorem ErrAt.below {w w' : World} {C : Nat} {E : Value} {n p : Int} (h : ErrAt w E n p) (hb : Below C w w') (hC : w.heap.size ≤ C) : ErrAt w' E n p := by
  obtain ⟨b, rfl, h1, h2⟩ := h
  have hlt : b < w.heap.size := World.block_lt_of_cell? w _ h1
  exact ⟨b, rfl, (hb.cell (p := ⟨b, 0, none⟩) (by show b < C; omega)).trans h1, (hb.cell (p := ⟨b, 1, none⟩) (by show b < C; omega)).trans h2⟩

set_option maxHeartbeats 1600000 in
set_option maxRecDepth 100000 in
theorem write_bad (v : Value) (L : List Fl) (w : World) (hM : Mid L) (hF : FL w v L) (hW : firstW L < L.length) :
    Calls Tryz.prog 121 #[v] w fun e w' => ∃ E, e = .returned (.tuple #[.string ⟨#[]⟩, E]) ∧ ErrAt w' E 1 (firstW L) ∧ Below w.heap.size w w' := by
  have hlen := hM.1
  have HF := Box.mk hF
  obtain ⟨A, cap, rfl, hcap, _⟩ := hF
  have hi : (firstW L : Int) < (L.length : Int) := by omega
  go_enter Tryz.func121, Tryz.ntmps121
  go_wp2_with fail
  refine (firstWrong_any _ L _ hM.tiny HF.out).mono ?_
  rintro e w1 ⟨rfl, hb⟩
  go_wp2
  go_ret2
  exact ⟨_, rfl, ⟨_, rfl, by simp, by simp⟩, hb.alloc hb.size _⟩

set_option maxHeartbeats 1600000 in
set_option maxRecDepth 100000 in
theorem write_good (v : Value) (L : List Fl) (w : World) (hM : Mid L) (hF : FL w v L) (hW : firstW L = L.length) :
    Calls Tryz.prog 121 #[v] w fun e w' => ∃ S : ByteArray, e = .returned (.tuple #[.string S, .nilIface]) ∧ S.data.toList = fieldsB L ++ [13, 10] ∧ Below w.heap.size w w' := by
  have hlen := hM.1
  have HM := Box.mk hM
  have HF := Box.mk hF
  have HW := Box.mk hW
  obtain ⟨A, cap, rfl, hcap, hcells⟩ := hF
  have HC := Box.mk hcells
  clear hcells hM hW
  go_enter Tryz.func121, Tryz.ntmps121
  go_wp2_with fail
  refine (firstWrong_any _ L _ HM.out.tiny HF.out).mono ?_
  rw [HW.out]
  rintro e w1 ⟨rfl, hb0⟩
  clear HF HW
  go_wp2
  go_loopw [5, 20] (fun x i wr => ∃ k : Nat, k ≤ L.length ∧ i = .int .i64 k ∧ Own wr w.heap.size x (fieldsB (L.take k)) ∧ Below w.heap.size w wr) (fun _ i _ => L.length - (intOf i).toNat)
  case atStart => exact ⟨0, Nat.zero_le _, rfl, Own.nil _ _, hb0⟩
  case round =>
    obtain ⟨k, hk, rfl, hown, hb⟩ := hrel
    have hsz := hb.size
    have hol : (fieldsB (L.take k)).length ≤ 1000 * 8006 := by
      have := fieldsB_len (L.take k) fun f hf => HM.out.2 f (List.mem_of_mem_take hf)
      have h2 : (L.take k).length ≤ L.length := List.length_take_le' _ _
      omega
    by_cases hlt : k < L.length
    · have hs := HM.out.2 L[k] (List.getElem_mem hlt)
      obtain ⟨b, off, n, v, rfl, HN, hn, hv, hbl, d0, d1⟩ := HC.out.elem HM.out.tiny hb k hlt
      have hnv : L[k] = (n, v) := by
        have := HN.out
        rw [List.getElem?_eq_getElem hlt] at this
        exact Option.some.inj this
      rw [hnv] at hs
      have HS : Box (fieldsB (L.take (k + 1)) = fieldsB (L.take k) ++ fieldS n.data.toList v.data.toList) := ⟨fieldsB_snoc L k _ HN.out⟩
      have hfl := fieldB_len (n, v) hs
      have hfl' : (fieldS n.data.toList v.data.toList).length ≤ 8006 := hfl
      have hs1 : n.size ≤ 2000 := hs.1
      have hs2 : v.size ≤ 2000 := hs.2
      have hb2 := hb.alloc hsz (.cells #[.string n, .string v] 75)
      have hownA : Own (wr.alloc (.cells #[.string n, .string v] 75)) w.heap.size u5 (fieldsB (L.take k)) := World.ownsRow.alloc hown _
      clear HC HM HN hnv hs hfl hn hv hown
      go_wp2_with fail
      refine (written_any n v _ (by omega) (by omega)).mono ?_
      rintro e w2 ⟨x, rfl, hx, hb3⟩
      have hown2 := hownA.below hb3 (Nat.le_refl _)
      have hb4 := hb2.trans (hb3.mono hb2.size)
      clear hownA hb2 hb3
      generalize fieldS n.data.toList v.data.toList = fl at hx HS hfl'
      have hxc := hx
      obtain ⟨g, c, cur, fz, rfl, hgB, _⟩ := hx
      go_wp2_with (at_builtin; refine wp_app _ w rfl (.tmp 24) (.tmp 26) rfl w.heap.size _ _ rfl hown2 ⟨g, 0, none⟩ _ c fl rfl rfl (fun j hj => by rw [Addr.add_lit, Nat.zero_add]; exact (hxc.cell j hj).1) (by omega) hb4.size hb4 ?_; intro v' w3 hown3 hb5 _)
      go_roundw
      case rel => exact ⟨k + 1, by omega, by go_num, by rw [HS.out]; exact hown3, hb5⟩
      case measure => simp [intOf]; omega
    · have HE : Box (fieldsB (L.take k) = fieldsB L) := ⟨by rw [List.take_of_length_le (by omega)]⟩
      rw [HE.out] at hown hol
      clear HC HM HE
      go_wp2_with (at_builtin; refine wp_appS _ w rfl (.tmp 29) _ rfl w.heap.size u5 _ rfl hown ⟨#[13, 10]⟩ rfl (by simp [ByteArray.size_mk']; omega) hsz hb ?_; intro v2 w2 hown2 hb2; have hcv := hown2.string)
      go_ret2
      exact ⟨_, rfl, rfl, hb2⟩

/- What the document's own way keeps. -/
def Phase (vl : List UInt8) (k : Nat) (ws : List (List UInt8)) (wd : List UInt8) : Prop :=
  (k ≤ vl.length ∧ ∃ f, wordsTo vl k = (ws, f) ∧ wd = (vl.drop f).take (k - f)) ∨ (k = vl.length + 1 ∧ ws = wordsS vl ∧ wd = [])
theorem Phase.start (vl : List UInt8) : Phase vl 0 [] [] := .inl ⟨Nat.zero_le _, 0, rfl, by simp⟩
theorem Phase.on {vl : List UInt8} {k : Nat} {ws : List (List UInt8)} {wd : List UInt8} (h : Phase vl k ws wd) (c : UInt8) (hc : vl[k]? = some c) (hcut : cutP vl k = false) : Phase vl (k + 1) ws (wd ++ [c]) := by
  have hk := (List.getElem?_eq_some_iff.1 hc).1
  rcases h with ⟨_, f, h1, rfl⟩ | ⟨h, _⟩
  · have hf := wordsTo_le vl k
    rw [h1] at hf
    refine .inl ⟨hk, f, by rw [wordsTo_succ _ _ h1, hcut]; rfl, ?_⟩
    have e : k + 1 - f = k - f + 1 := by simp only at hf; omega
    rw [e, List.take_add_one, List.getElem?_drop]
    have e2 : f + (k - f) = k := by simp only at hf; omega
    rw [e2, hc]; rfl
  · omega
theorem Phase.cut {vl : List UInt8} {k : Nat} {ws : List (List UInt8)} {wd : List UInt8} (h : Phase vl k ws wd) (c : UInt8) (hc : vl[k]? = some c) (hcut : cutP vl k = true) : Phase vl (k + 1) (ws ++ [wd]) [c] := by
  have hk := (List.getElem?_eq_some_iff.1 hc).1
  rcases h with ⟨_, f, h1, rfl⟩ | ⟨h, _⟩
  · refine .inl ⟨hk, k, by rw [wordsTo_succ _ _ h1, hcut]; rfl, ?_⟩
    have e : k + 1 - k = 0 + 1 := by omega
    rw [e, List.take_add_one, List.getElem?_drop, Nat.add_zero, hc]; rfl
  · omega
theorem Phase.last {vl : List UInt8} {ws : List (List UInt8)} {wd : List UInt8} (h : Phase vl vl.length ws wd) : Phase vl (vl.length + 1) (ws ++ [wd]) [] := by
  rcases h with ⟨_, f, h1, rfl⟩ | ⟨h, _⟩
  · refine .inr ⟨rfl, ?_, rfl⟩
    unfold wordsS
    rw [h1, List.take_of_length_le (by rw [List.length_drop]; exact Nat.le_refl _)]
  · omega
theorem Phase.len {vl : List UInt8} {k : Nat} {ws : List (List UInt8)} {wd : List UInt8} (h : Phase vl k ws wd) : ws.flatten.length ≤ vl.length ∧ ws.length ≤ vl.length + 1 ∧ wd.length ≤ vl.length := by
  rcases h with ⟨hk, f, h1, rfl⟩ | ⟨_, rfl, rfl⟩
  · have a := wordsTo_flat vl k
    have b := wordsTo_count vl k
    rw [h1] at a b
    simp only at a b
    refine ⟨by rw [a]; exact List.length_take_le' _ _, by omega, ?_⟩
    rw [List.length_take, List.length_drop]; omega
  · exact ⟨by rw [wordsS_flat]; exact Nat.le_refl _, wordsS_count vl, Nat.zero_le _⟩
theorem wordsTo_cut (v : List UInt8) (i : Nat) : (wordsTo v i).1 = [] ∨ (wordsTo v i).2 < i := by
  induction i with
  | zero => exact .inl rfl
  | succ i ih =>
    unfold wordsTo
    split
    · exact .inr (Nat.lt_succ_self _)
    · rcases ih with h | h
      · exact .inl h
      · exact .inr (by omega)
theorem Phase.word {vl : List UInt8} {k : Nat} {ws : List (List UInt8)} {wd : List UInt8} (h : Phase vl k ws wd) (hk : k ≤ vl.length) (hne : ws ≠ []) : 0 < wd.length := by
  rcases h with ⟨_, f, h1, rfl⟩ | ⟨h, _⟩
  · have a := wordsTo_cut vl k
    rw [h1] at a
    rcases a with a | a
    · exact absurd a hne
    · simp only at a
      rw [List.length_take, List.length_drop]; omega
  · omega
theorem Phase.end {vl : List UInt8} {k : Nat} {ws : List (List UInt8)} {wd : List UInt8} (h : Phase vl k ws wd) (hk : ¬ k ≤ vl.length) : ws = wordsS vl := by
  rcases h with ⟨h, _⟩ | ⟨_, h, _⟩
  · exact absurd h hk
  · exact h

def LineP (S0 nl : List UInt8) (ws : List (List UInt8)) (S line : List UInt8) : Prop := ∃ o, linesW nl ws = (o, line.length, !ws.isEmpty) ∧ S ++ line = S0 ++ o
theorem LineP.start (S0 nl : List UInt8) : LineP S0 nl [] S0 (nl ++ [58, 32]) := ⟨nl ++ [58, 32], by simp [linesW, begin], rfl⟩
theorem LineP.first {S0 nl S line : List UInt8} (h : LineP S0 nl [] S line) (wd : List UInt8) : LineP S0 nl ([] ++ [wd]) S (line ++ wd) := by
  obtain ⟨o, h1, h2⟩ := h
  refine ⟨o ++ wd, ?_, by rw [← List.append_assoc, h2, List.append_assoc]⟩
  rw [linesW_snoc, h1]
  simp [stepW]
theorem LineP.keep {S0 nl S line : List UInt8} {ws : List (List UInt8)} (h : LineP S0 nl ws S line) (wd : List UInt8) (hk : ¬ 76 < line.length + wd.length) : LineP S0 nl (ws ++ [wd]) S (line ++ wd) := by
  obtain ⟨o, h1, h2⟩ := h
  refine ⟨o ++ wd, ?_, by rw [← List.append_assoc, h2, List.append_assoc]⟩
  rw [linesW_snoc, h1]
  simp [stepW, hk]
theorem LineP.brk {S0 nl S line : List UInt8} {ws : List (List UInt8)} (h : LineP S0 nl ws S line) (wd : List UInt8) (hne : ws ≠ []) (hk : 76 < line.length + wd.length) : LineP S0 nl (ws ++ [wd]) (S ++ (line ++ [13, 10])) wd := by
  obtain ⟨o, h1, h2⟩ := h
  refine ⟨o ++ [13, 10] ++ wd, ?_, by rw [← List.append_assoc, h2]; simp⟩
  have : ws.isEmpty = false := by cases ws <;> simp_all
  rw [linesW_snoc, h1]
  simp [stepW, hk, this]
theorem LineP.len {S0 nl S line : List UInt8} {ws : List (List UInt8)} (h : LineP S0 nl ws S line) : S.length + line.length ≤ S0.length + (nl.length + 2 + ws.flatten.length + 2 * ws.length) := by
  obtain ⟨o, h1, h2⟩ := h
  have a := (linesW_len nl ws).1
  rw [h1] at a
  simp only at a
  have b := congrArg List.length h2
  rw [List.length_append, List.length_append] at b
  omega
theorem LineP.end {S0 nl S line vl : List UInt8} (h : LineP S0 nl (wordsS vl) S line) : S ++ (line ++ [13, 10]) = S0 ++ fieldS nl vl := by
  obtain ⟨o, h1, h2⟩ := h
  unfold fieldS
  rw [h1, ← List.append_assoc, h2, List.append_assoc]

end Go.Proofs.YtmjijnfhgedmlaaGreatDoor

