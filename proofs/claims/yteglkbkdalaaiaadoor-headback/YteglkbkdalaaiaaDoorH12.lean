import Derived.Test.YteglkbkdalaaiaaDoorH6
import Derived.Test.YteglkbkdalaaiaaDoorH11
namespace Go.Proofs.YteglkbkdalaaiaaDoor
open Go.RowKit

/- What the document says of reading. -/
abbrev FB := List UInt8 × List UInt8
def crlfL : List UInt8 := [13, 10]
def hlF : Nat → List UInt8 → List (List UInt8) × List UInt8
  | 0, s => ([], s)
  | n + 1, s => if s = [] then ([], []) else if (Lib.cut s crlfL).1 = [] then ([], (Lib.cut s crlfL).2.1) else ((Lib.cut s crlfL).1 :: (hlF n (Lib.cut s crlfL).2.1).1, (hlF n (Lib.cut s crlfL).2.1).2)
/-- The lines of a head, and what stands behind it. -/
def hl (s : List UInt8) : List (List UInt8) × List UInt8 := hlF s.length s
theorem cut_lt (s : List UInt8) (h : s ≠ []) : (Lib.cut s crlfL).2.1.length < s.length := by
  have h0 : 0 < s.length := List.length_pos_iff.2 h
  rcases cut_parts s crlfL with ⟨_, h1⟩ | ⟨_, _, h1⟩
  · have : crlfL.length = 2 := rfl
    omega
  · rw [h1]; exact h0
theorem hlF_eq (k : Nat) : ∀ n s, s.length ≤ k → s.length ≤ n → hlF n s = hlF s.length s := by
  induction k with
  | zero =>
    intro n s h _
    obtain rfl : s = [] := List.eq_nil_of_length_eq_zero (by omega)
    cases n <;> rfl
  | succ k ih =>
    intro n s h1 h2
    by_cases hs : s = []
    · subst hs
      cases n <;> rfl
    · have hp : 0 < s.length := List.length_pos_iff.2 hs
      have hc := cut_lt s hs
      obtain ⟨n', rfl⟩ : ∃ n', n = n' + 1 := ⟨n - 1, by omega⟩
      obtain ⟨m, hm⟩ : ∃ m, s.length = m + 1 := ⟨s.length - 1, by omega⟩
      rw [hm]
      unfold hlF
      rw [ih n' _ (by omega) (by omega), ih m _ (by omega) (by omega)]
theorem hl_nil : hl [] = ([], []) := rfl
theorem hl_stop (s : List UInt8) (h : s ≠ []) (h' : (Lib.cut s crlfL).1 = []) : hl s = ([], (Lib.cut s crlfL).2.1) := by
  have hp : 0 < s.length := List.length_pos_iff.2 h
  obtain ⟨m, hm⟩ : ∃ m, s.length = m + 1 := ⟨s.length - 1, by omega⟩
  unfold hl
  rw [hm, hlF, if_neg h, if_pos h']
theorem hl_on (s : List UInt8) (h : s ≠ []) (h' : (Lib.cut s crlfL).1 ≠ []) : hl s = ((Lib.cut s crlfL).1 :: (hl (Lib.cut s crlfL).2.1).1, (hl (Lib.cut s crlfL).2.1).2) := by
  have hp : 0 < s.length := List.length_pos_iff.2 h
  have hc := cut_lt s h
  obtain ⟨m, hm⟩ : ∃ m, s.length = m + 1 := ⟨s.length - 1, by omega⟩
  unfold hl
  rw [hm, hlF, if_neg h, if_neg h', hlF_eq m m _ (by omega) (by omega)]

def fieldOf (x : List UInt8) : Option FB := if (Lib.cut x [58]).2.2 && nameS (Lib.cut x [58]).1 then some ((Lib.cut x [58]).1, (Lib.cut x [58]).2.1) else none
def goes (x : List UInt8) : Bool := match x with | c :: _ => blk c | [] => false
def addLast (acc : List FB) (x : List UInt8) : List FB := match acc.getLast? with | some f => acc.dropLast ++ [(f.1, f.2 ++ x)] | none => acc
/-- The fields that lines are, or which line is none. -/
def refRun : List (List UInt8) → Nat → List FB → Except Nat (List FB)
  | [], _, acc => .ok acc
  | x :: xs, n, acc => if goes x && !acc.isEmpty then refRun xs (n + 1) (addLast acc x) else match fieldOf x with | none => .error n | some f => refRun xs (n + 1) (acc ++ [f])
def fl2 (f : Fl) : FB := (f.1.data.toList, f.2.data.toList)

theorem addLast_snoc (M : List FB) (f : FB) (x : List UInt8) : addLast (M ++ [f]) x = M ++ [(f.1, f.2 ++ x)] := by simp [addLast]
theorem refRun_field {x : List UInt8} {xs : List (List UInt8)} {n : Nat} {acc : List FB} {f : FB} (h : fieldOf x = some f) (hg : (goes x && !acc.isEmpty) = false) : refRun (x :: xs) n acc = refRun xs (n + 1) (acc ++ [f]) := by
  rw [refRun, hg, h]; rfl
theorem refRun_none {x : List UInt8} {xs : List (List UInt8)} {n : Nat} {acc : List FB} (h : fieldOf x = none) (hg : (goes x && !acc.isEmpty) = false) : refRun (x :: xs) n acc = .error n := by
  rw [refRun, hg, h]; rfl
theorem refRun_goes (zs : List (List UInt8)) : ∀ (ys : List (List UInt8)) (n : Nat) (acc : List FB) (f : FB), (∀ z ∈ zs, goes z = true) → refRun (zs ++ ys) n (acc ++ [f]) = refRun ys (n + zs.length) (acc ++ [(f.1, f.2 ++ zs.flatten)]) := by
  induction zs with
  | nil => intro ys n acc f _; simp
  | cons z zs ih =>
    intro ys n acc f h
    rw [List.cons_append, refRun, h z List.mem_cons_self]
    have e : (true && !(acc ++ [f]).isEmpty) = true := by simp
    rw [e, if_pos rfl, addLast_snoc, ih ys (n + 1) acc _ (fun y hy => h y (List.mem_cons_of_mem _ hy))]
    simp only [List.length_cons, List.flatten_cons, List.append_assoc]
    congr 1
    omega
theorem goes_of (x : ByteArray) (h : 0 < x.size) : goes x.data.toList = blk x[0] := by rw [head_split x h]; rfl

theorem cut_le (s : List UInt8) : (Lib.cut s crlfL).1.length + (Lib.cut s crlfL).2.1.length ≤ s.length := by
  rcases cut_parts s crlfL with ⟨_, h1⟩ | ⟨_, h1, h2⟩
  · omega
  · rw [h1, h2]; simp
theorem hl_flat (k : Nat) : ∀ s, s.length ≤ k → (hl s).1.flatten.length + (hl s).2.length ≤ s.length := by
  induction k with
  | zero =>
    intro s h
    obtain rfl : s = [] := List.eq_nil_of_length_eq_zero (by omega)
    simp [hl_nil]
  | succ k ih =>
    intro s h
    have hle := cut_le s
    by_cases hs : s = []
    · subst hs; simp [hl_nil]
    · by_cases hc : (Lib.cut s crlfL).1 = []
      · rw [hl_stop s hs hc]
        simp; omega
      · have hlt := cut_lt s hs
        have := ih (Lib.cut s crlfL).2.1 (by omega)
        rw [hl_on s hs hc]
        simp only [List.flatten_cons, List.length_append]
        omega
theorem hl_some (k : Nat) : ∀ s, s.length ≤ k → ∀ x ∈ (hl s).1, x ≠ [] := by
  induction k with
  | zero =>
    intro s h x hx
    obtain rfl : s = [] := List.eq_nil_of_length_eq_zero (by omega)
    simp [hl_nil] at hx
  | succ k ih =>
    intro s h x hx
    by_cases hs : s = []
    · subst hs; simp [hl_nil] at hx
    · by_cases hc : (Lib.cut s crlfL).1 = []
      · rw [hl_stop s hs hc] at hx
        simp at hx
      · have hlt := cut_lt s hs
        rw [hl_on s hs hc] at hx
        rcases List.mem_cons.1 hx with rfl | hx
        · exact hc
        · exact ih _ (by omega) x hx
theorem count_flat (ws : List (List UInt8)) (h : ∀ x ∈ ws, x ≠ []) : ws.length ≤ ws.flatten.length := by
  induction ws with
  | nil => simp
  | cons x ws ih =>
    have h1 := ih fun y hy => h y (List.mem_cons_of_mem _ hy)
    have h2 : 0 < x.length := List.length_pos_iff.2 (h x List.mem_cons_self)
    rw [List.length_cons, List.flatten_cons, List.length_append]
    omega

theorem list_ne (t : ByteArray) (h : ¬ t.size = 0) : t.data.toList ≠ [] := fun e => h (by rw [← size_list, e]; rfl)

set_option maxHeartbeats 1600000 in
set_option maxRecDepth 100000 in
theorem headLines_any (s : ByteArray) (w : World) (hs : s.size ≤ 100000) (hm : Max w) :
    Calls Tryd.prog 46 #[.string s] w fun e w' => ∃ v ss r, e = .returned (.tuple #[v, .string r]) ∧ OwnS w' w.heap.size v ss ∧ ss.map lst = (hl s.data.toList).1 ∧ r.data.toList = (hl s.data.toList).2 ∧ Below w.heap.size w w' := by
  have hw0 := hm.1
  have HMx := Box.mk hm
  clear hm
  go_enter Tryd.func46, Tryd.ntmps46
  go_wp2
  go_loopw [0, 4] (fun x v wr => ∃ (t : ByteArray) (ss : List ByteArray), x = .string t ∧ OwnS wr w.heap.size v ss ∧ t.size ≤ s.size ∧ ss.length + t.size ≤ s.size ∧ Below w.heap.size w wr ∧ Box (ss.map lst ++ (hl t.data.toList).1 = (hl s.data.toList).1 ∧ (hl t.data.toList).2 = (hl s.data.toList).2)) (fun x _ _ => strSize x)
  case atStart => exact ⟨s, [], rfl, OwnS.nil _ _, Nat.le_refl _, by simp, Below.refl _ _, ⟨rfl, rfl⟩⟩
  case round =>
    obtain ⟨t, ss, rfl, hown, hts, hss, hb, HH⟩ := hrel
    have hsz := hb.size
    by_cases h0 : t.size = 0
    · have he := empty_of t h0
      have HE : Box (ss.map lst = (hl s.data.toList).1 ∧ t.data.toList = (hl s.data.toList).2) := ⟨by
        have := HH.out
        rw [data_nil t h0, hl_nil] at this
        rw [data_nil t h0]
        exact ⟨by simpa using this.1, this.2⟩⟩
      clear HH HMx
      go_wp2
      go_ret2
      exact ⟨_, _, _, rfl, hown, HE.out.1, HE.out.2, hb⟩
    · have he := nonempty_of t h0
      have HN := Box.mk (list_ne t h0)
      go_wp2_with fail
      refine (cut_any t ⟨#[13, 10]⟩ _ (by omega) (HMx.out.below hb hw0)).mono ?_
      rintro e w1 ⟨a, b, f, rfl, hc, ha, hbs, hb1⟩
      have hlt := cut_lt t.data.toList HN.out
      have hle := cut_le t.data.toList
      have hc' : Lib.cut t.data.toList crlfL = (a.data.toList, b.data.toList, f) := hc
      rw [hc'] at hlt hle
      simp only [size_list] at hlt hle
      have hb2 := hb.trans (hb1.mono hsz)
      have hown1 := hown.below hb1 (Nat.le_refl _)
      have hsz2 := hb2.size
      by_cases ha0 : a.size = 0
      · have hea := empty_of a ha0
        have HE : Box (ss.map lst = (hl s.data.toList).1 ∧ b.data.toList = (hl s.data.toList).2) := ⟨by
          have := HH.out
          rw [hl_stop _ HN.out (by rw [hc']; exact data_nil a ha0), hc'] at this
          exact ⟨by simpa using this.1, this.2⟩⟩
        clear HH HN HMx hc hc' hown
        go_wp2
        go_ret2
        exact ⟨_, _, _, rfl, hown1, HE.out.1, HE.out.2, hb2⟩
      · have hea := nonempty_of a ha0
        have HE : Box ((ss ++ [a]).map lst ++ (hl b.data.toList).1 = (hl s.data.toList).1 ∧ (hl b.data.toList).2 = (hl s.data.toList).2) := ⟨by
          have := HH.out
          rw [hl_on _ HN.out (by rw [hc']; exact list_ne a ha0), hc'] at this
          refine ⟨?_, this.2⟩
          rw [← this.1]
          simp [lst]⟩
        have ha1 : 0 < a.size := by omega
        clear HH HN HMx hc hc' hown
        go_wp2_with (at_builtin; refine wp_appT _ w rfl (.tmp 16) (.tmp 18) rfl w.heap.size _ _ rfl hown1 a rfl (by omega) hsz2 hb2 ?_; intro v' w3 hown3 hb3)
        go_roundw
        case rel => exact ⟨b, ss ++ [a], rfl, hown3, by omega, by simp; omega, hb3, HE⟩
        case measure => simp [strSize]; omega

set_option maxHeartbeats 400000 in
theorem goesOn_any (x : ByteArray) (w : World) (h : 0 < x.size) :
    Calls Tryd.prog 48 #[.string x] w fun e w' => e = .returned (.bool (goes x.data.toList)) ∧ w' = w := by
  have HG := Box.mk (goes_of x h)
  go_enter Tryd.func48, Tryd.ntmps48
  go_wp2_with (go_at_call 76; refine (hBlank_any _ _).mono ?_; rintro e w' ⟨rfl, rfl⟩)
  go_ret
  exact ⟨ret_bool HG.out.symm, rfl⟩

end Go.Proofs.YteglkbkdalaaiaaDoor
