import Derived.Test.YtkmkhfgoihfkjaaDoorZ1
import Derived.Deep.RegionWith
namespace Go.Proofs.YtkmkhfgoihfkjaaDoor
open Go.RowKit

def rightF (f : Fl) : Bool := nameS f.1.data.toList && saysS f.2.data.toList
/-- Which field is the first that may not be. -/
def firstW (L : List Fl) : Nat := (L.takeWhile rightF).length

theorem firstW_stop (L : List Fl) (k : Nat) (f : Fl) (hk : L[k]? = some f) (h : (L.take k).all rightF = true) (h' : rightF f = false) : firstW L = k := by
  induction L generalizing k with
  | nil => exact absurd hk (by simp)
  | cons g L ih =>
    unfold firstW
    cases k with
    | zero =>
      simp at hk
      subst hk
      rw [List.takeWhile_cons, h']; rfl
    | succ k =>
      simp only [List.take_succ_cons, List.all_cons, Bool.and_eq_true] at h
      rw [List.takeWhile_cons, h.1]
      have := ih k (by simpa using hk) h.2
      unfold firstW at this
      show (L.takeWhile rightF).length + 1 = k + 1
      rw [this]
theorem firstW_all (L : List Fl) (h : L.all rightF = true) : firstW L = L.length := by
  induction L with
  | nil => rfl
  | cons g L ih =>
    simp only [List.all_cons, Bool.and_eq_true] at h
    have := ih h.2
    unfold firstW at this ⊢
    rw [List.takeWhile_cons, h.1]
    show (L.takeWhile rightF).length + 1 = L.length + 1
    rw [this]
theorem firstW_lt (L : List Fl) (k : Nat) (f : Fl) (hk : L[k]? = some f) (h : (L.take k).all rightF = true) (h' : rightF f = false) : firstW L ≠ L.length := by
  rw [firstW_stop L k f hk h h']
  have := (List.getElem?_eq_some_iff.1 hk).1
  omega
theorem all_onF (L : List Fl) (k : Nat) (f : Fl) (hk : L[k]? = some f) (h : (L.take k).all rightF = true) (h' : rightF f = true) : (L.take (k + 1)).all rightF = true := by
  rw [take_snocF L k f hk, List.all_append, h]; simp [h']

/-- The first field of a name. -/
def getS (L : List Fl) (s : List UInt8) : Option Fl := L.find? fun f => decide (smallS f.1.data.toList = smallS s)
def getV : Option Fl → Value
  | some f => .tuple #[.string f.2, .bool true]
  | none => .tuple #[.string ⟨#[]⟩, .bool false]
theorem getS_hit (L : List Fl) (s : List UInt8) (k : Nat) (f : Fl) (hk : L[k]? = some f) (h : ∀ g ∈ L.take k, smallS g.1.data.toList ≠ smallS s) (h' : smallS f.1.data.toList = smallS s) : getS L s = some f := by
  unfold getS
  rw [← List.take_append_drop k L, List.find?_append, List.find?_eq_none.2 (fun g hg => by simpa using h g hg)]
  have hl := (List.getElem?_eq_some_iff.1 hk).1
  rw [List.drop_eq_getElem_cons hl, (List.getElem?_eq_some_iff.1 hk).2]
  simp [h']
theorem getS_none (L : List Fl) (s : List UInt8) (h : ∀ g ∈ L, smallS g.1.data.toList ≠ smallS s) : getS L s = none := by
  unfold getS
  rw [List.find?_eq_none]
  exact fun g hg => by simpa using h g hg
theorem str_eq {a b : ByteArray} (h : a.data.toList = b.data.toList) : (a.toList == b.toList) = true := by rw [ByteArray.toList_eq, ByteArray.toList_eq, h]; simp
theorem str_ne {a b : ByteArray} (h : a.data.toList ≠ b.data.toList) : (a.toList == b.toList) = false := by rw [ByteArray.toList_eq, ByteArray.toList_eq]; simpa using h

end Go.Proofs.YtkmkhfgoihfkjaaDoor

namespace Go.Proofs.YtkmkhfgoihfkjaaDoor
open Go.RowKit

/- Lists of texts of the call's own. -/
def OwnS (w : World) (B : Nat) (v : Value) (ss : List ByteArray) : Prop := w.ownsRow B 9 1 v ss.length (ss.map Value.string)
theorem Tryd.infoStr : (Tryd.prog.info? 9).map (fun i => (i.zero, i.size, i.bytes)) = some (some (.string ⟨#[]⟩), 1, 16) := by kernel_rfl
theorem OwnS.nil (w : World) (B : Nat) : OwnS w B (.slice none 0 0) [] := World.ownsRow_nil _ _ _ _
theorem OwnS.below {w w' : World} {B C : Nat} {v : Value} {l : List ByteArray} (h : OwnS w B v l) (hb : Below C w w') (hC : w.heap.size ≤ C) : OwnS w' B v l := by
  obtain ⟨h1, h2⟩ := h
  refine ⟨h1, ?_⟩
  rcases h2 with h2 | ⟨g, cap, cur, a, b, c, d⟩
  · exact .inl h2
  · refine .inr ⟨g, cap, cur, a, b, ?_, d⟩
    rw [hb.block g ?_]
    · exact c
    · have := (Array.getElem?_eq_some_iff.1 c).1
      omega
theorem OwnS.shape {w : World} {B : Nat} {v : Value} {l : List ByteArray} (h : OwnS w B v l) :
    (v = .slice none 0 0 ∧ l = []) ∨ ∃ g cap, v = .slice (some ⟨g, 0, none⟩) l.length cap ∧ B ≤ g ∧ g < w.heap.size ∧ l.length ≤ cap ∧ cap ≤ maxLen ∧ ∀ k (hk : k < l.length), w.cell? ⟨g, k, none⟩ = some (.string l[k]) := by
  rcases h.2 with ⟨a, b⟩ | ⟨g, cap, cur, a, b, c, d, e, _⟩
  · exact .inl ⟨a, List.eq_nil_of_length_eq_zero b⟩
  · refine .inr ⟨g, cap, a, b, (Array.getElem?_eq_some_iff.1 c).1, d, e, fun k hk => ?_⟩
    have h' := h
    rw [a] at h'
    have hc := World.ownsRow.cellAt h' k (by omega)
    rw [hc]
    simp [List.getElem?_eq_getElem hk]
/-- 'append(v, s)', s a text, laid in a block of its own first. -/
theorem wp_appT {ops : Array Oper} {rest : List Oper} {o : Oper} {a : Act} {Q : Exit → Act → World → Prop} (wr w0 : World) (hgd : o.guard = none) (s x : Operand) (ho : o.op = .call { callee := .builtin .append, args := #[s, x], argTypes := #[22, 22] })
    (B : Nat) (v : Value) (l : List ByteArray) (hs : a.eval s = v) (hown : OwnS wr B v l) (t : ByteArray) (hx : a.eval x = .slice (some ⟨wr.heap.size, 0, none⟩) 1 1) (hl : l.length + 1 ≤ 10000000) (hB : B ≤ wr.heap.size) (hb : Below B w0 wr)
    (h : ∀ v' w', OwnS w' B v' (l ++ [t]) → Below B w0 w' → wpList Tryd.prog ops Q rest (a.put o.dst v') w') : wpList Tryd.prog ops Q (o :: rest) a (wr.alloc (.cells #[.string t] 9)) := by
  obtain ⟨i0, hi, hz0, hz1, hz2⟩ := info_parts Tryd.infoStr
  refine wpList_append_own (wr.alloc (.cells #[.string t] 9)) hgd s x 22 ho B 9 i0 (.string ⟨#[]⟩) 1 16 Tryd.underlying22 hi hz0 hz1 hz2 rfl (by decide) v l.length (l.map Value.string) hs (World.ownsRow.alloc hown _) ⟨wr.heap.size, 0, none⟩ 1 1 [.string t] hx rfl ?_ (by intro u hu; rw [List.mem_singleton.1 hu]; rfl) (by unfold maxLen; omega) (by omega) (by simp; omega) ?_
  · intro j u hj
    have hj0 : j = 0 := by
      have := (List.getElem?_eq_some_iff.1 hj).1
      simp at this; exact this
    subst hj0
    simp at hj
    subst hj
    simp [Addr.add]
  · intro v' w' h1 h2 _
    refine h v' w' ?_ ((hb.alloc hB _).grown h2 (by simp; omega) (fun k hk => (hown.lt k hk).1))
    unfold OwnS
    rw [List.length_append, List.map_append]
    exact h1

/- Words. -/
def cutP (v : List UInt8) (i : Nat) : Bool := decide (0 < i) && (v.getD i 0 == 32) && (v.getD (i - 1) 0 != 32)
def wordsTo (v : List UInt8) : Nat → List (List UInt8) × Nat
  | 0 => ([], 0)
  | i + 1 => if cutP v i then ((wordsTo v i).1 ++ [(v.drop (wordsTo v i).2).take (i - (wordsTo v i).2)], i) else wordsTo v i
def wordsS (v : List UInt8) : List (List UInt8) := (wordsTo v v.length).1 ++ [v.drop (wordsTo v v.length).2]

theorem wordsTo_le (v : List UInt8) (i : Nat) : (wordsTo v i).2 ≤ i := by
  induction i with
  | zero => exact Nat.le_refl _
  | succ i ih =>
    unfold wordsTo
    split
    · exact Nat.le_succ _
    · omega
theorem wordsTo_count (v : List UInt8) (i : Nat) : (wordsTo v i).1.length ≤ i := by
  induction i with
  | zero => exact Nat.le_refl _
  | succ i ih =>
    unfold wordsTo
    split
    · simp; omega
    · omega
theorem wordsTo_flat (v : List UInt8) (i : Nat) : (wordsTo v i).1.flatten = v.take (wordsTo v i).2 := by
  induction i with
  | zero => rfl
  | succ i ih =>
    have hle := wordsTo_le v i
    unfold wordsTo
    split
    · simp only [List.flatten_append, ih, List.flatten_cons, List.flatten_nil, List.append_nil]
      have : i = (wordsTo v i).2 + (i - (wordsTo v i).2) := by omega
      conv => rhs; rw [this, List.take_add]
    · exact ih
theorem wordsS_flat (v : List UInt8) : (wordsS v).flatten = v := by
  unfold wordsS
  rw [List.flatten_append, wordsTo_flat]
  simp
theorem wordsS_count (v : List UInt8) : (wordsS v).length ≤ v.length + 1 := by
  unfold wordsS
  rw [List.length_append]
  have := wordsTo_count v v.length
  simp; omega
theorem wordsTo_succ (v : List UInt8) (i : Nat) {ws : List (List UInt8)} {f : Nat} (h : wordsTo v i = (ws, f)) : wordsTo v (i + 1) = if cutP v i then (ws ++ [(v.drop f).take (i - f)], i) else (ws, f) := by
  rw [wordsTo, h]
theorem cutP_at (s : ByteArray) (k : Nat) (h0 : 0 < k) (h : k < s.size) : cutP s.data.toList k = (((s[k].toNat : Int) == 32) && ((s[k - 1].toNat : Int) != 32)) := by
  have e1 : s.data.toList.getD k 0 = s[k] := by rw [List.getD_eq_getElem?_getD, getL s k h]; rfl
  have e2 : s.data.toList.getD (k - 1) 0 = s[k - 1] := by rw [List.getD_eq_getElem?_getD, getL s (k - 1) (by omega)]; rfl
  unfold cutP
  rw [e1, e2, decide_eq_true h0, Bool.true_and]
  have a := u8eq s[k] 32
  have b := u8bne s[k - 1] 32
  rw [← a, ← b]; rfl

def lst (b : ByteArray) : List UInt8 := b.data.toList

end Go.Proofs.YtkmkhfgoihfkjaaDoor

