import Derived.Test.YtpdfghmfhljfiaaDoorB0
import Derived.Lib.Strings
import Derived.Deep.Slices
namespace Go.Proofs.YtpdfghmfhljfiaaDoor
open Go.RowKit

/-- A fact kept from the walk, shut to unfolding. -/
structure Box (p : Prop) : Prop where
  out : p

def strSize : Value → Nat
  | .string t => t.size
  | _ => 0

theorem u8eq (c d : UInt8) : ((c.toNat : Int) == (d.toNat : Int)) = (c == d) := by
  rw [Bool.eq_iff_iff]; simp [← UInt8.toNat_inj]; omega
theorem u8bne (c d : UInt8) : ((c.toNat : Int) != (d.toNat : Int)) = (c != d) := by
  show (!((c.toNat : Int) == (d.toNat : Int))) = !(c == d)
  rw [u8eq]
theorem size_list (s : ByteArray) : s.data.toList.length = s.size := by rw [Array.length_toList]; rfl
theorem getL (s : ByteArray) (k : Nat) (h : k < s.size) : s.data.toList[k]? = some s[k] := by
  rw [List.getElem?_eq_getElem (by rw [size_list]; exact h)]; rfl
theorem take_snoc (s : ByteArray) (k : Nat) (h : k < s.size) : s.data.toList.take (k + 1) = s.data.toList.take k ++ [s[k]] := by
  rw [List.take_add_one, getL s k h]; rfl
theorem take_all (s : ByteArray) (k : Nat) (h : ¬ k < s.size) : s.data.toList.take k = s.data.toList := List.take_of_length_le (by rw [size_list]; omega)
theorem eta (b : ByteArray) : (⟨b.data.toList.toArray⟩ : ByteArray) = b := by simp
theorem bytes_eq {a b : ByteArray} (h : a.data.toList = b.data.toList) : a = b := by rw [← eta a, ← eta b, h]
theorem empty_of (t : ByteArray) (h : t.size = 0) : t.toList.isEmpty = true := by
  rw [ByteArray.toList_eq, List.isEmpty_iff]
  exact List.eq_nil_of_length_eq_zero (by rw [size_list]; exact h)
theorem nonempty_of (t : ByteArray) (h : ¬ t.size = 0) : t.toList.isEmpty = false := by
  rw [ByteArray.toList_eq, ← Bool.not_eq_true, List.isEmpty_iff]
  intro e
  apply h
  rw [← size_list, e]; rfl
theorem data_nil (t : ByteArray) (h : t.size = 0) : t.data.toList = [] := List.eq_nil_of_length_eq_zero (by rw [size_list]; exact h)
theorem extract_list (t : ByteArray) (a b : Nat) : (t.extract a b).data.toList = (t.data.toList.drop a).take (b - a) := by
  simp [ByteArray.data_extract, Array.toList_extract, List.extract_eq_take_drop]
theorem head_split (t : ByteArray) (h : 0 < t.size) : t.data.toList = t[0] :: (t.extract 1 t.size).data.toList := by
  rw [extract_list, List.take_of_length_le (by rw [List.length_drop, size_list]; exact Nat.le_refl _)]
  have h1 : 0 < t.data.toList.length := by rw [size_list]; exact h
  have : t.data.toList = t.data.toList[0] :: t.data.toList.drop 1 := by rw [List.getElem_cons_drop]; rfl
  exact this
theorem last_split (t : ByteArray) (h : 0 < t.size) : t.data.toList = (t.extract 0 (t.size - 1)).data.toList ++ [t[t.size - 1]] := by
  rw [extract_list]
  have := take_snoc t (t.size - 1) (by omega)
  rw [Nat.sub_add_cancel h, List.take_of_length_le (by rw [size_list]; omega)] at this
  simpa using this

/-- 'string([]byte{c})'. -/
theorem one_str (w : World) (c : UInt8) (z : Int) (hz : z = (c.toNat : Int)) : (convert 86 9 (.slice (some ⟨w.heap.size, 0, none⟩) 1 1)).run Tryd.prog (w.alloc (.cells #[.int .u8 z] 5)) = .ok (.string ⟨#[c]⟩) (w.alloc (.cells #[.int .u8 z] 5)) := by
  subst hz
  exact (Own.lit w w.heap.size [c] 1 rfl (Nat.le_refl _) (by decide)).string

/- What the document says of bytes. -/
def blk (c : UInt8) : Bool := c == 32 || c == 9
def nameC (c : UInt8) : Bool := decide (33 ≤ c.toNat) && decide (c.toNat ≤ 126) && decide (c.toNat ≠ 58)
def sayC (c : UInt8) : Bool := (decide (32 ≤ c.toNat) || decide (c.toNat = 9)) && decide (c.toNat ≠ 127)
def smallC (c : UInt8) : UInt8 := if 65 ≤ c.toNat ∧ c.toNat ≤ 90 then UInt8.ofNat (c.toNat + 32) else c
def nameS (l : List UInt8) : Bool := !l.isEmpty && l.all nameC
/-- Without blanks and tabs at its ends. -/
def dropB (l : List UInt8) : List UInt8 := l.dropWhile blk
def dropE (l : List UInt8) : List UInt8 := (l.reverse.dropWhile blk).reverse
def trimS (l : List UInt8) : List UInt8 := dropE (dropB l)
def saysS (l : List UInt8) : Bool := l.all sayC && decide (trimS l = l)
def smallS (l : List UInt8) : List UInt8 := l.map smallC

theorem blk_yes (c : UInt8) (h : blk c = true) : ((c.toNat : Int) == 32) = true ∨ (((c.toNat : Int) == 32) = false ∧ ((c.toNat : Int) == 9) = true) := by
  unfold blk at h
  simp only [Bool.or_eq_true, beq_iff_eq] at h
  rcases h with rfl | rfl
  · exact .inl rfl
  · exact .inr ⟨rfl, rfl⟩
theorem blk_no (c : UInt8) (h : blk c = false) : ((c.toNat : Int) == 32) = false ∧ ((c.toNat : Int) == 9) = false := by
  unfold blk at h
  simp only [Bool.or_eq_false_iff] at h
  have e1 := u8eq c 32
  have e2 := u8eq c 9
  exact ⟨e1.trans h.1, e2.trans h.2⟩
theorem beqI {a b : Int} (h : a = b) : (a == b) = true := by rw [beq_iff_eq]; exact h
theorem bneI {a b : Int} (h : a ≠ b) : (a == b) = false := by rw [beq_eq_false_iff_ne]; exact h
theorem nameC_yes (c : UInt8) (h : nameC c = true) : 33 ≤ (c.toNat : Int) ∧ (c.toNat : Int) ≤ 126 ∧ ((c.toNat : Int) == 58) = false := by
  simp only [nameC, Bool.and_eq_true, decide_eq_true_eq] at h
  exact ⟨by omega, by omega, bneI (by omega)⟩
theorem nameC_no (c : UInt8) (h : nameC c = false) : (c.toNat : Int) < 33 ∨ (33 ≤ (c.toNat : Int) ∧ 126 < (c.toNat : Int)) ∨ (33 ≤ (c.toNat : Int) ∧ (c.toNat : Int) ≤ 126 ∧ ((c.toNat : Int) == 58) = true) := by
  have h' : ¬ (33 ≤ c.toNat ∧ c.toNat ≤ 126 ∧ c.toNat ≠ 58) := by
    intro hh
    rw [nameC, decide_eq_true hh.1, decide_eq_true hh.2.1, decide_eq_true hh.2.2] at h
    cases h
  by_cases h1 : (c.toNat : Int) < 33
  · exact .inl h1
  · by_cases h2 : 126 < (c.toNat : Int)
    · exact .inr (.inl ⟨by omega, h2⟩)
    · exact .inr (.inr ⟨by omega, by omega, beqI (by omega)⟩)
theorem sayC_yes (c : UInt8) (h : sayC c = true) : (32 ≤ (c.toNat : Int) ∧ ((c.toNat : Int) == 127) = false) ∨ ((c.toNat : Int) < 32 ∧ ((c.toNat : Int) != 9) = false ∧ ((c.toNat : Int) == 127) = false) := by
  simp only [sayC, Bool.and_eq_true, Bool.or_eq_true, decide_eq_true_eq] at h
  by_cases h1 : 32 ≤ (c.toNat : Int)
  · exact .inl ⟨h1, bneI (by omega)⟩
  · exact .inr ⟨by omega, by rw [bne, beqI (by omega)]; rfl, bneI (by omega)⟩
theorem sayC_no (c : UInt8) (h : sayC c = false) : (32 ≤ (c.toNat : Int) ∧ ((c.toNat : Int) == 127) = true) ∨ ((c.toNat : Int) < 32 ∧ ((c.toNat : Int) != 9) = true) := by
  have h' : ¬ ((32 ≤ c.toNat ∨ c.toNat = 9) ∧ c.toNat ≠ 127) := by
    rintro ⟨a | a, b⟩
    · rw [sayC, decide_eq_true a, decide_eq_true b] at h; cases h
    · rw [sayC, decide_eq_true a, decide_eq_true b] at h; simp at h
  by_cases h1 : 32 ≤ (c.toNat : Int)
  · exact .inl ⟨h1, beqI (by omega)⟩
  · exact .inr ⟨by omega, by rw [bne, bneI (by omega)]; rfl⟩
theorem smallC_yes (c : UInt8) (h : 65 ≤ c.toNat ∧ c.toNat ≤ 90) : ((smallC c).toNat : Int) = (c.toNat : Int) + 32 := by
  rw [smallC, if_pos h, UInt8.toNat_ofNat_of_lt' (by show _ < 256; omega)]; omega
theorem smallC_no (c : UInt8) (h : ¬ (65 ≤ c.toNat ∧ c.toNat ≤ 90)) : smallC c = c := by rw [smallC, if_neg h]

theorem all_stop {p : UInt8 → Bool} (s : ByteArray) (k : Nat) (h : k < s.size) (hp : p s[k] = false) : s.data.toList.all p = false := by
  rw [List.all_eq_false]
  exact ⟨s[k], List.mem_of_getElem? (getL s k h), by rw [hp]; decide⟩
theorem all_on {p : UInt8 → Bool} (s : ByteArray) (k : Nat) (h : k < s.size) (h0 : (s.data.toList.take k).all p = true) (hp : p s[k] = true) : (s.data.toList.take (k + 1)).all p = true := by
  rw [take_snoc s k h, List.all_append, h0]; simp [hp]

/-- A text is trimmed if no blank stands at its ends. -/
theorem dropB_self (l : List UInt8) (h : l.head?.all (fun c => !blk c) = true) : dropB l = l := by
  cases l with
  | nil => rfl
  | cons c l => simp at h; simp [dropB, h]
theorem dropE_self (l : List UInt8) (h : l.getLast?.all (fun c => !blk c) = true) : dropE l = l := by
  have : dropB l.reverse = l.reverse := dropB_self _ (by rw [List.head?_reverse]; exact h)
  unfold dropE
  show (dropB l.reverse).reverse = l
  rw [this, List.reverse_reverse]
theorem dropB_len (l : List UInt8) : (dropB l).length ≤ l.length := by
  induction l with
  | nil => exact Nat.le_refl _
  | cons c l ih =>
    unfold dropB
    rw [List.dropWhile_cons]
    split
    · exact Nat.le_trans ih (by simp)
    · exact Nat.le_refl _
theorem dropE_len (l : List UInt8) : (dropE l).length ≤ l.length := by
  have := dropB_len l.reverse
  rw [List.length_reverse] at this
  unfold dropE
  rw [List.length_reverse]
  exact this
theorem trim_iff (l : List UInt8) : trimS l = l ↔ (l.head?.all (fun c => !blk c) = true ∧ l.getLast?.all (fun c => !blk c) = true) := by
  constructor
  · intro h
    have h1 : dropB l = l := by
      cases l with
      | nil => rfl
      | cons c l =>
        by_cases hc : blk c = true
        · exfalso
          have e : dropB (c :: l) = dropB l := by simp [dropB, hc]
          have h2 := dropE_len (dropB (c :: l))
          have h3 := dropB_len l
          have h4 : (trimS (c :: l)).length = (c :: l).length := by rw [h]
          unfold trimS at h4
          rw [e] at h2 h4
          simp at h4
          omega
        · simp [dropB, hc]
    have h2 : dropE l = l := by have := h; unfold trimS at this; rw [h1] at this; exact this
    constructor
    · cases l with
      | nil => rfl
      | cons c l =>
        simp
        by_cases hc : blk c = true
        · exfalso
          have e : dropB (c :: l) = dropB l := by simp [dropB, hc]
          have h3 := dropB_len l
          have h4 : (dropB (c :: l)).length = (c :: l).length := by rw [h1]
          rw [e] at h4; simp at h4; omega
        · simpa using hc
    · have h5 : dropB l.reverse = l.reverse := by
        have := congrArg List.reverse h2
        unfold dropE at this
        rw [List.reverse_reverse] at this
        exact this
      rw [← List.head?_reverse]
      generalize l.reverse = m at h5
      cases m with
      | nil => rfl
      | cons c m =>
        simp
        by_cases hc : blk c = true
        · exfalso
          have e : dropB (c :: m) = dropB m := by simp [dropB, hc]
          have h3 := dropB_len m
          have h4 : (dropB (c :: m)).length = (c :: m).length := by rw [h5]
          rw [e] at h4; simp at h4; omega
        · simpa using hc
  · rintro ⟨h1, h2⟩
    unfold trimS
    rw [dropB_self l h1, dropE_self l h2]

/- Lists of fields. -/
abbrev Fl := ByteArray × ByteArray
def fcells (L : List Fl) : List Value := L.flatMap fun f => [Value.string f.1, Value.string f.2]
/-- A list of fields lies at a value. -/
def FLA (w : World) (A : Option Addr) (L : List Fl) : Prop := ∀ k (hk : k < L.length), ∃ b off, A = some ⟨b, off, none⟩ ∧ w.cell? ⟨b, off + k * 2, none⟩ = some (.string L[k].1) ∧ w.cell? ⟨b, off + k * 2 + 1, none⟩ = some (.string L[k].2)
def FL (w : World) (v : Value) (L : List Fl) : Prop := ∃ A cap, v = .slice A L.length cap ∧ L.length ≤ cap ∧ FLA w A L
def Tiny (L : List Fl) : Prop := L.length ≤ 100000 ∧ ∀ f ∈ L, f.1.size ≤ 1000000 ∧ f.2.size ≤ 1000000

theorem FL.nil (w : World) : FL w (.slice none 0 0) [] := ⟨none, 0, rfl, Nat.le_refl _, fun k hk => absurd hk (by simp)⟩
theorem FLA.below {w w' : World} {C : Nat} {A : Option Addr} {L : List Fl} (h1 : FLA w A L) (hb : Below C w w') (hC : w.heap.size ≤ C) : FLA w' A L := by
  intro k hk
  obtain ⟨b, off, rfl, h2, h3⟩ := h1 k hk
  have hlt : b < w.heap.size := World.block_lt_of_cell? w _ h2
  exact ⟨b, off, rfl, (hb.cell (p := ⟨b, off + k * 2, none⟩) (by show b < C; omega)).trans h2, (hb.cell (p := ⟨b, off + k * 2 + 1, none⟩) (by show b < C; omega)).trans h3⟩
theorem FL.below {w w' : World} {C : Nat} {v : Value} {L : List Fl} (h : FL w v L) (hb : Below C w w') (hC : w.heap.size ≤ C) : FL w' v L := by
  obtain ⟨A, cap, rfl, hc, h1⟩ := h
  exact ⟨A, cap, rfl, hc, h1.below hb hC⟩
theorem FLA.elem {w wr : World} {A : Option Addr} {L : List Fl} (h : FLA w A L) (hT : Tiny L) (hb : Below w.heap.size w wr) (k : Nat) (hk : k < L.length) :
    ∃ b off n v, A = some ⟨b, off, none⟩ ∧ Box (L[k]? = some (n, v)) ∧ n.size ≤ 1000000 ∧ v.size ≤ 1000000 ∧ b < w.heap.size ∧ wr.cell? ⟨b, off + k * 2, none⟩ = some (.string n) ∧ wr.cell? ⟨b, off + k * 2 + 1, none⟩ = some (.string v) := by
  obtain ⟨b, off, rfl, h2, h3⟩ := h k hk
  have hlt : b < w.heap.size := World.block_lt_of_cell? w _ h2
  have hs := hT.2 L[k] (List.getElem_mem hk)
  exact ⟨b, off, L[k].1, L[k].2, rfl, ⟨by rw [List.getElem?_eq_getElem hk]⟩, hs.1, hs.2, hlt, (hb.cell (p := ⟨b, off + k * 2, none⟩) hlt).trans h2, (hb.cell (p := ⟨b, off + k * 2 + 1, none⟩) hlt).trans h3⟩
theorem take_snocF {α : Type} (L : List α) (k : Nat) (f : α) (h : L[k]? = some f) : L.take (k + 1) = L.take k ++ [f] := by
  rw [List.take_add_one, h]; rfl

end Go.Proofs.YtpdfghmfhljfiaaDoor
