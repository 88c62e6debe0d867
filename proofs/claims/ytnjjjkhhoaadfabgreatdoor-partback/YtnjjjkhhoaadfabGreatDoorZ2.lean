import Derived.Test.YtnjjjkhhoaadfabGreatDoorZ1
import Derived.Deep.RegionWith
namespace Go.Proofs.YtnjjjkhhoaadfabGreatDoor
open Go.RowKit

def rightF (f : Fl) : Bool := nameS f.1.data.toList && saysS f.2.data.toList
/-- Which field is the first that may not be. -/
def firstW (L : List Fl) : Nat := (L.takeWhile rightF).length

theorem firstW_stop (L : List Fl) (k : Nat) (f : Fl) (hk : L[k]? = some f) (h : (L.take k).all rightF = true) (h' : rightF f = false) : firstW L = k := by
  induction L generalizing k with
  | nil => exact absurd hk (by simp)
  | cons g L ih =>
    unfold firstW
    cases k with
    | zero =>
      simp at hk
      subst hk
      rw [List.takeWhile_cons, h']; rfl
    | succ k =>
      simp only [List.take_succ_cons, List.all_cons, Bool.and_eq_true] at h
      rw [List.takeWhile_cons, h.1]
      have := ih k (by simpa using hk) h.2
      unfold firstW at this
      show (L.takeWhile rightF).length + 1 = k + 1
      rw [this]
theorem firstW_all (L : List Fl) (h : L.all rightF = true) : firstW L = L.length := by
  induction L with
  | nil => rfl
  | cons g L ih =>
    simp only [List.all_cons, Bool.and_eq_true] at h
    have := ih h.2
    unfold firstW at this ⊢
    rw [List.takeWhile_cons, h.1]
    show (L.takeWhile rightF).length + 1 = L.length + 1
    rw [this]
theorem firstW_lt (L : List Fl) (k : Nat) (f : Fl) (hk : L[k]? = some f) (h : (L.take k).all rightF = true) (h' : rightF f = false) : firstW L ≠ L.length := by
  rw [firstW_stop L k f hk h h']
  have := (List.getElem?_eq_some_iff.1 hk).1
  omega
theorem all_onF (L : List Fl) (k : Nat) (f : Fl) (hk : L[k]? = some f) (h : (L.take k).all rightF = true) (h' : rightF f = true) : (L.take (k + 1)).all rightF = true := by
  rw [take_snocF L k f hk, List.all_append, h]; simp [h']

set_option maxHeartbeats 1600000 in
set_option maxRecDepth 100000 in
theorem firstWrong_any (v : Value) (L : List Fl) (w : World) (hT : Tiny L) (hF : FL w v L) :
    Calls Tryz.prog 83 #[v] w fun e w' => e = .returned (.int .i64 (firstW L)) ∧ Below w.heap.size w w' := by
  obtain ⟨A, cap, rfl, hcap, hcells⟩ := hF
  have HC := Box.mk hcells
  have hlen := hT.1
  have HT := Box.mk hT
  clear hcells hT
  go_enter Tryz.func83, Tryz.ntmps83
  go_wp2
  go_loopw [7] (fun i wr => ∃ k : Nat, k ≤ L.length ∧ i = .int .i64 k ∧ Below w.heap.size w wr ∧ Box ((L.take k).all rightF = true)) (fun i _ => L.length - (intOf i).toNat)
  case atStart => exact ⟨0, Nat.zero_le _, rfl, Below.refl _ _, ⟨rfl⟩⟩
  case round =>
    obtain ⟨k, hk, rfl, hb, HA⟩ := hrel
    have hsz := hb.size
    by_cases hlt : k < L.length
    · obtain ⟨b, off, n, v, rfl, HN, hn, hv, hbl, d0, d1⟩ := HC.out.elem HT.out hb k hlt
      have hb2 := hb.alloc hsz (.cells #[.string n, .string v] 40)
      clear HC HT
      cases h1 : nameS n.data.toList
      · have HF : Box (firstW L = k) := ⟨firstW_stop L k _ HN.out HA.out (by unfold rightF; rw [h1]; rfl)⟩
        clear HN HA
        go_wp2_with (go_at_call 68; refine (isName_any _ _ hn).mono ?_; rintro e w' ⟨rfl, rfl⟩)
        go_ret
        exact ⟨ret_int (by rw [HF.out]), hb2⟩
      · cases h2 : saysS v.data.toList
        · have HF : Box (firstW L = k) := ⟨firstW_stop L k _ HN.out HA.out (by unfold rightF; rw [h2, Bool.and_false])⟩
          clear HN HA
          go_wp2_with (first | (go_at_call 68; refine (isName_any _ _ hn).mono ?_; rintro e w' ⟨rfl, rfl⟩) | (go_at_call 72; refine (maySay_any _ _ hv).mono ?_; rintro e w' ⟨rfl, rfl⟩))
          go_ret
          exact ⟨ret_int (by rw [HF.out]), hb2⟩
        · have HA' : Box ((L.take (k + 1)).all rightF = true) := ⟨all_onF L k _ HN.out HA.out (by unfold rightF; rw [h1, h2]; rfl)⟩
          clear HN HA
          go_wp2_with (first | (go_at_call 68; refine (isName_any _ _ hn).mono ?_; rintro e w' ⟨rfl, rfl⟩) | (go_at_call 72; refine (maySay_any _ _ hv).mono ?_; rintro e w' ⟨rfl, rfl⟩))
          go_roundw
          case rel => exact ⟨k + 1, by omega, by go_num, hb2, HA'⟩
          case measure => simp [intOf]; omega
    · have HF : Box (firstW L = L.length) := ⟨firstW_all L (by rw [← HA.out, List.take_of_length_le (by omega)])⟩
      clear HA HC HT
      go_wp2
      go_ret
      exact ⟨ret_int (by rw [HF.out]), hb⟩

set_option maxHeartbeats 400000 in
theorem right_any (v : Value) (L : List Fl) (w : World) (hT : Tiny L) (hF : FL w v L) :
    Calls Tryz.prog 44 #[v] w fun e w' => e = .returned (.bool (decide (firstW L = L.length))) ∧ Below w.heap.size w w' := by
  have HF := Box.mk hF
  have hlen := hT.1
  obtain ⟨A, cap, rfl, hcap, _⟩ := hF
  go_enter Tryz.func44, Tryz.ntmps44
  go_wp2_with fail
  refine (firstWrong_any _ L _ hT HF.out).mono ?_
  rintro e w1 ⟨rfl, hb⟩
  go_wp2
  go_ret
  refine ⟨ret_bool ?_, hb⟩
  rw [Bool.eq_iff_iff, decide_eq_true_iff, beq_iff_eq]
  omega

/-- The first field of a name. -/
def getS (L : List Fl) (s : List UInt8) : Option Fl := L.find? fun f => decide (smallS f.1.data.toList = smallS s)
def getV : Option Fl → Value
  | some f => .tuple #[.string f.2, .bool true]
  | none => .tuple #[.string ⟨#[]⟩, .bool false]
theorem getS_hit (L : List Fl) (s : List UInt8) (k : Nat) (f : Fl) (hk : L[k]? = some f) (h : ∀ g ∈ L.take k, smallS g.1.data.toList ≠ smallS s) (h' : smallS f.1.data.toList = smallS s) : getS L s = some f := by
  unfold getS
  rw [← List.take_append_drop k L, List.find?_append, List.find?_eq_none.2 (fun g hg => by simpa using h g hg)]
  have hl := (List.getElem?_eq_some_iff.1 hk).1
  rw [List.drop_eq_getElem_cons hl, (List.getElem?_eq_some_iff.1 hk).2]
  simp [h']
theorem getS_none (L : List Fl) (s : List UInt8) (h : ∀ g ∈ L, smallS g.1.data.toList ≠ smallS s) : getS L s = none := by
  unfold getS
  rw [List.find?_eq_none]
  exact fun g hg => by simpa using h g hg
theorem str_eq {a b : ByteArray} (h : a.data.toList = b.data.toList) : (a.toList == b.toList) = true := by rw [ByteArray.toList_eq, ByteArray.toList_eq, h]; simp
theorem str_ne {a b : ByteArray} (h : a.data.toList ≠ b.data.toList) : (a.toList == b.toList) = false := by rw [ByteArray.toList_eq, ByteArray.toList_eq]; simpa using h

set_option maxHeartbeats 1600000 in
set_option maxRecDepth 100000 in
theorem get_any (v : Value) (L : List Fl) (s : ByteArray) (w : World) (hs : s.size ≤ 1000000) (hT : Tiny L) (hF : FL w v L) :
    Calls Tryz.prog 37 #[v, .string s] w fun e w' => e = .returned (getV (getS L s.data.toList)) ∧ Below w.heap.size w w' := by
  obtain ⟨G, HG⟩ : ∃ G, Box (G = getS L s.data.toList) := ⟨_, ⟨rfl⟩⟩
  rw [← HG.out]
  obtain ⟨A, cap, rfl, hcap, hcells⟩ := hF
  have HC := Box.mk hcells
  have hlen := hT.1
  have HT := Box.mk hT
  clear hcells hT
  go_enter Tryz.func37, Tryz.ntmps37
  go_wp2_with fail
  refine (small_str s _ hs).mono ?_
  rintro e w1 ⟨t1, rfl, ht1, hb1⟩
  have H1 := Box.mk ht1
  clear ht1
  go_wp2
  go_loopw [13] (fun i wr => ∃ k : Nat, k ≤ L.length ∧ i = .int .i64 k ∧ Below w.heap.size w wr ∧ Box (∀ g ∈ L.take k, smallS g.1.data.toList ≠ smallS s.data.toList)) (fun i _ => L.length - (intOf i).toNat)
  case atStart => exact ⟨0, Nat.zero_le _, rfl, hb1, ⟨fun g hg => absurd hg (by simp)⟩⟩
  case round =>
    obtain ⟨k, hk, rfl, hb, HA⟩ := hrel
    have hsz := hb.size
    by_cases hlt : k < L.length
    · obtain ⟨b, off, n, v, rfl, HN, hn, hv, hbl, d0, d1⟩ := HC.out.elem HT.out hb k hlt
      have hb2 := hb.alloc hsz (.cells #[.string n, .string v] 40)
      clear HC HT
      go_wp2_with fail
      refine (small_str n _ hn).mono ?_
      rintro e w2 ⟨t2, rfl, ht2, hb3⟩
      have hb4 := hb2.trans (hb3.mono hb2.size)
      have e1 : w2.cell? ⟨wr.heap.size, 1, none⟩ = some (.string v) := (hb3.cell (p := ⟨wr.heap.size, 1, none⟩) (by simp)).trans (by simp)
      by_cases hm : smallS n.data.toList = smallS s.data.toList
      · have hq : (t2.toList == t1.toList) = true := str_eq (by rw [ht2, H1.out, hm])
        have HF : Box (G = some (n, v)) := ⟨by rw [HG.out]; exact getS_hit L _ k _ HN.out HA.out hm⟩
        clear HN HA HG H1 ht2 hm
        go_wp2
        go_ret2
        exact ⟨by rw [HF.out]; rfl, hb4⟩
      · have hq : (t2.toList == t1.toList) = false := str_ne (by rw [ht2, H1.out]; exact hm)
        have HA' : Box (∀ g ∈ L.take (k + 1), smallS g.1.data.toList ≠ smallS s.data.toList) := ⟨fun g hg => by
          rw [take_snocF L k _ HN.out] at hg
          rcases List.mem_append.1 hg with h | h
          · exact HA.out g h
          · obtain rfl := List.mem_singleton.1 h
            exact hm⟩
        clear HN HA HG H1 ht2 hm
        go_wp2
        go_roundw
        case rel => exact ⟨k + 1, by omega, by go_num, hb4, HA'⟩
        case measure => simp [intOf]; omega
    · have HF : Box (G = none) := ⟨by rw [HG.out]; exact getS_none L _ (by have := HA.out; rw [List.take_of_length_le (by omega)] at this; exact this)⟩
      clear HA HC HT HG
      go_wp2
      go_ret2
      exact ⟨by rw [HF.out]; rfl, hb⟩

end Go.Proofs.YtnjjjkhhoaadfabGreatDoor

namespace Go.Proofs.YtnjjjkhhoaadfabGreatDoor
open Go.RowKit

/- Lists of texts of the call's own. -/
def OwnS (w : World) (B : Nat) (v : Value) (ss : List ByteArray) : Prop := w.ownsRow B 9 1 v ss.length (ss.map Value.string)
theorem Tryz.infoStr : (Tryz.prog.info? 9).map (fun i => (i.zero, i.size, i.bytes)) = some (some (.string ⟨#[]⟩), 1, 16) := by kernel_rfl
theorem OwnS.nil (w : World) (B : Nat) : OwnS w B (.slice none 0 0) [] := World.ownsRow_nil _ _ _ _
theorem OwnS.below {w w' : World} {B C : Nat} {v : Value} {l : List ByteArray} (h : OwnS w B v l) (hb : Below C w w') (hC : w.heap.size ≤ C) : OwnS w' B v l := by
  obtain ⟨h1, h2⟩ := h
  refine ⟨h1, ?_⟩
  rcases h2 with h2 | ⟨g, cap, cur, a, b, c, d⟩
  · exact .inl h2
  · refine .inr ⟨g, cap, cur, a, b, ?_, d⟩
    rw [hb.block g ?_]
    · exact c
    · have := (Array.getElem?_eq_some_iff.1 c).1
      omega
theorem OwnS.shape {w : World} {B : Nat} {v : Value} {l : List ByteArray} (h : OwnS w B v l) :
    (v = .slice none 0 0 ∧ l = []) ∨ ∃ g cap, v = .slice (some ⟨g, 0, none⟩) l.length cap ∧ B ≤ g ∧ g < w.heap.size ∧ l.length ≤ cap ∧ cap ≤ maxLen ∧ ∀ k (hk : k < l.length), w.cell? ⟨g, k, none⟩ = some (.string l[k]) := by
  rcases h.2 with ⟨a, b⟩ | ⟨g, cap, cur, a, b, c, d, e, _⟩
  · exact .inl ⟨a, List.eq_nil_of_length_eq_zero b⟩
  · refine .inr ⟨g, cap, a, b, (Array.getElem?_eq_some_iff.1 c).1, d, e, fun k hk => ?_⟩
    have h' := h
    rw [a] at h'
    have hc := World.ownsRow.cellAt h' k (by omega)
    rw [hc]
    simp [List.getElem?_eq_getElem hk]
/-- 'append(v, s)', s a text, laid in a block of its own first. -/
theorem wp_appT {ops : Array Oper} {rest : List Oper} {o : Oper} {a : Act} {Q : Exit → Act → World → Prop} (wr w0 : World) (hgd : o.guard = none) (s x : Operand) (ho : o.op = .call { callee := .builtin .append, args := #[s, x], argTypes := #[93, 93] })
    (B : Nat) (v : Value) (l : List ByteArray) (hs : a.eval s = v) (hown : OwnS wr B v l) (t : ByteArray) (hx : a.eval x = .slice (some ⟨wr.heap.size, 0, none⟩) 1 1) (hl : l.length + 1 ≤ 10000000) (hB : B ≤ wr.heap.size) (hb : Below B w0 wr)
    (h : ∀ v' w', OwnS w' B v' (l ++ [t]) → Below B w0 w' → wpList Tryz.prog ops Q rest (a.put o.dst v') w') : wpList Tryz.prog ops Q (o :: rest) a (wr.alloc (.cells #[.string t] 9)) := by
  obtain ⟨i0, hi, hz0, hz1, hz2⟩ := info_parts Tryz.infoStr
  refine wpList_append_own (wr.alloc (.cells #[.string t] 9)) hgd s x 93 ho B 9 i0 (.string ⟨#[]⟩) 1 16 Tryz.underlying93 hi hz0 hz1 hz2 rfl (by decide) v l.length (l.map Value.string) hs (World.ownsRow.alloc hown _) ⟨wr.heap.size, 0, none⟩ 1 1 [.string t] hx rfl ?_ (by intro u hu; rw [List.mem_singleton.1 hu]; rfl) (by unfold maxLen; omega) (by omega) (by simp; omega) ?_
  · intro j u hj
    have hj0 : j = 0 := by
      have := (List.getElem?_eq_some_iff.1 hj).1
      simp at this; exact this
    subst hj0
    simp at hj
    subst hj
    simp [Addr.add]
  · intro v' w' h1 h2 _
    refine h v' w' ?_ ((hb.alloc hB _).grown h2 (by simp; omega) (fun k hk => (hown.lt k hk).1))
    unfold OwnS
    rw [List.length_append, List.map_append]
    exact h1

/- Words. -/
def cutP (v : List UInt8) (i : Nat) : Bool := decide (0 < i) && (v.getD i 0 == 32) && (v.getD (i - 1) 0 != 32)
def wordsTo (v : List UInt8) : Nat → List (List UInt8) × Nat
  | 0 => ([], 0)
  | i + 1 => if cutP v i then ((wordsTo v i).1 ++ [(v.drop (wordsTo v i).2).take (i - (wordsTo v i).2)], i) else wordsTo v i
def wordsS (v : List UInt8) : List (List UInt8) := (wordsTo v v.length).1 ++ [v.drop (wordsTo v v.length).2]

theorem wordsTo_le (v : List UInt8) (i : Nat) : (wordsTo v i).2 ≤ i := by
  induction i with
  | zero => exact Nat.le_refl _
  | succ i ih =>
    unfold wordsTo
    split
    · exact Nat.le_succ _
    · omega
theorem wordsTo_count (v : List UInt8) (i : Nat) : (wordsTo v i).1.length ≤ i := by
  induction i with
  | zero => exact Nat.le_refl _
  | succ i ih =>
    unfold wordsTo
    split
    · simp; omega
    · omega
theorem wordsTo_flat (v : List UInt8) (i : Nat) : (wordsTo v i).1.flatten = v.take (wordsTo v i).2 := by
  induction i with
  | zero => rfl
  | succ i ih =>
    have hle := wordsTo_le v i
    unfold wordsTo
    split
    · simp only [List.flatten_append, ih, List.flatten_cons, List.flatten_nil, List.append_nil]
      have : i = (wordsTo v i).2 + (i - (wordsTo v i).2) := by omega
      conv => rhs; rw [this, List.take_add]
    · exact ih
theorem wordsS_flat (v : List UInt8) : (wordsS v).flatten = v := by
  unfold wordsS
  rw [List.flatten_append, wordsTo_flat]
  simp
theorem wordsS_count (v : List UInt8) : (wordsS v).length ≤ v.length + 1 := by
  unfold wordsS
  rw [List.length_append]
  have := wordsTo_count v v.length
  simp; omega
theorem wordsTo_succ (v : List UInt8) (i : Nat) {ws : List (List UInt8)} {f : Nat} (h : wordsTo v i = (ws, f)) : wordsTo v (i + 1) = if cutP v i then (ws ++ [(v.drop f).take (i - f)], i) else (ws, f) := by
  rw [wordsTo, h]
theorem cutP_at (s : ByteArray) (k : Nat) (h0 : 0 < k) (h : k < s.size) : cutP s.data.toList k = (((s[k].toNat : Int) == 32) && ((s[k - 1].toNat : Int) != 32)) := by
  have e1 : s.data.toList.getD k 0 = s[k] := by rw [List.getD_eq_getElem?_getD, getL s k h]; rfl
  have e2 : s.data.toList.getD (k - 1) 0 = s[k - 1] := by rw [List.getD_eq_getElem?_getD, getL s (k - 1) (by omega)]; rfl
  unfold cutP
  rw [e1, e2, decide_eq_true h0, Bool.true_and]
  have a := u8eq s[k] 32
  have b := u8bne s[k - 1] 32
  rw [← a, ← b]; rfl

def lst (b : ByteArray) : List UInt8 := b.data.toList

set_option maxHeartbeats 1600000 in
set_option maxRecDepth 100000 in
theorem words_any (s : ByteArray) (w : World) (hl : s.size ≤ 1000000) :
    Calls Tryz.prog 136 #[.string s] w fun e w' => ∃ v ss, e = .returned v ∧ OwnS w' w.heap.size v ss ∧ ss.map lst = wordsS s.data.toList ∧ Below w.heap.size w w' := by
  go_enter Tryz.func136, Tryz.ntmps136
  go_wp2
  go_loopw [3, 4, 8] (fun v p i wr => ∃ (k f : Nat) (ss : List ByteArray), k ≤ s.size ∧ i = .int .i64 k ∧ p = .int .i64 f ∧ f ≤ k ∧ ss.length ≤ k ∧ OwnS wr w.heap.size v ss ∧ Below w.heap.size w wr ∧ Box (wordsTo s.data.toList k = (ss.map lst, f))) (fun _ _ i _ => s.size - (intOf i).toNat)
  case atStart => exact ⟨0, 0, [], Nat.zero_le _, rfl, rfl, Nat.le_refl _, Nat.le_refl _, OwnS.nil _ _, Below.refl _ _, ⟨rfl⟩⟩
  case round =>
    obtain ⟨k, f, ss, hk, rfl, rfl, hf, hss, hown, hb, HW⟩ := hrel
    have hsz := hb.size
    by_cases hlt : k < s.size
    · by_cases h0 : k = 0
      · subst h0
        have HW' : Box (wordsTo s.data.toList (0 + 1) = (ss.map lst, f)) := ⟨by rw [wordsTo_succ _ _ HW.out]; rfl⟩
        have hz : ¬ (0 : Int) < ((0 : Nat) : Int) := by omega
        clear HW
        go_wp2
        go_roundw
        case rel => exact ⟨0 + 1, f, ss, by omega, by go_num, rfl, by omega, by omega, hown, hb, HW'⟩
        case measure => simp [intOf]; omega
      · have hz : (0 : Int) < (k : Int) := by omega
        have HCt := Box.mk (cutP_at s k (by omega) hlt)
        have hbyte : (s[k].toNat : Int) < 256 := by have := s[k].toNat_lt; omega
        have hkm : ((k : Int) - 1).toNat = k - 1 := by omega
        cases h1 : ((s[k].toNat : Int) == 32)
        · have HW' : Box (wordsTo s.data.toList (k + 1) = (ss.map lst, f)) := ⟨by rw [wordsTo_succ _ _ HW.out, HCt.out, h1]; rfl⟩
          clear HW HCt
          go_wp2
          go_roundw
          case rel => exact ⟨k + 1, f, ss, by omega, by go_num, rfl, by omega, by omega, hown, hb, HW'⟩
          case measure => simp [intOf]; omega
        · cases h2 : ((s[k - 1].toNat : Int) != 32)
          · have HW' : Box (wordsTo s.data.toList (k + 1) = (ss.map lst, f)) := ⟨by rw [wordsTo_succ _ _ HW.out, HCt.out, h1, h2]; rfl⟩
            clear HW HCt
            go_wp2
            go_roundw
            case rel => exact ⟨k + 1, f, ss, by omega, by go_num, rfl, by omega, by omega, hown, hb, HW'⟩
            case measure => simp [intOf]; omega
          · have HW' : Box (wordsTo s.data.toList (k + 1) = ((ss ++ [s.extract f k]).map lst, k)) := ⟨by
              rw [wordsTo_succ _ _ HW.out, HCt.out, h1, h2, List.map_append]
              show _ = (_ ++ [lst (s.extract f k)], k)
              rw [lst, extract_list]; rfl⟩
            clear HW HCt
            go_wp2_with (at_builtin; refine wp_appT _ w rfl (.tmp 26) (.tmp 31) rfl w.heap.size _ _ rfl hown _ rfl (by omega) hsz hb ?_; intro v' w1 hown1 hb1)
            go_roundw
            case rel => exact ⟨k + 1, k, ss ++ [s.extract f k], by omega, by go_num, rfl, by omega, by simp; omega, hown1, hb1, HW'⟩
            case measure => simp [intOf]; omega
    · have hke : k = s.size := by omega
      have HE : Box ((ss ++ [s.extract f s.size]).map lst = wordsS s.data.toList) := ⟨by
        have := HW.out
        rw [hke, ← size_list] at this
        rw [wordsS, this, List.map_append]
        show _ ++ [lst (s.extract f s.size)] = _
        rw [lst, extract_list, List.take_of_length_le (by rw [List.length_drop, size_list]; exact Nat.le_refl _)]⟩
      clear HW
      go_wp2_with (at_builtin; refine wp_appT _ w rfl (.tmp 35) (.tmp 39) rfl w.heap.size _ _ rfl hown _ rfl (by omega) hsz hb ?_; intro v' w1 hown1 hb1)
      go_ret
      exact ⟨_, _, rfl, hown1, HE.out, hb1⟩

end Go.Proofs.YtnjjjkhhoaadfabGreatDoor

