import Derived.Test.YtpdfghmfhljfiaaDoorH5
namespace Go.Proofs.YtpdfghmfhljfiaaDoor
open Go.RowKit

/- Lists of texts of the call's own. -/
def OwnS (w : World) (B : Nat) (v : Value) (ss : List ByteArray) : Prop := w.ownsRow B 9 1 v ss.length (ss.map Value.string)
theorem Tryd.infoStr : (Tryd.prog.info? 9).map (fun i => (i.zero, i.size, i.bytes)) = some (some (.string ⟨#[]⟩), 1, 16) := by kernel_rfl
theorem OwnS.nil (w : World) (B : Nat) : OwnS w B (.slice none 0 0) [] := World.ownsRow_nil _ _ _ _
theorem OwnS.below {w w' : World} {B C : Nat} {v : Value} {l : List ByteArray} (h : OwnS w B v l) (hb : Below C w w') (hC : w.heap.size ≤ C) : OwnS w' B v l := by
  obtain ⟨h1, h2⟩ := h
  refine ⟨h1, ?_⟩
  rcases h2 with h2 | ⟨g, cap, cur, a, b, c, d⟩
  · exact .inl h2
  · refine .inr ⟨g, cap, cur, a, b, ?_, d⟩
    rw [hb.block g ?_]
    · exact c
    · have := (Array.getElem?_eq_some_iff.1 c).1
      omega
theorem OwnS.shape {w : World} {B : Nat} {v : Value} {l : List ByteArray} (h : OwnS w B v l) :
    (v = .slice none 0 0 ∧ l = []) ∨ ∃ g cap, v = .slice (some ⟨g, 0, none⟩) l.length cap ∧ B ≤ g ∧ g < w.heap.size ∧ l.length ≤ cap ∧ cap ≤ maxLen ∧ ∀ k (hk : k < l.length), w.cell? ⟨g, k, none⟩ = some (.string l[k]) := by
  rcases h.2 with ⟨a, b⟩ | ⟨g, cap, cur, a, b, c, d, e, _⟩
  · exact .inl ⟨a, List.eq_nil_of_length_eq_zero b⟩
  · refine .inr ⟨g, cap, a, b, (Array.getElem?_eq_some_iff.1 c).1, d, e, fun k hk => ?_⟩
    have h' := h
    rw [a] at h'
    have hc := World.ownsRow.cellAt h' k (by omega)
    rw [hc]
    simp [List.getElem?_eq_getElem hk]
/-- 'append(v, s)', s a text, laid in a block of its own first. -/
theorem wp_appT {ops : Array Oper} {rest : List Oper} {o : Oper} {a : Act} {Q : Exit → Act → World → Prop} (wr w0 : World) (hgd : o.guard = none) (s x : Operand) (ho : o.op = .call { callee := .builtin .append, args := #[s, x], argTypes := #[55, 55] })
    (B : Nat) (v : Value) (l : List ByteArray) (hs : a.eval s = v) (hown : OwnS wr B v l) (t : ByteArray) (hx : a.eval x = .slice (some ⟨wr.heap.size, 0, none⟩) 1 1) (hl : l.length + 1 ≤ 10000000) (hB : B ≤ wr.heap.size) (hb : Below B w0 wr)
    (h : ∀ v' w', OwnS w' B v' (l ++ [t]) → Below B w0 w' → wpList Tryd.prog ops Q rest (a.put o.dst v') w') : wpList Tryd.prog ops Q (o :: rest) a (wr.alloc (.cells #[.string t] 9)) := by
  obtain ⟨i0, hi, hz0, hz1, hz2⟩ := info_parts Tryd.infoStr
  refine wpList_append_own (wr.alloc (.cells #[.string t] 9)) hgd s x 55 ho B 9 i0 (.string ⟨#[]⟩) 1 16 Tryd.underlying55 hi hz0 hz1 hz2 rfl (by decide) v l.length (l.map Value.string) hs (World.ownsRow.alloc hown _) ⟨wr.heap.size, 0, none⟩ 1 1 [.string t] hx rfl ?_ (by intro u hu; rw [List.mem_singleton.1 hu]; rfl) (by unfold maxLen; omega) (by omega) (by simp; omega) ?_
  · intro j u hj
    have hj0 : j = 0 := by
      have := (List.getElem?_eq_some_iff.1 hj).1
      simp at this; exact this
    subst hj0
    simp at hj
    subst hj
    simp [Addr.add]
  · intro v' w' h1 h2 _
    refine h v' w' ?_ ((hb.alloc hB _).grown h2 (by simp; omega) (fun k hk => (hown.lt k hk).1))
    unfold OwnS
    rw [List.length_append, List.map_append]
    exact h1

/- Words. -/
def cutP (v : List UInt8) (i : Nat) : Bool := decide (0 < i) && (v.getD i 0 == 32) && (v.getD (i - 1) 0 != 32)
def wordsTo (v : List UInt8) : Nat → List (List UInt8) × Nat
  | 0 => ([], 0)
  | i + 1 => if cutP v i then ((wordsTo v i).1 ++ [(v.drop (wordsTo v i).2).take (i - (wordsTo v i).2)], i) else wordsTo v i
def wordsS (v : List UInt8) : List (List UInt8) := (wordsTo v v.length).1 ++ [v.drop (wordsTo v v.length).2]

theorem wordsTo_le (v : List UInt8) (i : Nat) : (wordsTo v i).2 ≤ i := by
  induction i with
  | zero => exact Nat.le_refl _
  | succ i ih =>
    unfold wordsTo
    split
    · exact Nat.le_succ _
    · omega
theorem wordsTo_count (v : List UInt8) (i : Nat) : (wordsTo v i).1.length ≤ i := by
  induction i with
  | zero => exact Nat.le_refl _
  | succ i ih =>
    unfold wordsTo
    split
    · simp; omega
    · omega
theorem wordsTo_flat (v : List UInt8) (i : Nat) : (wordsTo v i).1.flatten = v.take (wordsTo v i).2 := by
  induction i with
  | zero => rfl
  | succ i ih =>
    have hle := wordsTo_le v i
    unfold wordsTo
    split
    · simp only [List.flatten_append, ih, List.flatten_cons, List.flatten_nil, List.append_nil]
      have : i = (wordsTo v i).2 + (i - (wordsTo v i).2) := by omega
      conv => rhs; rw [this, List.take_add]
    · exact ih
theorem wordsS_flat (v : List UInt8) : (wordsS v).flatten = v := by
  unfold wordsS
  rw [List.flatten_append, wordsTo_flat]
  simp
theorem wordsS_count (v : List UInt8) : (wordsS v).length ≤ v.length + 1 := by
  unfold wordsS
  rw [List.length_append]
  have := wordsTo_count v v.length
  simp; omega
theorem wordsTo_succ (v : List UInt8) (i : Nat) {ws : List (List UInt8)} {f : Nat} (h : wordsTo v i = (ws, f)) : wordsTo v (i + 1) = if cutP v i then (ws ++ [(v.drop f).take (i - f)], i) else (ws, f) := by
  rw [wordsTo, h]
theorem cutP_at (s : ByteArray) (k : Nat) (h0 : 0 < k) (h : k < s.size) : cutP s.data.toList k = (((s[k].toNat : Int) == 32) && ((s[k - 1].toNat : Int) != 32)) := by
  have e1 : s.data.toList.getD k 0 = s[k] := by rw [List.getD_eq_getElem?_getD, getL s k h]; rfl
  have e2 : s.data.toList.getD (k - 1) 0 = s[k - 1] := by rw [List.getD_eq_getElem?_getD, getL s (k - 1) (by omega)]; rfl
  unfold cutP
  rw [e1, e2, decide_eq_true h0, Bool.true_and]
  have a := u8eq s[k] 32
  have b := u8bne s[k - 1] 32
  rw [← a, ← b]; rfl

def lst (b : ByteArray) : List UInt8 := b.data.toList

set_option maxHeartbeats 1600000 in
set_option maxRecDepth 100000 in
theorem words_any (s : ByteArray) (w : World) (hl : s.size ≤ 1000000) :
    Calls Tryd.prog 127 #[.string s] w fun e w' => ∃ v ss, e = .returned v ∧ OwnS w' w.heap.size v ss ∧ ss.map lst = wordsS s.data.toList ∧ Below w.heap.size w w' := by
  go_enter Tryd.func127, Tryd.ntmps127
  go_wp2
  go_loopw [3, 4, 8] (fun v p i wr => ∃ (k f : Nat) (ss : List ByteArray), k ≤ s.size ∧ i = .int .i64 k ∧ p = .int .i64 f ∧ f ≤ k ∧ ss.length ≤ k ∧ OwnS wr w.heap.size v ss ∧ Below w.heap.size w wr ∧ Box (wordsTo s.data.toList k = (ss.map lst, f))) (fun _ _ i _ => s.size - (intOf i).toNat)
  case atStart => exact ⟨0, 0, [], Nat.zero_le _, rfl, rfl, Nat.le_refl _, Nat.le_refl _, OwnS.nil _ _, Below.refl _ _, ⟨rfl⟩⟩
  case round =>
    obtain ⟨k, f, ss, hk, rfl, rfl, hf, hss, hown, hb, HW⟩ := hrel
    have hsz := hb.size
    by_cases hlt : k < s.size
    · by_cases h0 : k = 0
      · subst h0
        have HW' : Box (wordsTo s.data.toList (0 + 1) = (ss.map lst, f)) := ⟨by rw [wordsTo_succ _ _ HW.out]; rfl⟩
        have hz : ¬ (0 : Int) < ((0 : Nat) : Int) := by omega
        clear HW
        go_wp2
        go_roundw
        case rel => exact ⟨0 + 1, f, ss, by omega, by go_num, rfl, by omega, by omega, hown, hb, HW'⟩
        case measure => simp [intOf]; omega
      · have hz : (0 : Int) < (k : Int) := by omega
        have HCt := Box.mk (cutP_at s k (by omega) hlt)
        have hbyte : (s[k].toNat : Int) < 256 := by have := s[k].toNat_lt; omega
        have hkm : ((k : Int) - 1).toNat = k - 1 := by omega
        cases h1 : ((s[k].toNat : Int) == 32)
        · have HW' : Box (wordsTo s.data.toList (k + 1) = (ss.map lst, f)) := ⟨by rw [wordsTo_succ _ _ HW.out, HCt.out, h1]; rfl⟩
          clear HW HCt
          go_wp2
          go_roundw
          case rel => exact ⟨k + 1, f, ss, by omega, by go_num, rfl, by omega, by omega, hown, hb, HW'⟩
          case measure => simp [intOf]; omega
        · cases h2 : ((s[k - 1].toNat : Int) != 32)
          · have HW' : Box (wordsTo s.data.toList (k + 1) = (ss.map lst, f)) := ⟨by rw [wordsTo_succ _ _ HW.out, HCt.out, h1, h2]; rfl⟩
            clear HW HCt
            go_wp2
            go_roundw
            case rel => exact ⟨k + 1, f, ss, by omega, by go_num, rfl, by omega, by omega, hown, hb, HW'⟩
            case measure => simp [intOf]; omega
          · have HW' : Box (wordsTo s.data.toList (k + 1) = ((ss ++ [s.extract f k]).map lst, k)) := ⟨by
              rw [wordsTo_succ _ _ HW.out, HCt.out, h1, h2, List.map_append]
              show _ = (_ ++ [lst (s.extract f k)], k)
              rw [lst, extract_list]; rfl⟩
            clear HW HCt
            go_wp2_with (at_builtin; refine wp_appT _ w rfl (.tmp 26) (.tmp 31) rfl w.heap.size _ _ rfl hown _ rfl (by omega) hsz hb ?_; intro v' w1 hown1 hb1)
            go_roundw
            case rel => exact ⟨k + 1, k, ss ++ [s.extract f k], by omega, by go_num, rfl, by omega, by simp; omega, hown1, hb1, HW'⟩
            case measure => simp [intOf]; omega
    · have hke : k = s.size := by omega
      have HE : Box ((ss ++ [s.extract f s.size]).map lst = wordsS s.data.toList) := ⟨by
        have := HW.out
        rw [hke, ← size_list] at this
        rw [wordsS, this, List.map_append]
        show _ ++ [lst (s.extract f s.size)] = _
        rw [lst, extract_list, List.take_of_length_le (by rw [List.length_drop, size_list]; exact Nat.le_refl _)]⟩
      clear HW
      go_wp2_with (at_builtin; refine wp_appT _ w rfl (.tmp 35) (.tmp 39) rfl w.heap.size _ _ rfl hown _ rfl (by omega) hsz hb ?_; intro v' w1 hown1 hb1)
      go_ret
      exact ⟨_, _, rfl, hown1, HE.out, hb1⟩

set_option maxHeartbeats 1600000 in
set_option maxRecDepth 100000 in
theorem short_any (v : Value) (L : List Fl) (w : World) (hT : ∀ f ∈ L, f.1.size ≤ 1000000000000000 ∧ f.2.size ≤ 1000000000000000) (hF : FL w v L) (hl : L.length ≤ 1000000000000000) :
    Calls Tryd.prog 27 #[v] w fun e w' => (∃ q : Bool, e = .returned (.bool q) ∧ (q = true → L.length ≤ 20 ∧ ∀ f ∈ L, f.1.size + f.2.size ≤ 400)) ∧ Below w.heap.size w w' := by
  obtain ⟨A, cap, rfl, hcap, hcells⟩ := hF
  have HC := Box.mk hcells
  have HT := Box.mk hT
  clear hcells hT
  by_cases h20 : L.length ≤ 20
  · have h20' : ¬ (20 : Int) < (L.length : Int) := by omega
    go_enter Tryd.func27, Tryd.ntmps27
    go_wp2
    go_loopw [3] (fun i wr => ∃ k : Nat, k ≤ L.length ∧ i = .int .i64 k ∧ Below w.heap.size w wr ∧ Box (∀ f ∈ L.take k, f.1.size + f.2.size ≤ 400)) (fun i _ => L.length - (intOf i).toNat)
    case atStart => exact ⟨0, Nat.zero_le _, rfl, Below.refl _ _, ⟨fun f hf => absurd hf (by simp)⟩⟩
    case round =>
      obtain ⟨k, hk, rfl, hb, HA⟩ := hrel
      by_cases hlt : k < L.length
      · obtain ⟨b, off, rfl, c0, c1⟩ := HC.out k hlt
        have hbl : b < w.heap.size := World.block_lt_of_cell? w _ c0
        have hs := HT.out L[k] (List.getElem_mem hlt)
        have d0 := (hb.cell (p := ⟨b, off + k * 2, none⟩) hbl).trans c0
        have d1 := (hb.cell (p := ⟨b, off + k * 2 + 1, none⟩) hbl).trans c1
        have HA' : Box (L[k].1.size + L[k].2.size ≤ 400 → ∀ f ∈ L.take (k + 1), f.1.size + f.2.size ≤ 400) := ⟨fun h f hf => by
          rw [take_snocF L k L[k] (List.getElem?_eq_getElem hlt)] at hf
          rcases List.mem_append.1 hf with h' | h'
          · exact HA.out f h'
          · obtain rfl := List.mem_singleton.1 h'
            exact h⟩
        clear c0 c1 HC HT HA
        obtain ⟨n, hn⟩ : ∃ n, n = L[k].1 := ⟨_, rfl⟩
        obtain ⟨v, hv⟩ : ∃ v, v = L[k].2 := ⟨_, rfl⟩
        rw [← hn] at hs d0 HA'
        rw [← hv] at hs d1 HA'
        clear hn hv
        by_cases h4 : n.size + v.size ≤ 400
        · have HA2 := Box.mk (HA'.out h4)
          have h4' : ¬ (400 : Int) < (n.size : Int) + (v.size : Int) := by omega
          clear HA'
          go_wp2
          go_region
          go_wp2
          go_roundw
          case rel => exact ⟨k + 1, by omega, by go_num, hb.drew, HA2⟩
          case measure => simp [intOf]; omega
        · have h4' : (400 : Int) < (n.size : Int) + (v.size : Int) := by omega
          clear HA'
          go_wp2
          go_region
          go_wp2
          go_ret
          exact ⟨⟨false, rfl, fun h => by cases h⟩, hb.drew⟩
      · have HA2 := HA.out
        rw [List.take_of_length_le (by omega)] at HA2
        have HB := Box.mk HA2
        clear HA HA2 HC HT
        go_wp2
        go_ret
        exact ⟨⟨true, rfl, fun _ => ⟨h20, HB.out⟩⟩, hb⟩
  · have h20' : (20 : Int) < (L.length : Int) := by omega
    go_enter Tryd.func27, Tryd.ntmps27
    go_wp2
    go_ret
    exact ⟨⟨false, rfl, fun h => by cases h⟩, Below.refl _ _⟩

end Go.Proofs.YtpdfghmfhljfiaaDoor
