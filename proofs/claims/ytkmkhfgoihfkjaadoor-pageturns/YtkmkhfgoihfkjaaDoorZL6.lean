import Derived.Test.YtkmkhfgoihfkjaaDoorZL5
namespace Go.Proofs.YtkmkhfgoihfkjaaDoor
open Go.RowKit

/- What a value says: the code's said. -/
theorem signs_words : signs = wordsL.map fun x => (x.2.data.toList, x.1) := rfl
theorem unescF_nil (n : Nat) : unescF n [] = [] := by cases n <;> rfl
theorem sign_len (w : List UInt8 × UInt8) (h : w ∈ signs) : 1 ≤ w.1.length ∧ w.1.length ≤ 6 := by
  have : ∀ w ∈ signs, 1 ≤ w.1.length ∧ w.1.length ≤ 6 := by decide
  exact this w h
theorem unesc_fuel : ∀ (n m : Nat) (l : List UInt8), l.length ≤ n → l.length ≤ m → unescF n l = unescF m l
  | n, m, [], _, _ => by rw [unescF_nil, unescF_nil]
  | 0, _, _ :: _, h, _ => absurd h (by simp)
  | _, 0, _ :: _, _, h => absurd h (by simp)
  | n + 1, m + 1, c :: r, hn, hm => by
    rw [List.length_cons] at hn hm
    unfold unescF
    cases hf : signs.find? fun w => w.1.isPrefixOf (smallS (c :: r)) with
    | none =>
      simp only [hf]
      rw [unesc_fuel n m r (by omega) (by omega)]
    | some w =>
      simp only [hf]
      have := (sign_len w (List.mem_of_find?_eq_some hf)).1
      have hl : ((c :: r).drop w.1.length).length ≤ r.length := by rw [List.length_drop, List.length_cons]; omega
      rw [unesc_fuel n m _ (by omega) (by omega)]
theorem unesc_yes (c : UInt8) (r : List UInt8) (w : List UInt8 × UInt8) (hf : (signs.find? fun w => w.1.isPrefixOf (smallS (c :: r))) = some w) : unescS (c :: r) = w.2 :: unescS ((c :: r).drop w.1.length) := by
  have e : unescS (c :: r) = w.2 :: unescF r.length ((c :: r).drop w.1.length) := by
    show unescF (r.length + 1) (c :: r) = _
    conv => lhs; unfold unescF
    simp only [hf]
  have := (sign_len w (List.mem_of_find?_eq_some hf)).1
  rw [e]
  unfold unescS
  rw [unesc_fuel r.length _ _ (by rw [List.length_drop, List.length_cons]; omega) (Nat.le_refl _)]
theorem unesc_no (c : UInt8) (r : List UInt8) (hf : (signs.find? fun w => w.1.isPrefixOf (smallS (c :: r))) = none) : unescS (c :: r) = c :: unescS r := by
  show unescF (r.length + 1) (c :: r) = _
  unfold unescF
  simp only [hf]
  rfl
theorem find_words (sm s : ByteArray) (k : Nat) (hsm : sm.data.toList = smallS s.data.toList) : (signs.find? fun w => w.1.isPrefixOf (smallS (s.data.toList.drop k))) = (wordsL.find? fun x => x.2.data.toList.isPrefixOf (sm.data.toList.drop k)).map fun x => (x.2.data.toList, x.1) := by
  rw [signs_words, List.find?_map, hsm]
  unfold smallS
  rw [List.map_drop]
  rfl
theorem said_find (sm s : ByteArray) (k : Nat) (hk : k < s.size) (hsm : sm.data.toList = smallS s.data.toList) :
    (∃ x, wordsL.find? (fun x => x.2.data.toList.isPrefixOf (sm.data.toList.drop k)) = some x ∧ unescS (s.data.toList.drop k) = x.1 :: unescS (s.data.toList.drop (k + x.2.size)) ∧ k + x.2.size ≤ s.size ∧ 1 ≤ x.2.size) ∨
    (wordsL.find? (fun x => x.2.data.toList.isPrefixOf (sm.data.toList.drop k)) = none ∧ unescS (s.data.toList.drop k) = s[k] :: unescS (s.data.toList.drop (k + 1))) := by
  have hd : s.data.toList.drop k = s[k] :: s.data.toList.drop (k + 1) := by
    rw [List.drop_eq_getElem_cons (by rw [size_list]; exact hk)]; rfl
  have hw := find_words sm s k hsm
  cases hf : wordsL.find? (fun x => x.2.data.toList.isPrefixOf (sm.data.toList.drop k)) with
  | none =>
    rw [hf] at hw
    refine .inr ⟨rfl, ?_⟩
    rw [hd] at hw ⊢
    exact unesc_no _ _ hw
  | some x =>
    rw [hf] at hw
    have hp := List.find?_some hf
    have hle := (List.isPrefixOf_iff_prefix.1 hp).length_le
    rw [List.length_drop, size_list, size_list] at hle
    have hss : sm.size = s.size := by rw [← size_list, hsm, ← size_list]; unfold smallS; simp
    have h1 : 1 ≤ x.2.size := by
      have := (sign_len _ (List.mem_of_find?_eq_some hw)).1
      simp only at this
      rw [size_list] at this
      exact this
    refine .inl ⟨x, rfl, ?_, by omega, h1⟩
    rw [hd] at hw
    have := unesc_yes _ _ _ hw
    rw [← hd] at this
    rw [this]
    simp only
    rw [List.drop_drop, size_list]

theorem kept_heap {e : TypeId} {b : Nat} {w w' : World} {k : Nat} {c : Array Value} {T : TypeId} {fz : Nat × Nat} (h : Lib.OthersKept e (some b) w w') (hk : w.heap[k]? = some (.cells c T fz)) (hb : k ≠ b) (hT : T ≠ e) : w'.heap[k]? = some (.cells c T fz) :=
  h k _ hk (by simpa using hb) (fun c' fz' e' => by injection e' with _ h2 _; exact hT h2)
theorem ib_set {T e : TypeId} {B b : Nat} {bs : List Value} {W : World} (h : Lib.IsBuilderF T e B b bs W) {q : Nat} {c : Array Value} {U : TypeId} {fz : Nat × Nat} (hq : W.heap[q]? = some (.cells c U fz)) (h1 : U ≠ T) (h2 : U ≠ e) (i : Nat) (v : Value) : Lib.IsBuilderF T e B b bs (W.setCell ⟨q, i, none⟩ v) :=
  ib_keep h (fun k o hk ho => by
    have hne : k ≠ q := by
      rintro rfl
      rw [hq] at hk
      obtain ⟨c', fz', h | h⟩ := ho
      · rw [h] at hk; injection hk with hk; injection hk with _ hk _; exact h1 hk
      · rw [h] at hk; injection hk with hk; injection hk with _ hk _; exact h2 hk
    rw [heap_setCell_other W ⟨q, i, none⟩ k v hne]
    exact hk)

theorem ib_ne {T e : TypeId} {B b : Nat} {bs : List Value} {W : World} (h : Lib.IsBuilderF T e B b bs W) {q : Nat} {c : Array Value} {U : TypeId} {fz : Nat × Nat} (hq : W.heap[q]? = some (.cells c U fz)) (h1 : U ≠ T) : q ≠ b := by
  rintro rfl
  rcases h with ⟨_, v, h2, _⟩ | ⟨_, v, h2, _⟩
  · rw [hq] at h2; injection h2 with h2; injection h2 with _ h2 _; exact h1 h2
  · rw [hq] at h2; injection h2 with h2; injection h2 with _ h2 _; exact h1 h2
theorem said_next {w w4 : World} {q m k' : Nat} {sm : ByteArray} {bs : List Value} {z : Int} {u : Value} (hz : z = (k' : Int)) (hq : w4.heap[q]? = some (.cells #[u] 3 (0, 0))) (hm : w4.heap[m]? = some (.cells #[.string sm] 9 (0, 0))) (hI : Lib.IsBuilderF 42 5 w.heap.size w.heap.size bs w4) (hb : Below w.heap.size w w4) (hqB : w.heap.size ≤ q) :
    ((w4.setCell ⟨q, 0, none⟩ (.int .i64 z)).alloc (.cells #[.int .i64 z] 3)).heap[w4.heap.size]? = some (.cells #[.int .i64 (k' : Int)] 3 (0, 0)) ∧ ((w4.setCell ⟨q, 0, none⟩ (.int .i64 z)).alloc (.cells #[.int .i64 z] 3)).heap[m]? = some (.cells #[.string sm] 9 (0, 0)) ∧ Below w.heap.size w ((w4.setCell ⟨q, 0, none⟩ (.int .i64 z)).alloc (.cells #[.int .i64 z] 3)) ∧ Lib.IsBuilderF 42 5 w.heap.size w.heap.size bs ((w4.setCell ⟨q, 0, none⟩ (.int .i64 z)).alloc (.cells #[.int .i64 z] 3)) := by
  subst hz
  have hsz : (w4.setCell ⟨q, 0, none⟩ (.int .i64 (k' : Int))).heap.size = w4.heap.size := by simp
  have hmq : m ≠ q := by
    rintro rfl
    rw [hq] at hm; injection hm with hm; injection hm with _ hm _; exact absurd hm (by decide)
  have hml : m < w4.heap.size := (Array.getElem?_eq_some_iff.1 hm).1
  have h1 := ib_set hI hq (by decide) (by decide) 0 (.int .i64 (k' : Int))
  refine ⟨?_, ?_, ?_, ?_⟩
  · rw [← hsz]; exact alloc_new _ _
  · exact (Below.heap_alloc _ _ m (by rw [hsz]; exact hml)).trans ((heap_setCell_other w4 ⟨q, 0, none⟩ m _ hmq).trans hm)
  · exact (hb.setCell hqB _).alloc (by rw [hsz]; exact hb.size) _
  · exact ib_below h1 ((Below.refl _ _).alloc (Nat.le_refl _) _)

set_option maxHeartbeats 2000000 in
set_option maxRecDepth 100000 in
theorem said_any (s : ByteArray) (w : World) (hW : Words w) (hs : s.size ≤ 100000000) :
    Calls Tryd.prog 41 #[.string s] w fun e w' => ∃ S : ByteArray, e = .returned (.string S) ∧ S.data.toList = unescS s.data.toList ∧ Below w.heap.size w w' := by
  have HB0 : Box (Lib.IsBuilderF 42 5 w.heap.size w.heap.size (Lib.byteCells []) (w.alloc (.cells #[.pointer none, .slice none 0 0] 42))) := ⟨Lib.IsBuilderF.of (.inl ⟨Nat.le_refl _, _, alloc_new w _, World.ownsRow_nil _ _ _ _, by simp [Value.ownBlock]⟩)⟩
  have hb0 : Below w.heap.size w (w.alloc (.cells #[.pointer none, .slice none 0 0] 42)) := (Below.refl _ _).alloc (Nat.le_refl _) _
  have HW := Box.mk hW
  have hg0 := hW.lt
  clear hW
  go_enter Tryd.func41, Tryd.ntmps41
  go_wp2_with fail
  refine (small_str s _ hs).mono ?_
  rintro e w1 ⟨sm, rfl, hsm, hb1⟩
  have hs1 : w.heap.size + 1 ≤ w1.heap.size := by have := hb1.size; simpa using this
  have HS := Box.mk hsm
  have hss : sm.size = s.size := by rw [← size_list, hsm, ← size_list]; unfold smallS; simp
  clear hsm
  have hb2 : Below w1.heap.size w1 (w1.alloc (.cells #[.string sm] 9)) := (Below.refl _ _).alloc (Nat.le_refl _) _
  have hb3 : Below (w1.heap.size + 1) (w1.alloc (.cells #[.string sm] 9)) ((w1.alloc (.cells #[.string sm] 9)).alloc (.cells #[.int .i64 0] 3)) := (Below.refl _ _).alloc (by simp) _
  have HB3 := Box.mk (ib_below HB0.out (hb1.trans ((hb2.trans (hb3.mono (by omega))).mono hb1.size)))
  have hbw3 : Below w.heap.size w ((w1.alloc (.cells #[.string sm] 9)).alloc (.cells #[.int .i64 0] 3)) := hb0.trans ((hb1.trans ((hb2.trans (hb3.mono (by omega))).mono hb1.size)).mono (by simp))
  have hm0 : ((w1.alloc (.cells #[.string sm] 9)).alloc (.cells #[.int .i64 0] 3)).heap[w1.heap.size]? = some (.cells #[.string sm] 9 (0, 0)) := (hb3.block _ (by omega)).trans (alloc_new w1 _)
  have hq0 : ((w1.alloc (.cells #[.string sm] 9)).alloc (.cells #[.int .i64 0] 3)).heap[w1.heap.size + 1]? = some (.cells #[.int .i64 0] 3 (0, 0)) := by
    have := alloc_new (w1.alloc (.cells #[.string sm] 9)) (.cells #[.int .i64 0] 3)
    simpa using this
  clear HB0 hb0 hb1 hb2 hb3
  go_wp2
  go_loopg [5] s.size (fun gf x wx => ∃ (k q : Nat) (o : List UInt8), k ≤ s.size ∧ w.heap.size ≤ q ∧ x = .pointer (some ⟨q, 0, none⟩) ∧ wx.heap[q]? = some (.cells #[.int .i64 (k : Int)] 3 (0, 0)) ∧ wx.heap[w1.heap.size]? = some (.cells #[.string sm] 9 (0, 0)) ∧ Below w.heap.size w wx ∧ Box (Lib.IsBuilderF 42 5 w.heap.size w.heap.size (Lib.byteCells o) wx) ∧ Box (o ++ unescS (s.data.toList.drop k) = unescS s.data.toList) ∧ o.length ≤ k ∧ s.size - k ≤ gf)
  case atStart => exact ⟨0, w1.heap.size + 1, [], Nat.zero_le _, by omega, by simp, hq0, hm0, hbw3, HB3, ⟨by simp⟩, by simp, by omega⟩
  case round =>
    obtain ⟨k, q, o, hk, hqB, rfl, hq, hm, hb, HB, HT, ho, hgf⟩ := hrel
    clear HB3 hbw3 hm0 hq0
    have hqb := ib_ne HB.out hq (by decide)
    have hmb := ib_ne HB.out hm (by decide)
    have hql : q < wr.heap.size := (Array.getElem?_eq_some_iff.1 hq).1
    have hml : w1.heap.size < wr.heap.size := (Array.getElem?_eq_some_iff.1 hm).1
    have cq := cell1 hq
    have hsz := hb.size
    have HL : Box ((Lib.byteCells o).length ≤ 100000000) := ⟨by simp only [Lib.byteCells, List.length_map]; omega⟩
    by_cases hlt : k < s.size
    · have HFD := Box.mk (findSaid (.pointer (some ⟨w1.heap.size, 0, none⟩)) (.pointer (some ⟨q, 0, none⟩)) (fun x => x.2.data.toList.isPrefixOf (sm.data.toList.drop k)) wr (HW.out.below hb hg0) (fun x w' hb' => clSaid_any x _ _ sm k w' (cell1 ((hb'.block _ hml).trans hm)) (cell1 ((hb'.block _ hql).trans hq)) (by omega)))
      rcases said_find sm s k hlt HS.out with ⟨x, hx1, hx2, hx3, hx4⟩ | ⟨hx1, hx2⟩
      · have HN : Box ((o ++ [x.1]) ++ unescS (s.data.toList.drop (k + x.2.size)) = unescS s.data.toList) := ⟨by rw [← HT.out, hx2]; simp⟩
        rw [hx1] at HFD
        simp only [findV] at HFD
        clear hx1 hx2 HT
        go_wp2_with fail
        refine HFD.out.mono ?_
        rintro e w2 ⟨rfl, hb2⟩
        clear HFD
        have hs2 := hb2.size
        have hb3 : Below wr.heap.size wr (w2.alloc (.cells #[.int .u8 (x.1.toNat : Int), .string x.2] 55)) := hb2.alloc hs2 _
        have HB3 := Box.mk (ib_below HB.out hb3)
        have HQ3 := Box.mk ((hb3.block q hql).trans hq)
        have HM3 := Box.mk ((hb3.block _ hml).trans hm)
        have HX3 := Box.mk (alloc_new w2 (.cells #[.int .u8 (x.1.toNat : Int), .string x.2] 55))
        go_wp2_with fail
        refine (Tryd.Builder_WriteByte w.heap.size w.heap.size _ _ _ HB3.out (by have := HL.out; omega) (by simp; omega)).mono ?_
        rintro e w4 ⟨rfl, hA4, hb4, ho4⟩
        rw [bcells_one] at hA4
        have hq4 := kept_heap ho4 HQ3.out hqb (by decide)
        have hm4 := kept_heap ho4 HM3.out hmb (by decide)
        have hx5 := kept_heap ho4 HX3.out (by omega) (by decide)
        have hbw4 : Below w.heap.size w w4 := (hb.trans (hb3.mono hsz)).trans hb4
        obtain ⟨y0, y1, y2, y3, y4⟩ := obj2_of hx5
        have z0 := cell1 hq4
        have zf : w4.frozen? ⟨q, 0, none⟩ = false := by simp [World.frozen?, hq4]
        have zl : q < w4.heap.size := (Array.getElem?_eq_some_iff.1 hq4).1
        have HX := Box.mk (said_next (k' := k + x.2.size) (z := (k : Int) + (x.2.size : Int)) (by simp) hq4 hm4 (.inr hA4) hbw4 hqB)
        clear hq4 hm4 hx5 hA4 hb4 ho4 HX3 HM3 HQ3 HB3
        go_wp2
        go_roundg (s.size - (k + x.2.size))
        case measure => omega
        case rel => exact ⟨k + x.2.size, w4.heap.size, o ++ [x.1], by omega, Nat.le_trans hqB (Nat.le_of_lt zl), by simp, HX.out.1, HX.out.2.1, HX.out.2.2.1, ⟨HX.out.2.2.2⟩, HN, by simp; omega, by omega⟩
      · have HN : Box ((o ++ [s[k]]) ++ unescS (s.data.toList.drop (k + 1)) = unescS s.data.toList) := ⟨by rw [← HT.out, hx2]; simp⟩
        rw [hx1] at HFD
        simp only [findV] at HFD
        clear hx1 hx2 HT
        go_wp2_with fail
        refine HFD.out.mono ?_
        rintro e w2 ⟨rfl, hb2⟩
        clear HFD
        have hs2 := hb2.size
        have hb3 : Below wr.heap.size wr (w2.alloc (.cells #[.int .u8 0, .string ⟨#[]⟩] 55)) := hb2.alloc hs2 _
        have HB3 := Box.mk (ib_below HB.out hb3)
        have HQ3 := Box.mk ((hb3.block q hql).trans hq)
        have HM3 := Box.mk ((hb3.block _ hml).trans hm)
        have cq2 := cell1 ((hb2.block q hql).trans hq)
        have cl2 : q < w2.heap.size := by omega
        go_wp2_with fail
        refine (Tryd.Builder_WriteByte w.heap.size w.heap.size _ _ _ HB3.out (by have := HL.out; omega) (by simp; omega)).mono ?_
        rintro e w4 ⟨rfl, hA4, hb4, ho4⟩
        rw [bcells_one] at hA4
        have hq4 := kept_heap ho4 HQ3.out hqb (by decide)
        have hm4 := kept_heap ho4 HM3.out hmb (by decide)
        have hbw4 : Below w.heap.size w w4 := (hb.trans (hb3.mono hsz)).trans hb4
        have z0 := cell1 hq4
        have zf : w4.frozen? ⟨q, 0, none⟩ = false := by simp [World.frozen?, hq4]
        have zl : q < w4.heap.size := (Array.getElem?_eq_some_iff.1 hq4).1
        have HX := Box.mk (said_next (k' := k + 1) (z := (k : Int) + 1) (by simp) hq4 hm4 (.inr hA4) hbw4 hqB)
        clear hq4 hm4 hA4 hb4 ho4 HM3 HQ3 HB3
        go_wp2
        go_roundg (s.size - (k + 1))
        case measure => omega
        case rel => exact ⟨k + 1, w4.heap.size, o ++ [s[k]], by omega, Nat.le_trans hqB (Nat.le_of_lt zl), by simp, HX.out.1, HX.out.2.1, HX.out.2.2.1, ⟨HX.out.2.2.2⟩, HN, by simp; omega, by omega⟩
    · have HD : Box (o = unescS s.data.toList) := ⟨by
        rw [← HT.out, List.drop_of_length_le (by rw [size_list]; omega)]
        simp [unescS, unescF]⟩
      go_wp2_with fail
      refine (Tryd.Builder_String w.heap.size w.heap.size _ _ HB.out hsz).mono ?_
      rintro e w3 ⟨rfl, hA3, hb3, ho3⟩
      go_wp2
      go_ret
      exact ⟨_, rfl, HD.out, hb.trans hb3⟩

end Go.Proofs.YtkmkhfgoihfkjaaDoor
