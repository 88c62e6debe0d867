import Derived.Test.YtkmkhfgoihfkjaaDoorZL4
namespace Go.Proofs.YtkmkhfgoihfkjaaDoor
open Go.RowKit

/- A strings.Builder in other worlds. -/
theorem bf_keep {T e : TypeId} {B b : Nat} {p : Value} {bs : List Value} {W W' : World} (h : Lib.BuilderAtF T e B b p bs W) (key : ∀ (k : Nat) (o : Obj), W.heap[k]? = some o → (∃ c fz, o = .cells c T fz ∨ o = .cells c e fz) → W'.heap[k]? = some o) : Lib.BuilderAtF T e B b p bs W' := by
  obtain ⟨hB, v, h1, ⟨h2, h3⟩, h4⟩ := h
  refine ⟨hB, v, key _ _ h1 ⟨_, _, .inl rfl⟩, ⟨h2, ?_⟩, h4⟩
  rcases h3 with h3 | ⟨g, cap, cur, fz, a, b', c, d⟩
  · exact .inl h3
  · exact .inr ⟨g, cap, cur, fz, a, b', key _ _ c ⟨_, _, .inr rfl⟩, d⟩
theorem ib_keep {T e : TypeId} {B b : Nat} {bs : List Value} {W W' : World} (h : Lib.IsBuilderF T e B b bs W) (key : ∀ (k : Nat) (o : Obj), W.heap[k]? = some o → (∃ c fz, o = .cells c T fz ∨ o = .cells c e fz) → W'.heap[k]? = some o) : Lib.IsBuilderF T e B b bs W' :=
  h.elim (fun x => .inl (bf_keep x key)) (fun x => .inr (bf_keep x key))
theorem ib_below {T e : TypeId} {B b : Nat} {bs : List Value} {W W' : World} (h : Lib.IsBuilderF T e B b bs W) (hb : Below W.heap.size W W') : Lib.IsBuilderF T e B b bs W' :=
  ib_keep h (fun k _ hk _ => (hb.block k (Array.getElem?_eq_some_iff.1 hk).1).trans hk)
theorem bcells_snoc (l : List UInt8) (s : ByteArray) : Lib.byteCells l ++ Lib.strCells s = Lib.byteCells (l ++ s.data.toList) := by
  simp [Lib.byteCells, Lib.strCells]
theorem bcells_one (l : List UInt8) (c : UInt8) : Lib.byteCells l ++ [.int .u8 (c.toNat : Int)] = Lib.byteCells (l ++ [c]) := by
  simp [Lib.byteCells]

theorem esc_find (c : UInt8) : (∃ x, wordsL.find? (fun x => x.1 == c) = some x ∧ escW c = x.2.data.toList ∧ x.2.size ≤ 6) ∨ (wordsL.find? (fun x => x.1 == c) = none ∧ escW c = [c]) := by
  unfold wordsL escW
  by_cases h1 : c = 38
  · subst h1; exact .inl ⟨_, rfl, rfl, by decide⟩
  by_cases h2 : c = 34
  · subst h2; exact .inl ⟨_, rfl, rfl, by decide⟩
  by_cases h3 : c = 39
  · subst h3; exact .inl ⟨_, rfl, rfl, by decide⟩
  by_cases h4 : c = 60
  · subst h4; exact .inl ⟨_, rfl, rfl, by decide⟩
  by_cases h5 : c = 62
  · subst h5; exact .inl ⟨_, rfl, rfl, by decide⟩
  refine .inr ⟨?_, by rw [if_neg h1, if_neg h2, if_neg h3, if_neg h4, if_neg h5]⟩
  simp [Ne.symm h1, Ne.symm h2, Ne.symm h3, Ne.symm h4, Ne.symm h5]
theorem escW_len (c : UInt8) : (escW c).length ≤ 6 := by
  unfold escW
  repeat' split
  all_goals simp
theorem escS_len (l : List UInt8) : (escS l).length ≤ 6 * l.length := by
  induction l with
  | nil => simp [escS]
  | cons c l ih =>
    have e : escS (c :: l) = escW c ++ escS l := rfl
    rw [e, List.length_append, List.length_cons]
    have := escW_len c
    omega
theorem escS_take (s : ByteArray) (k : Nat) (h : k < s.size) : escS (s.data.toList.take (k + 1)) = escS (s.data.toList.take k) ++ escW s[k] := by
  have e : s.data.toList.take (k + 1) = s.data.toList.take k ++ [s[k]] := by
    rw [List.take_add_one, getL s k h]
    rfl
  rw [e]
  unfold escS
  rw [List.flatMap_append]
  simp
theorem Words.lt {w : World} (h : Words w) : 2 < w.heap.size := World.block_lt_of_cell? w _ h.c0
theorem Words.below {w w' : World} {B : Nat} (h : Words w) (hb : Below B w w') (hB : 2 < B) : Words w' := by
  have key : ∀ (i : Nat) (v : Value), w.cell? ⟨2, i, none⟩ = some v → w'.cell? ⟨2, i, none⟩ = some v := fun i v hv => (hb.cell (p := ⟨2, i, none⟩) hB).trans hv
  exact ⟨key _ _ h.c0, key _ _ h.c1, key _ _ h.c2, key _ _ h.c3, key _ _ h.c4, key _ _ h.c5, key _ _ h.c6, key _ _ h.c7, key _ _ h.c8, key _ _ h.c9⟩
theorem cell1 {w : World} {b : Nat} {v : Value} {T : TypeId} {fz : Nat × Nat} (h : w.heap[b]? = some (.cells #[v] T fz)) : w.cell? ⟨b, 0, none⟩ = some v := by simp [World.cell?, h]

set_option maxHeartbeats 2000000 in
set_option maxRecDepth 100000 in
theorem escape_any (s : ByteArray) (w : World) (hW : Words w) (hs : s.size ≤ 100000000) :
    Calls Tryd.prog 21 #[.string s] w fun e w' => ∃ S : ByteArray, e = .returned (.string S) ∧ S.data.toList = escS s.data.toList ∧ Below w.heap.size w w' := by
  obtain ⟨w1, hw1⟩ : ∃ w1, w1 = w.alloc (.cells #[.string s] 9) := ⟨_, rfl⟩
  have hb1 : Below w.heap.size w w1 := by rw [hw1]; exact (Below.refl _ _).alloc (Nat.le_refl _) _
  have hs1 : w1.heap.size = w.heap.size + 1 := by rw [hw1]; simp
  have hbox : w1.heap[w.heap.size]? = some (.cells #[.string s] 9 (0, 0)) := by rw [hw1]; exact alloc_new w _
  have HW1 := Box.mk (hW.below hb1 hW.lt)
  have HB0 : Box (Lib.IsBuilderF 42 5 (w.heap.size + 1) (w.heap.size + 1) (Lib.byteCells []) (w1.alloc (.cells #[.pointer none, .slice none 0 0] 42))) := ⟨Lib.IsBuilderF.of (.inl ⟨Nat.le_refl _, _, by rw [← hs1]; exact alloc_new w1 _, World.ownsRow_nil _ _ _ _, by simp [Value.ownBlock]⟩)⟩
  have hb2 : Below (w.heap.size + 1) w1 (w1.alloc (.cells #[.pointer none, .slice none 0 0] 42)) := by rw [← hs1]; exact (Below.refl _ _).alloc (Nat.le_refl _) _
  rw [hw1] at HB0 hb2
  have hg0 := hW.lt
  clear hW
  go_enter Tryd.func21, Tryd.ntmps21
  go_wp2
  go_loopg [9] s.size (fun gf i wx => ∃ k : Nat, k ≤ s.size ∧ i = .int .i64 k ∧ Below (w.heap.size + 1) w1 wx ∧ Box (Lib.IsBuilderF 42 5 (w.heap.size + 1) (w.heap.size + 1) (Lib.byteCells (escS (s.data.toList.take k))) wx) ∧ s.size - k ≤ gf)
  case atStart => exact ⟨0, Nat.zero_le _, rfl, by rw [hw1]; exact hb2, ⟨HB0.out⟩, by omega⟩
  case round =>
    obtain ⟨k, hk, rfl, hb, HB, hgf⟩ := hrel
    have hsz : w.heap.size + 1 ≤ wr.heap.size := by have := hb.size; omega
    have hbx : wr.heap[w.heap.size]? = some (.cells #[.string s] 9 (0, 0)) := (hb.block _ (by omega)).trans hbox
    have hc1 := cell1 hbx
    by_cases hlt : k < s.size
    · have hwA : Box (∀ w', Below (wr.heap.size + 1) (wr.alloc (.cells #[.int .i64 (k : Int)] 3)) w' → w'.cell? ⟨w.heap.size, 0, none⟩ = some (.string s) ∧ w'.cell? ⟨wr.heap.size, 0, none⟩ = some (.int .i64 (k : Int)) ∧ Words w' ∧ Below wr.heap.size wr w') := ⟨fun w' hb' => by
        have hbA : Below wr.heap.size wr w' := ((Below.refl _ _).alloc (Nat.le_refl _) _).trans (hb'.mono (by omega))
        exact ⟨cell1 ((hbA.block _ (by omega)).trans hbx), cell1 ((hb'.block _ (by omega)).trans (alloc_new wr _)), (HW1.out.below hb (by omega)).below hbA (by omega), hbA⟩⟩
      have hsA : (wr.alloc (.cells #[.int .i64 (k : Int)] 3)).heap.size = wr.heap.size + 1 := by simp
      have HFD := Box.mk (findEsc (.pointer (some ⟨w.heap.size, 0, none⟩)) (.pointer (some ⟨wr.heap.size, 0, none⟩)) (fun x => x.1 == s[k]) (wr.alloc (.cells #[.int .i64 (k : Int)] 3)) (hwA.out _ (Below.refl _ _)).2.2.1 (fun x w' hb' => clEsc_any x _ _ s k w' (hwA.out w' (hb'.mono (by omega))).1 (hwA.out w' (hb'.mono (by omega))).2.1 hlt))
      have HL : Box ((Lib.byteCells (escS (s.data.toList.take k))).length ≤ 600000000) := ⟨by
        have h1 := escS_len (s.data.toList.take k)
        rw [List.length_take, size_list] at h1
        simp only [Lib.byteCells, List.length_map]
        omega⟩
      rcases esc_find s[k] with ⟨x, hx1, hx2, hx3⟩ | ⟨hx1, hx2⟩
      · have HN : Box (Lib.byteCells (escS (s.data.toList.take k)) ++ Lib.strCells x.2 = Lib.byteCells (escS (s.data.toList.take (k + 1)))) := ⟨by rw [bcells_snoc, escS_take s k hlt, hx2]⟩
        rw [hx1] at HFD
        simp only [findV] at HFD
        clear hx1 hx2
        go_wp2_with fail
        refine HFD.out.mono ?_
        rintro e w2 ⟨rfl, hb2'⟩
        clear HFD
        have hbB := (hwA.out w2 (hb2'.mono (by omega))).2.2.2
        have hs2 := hbB.size
        have HB2 := Box.mk (ib_below HB.out (hbB.alloc hs2 (.cells #[.int .u8 (x.1.toNat : Int), .string x.2] 55)))
        go_wp2_with fail
        refine (Tryd.Builder_WriteString (w.heap.size + 1) (w.heap.size + 1) _ x.2 _ HB2.out (by have := HL.out; omega) (by simp; omega)).mono ?_
        rintro e w3 ⟨rfl, hA3, hb3, ho3⟩
        rw [HN.out] at hA3
        go_wp2
        go_roundg (s.size - (k + 1))
        case measure => omega
        case rel => exact ⟨k + 1, by omega, by go_num, (hb.trans ((hbB.alloc hs2 _).mono (by omega))).trans (hb3.mono (by omega)), ⟨.inr hA3⟩, by omega⟩
      · have HN : Box (Lib.byteCells (escS (s.data.toList.take k)) ++ [.int .u8 (s[k].toNat : Int)] = Lib.byteCells (escS (s.data.toList.take (k + 1)))) := ⟨by rw [bcells_one, escS_take s k hlt, hx2]⟩
        rw [hx1] at HFD
        simp only [findV] at HFD
        clear hx1 hx2
        go_wp2_with fail
        refine HFD.out.mono ?_
        rintro e w2 ⟨rfl, hb2'⟩
        clear HFD
        obtain ⟨d1, d2, d3, hbB⟩ := hwA.out w2 (hb2'.mono (by omega))
        have hs2 := hbB.size
        have e1 := World.block_lt_of_cell? w2 _ d1
        have e2 := World.block_lt_of_cell? w2 _ d2
        have HB2 := Box.mk (ib_below HB.out (hbB.alloc hs2 (.cells #[.int .u8 0, .string ⟨#[]⟩] 55)))
        go_wp2_with fail
        refine (Tryd.Builder_WriteByte (w.heap.size + 1) (w.heap.size + 1) _ _ _ HB2.out (by have := HL.out; omega) (by simp; omega)).mono ?_
        rintro e w3 ⟨rfl, hA3, hb3, ho3⟩
        rw [HN.out] at hA3
        go_wp2
        go_roundg (s.size - (k + 1))
        case measure => omega
        case rel => exact ⟨k + 1, by omega, by go_num, (hb.trans ((hbB.alloc hs2 _).mono (by omega))).trans (hb3.mono (by omega)), ⟨.inr hA3⟩, by omega⟩
    · have HD : Box (escS (s.data.toList.take k) = escS s.data.toList) := ⟨by rw [List.take_of_length_le (by rw [size_list]; omega)]⟩
      rw [HD.out] at HB
      go_wp2_with fail
      refine (Tryd.Builder_String (w.heap.size + 1) (w.heap.size + 1) _ _ HB.out hsz).mono ?_
      rintro e w3 ⟨rfl, hA3, hb3, ho3⟩
      go_wp2
      go_ret
      exact ⟨_, rfl, rfl, hb1.trans ((hb.trans hb3).mono (by omega))⟩

end Go.Proofs.YtkmkhfgoihfkjaaDoor
