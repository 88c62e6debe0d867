import Derived.Test.YtpdfghmfhljfiaaDoorH2
namespace Go.Proofs.YtpdfghmfhljfiaaDoor
open Go.RowKit

/-- A slice of bytes of the call's own; its row may bear the mark that a conversion of a string lays behind its last cell. -/
def OwnG (w : World) (B : Nat) (v : Value) (l : List UInt8) : Prop :=
  ∃ g cap cur fz, v = .slice (some ⟨g, 0, none⟩) l.length cap ∧ B ≤ g ∧ w.heap[g]? = some (.cells cur 5 fz) ∧ (cur.size ≤ fz.1 ∨ fz.2 = 0) ∧ l.length ≤ cap ∧ cap ≤ maxLen ∧ cur.size = cap ∧ cur.toList.take l.length = cs l

theorem thaw {w : World} {g : Nat} {cur : Array Value} {t : TypeId} {fz : Nat × Nat} (hg : w.heap[g]? = some (.cells cur t fz)) (hf : cur.size ≤ fz.1 ∨ fz.2 = 0) (k : Nat) (hk : k < cur.size) : w.frozen? ⟨g, k, none⟩ = false := by
  obtain ⟨lo, hi⟩ := fz
  simp only [World.frozen?, hg]
  rcases hf with hf | hf
  · have : decide (lo ≤ k) = false := decide_eq_false (by simp at hf; omega)
    rw [this]; rfl
  · have : decide (k < hi) = false := decide_eq_false (by simp at hf; omega)
    rw [this, Bool.and_false]

theorem OwnG.cell {w : World} {B g n cap : Nat} {l : List UInt8} (h : OwnG w B (.slice (some ⟨g, 0, none⟩) n cap) l) (k : Nat) (hk : k < l.length) : w.cell? ⟨g, k, none⟩ = some (.int .u8 (l[k].toNat : Int)) ∧ w.frozen? ⟨g, k, none⟩ = false := by
  obtain ⟨g', cap', cur, fz, hv, _, hg, hf, hc, _, hs, ht⟩ := h
  simp only [Value.slice.injEq, Option.some.injEq, Addr.mk.injEq, and_true] at hv
  obtain ⟨rfl, _, rfl⟩ := hv
  refine ⟨?_, thaw hg hf k (by omega)⟩
  have hks : k < cur.size := by omega
  have e : (cur.toList.take l.length)[k]? = (cs l)[k]? := by rw [ht]
  rw [List.getElem?_take, if_pos hk] at e
  simp only [World.cell?, hg]
  rw [← Array.getElem?_toList, e]
  simp [cs, List.getElem?_eq_getElem hk]

theorem OwnG.len {w : World} {B g n cap : Nat} {l : List UInt8} (h : OwnG w B (.slice (some ⟨g, 0, none⟩) n cap) l) : n = l.length ∧ l.length ≤ cap ∧ B ≤ g ∧ g < w.heap.size := by
  obtain ⟨g', cap', cur, fz, hv, hB, hg, hf, hc, _, hs, ht⟩ := h
  simp only [Value.slice.injEq, Option.some.injEq, Addr.mk.injEq, and_true] at hv
  obtain ⟨rfl, h1, rfl⟩ := hv
  exact ⟨h1, hc, hB, (Array.getElem?_eq_some_iff.1 hg).1⟩

theorem OwnG.set {w : World} {B g n cap : Nat} {l : List UInt8} (h : OwnG w B (.slice (some ⟨g, 0, none⟩) n cap) l) (k : Nat) (c : UInt8) : OwnG (w.setCell ⟨g, k, none⟩ (.int .u8 (c.toNat : Int))) B (.slice (some ⟨g, 0, none⟩) n cap) (l.set k c) := by
  obtain ⟨g', cap', cur, fz, hv, hB, hg, hf, hc, hm, hs, ht⟩ := h
  simp only [Value.slice.injEq, Option.some.injEq, Addr.mk.injEq, and_true] at hv
  obtain ⟨rfl, rfl, rfl⟩ := hv
  refine ⟨g, cap, cur.setIfInBounds k (.int .u8 (c.toNat : Int)), fz, by rw [List.length_set], hB, ?_, by simpa using hf, by simpa using hc, hm, by simpa using hs, ?_⟩
  · rw [setCell_eq_setRow w g k cur _ fz _ hg]
    exact setRow_heap w g cur _ _ fz hg
  · rw [List.length_set, Array.toList_setIfInBounds, List.take_set, ht]
    simp [cs, List.map_set]

theorem OwnG.below {w w' : World} {B C : Nat} {v : Value} {l : List UInt8} (h : OwnG w B v l) (hb : Below C w w') (hC : w.heap.size ≤ C) : OwnG w' B v l := by
  obtain ⟨g, cap, cur, fz, hv, hB, hg, hr⟩ := h
  refine ⟨g, cap, cur, fz, hv, hB, ?_, hr⟩
  rw [hb.block g (by have := (Array.getElem?_eq_some_iff.1 hg).1; omega)]
  exact hg
theorem OwnG.heap {w w' : World} {B : Nat} {v : Value} {l : List UInt8} (h : OwnG w B v l) (e : w'.heap = w.heap) : OwnG w' B v l := by
  unfold OwnG
  rw [e]
  exact h

theorem OwnG.string {w : World} {B : Nat} {v : Value} {l : List UInt8} (h : OwnG w B v l) : (convert 86 9 v).run Tryd.prog w = .ok (.string ⟨l.toArray⟩) w := by
  have h' := h
  obtain ⟨g, cap, cur, fz, rfl, _⟩ := h
  refine run_convert_bytes_back w _ _ 5 ⟨g, 0, none⟩ cap l Tryd.underlying86 Tryd.underlying5 Tryd.underlying9 (fun j hj => ?_)
  rw [Addr.add_lit]
  simpa using (h'.cell j hj).1

/-- '[]byte(s)'. -/
theorem run_bytes (W : World) (s : ByteArray) : (convert 9 86 (.string s)).run Tryd.prog W = .ok (.slice (some ⟨W.heap.size, 0, none⟩) s.size (grownCap W s.size 0 5)) (W.drew.alloc (.cells (bytesRow s (grownCap W s.size 0 5)) 5 ((bytesRow s (grownCap W s.size 0 5)).size, (bytesRow s (grownCap W s.size 0 5)).size + 1))) :=
  run_bytes_of_string W _ _ _ s Tryd.underlying9 Tryd.underlying86 Tryd.underlying5
theorem OwnG.bytes (W w' : World) (B : Nat) (s : ByteArray) (hB : B ≤ W.heap.size) (hl : s.size ≤ 10000000) (e : w'.heap = W.heap.push (.cells (bytesRow s (grownCap W s.size 0 5)) 5 ((bytesRow s (grownCap W s.size 0 5)).size, (bytesRow s (grownCap W s.size 0 5)).size + 1))) :
    OwnG w' B (.slice (some ⟨W.heap.size, 0, none⟩) s.size (grownCap W s.size 0 5)) s.data.toList := by
  have hge := grownCap_ge W s.size 0 5
  have hsz : (bytesRow s (grownCap W s.size 0 5)).size = grownCap W s.size 0 5 := by
    have hd : s.data.size = s.size := rfl
    simp [bytesRow, hd]; omega
  refine ⟨W.heap.size, _, bytesRow s (grownCap W s.size 0 5), ((bytesRow s (grownCap W s.size 0 5)).size, (bytesRow s (grownCap W s.size 0 5)).size + 1), by rw [size_list], hB, by rw [e]; simp, .inl (Nat.le_refl _), by rw [size_list]; exact hge, grownCap_le_maxLen W _ 0 _ (by unfold maxLen; omega), hsz, ?_⟩
  have hd : (s.data.toList).length = (cs s.data.toList).length := by simp [cs]
  rw [hd]
  simp [bytesRow, cs]

theorem storeG (g o : Nat) (t : TypeId) (fz : Nat × Nat) (vs : List Value) : ∀ (i : Nat) (cur : Array Value) (w : World), w.heap[g]? = some (.cells cur t fz) → (cur.size ≤ fz.1 ∨ fz.2 = 0) → o + i + vs.length ≤ cur.size → (∀ v ∈ vs, v.oneCell' = true) →
    (storeCells ⟨g, o, none⟩ vs i).run Tryd.prog w = .ok () (w.setRow g (cur.toList.take (o + i) ++ vs ++ cur.toList.drop (o + i + vs.length)).toArray) := by
  induction vs with
  | nil =>
    intro i cur w hg _ _ _
    have e : (cur.toList.take (o + i) ++ [] ++ cur.toList.drop (o + i + 0)).toArray = cur := by simp
    rw [List.length_nil, e, setRow_self w g cur t fz hg]; rfl
  | cons v vs ih =>
    intro i cur w hg hf hl h1
    rw [List.length_cons] at hl
    have hlt : o + i < cur.size := by omega
    have ha : (⟨g, o, none⟩ : Addr).add i = ⟨g, o + i, none⟩ := Addr.add_lit _ _ _
    have one : (store ((⟨g, o, none⟩ : Addr).add i) v).run Tryd.prog w = .ok () (w.setRow g (cur.setIfInBounds (o + i) v)) := by
      rw [ha, run_store Tryd.prog w _ v _ (h1 v List.mem_cons_self)]
      have hc : w.cell? ⟨g, o + i, none⟩ = some cur[o + i] := by simp [World.cell?, hg, hlt]
      rw [hc]
      simp [thaw hg hf (o + i) hlt, setCell_eq_setRow w g (o + i) cur t fz v hg]
    have more := ih (i + 1) (cur.setIfInBounds (o + i) v) (w.setRow g (cur.setIfInBounds (o + i) v)) (setRow_heap w g cur _ t _ hg) (by simpa using hf) (by simpa using (by omega : o + (i + 1) + vs.length ≤ cur.size)) (fun x hx => h1 x (List.mem_cons_of_mem _ hx))
    have seg := list_seg_step cur.toList (o + i) v vs (by rw [Array.length_toList]; omega)
    simp only [storeCells, Sem.run_bind, one, Result.andThen_ok, more, setRow_setRow]
    rw [Array.toList_setIfInBounds, ← Nat.add_assoc, seg, List.length_cons]

/-- 'append(v, s...)', s a text. -/
theorem OwnG.app {w : World} {B : Nat} {v : Value} {l : List UInt8} (h : OwnG w B v l) (s : ByteArray) (ty : TypeId) (hl : l.length + s.size ≤ 10000000) (hB : B ≤ w.heap.size) :
    ∃ v' w', (Builtin.append_ #[86, 9] ty #[v, .string s]).run Tryd.prog w = .ok v' w' ∧ OwnG w' B v' (l ++ s.data.toList) ∧ w.grownBy w' v.ownBlock ∧ (v'.ownBlock = v.ownBlock ∨ v'.ownBlock = some w.heap.size) := by
  obtain ⟨i0, hi, hz0, hz1, hz2⟩ := info_parts Tryd.infoByte
  obtain ⟨g, cap, cur, fz, rfl, hBg, hg, hf, hc, hm, hs, ht⟩ := h
  have hlen : (l ++ s.data.toList).length = l.length + s.size := by rw [List.length_append, size_list]
  have hsc : Lib.strCells s = cs s.data.toList := rfl
  have hscl : (Lib.strCells s).length = s.size := by rw [hsc, cs_length, size_list]
  by_cases hroom : l.length + s.size ≤ cap
  · have hst := storeG g l.length 5 fz (Lib.strCells s) 0 cur w hg hf (by rw [hscl]; omega) (Lib.strCells_oneCell s)
    rw [Nat.add_zero, hscl] at hst
    have hfst := Lib.run_firstCells_string (P := Tryd.prog) w 1 s
    refine ⟨.slice (some ⟨g, 0, none⟩) (l.length + s.size) cap, _, by simp [Builtin.append_, run_underlying Tryd.underlying86, run_underlying Tryd.underlying9, sizeOf, typeInfo, hi, hz1, Builtin.lenOf, hroom, hfst, Addr.add_lit, hst]; rfl, ⟨g, cap, _, fz, by rw [hlen], hBg, setRow_heap w g cur _ _ fz hg, ?_, by omega, hm, ?_, ?_⟩, ⟨rfl, rfl, rfl, by simp, fun k _ hk => setRow_other w g k _ (fun e => hk (by simp [Value.ownBlock, e]))⟩, .inl rfl⟩
    · simp only [List.size_toArray, List.length_append, List.length_take, List.length_drop, Array.length_toList, hscl]
      rcases hf with hf | hf
      · exact .inl (by omega)
      · exact .inr hf
    · simp only [List.size_toArray, List.length_append, List.length_take, List.length_drop, Array.length_toList, hscl]
      omega
    · have hh : (cs (l ++ s.data.toList)).length = l.length + s.size := by rw [cs_length, hlen]
      rw [ht, hsc, hlen, ← List.append_assoc, ← cs_append, ← hh]
      exact List.take_left
  · have holds : ∀ j u, (cs l)[j]? = some u → w.cell? ((⟨g, 0, none⟩ : Addr).add j) = some u := by
      intro j u hu
      have hj : j < l.length := by simpa [cs] using (List.getElem?_eq_some_iff.1 hu).1
      rw [Addr.add_lit, Nat.zero_add]
      have e : (cur.toList.take l.length)[j]? = (cs l)[j]? := by rw [ht]
      rw [List.getElem?_take, if_pos hj, hu] at e
      rw [Array.getElem?_toList] at e
      simp [World.cell?, hg, e]
    have hr := Lib.run_append_grow_string (P := Tryd.prog) w _ _ ty 5 i0 (.int .u8 0) Tryd.underlying86 Tryd.underlying9 hi hz0 ⟨g, 0, none⟩ l.length cap (cs l) (by rw [hz1, cs_length, Nat.mul_one]) holds s (by omega) (by omega) (by rw [hz2]; exact growslice_fits (by omega) (by omega))
    have hge := grownCap_ge w (l.length + s.size) cap 5
    refine ⟨_, _, hr, ⟨w.heap.size, _, _, (0, 0), by rw [hlen], hB, heap_alloc_new w.drew _, .inr rfl, by rw [hlen]; exact hge, grownCap_le_maxLen w _ cap _ (by unfold maxLen; omega), ?_, ?_⟩, ⟨rfl, rfl, rfl, by simp, fun k hk _ => Below.heap_alloc w.drew _ k hk⟩, .inr rfl⟩
    · have hz : (Value.int IntKind.u8 0).cells.size = 1 := rfl
      simp only [Array.size_append, List.size_toArray, size_zeroCells, hz, cs_length, hscl]
      omega
    · have hh : (cs (l ++ s.data.toList)).length = l.length + s.size := by rw [cs_length, hlen]
      rw [hsc, hlen, ← hh, Array.toList_append, Array.toList_append, ← cs_append]
      exact List.take_left

theorem wp_appG {ops : Array Oper} {rest : List Oper} {o : Oper} {a : Act} {Q : Exit → Act → World → Prop} (W w0 : World) (hgd : o.guard = none) (s x : Operand) (ho : o.op = .call { callee := .builtin .append, args := #[s, x], argTypes := #[86, 9] })
    (B : Nat) (v : Value) (l : List UInt8) (hs : a.eval s = v) (hown : OwnG W B v l) (t : ByteArray) (hx : a.eval x = .string t) (hl : l.length + t.size ≤ 10000000) (hB : B ≤ W.heap.size) (hb : Below B w0 W)
    (h : ∀ v' w', OwnG w' B v' (l ++ t.data.toList) → Below B w0 w' → W.grownBy w' v.ownBlock → (v'.ownBlock = v.ownBlock ∨ v'.ownBlock = some W.heap.size) → wpList Tryd.prog ops Q rest (a.put o.dst v') w') : wpList Tryd.prog ops Q (o :: rest) a W := by
  refine wpList_plain hgd fun K hK => ?_
  obtain ⟨v', w', hr, h2, h3, h4⟩ := hown.app t o.type hl hB
  unfold Oper.wp execOp
  simp only [ho, resolve, invoke, builtin, Sem.run_bind, Sem.run_pure, Result.andThen_ok, List.map_toArray, List.map_cons, List.map_nil, hs, hx, hr]
  refine hK _ _ (h v' w' h2 (hb.grown h3 hB ?_) h3 h4)
  obtain ⟨g, cap, cur, fz, rfl, hBg, _⟩ := hown
  intro k hk
  simp [Value.ownBlock] at hk
  omega

/-- Cells of another block stay as they were. -/
theorem grown_cell {w w' : World} {row : Option Nat} (h : w.grownBy w' row) (a : Addr) (ha : a.block < w.heap.size) (hne : row ≠ some a.block) : w'.cell? a = w.cell? a :=
  World.cell?_of_block (w := w) (h.block a.block ha (fun e => hne e.symm))

end Go.Proofs.YtpdfghmfhljfiaaDoor
