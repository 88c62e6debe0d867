import Derived.Test.YtkmkhfgoihfkjaaDoorZLF
namespace Go.Proofs.YtkmkhfgoihfkjaaDoor
open Go.RowKit

/- Lists of links of the call's own: where, how many bytes, what it says. -/
abbrev Lk := Nat × Nat × ByteArray
def lcells (L : List Lk) : List Value := L.flatMap fun l => [Value.int .i64 (l.1 : Int), Value.int .i64 (l.2.1 : Int), Value.string l.2.2]
def lk2 (l : Lk) : Nat × Nat × List UInt8 := (l.1, l.2.1, l.2.2.data.toList)
theorem lcells_length (L : List Lk) : (lcells L).length = L.length * 3 := by
  induction L with
  | nil => rfl
  | cons f L ih =>
    have : lcells (f :: L) = [Value.int .i64 (f.1 : Int), Value.int .i64 (f.2.1 : Int), Value.string f.2.2] ++ lcells L := rfl
    rw [this, List.length_append, ih, List.length_cons]; simp; omega
theorem lcells_append (L M : List Lk) : lcells (L ++ M) = lcells L ++ lcells M := by simp [lcells]
theorem lcells_get (L : List Lk) (k : Nat) (hk : k < L.length) : (lcells L)[k * 3]? = some (.int .i64 (L[k].1 : Int)) ∧ (lcells L)[k * 3 + 1]? = some (.int .i64 (L[k].2.1 : Int)) ∧ (lcells L)[k * 3 + 2]? = some (.string L[k].2.2) := by
  induction L generalizing k with
  | nil => exact absurd hk (by simp)
  | cons f L ih =>
    have e : lcells (f :: L) = Value.int .i64 (f.1 : Int) :: Value.int .i64 (f.2.1 : Int) :: Value.string f.2.2 :: lcells L := rfl
    cases k with
    | zero => rw [e]; exact ⟨rfl, rfl, rfl⟩
    | succ k =>
      have := ih k (by simpa using hk)
      have e1 : (k + 1) * 3 = k * 3 + 1 + 1 + 1 := by omega
      rw [e, e1]
      exact this

def OwnL (w : World) (B : Nat) (v : Value) (L : List Lk) : Prop := w.ownsRow B 27 3 v L.length (lcells L)
theorem Tryd.infoLnk : (Tryd.prog.info? 27).map (fun i => (i.zero, i.size, i.bytes)) = some (some (.agg #[.int .i64 0, .int .i64 0, .string ⟨#[]⟩]), 3, 32) := by kernel_rfl
theorem OwnL.nil (w : World) (B : Nat) : OwnL w B (.slice none 0 0) [] := World.ownsRow_nil _ _ _ _
theorem OwnL.below {w w' : World} {B C : Nat} {v : Value} {L : List Lk} (h : OwnL w B v L) (hb : Below C w w') (hC : w.heap.size ≤ C) : OwnL w' B v L := by
  obtain ⟨h1, h2⟩ := h
  refine ⟨h1, ?_⟩
  rcases h2 with h2 | ⟨g, cap, cur, a, b, c, d⟩
  · exact .inl h2
  · refine .inr ⟨g, cap, cur, a, b, ?_, d⟩
    rw [hb.block g ?_]
    · exact c
    · have := (Array.getElem?_eq_some_iff.1 c).1
      omega
theorem OwnL.kept {w w' : World} {B b : Nat} {v : Value} {L : List Lk} (h : OwnL w B v L) (hg : w.grownBy w' (some b)) (hb : b < B) : OwnL w' B v L := by
  obtain ⟨h1, h2⟩ := h
  refine ⟨h1, ?_⟩
  rcases h2 with h2 | ⟨g, cap, cur, a, hBg, c, d⟩
  · exact .inl h2
  · refine .inr ⟨g, cap, cur, a, hBg, ?_, d⟩
    rw [hg.block g (Array.getElem?_eq_some_iff.1 c).1 (by simp; omega)]
    exact c
theorem OwnL.mono {w : World} {B B' : Nat} {v : Value} {L : List Lk} (h : OwnL w B v L) (hB : B' ≤ B) : OwnL w B' v L := by
  obtain ⟨h1, h2⟩ := h
  refine ⟨h1, ?_⟩
  rcases h2 with h2 | ⟨g, cap, cur, a, b, c⟩
  · exact .inl h2
  · exact .inr ⟨g, cap, cur, a, Nat.le_trans hB b, c⟩
theorem OwnL.shape {w : World} {B : Nat} {v : Value} {L : List Lk} (h : OwnL w B v L) :
    (v = .slice none 0 0 ∧ L = []) ∨ ∃ g cap, v = .slice (some ⟨g, 0, none⟩) L.length cap ∧ B ≤ g ∧ g < w.heap.size ∧ L.length ≤ cap := by
  rcases h.2 with ⟨a, b⟩ | ⟨g, cap, cur, a, b, c, d, e, _⟩
  · exact .inl ⟨a, List.eq_nil_of_length_eq_zero b⟩
  · exact .inr ⟨g, cap, a, b, (Array.getElem?_eq_some_iff.1 c).1, d⟩
theorem OwnL.len {w : World} {B : Nat} {v : Value} {L : List Lk} (h : OwnL w B v L) : ∃ A cap, v = .slice A L.length cap ∧ L.length ≤ cap := by
  rcases h.shape with ⟨rfl, rfl⟩ | ⟨g, cap, rfl, _, _, hc⟩
  · exact ⟨_, _, rfl, Nat.le_refl _⟩
  · exact ⟨_, _, rfl, hc⟩
theorem OwnL.cell {w : World} {B g cap n : Nat} {L : List Lk} (h : OwnL w B (.slice (some ⟨g, 0, none⟩) n cap) L) (k : Nat) (hk : k < L.length) : w.cell? ⟨g, k * 3, none⟩ = some (.int .i64 (L[k].1 : Int)) ∧ w.cell? ⟨g, k * 3 + 1, none⟩ = some (.int .i64 (L[k].2.1 : Int)) ∧ w.cell? ⟨g, k * 3 + 2, none⟩ = some (.string L[k].2.2) := by
  have hn : n = L.length := by
    rcases h.2 with ⟨a, _⟩ | ⟨g', cap', cur, a, _⟩
    · cases a
    · simp only [Value.slice.injEq] at a; exact a.2.1
  subst hn
  have h' : w.ownsRow B 27 3 (.slice (some ⟨g, 0, none⟩) L.length cap) L.length (lcells L) := h
  have hg := lcells_get L k hk
  exact ⟨(World.ownsRow.cellAt h' (k * 3) (by omega)).trans hg.1, (World.ownsRow.cellAt h' (k * 3 + 1) (by omega)).trans hg.2.1, (World.ownsRow.cellAt h' (k * 3 + 2) (by omega)).trans hg.2.2⟩

theorem wp_appL0 {o : Oper} {a : Act} {K : Act → World → Prop} {Q : Exit → Act → World → Prop} (W w0 : World) (s x : Operand) (ho : o.op = .call { callee := .builtin .append, args := #[s, x], argTypes := #[24, 24] })
    (B : Nat) (v : Value) (L : List Lk) (hs : a.eval s = v) (hown : OwnL W B v L) (b c : Nat) (f : Lk) (hx : a.eval x = .slice (some ⟨b, 0, none⟩) 1 c) (h0 : W.cell? ⟨b, 0, none⟩ = some (.int .i64 (f.1 : Int))) (h1 : W.cell? ⟨b, 1, none⟩ = some (.int .i64 (f.2.1 : Int))) (h2 : W.cell? ⟨b, 2, none⟩ = some (.string f.2.2)) (hl : L.length + 1 ≤ 1000000000) (hB : B ≤ W.heap.size) (hb : Below B w0 W)
    (h : ∀ v' w', OwnL w' B v' (L ++ [f]) → Below B w0 w' → K (a.put o.dst v') w') : o.wp Tryd.prog a W K Q := by
  obtain ⟨i0, hi, hz0, hz1, hz2⟩ := info_parts Tryd.infoLnk
  refine wp_append_own W s x 24 ho B 27 i0 (.agg #[.int .i64 0, .int .i64 0, .string ⟨#[]⟩]) 3 32 Tryd.underlying24 hi hz0 hz1 hz2 rfl (by decide) v L.length (lcells L) hs hown ⟨b, 0, none⟩ 1 c (lcells [f]) hx rfl ?_ ?_ (by unfold maxLen; omega) (by omega) hB ?_
  · intro j u hj
    have hjl : j < 3 := (List.getElem?_eq_some_iff.1 hj).1
    rw [Addr.add_lit, Nat.zero_add]
    match j, hjl, hj with
    | 0, _, hj => rw [h0]; exact hj
    | 1, _, hj => rw [h1]; exact hj
    | 2, _, hj => rw [h2]; exact hj
  · intro u hu
    have : u = .int .i64 (f.1 : Int) ∨ u = .int .i64 (f.2.1 : Int) ∨ u = .string f.2.2 := by simpa [lcells] using hu
    rcases this with rfl | rfl | rfl <;> rfl
  · intro v' w' h2 h3 _
    refine h v' w' ?_ (hb.grown h3 hB (fun k hk => (World.ownsRow.lt hown k hk).1))
    unfold OwnL
    rw [List.length_append, lcells_append]
    exact h2
/-- 'append(v, l)', as a step of a region that draws its order. -/
theorem step_appL {ops : Array Oper} {o : Oper} {a : Act} {K : Act → World → Prop} {Q : Exit → Act → World → Prop} {E : Prop} (W w0 : World) (hgd : o.guard = none) (s x : Operand) (ho : o.op = .call { callee := .builtin .append, args := #[s, x], argTypes := #[24, 24] })
    (B : Nat) (v : Value) (L : List Lk) (hs : a.eval s = v) (hown : OwnL W B v L) (b c : Nat) (f : Lk) (hx : a.eval x = .slice (some ⟨b, 0, none⟩) 1 c) (h0 : W.cell? ⟨b, 0, none⟩ = some (.int .i64 (f.1 : Int))) (h1 : W.cell? ⟨b, 1, none⟩ = some (.int .i64 (f.2.1 : Int))) (h2 : W.cell? ⟨b, 2, none⟩ = some (.string f.2.2)) (hl : L.length + 1 ≤ 1000000000) (hB : B ≤ W.heap.size) (hb : Below B w0 W)
    (h : ∀ v' w', OwnL w' B v' (L ++ [f]) → Below B w0 w' → K (a.put o.dst v') w') : if Region.wanted o (yielded ops a.tmps) = true then Oper.wp Tryd.prog o a W K Q else E := by
  have hw : Region.wanted o (yielded ops a.tmps) = true := by simp [Region.wanted, hgd]
  rw [if_pos hw]
  exact wp_appL0 W w0 s x ho B v L hs hown b c f hx h0 h1 h2 hl hB hb h

/- What the code reads lies below the reader's block. -/
theorem below_of_grown {w w' : World} {b : Nat} (hg : w.grownBy w' (some b)) (hb : b ≤ w.heap.size) : Below b w w' := by
  exact ⟨hg.os, hg.tape, hg.output, hg.size, fun i hi => hg.block i (by omega) (by simp; omega)⟩
end Go.Proofs.YtkmkhfgoihfkjaaDoor
