import Derived.Test.YtnjjjkhhoaadfabGreatDoorZ7
import Derived.Test.YtnjjjkhhoaadfabGreatDoorZ15
namespace Go.Proofs.YtnjjjkhhoaadfabGreatDoor
open Go.RowKit

/- Lists of parameters of the call's own. -/
def OwnQ (w : World) (B : Nat) (v : Value) (L : List Fl) : Prop := w.ownsRow B 133 2 v L.length (fcells L)
theorem Tryz.infoPrm : (Tryz.prog.info? 133).map (fun i => (i.zero, i.size, i.bytes)) = some (some (.agg #[.string ⟨#[]⟩, .string ⟨#[]⟩]), 2, 32) := by kernel_rfl
theorem OwnQ.nil (w : World) (B : Nat) : OwnQ w B (.slice none 0 0) [] := World.ownsRow_nil _ _ _ _
theorem OwnQ.below {w w' : World} {B C : Nat} {v : Value} {L : List Fl} (h : OwnQ w B v L) (hb : Below C w w') (hC : w.heap.size ≤ C) : OwnQ w' B v L := by
  obtain ⟨h1, h2⟩ := h
  refine ⟨h1, ?_⟩
  rcases h2 with h2 | ⟨g, cap, cur, a, b, c, d⟩
  · exact .inl h2
  · refine .inr ⟨g, cap, cur, a, b, ?_, d⟩
    rw [hb.block g ?_]
    · exact c
    · have := (Array.getElem?_eq_some_iff.1 c).1
      omega
theorem OwnQ.drew {w : World} {B : Nat} {v : Value} {L : List Fl} (h : OwnQ w B v L) : OwnQ w.drew B v L := h
theorem OwnQ.shape {w : World} {B : Nat} {v : Value} {L : List Fl} (h : OwnQ w B v L) :
    (v = .slice none 0 0 ∧ L = []) ∨ ∃ g cap, v = .slice (some ⟨g, 0, none⟩) L.length cap ∧ B ≤ g ∧ g < w.heap.size ∧ L.length ≤ cap := by
  rcases h.2 with ⟨a, b⟩ | ⟨g, cap, cur, a, b, c, d, e, _⟩
  · exact .inl ⟨a, List.eq_nil_of_length_eq_zero b⟩
  · exact .inr ⟨g, cap, a, b, (Array.getElem?_eq_some_iff.1 c).1, d⟩
theorem OwnQ.cell {w : World} {B g cap n : Nat} {L : List Fl} (h : OwnQ w B (.slice (some ⟨g, 0, none⟩) n cap) L) (k : Nat) (hk : k < L.length) : w.cell? ⟨g, k * 2, none⟩ = some (.string L[k].1) ∧ w.cell? ⟨g, k * 2 + 1, none⟩ = some (.string L[k].2) ∧ w.frozen? ⟨g, k * 2 + 1, none⟩ = false := by
  have hn : n = L.length := by
    rcases h.2 with ⟨a, _⟩ | ⟨g', cap', cur, a, _⟩
    · cases a
    · simp only [Value.slice.injEq] at a; exact a.2.1
  subst hn
  have h' : w.ownsRow B 133 2 (.slice (some ⟨g, 0, none⟩) L.length cap) L.length (fcells L) := h
  have hg := fcells_get L k hk
  exact ⟨(World.ownsRow.cellAt h' (k * 2) (by omega)).trans hg.1, (World.ownsRow.cellAt h' (k * 2 + 1) (by omega)).trans hg.2, World.ownsRow.frozenAt h' _⟩
theorem OwnQ.fl {w : World} {B : Nat} {v : Value} {L : List Fl} (h : OwnQ w B v L) : FL w v L := by
  rcases h.shape with ⟨rfl, rfl⟩ | ⟨g, cap, rfl, _, _, hc⟩
  · exact FL.nil w
  · refine ⟨_, _, rfl, hc, fun k hk => ⟨g, 0, rfl, ?_, ?_⟩⟩
    · rw [Nat.zero_add]; exact (h.cell k hk).1
    · rw [Nat.zero_add]; exact (h.cell k hk).2.1
/-- 'l[k].Value = x'. -/
theorem OwnQ.set {w : World} {B g cap : Nat} {L : List Fl} (h : OwnQ w B (.slice (some ⟨g, 0, none⟩) L.length cap) L) (k : Nat) (hk : k < L.length) (x : ByteArray) : OwnQ (w.setCell ⟨g, k * 2 + 1, none⟩ (.string x)) B (.slice (some ⟨g, 0, none⟩) L.length cap) (L.set k (L[k].1, x)) := by
  have h' : w.ownsRow B 133 2 (.slice (some ⟨g, 0, none⟩) L.length cap) L.length (fcells L) := h
  have := (World.ownsRow.stored h' (k * 2 + 1) (.string x)).1
  rw [fcells_set L k hk x] at this
  unfold OwnQ
  rw [List.length_set]
  exact this

theorem wp_appQ0 {o : Oper} {a : Act} {K : Act → World → Prop} {Q : Exit → Act → World → Prop} (W w0 : World) (s x : Operand) (ho : o.op = .call { callee := .builtin .append, args := #[s, x], argTypes := #[88, 88] })
    (B : Nat) (v : Value) (L : List Fl) (hs : a.eval s = v) (hown : OwnQ W B v L) (b c : Nat) (f : Fl) (hx : a.eval x = .slice (some ⟨b, 0, none⟩) 1 c) (h0 : W.cell? ⟨b, 0, none⟩ = some (.string f.1)) (h1 : W.cell? ⟨b, 1, none⟩ = some (.string f.2)) (hl : L.length + 1 ≤ 1000000) (hB : B ≤ W.heap.size) (hb : Below B w0 W)
    (h : ∀ v' w', OwnQ w' B v' (L ++ [f]) → Below B w0 w' → K (a.put o.dst v') w') : o.wp Tryz.prog a W K Q := by
  obtain ⟨i0, hi, hz0, hz1, hz2⟩ := info_parts Tryz.infoPrm
  refine wp_append_own W s x 88 ho B 133 i0 (.agg #[.string ⟨#[]⟩, .string ⟨#[]⟩]) 2 32 Tryz.underlying88 hi hz0 hz1 hz2 rfl (by decide) v L.length (fcells L) hs hown ⟨b, 0, none⟩ 1 c (fcells [f]) hx rfl ?_ ?_ (by unfold maxLen; omega) (by omega) hB ?_
  · intro j u hj
    have hjl : j < 2 := (List.getElem?_eq_some_iff.1 hj).1
    rw [Addr.add_lit, Nat.zero_add]
    match j, hjl, hj with
    | 0, _, hj => rw [h0]; exact hj
    | 1, _, hj => rw [h1]; exact hj
  · intro u hu
    have : u = .string f.1 ∨ u = .string f.2 := by simpa [fcells] using hu
    rcases this with rfl | rfl <;> rfl
  · intro v' w' h2 h3 _
    refine h v' w' ?_ (hb.grown h3 hB (fun k hk => (hown.lt k hk).1))
    unfold OwnQ
    rw [List.length_append, fcells_append]
    exact h2
/-- 'append(v, f)', in a plain region. -/
theorem wp_appQ {ops : Array Oper} {rest : List Oper} {o : Oper} {a : Act} {Q : Exit → Act → World → Prop} (W w0 : World) (hgd : o.guard = none) (s x : Operand) (ho : o.op = .call { callee := .builtin .append, args := #[s, x], argTypes := #[88, 88] })
    (B : Nat) (v : Value) (L : List Fl) (hs : a.eval s = v) (hown : OwnQ W B v L) (b c : Nat) (f : Fl) (hx : a.eval x = .slice (some ⟨b, 0, none⟩) 1 c) (h0 : W.cell? ⟨b, 0, none⟩ = some (.string f.1)) (h1 : W.cell? ⟨b, 1, none⟩ = some (.string f.2)) (hl : L.length + 1 ≤ 1000000) (hB : B ≤ W.heap.size) (hb : Below B w0 W)
    (h : ∀ v' w', OwnQ w' B v' (L ++ [f]) → Below B w0 w' → wpList Tryz.prog ops Q rest (a.put o.dst v') w') : wpList Tryz.prog ops Q (o :: rest) a W :=
  wpList_plain hgd fun _ hK => wp_appQ0 W w0 s x ho B v L hs hown b c f hx h0 h1 hl hB hb fun v' w' h2 h3 => hK _ _ (h v' w' h2 h3)
/-- 'append(v, f)', as a step of a region that draws its order. -/
theorem step_appQ {ops : Array Oper} {o : Oper} {a : Act} {K : Act → World → Prop} {Q : Exit → Act → World → Prop} {E : Prop} (W w0 : World) (hgd : o.guard = none) (s x : Operand) (ho : o.op = .call { callee := .builtin .append, args := #[s, x], argTypes := #[88, 88] })
    (B : Nat) (v : Value) (L : List Fl) (hs : a.eval s = v) (hown : OwnQ W B v L) (b c : Nat) (f : Fl) (hx : a.eval x = .slice (some ⟨b, 0, none⟩) 1 c) (h0 : W.cell? ⟨b, 0, none⟩ = some (.string f.1)) (h1 : W.cell? ⟨b, 1, none⟩ = some (.string f.2)) (hl : L.length + 1 ≤ 1000000) (hB : B ≤ W.heap.size) (hb : Below B w0 W)
    (h : ∀ v' w', OwnQ w' B v' (L ++ [f]) → Below B w0 w' → K (a.put o.dst v') w') : if Region.wanted o (yielded ops a.tmps) = true then Oper.wp Tryz.prog o a W K Q else E := by
  have hw : Region.wanted o (yielded ops a.tmps) = true := by simp [Region.wanted, hgd]
  rw [if_pos hw]
  exact wp_appQ0 W w0 s x ho B v L hs hown b c f hx h0 h1 hl hB hb h
theorem OwnQ.mono {w : World} {B B' : Nat} {v : Value} {L : List Fl} (h : OwnQ w B v L) (hB : B' ≤ B) : OwnQ w B' v L := by
  obtain ⟨h1, h2⟩ := h
  refine ⟨h1, ?_⟩
  rcases h2 with h2 | ⟨g, cap, cur, a, b, c⟩
  · exact .inl h2
  · exact .inr ⟨g, cap, cur, a, Nat.le_trans hB b, c⟩
/-- What another block of the call's own is written into leaves the list as it was. -/
theorem OwnQ.kept {w w' : World} {B b : Nat} {v : Value} {L : List Fl} (h : OwnQ w B v L) (hg : w.grownBy w' (some b)) (hb : b < B) : OwnQ w' B v L := by
  obtain ⟨h1, h2⟩ := h
  refine ⟨h1, ?_⟩
  rcases h2 with h2 | ⟨g, cap, cur, a, hBg, c, d⟩
  · exact .inl h2
  · refine .inr ⟨g, cap, cur, a, hBg, ?_, d⟩
    rw [hg.block g (Array.getElem?_eq_some_iff.1 c).1 (by simp; omega)]
    exact c

end Go.Proofs.YtnjjjkhhoaadfabGreatDoor
