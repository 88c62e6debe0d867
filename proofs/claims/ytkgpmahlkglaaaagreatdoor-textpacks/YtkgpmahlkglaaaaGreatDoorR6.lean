import Derived.Test.YtkgpmahlkglaaaaGreatDoorR5
namespace Go.Proofs.YtkgpmahlkglaaaaGreatDoor
open Go.RowKit

/-- Numbers as cells of a slice of the call's own. -/
def ci (l : List Nat) : List Value := l.map fun (n : Nat) => Value.int .i64 (n : Int)
theorem ci_append (a b : List Nat) : ci (a ++ b) = ci a ++ ci b := by simp [ci]
theorem ci_oneCell (l : List Nat) : ∀ u ∈ ci l, u.oneCell' = true := by
  intro u hu
  simp only [ci, List.mem_map] at hu
  obtain ⟨b, _, rfl⟩ := hu
  rfl
def OwnI (w : World) (B : Nat) (v : Value) (l : List Nat) : Prop := w.ownsRow B 3 1 v l.length (ci l)
theorem Tryz.infoInt : (Tryz.prog.info? 3).map (fun i => (i.zero, i.size, i.bytes)) = some (some (.int .i64 0), 1, 8) := by kernel_rfl
theorem OwnI.nil (w : World) (B : Nat) : OwnI w B (.slice none 0 0) [] := World.ownsRow_nil _ _ _ _
theorem OwnI.below {w w' : World} {B C : Nat} {v : Value} {l : List Nat} (h : OwnI w B v l) (hb : Below C w w') (hC : w.heap.size ≤ C) : OwnI w' B v l := by
  obtain ⟨h1, h2⟩ := h
  refine ⟨h1, ?_⟩
  rcases h2 with h2 | ⟨g, cap, cur, a, b, c, d⟩
  · exact .inl h2
  · refine .inr ⟨g, cap, cur, a, b, ?_, d⟩
    rw [hb.block g ?_]
    · exact c
    · have := (Array.getElem?_eq_some_iff.1 c).1
      omega
theorem OwnI.shape {w : World} {B : Nat} {v : Value} {l : List Nat} (h : OwnI w B v l) :
    (v = .slice none 0 0 ∧ l = []) ∨ ∃ g cap, v = .slice (some ⟨g, 0, none⟩) l.length cap ∧ B ≤ g ∧ g < w.heap.size ∧ l.length ≤ cap ∧ cap ≤ maxLen ∧ ∀ k (hk : k < l.length), w.cell? ⟨g, k, none⟩ = some (.int .i64 (l[k] : Int)) := by
  rcases h.2 with ⟨a, b⟩ | ⟨g, cap, cur, a, b, c, d, e, _⟩
  · exact .inl ⟨a, List.eq_nil_of_length_eq_zero b⟩
  · refine .inr ⟨g, cap, a, b, (Array.getElem?_eq_some_iff.1 c).1, d, e, fun k hk => ?_⟩
    have h' := h
    rw [a] at h'
    have hc := World.ownsRow.cellAt h' k (by omega)
    rw [hc]
    simp [ci, List.getElem?_eq_getElem hk]

section
variable {ops : Array Oper} {rest : List Oper} {o : Oper} {a : Act} {Q : Exit → Act → World → Prop}
/-- 'append(v, n)' of a number. -/
theorem wp_appI (wr w0 : World) (z : Int) (hgd : o.guard = none) (s x : Operand) (ho : o.op = .call { callee := .builtin .append, args := #[s, x], argTypes := #[33, 33] })
    (B : Nat) (v : Value) (l : List Nat) (hs : a.eval s = v) (hown : OwnI wr B v l) (hx : a.eval x = .slice (some ⟨wr.heap.size, 0, none⟩) 1 1) (c : Nat) (hz : z = (c : Int))
    (hl : l.length + 1 ≤ 10000000) (hB : B ≤ wr.heap.size) (hb : Below B w0 wr)
    (h : ∀ v' w', OwnI w' B v' (l ++ [c]) → Below B w0 w' → (wr.alloc (.cells #[.int .i64 z] 3)).grownBy w' v.ownBlock → wpList Tryz.prog ops Q rest (a.put o.dst v') w') : wpList Tryz.prog ops Q (o :: rest) a (wr.alloc (.cells #[.int .i64 z] 3)) := by
  subst hz
  obtain ⟨i0, hi, hz0, hz1, hz2⟩ := info_parts Tryz.infoInt
  refine wpList_append_own _ hgd s x 33 ho B 3 i0 (.int .i64 0) 1 8 Tryz.underlying33 hi hz0 hz1 hz2 rfl (by decide) v l.length (ci l) hs (hown.alloc _) ⟨wr.heap.size, 0, none⟩ 1 1 (ci [c]) hx (by simp [ci]) (cell_one_new _ _ _) (ci_oneCell _) (by unfold maxLen; omega) (by omega) (by simp; omega) ?_
  intro v' w' h1 h2 _
  refine h v' w' ?_ ((hb.alloc hB _).grown h2 (by simp; omega) (fun k hk => (hown.lt k hk).1)) h2
  unfold OwnI
  rw [List.length_append, ci_append]
  exact h1
end

/-- The w last bits of n, the greatest first. -/
def toBits (n : Nat) : Nat → List Nat
  | 0 => []
  | w + 1 => toBits (n / 2) w ++ [n % 2]
theorem toBits_length (n w : Nat) : (toBits n w).length = w := by
  induction w generalizing n with
  | zero => rfl
  | succ w ih => simp [toBits, ih]
theorem toBits_cons (n w : Nat) : toBits n (w + 1) = n / 2 ^ w % 2 :: toBits n w := by
  induction w generalizing n with
  | zero => simp [toBits]
  | succ w ih =>
    rw [toBits, ih, toBits]
    rw [Nat.div_div_eq_div_mul, Nat.pow_succ, Nat.mul_comm (2 ^ w) 2]
    rfl

theorem toBits_get (n w j : Nat) (h : j < w) : (toBits n w)[j]? = some (n / 2 ^ (w - 1 - j) % 2) := by
  induction w generalizing j with
  | zero => omega
  | succ w ih =>
    rw [toBits_cons]
    cases j with
    | zero => simp
    | succ j =>
      rw [List.getElem?_cons_succ, ih j (by omega)]
      congr 4
      omega
theorem toBits_take (n w j : Nat) (h : j < w) : (toBits n w).take (j + 1) = (toBits n w).take j ++ [n / 2 ^ (w - 1 - j) % 2] := by
  rw [List.take_add_one, toBits_get n w j h]; rfl
theorem toBits_le (n w : Nat) : ∀ c ∈ toBits n w, c ≤ 1 := by
  induction w generalizing n with
  | zero => intro c hc; cases hc
  | succ w ih =>
    intro c hc
    rw [toBits, List.mem_append] at hc
    rcases hc with hc | hc
    · exact ih _ c hc
    · simp at hc; omega
theorem and1 (x : Nat) (h : x < 1000000) : bits .and .i64 (x : Int) 1 = ((x % 2 : Nat) : Int) := by
  have := and_i64 1 (x : Int) (by omega) (by omega) (by omega)
  simpa using this

/-- The number of k bits from place i on; what is not there is 0. -/
def grp (l : List Nat) (i : Nat) : Nat → Nat
  | 0 => 0
  | k + 1 => grp l i k * 2 + l.getD (i + k) 0
theorem grp_lt (l : List Nat) (hl : ∀ c ∈ l, c ≤ 1) (i k : Nat) : grp l i k < 2 ^ k := by
  induction k with
  | zero => simp [grp]
  | succ k ih =>
    have : l.getD (i + k) 0 ≤ 1 := by
      rw [List.getD_eq_getElem?_getD]
      by_cases h : i + k < l.length
      · rw [List.getElem?_eq_getElem h]; exact hl _ (List.getElem_mem h)
      · rw [List.getElem?_eq_none (by omega)]; exact Nat.zero_le _
    rw [grp, Nat.pow_succ]
    omega
/-- The first m groups of six bits as letters. -/
def lets (l : List Nat) (m : Nat) : List UInt8 := (List.range m).map fun j => lett (grp l (6 * j) 6)
theorem lets_succ (l : List Nat) (m : Nat) : lets l (m + 1) = lets l m ++ [lett (grp l (6 * m) 6)] := by simp [lets, List.range_succ]
theorem lets_length (l : List Nat) (m : Nat) : (lets l m).length = m := by simp [lets]

theorem drop_take_succ (F : List UInt8) (p j : Nat) (h : p + j < F.length) : (F.drop p).take (j + 1) = (F.drop p).take j ++ [F.getD (p + j) 0] := by
  rw [List.take_add_one, List.getElem?_drop, List.getD_eq_getElem?_getD, List.getElem?_eq_getElem h]; rfl
theorem inLines_run (F : List UInt8) (p j : Nat) (hp : p % 76 = 0) (hj : j ≤ 75) (h : p + j < F.length) : inLinesTo F (p + j) = inLinesTo F p ++ (F.drop p).take j := by
  induction j with
  | zero => simp
  | succ j ih =>
    rw [← Nat.add_assoc, inLinesTo_on F (p + j) (by omega), ih (by omega) (by omega), List.append_assoc, drop_take_succ F p j (by omega)]
theorem inLines_line (F : List UInt8) (p j : Nat) (hp : p % 76 = 0) (hj : j + 1 ≤ 76) (h : p + (j + 1) ≤ F.length) (hc : j + 1 = 76 ∨ p + (j + 1) = F.length) : inLinesTo F (p + (j + 1)) = inLinesTo F p ++ ((F.drop p).take (j + 1) ++ [13, 10]) := by
  rw [← Nat.add_assoc, inLinesTo_cut F (p + j) (by omega), inLines_run F p j hp (by omega) (by omega), drop_take_succ F p j (by omega)]
  simp

def sliceLen : Value → Nat
  | .slice _ n _ => n
  | _ => 0
def allBits (b : List UInt8) : List Nat := b.flatMap fun c => toBits c.toNat 8
theorem allBits_le (b : List UInt8) : ∀ c ∈ allBits b, c ≤ 1 := by
  intro c hc
  simp only [allBits, List.mem_flatMap] at hc
  obtain ⟨x, _, hc⟩ := hc
  exact toBits_le _ _ c hc
theorem allBits_length (b : List UInt8) : (allBits b).length = 8 * b.length := by
  induction b with
  | nil => rfl
  | cons x b ih => rw [show allBits (x :: b) = toBits x.toNat 8 ++ allBits b from rfl, List.length_append, toBits_length, ih]; simp; omega
theorem allBits_snoc (b : List UInt8) (c : UInt8) : allBits (b ++ [c]) = allBits b ++ toBits c.toNat 8 := by simp [allBits]

end Go.Proofs.YtkgpmahlkglaaaaGreatDoor
