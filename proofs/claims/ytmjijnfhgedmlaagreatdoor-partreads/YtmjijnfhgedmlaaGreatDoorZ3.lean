import Derived.Test.YtmjijnfhgedmlaaGreatDoorZ2
import Derived.Test.YtmjijnfhgedmlaaGreatDoorZShelfH
import Derived.Deep.RegionLaw
import Derived.Lib.IndexMore
import Derived.Lib.Join
import Derived.Test.YtmjijnfhgedmlaaGreatDoorZ1
namespace Go.Proofs.YtmjijnfhgedmlaaGreatDoor
open Go.RowKit

/-- The variable of the library's that its search reads. -/
def Max (w : World) : Prop := 1 < w.heap.size ∧ ∃ m, w.cell? ⟨1, 0, none⟩ = some (.int .i64 m)
theorem Max.below {w w' : World} {B : Nat} (h : Max w) (hb : Below B w w') (hB : 1 < B) : Max w' := by
  obtain ⟨h0, m, hm⟩ := h
  exact ⟨Nat.lt_of_lt_of_le h0 hb.size, m, (hb.cell (p := ⟨1, 0, none⟩) hB).trans hm⟩
theorem below_draws (w : World) (n : Nat) : Below w.heap.size w (w.drewN n) := by
  induction n with
  | zero => exact Below.refl _ _
  | succ n ih => exact ih.drew
theorem size_mk (l : List UInt8) : (ByteArray.mk l.toArray).size = l.length := by simp [ByteArray.size]

theorem cut_parts (l sep : List UInt8) : ((Lib.cut l sep).2.2 = true ∧ (Lib.cut l sep).1.length + sep.length + (Lib.cut l sep).2.1.length = l.length) ∨ ((Lib.cut l sep).2.2 = false ∧ (Lib.cut l sep).1 = l ∧ (Lib.cut l sep).2.1 = []) := by
  by_cases h0 : 0 ≤ Lib.index l sep
  · left
    have hr := Lib.index_room l sep h0
    unfold Lib.cut
    rw [if_pos h0]
    refine ⟨rfl, ?_⟩
    show (l.take _).length + sep.length + (l.drop _).length = _
    rw [List.length_take, List.length_drop]
    omega
  · right
    unfold Lib.cut
    rw [if_neg h0]
    exact ⟨rfl, rfl, rfl⟩

theorem cut_any (s sep : ByteArray) (w : World) (hs : s.size ≤ 100000) (hm : Max w) :
    Calls Tryz.prog 30 #[.string s, .string sep] w fun e w' => ∃ a b f, e = .returned (.tuple #[.string a, .string b, .bool f]) ∧ Lib.cut s.data.toList sep.data.toList = (a.data.toList, b.data.toList, f) ∧ a.size ≤ s.size ∧ b.size ≤ s.size ∧ Below w.heap.size w w' := by
  obtain ⟨_, m, hm⟩ := hm
  refine (Tryz.strings_Cut s sep m w (by omega) hm).mono ?_
  rintro e w' ⟨rfl, n, rfl⟩
  have hsz := size_list s
  refine ⟨_, _, _, rfl, rfl, ?_, ?_, below_draws _ _⟩
  · rw [size_mk]
    rcases cut_parts s.data.toList sep.data.toList with ⟨_, h⟩ | ⟨_, h, _⟩
    · omega
    · rw [h]; omega
  · rw [size_mk]
    rcases cut_parts s.data.toList sep.data.toList with ⟨_, h⟩ | ⟨_, _, h⟩
    · omega
    · rw [h]; simp

theorem index_one (l : List UInt8) (c : UInt8) : Lib.index l [c] = Lib.indexByte l c := by
  induction l with
  | nil => rfl
  | cons b l ih =>
    have e : (List.isPrefixOf [c] (b :: l)) = (c == b) := by simp [List.isPrefixOf]
    rw [Lib.index, Lib.indexByte, ih, e]
    have : (c == b) = (b == c) := by rw [Bool.eq_iff_iff, beq_iff_eq, beq_iff_eq]; exact eq_comm
    rw [this]

theorem join_empty (xs : List (List UInt8)) : Lib.join xs [] = xs.flatten := by
  cases xs with
  | nil => rfl
  | cons x xs =>
    rw [Lib.join_cons, List.flatten_cons]
    congr 1
    unfold Lib.joinTail
    simp

/- Trimmed by either end first. -/
theorem dropE_cons (c : UInt8) (l : List UInt8) : dropE (c :: l) = if dropE l = [] ∧ blk c = true then [] else c :: dropE l := by
  unfold dropE
  rw [List.reverse_cons, List.dropWhile_append]
  by_cases h : l.reverse.dropWhile blk = []
  · rw [h]
    simp only [List.isEmpty_nil, if_true, List.reverse_nil, true_and]
    by_cases hc : blk c = true
    · simp [hc]
    · simp [hc]
  · have h1 : (l.reverse.dropWhile blk).isEmpty = false := by
      cases hh : l.reverse.dropWhile blk with
      | nil => exact absurd hh h
      | cons _ _ => rfl
    rw [h1]
    simp [h]
theorem trim_comm (l : List UInt8) : dropB (dropE l) = dropE (dropB l) := by
  induction l with
  | nil => rfl
  | cons c l ih =>
    rw [dropE_cons]
    by_cases hc : blk c = true
    · have e : dropB (c :: l) = dropB l := by simp [dropB, hc]
      rw [e, ← ih]
      by_cases h : dropE l = []
      · rw [if_pos ⟨h, hc⟩, h]
      · rw [if_neg (fun x => h x.1)]
        simp [dropB, hc]
    · have e : dropB (c :: l) = c :: l := by simp [dropB, hc]
      rw [e, dropE_cons, if_neg (fun x => hc x.2)]
      simp [dropB, hc]
theorem contains_blk : (fun c : UInt8 => [32, 9].contains c) = blk := by
  funext c
  have key : ∀ n : Fin 256, [32, 9].contains (UInt8.ofNat n.val) = blk (UInt8.ofNat n.val) := by decide +kernel
  have := key ⟨c.toNat, c.toNat_lt⟩
  simpa using this
theorem lib_trim (l : List UInt8) : Lib.trimS l [32, 9] = trimS l := by
  unfold Lib.trimS Lib.trimLeftS Lib.trimRightS
  rw [contains_blk]
  exact trim_comm l
theorem trimS_len (l : List UInt8) : (trimS l).length ≤ l.length := Nat.le_trans (dropE_len _) (dropB_len _)

theorem hTrim_any (s : ByteArray) (w : World) (hs : s.size ≤ 1000000) :
    Calls Tryz.prog 146 #[.string s, .string ⟨#[32, 9]⟩] w fun e w' => ∃ t, e = .returned (.string t) ∧ t.data.toList = trimS s.data.toList ∧ Below w.heap.size w w' := by
  refine (Tryz.strings_Trim_laid s ⟨#[32, 9]⟩ w (by omega) (by decide) ?_).mono ?_
  · intro j b hj
    match j, hj with
    | 0, hj => cases hj; decide
    | 1, hj => cases hj; decide
    | j + 2, hj => simp at hj
  · rintro e w' ⟨rfl, hb⟩
    exact ⟨_, rfl, lib_trim _, hb⟩

/- Lists of fields of the call's own. -/
theorem fcells_length (L : List Fl) : (fcells L).length = L.length * 2 := by
  induction L with
  | nil => rfl
  | cons f L ih =>
    have : fcells (f :: L) = [Value.string f.1, Value.string f.2] ++ fcells L := rfl
    rw [this, List.length_append, ih, List.length_cons]; simp; omega
theorem fcells_append (L M : List Fl) : fcells (L ++ M) = fcells L ++ fcells M := by simp [fcells]
theorem fcells_get (L : List Fl) (k : Nat) (hk : k < L.length) : (fcells L)[k * 2]? = some (.string L[k].1) ∧ (fcells L)[k * 2 + 1]? = some (.string L[k].2) := by
  induction L generalizing k with
  | nil => exact absurd hk (by simp)
  | cons f L ih =>
    have e : fcells (f :: L) = Value.string f.1 :: Value.string f.2 :: fcells L := rfl
    cases k with
    | zero => rw [e]; exact ⟨rfl, rfl⟩
    | succ k =>
      have := ih k (by simpa using hk)
      have e1 : (k + 1) * 2 = k * 2 + 1 + 1 := by omega
      rw [e, e1]
      exact this
theorem fcells_set (L : List Fl) (k : Nat) (hk : k < L.length) (x : ByteArray) : (fcells L).set (k * 2 + 1) (.string x) = fcells (L.set k (L[k].1, x)) := by
  induction L generalizing k with
  | nil => exact absurd hk (by simp)
  | cons f L ih =>
    have e : fcells (f :: L) = Value.string f.1 :: Value.string f.2 :: fcells L := rfl
    cases k with
    | zero => rfl
    | succ k =>
      have h1 := ih k (by simpa using hk)
      have e1 : (k + 1) * 2 + 1 = k * 2 + 1 + 1 + 1 := by omega
      rw [e, e1]
      show Value.string f.1 :: Value.string f.2 :: (fcells L).set (k * 2 + 1) (.string x) = _
      rw [h1]; rfl

def OwnF (w : World) (B : Nat) (v : Value) (L : List Fl) : Prop := w.ownsRow B 75 2 v L.length (fcells L)
theorem Tryz.infoFld : (Tryz.prog.info? 75).map (fun i => (i.zero, i.size, i.bytes)) = some (some (.agg #[.string ⟨#[]⟩, .string ⟨#[]⟩]), 2, 32) := by kernel_rfl
theorem OwnF.nil (w : World) (B : Nat) : OwnF w B (.slice none 0 0) [] := World.ownsRow_nil _ _ _ _
theorem OwnF.below {w w' : World} {B C : Nat} {v : Value} {L : List Fl} (h : OwnF w B v L) (hb : Below C w w') (hC : w.heap.size ≤ C) : OwnF w' B v L := by
  obtain ⟨h1, h2⟩ := h
  refine ⟨h1, ?_⟩
  rcases h2 with h2 | ⟨g, cap, cur, a, b, c, d⟩
  · exact .inl h2
  · refine .inr ⟨g, cap, cur, a, b, ?_, d⟩
    rw [hb.block g ?_]
    · exact c
    · have := (Array.getElem?_eq_some_iff.1 c).1
      omega
theorem OwnF.drew {w : World} {B : Nat} {v : Value} {L : List Fl} (h : OwnF w B v L) : OwnF w.drew B v L := h
theorem OwnF.shape {w : World} {B : Nat} {v : Value} {L : List Fl} (h : OwnF w B v L) :
    (v = .slice none 0 0 ∧ L = []) ∨ ∃ g cap, v = .slice (some ⟨g, 0, none⟩) L.length cap ∧ B ≤ g ∧ g < w.heap.size ∧ L.length ≤ cap := by
  rcases h.2 with ⟨a, b⟩ | ⟨g, cap, cur, a, b, c, d, e, _⟩
  · exact .inl ⟨a, List.eq_nil_of_length_eq_zero b⟩
  · exact .inr ⟨g, cap, a, b, (Array.getElem?_eq_some_iff.1 c).1, d⟩
theorem OwnF.cell {w : World} {B g cap n : Nat} {L : List Fl} (h : OwnF w B (.slice (some ⟨g, 0, none⟩) n cap) L) (k : Nat) (hk : k < L.length) : w.cell? ⟨g, k * 2, none⟩ = some (.string L[k].1) ∧ w.cell? ⟨g, k * 2 + 1, none⟩ = some (.string L[k].2) ∧ w.frozen? ⟨g, k * 2 + 1, none⟩ = false := by
  have hn : n = L.length := by
    rcases h.2 with ⟨a, _⟩ | ⟨g', cap', cur, a, _⟩
    · cases a
    · simp only [Value.slice.injEq] at a; exact a.2.1
  subst hn
  have h' : w.ownsRow B 75 2 (.slice (some ⟨g, 0, none⟩) L.length cap) L.length (fcells L) := h
  have hg := fcells_get L k hk
  exact ⟨(World.ownsRow.cellAt h' (k * 2) (by omega)).trans hg.1, (World.ownsRow.cellAt h' (k * 2 + 1) (by omega)).trans hg.2, World.ownsRow.frozenAt h' _⟩
theorem OwnF.fl {w : World} {B : Nat} {v : Value} {L : List Fl} (h : OwnF w B v L) : FL w v L := by
  rcases h.shape with ⟨rfl, rfl⟩ | ⟨g, cap, rfl, _, _, hc⟩
  · exact FL.nil w
  · refine ⟨_, _, rfl, hc, fun k hk => ⟨g, 0, rfl, ?_, ?_⟩⟩
    · rw [Nat.zero_add]; exact (h.cell k hk).1
    · rw [Nat.zero_add]; exact (h.cell k hk).2.1
/-- 'l[k].Value = x'. -/
theorem OwnF.set {w : World} {B g cap : Nat} {L : List Fl} (h : OwnF w B (.slice (some ⟨g, 0, none⟩) L.length cap) L) (k : Nat) (hk : k < L.length) (x : ByteArray) : OwnF (w.setCell ⟨g, k * 2 + 1, none⟩ (.string x)) B (.slice (some ⟨g, 0, none⟩) L.length cap) (L.set k (L[k].1, x)) := by
  have h' : w.ownsRow B 75 2 (.slice (some ⟨g, 0, none⟩) L.length cap) L.length (fcells L) := h
  have := (World.ownsRow.stored h' (k * 2 + 1) (.string x)).1
  rw [fcells_set L k hk x] at this
  unfold OwnF
  rw [List.length_set]
  exact this

theorem wp_appF0 {o : Oper} {a : Act} {K : Act → World → Prop} {Q : Exit → Act → World → Prop} (W w0 : World) (s x : Operand) (ho : o.op = .call { callee := .builtin .append, args := #[s, x], argTypes := #[32, 32] })
    (B : Nat) (v : Value) (L : List Fl) (hs : a.eval s = v) (hown : OwnF W B v L) (b c : Nat) (f : Fl) (hx : a.eval x = .slice (some ⟨b, 0, none⟩) 1 c) (h0 : W.cell? ⟨b, 0, none⟩ = some (.string f.1)) (h1 : W.cell? ⟨b, 1, none⟩ = some (.string f.2)) (hl : L.length + 1 ≤ 1000000) (hB : B ≤ W.heap.size) (hb : Below B w0 W)
    (h : ∀ v' w', OwnF w' B v' (L ++ [f]) → Below B w0 w' → K (a.put o.dst v') w') : o.wp Tryz.prog a W K Q := by
  obtain ⟨i0, hi, hz0, hz1, hz2⟩ := info_parts Tryz.infoFld
  refine wp_append_own W s x 32 ho B 75 i0 (.agg #[.string ⟨#[]⟩, .string ⟨#[]⟩]) 2 32 Tryz.underlying32 hi hz0 hz1 hz2 rfl (by decide) v L.length (fcells L) hs hown ⟨b, 0, none⟩ 1 c (fcells [f]) hx rfl ?_ ?_ (by unfold maxLen; omega) (by omega) hB ?_
  · intro j u hj
    have hjl : j < 2 := (List.getElem?_eq_some_iff.1 hj).1
    rw [Addr.add_lit, Nat.zero_add]
    match j, hjl, hj with
    | 0, _, hj => rw [h0]; exact hj
    | 1, _, hj => rw [h1]; exact hj
  · intro u hu
    have : u = .string f.1 ∨ u = .string f.2 := by simpa [fcells] using hu
    rcases this with rfl | rfl <;> rfl
  · intro v' w' h2 h3 _
    refine h v' w' ?_ (hb.grown h3 hB (fun k hk => (hown.lt k hk).1))
    unfold OwnF
    rw [List.length_append, fcells_append]
    exact h2
/-- 'append(v, f)', in a plain region. -/
theorem wp_appF {ops : Array Oper} {rest : List Oper} {o : Oper} {a : Act} {Q : Exit → Act → World → Prop} (W w0 : World) (hgd : o.guard = none) (s x : Operand) (ho : o.op = .call { callee := .builtin .append, args := #[s, x], argTypes := #[32, 32] })
    (B : Nat) (v : Value) (L : List Fl) (hs : a.eval s = v) (hown : OwnF W B v L) (b c : Nat) (f : Fl) (hx : a.eval x = .slice (some ⟨b, 0, none⟩) 1 c) (h0 : W.cell? ⟨b, 0, none⟩ = some (.string f.1)) (h1 : W.cell? ⟨b, 1, none⟩ = some (.string f.2)) (hl : L.length + 1 ≤ 1000000) (hB : B ≤ W.heap.size) (hb : Below B w0 W)
    (h : ∀ v' w', OwnF w' B v' (L ++ [f]) → Below B w0 w' → wpList Tryz.prog ops Q rest (a.put o.dst v') w') : wpList Tryz.prog ops Q (o :: rest) a W :=
  wpList_plain hgd fun _ hK => wp_appF0 W w0 s x ho B v L hs hown b c f hx h0 h1 hl hB hb fun v' w' h2 h3 => hK _ _ (h v' w' h2 h3)
/-- 'append(v, f)', as a step of a region that draws its order. -/
theorem step_appF {ops : Array Oper} {o : Oper} {a : Act} {K : Act → World → Prop} {Q : Exit → Act → World → Prop} {E : Prop} (W w0 : World) (hgd : o.guard = none) (s x : Operand) (ho : o.op = .call { callee := .builtin .append, args := #[s, x], argTypes := #[32, 32] })
    (B : Nat) (v : Value) (L : List Fl) (hs : a.eval s = v) (hown : OwnF W B v L) (b c : Nat) (f : Fl) (hx : a.eval x = .slice (some ⟨b, 0, none⟩) 1 c) (h0 : W.cell? ⟨b, 0, none⟩ = some (.string f.1)) (h1 : W.cell? ⟨b, 1, none⟩ = some (.string f.2)) (hl : L.length + 1 ≤ 1000000) (hB : B ≤ W.heap.size) (hb : Below B w0 W)
    (h : ∀ v' w', OwnF w' B v' (L ++ [f]) → Below B w0 w' → K (a.put o.dst v') w') : if Region.wanted o (yielded ops a.tmps) = true then Oper.wp Tryz.prog o a W K Q else E := by
  have hw : Region.wanted o (yielded ops a.tmps) = true := by simp [Region.wanted, hgd]
  rw [if_pos hw]
  exact wp_appF0 W w0 s x ho B v L hs hown b c f hx h0 h1 hl hB hb h
set_option maxRecDepth 100000 in
theorem call_run (o : Oper) (a : Act) (n : FuncId) (hcf : ∀ args w, (callFunc n args).run Tryz.prog w = .ok (.enter n args) w) (x : Operand) (t : TypeId) (ho : o.op = .call { callee := .value (.func n), args := #[x], argTypes := #[t] }) (v : Value) (hx : a.eval x = v) (w : World) : (execOp a.eval o).run Tryz.prog w = .ok (.enter n #[v]) w := by
  simp [execOp, ho, resolve, invoke, go_sem, Deferred.ofValue, hcf]
  cases x <;> simpa [Act.eval] using hx
theorem trim_calls (args : Array Value) (w : World) : (callFunc 97 args).run Tryz.prog w = .ok (.enter 97 args) w := by simp [go_sem]
/-- A call of a function by its contract, as a step of a region that draws its order. -/
theorem step_call1 {ops : Array Oper} {o : Oper} {a : Act} {w : World} {K : Act → World → Prop} {Q : Exit → Act → World → Prop} {E : Prop} (hgd : o.guard = none) (n : FuncId) (hcf : ∀ args w, (callFunc n args).run Tryz.prog w = .ok (.enter n args) w) (x : Operand) (t : TypeId) (ho : o.op = .call { callee := .value (.func n), args := #[x], argTypes := #[t] }) (v : Value) (hx : a.eval x = v) (R : Value → World → Prop)
    (hc : Calls Tryz.prog n #[v] w fun e w' => ∃ r, e = .returned r ∧ R r w') (h : ∀ r w', R r w' → K (a.put o.dst r) w') : if Region.wanted o (yielded ops a.tmps) = true then Oper.wp Tryz.prog o a w K Q else E := by
  have hw : Region.wanted o (yielded ops a.tmps) = true := by simp [Region.wanted, hgd]
  rw [if_pos hw]
  unfold Oper.wp
  rw [call_run o a n hcf x t ho v hx w, Oper.upon_enter]
  refine hc.mono ?_
  rintro e w' ⟨r, rfl, hr⟩
  exact h r w' hr

end Go.Proofs.YtmjijnfhgedmlaaGreatDoor

namespace Go.Proofs.YtmjijnfhgedmlaaGreatDoor
open Go.RowKit

/- What the document says of reading. -/
abbrev FB := List UInt8 × List UInt8
def crlfL : List UInt8 := [13, 10]
def hlF : Nat → List UInt8 → List (List UInt8) × List UInt8
  | 0, s => ([], s)
  | n + 1, s => if s = [] then ([], []) else if (Lib.cut s crlfL).1 = [] then ([], (Lib.cut s crlfL).2.1) else ((Lib.cut s crlfL).1 :: (hlF n (Lib.cut s crlfL).2.1).1, (hlF n (Lib.cut s crlfL).2.1).2)
/-- The lines of a head, and what stands behind it. -/
def hl (s : List UInt8) : List (List UInt8) × List UInt8 := hlF s.length s
theorem cut_lt (s : List UInt8) (h : s ≠ []) : (Lib.cut s crlfL).2.1.length < s.length := by
  have h0 : 0 < s.length := List.length_pos_iff.2 h
  rcases cut_parts s crlfL with ⟨_, h1⟩ | ⟨_, _, h1⟩
  · have : crlfL.length = 2 := rfl
    omega
  · rw [h1]; exact h0
theorem hlF_eq (k : Nat) : ∀ n s, s.length ≤ k → s.length ≤ n → hlF n s = hlF s.length s := by
  induction k with
  | zero =>
    intro n s h _
    obtain rfl : s = [] := List.eq_nil_of_length_eq_zero (by omega)
    cases n <;> rfl
  | succ k ih =>
    intro n s h1 h2
    by_cases hs : s = []
    · subst hs
      cases n <;> rfl
    · have hp : 0 < s.length := List.length_pos_iff.2 hs
      have hc := cut_lt s hs
      obtain ⟨n', rfl⟩ : ∃ n', n = n' + 1 := ⟨n - 1, by omega⟩
      obtain ⟨m, hm⟩ : ∃ m, s.length = m + 1 := ⟨s.length - 1, by omega⟩
      rw [hm]
      unfold hlF
      rw [ih n' _ (by omega) (by omega), ih m _ (by omega) (by omega)]
theorem hl_nil : hl [] = ([], []) := rfl
theorem hl_stop (s : List UInt8) (h : s ≠ []) (h' : (Lib.cut s crlfL).1 = []) : hl s = ([], (Lib.cut s crlfL).2.1) := by
  have hp : 0 < s.length := List.length_pos_iff.2 h
  obtain ⟨m, hm⟩ : ∃ m, s.length = m + 1 := ⟨s.length - 1, by omega⟩
  unfold hl
  rw [hm, hlF, if_neg h, if_pos h']
theorem hl_on (s : List UInt8) (h : s ≠ []) (h' : (Lib.cut s crlfL).1 ≠ []) : hl s = ((Lib.cut s crlfL).1 :: (hl (Lib.cut s crlfL).2.1).1, (hl (Lib.cut s crlfL).2.1).2) := by
  have hp : 0 < s.length := List.length_pos_iff.2 h
  have hc := cut_lt s h
  obtain ⟨m, hm⟩ : ∃ m, s.length = m + 1 := ⟨s.length - 1, by omega⟩
  unfold hl
  rw [hm, hlF, if_neg h, if_neg h', hlF_eq m m _ (by omega) (by omega)]

def fieldOf (x : List UInt8) : Option FB := if (Lib.cut x [58]).2.2 && nameS (Lib.cut x [58]).1 then some ((Lib.cut x [58]).1, (Lib.cut x [58]).2.1) else none
def goes (x : List UInt8) : Bool := match x with | c :: _ => blk c | [] => false
def addLast (acc : List FB) (x : List UInt8) : List FB := match acc.getLast? with | some f => acc.dropLast ++ [(f.1, f.2 ++ x)] | none => acc
/-- The fields that lines are, or which line is none. -/
def refRun : List (List UInt8) → Nat → List FB → Except Nat (List FB)
  | [], _, acc => .ok acc
  | x :: xs, n, acc => if goes x && !acc.isEmpty then refRun xs (n + 1) (addLast acc x) else match fieldOf x with | none => .error n | some f => refRun xs (n + 1) (acc ++ [f])
def fl2 (f : Fl) : FB := (f.1.data.toList, f.2.data.toList)

theorem addLast_snoc (M : List FB) (f : FB) (x : List UInt8) : addLast (M ++ [f]) x = M ++ [(f.1, f.2 ++ x)] := by simp [addLast]
theorem refRun_field {x : List UInt8} {xs : List (List UInt8)} {n : Nat} {acc : List FB} {f : FB} (h : fieldOf x = some f) (hg : (goes x && !acc.isEmpty) = false) : refRun (x :: xs) n acc = refRun xs (n + 1) (acc ++ [f]) := by
  rw [refRun, hg, h]; rfl
theorem refRun_none {x : List UInt8} {xs : List (List UInt8)} {n : Nat} {acc : List FB} (h : fieldOf x = none) (hg : (goes x && !acc.isEmpty) = false) : refRun (x :: xs) n acc = .error n := by
  rw [refRun, hg, h]; rfl
theorem refRun_goes (zs : List (List UInt8)) : ∀ (ys : List (List UInt8)) (n : Nat) (acc : List FB) (f : FB), (∀ z ∈ zs, goes z = true) → refRun (zs ++ ys) n (acc ++ [f]) = refRun ys (n + zs.length) (acc ++ [(f.1, f.2 ++ zs.flatten)]) := by
  induction zs with
  | nil => intro ys n acc f _; simp
  | cons z zs ih =>
    intro ys n acc f h
    rw [List.cons_append, refRun, h z List.mem_cons_self]
    have e : (true && !(acc ++ [f]).isEmpty) = true := by simp
    rw [e, if_pos rfl, addLast_snoc, ih ys (n + 1) acc _ (fun y hy => h y (List.mem_cons_of_mem _ hy))]
    simp only [List.length_cons, List.flatten_cons, List.append_assoc]
    congr 1
    omega
theorem goes_of (x : ByteArray) (h : 0 < x.size) : goes x.data.toList = blk x[0] := by rw [head_split x h]; rfl

theorem cut_le (s : List UInt8) : (Lib.cut s crlfL).1.length + (Lib.cut s crlfL).2.1.length ≤ s.length := by
  rcases cut_parts s crlfL with ⟨_, h1⟩ | ⟨_, h1, h2⟩
  · omega
  · rw [h1, h2]; simp
theorem hl_flat (k : Nat) : ∀ s, s.length ≤ k → (hl s).1.flatten.length + (hl s).2.length ≤ s.length := by
  induction k with
  | zero =>
    intro s h
    obtain rfl : s = [] := List.eq_nil_of_length_eq_zero (by omega)
    simp [hl_nil]
  | succ k ih =>
    intro s h
    have hle := cut_le s
    by_cases hs : s = []
    · subst hs; simp [hl_nil]
    · by_cases hc : (Lib.cut s crlfL).1 = []
      · rw [hl_stop s hs hc]
        simp; omega
      · have hlt := cut_lt s hs
        have := ih (Lib.cut s crlfL).2.1 (by omega)
        rw [hl_on s hs hc]
        simp only [List.flatten_cons, List.length_append]
        omega
theorem hl_some (k : Nat) : ∀ s, s.length ≤ k → ∀ x ∈ (hl s).1, x ≠ [] := by
  induction k with
  | zero =>
    intro s h x hx
    obtain rfl : s = [] := List.eq_nil_of_length_eq_zero (by omega)
    simp [hl_nil] at hx
  | succ k ih =>
    intro s h x hx
    by_cases hs : s = []
    · subst hs; simp [hl_nil] at hx
    · by_cases hc : (Lib.cut s crlfL).1 = []
      · rw [hl_stop s hs hc] at hx
        simp at hx
      · have hlt := cut_lt s hs
        rw [hl_on s hs hc] at hx
        rcases List.mem_cons.1 hx with rfl | hx
        · exact hc
        · exact ih _ (by omega) x hx
theorem count_flat (ws : List (List UInt8)) (h : ∀ x ∈ ws, x ≠ []) : ws.length ≤ ws.flatten.length := by
  induction ws with
  | nil => simp
  | cons x ws ih =>
    have h1 := ih fun y hy => h y (List.mem_cons_of_mem _ hy)
    have h2 : 0 < x.length := List.length_pos_iff.2 (h x List.mem_cons_self)
    rw [List.length_cons, List.flatten_cons, List.length_append]
    omega

theorem list_ne (t : ByteArray) (h : ¬ t.size = 0) : t.data.toList ≠ [] := fun e => h (by rw [← size_list, e]; rfl)

set_option maxHeartbeats 1600000 in
set_option maxRecDepth 100000 in
theorem headLines_any (s : ByteArray) (w : World) (hs : s.size ≤ 100000) (hm : Max w) :
    Calls Tryz.prog 143 #[.string s] w fun e w' => ∃ v ss r, e = .returned (.tuple #[v, .string r]) ∧ OwnS w' w.heap.size v ss ∧ ss.map lst = (hl s.data.toList).1 ∧ r.data.toList = (hl s.data.toList).2 ∧ Below w.heap.size w w' := by
  have hw0 := hm.1
  have HMx := Box.mk hm
  clear hm
  go_enter Tryz.func143, Tryz.ntmps143
  go_wp2
  go_loopw [0, 4] (fun x v wr => ∃ (t : ByteArray) (ss : List ByteArray), x = .string t ∧ OwnS wr w.heap.size v ss ∧ t.size ≤ s.size ∧ ss.length + t.size ≤ s.size ∧ Below w.heap.size w wr ∧ Box (ss.map lst ++ (hl t.data.toList).1 = (hl s.data.toList).1 ∧ (hl t.data.toList).2 = (hl s.data.toList).2)) (fun x _ _ => strSize x)
  case atStart => exact ⟨s, [], rfl, OwnS.nil _ _, Nat.le_refl _, by simp, Below.refl _ _, ⟨rfl, rfl⟩⟩
  case round =>
    obtain ⟨t, ss, rfl, hown, hts, hss, hb, HH⟩ := hrel
    have hsz := hb.size
    by_cases h0 : t.size = 0
    · have he := empty_of t h0
      have HE : Box (ss.map lst = (hl s.data.toList).1 ∧ t.data.toList = (hl s.data.toList).2) := ⟨by
        have := HH.out
        rw [data_nil t h0, hl_nil] at this
        rw [data_nil t h0]
        exact ⟨by simpa using this.1, this.2⟩⟩
      clear HH HMx
      go_wp2
      go_ret2
      exact ⟨_, _, _, rfl, hown, HE.out.1, HE.out.2, hb⟩
    · have he := nonempty_of t h0
      have HN := Box.mk (list_ne t h0)
      go_wp2_with fail
      refine (cut_any t ⟨#[13, 10]⟩ _ (by omega) (HMx.out.below hb hw0)).mono ?_
      rintro e w1 ⟨a, b, f, rfl, hc, ha, hbs, hb1⟩
      have hlt := cut_lt t.data.toList HN.out
      have hle := cut_le t.data.toList
      have hc' : Lib.cut t.data.toList crlfL = (a.data.toList, b.data.toList, f) := hc
      rw [hc'] at hlt hle
      simp only [size_list] at hlt hle
      have hb2 := hb.trans (hb1.mono hsz)
      have hown1 := hown.below hb1 (Nat.le_refl _)
      have hsz2 := hb2.size
      by_cases ha0 : a.size = 0
      · have hea := empty_of a ha0
        have HE : Box (ss.map lst = (hl s.data.toList).1 ∧ b.data.toList = (hl s.data.toList).2) := ⟨by
          have := HH.out
          rw [hl_stop _ HN.out (by rw [hc']; exact data_nil a ha0), hc'] at this
          exact ⟨by simpa using this.1, this.2⟩⟩
        clear HH HN HMx hc hc' hown
        go_wp2
        go_ret2
        exact ⟨_, _, _, rfl, hown1, HE.out.1, HE.out.2, hb2⟩
      · have hea := nonempty_of a ha0
        have HE : Box ((ss ++ [a]).map lst ++ (hl b.data.toList).1 = (hl s.data.toList).1 ∧ (hl b.data.toList).2 = (hl s.data.toList).2) := ⟨by
          have := HH.out
          rw [hl_on _ HN.out (by rw [hc']; exact list_ne a ha0), hc'] at this
          refine ⟨?_, this.2⟩
          rw [← this.1]
          simp [lst]⟩
        have ha1 : 0 < a.size := by omega
        clear HH HN HMx hc hc' hown
        go_wp2_with (at_builtin; refine wp_appT _ w rfl (.tmp 16) (.tmp 18) rfl w.heap.size _ _ rfl hown1 a rfl (by omega) hsz2 hb2 ?_; intro v' w3 hown3 hb3)
        go_roundw
        case rel => exact ⟨b, ss ++ [a], rfl, hown3, by omega, by simp; omega, hb3, HE⟩
        case measure => simp [strSize]; omega

set_option maxHeartbeats 400000 in
theorem goesOn_any (x : ByteArray) (w : World) (h : 0 < x.size) :
    Calls Tryz.prog 145 #[.string x] w fun e w' => e = .returned (.bool (goes x.data.toList)) ∧ w' = w := by
  have HG := Box.mk (goes_of x h)
  go_enter Tryz.func145, Tryz.ntmps145
  go_wp2_with (go_at_call 177; refine (hBlank_any _ _).mono ?_; rintro e w' ⟨rfl, rfl⟩)
  go_ret
  exact ⟨ret_bool HG.out.symm, rfl⟩

end Go.Proofs.YtmjijnfhgedmlaaGreatDoor

namespace Go.Proofs.YtmjijnfhgedmlaaGreatDoor
open Go.RowKit

/- A value with parameters: what the document says of it, byte by byte. -/
abbrev PB := List UInt8 × List UInt8
def inC (c : UInt8) : Bool := decide (32 ≤ c.toNat) && decide (c.toNat ≤ 126)
def specials : List UInt8 := [40, 41, 60, 62, 64, 44, 59, 58, 92, 34, 47, 91, 93, 63, 61]
def tokC (c : UInt8) : Bool := decide (33 ≤ c.toNat) && decide (c.toNat ≤ 126) && !specials.contains c
def tokS (l : List UInt8) : Bool := !l.isEmpty && l.all tokC
/-- A token, or two with one / between. -/
def isMainS (l : List UInt8) : Bool := tokS (l.takeWhile (· != 47)) && ((l.dropWhile (· != 47)).isEmpty || tokS ((l.dropWhile (· != 47)).drop 1))
/-- What stands behind a quote, up to the next one, and what stands behind that. -/
def quotedS : List UInt8 → Option (List UInt8 × List UInt8)
  | [] => none
  | c :: r => if c = 34 then some ([], r) else if c = 92 then (match r with | [] => none | d :: r' => if inC d then (quotedS r').map fun q => (d :: q.1, q.2) else none) else if inC c then (quotedS r).map fun q => (c :: q.1, q.2) else none
/-- One parameter, behind its ; and what stands behind it. -/
def valueP (nm r5 : List UInt8) : Option (PB × List UInt8) :=
  if r5.head? = some 34 then (quotedS (r5.drop 1)).map fun q => ((smallS nm, q.1), dropB q.2)
  else if r5.takeWhile tokC = [] then none else some ((smallS nm, r5.takeWhile tokC), dropB (r5.dropWhile tokC))
def oneP (r : List UInt8) : Option (PB × List UInt8) :=
  if (dropB r).takeWhile tokC = [] then none
  else if (dropB ((dropB r).dropWhile tokC)).head? = some 61 then valueP ((dropB r).takeWhile tokC) (dropB ((dropB ((dropB r).dropWhile tokC)).drop 1)) else none
def paramsF : Nat → List UInt8 → Option (List PB)
  | 0, l => if l = [] then some [] else none
  | n + 1, l => if l = [] then some [] else if l.head? = some 59 then (oneP (l.drop 1)).bind fun q => (paramsF n q.2).map fun k => q.1 :: k else none
/-- What a text says. -/
def readK (s : List UInt8) : Option (List UInt8 × List PB) :=
  if isMainS (smallS (trimS (s.takeWhile (· != 59)))) then (paramsF s.length (s.dropWhile (· != 59))).map fun k => (smallS (trimS (s.takeWhile (· != 59))), k) else none
def escC (c : UInt8) : List UInt8 := if c = 34 ∨ c = 92 then [92, c] else [c]
def valW (v : List UInt8) : List UInt8 := if tokS v then v else 34 :: (v.flatMap escC ++ [34])
def paramW (p : PB) : List UInt8 := [59, 32] ++ p.1 ++ [61] ++ valW p.2
/-- What a value with parameters is written as. -/
def writeK (m : List UInt8) (l : List PB) : List UInt8 := m ++ l.flatMap paramW
def goodM (m : List UInt8) : Bool := isMainS m && decide (smallS m = m)
def goodP (p : PB) : Bool := tokS p.1 && decide (smallS p.1 = p.1) && p.2.all inC
def goodK (m : List UInt8) (l : List PB) : Bool := goodM m && l.all goodP

theorem tok_cases (c : UInt8) (h : tokC c = true) : blk c = false ∧ c ≠ 59 ∧ c ≠ 61 ∧ c ≠ 34 ∧ c ≠ 47 ∧ inC c = true ∧ tokC (smallC c) = true := by
  have key : ∀ n : Fin 256, tokC (UInt8.ofNat n.val) = true → blk (UInt8.ofNat n.val) = false ∧ UInt8.ofNat n.val ≠ 59 ∧ UInt8.ofNat n.val ≠ 61 ∧ UInt8.ofNat n.val ≠ 34 ∧ UInt8.ofNat n.val ≠ 47 ∧ inC (UInt8.ofNat n.val) = true ∧ tokC (smallC (UInt8.ofNat n.val)) = true := by decide +kernel
  have := key ⟨c.toNat, c.toNat_lt⟩
  simp at this
  have e : UInt8.ofNat c.toNat = c := by simp
  simpa using this h
theorem small_idem (c : UInt8) : smallC (smallC c) = smallC c := by
  have key : ∀ n : Fin 256, smallC (smallC (UInt8.ofNat n.val)) = smallC (UInt8.ofNat n.val) := by decide +kernel
  have := key ⟨c.toNat, c.toNat_lt⟩
  simpa using this
theorem smallS_idem (l : List UInt8) : smallS (smallS l) = smallS l := by
  unfold smallS
  rw [List.map_map]
  exact List.map_congr_left fun c _ => small_idem c
theorem tokS_parts {l : List UInt8} (h : tokS l = true) : ∃ c r, l = c :: r ∧ tokC c = true ∧ ∀ d ∈ l, tokC d = true := by
  unfold tokS at h
  simp only [Bool.and_eq_true, Bool.not_eq_true', List.all_eq_true] at h
  cases l with
  | nil => exact absurd h.1 (by simp)
  | cons c r => exact ⟨c, r, rfl, h.2 c List.mem_cons_self, h.2⟩
theorem tokS_mk {l : List UInt8} (h0 : l ≠ []) (h : ∀ d ∈ l, tokC d = true) : tokS l = true := by
  unfold tokS
  rw [List.all_eq_true.2 h]
  cases l with
  | nil => exact absurd rfl h0
  | cons c r => rfl
theorem tokS_small {l : List UInt8} (h : tokS l = true) : tokS (smallS l) = true := by
  obtain ⟨c, r, rfl, _, hall⟩ := tokS_parts h
  refine tokS_mk (by simp [smallS]) fun d hd => ?_
  obtain ⟨e, he, rfl⟩ := List.mem_map.1 hd
  exact (tok_cases e (hall e he)).2.2.2.2.2.2
theorem takeWhile_app {p : UInt8 → Bool} (a b : List UInt8) (ha : ∀ c ∈ a, p c = true) (hb : b.head?.all (fun c => !p c) = true) : (a ++ b).takeWhile p = a ∧ (a ++ b).dropWhile p = b := by
  induction a with
  | nil =>
    cases b with
    | nil => exact ⟨rfl, rfl⟩
    | cons c b =>
      have hc : p c = false := by simpa using hb
      simp [hc]
  | cons c a ih =>
    have hc := ha c List.mem_cons_self
    obtain ⟨i1, i2⟩ := ih fun d hd => ha d (List.mem_cons_of_mem _ hd)
    rw [List.cons_append, List.takeWhile_cons, List.dropWhile_cons, hc]
    simp [i1, i2]
theorem dropB_tok {l : List UInt8} (h : l.head?.all (fun c => !blk c) = true) : dropB l = l := dropB_self l h

theorem quoted_esc (v rest : List UInt8) (h : ∀ c ∈ v, inC c = true) : quotedS (v.flatMap escC ++ 34 :: rest) = some (v, rest) := by
  induction v with
  | nil =>
    show quotedS (34 :: rest) = _
    unfold quotedS
    rw [if_pos rfl]
  | cons c v ih =>
    have hc := h c List.mem_cons_self
    have hi := ih fun d hd => h d (List.mem_cons_of_mem _ hd)
    rw [List.flatMap_cons]
    by_cases h1 : c = 34 ∨ c = 92
    · have e : escC c = [92, c] := by unfold escC; rw [if_pos h1]
      rw [e]
      show quotedS (92 :: c :: (v.flatMap escC ++ 34 :: rest)) = _
      unfold quotedS
      rw [if_neg (by decide), if_pos rfl]
      simp only [hc, if_true, hi, Option.map_some]
    · have e : escC c = [c] := by unfold escC; rw [if_neg h1]
      rw [e]
      show quotedS (c :: (v.flatMap escC ++ 34 :: rest)) = _
      unfold quotedS
      rw [if_neg (fun e => h1 (.inl e)), if_neg (fun e => h1 (.inr e))]
      simp only [hc, if_true, hi, Option.map_some]

/-- What stands behind a parameter: nothing, or the next one. -/
def Ends (l : List UInt8) : Prop := l = [] ∨ ∃ r, l = 59 :: r
theorem Ends.tok {l : List UInt8} (h : Ends l) : l.head?.all (fun c => !tokC c) = true := by
  rcases h with rfl | ⟨r, rfl⟩
  · rfl
  · rfl
theorem Ends.blk {l : List UInt8} (h : Ends l) : dropB l = l := by
  rcases h with rfl | ⟨r, rfl⟩
  · rfl
  · rfl
theorem ends_params (l : List PB) : Ends (l.flatMap paramW) := by
  cases l with
  | nil => exact .inl rfl
  | cons p l => exact .inr ⟨_, rfl⟩

theorem value_back (nm v rest : List UInt8) (hv : ∀ c ∈ v, inC c = true) (he : Ends rest) : valueP nm (dropB (valW v ++ rest)) = some ((smallS nm, v), rest) := by
  unfold valW
  by_cases ht : tokS v = true
  · rw [if_pos ht]
    obtain ⟨c, r, hcr, hc, hall⟩ := tokS_parts ht
    obtain ⟨i1, i2⟩ := takeWhile_app v rest hall he.tok
    have hh : (v ++ rest).head? = some c := by rw [hcr]; rfl
    have hd : dropB (v ++ rest) = v ++ rest := dropB_tok (by rw [hh]; simp [(tok_cases c hc).1])
    rw [hd]
    unfold valueP
    rw [hh, if_neg (fun e => (tok_cases c hc).2.2.2.1 (Option.some.inj e)), i1, i2, if_neg (by rw [hcr]; simp), he.blk]
  · rw [if_neg ht]
    have hd : dropB (34 :: (v.flatMap escC ++ [34]) ++ rest) = 34 :: (v.flatMap escC ++ [34]) ++ rest := rfl
    rw [hd]
    unfold valueP
    have hh : (34 :: (v.flatMap escC ++ [34]) ++ rest).head? = some 34 := rfl
    rw [if_pos hh]
    have e : (34 :: (v.flatMap escC ++ [34]) ++ rest).drop 1 = v.flatMap escC ++ 34 :: rest := by simp
    rw [e, quoted_esc v rest hv, Option.map_some, he.blk]
theorem one_back (p : PB) (h : goodP p = true) (rest : List UInt8) (he : Ends rest) : oneP (32 :: p.1 ++ [61] ++ valW p.2 ++ rest) = some (p, rest) := by
  unfold goodP at h
  simp only [Bool.and_eq_true, decide_eq_true_eq, List.all_eq_true] at h
  obtain ⟨⟨ht, hs⟩, hv⟩ := h
  obtain ⟨c, r, hcr, hc, hall⟩ := tokS_parts ht
  have e1 : dropB (32 :: p.1 ++ [61] ++ valW p.2 ++ rest) = p.1 ++ (61 :: (valW p.2 ++ rest)) := by
    have e : (32 :: p.1 ++ [61] ++ valW p.2 ++ rest : List UInt8) = 32 :: (p.1 ++ (61 :: (valW p.2 ++ rest))) := by simp
    rw [e]
    show dropB (p.1 ++ (61 :: (valW p.2 ++ rest))) = _
    exact dropB_tok (by rw [hcr]; simp [(tok_cases c hc).1])
  obtain ⟨i1, i2⟩ := takeWhile_app p.1 (61 :: (valW p.2 ++ rest)) hall rfl
  unfold oneP
  rw [e1, i1, i2, if_neg (by rw [hcr]; simp)]
  have e2 : dropB (61 :: (valW p.2 ++ rest)) = 61 :: (valW p.2 ++ rest) := rfl
  have hh : (61 :: (valW p.2 ++ rest)).head? = some 61 := rfl
  rw [e2, if_pos hh]
  show valueP p.1 (dropB (valW p.2 ++ rest)) = _
  rw [value_back p.1 p.2 rest hv he, hs]
theorem params_back (l : List PB) (h : l.all goodP = true) : ∀ n, l.length ≤ n → paramsF n (l.flatMap paramW) = some l := by
  induction l with
  | nil => intro n _; cases n <;> rfl
  | cons p l ih =>
    intro n hn
    simp only [List.all_cons, Bool.and_eq_true] at h
    obtain ⟨m, rfl⟩ : ∃ m, n = m + 1 := ⟨n - 1, by simp at hn; omega⟩
    have hm : l.length ≤ m := by simpa using hn
    have e : (p :: l).flatMap paramW = 59 :: (32 :: p.1 ++ [61] ++ valW p.2 ++ l.flatMap paramW) := by simp [paramW]
    rw [e]
    unfold paramsF
    have hh : (59 :: (32 :: p.1 ++ [61] ++ valW p.2 ++ l.flatMap paramW)).head? = some 59 := rfl
    rw [if_neg (by simp), if_pos hh]
    show (oneP (32 :: p.1 ++ [61] ++ valW p.2 ++ l.flatMap paramW)).bind _ = _
    rw [one_back p h.1 _ (ends_params l)]
    simp only [Option.bind_some, ih h.2 m hm, Option.map_some]

theorem main_ends (m : List UInt8) (h : isMainS m = true) : m ≠ [] ∧ (∀ c ∈ m, tokC c = true ∨ c = 47) ∧ m.head?.all (fun c => !blk c) = true ∧ m.getLast?.all (fun c => !blk c) = true := by
  unfold isMainS at h
  simp only [Bool.and_eq_true, Bool.or_eq_true] at h
  obtain ⟨h1, h2⟩ := h
  obtain ⟨c, r, hcr, hc, hall⟩ := tokS_parts h1
  have hsplit := List.takeWhile_append_dropWhile (p := fun x : UInt8 => x != 47) (l := m)
  have hne : m ≠ [] := by
    intro e
    rw [e] at hcr
    simp at hcr
  have hmem : ∀ c ∈ m, tokC c = true ∨ c = 47 := by
    intro d hd
    rw [← hsplit] at hd
    rcases List.mem_append.1 hd with hd | hd
    · exact .inl (hall d hd)
    · rcases h2 with h2 | h2
      · have : m.dropWhile (· != 47) = [] := List.isEmpty_iff.1 h2
        rw [this] at hd
        simp at hd
      · cases hw : m.dropWhile (· != 47) with
        | nil => rw [hw] at hd; simp at hd
        | cons a b =>
          rw [hw] at hd h2
          have ha : a = 47 := by
            have := List.head_dropWhile_not (fun x : UInt8 => x != 47) (l := m) (by rw [hw]; simp)
            simp only [hw, List.head_cons] at this
            simpa using this
          rcases List.mem_cons.1 hd with rfl | hd
          · exact .inr ha
          · obtain ⟨_, _, _, _, hall2⟩ := tokS_parts h2
            exact .inl (hall2 d hd)
  have hnb : ∀ c ∈ m, blk c = false := fun d hd => by
    rcases hmem d hd with h | rfl
    · exact (tok_cases d h).1
    · rfl
  refine ⟨hne, hmem, ?_, ?_⟩
  · cases hh : m.head? with
    | none => rfl
    | some d => simp [hnb d (List.mem_of_mem_head? hh)]
  · cases hh : m.getLast? with
    | none => rfl
    | some d => simp [hnb d (List.mem_of_getLast? hh)]

/-- What a value with parameters is written as is that value. -/
theorem kind_back (m : List UInt8) (l : List PB) (h : goodK m l = true) : readK (writeK m l) = some (m, l) := by
  unfold goodK goodM at h
  simp only [Bool.and_eq_true, decide_eq_true_eq] at h
  obtain ⟨⟨hm, hs⟩, hl⟩ := h
  obtain ⟨_, hmem, e1, e2⟩ := main_ends m hm
  have hp : ∀ c ∈ m, (c != 59) = true := fun c hc => by
    rcases hmem c hc with h | rfl
    · simpa using (tok_cases c h).2.1
    · rfl
  have hq : (l.flatMap paramW).head?.all (fun c => !(c != 59)) = true := by
    rcases ends_params l with e | ⟨r, e⟩
    · rw [e]; rfl
    · rw [e]; rfl
  obtain ⟨i1, i2⟩ := takeWhile_app (p := fun c => c != 59) m (l.flatMap paramW) hp hq
  have ht : trimS m = m := (trim_iff m).2 ⟨e1, e2⟩
  have hlen : l.length ≤ (m ++ l.flatMap paramW).length := by
    rw [List.length_append]
    have : ∀ l : List PB, l.length ≤ (l.flatMap paramW).length := by
      intro l
      induction l with
      | nil => simp
      | cons p l ih =>
        rw [List.flatMap_cons, List.length_append, List.length_cons]
        have : 1 ≤ (paramW p).length := by simp [paramW]
        omega
    have := this l
    omega
  unfold readK writeK
  rw [i1, i2, ht, hs, if_pos hm, params_back l hl _ hlen]; rfl

theorem quoted_in (l : List UInt8) : ∀ n, l.length ≤ n → ∀ v r, quotedS l = some (v, r) → v.all inC = true := by
  intro n
  induction n generalizing l with
  | zero =>
    intro h v r hq
    have : l = [] := List.eq_nil_of_length_eq_zero (by omega)
    subst this
    cases hq
  | succ n ih =>
    intro h v r hq
    cases l with
    | nil => cases hq
    | cons c t =>
      rw [List.length_cons] at h
      unfold quotedS at hq
      by_cases h1 : c = 34
      · rw [if_pos h1] at hq
        simp only [Option.some.injEq, Prod.mk.injEq] at hq
        rw [← hq.1]; rfl
      · rw [if_neg h1] at hq
        by_cases h2 : c = 92
        · rw [if_pos h2] at hq
          cases t with
          | nil => cases hq
          | cons d t' =>
            simp only at hq
            by_cases h3 : inC d = true
            · rw [if_pos h3] at hq
              obtain ⟨q, hq1, hq2⟩ := Option.map_eq_some_iff.1 hq
              simp only [Prod.mk.injEq] at hq2
              rw [← hq2.1, List.all_cons, h3, ih t' (by simp at h; omega) q.1 q.2 hq1]; rfl
            · rw [if_neg h3] at hq; cases hq
        · rw [if_neg h2] at hq
          by_cases h3 : inC c = true
          · rw [if_pos h3] at hq
            obtain ⟨q, hq1, hq2⟩ := Option.map_eq_some_iff.1 hq
            simp only [Prod.mk.injEq] at hq2
            rw [← hq2.1, List.all_cons, h3, ih t (by omega) q.1 q.2 hq1]; rfl
          · rw [if_neg h3] at hq; cases hq
theorem takeWhile_all {p : UInt8 → Bool} (l : List UInt8) : ∀ c ∈ l.takeWhile p, p c = true := by
  intro c hc
  have := List.all_takeWhile (p := p) (l := l)
  exact List.all_eq_true.1 this c hc
theorem value_good (nm r5 : List UInt8) (hn : tokS nm = true) (p : PB) (r : List UInt8) (h : valueP nm r5 = some (p, r)) : goodP p = true := by
  have hnm : tokS (smallS nm) = true ∧ smallS (smallS nm) = smallS nm := ⟨tokS_small hn, smallS_idem nm⟩
  unfold valueP at h
  split at h
  · obtain ⟨q, hq1, hq2⟩ := Option.map_eq_some_iff.1 h
    simp only [Prod.mk.injEq] at hq2
    rw [← hq2.1]
    unfold goodP
    rw [hnm.1, decide_eq_true hnm.2, quoted_in _ _ (Nat.le_refl _) q.1 q.2 hq1]; rfl
  · split at h
    · cases h
    · simp only [Option.some.injEq, Prod.mk.injEq] at h
      rw [← h.1]
      unfold goodP
      have : (r5.takeWhile tokC).all inC = true := List.all_eq_true.2 fun c hc => (tok_cases c (takeWhile_all r5 c hc)).2.2.2.2.2.1
      rw [hnm.1, decide_eq_true hnm.2, this]; rfl
theorem one_good (r : List UInt8) (p : PB) (r' : List UInt8) (h : oneP r = some (p, r')) : goodP p = true := by
  unfold oneP at h
  split at h
  · cases h
  · rename_i hne
    split at h
    · exact value_good _ _ (tokS_mk hne (takeWhile_all _)) p r' h
    · cases h
theorem params_good : ∀ (n : Nat) (l : List UInt8) (k : List PB), paramsF n l = some k → k.all goodP = true
  | 0, l, k, h => by
    unfold paramsF at h
    split at h
    · cases h; rfl
    · cases h
  | n + 1, l, k, h => by
    unfold paramsF at h
    split at h
    · cases h; rfl
    · split at h
      · obtain ⟨q, hq1, hq2⟩ := Option.bind_eq_some_iff.1 h
        obtain ⟨k', hk1, hk2⟩ := Option.map_eq_some_iff.1 hq2
        rw [← hk2, List.all_cons, one_good _ q.1 q.2 hq1, params_good n _ k' hk1]; rfl
      · cases h
/-- What any text says may be written. -/
theorem kind_good (s m : List UInt8) (l : List PB) (h : readK s = some (m, l)) : goodK m l = true := by
  unfold readK at h
  split at h
  · rename_i hm
    obtain ⟨k, hk1, hk2⟩ := Option.map_eq_some_iff.1 h
    simp only [Prod.mk.injEq] at hk2
    obtain ⟨rfl, rfl⟩ := hk2
    unfold goodK goodM
    rw [hm, decide_eq_true (smallS_idem _), params_good _ _ _ hk1]; rfl
  · cases h

end Go.Proofs.YtmjijnfhgedmlaaGreatDoor

namespace Go.Proofs.YtmjijnfhgedmlaaGreatDoor
open Go.RowKit

/- The head that a text begins with, rid of blanks: by lists. -/
def okB (f : PB) : Bool := saysS (trimS f.2)
def headR (s : List UInt8) : Except Nat (List PB × List UInt8) :=
  match refRun (hl s).1 0 [] with
  | .error _ => .error 3
  | .ok M => if M.all okB then .ok (M.map fun f => (f.1, trimS f.2), (hl s).2) else .error 1

end Go.Proofs.YtmjijnfhgedmlaaGreatDoor

namespace Go.Proofs.YtmjijnfhgedmlaaGreatDoor
open Go.RowKit

/- Texts cut at each CR and LF, and put together again. -/
def consHead (c : UInt8) : List (List UInt8) → List (List UInt8)
  | [] => [[c]]
  | x :: r => (c :: x) :: r
def splitC : List UInt8 → List (List UInt8)
  | [] => [[]]
  | [c] => [[c]]
  | c :: d :: t => if c = 13 ∧ d = 10 then [] :: splitC t else consHead c (splitC (d :: t))
theorem splitC_cut (t : List UInt8) : splitC (13 :: 10 :: t) = [] :: splitC t := by
  conv => lhs; unfold splitC
  rw [if_pos ⟨rfl, rfl⟩]
theorem splitC_char (c d : UInt8) (t : List UInt8) (h : ¬ (c = 13 ∧ d = 10)) : splitC (c :: d :: t) = consHead c (splitC (d :: t)) := by
  conv => lhs; unfold splitC
  rw [if_neg h]
def joinC : List (List UInt8) → List UInt8
  | [] => []
  | [x] => x
  | x :: y :: r => x ++ 13 :: 10 :: joinC (y :: r)
theorem splitC_ne : ∀ l : List UInt8, splitC l ≠ []
  | [] => by simp [splitC]
  | [c] => by simp [splitC]
  | c :: d :: t => by
    unfold splitC
    split
    · simp
    · cases splitC (d :: t) <;> simp [consHead]
theorem joinC_cons (x : List UInt8) (r : List (List UInt8)) (h : r ≠ []) : joinC (x :: r) = x ++ 13 :: 10 :: joinC r := by
  cases r with
  | nil => exact absurd rfl h
  | cons y r => rfl
theorem join_consHead (c : UInt8) (l : List (List UInt8)) (h : l ≠ []) : joinC (consHead c l) = c :: joinC l := by
  cases l with
  | nil => exact absurd rfl h
  | cons x r =>
    unfold consHead
    cases r with
    | nil => rfl
    | cons y r =>
      have e1 : joinC ((c :: x) :: y :: r) = (c :: x) ++ 13 :: 10 :: joinC (y :: r) := rfl
      have e2 : joinC (x :: y :: r) = x ++ 13 :: 10 :: joinC (y :: r) := rfl
      rw [e1, e2]; rfl
theorem joinC_split : ∀ l : List UInt8, joinC (splitC l) = l
  | [] => rfl
  | [c] => rfl
  | c :: d :: t => by
    unfold splitC
    split
    · rename_i h
      rw [joinC_cons _ _ (splitC_ne t), joinC_split t, h.1, h.2]; rfl
    · rw [join_consHead _ _ (splitC_ne _), joinC_split (d :: t)]
/-- A line stands in the text. -/
theorem splitC_in : ∀ (l x : List UInt8), x ∈ splitC l → ∃ u v, l = u ++ x ++ v
  | [], x, h => by
    simp [splitC] at h
    subst h
    exact ⟨[], [], rfl⟩
  | [c], x, h => by
    simp [splitC] at h
    subst h
    exact ⟨[], [], rfl⟩
  | c :: d :: t, x, h => by
    unfold splitC at h
    split at h
    · rename_i hcd
      rcases List.mem_cons.1 h with rfl | h
      · exact ⟨[], c :: d :: t, rfl⟩
      · obtain ⟨u, v, e⟩ := splitC_in t x h
        exact ⟨c :: d :: u, v, by rw [e]; simp⟩
    · have hne := splitC_ne (d :: t)
      cases hs : splitC (d :: t) with
      | nil => exact absurd hs hne
      | cons y r =>
        rw [hs] at h
        rcases List.mem_cons.1 h with rfl | h
        · have hj := joinC_split (d :: t)
          rw [hs] at hj
          cases r with
          | nil =>
            refine ⟨[], [], ?_⟩
            have : y = d :: t := hj
            rw [this]; simp
          | cons z r =>
            rw [joinC_cons _ _ (by simp)] at hj
            exact ⟨[], 13 :: 10 :: joinC (z :: r), by rw [← hj]; simp⟩
        · obtain ⟨u, v, e⟩ := splitC_in (d :: t) x (by rw [hs]; exact List.mem_cons_of_mem _ h)
          exact ⟨c :: u, v, by rw [e]; simp⟩
/-- Put together by CR and LF, two texts' lines stand one behind the other. -/
theorem splitC_app : ∀ (x t : List UInt8), splitC (x ++ 13 :: 10 :: t) = splitC x ++ splitC t
  | [], t => by
    show splitC (13 :: 10 :: t) = _
    conv => lhs; unfold splitC
    rw [if_pos ⟨rfl, rfl⟩]; rfl
  | [c], t => by
    show splitC (c :: 13 :: 10 :: t) = _
    conv => lhs; unfold splitC
    rw [if_neg (fun h => absurd h.2 (by decide))]
    have : splitC (13 :: 10 :: t) = [] :: splitC t := by
      conv => lhs; unfold splitC
      rw [if_pos ⟨rfl, rfl⟩]
    rw [this]; rfl
  | c :: d :: x, t => by
    show splitC (c :: d :: (x ++ 13 :: 10 :: t)) = _
    by_cases h : c = 13 ∧ d = 10
    · rw [h.1, h.2, splitC_cut, splitC_cut, splitC_app x t]; rfl
    · rw [splitC_char _ _ _ h, splitC_char _ _ _ h]
      have := splitC_app (d :: x) t
      rw [List.cons_append] at this
      rw [this]
      cases hs : splitC (d :: x) with
      | nil => exact absurd hs (splitC_ne _)
      | cons y r => rfl

/- What stands between the lines that part a body. -/
def lead (b : List UInt8) : List UInt8 := 45 :: 45 :: b
/-- A line that begins a part (some false), one that ends all (some true), or none of them. -/
def markOf (b x : List UInt8) : Option Bool :=
  if (lead b).isPrefixOf x then (if trimS (x.drop (lead b).length) = [] then some false else if trimS (x.drop (lead b).length) = [45, 45] then some true else none) else none
def betS (b : List UInt8) : List (List UInt8) → Bool → List (List UInt8) → Option (List (List UInt8))
  | [], _, _ => none
  | x :: r, begun, cur => match markOf b x with
    | none => betS b r begun (cur ++ [x])
    | some true => some (if begun then [joinC cur] else [])
    | some false => (betS b r true []).map fun o => if begun then joinC cur :: o else o
/-- The parts, or none. -/
def betweenS (b s : List UInt8) : Option (List (List UInt8)) := betS b (splitC s) false []

/-- A text stands in none. -/
def Apart (sub s : List UInt8) : Prop := ∀ u v, s ≠ u ++ sub ++ v
theorem mark_none (b x s : List UInt8) (h : Apart (lead b) s) (hx : x ∈ splitC s) : markOf b x = none := by
  unfold markOf
  rw [if_neg]
  intro hp
  obtain ⟨t, ht⟩ := List.isPrefixOf_iff_prefix.1 hp
  obtain ⟨u, v, e⟩ := splitC_in s x hx
  exact h u (t ++ v) (by rw [e, ← ht]; simp)
theorem bet_lines (b : List UInt8) (ls : List (List UInt8)) : ∀ (r : List (List UInt8)) (begun : Bool) (cur : List (List UInt8)), (∀ x ∈ ls, markOf b x = none) → betS b (ls ++ r) begun cur = betS b r begun (cur ++ ls) := by
  induction ls with
  | nil => intro r begun cur _; simp
  | cons x ls ih =>
    intro r begun cur h
    rw [List.cons_append, betS, h x List.mem_cons_self]
    simp only
    rw [ih r begun _ fun y hy => h y (List.mem_cons_of_mem _ hy)]
    simp
def pieceW (b x : List UInt8) : List UInt8 := lead b ++ [13, 10] ++ x ++ [13, 10]
/-- Parts as bytes. -/
def piecesW (b : List UInt8) (xs : List (List UInt8)) : List UInt8 := xs.flatMap (pieceW b) ++ lead b ++ [45, 45, 13, 10]

theorem lead_line (b : List UInt8) (hb : ∀ c ∈ b, c ≠ 13) : ∀ t : List UInt8, splitC (lead b ++ [13, 10] ++ t) = lead b :: splitC t := by
  intro t
  have h1 : lead b ++ [13, 10] ++ t = lead b ++ 13 :: 10 :: t := by simp
  have hone : ∀ l : List UInt8, (∀ c ∈ l, c ≠ 13) → splitC l = [l] := by
    intro l
    induction l with
    | nil => intro _; rfl
    | cons c l ih =>
      intro h
      cases l with
      | nil => rfl
      | cons d l =>
        unfold splitC
        rw [if_neg (fun e => h c List.mem_cons_self e.1), ih fun e he => h e (List.mem_cons_of_mem _ he)]; rfl
  rw [h1, splitC_app, hone (lead b) (fun c hc => by
    unfold lead at hc
    rcases List.mem_cons.1 hc with rfl | hc
    · decide
    · rcases List.mem_cons.1 hc with rfl | hc
      · decide
      · exact hb c hc)]; rfl
theorem end_line (b : List UInt8) (hb : ∀ c ∈ b, c ≠ 13) : splitC (lead b ++ [45, 45, 13, 10]) = [lead b ++ [45, 45], []] := by
  have := lead_line (b ++ [45, 45]) (fun c hc => by
    rcases List.mem_append.1 hc with hc | hc
    · exact hb c hc
    · have : c = 45 := by simpa using hc
      rw [this]; decide) []
  have e : lead b ++ [45, 45, 13, 10] = lead (b ++ [45, 45]) ++ [13, 10] ++ [] := by simp [lead]
  rw [e, this]
  simp [lead, splitC]
theorem mark_begin (b : List UInt8) : markOf b (lead b) = some false := by
  unfold markOf
  have : (lead b).isPrefixOf (lead b) = true := List.isPrefixOf_iff_prefix.2 (List.prefix_refl _)
  have h0 : trimS [] = [] := rfl
  rw [if_pos this, List.drop_length, if_pos h0]
theorem mark_end (b : List UInt8) : markOf b (lead b ++ [45, 45]) = some true := by
  unfold markOf
  have : (lead b).isPrefixOf (lead b ++ [45, 45]) = true := List.isPrefixOf_iff_prefix.2 (List.prefix_append _ _)
  rw [if_pos this, List.drop_left]
  rfl
theorem bet_back (b : List UInt8) (hb : ∀ c ∈ b, c ≠ 13) : ∀ (xs : List (List UInt8)), (∀ x ∈ xs, Apart (lead b) x) → ∀ (begun : Bool) (cur : List (List UInt8)), betS b (splitC (piecesW b xs)) begun cur = some ((if begun then [joinC cur] else []) ++ xs)
  | [], _, begun, cur => by
    show betS b (splitC (lead b ++ [45, 45, 13, 10])) begun cur = _
    rw [end_line b hb, betS, mark_end]
    simp
  | x :: xs, h, begun, cur => by
    have hx := h x List.mem_cons_self
    have e : piecesW b (x :: xs) = lead b ++ [13, 10] ++ (x ++ 13 :: 10 :: piecesW b xs) := by simp [piecesW, pieceW]
    have ih := bet_back b hb xs (fun y hy => h y (List.mem_cons_of_mem _ hy)) true (splitC x)
    rw [e, lead_line b hb, splitC_app, betS, mark_begin]
    simp only
    rw [bet_lines b (splitC x) _ true [] (fun y hy => mark_none b y x hx hy), List.nil_append, ih, joinC_split]
    cases begun <;> simp
/-- What parts are written as is cut into just these parts. -/
theorem between_back (b : List UInt8) (hb : ∀ c ∈ b, c ≠ 13) (xs : List (List UInt8)) (h : ∀ x ∈ xs, Apart (lead b) x) : betweenS b (piecesW b xs) = some xs := by
  unfold betweenS
  rw [bet_back b hb xs h]; simp

end Go.Proofs.YtmjijnfhgedmlaaGreatDoor

