import Derived.Test.YtnjjjkhhoaadfabGreatDoorZB0
import Derived.Deep.Quiet
namespace Go.Proofs.YtnjjjkhhoaadfabGreatDoor
open Go.RowKit

/- A region that draws its order, whose first n operations are quiet in a class of worlds, and whose others wait for all of these: one walk of the text's order for the first ones, then the others in every world of the class. -/
section
variable {P : Program} {ops : Array Oper} {md : Region.Mode} {C : World → Prop} {n : Nat}

def wpPre (P : Program) (md : Region.Mode) (ops : Array Oper) (C : World → Prop) (n : Nat) (T : Array Bool → Act → Prop) : Nat → Array Bool → Act → Prop
  | 0, listed, a => (∀ j ∈ Region.ready md ops listed, n ≤ j) ∧ T listed a
  | fuel + 1, listed, a => Region.ready md ops listed ≠ [] ∧ ∀ i ∈ Region.ready md ops listed, qOp P ops C i (wpPre P md ops C n T fuel (listed.setIfInBounds i true)) a

/-- Each later operation waits for each of the first n. -/
def waitsB (md : Region.Mode) (ops : Array Oper) (n : Nat) : Bool := (List.range ops.size).all fun j => decide (j < n) || (List.range n).all fun i => match ops[j]? with
  | some o => o.after.any fun e => Region.binds md e && e.on == i
  | none => true
theorem waitsB_spec (h : waitsB md ops n = true) {j i : Nat} {o : Oper} (hj : n ≤ j) (ho : ops[j]? = some o) (hi : i < n) : ∃ e ∈ o.after, Region.binds md e = true ∧ e.on = i := by
  have h1 := List.all_eq_true.1 h j (List.mem_range.2 (Array.getElem?_eq_some_iff.1 ho).1)
  rw [decide_eq_false (by omega), Bool.false_or] at h1
  have h2 := List.all_eq_true.1 h1 i (List.mem_range.2 hi)
  simp only [ho] at h2
  obtain ⟨e, he, hb⟩ := Array.any_eq_true'.1 h2
  simp only [Bool.and_eq_true, beq_iff_eq] at hb
  exact ⟨e, he, hb.1, hb.2⟩

theorem wpPre_any {T : Array Bool → Act → Prop} {Q : Exit → Act → World → Prop} {f : Nat} (hT : ∀ listed a, T listed a → ∀ w, C w → wpAny P md ops Q f listed a w) :
    ∀ (fuel : Nat) (listed : Array Bool) (a : Act) (w : World), C w → wpPre P md ops C n T fuel listed a → wpAny P md ops Q (f + fuel) listed a w
  | 0, _, _, _, hw, h => hT _ _ h.2 _ hw
  | fuel + 1, _, _, _, hw, h => ⟨fun h0 => absurd h0 h.1, fun i hi => wpOp_of_qOp hw (fun a' w' hw' h' => wpPre_any hT fuel _ a' w' hw' h') (h.2 i hi)⟩

/-- An operation of the first n that may come up now may be taken first. -/
theorem wpPre_first {T : Array Bool → Act → Prop} (hws : waitsB md ops n = true) {i : Nat} {oi : Oper} {v : Value} (hin : i < n) (hi : ops[i]? = some oi) (hsel : ∀ (j : Nat) (o : Oper) cs b, ops[j]? = some o → o.op ≠ .select cs b) :
    ∀ (fuel : Nat) (listed : Array Bool) (a : Act),
      (∀ j oj, ops[j]? = some oj → j ≠ i → listed.getD j true = false → (∀ e ∈ oj.after, Region.binds md e = true → e.on ≠ i) → oi.apart ops oj = true) →
      i ∈ Region.ready md ops listed → YieldsIn P ops C oi v a →
      wpPre P md ops C n T fuel (listed.setIfInBounds i true) (a.put oi.dst v) → wpPre P md ops C n T (fuel + 1) listed a := by
  intro fuel
  induction fuel with
  | zero =>
    intro listed a _ hr hy H
    refine ⟨fun h => by (rw [h] at hr; cases hr), fun j hj => ?_⟩
    by_cases hji : j = i
    · subst hji; exact hy.qOp hi H
    · exfalso
      have hn := H.1 j (ready_mono hj hji)
      obtain ⟨_, oj, hoj, hall⟩ := mem_ready.1 hj
      obtain ⟨e, he, hb, hon⟩ := waitsB_spec hws hn hoj hin
      have h1 := hall e he hb
      have h0 := (mem_ready.1 hr).1
      rw [hon] at h1
      rcases Nat.lt_or_ge i listed.size with h' | h'
      · simp [h'] at h0 h1; rw [h0] at h1; cases h1
      · simp [Array.getElem?_eq_none h'] at h1
  | succ fuel ih =>
    intro listed a hfree hr hy H
    refine ⟨fun h => by (rw [h] at hr; cases hr), fun j hj => ?_⟩
    by_cases hji : j = i
    · subst hji; exact hy.qOp hi H
    · have h1 := H.2 j (ready_mono hj hji)
      obtain ⟨hjun, oj, hoj, hall⟩ := mem_ready.1 hj
      have hnot : ∀ e ∈ oj.after, Region.binds md e = true → e.on ≠ i := by
        intro e he hb heq
        have h1 := hall e he hb
        have h0 := (mem_ready.1 hr).1
        rw [heq] at h1
        rcases Nat.lt_or_ge i listed.size with h' | h'
        · simp [h'] at h0 h1; rw [h0] at h1; cases h1
        · simp [Array.getElem?_eq_none h'] at h1
      have h2 := qOp_put hoj (hfree j oj hoj hji hjun hnot) (fun cs b => hsel i oi cs b hi) (fun cs b => hsel j oj cs b hoj) hy h1
      refine qOp_mono (fun a' h3 => ih (listed.setIfInBounds j true) a' ?_ (ready_mono hr (Ne.symm hji)) h3.1 ?_) h2
      · intro k ok hk hki hun hno
        refine hfree k ok hk hki ?_ hno
        by_cases hjk : j = k
        · subst hjk; exact hjun
        · rw [getD_set_ne true hjk] at hun; exact hun
      · rw [Array.setIfInBounds_comm _ _ hji]
        exact h3.2

/-- The first ones may come up in the text's order; behind them only later ones. -/
def lexN (md : Region.Mode) (ops : Array Oper) (n : Nat) : Nat → Nat → Array Bool → Bool
  | 0, _, listed => (Region.ready md ops listed).all fun j => decide (n ≤ j)
  | fuel + 1, k, listed => decide (k < n) && (Region.ready md ops listed).contains k && Region.free md ops listed k && lexN md ops n fuel (k + 1) (listed.setIfInBounds k true)
/-- Which are listed behind them. -/
def listN : Nat → Nat → Array Bool → Array Bool
  | 0, _, listed => listed
  | fuel + 1, k, listed => listN fuel (k + 1) (listed.setIfInBounds k true)

theorem wpPre_lex {T : Act → Prop} (hws : waitsB md ops n = true) (hs : Region.noSelect ops = true) (L : Array Bool) : ∀ (l : List Oper) (k : Nat) (listed : Array Bool) (a : Act), (∀ j, j < l.length → l[j]? = ops[k + j]?) →
    lexN md ops n l.length k listed = true → listN l.length k listed = L → wpQuiet P ops C T l a → wpPre P md ops C n (fun s a => s = L ∧ T a) l.length listed a
  | [], _, listed, _, _, hB, hL, h => ⟨fun j hj => by simpa using List.all_eq_true.1 hB j hj, hL, h⟩
  | o :: l, k, listed, a, hl, hB, hL, h => by
    have h0 : ops[k]? = some o := by simpa using (hl 0 (by simp)).symm
    simp only [List.length_cons, lexN, Bool.and_eq_true, decide_eq_true_eq] at hB
    obtain ⟨⟨⟨hk, hr⟩, hf⟩, hB'⟩ := hB
    have hst : qOp P ops C k (wpQuiet P ops C T l) a := by unfold qOp; simp only [h0]; exact h
    obtain ⟨v, hy, hK⟩ := yieldsIn_of_qOp h0 hst
    refine wpPre_first hws hk h0 (Region.noSelect_spec hs) l.length listed a (Region.free_spec h0 hf) (by simpa using hr) hy (wpPre_lex hws hs L l (k + 1) _ _ (fun j hj => ?_) hB' hL hK)
    have := hl (j + 1) (by simpa using hj)
    simpa [Nat.add_assoc, Nat.add_comm 1 j] using this

theorem wp_region_pre {id : Nat} {Q : Exit → Act → World → Prop} {a : Act} {w : World} (n f : Nat) (L : Array Bool) (hm : P.follows .mixedOrders = true) (hs : Region.noSelect ops = true) (hws : waitsB .any ops n = true) (hn : ops.size = f + n) (hlen : (ops.toList.take n).length = n)
    (hB : lexN .any ops n n 0 (Array.replicate ops.size false) = true) (hL : listN n 0 (Array.replicate ops.size false) = L) (hC : C { w with drawn := w.drawn + 1 })
    (h : wpQuiet P ops C (fun a' => ∀ w', C w' → wpAny P .any ops Q f L a' w') (ops.toList.take n) a) : (Code.region id ops true).wp P Q a w := by
  refine wp_region_any hm ?_
  have key := wpPre_lex (T := fun a' => ∀ w', C w' → wpAny P .any ops Q f L a' w') hws hs L (ops.toList.take n) 0 (Array.replicate ops.size false) a (fun j hj => ?_) (by rw [hlen]; exact hB) (by rw [hlen]; exact hL) h
  · rw [hlen] at key
    have := wpPre_any (n := n) (Q := Q) (f := f) (T := fun s a => s = L ∧ ∀ w', C w' → wpAny P .any ops Q f L a w') (fun s a hT w hw => by rw [hT.1]; exact hT.2 w hw) n _ a _ hC key
    rw [← hn] at this
    exact this
  · rw [hlen] at hj
    simp [hj]

/-- One operation that must come next. -/
theorem wpAny_next {Q : Exit → Act → World → Prop} {fuel : Nat} {listed : Array Bool} {a : Act} {w : World} (k : Nat) (o : Oper) (hr : Region.ready md ops listed = [k]) (ho : ops[k]? = some o) (hgd : o.guard = none)
    (h : o.wp P a w (wpAny P md ops Q fuel (listed.setIfInBounds k true)) Q) : wpAny P md ops Q (fuel + 1) listed a w := by
  refine wpAny_all hr (by simp) fun i hi => ?_
  rw [List.mem_singleton.1 hi]
  unfold wpOp
  simp only [ho]
  have hw : Region.wanted o (yielded ops a.tmps) = true := by simp [Region.wanted, hgd]
  rw [if_pos hw]
  exact .inl h

/- Steps of the walk in the text's order. -/
theorem quiet_do {Q : Act → Prop} {a : Act} {o : Oper} {rest : List Oper} (hw : Region.wanted o (yielded ops a.tmps) = true) (v : Value) (hv : ∀ w, C w → o.quietAt P a C w v) (h : wpQuiet P ops C Q rest (a.put o.dst v)) : wpQuiet P ops C Q (o :: rest) a := by
  show if Region.wanted o (yielded ops a.tmps) = true then o.quiet P a C (wpQuiet P ops C Q rest) else wpQuiet P ops C Q rest (a.put o.dst undef)
  rw [if_pos hw]
  exact ⟨v, hv, h⟩
theorem quiet_no {Q : Act → Prop} {a : Act} {o : Oper} {rest : List Oper} (hw : Region.wanted o (yielded ops a.tmps) = false) (h : wpQuiet P ops C Q rest (a.put o.dst undef)) : wpQuiet P ops C Q (o :: rest) a := by
  show if Region.wanted o (yielded ops a.tmps) = true then o.quiet P a C (wpQuiet P ops C Q rest) else wpQuiet P ops C Q rest (a.put o.dst undef)
  rw [hw]
  exact h
theorem quietAt_ok {o : Oper} {a : Act} {w : World} {v : Value} (h : (execOp a.eval o).run P w = .ok (.value v) w) : o.quietAt P a C w v := by
  unfold Oper.quietAt
  rw [h]
  exact ⟨rfl, rfl⟩
theorem quietAt_call {o : Oper} {a : Act} {w : World} {v : Value} {f : FuncId} {args : Array Value} (h : (execOp a.eval o).run P w = .ok (.enter f args) w) (hc : Calls P f args w fun e w' => e = .returned v ∧ C w') : o.quietAt P a C w v := by
  unfold Oper.quietAt
  rw [h]
  exact ⟨rfl, hc⟩
end

end Go.Proofs.YtnjjjkhhoaadfabGreatDoor
