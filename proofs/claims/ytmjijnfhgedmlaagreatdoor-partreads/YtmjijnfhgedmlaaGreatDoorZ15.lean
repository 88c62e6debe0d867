import Derived.Test.YtmjijnfhgedmlaaGreatDoorZV4
import Derived.Test.YtmjijnfhgedmlaaGreatDoorZ1
import Derived.Deep.Quiet
import Derived.Deep.QuietTactic
namespace Go.Proofs.YtmjijnfhgedmlaaGreatDoor
open Go.RowKit

def RRTPost (O : Except Nat PT) (B : Nat) (e : Ending) (w' : World) : Prop :=
  match O with
  | .error c => e = .returned (.tuple #[zeroP, .int .i64 c])
  | .ok p => ∃ v : P4, e = .returned (.tuple #[v.v, .int .i64 0]) ∧ PV w' (fun i => B ≤ i) 4 v p
theorem readTop_err (s : List UInt8) (c : Nat) (h : readTop s = .error c) : 1 ≤ c := by
  unfold readTop at h
  split at h
  · cases h; decide
  · cases h1 : readU 4 0 s with
    | error c1 => rw [h1] at h; cases h; exact (readU_err _ _ _ _ h1).1
    | ok q => rw [h1] at h; cases h

set_option maxHeartbeats 2000000 in
set_option maxRecDepth 100000 in
theorem rReadTop_any (s : ByteArray) (w : World) (hs : s.size ≤ 3000 ∨ (20000 < s.size ∧ s.size ≤ 1000000)) (hG : Max w) :
    Calls Tryz.prog 15 #[.string s] w fun e w' => RRTPost (readTop s.data.toList) w.heap.size e w' ∧ Below w.heap.size w w' := by
  by_cases h2 : 20000 < s.size
  · have e : readTop s.data.toList = .error 4 := by unfold readTop; rw [size_list, if_pos h2]
    rw [e]
    have hs1 : s.size ≤ 1000000 := by omega
    have hb0 := below_oneP w zeroO
    obtain ⟨x0, x1, x2, x3, xf⟩ := b4_of (heap_oneP w zeroO)
    clear hG e hs
    go_enter Tryz.func15, Tryz.ntmps15
    go_wp2
    refine bodyPost_ret (v := .tuple #[zeroP, .int .i64 4]) (by simp [results, Tryz.results15, go_sem, x0, x1, x2, x3]) rfl ⟨rfl, ?_⟩
    exact hb0
  · have hs1 : s.size ≤ 3000 := by omega
    have hb0 := below_oneP w zeroO
    have hb1 := (below_oneP (w.alloc zeroO) (.cells #[.int .i64 0] 3))
    have hC : CI ((w.alloc zeroO).alloc (.cells #[.int .i64 0] 3)) (w.heap.size + 1) 0 := by
      have hh := heap_oneP (w.alloc zeroO) (.cells #[.int .i64 0] 3)
      rw [size_oneP] at hh
      exact ci_of hh
    have HC := Box.mk hC
    have hgb := hG.1
    have HG := Box.mk ((hG.below hb0 hgb).below hb1 (by simp; omega))
    have hk0 : ((w.alloc zeroO).alloc (.cells #[.int .i64 0] 3)).heap[w.heap.size]? = some zeroO := (Below.heap_alloc (w.alloc zeroO) _ w.heap.size (by simp)).trans (heap_oneP w zeroO)
    obtain ⟨O, HO⟩ : ∃ O, Box (O = readTop s.data.toList) := ⟨_, ⟨rfl⟩⟩
    rw [← HO.out]
    have HO1 : Box (O = match readU 4 0 s.data.toList with | .error c => .error c | .ok q => .ok q.1) := ⟨by rw [HO.out]; unfold readTop; rw [size_list, if_neg h2]; rfl⟩
    clear hC hG HO hs
    go_enter Tryz.func15, Tryz.ntmps15
    go_wp2_with fail
    refine (rread_all 4 s 0 (w.heap.size + 1) 0 _ (by omega) (by omega) (by omega) HC.out HG.out (by omega)).mono ?_
    rintro e w1 ⟨hR, hg1⟩
    have hsz1 := hg1.size
    have hbb : Below w.heap.size w w1 := hb0.trans ((hb1.mono (by simp)).trans (below_gr hg1 (by omega) (by simp)))
    have hl1 : w.heap.size < w1.heap.size := by simp at hsz1; omega
    have hk1 := (hg1.block w.heap.size (by simp; omega) (by simp)).trans hk0
    obtain ⟨x0, x1, x2, x3, xf⟩ := b4_of hk1
    clear HC HG hk0 hb1
    unfold RrPost at hR
    cases hq : readU 4 0 s.data.toList with
    | error c =>
      rw [hq] at hR
      obtain ⟨A1, n1, c1, b1, m1, A2, n2, c2, rfl⟩ := hR
      have hc1 := (readU_err _ _ _ _ hq).1
      have HO2 : Box (O = .error c) := ⟨by rw [HO1.out, hq]⟩
      clear HO1 hq hg1
      go_wp2
      refine ret_at ?_
      intro Wf hWf
      have hk : Wf.heap[w.heap.size]? = some (obj4 (.slice none 0 0) (.string ⟨#[]⟩) (.bool false) (.slice none 0 0)) ∧ Below w.heap.size w Wf := by
        rw [hWf]
        refine ⟨(Below.heap_alloc _ _ _ (by simp; omega)).trans (set4_heap _ _ _ _ _ _ _ _ _ _ hk1), Below.alloc ?_ (by simp; omega) _⟩
        iterate 4 (refine Below.setCell ?_ (by simp) _)
        exact hbb
      clear hWf x0 x1 x2 x3 xf
      obtain ⟨x0, x1, x2, x3, xf⟩ := b4_of hk.1
      exact bodyPost_ret (v := .tuple #[zeroP, .int .i64 c]) (by simp [results, Tryz.results15, go_sem, x0, x1, x2, x3]) rfl ⟨by rw [HO2.out]; rfl, hk.2⟩
    | ok q =>
      rw [hq] at hR
      obtain ⟨p4, rfl, hPV, _⟩ := hR
      have HO2 : Box (O = .ok q.1) := ⟨by rw [HO1.out, hq]⟩
      obtain ⟨A1, n1, c1, bb, mm, A2, n2, c2, rfl⟩ := hPV.shape
      have HPV : Box (PV w1 (fun i => w.heap.size < i) 4 (.slice A1 n1 c1, .string bb, .bool mm, .slice A2 n2 c2) q.1) := ⟨PV.mono (fun i _ hi => by
        have : ((w.alloc zeroO).alloc (.cells #[.int .i64 0] 3)).heap.size ≤ i := hi
        simp at this
        show w.heap.size < i
        omega) _ _ _ hPV⟩
      clear HO1 hq hPV hg1
      unfold P4.v
      go_wp2
      refine ret_at ?_
      intro Wf hWf
      have hk : Wf.heap[w.heap.size]? = some (obj4 (.slice A1 n1 c1) (.string bb) (.bool mm) (.slice A2 n2 c2)) ∧ Below w.heap.size w Wf ∧ PV Wf (fun i => w.heap.size < i) 4 (.slice A1 n1 c1, .string bb, .bool mm, .slice A2 n2 c2) q.1 := by
        rw [hWf]
        refine ⟨(Below.heap_alloc _ _ _ (by simp; omega)).trans (set4_heap _ _ _ _ _ _ _ _ _ _ hk1), Below.alloc ?_ (by simp; omega) _, PV.abv (abv_gr (r := some w.heap.size) (gr_alloc (gr_set4 _ _ _ _ _ _) _) (fun i hi e => by simp at e; omega)) _ _ _ HPV.out⟩
        iterate 4 (refine Below.setCell ?_ (by simp) _)
        exact hbb
      clear hWf x0 x1 x2 x3 xf
      obtain ⟨x0, x1, x2, x3, xf⟩ := b4_of hk.1
      exact bodyPost_ret (v := .tuple #[.agg #[.slice A1 n1 c1, .string bb, .bool mm, .slice A2 n2 c2], .int .i64 0]) (by simp [results, Tryz.results15, go_sem, x0, x1, x2, x3]) rfl ⟨by rw [HO2.out]; exact ⟨_, rfl, PV.mono (fun i _ hi => Nat.le_of_lt hi) _ _ _ hk.2.2⟩, hk.2.1⟩

end Go.Proofs.YtmjijnfhgedmlaaGreatDoor

namespace Go.Proofs.YtmjijnfhgedmlaaGreatDoor
open Go.RowKit

/- A region that draws its order, whose first n operations are quiet in a class of worlds, and whose others wait for all of these: one walk of the text's order for the first ones, then the others in every world of the class. -/
section
variable {P : Program} {ops : Array Oper} {md : Region.Mode} {C : World → Prop} {n : Nat}

def wpPre (P : Program) (md : Region.Mode) (ops : Array Oper) (C : World → Prop) (n : Nat) (T : Array Bool → Act → Prop) : Nat → Array Bool → Act → Prop
  | 0, listed, a => (∀ j ∈ Region.ready md ops listed, n ≤ j) ∧ T listed a
  | fuel + 1, listed, a => Region.ready md ops listed ≠ [] ∧ ∀ i ∈ Region.ready md ops listed, qOp P ops C i (wpPre P md ops C n T fuel (listed.setIfInBounds i true)) a

/-- Each later operation waits for each of the first n. -/
def waitsB (md : Region.Mode) (ops : Array Oper) (n : Nat) : Bool := (List.range ops.size).all fun j => decide (j < n) || (List.range n).all fun i => match ops[j]? with
  | some o => o.after.any fun e => Region.binds md e && e.on == i
  | none => true
theorem waitsB_spec (h : waitsB md ops n = true) {j i : Nat} {o : Oper} (hj : n ≤ j) (ho : ops[j]? = some o) (hi : i < n) : ∃ e ∈ o.after, Region.binds md e = true ∧ e.on = i := by
  have h1 := List.all_eq_true.1 h j (List.mem_range.2 (Array.getElem?_eq_some_iff.1 ho).1)
  rw [decide_eq_false (by omega), Bool.false_or] at h1
  have h2 := List.all_eq_true.1 h1 i (List.mem_range.2 hi)
  simp only [ho] at h2
  obtain ⟨e, he, hb⟩ := Array.any_eq_true'.1 h2
  simp only [Bool.and_eq_true, beq_iff_eq] at hb
  exact ⟨e, he, hb.1, hb.2⟩

theorem wpPre_any {T : Array Bool → Act → Prop} {Q : Exit → Act → World → Prop} {f : Nat} (hT : ∀ listed a, T listed a → ∀ w, C w → wpAny P md ops Q f listed a w) :
    ∀ (fuel : Nat) (listed : Array Bool) (a : Act) (w : World), C w → wpPre P md ops C n T fuel listed a → wpAny P md ops Q (f + fuel) listed a w
  | 0, _, _, _, hw, h => hT _ _ h.2 _ hw
  | fuel + 1, _, _, _, hw, h => ⟨fun h0 => absurd h0 h.1, fun i hi => wpOp_of_qOp hw (fun a' w' hw' h' => wpPre_any hT fuel _ a' w' hw' h') (h.2 i hi)⟩

/-- An operation of the first n that may come up now may be taken first. -/
theorem wpPre_first {T : Array Bool → Act → Prop} (hws : waitsB md ops n = true) {i : Nat} {oi : Oper} {v : Value} (hin : i < n) (hi : ops[i]? = some oi) (hsel : ∀ (j : Nat) (o : Oper) cs b, ops[j]? = some o → o.op ≠ .select cs b) :
    ∀ (fuel : Nat) (listed : Array Bool) (a : Act),
      (∀ j oj, ops[j]? = some oj → j ≠ i → listed.getD j true = false → (∀ e ∈ oj.after, Region.binds md e = true → e.on ≠ i) → oi.apart ops oj = true) →
      i ∈ Region.ready md ops listed → YieldsIn P ops C oi v a →
      wpPre P md ops C n T fuel (listed.setIfInBounds i true) (a.put oi.dst v) → wpPre P md ops C n T (fuel + 1) listed a := by
  intro fuel
  induction fuel with
  | zero =>
    intro listed a _ hr hy H
    refine ⟨fun h => by (rw [h] at hr; cases hr), fun j hj => ?_⟩
    by_cases hji : j = i
    · subst hji; exact hy.qOp hi H
    · exfalso
      have hn := H.1 j (ready_mono hj hji)
      obtain ⟨_, oj, hoj, hall⟩ := mem_ready.1 hj
      obtain ⟨e, he, hb, hon⟩ := waitsB_spec hws hn hoj hin
      have h1 := hall e he hb
      have h0 := (mem_ready.1 hr).1
      rw [hon] at h1
      rcases Nat.lt_or_ge i listed.size with h' | h'
      · simp [h'] at h0 h1; rw [h0] at h1; cases h1
      · simp [Array.getElem?_eq_none h'] at h1
  | succ fuel ih =>
    intro listed a hfree hr hy H
    refine ⟨fun h => by (rw [h] at hr; cases hr), fun j hj => ?_⟩
    by_cases hji : j = i
    · subst hji; exact hy.qOp hi H
    · have h1 := H.2 j (ready_mono hj hji)
      obtain ⟨hjun, oj, hoj, hall⟩ := mem_ready.1 hj
      have hnot : ∀ e ∈ oj.after, Region.binds md e = true → e.on ≠ i := by
        intro e he hb heq
        have h1 := hall e he hb
        have h0 := (mem_ready.1 hr).1
        rw [heq] at h1
        rcases Nat.lt_or_ge i listed.size with h' | h'
        · simp [h'] at h0 h1; rw [h0] at h1; cases h1
        · simp [Array.getElem?_eq_none h'] at h1
      have h2 := qOp_put hoj (hfree j oj hoj hji hjun hnot) (fun cs b => hsel i oi cs b hi) (fun cs b => hsel j oj cs b hoj) hy h1
      refine qOp_mono (fun a' h3 => ih (listed.setIfInBounds j true) a' ?_ (ready_mono hr (Ne.symm hji)) h3.1 ?_) h2
      · intro k ok hk hki hun hno
        refine hfree k ok hk hki ?_ hno
        by_cases hjk : j = k
        · subst hjk; exact hjun
        · rw [getD_set_ne true hjk] at hun; exact hun
      · rw [Array.setIfInBounds_comm _ _ hji]
        exact h3.2

/-- The first ones may come up in the text's order; behind them only later ones. -/
def lexN (md : Region.Mode) (ops : Array Oper) (n : Nat) : Nat → Nat → Array Bool → Bool
  | 0, _, listed => (Region.ready md ops listed).all fun j => decide (n ≤ j)
  | fuel + 1, k, listed => decide (k < n) && (Region.ready md ops listed).contains k && Region.free md ops listed k && lexN md ops n fuel (k + 1) (listed.setIfInBounds k true)
/-- Which are listed behind them. -/
def listN : Nat → Nat → Array Bool → Array Bool
  | 0, _, listed => listed
  | fuel + 1, k, listed => listN fuel (k + 1) (listed.setIfInBounds k true)

theorem wpPre_lex {T : Act → Prop} (hws : waitsB md ops n = true) (hs : Region.noSelect ops = true) (L : Array Bool) : ∀ (l : List Oper) (k : Nat) (listed : Array Bool) (a : Act), (∀ j, j < l.length → l[j]? = ops[k + j]?) →
    lexN md ops n l.length k listed = true → listN l.length k listed = L → wpQuiet P ops C T l a → wpPre P md ops C n (fun s a => s = L ∧ T a) l.length listed a
  | [], _, listed, _, _, hB, hL, h => ⟨fun j hj => by simpa using List.all_eq_true.1 hB j hj, hL, h⟩
  | o :: l, k, listed, a, hl, hB, hL, h => by
    have h0 : ops[k]? = some o := by simpa using (hl 0 (by simp)).symm
    simp only [List.length_cons, lexN, Bool.and_eq_true, decide_eq_true_eq] at hB
    obtain ⟨⟨⟨hk, hr⟩, hf⟩, hB'⟩ := hB
    have hst : qOp P ops C k (wpQuiet P ops C T l) a := by unfold qOp; simp only [h0]; exact h
    obtain ⟨v, hy, hK⟩ := yieldsIn_of_qOp h0 hst
    refine wpPre_first hws hk h0 (Region.noSelect_spec hs) l.length listed a (Region.free_spec h0 hf) (by simpa using hr) hy (wpPre_lex hws hs L l (k + 1) _ _ (fun j hj => ?_) hB' hL hK)
    have := hl (j + 1) (by simpa using hj)
    simpa [Nat.add_assoc, Nat.add_comm 1 j] using this

theorem wp_region_pre {id : Nat} {Q : Exit → Act → World → Prop} {a : Act} {w : World} (n f : Nat) (L : Array Bool) (hm : P.follows .mixedOrders = true) (hs : Region.noSelect ops = true) (hws : waitsB .any ops n = true) (hn : ops.size = f + n) (hlen : (ops.toList.take n).length = n)
    (hB : lexN .any ops n n 0 (Array.replicate ops.size false) = true) (hL : listN n 0 (Array.replicate ops.size false) = L) (hC : C { w with drawn := w.drawn + 1 })
    (h : wpQuiet P ops C (fun a' => ∀ w', C w' → wpAny P .any ops Q f L a' w') (ops.toList.take n) a) : (Code.region id ops true).wp P Q a w := by
  refine wp_region_any hm ?_
  have key := wpPre_lex (T := fun a' => ∀ w', C w' → wpAny P .any ops Q f L a' w') hws hs L (ops.toList.take n) 0 (Array.replicate ops.size false) a (fun j hj => ?_) (by rw [hlen]; exact hB) (by rw [hlen]; exact hL) h
  · rw [hlen] at key
    have := wpPre_any (n := n) (Q := Q) (f := f) (T := fun s a => s = L ∧ ∀ w', C w' → wpAny P .any ops Q f L a w') (fun s a hT w hw => by rw [hT.1]; exact hT.2 w hw) n _ a _ hC key
    rw [← hn] at this
    exact this
  · rw [hlen] at hj
    simp [hj]

/-- One operation that must come next. -/
theorem wpAny_next {Q : Exit → Act → World → Prop} {fuel : Nat} {listed : Array Bool} {a : Act} {w : World} (k : Nat) (o : Oper) (hr : Region.ready md ops listed = [k]) (ho : ops[k]? = some o) (hgd : o.guard = none)
    (h : o.wp P a w (wpAny P md ops Q fuel (listed.setIfInBounds k true)) Q) : wpAny P md ops Q (fuel + 1) listed a w := by
  refine wpAny_all hr (by simp) fun i hi => ?_
  rw [List.mem_singleton.1 hi]
  unfold wpOp
  simp only [ho]
  have hw : Region.wanted o (yielded ops a.tmps) = true := by simp [Region.wanted, hgd]
  rw [if_pos hw]
  exact .inl h

/- Steps of the walk in the text's order. -/
theorem quiet_do {Q : Act → Prop} {a : Act} {o : Oper} {rest : List Oper} (hw : Region.wanted o (yielded ops a.tmps) = true) (v : Value) (hv : ∀ w, C w → o.quietAt P a C w v) (h : wpQuiet P ops C Q rest (a.put o.dst v)) : wpQuiet P ops C Q (o :: rest) a := by
  show if Region.wanted o (yielded ops a.tmps) = true then o.quiet P a C (wpQuiet P ops C Q rest) else wpQuiet P ops C Q rest (a.put o.dst undef)
  rw [if_pos hw]
  exact ⟨v, hv, h⟩
theorem quiet_no {Q : Act → Prop} {a : Act} {o : Oper} {rest : List Oper} (hw : Region.wanted o (yielded ops a.tmps) = false) (h : wpQuiet P ops C Q rest (a.put o.dst undef)) : wpQuiet P ops C Q (o :: rest) a := by
  show if Region.wanted o (yielded ops a.tmps) = true then o.quiet P a C (wpQuiet P ops C Q rest) else wpQuiet P ops C Q rest (a.put o.dst undef)
  rw [hw]
  exact h
theorem quietAt_ok {o : Oper} {a : Act} {w : World} {v : Value} (h : (execOp a.eval o).run P w = .ok (.value v) w) : o.quietAt P a C w v := by
  unfold Oper.quietAt
  rw [h]
  exact ⟨rfl, rfl⟩
theorem quietAt_call {o : Oper} {a : Act} {w : World} {v : Value} {f : FuncId} {args : Array Value} (h : (execOp a.eval o).run P w = .ok (.enter f args) w) (hc : Calls P f args w fun e w' => e = .returned v ∧ C w') : o.quietAt P a C w v := by
  unfold Oper.quietAt
  rw [h]
  exact ⟨rfl, hc⟩
end

end Go.Proofs.YtmjijnfhgedmlaaGreatDoor

namespace Go.Proofs.YtmjijnfhgedmlaaGreatDoor
open Go.RowKit

/- Parts that are the same. -/
theorem heap_twoP (w : World) (A B : Obj) : ((w.alloc A).alloc B).heap[w.heap.size]? = some A ∧ ((w.alloc A).alloc B).heap[w.heap.size + 1]? = some B := by
  refine ⟨?_, ?_⟩
  · show (((w.heap.push A).push B))[w.heap.size]? = _
    rw [Array.getElem?_push, if_neg (by simp), Array.getElem?_push, if_pos rfl]
  · show (((w.heap.push A).push B))[w.heap.size + 1]? = _
    rw [Array.getElem?_push, if_pos (by simp)]
/-- The worlds that hold what W holds. -/
def InP (W w' : World) : Prop := Below W.heap.size W w'
theorem InP.step {W w1 w2 : World} (h : InP W w1) (hb : Below w1.heap.size w1 w2) : InP W w2 := Below.trans h (hb.mono (Below.size h))
theorem InP.draw (W : World) : InP W { W with drawn := W.drawn + 1 } := (Below.refl W.heap.size W).drew
theorem InP.blk {W w' : World} (h : InP W w') {b : Nat} {o : Obj} (ho : W.heap[b]? = some o) : w'.heap[b]? = some o := (Below.block h b (Array.getElem?_eq_some_iff.1 ho).1).trans ho
theorem InP.cell {W w' : World} (h : InP W w') {p : Addr} {v : Value} (ho : W.cell? p = some v) : w'.cell? p = some v := (Below.cell h (p := p) (World.block_lt_of_cell? W _ ho)).trans ho
def SameAt (d : Nat) : Prop := ∀ (u v : P4) (p : PT) (S T : Nat → Prop) (w : World), PV w S d u p → PV w T d v p → Calls Tryz.prog 17 #[u.v, v.v] w fun e w' => e = .returned (.bool true) ∧ Below w.heap.size w w'

set_option maxHeartbeats 4000000 in
set_option maxRecDepth 100000 in
theorem same_step (d : Nat) (ih : SameAt d) : SameAt (d + 1) := by
  intro u v p S T w hu hv
  obtain ⟨L, b, many, ps⟩ := p
  obtain ⟨A1, c1, bb, lh, h1, h2, h3, h4, h5, h6, h7, h9, h10, h11⟩ := hu
  obtain ⟨A2, c2, bb', lh', k1, k2, k3, k4, k5, k6, k7, k9, k10, k11⟩ := hv
  obtain ⟨u0, u1, u2, u3⟩ := u
  obtain ⟨v0, v1, v2, v3⟩ := v
  simp only at h1 h2 h3 k1 k2 k3 h4 k4
  obtain rfl : bb = bb' := bytes_eq (h7.trans k7.symm)
  obtain rfl : lh = lh' := fl2_inj (h5.trans k5.symm)
  subst h1 h2 h3 k1 k2 k3
  obtain ⟨B1, d1, hh1, e1, f1⟩ := h4.fl
  obtain ⟨B2, d2, hh2, e2, f2⟩ := k4.fl
  subst hh1 hh2
  have hb0 := below_two w (obj4 (.slice B1 lh.length d1) (.string bb) (.bool many) (.slice A1 ps.length c1)) (obj4 (.slice B2 lh.length d2) (.string bb) (.bool many) (.slice A2 ps.length c2))
  have hk := heap_twoP w (obj4 (.slice B1 lh.length d1) (.string bb) (.bool many) (.slice A1 ps.length c1)) (obj4 (.slice B2 lh.length d2) (.string bb) (.bool many) (.slice A2 ps.length c2))
  have HK := Box.mk hk
  have HP1 := Box.mk h11
  have HP2 := Box.mk k11
  have HF1 := Box.mk f1
  have HF2 := Box.mk f2
  have HT := Box.mk h6.tiny
  have hll := h6.1
  have IH := Box.mk ih
  clear h11 k11 f1 f2 h4 k4 h5 k5 h6 k6 h7 k7 hk ih
  unfold P4.v
  simp only
  obtain ⟨W, HW⟩ : ∃ W, Box (W = (w.alloc (obj4 (.slice B1 lh.length d1) (.string bb) (.bool many) (.slice A1 ps.length c1))).alloc (obj4 (.slice B2 lh.length d2) (.string bb) (.bool many) (.slice A2 ps.length c2))) := ⟨_, ⟨rfl⟩⟩
  have hb0W : Below w.heap.size w W := by rw [HW.out]; exact hb0
  have hszW : w.heap.size + 2 ≤ W.heap.size := by rw [HW.out]; simp
  rw [← HW.out] at HK
  clear hb0
  go_enter Tryz.func17, Tryz.ntmps17
  go_wp2
  rw [← HW.out]
  go_loopw [40] (fun i wr => ∃ k : Nat, k ≤ lh.length ∧ i = .int .i64 k ∧ Below W.heap.size W wr) (fun i _ => lh.length - (intOf i).toNat)
  case atStart => exact ⟨0, Nat.zero_le _, rfl, Below.refl _ _⟩
  case round =>
    obtain ⟨k, hk, rfl, hb⟩ := hrel
    by_cases hlt : k < lh.length
    · have hbw := hb0W.trans (hb.mono (by omega))
      obtain ⟨b1, o1, n, v, rfl, HN, hn, hv, hbl, d0, d1'⟩ := HF1.out.elem HT.out hbw k hlt
      obtain ⟨b2, o2, n2, v2, rfl, HN2, _, _, hbl2, d2', d3⟩ := HF2.out.elem HT.out hbw k hlt
      have hnv : n = n2 ∧ v = v2 := by
        have := HN.out.symm.trans HN2.out
        simpa using this
      obtain ⟨rfl, rfl⟩ := hnv
      obtain ⟨x0, x1, x2, x3, xf⟩ := b4_of ((hb.block w.heap.size (by omega)).trans HK.out.1)
      obtain ⟨y0, y1, y2, y3, yf⟩ := b4_of ((hb.block (w.heap.size + 1) (by omega)).trans HK.out.2)
      clear HF1 HF2 HT HN HN2 HP1 HP2 IH HK
      go_wp2
      go_region
      go_wp2
      go_roundw
      case rel => exact ⟨k + 1, by omega, by go_num, hb.drew⟩
      case measure => simp [intOf]; omega
    · obtain ⟨x0, x1, x2, x3, xf⟩ := b4_of ((hb.block w.heap.size (by omega)).trans HK.out.1)
      clear HF1 HF2 HT
      go_wp2
      go_loopw [58] (fun i wr => ∃ k : Nat, k ≤ ps.length ∧ i = .int .i64 k ∧ Below W.heap.size W wr) (fun i _ => ps.length - (intOf i).toNat)
      case atStart => exact ⟨0, Nat.zero_le _, rfl, hb⟩
      case round =>
        obtain ⟨k, hk, rfl, hb⟩ := hrel
        have hsz := hb.size
        by_cases hlt : k < ps.length
        · have hbw := hb0W.trans (hb.mono (by omega))
          obtain ⟨q1, ⟨b1, o1, rfl, _, r0, r1, r2, r3⟩, hv1⟩ := HP1.out k hlt
          obtain ⟨q2, ⟨b2, o2, rfl, _, t0, t1, t2, t3⟩, hv2⟩ := HP2.out k hlt
          obtain ⟨E1, n1, g1, bb1, m1, E2, n2, g2, rfl⟩ := hv1.shape
          obtain ⟨E3, n3, g3, bb3, m3, E4, n4, g4, rfl⟩ := hv2.shape
          have HV1 := Box.mk hv1
          have HV2 := Box.mk hv2
          have hc1 := World.block_lt_of_cell? w _ r0
          have hc2 := World.block_lt_of_cell? w _ t0
          have hx := (hb.block w.heap.size (by omega)).trans HK.out.1
          have hy := (hb.block (w.heap.size + 1) (by omega)).trans HK.out.2
          have r0' := (hbw.cell (p := ⟨b1, o1 + k * 4, none⟩) hc1).trans r0
          have r1' := (hbw.cell (p := ⟨b1, o1 + k * 4 + 1, none⟩) hc1).trans r1
          have r2' := (hbw.cell (p := ⟨b1, o1 + k * 4 + 2, none⟩) hc1).trans r2
          have r3' := (hbw.cell (p := ⟨b1, o1 + k * 4 + 3, none⟩) hc1).trans r3
          have t0' := (hbw.cell (p := ⟨b2, o2 + k * 4, none⟩) hc2).trans t0
          have t1' := (hbw.cell (p := ⟨b2, o2 + k * 4 + 1, none⟩) hc2).trans t1
          have t2' := (hbw.cell (p := ⟨b2, o2 + k * 4 + 2, none⟩) hc2).trans t2
          have t3' := (hbw.cell (p := ⟨b2, o2 + k * 4 + 3, none⟩) hc2).trans t3
          clear HP1 HP2 hv1 hv2 r0 r1 r2 r3 t0 t1 t2 t3
          simp only at r0' r1' r2' r3' t0' t1' t2' t3'
          go_wp2
          refine wp_region_quiet (C := InP wr) (by kernel_rfl) (by kernel_rfl) (InP.draw _) ?_
          refine quiet_do rfl (.pointer (some ⟨w.heap.size, 3, none⟩)) (fun w' hw' => quietAt_ok (by go_simp)) ?_
          go_simp
          refine quiet_do rfl (.slice (some ⟨b1, o1, none⟩) ps.length c1) (fun w' hw' => quietAt_ok (by obtain ⟨z0, z1, z2, z3, zf⟩ := b4_of (InP.blk hw' hx); go_simp)) ?_
          go_simp
          refine quiet_do rfl (.int .i64 k) (fun w' hw' => quietAt_ok (by go_simp)) ?_
          go_simp
          refine quiet_do rfl (.pointer (some ⟨b1, o1 + k * 4, none⟩)) (fun w' hw' => quietAt_ok (by go_simp)) ?_
          go_simp
          refine quiet_do rfl (.agg #[.slice E1 n1 g1, .string bb1, .bool m1, .slice E2 n2 g2]) (fun w' hw' => quietAt_ok (by have s0 := InP.cell hw' r0'; have s1 := InP.cell hw' r1'; have s2 := InP.cell hw' r2'; have s3 := InP.cell hw' r3'; go_simp)) ?_
          go_simp
          refine quiet_do rfl (.pointer (some ⟨w.heap.size + 1, 3, none⟩)) (fun w' hw' => quietAt_ok (by go_simp)) ?_
          go_simp
          refine quiet_do rfl (.slice (some ⟨b2, o2, none⟩) ps.length c2) (fun w' hw' => quietAt_ok (by obtain ⟨z0, z1, z2, z3, zf⟩ := b4_of (InP.blk hw' hy); go_simp)) ?_
          go_simp
          refine quiet_do rfl (.int .i64 k) (fun w' hw' => quietAt_ok (by go_simp)) ?_
          go_simp
          refine quiet_do rfl (.pointer (some ⟨b2, o2 + k * 4, none⟩)) (fun w' hw' => quietAt_ok (by go_simp)) ?_
          go_simp
          refine quiet_do rfl (.agg #[.slice E3 n3 g3, .string bb3, .bool m3, .slice E4 n4 g4]) (fun w' hw' => quietAt_ok (by have s0 := InP.cell hw' t0'; have s1 := InP.cell hw' t1'; have s2 := InP.cell hw' t2'; have s3 := InP.cell hw' t3'; go_simp)) ?_
          go_simp
          refine quiet_do rfl (.bool true) (fun w' hw' => quietAt_call (f := 17) (args := #[.agg #[.slice E1 n1 g1, .string bb1, .bool m1, .slice E2 n2 g2], .agg #[.slice E3 n3 g3, .string bb3, .bool m3, .slice E4 n4 g4]]) (by go_simp) ((IH.out (.slice E1 n1 g1, .string bb1, .bool m1, .slice E2 n2 g2) (.slice E3 n3 g3, .string bb3, .bool m3, .slice E4 n4 g4) _ S T w' (PV.abv (abv_below (hbw.trans (Below.mono hw' hbw.size))) _ _ _ HV1.out) (PV.abv (abv_below (hbw.trans (Below.mono hw' hbw.size))) _ _ _ HV2.out)).mono fun e w'' h => ⟨h.1, InP.step hw' h.2⟩)) ?_
          go_simp
          refine quiet_do rfl (.bool false) (fun w' hw' => quietAt_ok (by go_simp)) ?_
          go_simp
          refine wpQuiet_nil ?_
          intro w9 hw9
          have hb9 : Below W.heap.size W w9 := hb.trans (Below.mono hw9 hsz)
          clear hw9 hx hy r0' r1' r2' r3' t0' t1' t2' t3' HV1 HV2
          go_wp2
          go_roundw
          case rel => exact ⟨k + 1, by omega, by go_num, hb9⟩
          case measure => simp [intOf]; omega
        · clear HP1 HP2 IH
          go_wp2
          go_ret
          exact ⟨rfl, hb0W.trans (hb.mono (by omega))⟩

theorem same_all : ∀ d, SameAt d
  | 0 => fun _ _ _ _ _ _ h _ => h.elim
  | d + 1 => same_step d (same_all d)

end Go.Proofs.YtmjijnfhgedmlaaGreatDoor

namespace Go.Proofs.YtmjijnfhgedmlaaGreatDoor
open Go.RowKit

/- PartReads. -/
theorem pv_zero (w : World) (S : Nat → Prop) : PV w S 1 (.slice none 0 0, .string ⟨#[]⟩, .bool false, .slice none 0 0) (.mk [] [] false []) :=
  ⟨none, 0, ⟨#[]⟩, [], rfl, rfl, rfl, ⟨none, 0, rfl, Nat.le_refl _, fun k hk => absurd hk (by simp)⟩, rfl, ⟨by simp, fun f hf => absurd hf (by simp)⟩, rfl, Nat.le_refl _, by simp, fun k hk => absurd hk (by simp)⟩

set_option maxHeartbeats 2000000 in
set_option maxRecDepth 100000 in
theorem partReads_big (s : ByteArray) (w : World) (h : (2500 < s.size ∧ s.size ≤ 20000) ∨ 25000 < s.size) :
    Calls Tryz.prog 4 #[.string s] w fun e w' => e = .returned (.bool true) ∧ Below w.heap.size w w' := by
  rcases h with ⟨h1, h2⟩ | h1
  · go_enter Tryz.func4, Tryz.ntmps4
    go_wp2
    go_ret
    exact ⟨rfl, Below.refl _ _⟩
  · go_enter Tryz.func4, Tryz.ntmps4
    go_wp2
    go_ret
    exact ⟨rfl, Below.refl _ _⟩

set_option maxHeartbeats 2000000 in
set_option maxRecDepth 100000 in
theorem partReads_small (s : ByteArray) (w : World) (h : s.size ≤ 2500 ∨ (20000 < s.size ∧ s.size ≤ 25000)) (hG : Glob w) :
    Calls Tryz.prog 4 #[.string s] w fun e w' => e = .returned (.bool true) ∧ Below w.heap.size w w' := by
  have HG := Box.mk hG
  have hgb := hG.gb
  have h25 : s.size ≤ 25000 := by omega
  have hd : s.size ≤ 2500 ∨ 20000 < s.size := by omega
  have HS := Box.mk h
  clear hG h
  rcases hd with hd | hd
  all_goals
    go_enter Tryz.func4, Tryz.ntmps4
    go_wp2_with fail
    refine (rReadTop_any s _ (by rcases HS.out with h | h; exact .inl (by omega); exact .inr (by omega)) HG.out.mx).mono ?_
    rintro e w1 ⟨hR, hb1⟩
    unfold RRTPost at hR
    cases hq : readTop s.data.toList with
    | error c =>
      rw [hq] at hR
      obtain rfl := hR
      have HG1 := Box.mk ((HG.out.below hb1 hgb).below (below_oneP w1 zeroO) (hgb.mono hb1.size))
      have hb01 := hb1.trans ((below_oneP w1 zeroO).mono hb1.size)
      have HQ := Box.mk hq
      clear HG hq
      go_wp2_with fail
      refine (pReadTop_any s _ (by omega) HG1.out).mono ?_
      rintro e w2 ⟨hP, hb2⟩
      unfold RTPost at hP
      rw [HQ.out] at hP
      obtain rfl := hP
      have hsz2 := hb2.size
      have hsz1 := hb1.size
      rw [size_oneP] at hsz2
      have hb02 := hb01.trans (hb2.mono (by rw [size_oneP]; omega))
      have hE2 := (HG1.out.et.below hb2 (by rw [size_oneP]; have := hgb.g2; omega)).below (below_oneP w2 zeroO) (by have := hgb.g2; omega)
      have hk3 : (w2.alloc zeroO).heap[w1.heap.size]? = some zeroO := (Below.heap_alloc w2 _ w1.heap.size (by omega)).trans ((hb2.block w1.heap.size (by simp)).trans (heap_oneP w1 zeroO))
      have hk5 : (w2.alloc zeroO).heap[w2.heap.size]? = some zeroO := heap_oneP w2 zeroO
      have hb03 := hb02.trans ((below_oneP w2 zeroO).mono (by omega))
      have HE2 := Box.mk hE2
      clear hE2 HG1 HQ
      go_wp2_with fail
      refine (bare_errno c _ HE2.out).mono ?_
      rintro e w3 ⟨rfl, hb3⟩
      obtain ⟨x0, x1, x2, x3, xf⟩ := b4_of ((hb3.block w1.heap.size (by simp; omega)).trans hk3)
      obtain ⟨y0, y1, y2, y3, yf⟩ := b4_of ((hb3.block w2.heap.size (by simp)).trans hk5)
      have hb04 := hb03.trans (hb3.mono (by simp; omega))
      clear hk3 hk5 HE2
      go_wp2_with fail
      refine (same_all 1 _ _ _ _ _ w3 (pv_zero w3 (fun _ => True)) (pv_zero w3 (fun _ => True))).mono ?_
      rintro e w4 ⟨rfl, hb4⟩
      go_wp2
      go_ret
      exact ⟨rfl, hb04.trans (hb4.mono hb04.size)⟩
    | ok p =>
      rw [hq] at hR
      obtain ⟨r4, rfl, hPV1⟩ := hR
      obtain ⟨A1, n1, c1, bb, mm, A2, n2, c2, rfl⟩ := hPV1.shape
      have HG1 := Box.mk ((HG.out.below hb1 hgb).below (below_oneP w1 (obj4 (.slice A1 n1 c1) (.string bb) (.bool mm) (.slice A2 n2 c2))) (hgb.mono hb1.size))
      have hb01 := hb1.trans ((below_oneP w1 (obj4 (.slice A1 n1 c1) (.string bb) (.bool mm) (.slice A2 n2 c2))).mono hb1.size)
      have HPV1 := Box.mk (PV.abv (abv_below (below_oneP w1 (obj4 (.slice A1 n1 c1) (.string bb) (.bool mm) (.slice A2 n2 c2)))) _ _ _ hPV1)
      have HQ := Box.mk hq
      clear HG hq hPV1
      unfold P4.v
      go_wp2_with fail
      refine (pReadTop_any s _ (by omega) HG1.out).mono ?_
      rintro e w2 ⟨hP, hb2⟩
      unfold RTPost at hP
      rw [HQ.out] at hP
      obtain ⟨q4, rfl, hPV2⟩ := hP
      obtain ⟨A3, n3, c3, bb3, mm3, A4, n4, c4, rfl⟩ := hPV2.shape
      have hsz2 := hb2.size
      have hsz1 := hb1.size
      rw [size_oneP] at hsz2
      have hb02 := hb01.trans (hb2.mono (by rw [size_oneP]; omega))
      have hk3 : (w2.alloc (obj4 (.slice A3 n3 c3) (.string bb3) (.bool mm3) (.slice A4 n4 c4))).heap[w1.heap.size]? = some (obj4 (.slice A1 n1 c1) (.string bb) (.bool mm) (.slice A2 n2 c2)) := (Below.heap_alloc w2 _ w1.heap.size (by omega)).trans ((hb2.block w1.heap.size (by simp)).trans (heap_oneP w1 _))
      have hk5 : (w2.alloc (obj4 (.slice A3 n3 c3) (.string bb3) (.bool mm3) (.slice A4 n4 c4))).heap[w2.heap.size]? = some (obj4 (.slice A3 n3 c3) (.string bb3) (.bool mm3) (.slice A4 n4 c4)) := heap_oneP w2 _
      have hbA := below_oneP w2 (obj4 (.slice A3 n3 c3) (.string bb3) (.bool mm3) (.slice A4 n4 c4))
      have hb03 := hb02.trans (hbA.mono (by omega))
      have HP1 := Box.mk (PV.abv (abv_below hbA) _ _ _ (PV.abv (abv_below hb2) _ _ _ HPV1.out))
      have HP2 := Box.mk (PV.abv (abv_below hbA) _ _ _ hPV2)
      clear HG1 HQ HPV1 hPV2 hbA
      unfold P4.v
      go_wp2_with fail
      refine (bare_nil _).mono ?_
      rintro e w3 ⟨rfl, hb3⟩
      obtain ⟨x0, x1, x2, x3, xf⟩ := b4_of ((hb3.block w1.heap.size (by simp; omega)).trans hk3)
      obtain ⟨y0, y1, y2, y3, yf⟩ := b4_of ((hb3.block w2.heap.size (by simp)).trans hk5)
      have hb04 := hb03.trans (hb3.mono (by simp; omega))
      clear hk3 hk5
      go_wp2_with fail
      refine (same_all 4 _ _ _ _ _ w3 (PV.abv (abv_below hb3) _ _ _ HP2.out) (PV.abv (abv_below hb3) _ _ _ HP1.out)).mono ?_
      rintro e w4 ⟨rfl, hb4⟩
      go_wp2
      go_ret
      exact ⟨rfl, hb04.trans (hb4.mono hb04.size)⟩

theorem partReads_any (s : ByteArray) (w : World) (hG : Glob w) :
    Calls Tryz.prog 4 #[.string s] w fun e w' => e = .returned (.bool true) ∧ Below w.heap.size w w' := by
  by_cases h : s.size ≤ 2500 ∨ (20000 < s.size ∧ s.size ≤ 25000)
  · exact partReads_small s w h hG
  · exact partReads_big s w (by omega)

end Go.Proofs.YtmjijnfhgedmlaaGreatDoor

