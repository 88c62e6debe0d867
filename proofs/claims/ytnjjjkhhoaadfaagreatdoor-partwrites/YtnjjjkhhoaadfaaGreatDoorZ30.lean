import Derived.Test.YtnjjjkhhoaadfaaGreatDoorZ29
import Derived.Test.YtnjjjkhhoaadfaaGreatDoorZV1
import Derived.Test.YtnjjjkhhoaadfaaGreatDoorZJX
import Derived.Test.YtnjjjkhhoaadfaaGreatDoorZH9
import Derived.Deep.RegionHeld3
namespace Go.Proofs.YtnjjjkhhoaadfaaGreatDoor
open Go.RowKit

/- Parts, written: the reference's, where it ends at once. -/
def RwPost (O : Except Nat (List UInt8 × Nat)) (bc : Nat) (e : Ending) (w' : World) : Prop :=
  match O with
  | .error c => e = .returned (.tuple #[.string ⟨#[]⟩, .int .i64 c])
  | .ok q => ∃ S : ByteArray, e = .returned (.tuple #[.string S, .int .i64 0]) ∧ S.data.toList = q.1 ∧ CI w' bc q.2
/-- The world behind 'box p; *begun++'. -/
abbrev rwW (w : World) (bc n : Nat) (o : Obj) : World := (w.setCell ⟨bc, 0, none⟩ (.int .i64 ((n : Int) + 1))).alloc o
theorem rwW_size (w : World) (bc n : Nat) (o : Obj) : (rwW w bc n o).heap.size = w.heap.size + 1 := by simp
theorem rwW_g (w : World) (bc n : Nat) (o : Obj) : w.grownBy (rwW w bc n o) (some bc) := gr_trans (gr_set _ _ _ _) (gr_below (below_oneP _ _) _)
theorem rwW_c {w : World} {bc n : Nat} (hc : CI w bc n) (o : Obj) : CI (rwW w bc n o) bc (n + 1) := CI.below (hc.set (n + 1)) (below_oneP _ _) (by have := hc.lt; simpa using this)
theorem rwW_k (w : World) (bc n : Nat) (o : Obj) : (rwW w bc n o).heap[w.heap.size]? = some o := by
  have := heap_oneP (w.setCell ⟨bc, 0, none⟩ (.int .i64 ((n : Int) + 1))) o
  rwa [show (w.setCell ⟨bc, 0, none⟩ (.int .i64 ((n : Int) + 1))).heap.size = w.heap.size by simp] at this

set_option maxHeartbeats 2000000 in
set_option maxRecDepth 100000 in
theorem rw_no (u : P4) (n bc k : Nat) (w : World) (hu : ∃ A n c bb m A2 n2 c2, u = (.slice A n c, .string bb, .bool m, .slice A2 n2 c2)) (hn : n ≤ 1000000) (hk : k ≤ 1000000) (hx : 40 ≤ n ∨ 4 ≤ k) (hc : CI w bc n) :
    Calls Tryz.prog 40 #[u.v, .int .i64 k, .pointer (some ⟨bc, 0, none⟩)] w fun e w' => RwPost (.error 4) bc e w' ∧ w.grownBy w' (some bc) := by
  obtain ⟨A, n1, c1, bb, m, A2, n2, c2, rfl⟩ := hu
  have hb0 := below_oneP w (obj4 (.slice A n1 c1) (.string bb) (.bool m) (.slice A2 n2 c2))
  obtain ⟨c, f, lt⟩ := hc.below hb0 hc.lt
  clear hc
  unfold P4.v
  by_cases h1 : 40 ≤ n
  · clear hx
    go_enter Tryz.func40, Tryz.ntmps40
    go_wp2
    go_ret2
    exact ⟨rfl, gr_below hb0 _⟩
  · have h2 : 4 ≤ k := by omega
    clear hx
    go_enter Tryz.func40, Tryz.ntmps40
    go_wp2
    go_ret2
    exact ⟨rfl, gr_below hb0 _⟩

set_option maxHeartbeats 4000000 in
set_option maxRecDepth 100000 in
theorem rw_bad (A : Option Addr) (n1 c1 : Nat) (bb : ByteArray) (m : Bool) (A2 : Option Addr) (n2 c2 : Nat) (lh : List Fl) (n bc k : Nat) (w : World) (S : Nat → Prop) (hS : ∀ i, S i → i ≠ bc) (hH : Half lh) (hF : FLB w S (.slice A n1 c1) lh) (hn2 : n2 ≤ 1000000) (h40 : ¬ 40 ≤ n) (hk : ¬ 4 ≤ k) (hc : CI w bc n) (hM : Max w) (hbm : 1 < bc) (hmay : mayU (lh.map fl2) bb.data.toList m n2 = false) :
    Calls Tryz.prog 40 #[.agg #[.slice A n1 c1, .string bb, .bool m, .slice A2 n2 c2], .int .i64 k, .pointer (some ⟨bc, 0, none⟩)] w fun e w' => RwPost (.error 1) bc e w' ∧ w.grownBy w' (some bc) := by
  have hbl := hc.lt
  obtain ⟨c0, f0, l0⟩ := hc.below (below_oneP w (obj4 (.slice A n1 c1) (.string bb) (.bool m) (.slice A2 n2 c2))) hc.lt
  obtain ⟨W, HW⟩ : ∃ W, Box (W = (w.setCell ⟨bc, 0, none⟩ (.int .i64 ((n : Int) + 1))).alloc (obj4 (.slice A n1 c1) (.string bb) (.bool m) (.slice A2 n2 c2))) := ⟨_, ⟨rfl⟩⟩
  have hgW : w.grownBy W (some bc) := by rw [HW.out]; exact rwW_g _ _ _ _
  have hszW : W.heap.size = w.heap.size + 1 := by rw [HW.out]; exact rwW_size _ _ _ _
  have HKW : Box (W.heap[w.heap.size]? = some (obj4 (.slice A n1 c1) (.string bb) (.bool m) (.slice A2 n2 c2))) := ⟨by rw [HW.out]; exact rwW_k _ _ _ _⟩
  have HMx := Box.mk (hM.below (below_gr hgW (Nat.le_refl _) hbl) hbm)
  have HF := Box.mk (FLB.fl (hF.abv (abv_gr hgW (fun i hi e => hS i hi (Option.some.inj e)))))
  have HH := Box.mk hH
  have HMy := Box.mk hmay
  clear hc hM hF hH hmay
  go_enter Tryz.func40, Tryz.ntmps40
  go_wp2_with fail
  rw [← HW.out]
  refine (rmanies_any _ lh _ HH.out HF.out HMx.out).mono ?_
  rintro e w1 ⟨hP, hb1⟩
  have hk1 := (hb1.block w.heap.size (by omega)).trans HKW.out
  obtain ⟨x0, x1, x2, x3, xf⟩ := b4_of hk1
  have HF1 := Box.mk (HF.out.bel hb1)
  have hg1 := gr_trans hgW (gr_below hb1 _)
  have hsz1 := hb1.size
  unfold MPostR at hP
  clear HF HKW HMx
  cases hms : maniesS (lh.map fl2) with
  | error c =>
    rw [hms] at hP
    obtain rfl := hP
    have hc3 : c = 3 := by
      unfold maniesS at hms
      repeat' split at hms
      all_goals first | (cases hms; rfl) | cases hms
    subst hc3
    go_wp2_with fail
    refine (rHead_any _ lh _ HH.out.tiny HF1.out).mono ?_
    rintro e w2 ⟨rfl, hb2⟩
    clear x0 x1 x2 x3 xf
    obtain ⟨x0, x1, x2, x3, xf⟩ := b4_of ((hb2.block w.heap.size (by omega)).trans hk1)
    have hg2 := gr_trans hg1 (gr_below hb2 _)
    clear HMy hms HF1 HH
    cases hd : decide (firstW lh = lh.length)
    · go_wp2
      go_ret2
      exact ⟨rfl, hg2⟩
    · go_wp2
      go_ret2
      exact ⟨rfl, hg2⟩
  | ok o =>
    rw [hms] at hP
    obtain ⟨bo, hbo⟩ : ∃ bo : ByteArray, e = .returned (.tuple #[.string bo, .bool o.isSome, .int .i64 0]) := by
      cases o with
      | none => exact ⟨_, hP⟩
      | some be => obtain ⟨be', h, _⟩ := hP; exact ⟨be', h⟩
    subst hbo
    go_wp2_with fail
    refine (rHead_any _ lh _ HH.out.tiny HF1.out).mono ?_
    rintro e w2 ⟨rfl, hb2⟩
    clear x0 x1 x2 x3 xf
    obtain ⟨x0, x1, x2, x3, xf⟩ := b4_of ((hb2.block w.heap.size (by omega)).trans hk1)
    have hg2 := gr_trans hg1 (gr_below hb2 _)
    have hmy := HMy.out
    unfold mayU at hmy
    rw [right_first, hms] at hmy
    simp only at hmy
    clear HMy hms HF1 HH hP
    obtain ⟨q, hq⟩ : ∃ q, q = o.isSome := ⟨_, rfl⟩
    rw [← hq] at hmy ⊢
    clear hq
    cases hd : decide (firstW lh = lh.length)
    · clear hmy
      go_wp2
      go_ret2
      exact ⟨rfl, hg2⟩
    · rw [hd] at hmy
      simp only [Bool.true_and] at hmy
      cases q <;> cases m
      · have hn0 : 0 < n2 := by
          have : (n2 == 0) = false := by simpa using hmy
          rw [beq_eq_false_iff_ne] at this
          omega
        clear hmy
        go_wp2
        go_ret2
        exact ⟨rfl, hg2⟩
      · clear hmy
        go_wp2
        go_ret2
        exact ⟨rfl, hg2⟩
      · clear hmy
        go_wp2
        go_ret2
        exact ⟨rfl, hg2⟩
      · have hne : ¬ bb.size = 0 := by
          intro h0
          have : bb.data.toList = [] := List.eq_nil_of_length_eq_zero (by rw [size_list]; exact h0)
          rw [this] at hmy
          simp at hmy
        have he := nonempty_of bb hne
        clear hmy
        go_wp2
        go_ret2
        exact ⟨rfl, hg2⟩

end Go.Proofs.YtnjjjkhhoaadfaaGreatDoor

namespace Go.Proofs.YtnjjjkhhoaadfaaGreatDoor
open Go.RowKit

/- Parts, written: the reference's, of many. -/
/-- What is asked of the reference's writer at a depth. -/
def RwAt (d : Nat) : Prop := ∀ (D : Nat) (p : PT) (v : P4) (n bc k : Nat) (w : World) (S : Nat → Prop), (∀ i, S i → i ≠ bc) → PV w S D v p → SmT D p → n ≤ 40 → k + d = 4 → CI w bc n → Max w → Tab w → 1 < bc → 6 < bc →
    Calls Tryz.prog 40 #[v.v, .int .i64 k, .pointer (some ⟨bc, 0, none⟩)] w fun e w' => RwPost (writeG bndS d n p) bc e w' ∧ w.grownBy w' (some bc)
def RmPost (O : Except Nat (List (List UInt8) × Nat)) (L : List PB) (bc : Nat) (e : Ending) (w' : World) : Prop :=
  match O with
  | .error c => e = .returned (.tuple #[.string ⟨#[]⟩, .int .i64 c])
  | .ok r => ∃ S : ByteArray, e = .returned (.tuple #[.string S, .int .i64 0]) ∧ S.data.toList = headW (setCT (bndS r.1) L) ++ piecesW (bndS r.1) r.1 ∧ CI w' bc r.2
theorem writeG_err (bn : List (List UInt8) → List UInt8) : ∀ (d n : Nat) (p : PT) (c : Nat), writeG bn d n p = .error c → c = 1 ∨ c = 4
  | 0, _, _, c, h => by cases h; exact .inr rfl
  | d + 1, n, .mk L b many ps, c, h => by
    unfold writeG at h
    have hall : ∀ (ps : List PT) (n : Nat), allG (writeG bn d) ps n = .error c → c = 1 ∨ c = 4 := by
      intro ps
      induction ps with
      | nil => intro n h; cases h
      | cons p ps ih =>
        intro n h
        unfold allG at h
        cases h1 : writeG bn d n p with
        | error c' => rw [h1] at h; cases h; exact writeG_err bn d n p c h1
        | ok q =>
          rw [h1] at h
          simp only at h
          cases h2 : allG (writeG bn d) ps q.2 with
          | error c' => rw [h2] at h; cases h; exact ih _ h2
          | ok r => rw [h2] at h; cases h
    split at h
    · cases h; exact .inr rfl
    · split at h
      · cases h; exact .inl rfl
      · split at h
        · cases h4 : allG (writeG bn d) ps (n + 1) with
          | error c' => rw [h4] at h; cases h; exact hall _ _ h4
          | ok r => rw [h4] at h; cases h
        · cases h
theorem stands_all (ss : List ByteArray) (n : Nat) (h : ss.all (fun x => !Lib.contains x.data.toList (lead (numB n))) = true) : standsIn (ss.map lst) n = false := by
  unfold standsIn
  rw [List.any_map, List.any_eq_false]
  intro x hx
  have := List.all_eq_true.1 h x hx
  simpa [lst] using this
theorem stands_one (ss : List ByteArray) (n : Nat) (x : ByteArray) (hx : x ∈ ss) (h : Lib.contains x.data.toList (lead (numB n)) = true) : standsIn (ss.map lst) n = true := by
  unfold standsIn
  rw [List.any_map, List.any_eq_true]
  exact ⟨x, hx, h⟩
theorem dropCons {α : Type} (L : List α) (j : Nat) (x : α) (h : L[j]? = some x) : L.drop j = x :: L.drop (j + 1) := drop_at L j x h
/-- What of a head is done. -/
def LI (E : List UInt8) (L : List PB) (j : Nat) (nm : Bool) (ls : List PB) : Prop :=
  setCT E L = ls ++ (if nm then stripH (L.drop j) else setCT E (L.drop j)) ∧ (nm = false → getB (L.drop j) ctN = getB L ctN)
theorem li_start (E : List UInt8) (L : List PB) : LI E L 0 false [] := ⟨rfl, fun _ => rfl⟩
theorem li_cte {E : List UInt8} {L : List PB} {j : Nat} {nm : Bool} {ls : List PB} (h : LI E L j nm ls) (f : PB) (hf : L[j]? = some f) (hc : smallS f.1 = cteN) : LI E L (j + 1) nm ls := by
  obtain ⟨h1, h2⟩ := h
  rw [dropCons L j f hf] at h1 h2
  cases nm with
  | true =>
    simp only [if_true] at h1
    rw [strip_cons, if_pos hc] at h1
    exact ⟨h1, fun h => by cases h⟩
  | false =>
    simp only [Bool.false_eq_true, if_false] at h1
    rw [setCT_cons, if_pos hc] at h1
    refine ⟨h1, fun _ => ?_⟩
    rw [← h2 rfl, getB_cons, if_neg (by rw [hc]; exact Ne.symm ct_ne)]
theorem li_named {E : List UInt8} {L : List PB} {j : Nat} {ls : List PB} (h : LI E L j true ls) (f : PB) (hf : L[j]? = some f) (hc : ¬ smallS f.1 = cteN) : LI E L (j + 1) true (ls ++ [f]) := by
  obtain ⟨h1, h2⟩ := h
  rw [dropCons L j f hf] at h1
  simp only [if_true] at h1
  rw [strip_cons, if_neg hc] at h1
  exact ⟨by simpa using h1, fun h => by cases h⟩
theorem li_other {E : List UInt8} {L : List PB} {j : Nat} {ls : List PB} (h : LI E L j false ls) (f : PB) (hf : L[j]? = some f) (hc : ¬ smallS f.1 = cteN) (ht : ¬ smallS f.1 = ctN) : LI E L (j + 1) false (ls ++ [f]) := by
  obtain ⟨h1, h2⟩ := h
  rw [dropCons L j f hf] at h1 h2
  simp only [Bool.false_eq_true, if_false] at h1
  rw [setCT_cons, if_neg hc, if_neg ht] at h1
  refine ⟨by simpa using h1, fun _ => ?_⟩
  rw [← h2 rfl, getB_cons, if_neg ht]
theorem li_ct {E : List UInt8} {L : List PB} {j : Nat} {ls : List PB} (h : LI E L j false ls) (f : PB) (hf : L[j]? = some f) (hc : ¬ smallS f.1 = cteN) (ht : smallS f.1 = ctN) : LI E L (j + 1) true (ls ++ [(f.1, newVal E f.2)]) ∧ getB L ctN = some f := by
  obtain ⟨h1, h2⟩ := h
  rw [dropCons L j f hf] at h1 h2
  simp only [Bool.false_eq_true, if_false] at h1
  rw [setCT_cons, if_neg hc, if_pos ht] at h1
  refine ⟨⟨by simpa using h1, fun h => by cases h⟩, ?_⟩
  rw [← h2 rfl, getB_cons, if_pos ht]
theorem li_end {E : List UInt8} {L : List PB} {j : Nat} {nm : Bool} {ls : List PB} (h : LI E L j nm ls) (hj : L.length ≤ j) : setCT E L = ls := by
  obtain ⟨h1, _⟩ := h
  rw [List.drop_of_length_le hj] at h1
  cases nm <;> simpa [stripH, setCT] using h1
/-- What of parameters is done. -/
def QPI (E : List UInt8) (Q : List PB) (i : Nat) (dn : Bool) (C : List PB) : Prop := setP E Q = C.take i ++ (if dn then C.drop i else setP E (C.drop i))
theorem set_take {α : Type} (C : List α) (i : Nat) (x y : α) (h : C[i]? = some x) : (C.set i y).take (i + 1) = C.take i ++ [y] ∧ (C.set i y).drop (i + 1) = C.drop (i + 1) := by
  obtain ⟨hl, _⟩ := List.getElem?_eq_some_iff.1 h
  constructor
  · rw [List.take_add_one, List.getElem?_set_self hl, List.take_set_of_le (Nat.le_refl _)]
    rfl
  · rw [List.drop_set, if_pos (by omega)]
theorem qi_hit {E : List UInt8} {Q : List PB} {i : Nat} {C : List PB} (h : QPI E Q i false C) (p : PB) (hp : C[i]? = some p) (hb : p.1 = bdN) : QPI E Q (i + 1) true (C.set i (p.1, E)) := by
  unfold QPI at h ⊢
  obtain ⟨e1, e2⟩ := set_take C i p (p.1, E) hp
  rw [e1, e2, h, dropCons C i p hp]
  simp only [Bool.false_eq_true, if_false, if_true]
  rw [setP, if_pos hb]
  simp
theorem qi_miss {E : List UInt8} {Q : List PB} {i : Nat} {dn : Bool} {C : List PB} (h : QPI E Q i dn C) (p : PB) (hp : C[i]? = some p) (hb : dn = false → ¬ p.1 = bdN) : QPI E Q (i + 1) dn C := by
  unfold QPI at h ⊢
  rw [h, dropCons C i p hp, List.take_add_one, hp]
  cases dn with
  | true => simp
  | false =>
    simp only [Bool.false_eq_true, if_false]
    rw [setP, if_neg (hb rfl)]
    simp
theorem qi_end {E : List UInt8} {Q : List PB} {i : Nat} {dn : Bool} {C : List PB} (h : QPI E Q i dn C) (hi : C.length ≤ i) : setP E Q = C := by
  unfold QPI at h
  rw [List.drop_of_length_le hi, List.take_of_length_le hi] at h
  cases dn <;> simpa [setP] using h

theorem manies_at (L : List PB) (f : PB) (b : List UInt8) (h : maniesS L = .ok (some b)) (hg : getB L ctN = some f) : ∃ q, readK f.2 = some q := by
  have := manies_read L _ h f hg
  exact Option.isSome_iff_exists.1 this
theorem kind_set (E fv : List UInt8) (q : List UInt8 × List PB) (hq : readK fv = some q) (hE : okBd E) (C : List Fl) (hC : C.map pb2 = setP E q.2) : goodM q.1 = true ∧ C.all goodF = true ∧ writeK q.1 (C.map pb2) = newVal E fv := by
  have hgd := kind_good fv q.1 q.2 hq
  unfold goodK at hgd
  simp only [Bool.and_eq_true] at hgd
  refine ⟨hgd.1, ?_, ?_⟩
  · have := setP_good E (okBd_in hE) q.2 hgd.2
    rw [← hC, List.all_map] at this
    exact this
  · rw [hC, newVal_at _ _ q.1 q.2 hq]
theorem FLB.fla {w : World} {S : Nat → Prop} {A : Option Addr} {n c : Nat} {L : List Fl} (h : FLB w S (.slice A n c) L) : FLA w A L := by
  obtain ⟨A', cap, hv, _, h1⟩ := h.fl
  simp only [Value.slice.injEq] at hv
  rw [hv.1]; exact h1
theorem new_cells (W : World) (b : Nat) (hb : b = W.heap.size) (u v : Value) (t : TypeId) : (W.alloc (.cells #[u, v] t)).cell? ⟨b, 0, none⟩ = some u ∧ (W.alloc (.cells #[u, v] t)).cell? ⟨b, 1, none⟩ = some v := by
  subst hb
  obtain ⟨h0, h1, _⟩ := b2_of (heap_oneP W (.cells #[u, v] t))
  exact ⟨h0, h1⟩
theorem bndS_ok (xs : List (List UInt8)) (h : xs.flatten.length ≤ 10000000) : okBd (bndS xs) := by
  refine ⟨by simp [bndS, numB], (bndS_len xs h).2, ?_⟩
  intro c hc
  rcases List.mem_cons.1 hc with rfl | hc
  · decide
  · obtain ⟨h1, h2⟩ := digits_are _ c hc
    exact digit_tok c h1 h2

set_option maxHeartbeats 8000000 in
set_option maxRecDepth 100000 in
theorem rw_many (d : Nat) (ih : RwAt d) (D : Nat) (A : Option Addr) (c1 : Nat) (A2 : Option Addr) (cap2 : Nat) (lh : List Fl) (ps : List PT) (b : List UInt8) (n bc k : Nat) (w : World) (S : Nat → Prop) (hS : ∀ i, S i → i ≠ bc) (hF : FLB w S (.slice A lh.length c1) lh) (hsh : ShortL lh) (hR : (lh.map fl2).all rightB = true) (hmn : maniesS (lh.map fl2) = .ok (some b))
    (hl : ps.length ≤ 60) (hps : ∀ k (hk : k < ps.length), ∃ q, PC w S A2 k q ∧ PV w S D q ps[k]) (hsm : ∀ p ∈ ps, SmT D p) (h40 : ¬ 40 ≤ n) (hk : k + (d + 1) = 4) (hc : CI w bc n) (hM : Max w) (hT : Tab w) (hbm : 1 < bc) (hbt : 6 < bc) :
    Calls Tryz.prog 40 #[.agg #[.slice A lh.length c1, .string ⟨#[]⟩, .bool true, .slice A2 ps.length cap2], .int .i64 k, .pointer (some ⟨bc, 0, none⟩)] w fun e w' => RmPost (allG (writeG bndS d) ps (n + 1)) (lh.map fl2) bc e w' ∧ w.grownBy w' (some bc) := by
  obtain ⟨R, HR⟩ : ∃ R, Box (R = allG (writeG bndS d) ps (n + 1)) := ⟨_, ⟨rfl⟩⟩
  rw [← HR.out]
  have HA : Box (AllI (writeG bndS d) ps R 0 (n + 1) []) := ⟨by rw [HR.out]; exact all_start _ _ _⟩
  have hbl := hc.lt
  have hH : Half lh := ⟨by have := hsh.1; omega, fun f hf => by have := hsh.2 f hf; omega⟩
  have hcW : CI ((w.setCell ⟨bc, 0, none⟩ (.int .i64 ((n : Int) + 1))).alloc (obj4 (.slice A lh.length c1) (.string ⟨#[]⟩) (.bool true) (.slice A2 ps.length cap2))) bc (n + 1) := rwW_c hc _
  obtain ⟨c0, f0, l0⟩ := hc.below (below_oneP w (obj4 (.slice A lh.length c1) (.string ⟨#[]⟩) (.bool true) (.slice A2 ps.length cap2))) hc.lt
  obtain ⟨W, HW⟩ : ∃ W, Box (W = (w.setCell ⟨bc, 0, none⟩ (.int .i64 ((n : Int) + 1))).alloc (obj4 (.slice A lh.length c1) (.string ⟨#[]⟩) (.bool true) (.slice A2 ps.length cap2))) := ⟨_, ⟨rfl⟩⟩
  rw [← HW.out] at hcW
  have hgW : w.grownBy W (some bc) := by rw [HW.out]; exact rwW_g _ _ _ _
  have hszW : W.heap.size = w.heap.size + 1 := by rw [HW.out]; exact rwW_size _ _ _ _
  have HKW : Box (W.heap[w.heap.size]? = some (obj4 (.slice A lh.length c1) (.string ⟨#[]⟩) (.bool true) (.slice A2 ps.length cap2))) := ⟨by rw [HW.out]; exact rwW_k _ _ _ _⟩
  have HMx := Box.mk (hM.below (below_gr hgW (Nat.le_refl _) hbl) hbm)
  have HTb := Box.mk (hT.below (below_gr hgW (Nat.le_refl _) hbl) hbt)
  have hFW := hF.abv (abv_gr hgW (fun i hi e => hS i hi (Option.some.inj e)))
  have HF := Box.mk hFW
  have hfw : decide (firstW lh = lh.length) = true := by rw [← right_first]; exact hR
  have HFw := Box.mk hfw
  have HH := Box.mk hH
  have HSh := Box.mk hsh
  have HRt := Box.mk hR
  have HMn := Box.mk hmn
  have HP := Box.mk hps
  have HSm := Box.mk hsm
  have IH := Box.mk ih
  have HSS := Box.mk hS
  have HC := Box.mk hcW
  clear hc hM hT hF hH hsh hR hmn hps hsm ih hFW hfw hS hcW
  go_enter Tryz.func40, Tryz.ntmps40
  go_wp2_with fail
  rw [← HW.out]
  refine (rmanies_any _ lh _ HH.out HF.out.fl HMx.out).mono ?_
  rintro e w1 ⟨hP, hb1⟩
  rw [HMn.out] at hP
  obtain ⟨bo, rfl, _, _⟩ := hP
  have hsz1 := hb1.size
  have hk1 := (hb1.block w.heap.size (by omega)).trans HKW.out
  obtain ⟨x0, x1, x2, x3, xf⟩ := b4_of hk1
  have HF1 := Box.mk (HF.out.abv (abv_below hb1))
  clear HW HKW c0 f0 l0
  go_wp2_with fail
  refine (rHead_any _ lh _ HH.out.tiny HF1.out.fl).mono ?_
  rintro e w2 ⟨rfl, hb2⟩
  rw [HFw.out]
  have hsz2 := hb2.size
  have hk2 := (hb2.block w.heap.size (by omega)).trans hk1
  clear x0 x1 x2 x3 xf
  obtain ⟨x0, x1, x2, x3, xf⟩ := b4_of hk2
  have HK2 := Box.mk hk2
  have hbW2 : Below W.heap.size W w2 := hb1.trans (hb2.mono hb1.size)
  have hg2 := gr_trans hgW (gr_below hbW2 _)
  have HF2 := Box.mk (HF1.out.abv (abv_below hb2))
  have HMx2 := Box.mk (HMx.out.below hbW2 (by omega))
  have HTb2 := Box.mk (HTb.out.below hbW2 (by omega))
  have HC2 := Box.mk (HC.out.below hbW2 (by omega))
  clear HF1 HF hb1 hb2 HMx HTb HC HFw hbW2 hgW hk1 hk2
  go_wp2
  go_loopw [11, 92] (fun v i wr => ∃ (j c : Nat) (ss : List ByteArray), j ≤ ps.length ∧ i = .int .i64 j ∧ ss.length ≤ j ∧ c ≤ 40 ∧ n + 1 ≤ c ∧ Box (OwnS wr w2.heap.size v ss) ∧ Box (CI wr bc c) ∧ w2.grownBy wr (some bc) ∧ Box (AllI (writeG bndS d) ps R j c (ss.map lst)) ∧ Box (sumX (ss.map lst) ≤ (c - (n + 1)) * 200000)) (fun _ i _ => ps.length - (intOf i).toNat)
  case atStart => exact ⟨0, n + 1, [], Nat.zero_le _, rfl, Nat.le_refl _, by omega, Nat.le_refl _, ⟨OwnS.nil _ _⟩, HC2, gr_below (Below.refl _ _) _, HA, ⟨by simp [sumX]⟩⟩
  case round =>
    obtain ⟨j, c, ss, hj, rfl, hss, hc40, hnc, hO, hC, hg, HI, HX⟩ := hrel
    have hsz := hg.size
    have hg0 : w.grownBy wr (some bc) := gr_trans hg2 hg
    have HMr := Box.mk (HMx2.out.below (below_gr hg (Nat.le_refl _) (by omega)) hbm)
    have HTr := Box.mk (HTb2.out.gr hg hbt (by omega))
    by_cases hlt : j < ps.length
    · obtain ⟨q, ⟨b1, o1, hA2, hb1, r0, r1, r2, r3⟩, hv1⟩ := HP.out j hlt
      subst hA2
      obtain ⟨E1, m1, g1, bb1, mm1, E2, m2, g2, rfl⟩ := hv1.shape
      have hab : Abv S w wr := abv_gr hg0 (fun i hi e => HSS.out i hi (Option.some.inj e))
      have r0' := hab.cell (p := ⟨b1, o1 + j * 4, none⟩) hb1 r0
      have r1' := hab.cell (p := ⟨b1, o1 + j * 4 + 1, none⟩) hb1 r1
      have r2' := hab.cell (p := ⟨b1, o1 + j * 4 + 2, none⟩) hb1 r2
      have r3' := hab.cell (p := ⟨b1, o1 + j * 4 + 3, none⟩) hb1 r3
      simp only at r0' r1' r2' r3'
      have hba := below_oneP wr (obj4 (.slice E1 m1 g1) (.string bb1) (.bool mm1) (.slice E2 m2 g2))
      have HV := Box.mk (PV.abv (abv_below hba) _ _ _ (PV.abv hab _ _ _ hv1))
      have HCa := Box.mk (hC.out.below hba hC.out.lt)
      have HMa := Box.mk (HMr.out.below hba HMr.out.1)
      have HTa := Box.mk (HTr.out.below hba HTr.out.lt)
      have HOa := Box.mk (hO.out.below hba (Nat.le_refl _))
      have HGj := Box.mk (List.getElem?_eq_getElem hlt)
      have HSj := Box.mk (HSm.out ps[j] (List.getElem_mem hlt))
      clear hv1 r0 r1 r2 r3 hab HP x0 x1 x2 x3 xf
      obtain ⟨x, hx⟩ : ∃ x, x = ps[j] := ⟨_, rfl⟩
      rw [← hx] at HGj HSj HV
      clear hx
      go_wp2_with fail
      refine (IH.out D x (.slice E1 m1 g1, .string bb1, .bool mm1, .slice E2 m2 g2) c bc (k + 1) _ S HSS.out HV.out HSj.out hc40 (by omega) HCa.out HMa.out HTa.out hbm hbt).mono ?_
      rintro e w3 ⟨hR2, hg3⟩
      have hg03 := gr_trans (gr_trans hg (gr_below hba _)) hg3
      have hsz3 := hg3.size
      have hsza : (wr.alloc (obj4 (.slice E1 m1 g1) (.string bb1) (.bool mm1) (.slice E2 m2 g2))).heap.size = wr.heap.size + 1 := size_oneP wr _
      clear HV HCa HMa HTa hC HMr HTr r0' r1' r2' r3'
      unfold RwPost at hR2
      cases hq : writeG bndS d c x with
      | error z =>
        rw [hq] at hR2
        obtain rfl := hR2
        have HE := Box.mk (all_err HI.out _ HGj.out z hq)
        have hz : ((z : Int) == 0) = false := by
          rcases writeG_err _ _ _ _ _ hq with rfl | rfl <;> rfl
        clear HI hq HGj hO HX IH HSm HA HOa HSj
        go_wp2
        go_ret2
        refine ⟨?_, gr_trans hg2 hg03⟩
        rw [HE.out]
        rfl
      | ok q =>
        rw [hq] at hR2
        obtain ⟨T, rfl, hTq, hC2⟩ := hR2
        have hql := writeB_len d D c x q HSj.out hq
        have HI' := Box.mk (all_ok HI.out _ HGj.out q hq)
        have HX' : Box (sumX ((ss ++ [T]).map lst) ≤ (q.2 - (n + 1)) * 200000) := ⟨by
          rw [List.map_append, List.map_cons, List.map_nil, sumX_snoc]
          have h1 := HX.out
          have h2 : (lst T).length = q.1.length := by unfold lst; rw [hTq]
          omega⟩
        have hI2 : AllI (writeG bndS d) ps R (j + 1) q.2 ((ss ++ [T]).map lst) := by
          have := HI'.out
          rw [← hTq] at this
          simpa [lst] using this
        have HI2 := Box.mk hI2
        have HC3 := Box.mk hC2
        have HO2 := Box.mk (OwnS.kept HOa.out hg3 (by omega))
        have hq40 := hql.2.1
        have hqn : n + 1 ≤ q.2 := by omega
        obtain ⟨c2, hc2⟩ : ∃ c2, c2 = q.2 := ⟨_, rfl⟩
        rw [← hc2] at HX' HI2 HC3 hq40 hqn
        clear HI hq HGj hO HX HOa HSj hql HI' hI2 hTq hC2 hc2
        go_wp2_with (at_builtin; refine wp_appT3 _ rfl (.tmp 107) (.tmp 109) rfl w2.heap.size _ ss rfl (OwnS.below HO2.out ((Below.refl _ _).alloc (Nat.le_refl _) _) (Nat.le_refl _)) _ _ T rfl (by simp) (by omega) (by simp; omega) ?_; intro v3 w4 hown4 hg4 hv4)
        go_roundw
        case rel =>
          have hne : ∀ i, some i = Value.ownBlock u11 → w2.heap.size ≤ i ∧ i ≠ bc := fun i e => by have := (HO2.out.lt i e.symm).1; omega
          have hg34 : w3.grownBy w4 (Value.ownBlock u11) := gr_trans (gr_below (below_oneP w3 _) _) hg4
          refine ⟨j + 1, c2, ss ++ [T], by omega, by go_num, by simp; omega, hq40, hqn, ⟨hown4⟩, ⟨HC3.out.own hg34 (fun e => (hne bc e).2 rfl)⟩, gr_own hg03 hg34 (fun i e => (hne i e.symm).1), HI2, HX'⟩
        case measure => simp [intOf]; omega
    · have hje : R = .ok (ss.map lst, c) := all_end HI.out (by omega)
      have HRe := Box.mk hje
      have hX := HX.out
      have hsum : sumX (ss.map lst) ≤ 8000000 := by omega
      have HSX := Box.mk hsum
      have hflat : (ss.map lst).flatten.length ≤ 10000000 := by have := flat_sum (ss.map lst); omega
      obtain ⟨hF8, hEl⟩ := bndS_len _ hflat
      have HXs : Box (∀ x ∈ ss, x.size ≤ 8000000) := ⟨fun x hx => by have := sumX_mem ss x hx; omega⟩
      have hk0 := (hg.block w.heap.size (by omega) (by simp; omega)).trans HK2.out
      have HF0 := Box.mk (HF2.out.abv (abv_gr hg (fun i hi e => HSS.out i hi (Option.some.inj e))))
      obtain ⟨F, HFF⟩ : ∃ F, Box (F = firstN (ss.map lst)) := ⟨_, ⟨rfl⟩⟩
      rw [← HFF.out] at hF8
      obtain ⟨A3, m3, cap3, hv3⟩ := hO.out.slice
      subst hv3
      have hm3 := hO.out.len
      have hm31 : m3 ≤ ss.length := Nat.le_of_eq hm3
      have hm32 : ss.length ≤ m3 := Nat.le_of_eq hm3.symm
      clear hm3
      generalize wr = wo at hg hO hC HMr HTr hk0 HF0 hg0 hsz ⊢
      clear HI HX hX hje HP HSm IH HA HF2 hsum HK2 x0 x1 x2 x3 xf HMx2 HTb2 HC2
      go_wp2
      go_loopw [16, 17] (fun vn vk wr => ∃ (nn kk : Nat), nn ≤ F ∧ kk ≤ m3 ∧ vn = .int .i64 nn ∧ vk = .int .i64 kk ∧ Box ((ss.take kk).all (fun x => !Lib.contains x.data.toList (lead (numB nn))) = true) ∧ Below wo.heap.size wo wr) (fun vn vk _ => (F - (intOf vn).toNat) * (m3 + 1) + (m3 - (intOf vk).toNat))
      case atStart => exact ⟨0, 0, Nat.zero_le _, Nat.zero_le _, rfl, rfl, ⟨by simp⟩, Below.refl _ _⟩
      case round =>
        obtain ⟨nn, kk, hnF, hkm, rfl, rfl, HAl, hb⟩ := hrel
        have hszr := hb.size
        by_cases hlt2 : kk < m3
        · have hkl : kk < ss.length := by omega
          obtain ⟨x, HXk⟩ : ∃ x, Box (ss[kk]? = some x) := ⟨_, ⟨List.getElem?_eq_getElem hkl⟩⟩
          obtain ⟨g, hA3, hgl, hcell⟩ := hO.out.at hb kk x HXk.out
          subst hA3
          have hxs := HXs.out x (List.mem_of_getElem? HXk.out)
          have HTk := Box.mk (HTr.out.below hb HTr.out.lt)
          have HMk := Box.mk (HMr.out.below hb HMr.out.1)
          obtain ⟨_, mm, hmc⟩ := HMk.out
          have hml := HMk.out.1
          have hdl : (Lib.decDigits nn).length ≤ 10 := by
            rw [Lib.decDigits_length]
            exact nDigits_le 9 nn (by omega)
          obtain ⟨DD, HD⟩ : ∃ DD : ByteArray, Box (DD = ⟨(Lib.decDigits nn).toArray⟩) := ⟨_, ⟨rfl⟩⟩
          have hds : DD.size ≤ 10 := by rw [HD.out, size_mk]; exact hdl
          obtain ⟨EE, HEE⟩ : ∃ EE : ByteArray, Box (EE = ⟨#[45, 45, 98]⟩ ++ DD) := ⟨_, ⟨rfl⟩⟩
          have HEl : Box (EE.data.toList = lead (numB nn)) := ⟨by rw [HEE.out, HD.out]; simp [numB, lead]⟩
          have hsum2 : ¬ 9223372036854775807 < 3 + DD.size := by omega
          obtain ⟨Q, HQ⟩ : ∃ Q, Box (Q = Lib.contains x.data.toList (lead (numB nn))) := ⟨_, ⟨rfl⟩⟩
          clear hkl HMk
          go_wp2_with fail
          go_region_held3 (fun w' => w'.cell? ⟨g, kk, none⟩ = some (.string x) ∧ w'.cell? ⟨1, 0, none⟩ = some (.int .i64 mm) ∧ Below wr.heap.size wr w')
            ((go_split_ands; exact keep_two hcell hmc (by first | exact (Below.refl _ _).drew | exact Below.trans (by assumption) (Below.mono hb5 (Below.size (by assumption))) | assumption)))
            (first
              | (go_at_call 68; refine (itoa_any nn _ (by omega) (HTk.out.below (by go_split_ands; assumption) HTk.out.lt)).mono ?_; rintro e w5 ⟨rfl, hb5⟩; rw [← HD.out])
              | (go_at_call 67; rw [← HEE.out]; refine (Tryz.strings_Contains x EE mm _ (by omega) (by go_split_ands; assumption)).mono ?_; rintro e w6 ⟨rfl, hw6⟩; obtain rfl := hw6.symm; rw [HEl.out, ← HQ.out]))
          have hb15 : Below wo.heap.size wo w5 := hb.trans (((Below.refl wr.heap.size wr).drew.trans hb5).mono hszr)
          cases Q
          · have HAl' : Box ((ss.take (kk + 1)).all (fun x => !Lib.contains x.data.toList (lead (numB nn))) = true) := ⟨by
              rw [List.take_add_one, HXk.out, List.all_append, HAl.out]
              simp [← HQ.out]⟩
            clear HQ HAl HXk hcell hmc HEE HEl HD hb5
            go_wp2
            go_roundw
            case rel => exact ⟨nn, kk + 1, hnF, by omega, rfl, by go_num, HAl', hb15⟩
            case measure => simp [intOf]; omega
          · have hnn : nn + 1 ≤ F := by
              have h1 : nn ≠ F := fun e => by
                have h2 := (firstN_spec (ss.map lst)).1
                rw [← HFF.out, ← e, stands_one ss nn x (List.mem_of_getElem? HXk.out) HQ.out.symm] at h2
                cases h2
              omega
            clear HQ HAl HXk hcell hmc HEE HEl HD hb5
            go_wp2
            go_roundw
            case rel => exact ⟨nn + 1, 0, hnn, Nat.zero_le _, by go_num, by go_num, ⟨by simp⟩, hb15⟩
            case measure =>
              simp [intOf]
              obtain ⟨t, rfl⟩ : ∃ t, F = nn + 1 + t := ⟨F - (nn + 1), by omega⟩
              have e1 : nn + 1 + t - (nn + 1) = t := by omega
              have e2 : nn + 1 + t - nn = t + 1 := by omega
              have e3 : (t + 1) * (m3 + 1) = t * (m3 + 1) + (m3 + 1) := Nat.succ_mul _ _
              first
                | (rw [e1, e2, e3]; omega)
                | (have e4 : ((nn : Int) + 1).toNat = nn + 1 := by omega
                   rw [e4, e1, e2, e3]; omega)
        · have hFn : nn = F := by
            have h1 := HAl.out
            rw [List.take_of_length_le (by omega)] at h1
            have h2 := firstN_le _ _ (stands_all ss nn h1)
            rw [← HFF.out] at h2
            omega
          have HFn : Box (numB nn = bndS (ss.map lst)) := ⟨by rw [hFn, HFF.out]; rfl⟩
          have HTk := Box.mk (HTr.out.below hb HTr.out.lt)
          have HMk := Box.mk (HMr.out.below hb HMr.out.1)
          have hdl : (Lib.decDigits nn).length ≤ 10 := by
            rw [Lib.decDigits_length]
            exact nDigits_le 9 nn (by omega)
          obtain ⟨DD, HD⟩ : ∃ DD : ByteArray, Box (DD = ⟨(Lib.decDigits nn).toArray⟩) := ⟨_, ⟨rfl⟩⟩
          have hds : DD.size ≤ 10 := by rw [HD.out, size_mk]; exact hdl
          obtain ⟨EE, HEE⟩ : ∃ EE : ByteArray, Box (EE = ⟨#[98]⟩ ++ DD) := ⟨_, ⟨rfl⟩⟩
          have HEl : Box (EE.data.toList = bndS (ss.map lst)) := ⟨by rw [← HFn.out, HEE.out, HD.out]; simp [numB]⟩
          have hes : EE.size ≤ 11 := by rw [HEE.out, ByteArray.size_append]; show 1 + DD.size ≤ _; omega
          have hsum2 : ¬ 9223372036854775807 < 1 + DD.size := by omega
          clear HAl hFn HFn HFF
          go_wp2_with fail
          refine (itoa_any nn _ (by omega) HTk.out).mono ?_
          rintro e w5 ⟨rfl, hb5⟩
          rw [← HD.out]
          have hbo5 : Below wo.heap.size wo w5 := hb.trans (hb5.mono hszr)
          have hk5 := (hbo5.block w.heap.size (by omega)).trans hk0
          obtain ⟨x0, x1, x2, x3, xf⟩ := b4_of hk5
          have HF5 := Box.mk (HF0.out.abv (abv_below hbo5))
          have HO5 := Box.mk (hO.out.below hbo5 (Nat.le_refl _))
          have HC5 := Box.mk (hC.out.below hbo5 hC.out.lt)
          have HM5 := Box.mk (HMr.out.below hbo5 HMr.out.1)
          have hg05 : w.grownBy w5 (some bc) := gr_trans hg0 (gr_below hbo5 _)
          clear HD HTk HMk hb5 hb hk0 HF0 hO hC HMr HTr hg0 hg
          go_wp2
          rw [← HEE.out]
          have HFA := Box.mk HF5.out.fla
          have HEok : Box (okBd EE.data.toList) := ⟨by rw [HEl.out]; exact bndS_ok _ hflat⟩
          clear HF5 x0 x1 x2 x3 xf HEE
          go_loopw [19, 20, 134] (fun v q i wr => ∃ (j : Nat) (ls : List Fl) (nm : Bool), j ≤ lh.length ∧ i = .int .i64 j ∧ q = .bool nm ∧ ls.length ≤ j ∧ Box (OwnF wr w5.heap.size v ls) ∧ Below w5.heap.size w5 wr ∧ Box (LI EE.data.toList (lh.map fl2) j nm (ls.map fl2))) (fun _ _ i _ => lh.length - (intOf i).toNat)
          case atStart => exact ⟨0, [], false, Nat.zero_le _, rfl, rfl, Nat.le_refl _, ⟨OwnF.nil _ _⟩, Below.refl _ _, ⟨li_start _ _⟩⟩
          case round =>
            generalize wr = wp at hrel ⊢
            obtain ⟨j, ls, nm, hj, rfl, rfl, hlsj, HOl, hbp, HLI⟩ := hrel
            have hszp := hbp.size
            by_cases hlt3 : j < lh.length
            · have hl20 := HSh.out.1
              obtain ⟨b1, o1, fn, fv, hAA, HN, _, _, hbl1, d0, d1⟩ := HFA.out.elem HSh.out.tiny hbp j hlt3
              subst hAA
              have hfs := HSh.out.2 (fn, fv) (List.mem_of_getElem? HN.out)
              simp only at hfs
              have HNl : Box ((lh.map fl2)[j]? = some (fn.data.toList, fv.data.toList)) := ⟨by rw [List.getElem?_map, HN.out]; rfl⟩
              have hb6a := below_oneP wp (.cells #[.string fn, .string fv] 75)
              have hk6a := heap_oneP wp (.cells #[.string fn, .string fv] 75)
              have HO6a := Box.mk (HOl.out.below hb6a (Nat.le_refl _))
              have HL19 : Box (∀ i, Value.ownBlock u19 = some i → i < wp.heap.size) := ⟨fun i e => (World.ownsRow.lt HOl.out i e).2⟩
              clear HN HOl
              go_wp2_with fail
              refine (low_any fn _ (by omega)).mono ?_
              rintro e w6 ⟨t, rfl, ht, hb6⟩
              have hb56 : Below w5.heap.size w5 w6 := hbp.trans ((hb6a.trans (hb6.mono hb6a.size)).mono hszp)
              have hsz6 : wp.heap.size < w6.heap.size := by have := hb6.size; rw [size_oneP] at this; omega
              have hk6 := (hb6.block wp.heap.size (by rw [size_oneP]; omega)).trans hk6a
              obtain ⟨e0, e1, ef⟩ := b2_of hk6
              have HO6 := Box.mk (HO6a.out.below hb6 (Nat.le_refl _))
              clear HO6a hk6a hb6 hb6a d0 d1
              by_cases hcte : smallS fn.data.toList = cteN
              · have et := teq_of t [99, 111, 110, 116, 101, 110, 116, 45, 116, 114, 97, 110, 115, 102, 101, 114, 45, 101, 110, 99, 111, 100, 105, 110, 103] (ht.trans hcte)
                have HLI' := Box.mk (li_cte HLI.out _ HNl.out hcte)
                clear HLI HNl ht
                go_wp2
                go_roundw
                case rel => exact ⟨j + 1, ls, nm, by omega, by go_num, rfl, by omega, HO6, hb56, HLI'⟩
                case measure => simp [intOf]; omega
              · have et := tne_of t [99, 111, 110, 116, 101, 110, 116, 45, 116, 114, 97, 110, 115, 102, 101, 114, 45, 101, 110, 99, 111, 100, 105, 110, 103] (fun h => hcte (ht.symm.trans h))
                clear ht
                cases nm with
                | true =>
                  have HLI' : Box (LI EE.data.toList (lh.map fl2) (j + 1) true ((ls ++ [(fn, fv)]).map fl2)) := ⟨by
                    rw [List.map_append]; exact li_named HLI.out _ HNl.out hcte⟩
                  clear HLI HNl
                  go_wp2_with (at_builtin; refine wp_appF _ w5 rfl (.tmp 188) (.tmp 190) rfl w5.heap.size _ ls rfl (OwnF.below HO6.out ((Below.refl _ _).alloc (Nat.le_refl _) _) (Nat.le_refl _)) _ _ (fn, fv) rfl (by simp) (by simp) (by omega) (by simp; omega) (hb56.alloc hb56.size _) ?_; intro v7 w7 hO7 hb7)
                  go_roundw
                  case rel => exact ⟨j + 1, ls ++ [(fn, fv)], true, by omega, by go_num, rfl, by simp; omega, ⟨hO7⟩, hb7, HLI'⟩
                  case measure => simp [intOf]; omega
                | false =>
                  go_wp2_with fail
                  refine (low_any fn _ (by omega)).mono ?_
                  rintro e w7 ⟨t2, rfl, ht2, hb7⟩
                  have hb57 : Below w5.heap.size w5 w7 := hb56.trans (hb7.mono hb56.size)
                  have hsz7 := hb7.size
                  have hk7 := (hb7.block wp.heap.size hsz6).trans hk6
                  clear e0 e1 ef
                  obtain ⟨e0, e1, ef⟩ := b2_of hk7
                  have HO7 := Box.mk (HO6.out.below hb7 (Nat.le_refl _))
                  clear HO6 hk6 hb7
                  by_cases hct : smallS fn.data.toList = ctN
                  · have et2 := teq_of t2 [99, 111, 110, 116, 101, 110, 116, 45, 116, 121, 112, 101] (ht2.trans hct)
                    obtain ⟨hLI', hgB⟩ := li_ct HLI.out _ HNl.out hcte hct
                    obtain ⟨q, hq⟩ := manies_at _ _ _ HMn.out hgB
                    simp only at hq hLI'
                    have HQ := Box.mk hq
                    have HLI' := Box.mk hLI'
                    have HM7 := Box.mk (HM5.out.below hb57 HM5.out.1)
                    clear HLI HNl ht2 hLI' hgB hq
                    go_wp2_with fail
                    refine (rkind_all fv _ (by omega) HM7.out).mono ?_
                    rintro e w8 ⟨hK, hb8⟩
                    unfold RKPost at hK
                    rw [HQ.out] at hK
                    obtain ⟨m, vq, Lq, rfl, hm, hownQ, hLq, hms, hLs, hfsz⟩ := hK
                    have hb78 : Below w7.heap.size w7 w8 := hb8
                    have HQI : Box (QPI EE.data.toList q.2 0 false (Lq.map pb2)) := ⟨by unfold QPI; rw [hLq]; simp⟩
                    obtain ⟨Aq, nq, capq, hvq⟩ : ∃ A n c, vq = .slice A n c := by
                      rcases hownQ.shape with ⟨rfl, _⟩ | ⟨g, cap, rfl, _⟩
                      · exact ⟨_, _, _, rfl⟩
                      · exact ⟨_, _, _, rfl⟩
                    subst hvq
                    have hnq : nq = Lq.length := by
                      rcases hownQ.shape with ⟨h1, h2⟩ | ⟨g, cap, h1, _⟩
                      · simp only [Value.slice.injEq] at h1; rw [h2]; exact h1.2.1
                      · simp only [Value.slice.injEq] at h1; exact h1.2.1
                    have hnq1 : nq ≤ Lq.length := Nat.le_of_eq hnq
                    have hnq2 : Lq.length ≤ nq := Nat.le_of_eq hnq.symm
                    have HQ0 := Box.mk hownQ
                    have HMq := Box.mk hm
                    have HFs : Box (∀ f ∈ Lq, f.1.size ≤ 400 ∧ f.2.size ≤ 400) := ⟨fun f hf => by have := hfsz f hf; omega⟩
                    clear hownQ hLq hm hfsz hnq HM7
                    go_wp2
                    go_loopw [26, 162] (fun dq i wr => ∃ (z : Nat) (dn : Bool) (C : List Fl), z ≤ nq ∧ i = .int .i64 z ∧ dq = .bool dn ∧ Box (C.length = nq) ∧ Box (OwnQ wr w7.heap.size (.slice Aq nq capq) C) ∧ Below w7.heap.size w7 wr ∧ Box (QPI EE.data.toList q.2 z dn (C.map pb2)) ∧ Box (∀ f ∈ C, f.1.size ≤ 400 ∧ f.2.size ≤ 400)) (fun _ i _ => nq - (intOf i).toNat)
                    case atStart => exact ⟨0, false, Lq, Nat.zero_le _, rfl, rfl, ⟨by omega⟩, HQ0, hb78, HQI, HFs⟩
                    case round =>
                      obtain ⟨z, dn, C, hz, rfl, rfl, HCl, HOC, hb9, HQz, HFz⟩ := hrel
                      by_cases hzl : z < nq
                      · have hzC : z < C.length := by rw [HCl.out]; exact hzl
                        obtain ⟨gq, hAq, hgq⟩ : ∃ g, Aq = some ⟨g, 0, none⟩ ∧ w7.heap.size ≤ g := by
                          rcases HOC.out.shape with ⟨_, h2⟩ | ⟨g, cap, h1, h2, _⟩
                          · rw [h2] at hzC; exact absurd hzC (by simp)
                          · simp only [Value.slice.injEq] at h1; exact ⟨g, h1.1, h2⟩
                        subst hAq
                        obtain ⟨y0, y1, y2⟩ := HOC.out.cell z hzC
                        obtain ⟨f, hf⟩ : ∃ f, f = C[z] := ⟨_, rfl⟩
                        have HGz : Box (C[z]? = some f) := ⟨by rw [hf]; exact List.getElem?_eq_getElem hzC⟩
                        have hset : OwnQ (wr.setCell ⟨gq, z * 2 + 1, none⟩ (.string EE)) w7.heap.size (.slice (some ⟨gq, 0, none⟩) nq capq) (C.set z (f.1, EE)) := by
                          have h := HOC.out
                          rw [← HCl.out] at h ⊢
                          rw [hf]
                          exact OwnQ.set h z hzC EE
                        have HSet := Box.mk hset
                        rw [← hf] at y0 y1
                        clear hf hset
                        obtain ⟨pn, pv⟩ := f
                        simp only at y0 y1
                        have hps := HFz.out (pn, pv) (List.mem_of_getElem? HGz.out)
                        simp only at hps
                        have HGl : Box ((C.map pb2)[z]? = some (pn.data.toList, pv.data.toList)) := ⟨by rw [List.getElem?_map, HGz.out]; rfl⟩
                        by_cases hbd : pn.data.toList = bdN
                        · have et3 := teq_of pn [98, 111, 117, 110, 100, 97, 114, 121] hbd
                          cases dn with
                          | true =>
                            have HQz' := Box.mk (qi_miss HQz.out _ HGl.out (fun h => by cases h))
                            clear HQz HGz HGl HSet
                            go_wp2
                            go_roundw
                            case rel => exact ⟨z + 1, true, C, by omega, by go_num, rfl, HCl, HOC, hb9, HQz', HFz⟩
                            case measure => simp [intOf]; omega
                          | false =>
                            have HQz' : Box (QPI EE.data.toList q.2 (z + 1) true ((C.set z (pn, EE)).map pb2)) := ⟨by
                              have := qi_hit HQz.out _ HGl.out hbd
                              rw [List.map_set]
                              exact this⟩
                            have HCl' : Box ((C.set z (pn, EE)).length = nq) := ⟨by rw [List.length_set]; exact HCl.out⟩
                            have HFz' : Box (∀ f ∈ C.set z (pn, EE), f.1.size ≤ 400 ∧ f.2.size ≤ 400) := ⟨fun f hf => by
                              rcases List.mem_or_eq_of_mem_set hf with hf | rfl
                              · exact HFz.out f hf
                              · exact ⟨hps.1, by show EE.size ≤ 400; omega⟩⟩
                            clear HQz HGz HGl HOC HCl HFz
                            go_wp2
                            go_roundw
                            case rel => exact ⟨z + 1, true, C.set z (pn, EE), by omega, by go_num, rfl, HCl', HSet, Below.setCell hb9 hgq _, HQz', HFz'⟩
                            case measure => simp [intOf]; omega
                        · have et3 := tne_of pn [98, 111, 117, 110, 100, 97, 114, 121] hbd
                          have HQz' := Box.mk (qi_miss HQz.out _ HGl.out (fun _ => hbd))
                          clear HQz HGz HGl HSet
                          go_wp2
                          go_roundw
                          case rel => exact ⟨z + 1, dn, C, by omega, by go_num, rfl, HCl, HOC, hb9, HQz', HFz⟩
                          case measure => simp [intOf]; omega
                      · have hCe : C.map pb2 = setP EE.data.toList q.2 := (qi_end HQz.out (by rw [List.length_map, HCl.out]; omega)).symm
                        obtain ⟨hg1, hg2', hg3⟩ := kind_set EE.data.toList fv.data.toList q HQ.out HEok.out C hCe
                        have hcl : C.length ≤ 400 := by rw [HCl.out]; omega
                        have HMid : Box (Mid C) := ⟨⟨by omega, fun f hf => by have := HFz.out f hf; omega⟩⟩
                        have HFC := Box.mk HOC.out.fl
                        have HG1 : Box (goodM m.data.toList = true) := ⟨by rw [HMq.out]; exact hg1⟩
                        have HG2 := Box.mk hg2'
                        have HG3 : Box (writeK m.data.toList (C.map pb2) = newVal EE.data.toList fv.data.toList) := ⟨by rw [HMq.out]; exact hg3⟩
                        have hb59 : Below w5.heap.size w5 wr := hb57.trans (hb9.mono hb57.size)
                        have HM9 := Box.mk (HM5.out.below hb59 HM5.out.1)
                        have hk9 := (hb9.block wp.heap.size (by omega)).trans hk7
                        have hO9 := HO7.out.below hb9 (Nat.le_refl _)
                        have HO9 := Box.mk hO9
                        have hnv := xnewVal_len EE.data.toList fv.data.toList
                        rw [size_list, size_list] at hnv
                        clear hCe hg1 hg2' hg3 HQz HOC HFz HCl HQI HQ0 HFs hO9 e0 e1 ef
                        go_wp2_with fail
                        refine (rwrite_any m _ C _ (by omega) HMid.out HFC.out HM9.out).mono ?_
                        rintro e w10 ⟨hW, hb10⟩
                        rcases hW with ⟨h, _⟩ | ⟨_, h, _⟩ | ⟨_, _, t3, rfl, ht3⟩
                        · rw [HG1.out] at h; cases h
                        · exfalso
                          have : firstQ C = C.length := firstP_full goodF _ HG2.out
                          omega
                        · rw [HG3.out] at ht3
                          have ht3s : t3.size ≤ 2000 := by rw [← size_list, ht3]; omega
                          have hb510 : Below w5.heap.size w5 w10 := hb59.trans (hb10.mono hb59.size)
                          have hsz10 := hb10.size
                          have hsz9 := hb9.size
                          have hk10 := (hb10.block wp.heap.size (by omega)).trans hk9
                          obtain ⟨e0, e1, ef⟩ := b2_of hk10
                          have HO10 := Box.mk (HO9.out.below hb10 (Nat.le_refl _))
                          have HOs : Box (OwnF (w10.setCell ⟨wp.heap.size, 1, none⟩ (.string t3)) w5.heap.size u19 ls) := ⟨World.ownsRow.kept HO10.out (gr_set _ _ _ _) (by
                            cases hob : Value.ownBlock u19 with
                            | none => exact .inl rfl
                            | some i => exact .inr (fun e => by have := HL19.out i hob; simp at e; omega))⟩
                          have hbs : Below w5.heap.size w5 (w10.setCell ⟨wp.heap.size, 1, none⟩ (.string t3)) := Below.setCell hb510 hszp _
                          have HLI2 : Box (LI EE.data.toList (lh.map fl2) (j + 1) true ((ls ++ [(fn, t3)]).map fl2)) := ⟨by
                            have e : fl2 (fn, t3) = (fn.data.toList, newVal EE.data.toList fv.data.toList) := by unfold fl2; simp only; rw [ht3]
                            rw [List.map_append, List.map_cons, List.map_nil, e]
                            exact HLI'.out⟩
                          clear HG1 HG2 HG3 HMid HFC HM9 ht3 HO9 HO10 HLI' hk9 hk10 hb10 hb9
                          go_wp2_with (at_builtin; refine wp_appF _ w5 rfl (.tmp 188) (.tmp 190) rfl w5.heap.size _ ls rfl (OwnF.below HOs.out ((Below.refl _ _).alloc (Nat.le_refl _) _) (Nat.le_refl _)) _ _ (fn, t3) rfl (new_cells _ _ (by simp) _ _ _).1 (new_cells _ _ (by simp) _ _ _).2 (by omega) (by simp; omega) (hbs.alloc (by simp; omega) _) ?_; intro v11 w11 hO11 hb11)
                          go_roundw
                          case rel => exact ⟨j + 1, ls ++ [(fn, t3)], true, by omega, by go_num, rfl, by simp; omega, ⟨hO11⟩, hb11, HLI2⟩
                          case measure => simp [intOf]; omega
                  · have et2 := tne_of t2 [99, 111, 110, 116, 101, 110, 116, 45, 116, 121, 112, 101] (fun h => hct (ht2.symm.trans h))
                    have HLI' : Box (LI EE.data.toList (lh.map fl2) (j + 1) false ((ls ++ [(fn, fv)]).map fl2)) := ⟨by
                      rw [List.map_append]; exact li_other HLI.out _ HNl.out hcte hct⟩
                    clear HLI HNl ht2
                    go_wp2_with (at_builtin; refine wp_appF _ w5 rfl (.tmp 188) (.tmp 190) rfl w5.heap.size _ ls rfl (OwnF.below HO7.out ((Below.refl _ _).alloc (Nat.le_refl _) _) (Nat.le_refl _)) _ _ (fn, fv) rfl (by simp) (by simp) (by omega) (by simp; omega) (hb57.alloc hb57.size _) ?_; intro v8 w8 hO8 hb8)
                    go_roundw
                    case rel => exact ⟨j + 1, ls ++ [(fn, fv)], false, by omega, by go_num, rfl, by simp; omega, ⟨hO8⟩, hb8, HLI'⟩
                    case measure => simp [intOf]; omega
            · have hls : setCT EE.data.toList (lh.map fl2) = ls.map fl2 := li_end HLI.out (by rw [List.length_map]; omega)
              obtain ⟨hMid, hfw, hfb⟩ := edge_mid EE.data.toList HEok.out lh ls HSh.out HRt.out _ HMn.out hls.symm
              have HMid := Box.mk hMid
              have HFL := Box.mk HOl.out.fl
              have HLS : Box (headW (setCT (bndS (ss.map lst)) (lh.map fl2)) = fieldsB ls ++ [13, 10]) := ⟨by rw [← HEl.out, hls, headW_map]⟩
              clear hMid hls HLI HOl HFA
              go_wp2_with fail
              refine (writeHead_any _ ls _ HMid.out HFL.out).mono ?_
              rintro e w6 ⟨⟨SS, _, hgood⟩, hb6⟩
              obtain ⟨rfl, hSS⟩ := hgood hfw
              clear hgood
              have hsumx : sumX (ss.map lst) ≤ 8000000 := HSX.out
              have hpl : ((ss.map lst).flatMap (pieceW EE.data.toList)).length ≤ 8000080 := by
                have h1 := pieces_sum EE.data.toList HEok.out.2.1 (ss.map lst)
                unfold piecesW at h1
                rw [List.length_append, List.length_append] at h1
                omega
              have HTs : Box (∀ (z : Nat) (T : ByteArray), T.data.toList = fieldsB ls ++ [13, 10] ++ ((ss.map lst).take z).flatMap (pieceW EE.data.toList) → T.size ≤ 10000000) := ⟨fun z T hT => by
                have h1 := pieces_len EE.data.toList ss z
                rw [← size_list, hT, List.length_append, List.length_append]
                simp only [List.length_cons, List.length_nil]
                omega⟩
              have H0 : Box (SS.data.toList = fieldsB ls ++ [13, 10] ++ ((ss.map lst).take 0).flatMap (pieceW EE.data.toList)) := ⟨by rw [hSS]; simp⟩
              obtain ⟨W6, HW6⟩ : ∃ W6, Box (W6 = w6.alloc (.cells #[.int .i64 0, .int .i64 (-1)] 55)) := ⟨_, ⟨rfl⟩⟩
              have hb6W : Below w6.heap.size w6 W6 := by rw [HW6.out]; exact below_oneP _ _
              have hb56 : Below w5.heap.size w5 W6 := hbp.trans ((hb6.trans (hb6W.mono hb6.size)).mono hszp)
              have HO6 := Box.mk (HO5.out.below hb56 (Nat.le_refl _))
              have HC6 := Box.mk (HC5.out.below hb56 HC5.out.lt)
              have hg06 := gr_trans hg05 (gr_below hb56 _)
              clear hSS HMid HFL hb6W hpl HO5 HC5 hg05 hfw HSh HRt HMn HH
              go_wp2
              rw [← HW6.out]
              go_loopw [28, 201] (fun sv i wr => ∃ (z : Nat) (T : ByteArray), z ≤ m3 ∧ i = .int .i64 z ∧ sv = .string T ∧ Box (T.data.toList = fieldsB ls ++ [13, 10] ++ ((ss.map lst).take z).flatMap (pieceW EE.data.toList)) ∧ Below W6.heap.size W6 wr) (fun _ i _ => m3 - (intOf i).toNat)
              case atStart => exact ⟨0, SS, Nat.zero_le _, rfl, rfl, H0, Below.refl _ _⟩
              case round =>
                obtain ⟨z, T, hz, rfl, rfl, HT, hb7⟩ := hrel
                have hTs := HTs.out z T HT.out
                by_cases hzl : z < m3
                · have hzs : z < ss.length := by omega
                  obtain ⟨x, HXz⟩ : ∃ x, Box (ss[z]? = some x) := ⟨_, ⟨List.getElem?_eq_getElem hzs⟩⟩
                  obtain ⟨g, hA3, hgl, hcell⟩ := HO6.out.at hb7 z x HXz.out
                  subst hA3
                  have hxs := HXs.out x (List.mem_of_getElem? HXz.out)
                  obtain ⟨P, HP⟩ : ∃ P : ByteArray, Box (P = ((⟨#[45, 45]⟩ ++ EE) ++ ⟨#[13, 10]⟩ ++ x) ++ ⟨#[13, 10]⟩) := ⟨_, ⟨rfl⟩⟩
                  have HPl : Box (P.data.toList = pieceW EE.data.toList x.data.toList) := ⟨by rw [HP.out]; simp [pieceW, lead]⟩
                  have hs1 : ¬ 9223372036854775807 < 2 + EE.size := by omega
                  have hs2 : ¬ 9223372036854775807 < 2 + EE.size + 2 := by omega
                  have hs3 : ¬ 9223372036854775807 < 2 + EE.size + 2 + x.size := by omega
                  have hs4 : ¬ 9223372036854775807 < 2 + EE.size + 2 + x.size + 2 := by omega
                  have hs5 : ¬ 9223372036854775807 < T.size + (2 + EE.size + 2 + x.size + 2) := by omega
                  have HT' : Box ((T ++ P).data.toList = fieldsB ls ++ [13, 10] ++ ((ss.map lst).take (z + 1)).flatMap (pieceW EE.data.toList)) := ⟨by
                    rw [List.take_add_one, List.getElem?_map, HXz.out, List.flatMap_append]
                    have : (T ++ P).data.toList = T.data.toList ++ P.data.toList := by simp
                    rw [this, HT.out, HPl.out]
                    simp [lst]⟩
                  clear HXz hzs HT HPl
                  go_wp2
                  rw [← HP.out]
                  go_roundw
                  case rel => exact ⟨z + 1, T ++ P, by omega, by go_num, rfl, HT', hb7⟩
                  case measure => simp [intOf]; omega
                · obtain ⟨P, HP⟩ : ∃ P : ByteArray, Box (P = ((T ++ ⟨#[45, 45]⟩) ++ EE ++ ⟨#[45, 45]⟩) ++ ⟨#[13, 10]⟩) := ⟨_, ⟨rfl⟩⟩
                  have HPl : Box (P.data.toList = headW (setCT (bndS (ss.map lst)) (lh.map fl2)) ++ piecesW (bndS (ss.map lst)) (ss.map lst)) := ⟨by
                    have h1 := HT.out
                    rw [List.take_of_length_le (by rw [List.length_map]; omega)] at h1
                    have h2 : P.data.toList = T.data.toList ++ [45, 45] ++ EE.data.toList ++ [45, 45] ++ [13, 10] := by rw [HP.out]; simp
                    rw [HLS.out, h2, h1, ← HEl.out]
                    simp [piecesW, lead]⟩
                  have hs1 : ¬ 9223372036854775807 < T.size + 2 := by omega
                  have hs2 : ¬ 9223372036854775807 < T.size + 2 + EE.size := by omega
                  have hs3 : ¬ 9223372036854775807 < T.size + 2 + EE.size + 2 := by omega
                  have hs4 : ¬ 9223372036854775807 < T.size + 2 + EE.size + 2 + 2 := by omega
                  have hg07 := gr_trans hg06 (gr_below hb7 _)
                  have HC7 := Box.mk (HC6.out.below hb7 HC6.out.lt)
                  clear HT HO6 HC6 HXs HLS
                  go_wp2
                  rw [← HP.out]
                  go_ret2
                  refine ⟨?_, hg07⟩
                  rw [HRe.out]
                  exact ⟨P, rfl, HPl.out, HC7.out⟩

end Go.Proofs.YtnjjjkhhoaadfaaGreatDoor

