import Derived.Test.YtkmkhfgoihfkjaaDoorZLR
namespace Go.Proofs.YtkmkhfgoihfkjaaDoor
open Go.RowKit

/- How long what is written is. -/
theorem unescF_len : ∀ (n : Nat) (s : List UInt8), (unescF n s).length ≤ s.length
  | 0, s => by simp [unescF]
  | n + 1, s => by
    cases s with
    | nil => simp [unescF]
    | cons c r =>
      unfold unescF
      cases hf : signs.find? fun w => w.1.isPrefixOf (smallS (c :: r)) with
      | none =>
        simp only [hf, List.length_cons]
        have := unescF_len n r
        omega
      | some w =>
        simp only [hf, List.length_cons]
        have h := unescF_len n ((c :: r).drop w.1.length)
        rw [List.length_drop, List.length_cons] at h
        have hw : 1 ≤ w.1.length := by
          have := List.mem_of_find?_eq_some hf
          unfold signs at this
          simp only [List.mem_cons, List.not_mem_nil, or_false] at this
          rcases this with rfl | rfl | rfl | rfl | rfl <;> simp
        omega
theorem unescS_len (s : List UInt8) : (unescS s).length ≤ s.length := unescF_len _ _
theorem srcP_links : ∀ (its : List PItem) (k : Nat) (tl : List UInt8), ∀ q ∈ linksP k its, q.2.2.length ≤ (srcP its tl).length
  | [], _, _ => by intro q hq; cases hq
  | (c, none) :: its, k, tl => by
    intro q hq
    rw [linksP] at hq
    have := srcP_links its _ tl q hq
    rw [srcP, List.length_append]
    omega
  | (c, some (v, true)) :: its, k, tl => by
    intro q hq
    rw [linksP] at hq
    rw [srcP, List.length_append, List.length_append, List.length_cons]
    rcases List.mem_cons.1 hq with rfl | hq
    · have := unescS_len v
      show (unescS v).length ≤ _
      omega
    · have := srcP_links its _ tl q hq
      omega
  | (c, some (v, false)) :: its, k, tl => by
    intro q hq
    rw [linksP] at hq
    rw [srcP, List.length_append, List.length_append]
    rcases List.mem_cons.1 hq with rfl | hq
    · have := unescS_len v
      show (unescS v).length ≤ _
      omega
    · have := srcP_links its _ tl q hq
      omega
theorem headD_le (vs : List (List UInt8)) (M : Nat) (h : ∀ v ∈ vs, v.length ≤ M) : (vs.headD []).length ≤ M := by
  cases vs with
  | nil => simp
  | cons v vs => exact h v (by simp)
theorem outP_len (M : Nat) : ∀ (its : List PItem) (vs : List (List UInt8)) (tl : List UInt8), (∀ v ∈ vs, v.length ≤ M) → (outP its vs tl).length ≤ (srcP its tl).length + countP its * (M + 2)
  | [], _, _, _ => by simp [outP, srcP]
  | (c, none) :: its, vs, tl, h => by
    have := outP_len M its vs tl h
    rw [outP, srcP, countP, List.length_append, List.length_append]
    omega
  | (c, some (v, true)) :: its, vs, tl, h => by
    have h1 := outP_len M its vs.tail tl (fun v hv => h v (List.mem_of_mem_tail hv))
    have h2 := headD_le vs M h
    rw [outP, srcP, countP, Nat.add_mul]
    simp only [List.length_append, List.length_cons]
    omega
  | (c, some (v, false)) :: its, vs, tl, h => by
    have h1 := outP_len M its vs.tail tl (fun v hv => h v (List.mem_of_mem_tail hv))
    have h2 := headD_le vs M h
    rw [outP, srcP, countP, Nat.add_mul]
    simp only [List.length_append, List.length_cons]
    omega
theorem links_vals : ∀ (its : List PItem) (vs : List (List UInt8)) (k : Nat), vs.length = countP its → (linksP k (turned its vs)).map (fun q => q.2.2) = vs.map unescS
  | [], vs, k, h => by
    rw [countP] at h
    rw [List.eq_nil_of_length_eq_zero h]
    rfl
  | (c, none) :: its, vs, k, h => by
    rw [countP] at h
    rw [turned, linksP, links_vals its vs _ h]
  | (c, some (v, true)) :: its, vs, k, h => by
    rw [countP] at h
    cases vs with
    | nil => simp at h
    | cons x vs =>
      rw [turned, linksP, List.map_cons, List.map_cons, List.tail_cons, links_vals its vs _ (by simpa using h)]
      rfl
  | (c, some (v, false)) :: its, vs, k, h => by
    rw [countP] at h
    cases vs with
    | nil => simp at h
    | cons x vs =>
      rw [turned, linksP, List.map_cons, List.map_cons, List.tail_cons, links_vals its vs _ (by simpa using h)]
      rfl

/- A page beside the same with other values. -/
structure TurnAt (s t : List UInt8) (lks mks : List (Nat × Nat × List UInt8)) (a b : Nat) : Prop where
  ex : ∃ its evs tl pend pend', s.drop a = pend ++ srcP its tl ∧ t.drop b = pend' ++ outP its evs tl ∧ lks = linksP (a + pend.length) its ∧ mks = linksP (b + pend'.length) (turned its evs) ∧ (pend' = pend ∨ (pend = [] ∧ pend' = [34])) ∧ a ≤ s.length ∧ b ≤ t.length
theorem turn_begin (s tl : List UInt8) (its : List PItem) (evs : List (List UInt8)) (h : s = srcP its tl) : TurnAt s (outP its evs tl) (linksP 0 its) (linksP 0 (turned its evs)) 0 0 :=
  ⟨its, evs, tl, [], [], by rw [List.drop_zero]; exact h, by rw [List.drop_zero]; rfl, rfl, rfl, .inl rfl, Nat.zero_le _, Nat.zero_le _⟩
def nearS (x y : List UInt8) : Prop := y = x ∨ y = x ++ [34] ∨ y = 34 :: x ∨ y = 34 :: (x ++ [34])
theorem turn_step {s t V V' : List UInt8} {lks mks : List (Nat × Nat × List UInt8)} {p n p' n' a b : Nat} (h : TurnAt s t ((p, n, V) :: lks) ((p', n', V') :: mks) a b) :
    a ≤ p ∧ p + n ≤ s.length ∧ b ≤ p' ∧ p' + n' ≤ t.length ∧ nearS ((s.drop a).take (p - a)) ((t.drop b).take (p' - b)) ∧ TurnAt s t lks mks (p + n) (p' + n') := by
  obtain ⟨its, evs, tl, pend, pend', h1, h2, h3, h4, h5, ha, hb⟩ := h.ex
  rcases next_link its with ⟨k1, _⟩ | ⟨c, v, op, cl, cl', its', k0, k1, k2, k3, k4, k5⟩
  · have := congrArg List.length h3
    rw [links_len, k1] at this
    simp at this
  · rw [k3] at h3
    rw [k5] at h4
    simp only [List.cons.injEq, Prod.mk.injEq] at h3 h4
    obtain ⟨⟨rfl, rfl, rfl⟩, rfl⟩ := h3
    obtain ⟨⟨rfl, rfl, rfl⟩, rfl⟩ := h4
    rw [k2] at h1
    rw [k4] at h2
    have e1 : s.drop a = (pend ++ c) ++ (v ++ (cl ++ srcP its' tl)) := by rw [h1]; simp
    have e2 : t.drop b = (pend' ++ (c ++ op)) ++ (evs.headD [] ++ (cl' ++ outP its' evs.tail tl)) := by rw [h2]; simp
    have l1 := congrArg List.length e1
    have l2 := congrArg List.length e2
    rw [List.length_drop] at l1 l2
    simp only [List.length_append] at l1 l2
    have d1 := drop_on s _ v _ (drop_on s a _ _ e1)
    have d2 := drop_on t _ (evs.headD []) _ (drop_on t b _ _ e2)
    simp only [List.length_append] at d1 d2
    have t1 : (s.drop a).take (a + pend.length + c.length - a) = pend ++ c := by rw [e1]; exact List.take_left' (by simp; omega)
    have t2 : (t.drop b).take (b + pend'.length + c.length + op.length - b) = pend' ++ (c ++ op) := by rw [e2]; exact List.take_left' (by simp; omega)
    refine ⟨by omega, by omega, by omega, by omega, ?_, ⟨its', evs.tail, tl, cl, cl', ?_, ?_, rfl, rfl, ?_, by omega, by omega⟩⟩
    · rw [t1, t2]
      rcases h5 with rfl | ⟨rfl, rfl⟩ <;> rcases k1 with ⟨rfl, rfl, _⟩ | ⟨rfl, rfl, rfl⟩
      · exact .inl (by simp)
      · exact .inr (.inl (by simp))
      · exact .inr (.inr (.inl (by simp)))
      · exact .inr (.inr (.inr (by simp)))
    · rw [← d1]; congr 1; omega
    · rw [← d2]; congr 1; omega
    · rcases k1 with ⟨_, rfl, _⟩ | ⟨_, rfl, rfl⟩
      · exact .inl rfl
      · exact .inr ⟨rfl, rfl⟩
theorem turn_end {s t : List UInt8} {mks : List (Nat × Nat × List UInt8)} {a b : Nat} (h : TurnAt s t [] mks a b) : (s.drop a).isSuffixOf (t.drop b) = true ∧ a ≤ s.length ∧ b ≤ t.length ∧ t.length - b ≤ s.length - a + 1 := by
  obtain ⟨its, evs, tl, pend, pend', h1, h2, h3, h4, h5, ha, hb⟩ := h.ex
  rcases next_link its with ⟨k1, k2⟩ | ⟨c, v, op, cl, cl', its', k0, k1, k2, k3, k4, k5⟩
  · rw [k2] at h2
    have l1 := congrArg List.length h1
    have l2 := congrArg List.length h2
    rw [List.length_drop, List.length_append] at l1 l2
    refine ⟨?_, ha, hb, ?_⟩
    · rw [h1, h2, List.isSuffixOf_iff_suffix]
      rcases h5 with rfl | ⟨rfl, rfl⟩
      · exact List.suffix_refl _
      · exact ⟨[34], rfl⟩
    · rcases h5 with rfl | ⟨rfl, rfl⟩
      · omega
      · simp at l1 l2; omega
  · rw [k3] at h3; cases h3

/- Two lists of texts of the call's own, side by side. -/
def DisS (a b : Value) : Prop := ∀ i, a.ownBlock = some i → b.ownBlock ≠ some i
theorem DisS.symm {a b : Value} (h : DisS a b) : DisS b a := fun i hb ha => h i ha hb
theorem own_otherS {w w' : World} {B : Nat} {v : Value} {l : List ByteArray} {r : Option Nat} (h : OwnS w B v l) (hg : w.grownBy w' r) (hd : ∀ i, v.ownBlock = some i → r ≠ some i) : OwnS w' B v l := by
  refine World.ownsRow.kept h hg ?_
  cases hv : v.ownBlock with
  | none => exact .inl rfl
  | some i => exact .inr fun e => hd i hv e.symm
structure TwoS (W : World) (B : Nat) (v1 v2 : Value) (l1 l2 : List ByteArray) : Prop where
  o : OwnS W B v1 l1
  c : OwnS W B v2 l2
  d : DisS v1 v2
theorem TwoS.swap {W : World} {B : Nat} {v1 v2 : Value} {l1 l2 : List ByteArray} (h : TwoS W B v1 v2 l1 l2) : TwoS W B v2 v1 l2 l1 := ⟨h.c, h.o, h.d.symm⟩
theorem TwoS.alloc {W : World} {B : Nat} {v1 v2 : Value} {l1 l2 : List ByteArray} (h : TwoS W B v1 v2 l1 l2) (o : Obj) : TwoS (W.alloc o) B v1 v2 l1 l2 := ⟨World.ownsRow.alloc h.o _, World.ownsRow.alloc h.c _, h.d⟩
theorem TwoS.drew {W : World} {B : Nat} {v1 v2 : Value} {l1 l2 : List ByteArray} (h : TwoS W B v1 v2 l1 l2) : TwoS W.drew B v1 v2 l1 l2 := ⟨h.o, h.c, h.d⟩
theorem TwoS.below {W W' : World} {B : Nat} {v1 v2 : Value} {l1 l2 : List ByteArray} (h : TwoS W B v1 v2 l1 l2) (hb : Below W.heap.size W W') : TwoS W' B v1 v2 l1 l2 := ⟨h.o.below hb (Nat.le_refl _), h.c.below hb (Nat.le_refl _), h.d⟩
theorem TwoS.app2 {W w' : World} {B : Nat} {v1 v2 v' : Value} {l1 l2 l' : List ByteArray} (h : TwoS W B v1 v2 l1 l2) (ho : OwnS w' B v' l') (hg : W.grownBy w' v2.ownBlock) (hv : v'.ownBlock = v2.ownBlock ∨ v'.ownBlock = some W.heap.size) : TwoS w' B v1 v' l1 l' := by
  refine ⟨own_otherS h.o hg (fun i hi => h.d i hi), ho, fun i hi => ?_⟩
  rcases hv with hv | hv
  · rw [hv]; exact h.d i hi
  · rw [hv]; intro e; have := (World.ownsRow.lt h.o i hi).2; simp at e; omega
theorem append_blockS {P : Program} (w : World) (base : Nat) (t ty e : TypeId) (i : TypeInfo) (z : Value) (size bytes : Nat) (ht : P.underlying t = some (.slice e)) (hi : P.info? e = some i) (hz : i.zero = some z)
    (hsize : i.size = size) (hby : i.bytes = bytes)
    (v : Value) (n : Nat) (xs : List Value) (hown : w.ownsRow base e size v n xs)
    (a : Addr) (m c : Nat) (news : List Value) (hl : news.length = m * size) (hnews : ∀ j u, news[j]? = some u → w.cell? (a.add j) = some u) (h1 : ∀ u ∈ news, u.oneCell' = true) (hm : 0 < m)
    (h63 : n + m ≤ maxLen) (hbytes : (n + m) * bytes ≤ 140737488355328) (v' : Value) (w' : World) (hr : (Builtin.append_ #[t, t] ty #[v, .slice (some a) m c]).run P w = .ok v' w') : v'.ownBlock = v.ownBlock ∨ v'.ownBlock = some w.heap.size := by
  subst hsize
  subst hby
  have hsmall : n + m ≤ 9223372036854775807 := by simp only [maxLen] at h63; omega
  rcases hown.2 with ⟨rfl, rfl⟩ | ⟨g, cap, cur, rfl, hbg, hg, hnc, hcm, hcs, htake⟩
  · have h2 := run_append_nil (P := P) w t ty e i z ht hi hz a m c news hl hnews (by omega) (by omega) (by have hb := hbytes; simp only [Nat.zero_add] at hb; omega)
    rw [h2] at hr
    injection hr with e1 e2
    rw [← e1]
    exact .inr rfl
  · by_cases hroom : n + m ≤ cap
    · have hfit : n * i.size + news.length ≤ cur.size := by rw [hl, hcs, ← Nat.add_mul]; exact Nat.mul_le_mul_right _ hroom
      have h2 := run_append_room (P := P) w t ty e i ht hi g n cap cur hg a m c news hl hnews h1 hroom hfit
      rw [h2] at hr
      injection hr with e1 e2
      rw [← e1]
      exact .inl rfl
    · have holds : ∀ j u, xs[j]? = some u → w.cell? ((⟨g, 0, none⟩ : Addr).add j) = some u := hown.cells (g := g) rfl
      have h2 := run_append_grow (P := P) w t ty e i z ht hi hz ⟨g, 0, none⟩ n cap xs hown.1 holds a m c news hl hnews (by omega) (by omega) (growslice_fits (by omega) hbytes)
      rw [h2] at hr
      injection hr with e1 e2
      rw [← e1]
      exact .inr rfl
/-- 'append(v, t)', t a text, as a step of a region that draws its order, with where the row lies then. -/
theorem step_appS {ops : Array Oper} {o : Oper} {a : Act} {K : Act → World → Prop} {Q : Exit → Act → World → Prop} {E : Prop} (W : World) (hgd : o.guard = none) (s x : Operand) (ho : o.op = .call { callee := .builtin .append, args := #[s, x], argTypes := #[22, 22] })
    (B : Nat) (v : Value) (L : List ByteArray) (hs : a.eval s = v) (hown : OwnS W B v L) (b c : Nat) (t : ByteArray) (hx : a.eval x = .slice (some ⟨b, 0, none⟩) 1 c) (h0 : W.cell? ⟨b, 0, none⟩ = some (.string t)) (hl : L.length + 1 ≤ 1000000000) (hB : B ≤ W.heap.size)
    (h : ∀ v' w', OwnS w' B v' (L ++ [t]) → W.grownBy w' v.ownBlock → (v'.ownBlock = v.ownBlock ∨ v'.ownBlock = some W.heap.size) → K (a.put o.dst v') w') : if Region.wanted o (yielded ops a.tmps) = true then Oper.wp Tryd.prog o a W K Q else E := by
  have hw : Region.wanted o (yielded ops a.tmps) = true := by simp [Region.wanted, hgd]
  rw [if_pos hw]
  obtain ⟨i0, hi, hz0, hz1, hz2⟩ := info_parts Tryd.infoStr
  have hne : ∀ j u, [Value.string t][j]? = some u → W.cell? ((⟨b, 0, none⟩ : Addr).add j) = some u := by
    intro j u hj
    have hjl : j < 1 := (List.getElem?_eq_some_iff.1 hj).1
    rw [Addr.add_lit, Nat.zero_add]
    match j, hjl, hj with
    | 0, _, hj => rw [h0]; exact hj
  have hone : ∀ u ∈ [Value.string t], u.oneCell' = true := by
    intro u hu
    rw [List.mem_singleton.1 hu]; rfl
  obtain ⟨v', w', hr, k2, k3, _⟩ := run_append_own (P := Tryd.prog) W B 22 o.type 9 i0 (.string ⟨#[]⟩) 1 16 Tryd.underlying22 hi hz0 hz1 hz2 rfl (by decide) v L.length (L.map Value.string) hown ⟨b, 0, none⟩ 1 c [.string t] rfl hne hone (by unfold maxLen; omega) (by omega) hB
  have hblk := append_blockS W B 22 o.type 9 i0 (.string ⟨#[]⟩) 1 16 Tryd.underlying22 hi hz0 hz1 hz2 v L.length (L.map Value.string) hown ⟨b, 0, none⟩ 1 c [.string t] rfl hne hone (by decide) (by unfold maxLen; omega) (by omega) v' w' hr
  unfold Oper.wp execOp
  simp only [ho, resolve, invoke, builtin, Sem.run_bind, Sem.run_pure, Result.andThen_ok, List.map_toArray, List.map_cons, List.map_nil, hs, hx, hr]
  refine h v' w' ?_ k3 hblk
  unfold OwnS
  rw [List.length_append, List.map_append]
  exact k2

end Go.Proofs.YtkmkhfgoihfkjaaDoor
