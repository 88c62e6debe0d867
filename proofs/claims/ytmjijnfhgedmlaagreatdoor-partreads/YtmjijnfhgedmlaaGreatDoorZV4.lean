import Derived.Test.YtmjijnfhgedmlaaGreatDoorZ16
namespace Go.Proofs.YtmjijnfhgedmlaaGreatDoor
open Go.RowKit

theorem OwnP.slice {w : World} {B : Nat} {v : Value} {L : List P4} (h : OwnP w B v L) : ∃ A n cap, v = .slice A n cap := by
  rcases h.shape with ⟨rfl, _⟩ | ⟨g, cap, rfl, _⟩
  · exact ⟨_, _, _, rfl⟩
  · exact ⟨_, _, _, rfl⟩
/-- Texts that lie in blocks of a kind. -/
def PcS (wr : World) (S : Nat → Prop) (A : Option Addr) (ss : List ByteArray) : Prop := ∀ j (hj : j < ss.length), ∃ g, A = some ⟨g, 0, none⟩ ∧ S g ∧ wr.cell? ⟨g, j, none⟩ = some (.string ss[j])
theorem PcS.abv {w w' : World} {S : Nat → Prop} {A : Option Addr} {ss : List ByteArray} (h : PcS w S A ss) (ha : Abv S w w') : PcS w' S A ss := by
  intro j hj
  obtain ⟨g, e, hs, hc⟩ := h j hj
  exact ⟨g, e, hs, ha.cell hs hc⟩
/-- What stands while the parts of a part are read. -/
structure Lp (w wr : World) (z5 bc c d : Nat) (vh : Value) (vp : Value) (L : List P4) (acc : List PT) (M : List Fl) (Av : Option Addr) (ss : List ByteArray) : Prop where
  x : Cx w wr bc c (obj4 vh (.string ⟨#[]⟩) (.bool true) vp)
  o : OwnP wr z5 vp L
  p : PVL wr (fun i => z5 ≤ i ∧ some i ≠ vp.ownBlock) d L acc
  f : FLB wr (fun i => w.heap.size < i ∧ i < z5) vh M
  s : PcS wr (fun i => w.heap.size < i ∧ i < z5) Av ss
  z : w.heap.size < z5 ∧ z5 ≤ wr.heap.size
theorem Lp.deep {w wr w' : World} {z5 bc c c' d : Nat} {vh vp : Value} {L : List P4} {acc : List PT} {M : List Fl} {Av : Option Addr} {ss : List ByteArray} (h : Lp w wr z5 bc c d vh vp L acc M Av ss) (hg : wr.grownBy w' (some bc)) (hc : CI w' bc c') : Lp w w' z5 bc c' d vh vp L acc M Av ss := by
  have h1 := h.x.lw
  have h2 := h.z
  exact ⟨h.x.deep hg hc, h.o.abv (abv_gr hg (fun i hi e => by simp at e; omega)), h.p.abv (abv_gr hg (fun i hi e => by simp at e; omega)), h.f.abv (abv_gr hg (fun i hi e => by simp at e; omega)), h.s.abv (abv_gr hg (fun i hi e => by simp at e; omega)), h2.1, Nat.le_trans h2.2 hg.size⟩
theorem Lp.own6 {w wr w' : World} {z5 bc c d : Nat} {vh vp : Value} {L : List P4} {acc : List PT} {M : List Fl} {Av : Option Addr} {ss : List ByteArray} (h : Lp w wr z5 bc c d vh vp L acc M Av ss) (hg : wr.grownBy w' (some w.heap.size)) (hk : w'.heap[w.heap.size]? = some (obj4 vh (.string ⟨#[]⟩) (.bool true) vp)) : Lp w w' z5 bc c d vh vp L acc M Av ss := by
  have h1 := h.x.lw
  have h2 := h.z
  exact ⟨h.x.own6 hg hk, h.o.abv (abv_gr hg (fun i hi e => by simp at e; omega)), h.p.abv (abv_gr hg (fun i hi e => by simp at e; omega)), h.f.abv (abv_gr hg (fun i hi e => by simp at e; omega)), h.s.abv (abv_gr hg (fun i hi e => by simp at e; omega)), h2.1, Nat.le_trans h2.2 hg.size⟩
theorem Lp.app {w wr W w' : World} {z5 bc c d : Nat} {vh vp v' : Value} {L : List P4} {acc : List PT} {M : List Fl} {Av : Option Addr} {ss : List ByteArray} (h : Lp w wr z5 bc c d vh vp L acc M Av ss) (hb : Below wr.heap.size wr W) (q : P4) (p : PT) (z6 : Nat) (h6 : z5 ≤ z6 ∧ ∀ i, vp.ownBlock = some i → i < z6) (hp : PV wr (fun i => z6 ≤ i) d q p) (ho : OwnP w' z5 v' (L ++ [q])) (hg : W.grownBy w' vp.ownBlock) (hv : v'.ownBlock = vp.ownBlock ∨ v'.ownBlock = some W.heap.size) :
    Lp w (w'.setCell ⟨w.heap.size, 3, none⟩ v') z5 bc c d vh v' (L ++ [q]) (acc ++ [p]) M Av ss ∧ Cx w w' bc c (obj4 vh (.string ⟨#[]⟩) (.bool true) vp) := by
  have h1 := h.x.lw
  obtain ⟨h2, h3⟩ := h.z
  have hown : ∀ i, vp.ownBlock = some i → z5 ≤ i ∧ i < wr.heap.size := fun i e => h.o.lt i e
  have hx1 := h.x.below hb
  have hx2 : Cx w w' bc c (obj4 vh (.string ⟨#[]⟩) (.bool true) vp) := by
    cases hvp : vp.ownBlock with
    | none => rw [hvp] at hg; exact hx1.below (below_none hg)
    | some g => rw [hvp] at hg; have := (hown g hvp).1; exact hx1.other hg (by omega)
  have hgs := gr_set w' w.heap.size 3 v'
  have hab : ∀ S : Nat → Prop, (∀ i, S i → some i ≠ vp.ownBlock) → (∀ i, S i → i ≠ w.heap.size) → Abv S wr (w'.setCell ⟨w.heap.size, 3, none⟩ v') := by
    intro S hS1 hS2 i hi hl
    rw [hgs.block i (by have := hb.size; have := hg.size; omega) (by simp; exact hS2 i hi), hg.block i (by have := hb.size; omega) (hS1 i hi)]
    exact hb.block i hl
  refine ⟨⟨hx2.own6 hgs (set_heap3 _ _ _ _ _ _ _ hx2.k), ?_, ?_, h.f.abv (hab _ (fun i hi e => by have := (hown i e.symm).1; omega) (fun i hi => by omega)), h.s.abv (hab _ (fun i hi e => by have := (hown i e.symm).1; omega) (fun i hi => by omega)), h2, ?_⟩, hx2⟩
  · exact ho.abv (abv_gr hgs (fun i hi e => by simp at e; omega))
  · have hp1 : PV wr (fun i => z5 ≤ i ∧ some i ≠ vp.ownBlock) d q p := PV.mono (fun i _ hi => ⟨Nat.le_trans h6.1 hi, fun e => by have := h6.2 i e.symm; have : z6 ≤ i := hi; omega⟩) _ _ _ hp
    have hp2 := (h.p.snoc q p hp1).mono (T := fun i => (z5 ≤ i ∧ some i ≠ vp.ownBlock) ∧ i < wr.heap.size) (fun i h1 h2 => ⟨h2, h1⟩)
    have hp3 := hp2.abv (hab _ (fun i hi => hi.1.2) (fun i hi => by have := hi.1.1; omega))
    refine hp3.mono ?_
    rintro i _ ⟨⟨a, b⟩, c⟩
    refine ⟨a, fun e => ?_⟩
    rcases hv with hv | hv
    · exact b (e.trans hv)
    · rw [hv] at e; have := hb.size; simp at e; omega
  · have := hb.size; have := hg.size; simp; omega
theorem rr_many {w Wf : World} {bc n d z5 : Nat} {A : Option Addr} {m cap : Nat} {vp : Value} {L : List P4} {acc : List PT} {M : List Fl} {Av : Option Addr} {ss : List ByteArray} {O : Except Nat (PT × Nat)} (hO : O = .ok (.mk (M.map fl2) [] true acc, n)) (h : Lp w Wf z5 bc n d (.slice A m cap) vp L acc M Av ss) (hH : Half M) (hl : L.length ≤ 100001) :
    RrPost O (d + 1) bc w.heap.size (.returned (.tuple #[.agg #[.slice A m cap, .string ⟨#[]⟩, .bool true, vp], .int .i64 0])) Wf := by
  rw [hO]
  obtain ⟨A2, cap2, hvp, hcap2, hpc⟩ := h.o.pc
  have h2 := h.z
  have hlL : L.length = acc.length := h.p.1
  refine ⟨(.slice A m cap, .string ⟨#[]⟩, .bool true, vp), rfl, ⟨A2, cap2, ⟨#[]⟩, M, rfl, rfl, by rw [hvp, hlL], h.f.mono (fun i _ hi => Nat.le_of_lt hi.1), rfl, hH, rfl, by omega, by omega, fun j hj => ⟨L[j]'(by omega), (hpc j (by omega)).mono (fun i _ e => by have := (h.o.lt i e.symm).1; show w.heap.size ≤ i; omega), PV.mono (fun i _ hi => by have := hi.1; show w.heap.size ≤ i; omega) _ _ _ (h.p.2 j (by omega) hj)⟩⟩, h.x.c⟩
theorem rr_leaf {w Wf : World} {bc n d c2 : Nat} {A : Option Addr} {m cap : Nat} {X : ByteArray} {M : List Fl} {O : Except Nat (PT × Nat)} (hO : O = .ok (.mk (M.map fl2) X.data.toList false [], n)) (hX : Cx w Wf bc n (obj4 (.slice A m cap) (.string X) (.bool false) (.slice none 0 0))) (hF : FLB Wf (fun i => c2 < i) (.slice A m cap) M) (hc : w.heap.size ≤ c2) (hH : Half M) :
    RrPost O (d + 1) bc w.heap.size (.returned (.tuple #[.agg #[.slice A m cap, .string X, .bool false, .slice none 0 0], .int .i64 0])) Wf := by
  rw [hO]
  exact ⟨(.slice A m cap, .string X, .bool false, .slice none 0 0), rfl, ⟨none, 0, X, M, rfl, rfl, rfl, hF.mono (fun i _ hi => by show w.heap.size ≤ i; have : c2 < i := hi; omega), rfl, hH, rfl, Nat.le_refl _, by simp, fun k hk => absurd hk (by simp)⟩, hX.c⟩

set_option maxHeartbeats 4000000 in
set_option maxRecDepth 100000 in
theorem rread_step (d : Nat) (ih : RrAt d) : RrAt (d + 1) := by
  intro s n bc k w hs hn hk hc hG hbc
  by_cases h40 : 40 ≤ n
  · have e : readU (d + 1) n s.data.toList = .error 4 := by rw [readU, if_pos h40]
    rw [e]
    exact rread_no _ s n bc k w (by omega) (by omega) (.inl h40) hc
  have hbl := hc.lt
  have hb0 := below_oneP w zeroO
  have hc0 := hc.below hb0 hc.lt
  have hsw : (w.setCell ⟨bc, 0, none⟩ (.int .i64 ((n : Int) + 1))).heap.size = w.heap.size := by simp
  have hb1' := below_oneP (w.setCell ⟨bc, 0, none⟩ (.int .i64 ((n : Int) + 1))) zeroO
  have HC1 : Box (CI ((w.setCell ⟨bc, 0, none⟩ (.int .i64 ((n : Int) + 1))).alloc zeroO) bc (n + 1)) := ⟨CI.below (hc.set (n + 1)) hb1' (by show bc < (w.setCell ⟨bc, 0, none⟩ (.int .i64 ((n : Int) + 1))).heap.size; omega)⟩
  have hg01 : w.grownBy ((w.setCell ⟨bc, 0, none⟩ (.int .i64 ((n : Int) + 1))).alloc zeroO) (some bc) := gr_trans (gr_set _ _ _ _) (gr_below hb1' _)
  have HM1 : Box (Max ((w.setCell ⟨bc, 0, none⟩ (.int .i64 ((n : Int) + 1))).alloc zeroO)) := ⟨hG.below (below_gr hg01 (Nat.le_refl _) hbl) hbc⟩
  have hk1 : ((w.setCell ⟨bc, 0, none⟩ (.int .i64 ((n : Int) + 1))).alloc zeroO).heap[w.heap.size]? = some (obj4 (.slice none 0 0) (.string ⟨#[]⟩) (.bool false) (.slice none 0 0)) := by
    have := heap_oneP (w.setCell ⟨bc, 0, none⟩ (.int .i64 ((n : Int) + 1))) zeroO
    rw [hsw] at this
    exact this
  obtain ⟨c0, f0, l0⟩ := hc0
  have IH := Box.mk ih
  obtain ⟨O, HO⟩ : ∃ O, Box (O = readU (d + 1) n s.data.toList) := ⟨_, ⟨rfl⟩⟩
  rw [← HO.out]
  have HO1 : Box (O = match headR s.data.toList with
    | .error e => .error e
    | .ok h => match maniesS h.1 with
      | .error e => .error e
      | .ok none => match decodeU h.1 h.2 with
        | .error e => .error e
        | .ok b => .ok (.mk h.1 b false [], n + 1)
      | .ok (some b) => match betweenS b h.2 with
        | none => .error 3
        | some xs => match allG (readU d) xs (n + 1) with
          | .error e => .error e
          | .ok r => .ok (.mk h.1 [] true r.1, r.2)) := ⟨by rw [HO.out, readU, if_neg h40]; rfl⟩
  have hk4 : ¬ 4 ≤ k := by omega
  have HSZ : Box (w.heap.size + 1 = ((w.setCell ⟨bc, 0, none⟩ (.int .i64 ((n : Int) + 1))).alloc zeroO).heap.size) := ⟨by simp⟩
  clear hc hG ih HO hsw hb1' hb0
  have HX1 : Box (Cx w ((w.setCell ⟨bc, 0, none⟩ (.int .i64 ((n : Int) + 1))).alloc zeroO) bc (n + 1) (obj4 (.slice none 0 0) (.string ⟨#[]⟩) (.bool false) (.slice none 0 0))) := ⟨hg01, HC1.out, HM1.out, hk1, hbc, hbl⟩
  clear HC1 hg01 hk1
  go_enter Tryz.func37, Tryz.ntmps37
  go_wp2_with fail
  refine (readHead_any s _ (by omega) HM1.out).mono ?_
  rintro e w2 ⟨⟨ln, hr, rfl⟩ | ⟨v, rr, L, rfl, hr, hown, hT, hrr⟩, hb2⟩
  · have HO2 : Box (O = .error 3) := ⟨by rw [HO1.out, headR, hr]⟩
    have HX2 := Box.mk (HX1.out.below hb2)
    obtain ⟨x0, x1, x2, x3, xf⟩ := b4_of HX2.out.k
    have hlt2 := HX2.out.lt
    clear HO1 hr HX1 HM1 IH hb2 HSZ
    go_wp2
    go_region
    go_wp2
    refine ret_at ?_
    intro Wf hWf
    have hX : Cx w Wf bc (n + 1) (obj4 (.slice none 0 0) (.string ⟨#[]⟩) (.bool false) (.slice none 0 0)) := by
      rw [hWf]
      exact ((HX2.out.own6 (gr_set4 _ _ _ _ _ _) (set4_heap _ _ _ _ _ _ _ _ _ _ HX2.out.k)).below (below_oneP _ _)).drew
    clear hWf x0 x1 x2 x3 xf
    obtain ⟨x0, x1, x2, x3, xf⟩ := b4_of hX.k
    exact bodyPost_ret (v := .tuple #[.agg #[.slice none 0 0, .string ⟨#[]⟩, .bool false, .slice none 0 0], .int .i64 3]) (by simp [results, Tryz.results37, go_sem, x0, x1, x2, x3]) rfl ⟨by rw [HO2.out]; exact ⟨_, _, _, _, _, _, _, _, rfl⟩, hX.g⟩
  · have HX2 := Box.mk (HX1.out.below hb2)
    have hlt2 := HX2.out.lt
    have HF := Box.mk (hown.fl.below (below_oneP w2 (.cells #[.int .i64 0, .int .i64 (-1)] 55)) (Nat.le_refl _))
    have HT := Box.mk hT
    have HR := Box.mk hrr
    have hh : headR s.data.toList = if firstP okC L = L.length then .ok ((L.map fl2).map fun f => (f.1, trimS f.2), rr.data.toList) else .error 1 := by
      rw [headR, hr]
      simp only [all_first, decide_eq_true_eq, hrr]
    have HH0 := Box.mk hh
    have hlen : ∀ M : List Fl, M.map fl2 = (L.map fl2).map (fun f => (f.1, trimS f.2)) → firstP okC L = L.length → Half M ∧ rr.size ≤ 3000 := by
      intro M hM hf
      rw [if_pos hf] at hh
      have h1 := headR_len _ _ hh
      refine ⟨half_of s.data.toList (by rw [size_list]; omega) _ ⟨h1.1, h1.2.1⟩ M hM, ?_⟩
      have := h1.2.2
      simp only at this
      rw [size_list, size_list] at this
      omega
    have HLN := Box.mk hlen
    clear hr hown hT hrr HX1 HM1 hlen HSZ hh
    go_wp2_with fail
    refine (rClean_any v L _ HT.out HF.out).mono ?_
    rintro e w3 ⟨⟨hlt3, rfl⟩ | ⟨v', M, hfe, rfl, hown, hM, hTM⟩, hb3⟩
    · have HO3 : Box (O = .error 1) := ⟨by rw [HO1.out, HH0.out, if_neg (by omega)]⟩
      have HX3 := Box.mk ((HX2.out.below (below_oneP _ _)).below hb3)
      obtain ⟨x0, x1, x2, x3, xf⟩ := b4_of HX3.out.k
      obtain ⟨y0, y1, yf⟩ := b2_of ((hb3.block w2.heap.size (by simp)).trans (heap_oneP w2 _))
      have hlt3' := HX3.out.lt
      clear HO1 HH0 HLN HF HT IH hb3
      go_wp2
      go_region
      go_wp2
      refine ret_at ?_
      intro Wf hWf
      have hX : Cx w Wf bc (n + 1) (obj4 (.slice none 0 0) (.string ⟨#[]⟩) (.bool false) (.slice none 0 0)) := by
        rw [hWf]
        have h5 := (HX3.out.other (gr_set w3 w2.heap.size 0 (.int .i64 1)) hlt2).other (gr_set _ w2.heap.size 1 (.int .i64 (firstP okC L))) hlt2
        exact (h5.own6 (gr_set4 _ _ _ _ _ _) (set4_heap _ _ _ _ _ _ _ _ _ _ h5.k)).drew
      clear hWf x0 x1 x2 x3 xf y0 y1 yf
      obtain ⟨x0, x1, x2, x3, xf⟩ := b4_of hX.k
      exact bodyPost_ret (v := .tuple #[.agg #[.slice none 0 0, .string ⟨#[]⟩, .bool false, .slice none 0 0], .int .i64 1]) (by simp [results, Tryz.results37, go_sem, x0, x1, x2, x3]) rfl ⟨by rw [HO3.out]; exact ⟨_, _, _, _, _, _, _, _, rfl⟩, hX.g⟩
    · obtain ⟨hHalf, hrs⟩ := HLN.out M (by rw [hM, List.map_map]; rfl) hfe
      have HO3 : Box (O = match maniesS (M.map fl2) with
        | .error e => .error e
        | .ok none => match decodeU (M.map fl2) rr.data.toList with
          | .error e => .error e
          | .ok b => .ok (.mk (M.map fl2) b false [], n + 1)
        | .ok (some b) => match betweenS b rr.data.toList with
          | none => .error 3
          | some xs => match allG (readU d) xs (n + 1) with
            | .error e => .error e
            | .ok r => .ok (.mk (M.map fl2) [] true r.1, r.2)) := ⟨by
        rw [HO1.out, HH0.out, if_pos hfe, show (L.map fl2).map (fun f => (f.1, trimS f.2)) = M.map fl2 by rw [hM, List.map_map]; rfl]⟩
      have HX3 := Box.mk ((HX2.out.below (below_oneP _ _)).below hb3)
      obtain ⟨x0, x1, x2, x3, xf⟩ := b4_of HX3.out.k
      obtain ⟨y0, y1, yf⟩ := b2_of ((hb3.block w2.heap.size (by simp)).trans (heap_oneP w2 _))
      have hlt3' := HX3.out.lt
      have HX4 : Box (Cx w ((w3.setCell ⟨w2.heap.size, 0, none⟩ (.int .i64 0)).setCell ⟨w2.heap.size, 1, none⟩ (.int .i64 (-1))) bc (n + 1) (obj4 (.slice none 0 0) (.string ⟨#[]⟩) (.bool false) (.slice none 0 0))) := ⟨(HX3.out.other (gr_set w3 w2.heap.size 0 (.int .i64 0)) hlt2).other (gr_set _ w2.heap.size 1 (.int .i64 (-1))) hlt2⟩
      have HF4 : Box (FLB ((w3.setCell ⟨w2.heap.size, 0, none⟩ (.int .i64 0)).setCell ⟨w2.heap.size, 1, none⟩ (.int .i64 (-1))) (fun i => w2.heap.size < i) v' M) := ⟨(hown.flb.mono (fun i _ hi => by have : (w2.alloc (.cells #[.int .i64 0, .int .i64 (-1)] 55)).heap.size ≤ i := hi; rw [size_oneP] at this; show w2.heap.size < i; omega)).abv (abv_gr (r := some w2.heap.size) (gr_trans (gr_set _ _ _ _) (gr_set _ _ _ _)) (fun i hi e => by simp at e; omega))⟩
      have HHf := Box.mk hHalf
      obtain ⟨A, m, cap, hv⟩ : ∃ A m cap, v' = .slice A m cap := by obtain ⟨A, cap, hv, _⟩ := HF4.out; exact ⟨A, _, cap, hv⟩
      subst hv
      clear HO1 HH0 HLN HF HT hb3 HX2 HX3 hfe hM hTM hown hHalf
      go_wp2_with fail
      refine (rmanies_any _ M _ HHf.out HF4.out.fl HX4.out.m).mono ?_
      rintro e w4 ⟨hE, hb4⟩
      have HX5 := Box.mk (HX4.out.below hb4)
      have HF5 := Box.mk (HF4.out.abv (abv_below hb4))
      have hlt5 := HX5.out.lt
      obtain ⟨z0, z1, z2, z3, zf⟩ := b4_of HX5.out.k
      clear HX4 HF4 x0 x1 x2 x3 xf y0 y1 yf hb4
      unfold MPostR at hE
      cases hm : maniesS (M.map fl2) with
      | error c =>
        rw [hm] at hE
        obtain rfl := hE
        have HO4 : Box (O = .error c) := ⟨by rw [HO3.out, hm]⟩
        obtain rfl := maniesS_err _ _ hm
        clear HO3 hm
        go_wp2
        refine ret_at ?_
        intro Wf hWf
        have hX : Cx w Wf bc (n + 1) (obj4 (.slice none 0 0) (.string ⟨#[]⟩) (.bool false) (.slice none 0 0)) := by
          rw [hWf]
          exact HX5.out.own6 (gr_set4 _ _ _ _ _ _) (set4_heap _ _ _ _ _ _ _ _ _ _ HX5.out.k)
        clear hWf z0 z1 z2 z3 zf
        obtain ⟨x0, x1, x2, x3, xf⟩ := b4_of hX.k
        exact bodyPost_ret (v := .tuple #[.agg #[.slice none 0 0, .string ⟨#[]⟩, .bool false, .slice none 0 0], .int .i64 3]) (by simp [results, Tryz.results37, go_sem, x0, x1, x2, x3]) rfl ⟨by rw [HO4.out]; exact ⟨_, _, _, _, _, _, _, _, rfl⟩, hX.g⟩
      | ok o =>
        rw [hm] at hE
        cases o with
        | none =>
          obtain rfl := hE
          have HO4 : Box (O = match decodeU (M.map fl2) rr.data.toList with
            | .error e => .error e
            | .ok b => .ok (.mk (M.map fl2) b false [], n + 1)) := ⟨by rw [HO3.out, hm]⟩
          have HX6 : Box (Cx w ((((w4.setCell ⟨w.heap.size, 0, none⟩ (.slice A m cap)).setCell ⟨w.heap.size, 1, none⟩ (.string ⟨#[]⟩)).setCell ⟨w.heap.size, 2, none⟩ (.bool false)).setCell ⟨w.heap.size, 3, none⟩ (.slice none 0 0)) bc (n + 1) (obj4 (.slice A m cap) (.string ⟨#[]⟩) (.bool false) (.slice none 0 0))) := ⟨HX5.out.own6 (gr_set4 _ _ _ _ _ _) (set4_heap _ _ _ _ _ _ _ _ _ _ HX5.out.k)⟩
          have HF6 : Box (FLB ((((w4.setCell ⟨w.heap.size, 0, none⟩ (.slice A m cap)).setCell ⟨w.heap.size, 1, none⟩ (.string ⟨#[]⟩)).setCell ⟨w.heap.size, 2, none⟩ (.bool false)).setCell ⟨w.heap.size, 3, none⟩ (.slice none 0 0)) (fun i => w2.heap.size < i) (.slice A m cap) M) := ⟨HF5.out.abv (abv_gr (r := some w.heap.size) (gr_set4 _ _ _ _ _ _) (fun i hi e => by simp at e; omega))⟩
          have hg := getS_getB M cteN
          rw [show smallS cteN = cteN by decide] at hg
          clear HO3 hm HX5 HF5
          go_wp2_with fail
          refine (getField_any _ M ⟨#[99, 111, 110, 116, 101, 110, 116, 45, 116, 114, 97, 110, 115, 102, 101, 114, 45, 101, 110, 99, 111, 100, 105, 110, 103]⟩ _ (by decide) HHf.out.tiny HF6.out.fl).mono ?_
          rintro e w5 ⟨rfl, hb5⟩
          rw [show (⟨#[99, 111, 110, 116, 101, 110, 116, 45, 116, 114, 97, 110, 115, 102, 101, 114, 45, 101, 110, 99, 111, 100, 105, 110, 103]⟩ : ByteArray).data.toList = cteN from rfl]
          have HX7 := Box.mk (HX6.out.below hb5)
          have HF7 := Box.mk (HF6.out.abv (abv_below hb5))
          clear HX6 HF6 z0 z1 z2 z3 zf hb5
          cases hgs : getS M cteN with
          | none =>
            rw [hgs] at hg
            have HO5 : Box (O = .ok (.mk (M.map fl2) rr.data.toList false [], n + 1)) := ⟨by rw [HO4.out, decodeU, hg]; rfl⟩
            clear hg hgs HO4
            rw [show getV none = .tuple #[.string ⟨#[]⟩, .bool false] from rfl]
            go_wp2_with fail
            refine (low_any ⟨#[]⟩ _ (by decide)).mono ?_
            rintro e w6 ⟨t, rfl, ht, hb6⟩
            have HX8 := Box.mk (HX7.out.below hb6)
            have HF8 := Box.mk (HF7.out.abv (abv_below hb6))
            obtain ⟨z0, z1, z2, z3, zf⟩ := b4_of HX8.out.k
            clear HX7 HF7 hb6 ht
            go_wp2
            refine ret_at ?_
            intro Wf hWf
            have hX : Cx w Wf bc (n + 1) (obj4 (.slice A m cap) (.string rr) (.bool false) (.slice none 0 0)) := by
              rw [hWf]
              have h7 := HX8.out.own6 (gr_set w6 w.heap.size 1 (.string rr)) (set_heap1 _ _ _ _ _ _ _ HX8.out.k)
              exact h7.own6 (gr_set4 _ _ _ _ _ _) (set4_heap _ _ _ _ _ _ _ _ _ _ h7.k)
            have hF : FLB Wf (fun i => w2.heap.size < i) (.slice A m cap) M := by
              rw [hWf]
              exact HF8.out.abv (abv_gr (r := some w.heap.size) (gr_trans (gr_set _ _ _ _) (gr_set4 _ _ _ _ _ _)) (fun i hi e => by simp at e; omega))
            clear hWf z0 z1 z2 z3 zf
            obtain ⟨x0, x1, x2, x3, xf⟩ := b4_of hX.k
            exact bodyPost_ret (v := .tuple #[.agg #[.slice A m cap, .string rr, .bool false, .slice none 0 0], .int .i64 0]) (by simp [results, Tryz.results37, go_sem, x0, x1, x2, x3]) rfl ⟨rr_leaf HO5.out hX hF (by omega) HHf.out, hX.g⟩
          | some f =>
            rw [hgs] at hg
            have hfs := (HHf.out.2 f (getS_mem _ _ _ hgs)).2
            have HO5 : Box (O = match (if smallS f.2.data.toList = bit7 ∨ smallS f.2.data.toList = bit8 ∨ smallS f.2.data.toList = binN then .ok rr.data.toList else if smallS f.2.data.toList = b64N then someOr 3 (Tx.unpackS rr.data.toList) else if smallS f.2.data.toList = qpN then someOr 3 (Tx.unquoteS rr.data.toList) else .error 5 : Except Nat (List UInt8)) with
              | .error e => .error e
              | .ok b => .ok (.mk (M.map fl2) b false [], n + 1)) := ⟨by rw [HO4.out, decodeU, hg]; rfl⟩
            clear hg hgs HO4
            obtain ⟨fn, fv⟩ := f
            rw [show getV (some (fn, fv)) = .tuple #[.string fv, .bool true] from rfl]
            go_wp2_with fail
            refine (low_any fv _ (Nat.le_trans hfs (by decide))).mono ?_
            rintro e w6 ⟨t, rfl, ht, hb6⟩
            have HX8 := Box.mk (HX7.out.below hb6)
            have HF8 := Box.mk (HF7.out.abv (abv_below hb6))
            obtain ⟨z0, z1, z2, z3, zf⟩ := b4_of HX8.out.k
            rw [← ht] at HO5
            clear HX7 HF7 hb6 ht
            by_cases h7 : t.data.toList = bit7
            · have e1 := teq_of t [55, 98, 105, 116] h7
              have HO6 : Box (O = .ok (.mk (M.map fl2) rr.data.toList false [], n + 1)) := ⟨by rw [HO5.out, if_pos (.inl h7)]⟩
              clear HO5 h7
              go_wp2
              refine ret_at ?_
              intro Wf hWf
              have hX : Cx w Wf bc (n + 1) (obj4 (.slice A m cap) (.string rr) (.bool false) (.slice none 0 0)) := by
                rw [hWf]
                have h7 := HX8.out.own6 (gr_set w6 w.heap.size 1 (.string rr)) (set_heap1 _ _ _ _ _ _ _ HX8.out.k)
                exact h7.own6 (gr_set4 _ _ _ _ _ _) (set4_heap _ _ _ _ _ _ _ _ _ _ h7.k)
              have hF : FLB Wf (fun i => w2.heap.size < i) (.slice A m cap) M := by
                rw [hWf]
                exact HF8.out.abv (abv_gr (r := some w.heap.size) (gr_trans (gr_set _ _ _ _) (gr_set4 _ _ _ _ _ _)) (fun i hi e => by simp at e; omega))
              clear hWf z0 z1 z2 z3 zf
              obtain ⟨x0, x1, x2, x3, xf⟩ := b4_of hX.k
              exact bodyPost_ret (v := .tuple #[.agg #[.slice A m cap, .string rr, .bool false, .slice none 0 0], .int .i64 0]) (by simp [results, Tryz.results37, go_sem, x0, x1, x2, x3]) rfl ⟨rr_leaf HO6.out hX hF (by omega) HHf.out, hX.g⟩
            · have e1 := tne_of t [55, 98, 105, 116] h7
              by_cases h8 : t.data.toList = bit8
              · have e2 := teq_of t [56, 98, 105, 116] h8
                have HO6 : Box (O = .ok (.mk (M.map fl2) rr.data.toList false [], n + 1)) := ⟨by rw [HO5.out, if_pos (.inr (.inl h8))]⟩
                clear HO5 h7 h8
                go_wp2
                refine ret_at ?_
                intro Wf hWf
                have hX : Cx w Wf bc (n + 1) (obj4 (.slice A m cap) (.string rr) (.bool false) (.slice none 0 0)) := by
                  rw [hWf]
                  have h7 := HX8.out.own6 (gr_set w6 w.heap.size 1 (.string rr)) (set_heap1 _ _ _ _ _ _ _ HX8.out.k)
                  exact h7.own6 (gr_set4 _ _ _ _ _ _) (set4_heap _ _ _ _ _ _ _ _ _ _ h7.k)
                have hF : FLB Wf (fun i => w2.heap.size < i) (.slice A m cap) M := by
                  rw [hWf]
                  exact HF8.out.abv (abv_gr (r := some w.heap.size) (gr_trans (gr_set _ _ _ _) (gr_set4 _ _ _ _ _ _)) (fun i hi e => by simp at e; omega))
                clear hWf z0 z1 z2 z3 zf
                obtain ⟨x0, x1, x2, x3, xf⟩ := b4_of hX.k
                exact bodyPost_ret (v := .tuple #[.agg #[.slice A m cap, .string rr, .bool false, .slice none 0 0], .int .i64 0]) (by simp [results, Tryz.results37, go_sem, x0, x1, x2, x3]) rfl ⟨rr_leaf HO6.out hX hF (by omega) HHf.out, hX.g⟩
              · have e2 := tne_of t [56, 98, 105, 116] h8
                by_cases hbn : t.data.toList = binN
                · have e3 := teq_of t [98, 105, 110, 97, 114, 121] hbn
                  have HO6 : Box (O = .ok (.mk (M.map fl2) rr.data.toList false [], n + 1)) := ⟨by rw [HO5.out, if_pos (.inr (.inr hbn))]⟩
                  clear HO5 h7 h8 hbn
                  go_wp2
                  refine ret_at ?_
                  intro Wf hWf
                  have hX : Cx w Wf bc (n + 1) (obj4 (.slice A m cap) (.string rr) (.bool false) (.slice none 0 0)) := by
                    rw [hWf]
                    have h7 := HX8.out.own6 (gr_set w6 w.heap.size 1 (.string rr)) (set_heap1 _ _ _ _ _ _ _ HX8.out.k)
                    exact h7.own6 (gr_set4 _ _ _ _ _ _) (set4_heap _ _ _ _ _ _ _ _ _ _ h7.k)
                  have hF : FLB Wf (fun i => w2.heap.size < i) (.slice A m cap) M := by
                    rw [hWf]
                    exact HF8.out.abv (abv_gr (r := some w.heap.size) (gr_trans (gr_set _ _ _ _) (gr_set4 _ _ _ _ _ _)) (fun i hi e => by simp at e; omega))
                  clear hWf z0 z1 z2 z3 zf
                  obtain ⟨x0, x1, x2, x3, xf⟩ := b4_of hX.k
                  exact bodyPost_ret (v := .tuple #[.agg #[.slice A m cap, .string rr, .bool false, .slice none 0 0], .int .i64 0]) (by simp [results, Tryz.results37, go_sem, x0, x1, x2, x3]) rfl ⟨rr_leaf HO6.out hX hF (by omega) HHf.out, hX.g⟩
                · have e3 := tne_of t [98, 105, 110, 97, 114, 121] hbn
                  have HO6 : Box (O = match (if t.data.toList = b64N then someOr 3 (Tx.unpackS rr.data.toList) else if t.data.toList = qpN then someOr 3 (Tx.unquoteS rr.data.toList) else .error 5 : Except Nat (List UInt8)) with
                    | .error e => .error e
                    | .ok b => .ok (.mk (M.map fl2) b false [], n + 1)) := ⟨by rw [HO5.out, if_neg (by rintro (h | h | h); exact h7 h; exact h8 h; exact hbn h)]⟩
                  clear HO5 h7 h8 hbn
                  by_cases h6 : t.data.toList = b64N
                  · have e4 := teq_of t [98, 97, 115, 101, 54, 52] h6
                    have HO7 : Box (O = match someOr 3 (Tx.unpackS rr.data.toList) with
                      | .error e => .error e
                      | .ok b => .ok (.mk (M.map fl2) b false [], n + 1)) := ⟨by rw [HO6.out, if_pos h6]⟩
                    clear HO6 h6
                    go_wp2_with fail
                    refine (Tx.refUnpack_any rr _ (by omega)).mono ?_
                    rintro e w7 ⟨rfl, hb7⟩
                    have HX9 := Box.mk (HX8.out.below hb7)
                    have HF9 := Box.mk (HF8.out.abv (abv_below hb7))
                    clear z0 z1 z2 z3 zf
                    obtain ⟨z0, z1, z2, z3, zf⟩ := b4_of HX9.out.k
                    clear HX8 HF8 hb7
                    cases hu : Tx.unpackS rr.data.toList with
                    | none =>
                      have HO8 : Box (O = .error 3) := ⟨by rw [HO7.out, hu]; rfl⟩
                      clear HO7 hu
                      dsimp only [Tx.unR]
                      go_wp2
                      refine ret_at ?_
                      intro Wf hWf
                      have hX : Cx w Wf bc (n + 1) (obj4 (.slice A m cap) (.string ⟨#[]⟩) (.bool false) (.slice none 0 0)) := by
                        rw [hWf]
                        have h7 := HX9.out.own6 (gr_set w7 w.heap.size 1 (.string ⟨#[]⟩)) (set_heap1 _ _ _ _ _ _ _ HX9.out.k)
                        exact h7.own6 (gr_set4 _ _ _ _ _ _) (set4_heap _ _ _ _ _ _ _ _ _ _ h7.k)
                      have hF : FLB Wf (fun i => w2.heap.size < i) (.slice A m cap) M := by
                        rw [hWf]
                        exact HF9.out.abv (abv_gr (r := some w.heap.size) (gr_trans (gr_set _ _ _ _) (gr_set4 _ _ _ _ _ _)) (fun i hi e => by simp at e; omega))
                      clear hWf z0 z1 z2 z3 zf
                      obtain ⟨x0, x1, x2, x3, xf⟩ := b4_of hX.k
                      exact bodyPost_ret (v := .tuple #[.agg #[.slice A m cap, .string ⟨#[]⟩, .bool false, .slice none 0 0], .int .i64 3]) (by simp [results, Tryz.results37, go_sem, x0, x1, x2, x3]) rfl ⟨by rw [HO8.out]; exact ⟨_, _, _, _, _, _, _, _, rfl⟩, hX.g⟩
                    | some ob =>
                      obtain ⟨X, HXb⟩ : ∃ X : ByteArray, Box (X = ⟨ob.toArray⟩) := ⟨_, ⟨rfl⟩⟩
                      have HO8 : Box (O = .ok (.mk (M.map fl2) X.data.toList false [], n + 1)) := ⟨by rw [HO7.out, hu, HXb.out]; rfl⟩
                      clear HO7 hu
                      dsimp only [Tx.unR]
                      rw [← HXb.out]
                      clear HXb
                      go_wp2
                      refine ret_at ?_
                      intro Wf hWf
                      have hX : Cx w Wf bc (n + 1) (obj4 (.slice A m cap) (.string X) (.bool false) (.slice none 0 0)) := by
                        rw [hWf]
                        have h7 := HX9.out.own6 (gr_set w7 w.heap.size 1 (.string X)) (set_heap1 _ _ _ _ _ _ _ HX9.out.k)
                        exact h7.own6 (gr_set4 _ _ _ _ _ _) (set4_heap _ _ _ _ _ _ _ _ _ _ h7.k)
                      have hF : FLB Wf (fun i => w2.heap.size < i) (.slice A m cap) M := by
                        rw [hWf]
                        exact HF9.out.abv (abv_gr (r := some w.heap.size) (gr_trans (gr_set _ _ _ _) (gr_set4 _ _ _ _ _ _)) (fun i hi e => by simp at e; omega))
                      clear hWf z0 z1 z2 z3 zf
                      obtain ⟨x0, x1, x2, x3, xf⟩ := b4_of hX.k
                      exact bodyPost_ret (v := .tuple #[.agg #[.slice A m cap, .string X, .bool false, .slice none 0 0], .int .i64 0]) (by simp [results, Tryz.results37, go_sem, x0, x1, x2, x3]) rfl ⟨rr_leaf HO8.out hX hF (by omega) HHf.out, hX.g⟩
                  · have e4 := tne_of t [98, 97, 115, 101, 54, 52] h6
                    by_cases hq : t.data.toList = qpN
                    · have e5 := teq_of t [113, 117, 111, 116, 101, 100, 45, 112, 114, 105, 110, 116, 97, 98, 108, 101] hq
                      have HO7 : Box (O = match someOr 3 (Tx.unquoteS rr.data.toList) with
                        | .error e => .error e
                        | .ok b => .ok (.mk (M.map fl2) b false [], n + 1)) := ⟨by rw [HO6.out, if_neg h6, if_pos hq]⟩
                      clear HO6 h6 hq
                      go_wp2_with fail
                      refine (Tx.refUnquote_any rr _ (by omega) HX8.out.m).mono ?_
                      rintro e w7 ⟨rfl, hb7⟩
                      have HX9 := Box.mk (HX8.out.below hb7)
                      have HF9 := Box.mk (HF8.out.abv (abv_below hb7))
                      clear z0 z1 z2 z3 zf
                      obtain ⟨z0, z1, z2, z3, zf⟩ := b4_of HX9.out.k
                      clear HX8 HF8 hb7
                      cases hu : Tx.unquoteS rr.data.toList with
                      | none =>
                        have HO8 : Box (O = .error 3) := ⟨by rw [HO7.out, hu]; rfl⟩
                        clear HO7 hu
                        dsimp only [Tx.unR]
                        go_wp2
                        refine ret_at ?_
                        intro Wf hWf
                        have hX : Cx w Wf bc (n + 1) (obj4 (.slice A m cap) (.string ⟨#[]⟩) (.bool false) (.slice none 0 0)) := by
                          rw [hWf]
                          have h7 := HX9.out.own6 (gr_set w7 w.heap.size 1 (.string ⟨#[]⟩)) (set_heap1 _ _ _ _ _ _ _ HX9.out.k)
                          exact h7.own6 (gr_set4 _ _ _ _ _ _) (set4_heap _ _ _ _ _ _ _ _ _ _ h7.k)
                        have hF : FLB Wf (fun i => w2.heap.size < i) (.slice A m cap) M := by
                          rw [hWf]
                          exact HF9.out.abv (abv_gr (r := some w.heap.size) (gr_trans (gr_set _ _ _ _) (gr_set4 _ _ _ _ _ _)) (fun i hi e => by simp at e; omega))
                        clear hWf z0 z1 z2 z3 zf
                        obtain ⟨x0, x1, x2, x3, xf⟩ := b4_of hX.k
                        exact bodyPost_ret (v := .tuple #[.agg #[.slice A m cap, .string ⟨#[]⟩, .bool false, .slice none 0 0], .int .i64 3]) (by simp [results, Tryz.results37, go_sem, x0, x1, x2, x3]) rfl ⟨by rw [HO8.out]; exact ⟨_, _, _, _, _, _, _, _, rfl⟩, hX.g⟩
                      | some ob =>
                        obtain ⟨X, HXb⟩ : ∃ X : ByteArray, Box (X = ⟨ob.toArray⟩) := ⟨_, ⟨rfl⟩⟩
                        have HO8 : Box (O = .ok (.mk (M.map fl2) X.data.toList false [], n + 1)) := ⟨by rw [HO7.out, hu, HXb.out]; rfl⟩
                        clear HO7 hu
                        dsimp only [Tx.unR]
                        rw [← HXb.out]
                        clear HXb
                        go_wp2
                        refine ret_at ?_
                        intro Wf hWf
                        have hX : Cx w Wf bc (n + 1) (obj4 (.slice A m cap) (.string X) (.bool false) (.slice none 0 0)) := by
                          rw [hWf]
                          have h7 := HX9.out.own6 (gr_set w7 w.heap.size 1 (.string X)) (set_heap1 _ _ _ _ _ _ _ HX9.out.k)
                          exact h7.own6 (gr_set4 _ _ _ _ _ _) (set4_heap _ _ _ _ _ _ _ _ _ _ h7.k)
                        have hF : FLB Wf (fun i => w2.heap.size < i) (.slice A m cap) M := by
                          rw [hWf]
                          exact HF9.out.abv (abv_gr (r := some w.heap.size) (gr_trans (gr_set _ _ _ _) (gr_set4 _ _ _ _ _ _)) (fun i hi e => by simp at e; omega))
                        clear hWf z0 z1 z2 z3 zf
                        obtain ⟨x0, x1, x2, x3, xf⟩ := b4_of hX.k
                        exact bodyPost_ret (v := .tuple #[.agg #[.slice A m cap, .string X, .bool false, .slice none 0 0], .int .i64 0]) (by simp [results, Tryz.results37, go_sem, x0, x1, x2, x3]) rfl ⟨rr_leaf HO8.out hX hF (by omega) HHf.out, hX.g⟩
                    · have e5 := tne_of t [113, 117, 111, 116, 101, 100, 45, 112, 114, 105, 110, 116, 97, 98, 108, 101] hq
                      have HO7 : Box (O = .error 5) := ⟨by rw [HO6.out, if_neg h6, if_neg hq]⟩
                      clear HO6 h6 hq
                      go_wp2
                      refine ret_at ?_
                      intro Wf hWf
                      have hX : Cx w Wf bc (n + 1) (obj4 (.slice A m cap) (.string ⟨#[]⟩) (.bool false) (.slice none 0 0)) := by
                        rw [hWf]
                        exact HX8.out.own6 (gr_set4 _ _ _ _ _ _) (set4_heap _ _ _ _ _ _ _ _ _ _ HX8.out.k)
                      clear hWf z0 z1 z2 z3 zf
                      obtain ⟨x0, x1, x2, x3, xf⟩ := b4_of hX.k
                      exact bodyPost_ret (v := .tuple #[.agg #[.slice A m cap, .string ⟨#[]⟩, .bool false, .slice none 0 0], .int .i64 5]) (by simp [results, Tryz.results37, go_sem, x0, x1, x2, x3]) rfl ⟨by rw [HO7.out]; exact ⟨_, _, _, _, _, _, _, _, rfl⟩, hX.g⟩
        | some be =>
          obtain ⟨bb, rfl, hbe, hbs⟩ := hE
          have HO4 : Box (O = match betweenS bb.data.toList rr.data.toList with
            | none => .error 3
            | some xs => match allG (readU d) xs (n + 1) with
              | .error e => .error e
              | .ok r => .ok (.mk (M.map fl2) [] true r.1, r.2)) := ⟨by rw [HO3.out, hm, hbe]⟩
          have HX6 : Box (Cx w ((((w4.setCell ⟨w.heap.size, 0, none⟩ (.slice A m cap)).setCell ⟨w.heap.size, 1, none⟩ (.string ⟨#[]⟩)).setCell ⟨w.heap.size, 2, none⟩ (.bool true)).setCell ⟨w.heap.size, 3, none⟩ (.slice none 0 0)) bc (n + 1) (obj4 (.slice A m cap) (.string ⟨#[]⟩) (.bool true) (.slice none 0 0))) := ⟨HX5.out.own6 (gr_set4 _ _ _ _ _ _) (set4_heap _ _ _ _ _ _ _ _ _ _ HX5.out.k)⟩
          have HF6 : Box (FLB ((((w4.setCell ⟨w.heap.size, 0, none⟩ (.slice A m cap)).setCell ⟨w.heap.size, 1, none⟩ (.string ⟨#[]⟩)).setCell ⟨w.heap.size, 2, none⟩ (.bool true)).setCell ⟨w.heap.size, 3, none⟩ (.slice none 0 0)) (fun i => w2.heap.size < i) (.slice A m cap) M) := ⟨HF5.out.abv (abv_gr (r := some w.heap.size) (gr_set4 _ _ _ _ _ _) (fun i hi e => by simp at e; omega))⟩
          clear HO3 hm HX5 HF5 hbe
          go_wp2_with fail
          refine (rbetween_any rr bb _ (by omega) (by omega) HX6.out.m).mono ?_
          rintro e w5 ⟨hP, hb5⟩
          have HX7 := Box.mk (HX6.out.below hb5)
          have HF7 := Box.mk (HF6.out.abv (abv_below hb5))
          have hlt6 := HX6.out.lt
          have hlt7 := HX7.out.lt
          clear HX6 HF6 z0 z1 z2 z3 zf
          obtain ⟨z0, z1, z2, z3, zf⟩ := b4_of HX7.out.k
          unfold CPost at hP
          cases hbt : betweenS bb.data.toList rr.data.toList with
          | none =>
            rw [hbt] at hP
            obtain rfl := hP
            have HO5 : Box (O = .error 3) := ⟨by rw [HO4.out, hbt]⟩
            clear HO4 hbt hb5
            go_wp2
            refine ret_at ?_
            intro Wf hWf
            have hX : Cx w Wf bc (n + 1) (obj4 (.slice A m cap) (.string ⟨#[]⟩) (.bool true) (.slice none 0 0)) := by
              rw [hWf]
              exact HX7.out.own6 (gr_set4 _ _ _ _ _ _) (set4_heap _ _ _ _ _ _ _ _ _ _ HX7.out.k)
            clear hWf z0 z1 z2 z3 zf
            obtain ⟨x0, x1, x2, x3, xf⟩ := b4_of hX.k
            exact bodyPost_ret (v := .tuple #[.agg #[.slice A m cap, .string ⟨#[]⟩, .bool true, .slice none 0 0], .int .i64 3]) (by simp [results, Tryz.results37, go_sem, x0, x1, x2, x3]) rfl ⟨by rw [HO5.out]; exact ⟨_, _, _, _, _, _, _, _, rfl⟩, hX.g⟩
          | some xs =>
            rw [hbt] at hP
            obtain ⟨vs, ss, rfl, hownS, hss, hlen⟩ := hP
            have HL : Box (∀ x ∈ ss, x.size ≤ 3000) := ⟨fun x hx => by
              have := between_len _ _ _ hbt (lst x) (by rw [← hss]; exact List.mem_map_of_mem hx)
              unfold lst at this
              rw [size_list, size_list] at this
              omega⟩
            obtain ⟨R, HR⟩ : ∃ R, Box (R = allG (readU d) xs (n + 1)) := ⟨_, ⟨rfl⟩⟩
            have HA : Box (AllI (readU d) (ss.map lst) R 0 (n + 1) []) := ⟨by rw [HR.out, hss]; exact all_start _ _ _⟩
            have HO5 : Box (O = manyR (M.map fl2) R) := ⟨by rw [HO4.out, hbt, HR.out]; rfl⟩
            obtain ⟨Av, ms, cs, hvs⟩ : ∃ A m cap, vs = .slice A m cap := by
              rcases hownS.shape with ⟨rfl, _⟩ | ⟨g, cap, rfl, _⟩
              · exact ⟨_, _, _, rfl⟩
              · exact ⟨_, _, _, rfl⟩
            subst hvs
            have hmm : ms = ss.length := by
              rcases hownS.shape with ⟨h1, h2⟩ | ⟨g, cap, h1, _⟩
              · simp only [Value.slice.injEq] at h1; rw [h2]; exact h1.2.1
              · simp only [Value.slice.injEq] at h1; exact h1.2.1
            have hm1 : ms ≤ ss.length := Nat.le_of_eq hmm
            have hm2 : ss.length ≤ ms := Nat.le_of_eq hmm.symm
            have H0 : Box (Lp w w5 w5.heap.size bc (n + 1) d (.slice A m cap) (.slice none 0 0) [] [] M Av ss) := ⟨⟨HX7.out, OwnP.nil _ _, PVL.nil _ _ _, HF7.out.mono (fun i h1 h2 => ⟨by have : w2.heap.size < i := h2; omega, h1⟩), fun j hj => by
              rcases hownS.shape with ⟨_, h2⟩ | ⟨g, cap', h1, hg1, hg2, _, _, h5⟩
              · rw [h2] at hj; exact absurd hj (by simp)
              · simp only [Value.slice.injEq] at h1
                exact ⟨g, h1.1, ⟨by omega, hg2⟩, h5 j hj⟩, hlt7, Nat.le_refl _⟩⟩
            clear HO4 hbt hss HX7 HF7 hownS hmm hb5 z0 z1 z2 z3 zf HR
            go_wp2
            go_loopw [119] (fun i wr => ∃ (j c : Nat) (vp : Value) (L : List P4) (acc : List PT), j ≤ ms ∧ i = .int .i64 j ∧ L.length ≤ j ∧ c ≤ 40 ∧ Box (Lp w wr w5.heap.size bc c d (.slice A m cap) vp L acc M Av ss) ∧ Box (AllI (readU d) (ss.map lst) R j c acc)) (fun i _ => ms - (intOf i).toNat)
            case atStart => exact ⟨0, n + 1, _, [], [], Nat.zero_le _, rfl, Nat.le_refl _, by omega, H0, HA⟩
            case round =>
              obtain ⟨j, c, vp, L, acc, hj, rfl, hLj, hc40, HLp, HI⟩ := hrel
              by_cases hlt : j < ms
              · have hjl : j < ss.length := by omega
                obtain ⟨x, HXk⟩ : ∃ x, Box (ss[j]? = some x) := ⟨_, ⟨List.getElem?_eq_getElem hjl⟩⟩
                have HXl : Box ((ss.map lst)[j]? = some x.data.toList) := ⟨by rw [List.getElem?_map, HXk.out]; rfl⟩
                have hxs := HL.out x (List.mem_of_getElem? HXk.out)
                obtain ⟨g, hAg, hcell⟩ : ∃ g, Av = some ⟨g, 0, none⟩ ∧ wr.cell? ⟨g, j, none⟩ = some (.string x) := by
                  obtain ⟨g, e, _, h5⟩ := HLp.out.s j hjl
                  refine ⟨g, e, ?_⟩
                  rw [h5]
                  have := HXk.out
                  rw [List.getElem?_eq_getElem hjl] at this
                  rw [Option.some.inj this]
                subst hAg
                clear HXk hjl
                go_wp2_with fail
                refine (IH.out x c bc (k + 1) _ hxs hc40 (by omega) HLp.out.x.c HLp.out.x.m hbc).mono ?_
                rintro e w6 ⟨hR2, hg6⟩
                unfold RrPost at hR2
                cases hq : readU d c x.data.toList with
                | error z =>
                  rw [hq] at hR2
                  obtain ⟨A1, n1, c1, b1, m1, A2, n2, c2, rfl⟩ := hR2
                  have HE := Box.mk (all_err HI.out _ HXl.out z hq)
                  have hz1 := (readU_err _ _ _ _ hq).1
                  have HO6 : Box (O = .error z) := ⟨by rw [HO5.out, HE.out]; rfl⟩
                  obtain ⟨A3, n3, c3, hvp⟩ : ∃ A m cap, vp = .slice A m cap := by
                    rcases HLp.out.o.shape with ⟨rfl, _⟩ | ⟨g, cap, rfl, _⟩
                    · exact ⟨_, _, _, rfl⟩
                    · exact ⟨_, _, _, rfl⟩
                  subst hvp
                  have hk6 : w6.heap[w.heap.size]? = some (obj4 (.slice A m cap) (.string ⟨#[]⟩) (.bool true) (.slice A3 n3 c3)) := (hg6.block w.heap.size HLp.out.x.lt (by have := HLp.out.x.lw; simp; omega)).trans HLp.out.x.k
                  have hg06 := gr_trans HLp.out.x.g hg6
                  have hl6 : w.heap.size < w6.heap.size := Nat.lt_of_lt_of_le HLp.out.x.lt hg6.size
                  obtain ⟨z0, z1, z2, z3, zf⟩ := b4_of hk6
                  clear HI hq HXl HLp IH HL HA H0 HE HO5 hg6 hcell
                  go_wp2
                  refine ret_at ?_
                  intro Wf hWf
                  have hk : Wf.heap[w.heap.size]? = some (obj4 (.slice A m cap) (.string ⟨#[]⟩) (.bool true) (.slice A3 n3 c3)) ∧ w.grownBy Wf (some bc) := by
                    rw [hWf]
                    refine ⟨(Below.heap_alloc _ _ _ (by simp; omega)).trans (set4_heap _ _ _ _ _ _ _ _ _ _ hk6), gr_alloc ?_ _⟩
                    iterate 4 (refine gr_new ?_ (Nat.le_refl _) _)
                    exact hg06
                  clear hWf z0 z1 z2 z3 zf
                  obtain ⟨x0, x1, x2, x3, xf⟩ := b4_of hk.1
                  exact bodyPost_ret (v := .tuple #[.agg #[.slice A m cap, .string ⟨#[]⟩, .bool true, .slice A3 n3 c3], .int .i64 z]) (by simp [results, Tryz.results37, go_sem, x0, x1, x2, x3]) rfl ⟨by rw [HO6.out]; exact ⟨_, _, _, _, _, _, _, _, rfl⟩, hk.2⟩
                | ok q =>
                  rw [hq] at hR2
                  obtain ⟨p4, rfl, hPV, hC2⟩ := hR2
                  have HI' := Box.mk (all_ok HI.out _ HXl.out q hq)
                  have hq40 := readU_cnt d c _ q hq hc40
                  obtain ⟨A1, n1, c1, b1, m1, A2, n2, c2, rfl⟩ := hPV.shape
                  have HPV := Box.mk hPV
                  have HL6 := Box.mk (HLp.out.deep hg6 hC2)
                  have hzz : w5.heap.size ≤ w6.heap.size := HL6.out.z.2
                  have HZ6 : Box (w5.heap.size ≤ wr.heap.size ∧ ∀ i, vp.ownBlock = some i → i < wr.heap.size) := ⟨⟨HLp.out.z.2, fun i e => (HLp.out.o.lt i e).2⟩⟩
                  have hl6 := HL6.out.x.lt
                  obtain ⟨z0, z1, z2, z3, zf⟩ := b4_of HL6.out.x.k
                  clear HI hq HXl HLp hPV hC2 hcell hg6
                  unfold P4.v
                  go_wp2_with (at_builtin; refine wp_appP _ rfl (.tmp 136) (.tmp 138) rfl w5.heap.size _ L rfl (OwnP.abv HL6.out.o (abv_below (below_two _ _ _))) _ _ (.slice A1 n1 c1, .string b1, .bool m1, .slice A2 n2 c2) rfl (by simp) (by simp) (by simp) (by simp) ⟨rfl, rfl, rfl, rfl⟩ (by omega) (by simp; omega) ?_; intro v7 w7 hown7 hg7 hv7; obtain ⟨A7, n7, c7, rfl⟩ := hown7.slice; have hA7 := HL6.out.app (below_two w6 _ _) _ q.1 wr.heap.size HZ6.out HPV.out hown7 hg7 hv7; obtain ⟨y0, y1, y2, y3, yf⟩ := b4_of hA7.2.k)
                  go_roundw
                  case rel => exact ⟨j + 1, q.2, _, L ++ [_], acc ++ [q.1], by omega, by go_num, by simp; omega, hq40, ⟨hA7.1⟩, HI'⟩
                  case measure => simp [intOf]; omega
              · have HE := Box.mk (all_end HI.out (by rw [List.length_map]; omega))
                have HO6 : Box (O = .ok (.mk (M.map fl2) [] true acc, c)) := ⟨by rw [HO5.out, HE.out]; rfl⟩
                obtain ⟨A3, n3, c3, hvp⟩ : ∃ A m cap, vp = .slice A m cap := by
                  rcases HLp.out.o.shape with ⟨rfl, _⟩ | ⟨g, cap, rfl, _⟩
                  · exact ⟨_, _, _, rfl⟩
                  · exact ⟨_, _, _, rfl⟩
                subst hvp
                obtain ⟨z0, z1, z2, z3, zf⟩ := b4_of HLp.out.x.k
                clear HI IH HL HA H0 HE HO5
                go_wp2
                refine ret_at ?_
                intro Wf hWf
                have hX : Lp w Wf w5.heap.size bc c d (.slice A m cap) (.slice A3 n3 c3) L acc M Av ss := by
                  rw [hWf]
                  exact HLp.out.own6 (gr_set4 _ _ _ _ _ _) (set4_heap _ _ _ _ _ _ _ _ _ _ HLp.out.x.k)
                clear hWf z0 z1 z2 z3 zf
                obtain ⟨x0, x1, x2, x3, xf⟩ := b4_of hX.x.k
                exact bodyPost_ret (v := .tuple #[.agg #[.slice A m cap, .string ⟨#[]⟩, .bool true, .slice A3 n3 c3], .int .i64 0]) (by simp [results, Tryz.results37, go_sem, x0, x1, x2, x3]) rfl ⟨rr_many HO6.out hX HHf.out (by omega), hX.x.g⟩

theorem rread_all : ∀ d, RrAt d
  | 0 => fun s n bc k w hs hn hk hc hG hbc => by
    have e : readU 0 n s.data.toList = .error 4 := rfl
    rw [e]
    exact rread_no _ s n bc k w (by omega) (by omega) (.inr (by omega)) hc
  | d + 1 => rread_step d (rread_all d)

end Go.Proofs.YtmjijnfhgedmlaaGreatDoor
