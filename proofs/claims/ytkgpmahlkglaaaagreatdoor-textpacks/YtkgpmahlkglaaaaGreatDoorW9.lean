import Derived.Test.YtkgpmahlkglaaaaGreatDoorW8
namespace Go.Proofs.YtkgpmahlkglaaaaGreatDoor
open Go.RowKit

section
variable {ops : Array Oper} {rest : List Oper} {o : Oper} {a : Act} {Q : Exit → Act → World → Prop}
/-- 'append(v, "..."...)', with what stays as it was. -/
theorem wp_appSg (W w0 : World) (hgd : o.guard = none) (s x : Operand) (ho : o.op = .call { callee := .builtin .append, args := #[s, x], argTypes := #[32, 9] })
    (B : Nat) (v : Value) (l : List UInt8) (hs : a.eval s = v) (hown : Own W B v l) (t : ByteArray) (hx : a.eval x = .string t) (hl : l.length + t.size ≤ 10000000) (hB : B ≤ W.heap.size) (hb : Below B w0 W)
    (h : ∀ v' w', Own w' B v' (l ++ t.data.toList) → Below B w0 w' → W.grownBy w' v.ownBlock → wpList Tryz.prog ops Q rest (a.put o.dst v') w') : wpList Tryz.prog ops Q (o :: rest) a W := by
  obtain ⟨i0, hi, hz0, hz1, hz2⟩ := info_parts Tryz.infoByte
  refine Lib.wpList_append_own_string W hgd s x 32 9 ho B 5 i0 Tryz.underlying32 Tryz.underlying9 hi hz0 hz1 hz2 v l.length (cs l) hs hown t hx (by unfold maxLen; omega) (by omega) hB ?_
  intro v' w' h1 h2 _
  refine h v' w' ?_ (hb.grown h2 hB (fun k hk => (hown.lt k hk).1)) h2
  unfold Own
  rw [List.length_append, cs_append]
  exact h1
end

theorem Own.kept {w w1 w' : World} {B B' : Nat} {v u : Value} {l m : List UInt8} (h : Own w B v l) (hu : Own w1 B' u m) (hB : w1.heap.size ≤ B) (hg : w.grownBy w' u.ownBlock) : Own w' B v l := by
  refine World.ownsRow.kept h hg ?_
  cases hv : v.ownBlock with
  | none => exact .inl rfl
  | some k =>
    right
    intro e
    have h1 := h.lt k hv
    have h2 := hu.lt k e.symm
    omega

/-- The first k bytes quoted, and how long the last line is. -/
def quoteTo (b : List UInt8) : Nat → List UInt8 × Nat
  | 0 => ([], 0)
  | k + 1 =>
    if (if k + 1 = b.length then 76 else 75) < (quoteTo b k).2 + (quotedL (b.getD k 0) (decide (k + 1 = b.length))).length
    then ((quoteTo b k).1 ++ [61, 13, 10] ++ quotedL (b.getD k 0) (decide (k + 1 = b.length)), (quotedL (b.getD k 0) (decide (k + 1 = b.length))).length)
    else ((quoteTo b k).1 ++ quotedL (b.getD k 0) (decide (k + 1 = b.length)), (quoteTo b k).2 + (quotedL (b.getD k 0) (decide (k + 1 = b.length))).length)

def quoteS (b : List UInt8) : List UInt8 := (quoteTo b b.length).1

theorem quoteTo_length (b : List UInt8) (k : Nat) : (quoteTo b k).1.length ≤ 6 * k ∧ (quoteTo b k).2 ≤ 3 * k := by
  induction k with
  | zero => simp [quoteTo]
  | succ k ih =>
    have := quotedL_length (b.getD k 0) (decide (k + 1 = b.length))
    rw [quoteTo]
    generalize quotedL (b.getD k 0) (decide (k + 1 = b.length)) = q at *
    generalize quoteTo b k = r at *
    generalize (if k + 1 = b.length then 76 else 75) = m at *
    split <;> simp <;> omega

theorem quotedL_pos (c : UInt8) (last : Bool) : 1 ≤ (quotedL c last).length := by unfold quotedL; split <;> simp

theorem Own.cells {w : World} {B g n cap : Nat} {l : List UInt8} (h : Own w B (.slice (some ⟨g, 0, none⟩) n cap) l) : ∀ j (hj : j < l.length), w.cell? (Addr.add ⟨g, 0, none⟩ j) = some (.int .u8 (l[j].toNat : Int)) := by
  intro j hj
  rcases h.shape with ⟨h', _⟩ | ⟨g', cap', h', _, _, _, _, hc⟩
  · cases h'
  · simp only [Value.slice.injEq, Option.some.injEq, Addr.mk.injEq, and_true] at h'
    obtain ⟨rfl, _, _⟩ := h'
    rw [Addr.add_lit, Nat.zero_add]
    exact hc j hj

theorem quoted_shape (c : UInt8) (last : Bool) (w : World) :
    Calls Tryz.prog 28 #[.int .u8 (c.toNat : Int), .bool last] w fun e w' => ∃ g cap, e = .returned (.slice (some ⟨g, 0, none⟩) (quotedL c last).length cap) ∧ Own w' w.heap.size (.slice (some ⟨g, 0, none⟩) (quotedL c last).length cap) (quotedL c last) ∧ Below w.heap.size w w' := by
  refine (quoted_any c last w).mono ?_
  rintro e w' ⟨v, rfl, ho, hb⟩
  rcases ho.shape with ⟨_, h⟩ | ⟨g, cap, rfl, _⟩
  · have := quotedL_pos c last
    rw [h] at this
    simp at this
  · exact ⟨g, cap, rfl, ho, hb⟩

set_option maxHeartbeats 800000 in
theorem quote_any (b : ByteArray) (w : World) (hl : b.size ≤ 2000) :
    Calls Tryz.prog 11 #[.string b] w fun e w' => e = .returned (.string ⟨(quoteS b.data.toList).toArray⟩) ∧ Below w.heap.size w w' := by
  have HL : Hid (b.data.toList.length = b.size) := size_list b
  go_enter Tryz.func11, Tryz.ntmps11
  go_wp2
  go_loopw [3, 4, 11] (fun v g i wr => ∃ (k G : Nat) (o : List UInt8), k ≤ b.size ∧ i = .int .i64 k ∧ g = .int .i64 G ∧ Own wr w.heap.size v o ∧ Below w.heap.size w wr ∧ o.length ≤ 6 * k ∧ G ≤ 3 * k ∧ Hid (quoteTo b.data.toList k = (o, G))) (fun _ _ i _ => b.size - (intOf i).toNat)
  case atStart => exact ⟨0, 0, [], Nat.zero_le _, rfl, rfl, Own.nil _ _, Below.refl _ _, by simp, by simp, rfl⟩
  case round =>
    obtain ⟨k, G, o, hk, rfl, rfl, hown, hb, ho, hG, HQ⟩ := hrel
    by_cases hlt : k < b.size
    · have hsz := hb.size
      have HG : Hid (b.data.toList.getD k 0 = b[k]) := by
        show _ = _
        rw [List.getD_eq_getElem?_getD, List.getElem?_eq_getElem (by rw [HL.out]; exact hlt)]; rfl
      by_cases hla : k + 1 = b.size
      · have t1 : ((k : Int) == (b.size : Int) - 1) = true := by rw [beq_iff_eq]; omega
        have HX : Hid (quoteTo b.data.toList (k + 1) = if 76 < G + (quotedL b[k] true).length then (o ++ [61, 13, 10] ++ quotedL b[k] true, (quotedL b[k] true).length) else (o ++ quotedL b[k] true, G + (quotedL b[k] true).length)) := by
          show _ = _
          rw [quoteTo, HQ.out, HG.out, HL.out, if_pos hla, decide_eq_true hla]
        have hq3 := quotedL_length b[k] true
        clear hla
        by_cases hov : 76 < G + (quotedL b[k] true).length
        · have t2 : (76 : Int) < (G : Int) + ((quotedL b[k] true).length : Int) := by omega
          have HY : Hid (quoteTo b.data.toList (k + 1) = (o ++ [61, 13, 10] ++ quotedL b[k] true, (quotedL b[k] true).length)) := by show _ = _; rw [HX.out, if_pos hov]
          clear HX hov
          go_wp2_with (first | (go_at_call 28; refine (quoted_shape b[k] true _).mono ?_; rintro e w1 ⟨g1, cap1, rfl, hov, hb1⟩) | (at_builtin; refine wp_appSg _ w rfl (.tmp 31) _ rfl w.heap.size _ o rfl (hown.below hb1 (Nat.le_refl _)) ⟨#[61, 13, 10]⟩ rfl (by simp [ByteArray.size]; omega) (by have := hb1.size; omega) (hb.trans (hb1.mono hsz)) ?_; intro v2 w2 hown2 hb2 hg2) | (at_builtin; refine wp_app _ w rfl (.tmp 33) (.tmp 34) rfl w.heap.size _ _ rfl hown2 ⟨g1, 0, none⟩ _ cap1 (quotedL b[k] true) rfl rfl (hov.kept hown (Nat.le_refl _) hg2).cells (by simp; omega) hb2.size hb2 ?_; intro v3 w3 hown3 hb3 hg3))
          go_roundw
          case rel => exact ⟨k + 1, _, _, by omega, by go_num, rfl, hown3, hb3, by simp; omega, by omega, HY⟩
          case measure => simp [intOf]; omega
        · have t2 : ¬ (76 : Int) < (G : Int) + ((quotedL b[k] true).length : Int) := by omega
          have HY : Hid (quoteTo b.data.toList (k + 1) = (o ++ quotedL b[k] true, G + (quotedL b[k] true).length)) := by show _ = _; rw [HX.out, if_neg hov]
          clear HX hov
          go_wp2_with (first | (go_at_call 28; refine (quoted_shape b[k] true _).mono ?_; rintro e w1 ⟨g1, cap1, rfl, hov, hb1⟩) | (at_builtin; refine wp_app _ w rfl (.tmp 33) (.tmp 34) rfl w.heap.size _ o rfl (hown.below hb1 (Nat.le_refl _)) ⟨g1, 0, none⟩ _ cap1 (quotedL b[k] true) rfl rfl hov.cells (by omega) (by have := hb1.size; omega) (hb.trans (hb1.mono hsz)) ?_; intro v3 w3 hown3 hb3 hg3))
          go_roundw
          case rel => exact ⟨k + 1, _, _, by omega, by go_num, by congr 1, hown3, hb3, by simp; omega, by omega, HY⟩
          case measure => simp [intOf]; omega
      · have t1 : ((k : Int) == (b.size : Int) - 1) = false := by rw [beq_eq_false_iff_ne]; omega
        have HX : Hid (quoteTo b.data.toList (k + 1) = if 75 < G + (quotedL b[k] false).length then (o ++ [61, 13, 10] ++ quotedL b[k] false, (quotedL b[k] false).length) else (o ++ quotedL b[k] false, G + (quotedL b[k] false).length)) := by
          show _ = _
          rw [quoteTo, HQ.out, HG.out, HL.out, if_neg hla, decide_eq_false hla]
        have hq3 := quotedL_length b[k] false
        clear hla
        by_cases hov : 75 < G + (quotedL b[k] false).length
        · have t2 : (75 : Int) < (G : Int) + ((quotedL b[k] false).length : Int) := by omega
          have HY : Hid (quoteTo b.data.toList (k + 1) = (o ++ [61, 13, 10] ++ quotedL b[k] false, (quotedL b[k] false).length)) := by show _ = _; rw [HX.out, if_pos hov]
          clear HX hov
          go_wp2_with (first | (go_at_call 28; refine (quoted_shape b[k] false _).mono ?_; rintro e w1 ⟨g1, cap1, rfl, hov, hb1⟩) | (at_builtin; refine wp_appSg _ w rfl (.tmp 31) _ rfl w.heap.size _ o rfl (hown.below hb1 (Nat.le_refl _)) ⟨#[61, 13, 10]⟩ rfl (by simp [ByteArray.size]; omega) (by have := hb1.size; omega) (hb.trans (hb1.mono hsz)) ?_; intro v2 w2 hown2 hb2 hg2) | (at_builtin; refine wp_app _ w rfl (.tmp 33) (.tmp 34) rfl w.heap.size _ _ rfl hown2 ⟨g1, 0, none⟩ _ cap1 (quotedL b[k] false) rfl rfl (hov.kept hown (Nat.le_refl _) hg2).cells (by simp; omega) hb2.size hb2 ?_; intro v3 w3 hown3 hb3 hg3))
          go_roundw
          case rel => exact ⟨k + 1, _, _, by omega, by go_num, rfl, hown3, hb3, by simp; omega, by omega, HY⟩
          case measure => simp [intOf]; omega
        · have t2 : ¬ (75 : Int) < (G : Int) + ((quotedL b[k] false).length : Int) := by omega
          have HY : Hid (quoteTo b.data.toList (k + 1) = (o ++ quotedL b[k] false, G + (quotedL b[k] false).length)) := by show _ = _; rw [HX.out, if_neg hov]
          clear HX hov
          go_wp2_with (first | (go_at_call 28; refine (quoted_shape b[k] false _).mono ?_; rintro e w1 ⟨g1, cap1, rfl, hov, hb1⟩) | (at_builtin; refine wp_app _ w rfl (.tmp 33) (.tmp 34) rfl w.heap.size _ o rfl (hown.below hb1 (Nat.le_refl _)) ⟨g1, 0, none⟩ _ cap1 (quotedL b[k] false) rfl rfl hov.cells (by omega) (by have := hb1.size; omega) (hb.trans (hb1.mono hsz)) ?_; intro v3 w3 hown3 hb3 hg3))
          go_roundw
          case rel => exact ⟨k + 1, _, _, by omega, by go_num, by congr 1, hown3, hb3, by simp; omega, by omega, HY⟩
          case measure => simp [intOf]; omega
    · have hke : k = b.size := by omega
      have hcv := hown.string
      have HE : Hid (quoteS b.data.toList = o) := by
        show _ = _
        unfold quoteS
        rw [HL.out, ← hke, HQ.out]
      clear hke
      go_wp2
      go_ret
      exact ⟨ret_str (by rw [HE.out]), hb⟩

end Go.Proofs.YtkgpmahlkglaaaaGreatDoor
