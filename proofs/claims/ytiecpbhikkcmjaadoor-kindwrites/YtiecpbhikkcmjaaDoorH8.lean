import Derived.Test.YtiecpbhikkcmjaaDoorH7
namespace Go.Proofs.YtiecpbhikkcmjaaDoor
open Go.RowKit

def Mid (L : List Fl) : Prop := L.length ≤ 1000 ∧ ∀ f ∈ L, f.1.size ≤ 2000 ∧ f.2.size ≤ 2000
theorem Mid.tiny {L : List Fl} (h : Mid L) : Tiny L := ⟨Nat.le_trans h.1 (by decide), fun f hf => ⟨Nat.le_trans (h.2 f hf).1 (by decide), Nat.le_trans (h.2 f hf).2 (by decide)⟩⟩
def fieldB (f : Fl) : List UInt8 := fieldS f.1.data.toList f.2.data.toList
/-- A head's lines, but for the last one. -/
def fieldsB (L : List Fl) : List UInt8 := (L.map fieldB).flatten
theorem fieldsB_snoc (L : List Fl) (k : Nat) (f : Fl) (h : L[k]? = some f) : fieldsB (L.take (k + 1)) = fieldsB (L.take k) ++ fieldB f := by
  unfold fieldsB
  rw [take_snocF L k f h]; simp
theorem fieldB_len (f : Fl) (h : f.1.size ≤ 2000 ∧ f.2.size ≤ 2000) : (fieldB f).length ≤ 8006 := by
  have := fieldS_len f.1.data.toList f.2.data.toList
  rw [size_list, size_list] at this
  unfold fieldB
  omega
theorem fieldsB_len (L : List Fl) (h : ∀ f ∈ L, f.1.size ≤ 2000 ∧ f.2.size ≤ 2000) : (fieldsB L).length ≤ L.length * 8006 := by
  induction L with
  | nil => exact Nat.le_refl _
  | cons f L ih =>
    have h1 := fieldB_len f (h f List.mem_cons_self)
    have h2 := ih fun g hg => h g (List.mem_cons_of_mem _ hg)
    have : fieldsB (f :: L) = fieldB f ++ fieldsB L := rfl
    rw [this, List.length_append, List.length_cons]
    omega

/-- An error with its place. -/
def ErrAt (w : World) (E : Value) (n p : Int) : Prop := ∃ b, E = .iface 90 (.pointer (some ⟨b, 0, none⟩)) ∧ w.cell? ⟨b, 0, none⟩ = some (.int .i64 n) ∧ w.cell? ⟨b, 1, none⟩ = some (.int .i64 p)
theorem ErrAt.below {w w' : World} {C : Nat} {E : Value} {n p : Int} (h : ErrAt w E n p) (hb : Below C w w') (hC : w.heap.size ≤ C) : ErrAt w' E n p := by
  obtain ⟨b, rfl, h1, h2⟩ := h
  have hlt : b < w.heap.size := World.block_lt_of_cell? w _ h1
  exact ⟨b, rfl, (hb.cell (p := ⟨b, 0, none⟩) (by show b < C; omega)).trans h1, (hb.cell (p := ⟨b, 1, none⟩) (by show b < C; omega)).trans h2⟩

set_option maxHeartbeats 1600000 in
set_option maxRecDepth 100000 in
theorem write_bad (v : Value) (L : List Fl) (w : World) (hM : Mid L) (hF : FL w v L) (hW : firstW L < L.length) :
    Calls Tryd.prog 27 #[v] w fun e w' => ∃ E, e = .returned (.tuple #[.string ⟨#[]⟩, E]) ∧ ErrAt w' E 1 (firstW L) ∧ Below w.heap.size w w' := by
  have hlen := hM.1
  have HF := Box.mk hF
  obtain ⟨A, cap, rfl, hcap, _⟩ := hF
  have hi : (firstW L : Int) < (L.length : Int) := by omega
  go_enter Tryd.func27, Tryd.ntmps27
  go_wp2_with fail
  refine (firstWrong_any _ L _ hM.tiny HF.out).mono ?_
  rintro e w1 ⟨rfl, hb⟩
  go_wp2
  go_ret2
  exact ⟨_, rfl, ⟨_, rfl, by simp, by simp⟩, hb.alloc hb.size _⟩

set_option maxHeartbeats 1600000 in
set_option maxRecDepth 100000 in
theorem write_good (v : Value) (L : List Fl) (w : World) (hM : Mid L) (hF : FL w v L) (hW : firstW L = L.length) :
    Calls Tryd.prog 27 #[v] w fun e w' => ∃ S : ByteArray, e = .returned (.tuple #[.string S, .nilIface]) ∧ S.data.toList = fieldsB L ++ [13, 10] ∧ Below w.heap.size w w' := by
  have hlen := hM.1
  have HM := Box.mk hM
  have HF := Box.mk hF
  have HW := Box.mk hW
  obtain ⟨A, cap, rfl, hcap, hcells⟩ := hF
  have HC := Box.mk hcells
  clear hcells hM hW
  go_enter Tryd.func27, Tryd.ntmps27
  go_wp2_with fail
  refine (firstWrong_any _ L _ HM.out.tiny HF.out).mono ?_
  rw [HW.out]
  rintro e w1 ⟨rfl, hb0⟩
  clear HF HW
  go_wp2
  go_loopw [5, 20] (fun x i wr => ∃ k : Nat, k ≤ L.length ∧ i = .int .i64 k ∧ Own wr w.heap.size x (fieldsB (L.take k)) ∧ Below w.heap.size w wr) (fun _ i _ => L.length - (intOf i).toNat)
  case atStart => exact ⟨0, Nat.zero_le _, rfl, Own.nil _ _, hb0⟩
  case round =>
    obtain ⟨k, hk, rfl, hown, hb⟩ := hrel
    have hsz := hb.size
    have hol : (fieldsB (L.take k)).length ≤ 1000 * 8006 := by
      have := fieldsB_len (L.take k) fun f hf => HM.out.2 f (List.mem_of_mem_take hf)
      have h2 : (L.take k).length ≤ L.length := List.length_take_le' _ _
      omega
    by_cases hlt : k < L.length
    · have hs := HM.out.2 L[k] (List.getElem_mem hlt)
      obtain ⟨b, off, n, v, rfl, HN, hn, hv, hbl, d0, d1⟩ := HC.out.elem HM.out.tiny hb k hlt
      have hnv : L[k] = (n, v) := by
        have := HN.out
        rw [List.getElem?_eq_getElem hlt] at this
        exact Option.some.inj this
      rw [hnv] at hs
      have HS : Box (fieldsB (L.take (k + 1)) = fieldsB (L.take k) ++ fieldS n.data.toList v.data.toList) := ⟨fieldsB_snoc L k _ HN.out⟩
      have hfl := fieldB_len (n, v) hs
      have hfl' : (fieldS n.data.toList v.data.toList).length ≤ 8006 := hfl
      have hs1 : n.size ≤ 2000 := hs.1
      have hs2 : v.size ≤ 2000 := hs.2
      have hb2 := hb.alloc hsz (.cells #[.string n, .string v] 54)
      have hownA : Own (wr.alloc (.cells #[.string n, .string v] 54)) w.heap.size u5 (fieldsB (L.take k)) := World.ownsRow.alloc hown _
      clear HC HM HN hnv hs hfl hn hv hown
      go_wp2_with fail
      refine (written_any n v _ (by omega) (by omega)).mono ?_
      rintro e w2 ⟨x, rfl, hx, hb3⟩
      have hown2 := hownA.below hb3 (Nat.le_refl _)
      have hb4 := hb2.trans (hb3.mono hb2.size)
      clear hownA hb2 hb3
      generalize fieldS n.data.toList v.data.toList = fl at hx HS hfl'
      have hxc := hx
      obtain ⟨g, c, cur, fz, rfl, hgB, _⟩ := hx
      go_wp2_with (at_builtin; refine wp_app _ w rfl (.tmp 24) (.tmp 26) rfl w.heap.size _ _ rfl hown2 ⟨g, 0, none⟩ _ c fl rfl rfl (fun j hj => by rw [Addr.add_lit, Nat.zero_add]; exact (hxc.cell j hj).1) (by omega) hb4.size hb4 ?_; intro v' w3 hown3 hb5 _)
      go_roundw
      case rel => exact ⟨k + 1, by omega, by go_num, by rw [HS.out]; exact hown3, hb5⟩
      case measure => simp [intOf]; omega
    · have HE : Box (fieldsB (L.take k) = fieldsB L) := ⟨by rw [List.take_of_length_le (by omega)]⟩
      rw [HE.out] at hown hol
      clear HC HM HE
      go_wp2_with (at_builtin; refine wp_appS _ w rfl (.tmp 29) _ rfl w.heap.size u5 _ rfl hown ⟨#[13, 10]⟩ rfl (by simp [ByteArray.size_mk']; omega) hsz hb ?_; intro v2 w2 hown2 hb2; have hcv := hown2.string)
      go_ret2
      exact ⟨_, rfl, rfl, hb2⟩

/- What the document's own way keeps. -/
def Phase (vl : List UInt8) (k : Nat) (ws : List (List UInt8)) (wd : List UInt8) : Prop :=
  (k ≤ vl.length ∧ ∃ f, wordsTo vl k = (ws, f) ∧ wd = (vl.drop f).take (k - f)) ∨ (k = vl.length + 1 ∧ ws = wordsS vl ∧ wd = [])
theorem Phase.start (vl : List UInt8) : Phase vl 0 [] [] := .inl ⟨Nat.zero_le _, 0, rfl, by simp⟩
theorem Phase.on {vl : List UInt8} {k : Nat} {ws : List (List UInt8)} {wd : List UInt8} (h : Phase vl k ws wd) (c : UInt8) (hc : vl[k]? = some c) (hcut : cutP vl k = false) : Phase vl (k + 1) ws (wd ++ [c]) := by
  have hk := (List.getElem?_eq_some_iff.1 hc).1
  rcases h with ⟨_, f, h1, rfl⟩ | ⟨h, _⟩
  · have hf := wordsTo_le vl k
    rw [h1] at hf
    refine .inl ⟨hk, f, by rw [wordsTo_succ _ _ h1, hcut]; rfl, ?_⟩
    have e : k + 1 - f = k - f + 1 := by simp only at hf; omega
    rw [e, List.take_add_one, List.getElem?_drop]
    have e2 : f + (k - f) = k := by simp only at hf; omega
    rw [e2, hc]; rfl
  · omega
theorem Phase.cut {vl : List UInt8} {k : Nat} {ws : List (List UInt8)} {wd : List UInt8} (h : Phase vl k ws wd) (c : UInt8) (hc : vl[k]? = some c) (hcut : cutP vl k = true) : Phase vl (k + 1) (ws ++ [wd]) [c] := by
  have hk := (List.getElem?_eq_some_iff.1 hc).1
  rcases h with ⟨_, f, h1, rfl⟩ | ⟨h, _⟩
  · refine .inl ⟨hk, k, by rw [wordsTo_succ _ _ h1, hcut]; rfl, ?_⟩
    have e : k + 1 - k = 0 + 1 := by omega
    rw [e, List.take_add_one, List.getElem?_drop, Nat.add_zero, hc]; rfl
  · omega
theorem Phase.last {vl : List UInt8} {ws : List (List UInt8)} {wd : List UInt8} (h : Phase vl vl.length ws wd) : Phase vl (vl.length + 1) (ws ++ [wd]) [] := by
  rcases h with ⟨_, f, h1, rfl⟩ | ⟨h, _⟩
  · refine .inr ⟨rfl, ?_, rfl⟩
    unfold wordsS
    rw [h1, List.take_of_length_le (by rw [List.length_drop]; exact Nat.le_refl _)]
  · omega
theorem Phase.len {vl : List UInt8} {k : Nat} {ws : List (List UInt8)} {wd : List UInt8} (h : Phase vl k ws wd) : ws.flatten.length ≤ vl.length ∧ ws.length ≤ vl.length + 1 ∧ wd.length ≤ vl.length := by
  rcases h with ⟨hk, f, h1, rfl⟩ | ⟨_, rfl, rfl⟩
  · have a := wordsTo_flat vl k
    have b := wordsTo_count vl k
    rw [h1] at a b
    simp only at a b
    refine ⟨by rw [a]; exact List.length_take_le' _ _, by omega, ?_⟩
    rw [List.length_take, List.length_drop]; omega
  · exact ⟨by rw [wordsS_flat]; exact Nat.le_refl _, wordsS_count vl, Nat.zero_le _⟩
theorem wordsTo_cut (v : List UInt8) (i : Nat) : (wordsTo v i).1 = [] ∨ (wordsTo v i).2 < i := by
  induction i with
  | zero => exact .inl rfl
  | succ i ih =>
    unfold wordsTo
    split
    · exact .inr (Nat.lt_succ_self _)
    · rcases ih with h | h
      · exact .inl h
      · exact .inr (by omega)
theorem Phase.word {vl : List UInt8} {k : Nat} {ws : List (List UInt8)} {wd : List UInt8} (h : Phase vl k ws wd) (hk : k ≤ vl.length) (hne : ws ≠ []) : 0 < wd.length := by
  rcases h with ⟨_, f, h1, rfl⟩ | ⟨h, _⟩
  · have a := wordsTo_cut vl k
    rw [h1] at a
    rcases a with a | a
    · exact absurd a hne
    · simp only at a
      rw [List.length_take, List.length_drop]; omega
  · omega
theorem Phase.end {vl : List UInt8} {k : Nat} {ws : List (List UInt8)} {wd : List UInt8} (h : Phase vl k ws wd) (hk : ¬ k ≤ vl.length) : ws = wordsS vl := by
  rcases h with ⟨h, _⟩ | ⟨_, h, _⟩
  · exact absurd h hk
  · exact h

def LineP (S0 nl : List UInt8) (ws : List (List UInt8)) (S line : List UInt8) : Prop := ∃ o, linesW nl ws = (o, line.length, !ws.isEmpty) ∧ S ++ line = S0 ++ o
theorem LineP.start (S0 nl : List UInt8) : LineP S0 nl [] S0 (nl ++ [58, 32]) := ⟨nl ++ [58, 32], by simp [linesW, begin], rfl⟩
theorem LineP.first {S0 nl S line : List UInt8} (h : LineP S0 nl [] S line) (wd : List UInt8) : LineP S0 nl ([] ++ [wd]) S (line ++ wd) := by
  obtain ⟨o, h1, h2⟩ := h
  refine ⟨o ++ wd, ?_, by rw [← List.append_assoc, h2, List.append_assoc]⟩
  rw [linesW_snoc, h1]
  simp [stepW]
theorem LineP.keep {S0 nl S line : List UInt8} {ws : List (List UInt8)} (h : LineP S0 nl ws S line) (wd : List UInt8) (hk : ¬ 76 < line.length + wd.length) : LineP S0 nl (ws ++ [wd]) S (line ++ wd) := by
  obtain ⟨o, h1, h2⟩ := h
  refine ⟨o ++ wd, ?_, by rw [← List.append_assoc, h2, List.append_assoc]⟩
  rw [linesW_snoc, h1]
  simp [stepW, hk]
theorem LineP.brk {S0 nl S line : List UInt8} {ws : List (List UInt8)} (h : LineP S0 nl ws S line) (wd : List UInt8) (hne : ws ≠ []) (hk : 76 < line.length + wd.length) : LineP S0 nl (ws ++ [wd]) (S ++ (line ++ [13, 10])) wd := by
  obtain ⟨o, h1, h2⟩ := h
  refine ⟨o ++ [13, 10] ++ wd, ?_, by rw [← List.append_assoc, h2]; simp⟩
  have : ws.isEmpty = false := by cases ws <;> simp_all
  rw [linesW_snoc, h1]
  simp [stepW, hk, this]
theorem LineP.len {S0 nl S line : List UInt8} {ws : List (List UInt8)} (h : LineP S0 nl ws S line) : S.length + line.length ≤ S0.length + (nl.length + 2 + ws.flatten.length + 2 * ws.length) := by
  obtain ⟨o, h1, h2⟩ := h
  have a := (linesW_len nl ws).1
  rw [h1] at a
  simp only at a
  have b := congrArg List.length h2
  rw [List.length_append, List.length_append] at b
  omega
theorem LineP.end {S0 nl S line vl : List UInt8} (h : LineP S0 nl (wordsS vl) S line) : S ++ (line ++ [13, 10]) = S0 ++ fieldS nl vl := by
  obtain ⟨o, h1, h2⟩ := h
  unfold fieldS
  rw [h1, ← List.append_assoc, h2, List.append_assoc]

end Go.Proofs.YtiecpbhikkcmjaaDoor
