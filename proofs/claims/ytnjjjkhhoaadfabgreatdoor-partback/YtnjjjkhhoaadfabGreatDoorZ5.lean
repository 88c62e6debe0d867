import Derived.Test.YtnjjjkhhoaadfabGreatDoorZ2
namespace Go.Proofs.YtnjjjkhhoaadfabGreatDoor
open Go.RowKit

/-- One word more: what is written, how long its last line is, whether a word stands there. -/
def stepW (q : List UInt8 × Nat × Bool) (w : List UInt8) : List UInt8 × Nat × Bool :=
  if q.2.2 && decide (76 < q.2.1 + w.length) then (q.1 ++ [13, 10] ++ w, w.length, true) else (q.1 ++ w, q.2.1 + w.length, true)
def begin (n : List UInt8) : List UInt8 × Nat × Bool := (n ++ [58, 32], n.length + 2, false)
def linesW (n : List UInt8) (ws : List (List UInt8)) : List UInt8 × Nat × Bool := ws.foldl stepW (begin n)
/-- A field's lines. -/
def fieldS (n v : List UInt8) : List UInt8 := (linesW n (wordsS v)).1 ++ [13, 10]

theorem snoc_ind {α : Type} {P : List α → Prop} (h0 : P []) (h1 : ∀ l x, P l → P (l ++ [x])) (l : List α) : P l := by
  have key : ∀ l : List α, P l.reverse := fun l => by
    induction l with
    | nil => exact h0
    | cons x l ih => rw [List.reverse_cons]; exact h1 _ _ ih
  have := key l.reverse
  rwa [List.reverse_reverse] at this

theorem linesW_snoc (n : List UInt8) (ws : List (List UInt8)) (x : List UInt8) : linesW n (ws ++ [x]) = stepW (linesW n ws) x := by unfold linesW; rw [List.foldl_append]; rfl
theorem linesW_len (n : List UInt8) (ws : List (List UInt8)) : (linesW n ws).1.length ≤ n.length + 2 + ws.flatten.length + 2 * ws.length ∧ (linesW n ws).2.1 ≤ n.length + 2 + ws.flatten.length := by
  induction ws using snoc_ind with
  | h0 => simp [linesW, begin]
  | h1 ws x ih =>
    rw [linesW_snoc]
    unfold stepW
    simp only [List.flatten_append, List.length_append, List.flatten_cons, List.flatten_nil, List.length_cons, List.length_nil, List.append_nil]
    split
    · simp only [List.length_append, List.length_cons, List.length_nil]; omega
    · simp only [List.length_append]; omega
theorem linesW_some (n : List UInt8) (ws : List (List UInt8)) (h : ws ≠ []) : (linesW n ws).2.2 = true := by
  induction ws using snoc_ind with
  | h0 => exact absurd rfl h
  | h1 ws x ih =>
    rw [linesW_snoc]
    unfold stepW
    split <;> rfl
theorem flat_take (ws : List (List UInt8)) (k : Nat) : (ws.take k).flatten.length ≤ ws.flatten.length := by
  conv => rhs; rw [← List.take_append_drop k ws, List.flatten_append, List.length_append]
  omega
theorem fieldS_len (n v : List UInt8) : (fieldS n v).length ≤ n.length + 3 * v.length + 6 := by
  unfold fieldS
  have h1 := (linesW_len n (wordsS v)).1
  have h2 := wordsS_count v
  rw [wordsS_flat] at h1
  rw [List.length_append]
  simp only [List.length_cons, List.length_nil]
  omega

theorem bytes_at (W w' : World) (B b : Nat) (s : ByteArray) (l : List UInt8) (n cap : Nat) (hbk : b = W.heap.size) (hcap : cap = grownCap W s.size 0 5) (hn : n = s.size) (hs : s.data.toList = l) (hB : B ≤ W.heap.size) (hl : s.size ≤ 1000000000) (e : w'.heap = W.heap.push (.cells (bytesRow s cap) 5 ((bytesRow s cap).size, (bytesRow s cap).size + 1))) :
    OwnG w' B (.slice (some ⟨b, 0, none⟩) n cap) l := by
  subst hbk
  subst hcap
  subst hs
  subst hn
  exact OwnG.bytes W w' B s hB hl e

theorem word_len (ws : List (List UInt8)) (x : List UInt8) (h : x ∈ ws) : x.length ≤ ws.flatten.length := by
  induction ws with
  | nil => exact absurd h (by simp)
  | cons y ws ih =>
    rw [List.flatten_cons, List.length_append]
    rcases List.mem_cons.1 h with rfl | h
    · omega
    · have := ih h; omega
theorem linesW_on (n : List UInt8) (ws : List (List UInt8)) (j : Nat) (x : List UInt8) (hx : ws[j]? = some x) {o : List UInt8} {g : Nat} {q : Bool} (h : linesW n (ws.take j) = (o, g, q)) : linesW n (ws.take (j + 1)) = if q && decide (76 < g + x.length) then (o ++ [13, 10] ++ x, x.length, true) else (o ++ x, g + x.length, true) := by
  rw [take_snocF ws j x hx, linesW_snoc, h]; rfl

set_option maxHeartbeats 3200000 in
set_option maxRecDepth 100000 in
theorem written_any (n v : ByteArray) (w : World) (hn : n.size ≤ 100000) (hv : v.size ≤ 100000) :
    Calls Tryz.prog 99 #[.agg #[.string n, .string v]] w fun e w' => ∃ x, e = .returned x ∧ OwnG w' w.heap.size x (fieldS n.data.toList v.data.toList) ∧ Below w.heap.size w w' := by
  obtain ⟨R, HR⟩ : ∃ R, Box (R = fieldS n.data.toList v.data.toList) := ⟨_, ⟨rfl⟩⟩
  rw [← HR.out]
  have hcv := run_bytes
  go_enter Tryz.func99, Tryz.ntmps99
  go_wp2_with fail
  have hB0 := bytes_at (w.alloc (.cells #[.string n, .string v] 40)) (((w.alloc (.cells #[.string n, .string v] 40)).alloc (.cells (bytesRow (n ++ ⟨#[58, 32]⟩) (grownCap (w.alloc (.cells #[.string n, .string v] 40)) (n.size + 2) 0 5)) 5 ((bytesRow (n ++ ⟨#[58, 32]⟩) (grownCap (w.alloc (.cells #[.string n, .string v] 40)) (n.size + 2) 0 5)).size, (bytesRow (n ++ ⟨#[58, 32]⟩) (grownCap (w.alloc (.cells #[.string n, .string v] 40)) (n.size + 2) 0 5)).size + 1))).drew) w.heap.size (w.heap.size + 1) (n ++ ⟨#[58, 32]⟩) (n.data.toList ++ [58, 32]) (n.size + 2) _ (by simp) (by simp [ByteArray.size_append, ByteArray.size_mk']) (by simp [ByteArray.size_append, ByteArray.size_mk']) (by simp) (by simp) (by simp [ByteArray.size_append, ByteArray.size_mk']; omega) rfl
  have hb0 : Below w.heap.size w (((w.alloc (.cells #[.string n, .string v] 40)).alloc (.cells (bytesRow (n ++ ⟨#[58, 32]⟩) (grownCap (w.alloc (.cells #[.string n, .string v] 40)) (n.size + 2) 0 5)) 5 ((bytesRow (n ++ ⟨#[58, 32]⟩) (grownCap (w.alloc (.cells #[.string n, .string v] 40)) (n.size + 2) 0 5)).size, (bytesRow (n ++ ⟨#[58, 32]⟩) (grownCap (w.alloc (.cells #[.string n, .string v] 40)) (n.size + 2) 0 5)).size + 1))).drew) := (((Below.refl _ _).alloc (Nat.le_refl _) _).alloc (by simp) _).drew
  clear hcv
  refine (words_any v _ (by omega)).mono ?_
  rintro e w1 ⟨x, ss, rfl, hownS, hss, hb1⟩
  have hB1 := hB0.below hb1 (Nat.le_refl _)
  have g1 : Below w.heap.size w w1 := hb0.trans (hb1.mono hb0.size)
  clear hB0 hb0 hb1
  have HSS := Box.mk hss
  have hne : ss ≠ [] := by
    intro h
    have := hss
    rw [h] at this
    unfold wordsS at this
    simp at this
  clear hss
  rcases hownS.shape with ⟨_, h⟩ | ⟨g, cap, rfl, hgB, hgs, hcap, hmax, hc⟩
  · exact absurd h hne
  have HC := Box.mk hc
  have hgB' : w.heap.size + 1 < g := by have := hgB; simp at this; omega
  have hcnt : ss.length ≤ v.size + 1 := by
    have := wordsS_count v.data.toList
    rw [← HSS.out, List.length_map, size_list] at this
    exact this
  have HL : Box (∀ j, ((ss.map lst).take j).flatten.length ≤ v.size) := ⟨fun j => by
    have := flat_take (ss.map lst) j
    rw [HSS.out, wordsS_flat, size_list, ← HSS.out] at this
    exact this⟩
  have HM : Box (∀ a ∈ ss, a.size ≤ v.size) := ⟨fun a ha => by
    have := word_len (ss.map lst) (lst a) (List.mem_map.2 ⟨a, ha, rfl⟩)
    rw [HSS.out, wordsS_flat, size_list] at this
    rw [lst, size_list] at this
    exact this⟩
  have HR' : Box (R = (linesW n.data.toList (ss.map lst)).1 ++ [13, 10]) := ⟨by rw [HR.out, HSS.out]; rfl⟩
  clear hc hne hownS hgB HSS HR
  go_wp2_with fail
  go_loopw [3, 4, 17] (fun x p i wr => ∃ (j gl : Nat) (o : List UInt8) (h : Nat), j ≤ ss.length ∧ i = .int .i64 j ∧ p = .int .i64 gl ∧ x.ownBlock = some h ∧ h ≠ g ∧ OwnG wr w.heap.size x o ∧ Below w.heap.size w wr ∧ g < wr.heap.size ∧ Box (∀ k (hk : k < ss.length), wr.cell? ⟨g, k, none⟩ = some (.string ss[k])) ∧ Box (linesW n.data.toList ((ss.map lst).take j) = (o, gl, decide (0 < j)))) (fun _ _ i _ => ss.length - (intOf i).toNat)
  case atStart => exact ⟨0, n.size + 2, n.data.toList ++ [58, 32], w.heap.size + 1, Nat.zero_le _, rfl, by go_num, by simp [Value.ownBlock], by omega, hB1, g1, hgs, HC, ⟨by unfold linesW begin; rw [size_list]; rfl⟩⟩
  case round =>
    obtain ⟨j, gl, o, h, hj, rfl, rfl, hx, hhg, hown, hb, hgw, HCw, HW⟩ := hrel
    have hsz := hb.size
    have hbd := linesW_len n.data.toList ((ss.map lst).take j)
    rw [HW.out, size_list] at hbd
    have hbd2 := HL.out j
    have hbd3 : ((ss.map lst).take j).length ≤ j := List.length_take_le _ _
    have hol : o.length ≤ 500000 := by have := hbd.1; simp only at this; omega
    have hgl : gl ≤ 300000 := by have := hbd.2; simp only at this; omega
    clear hbd hbd2 hbd3
    by_cases hlt : j < ss.length
    · have hcx := HCw.out j hlt
      obtain ⟨a, ha⟩ : ∃ a, a = ss[j] := ⟨_, rfl⟩
      rw [← ha] at hcx
      have has : a.size ≤ v.size := by rw [ha]; exact HM.out _ (List.getElem_mem hlt)
      have HN : Box (linesW n.data.toList ((ss.map lst).take (j + 1)) = if decide (0 < j) && decide (76 < gl + a.size) then (o ++ [13, 10] ++ a.data.toList, a.size, true) else (o ++ a.data.toList, gl + a.size, true)) := ⟨by
        have := linesW_on n.data.toList (ss.map lst) j (lst a) (by rw [List.getElem?_map, List.getElem?_eq_getElem hlt, ← ha]; rfl) HW.out
        rw [this, lst, size_list]⟩
      have hd : decide (0 < j + 1) = true := decide_eq_true (by omega)
      clear ha HW
      by_cases hbr : 0 < j ∧ 76 < gl + a.size
      · have HN' : Box (linesW n.data.toList ((ss.map lst).take (j + 1)) = (o ++ [13, 10] ++ a.data.toList, a.size, decide (0 < j + 1))) := ⟨by rw [HN.out, decide_eq_true hbr.1, decide_eq_true hbr.2, hd]; rfl⟩
        have z1 : (0 : Int) < (j : Int) := by omega
        have z2 : (76 : Int) < (gl : Int) + (a.size : Int) := by omega
        clear HN hbr hd
        go_wp2_with (first | (at_builtin; refine wp_appG _ w rfl (.tmp 31) _ rfl w.heap.size u3 _ rfl hown ⟨#[13, 10]⟩ rfl (by simp [ByteArray.size_mk']; omega) hsz hb ?_; intro v2 w2 hown2 hb2 hg2 ho2) | (at_builtin; refine wp_appG _ w rfl (.tmp 33) _ rfl w.heap.size v2 _ rfl hown2 a rfl (by simp; omega) hb2.size hb2 ?_; intro v3 w3 hown3 hb3 hg3 ho3))
        have hs2 : wr.heap.size ≤ w2.heap.size := hg2.size
        have hs3 : w2.heap.size ≤ w3.heap.size := hg3.size
        have hx2 : ∃ h2, v2.ownBlock = some h2 ∧ h2 ≠ g := by
          rcases ho2 with q | q
          · exact ⟨h, q.trans hx, hhg⟩
          · exact ⟨_, q, by omega⟩
        obtain ⟨h2, hx2, hh2⟩ := hx2
        have hx3 : ∃ h3, v3.ownBlock = some h3 ∧ h3 ≠ g := by
          rcases ho3 with q | q
          · exact ⟨h2, q.trans hx2, hh2⟩
          · exact ⟨_, q, by omega⟩
        obtain ⟨h3, hx3, hh3⟩ := hx3
        have HC3 : Box (∀ k (hk : k < ss.length), w3.cell? ⟨g, k, none⟩ = some (.string ss[k])) := ⟨fun k hk => by
          rw [grown_cell hg3 ⟨g, k, none⟩ (by show g < _; omega) (by rw [hx2]; simpa using hh2), grown_cell hg2 ⟨g, k, none⟩ hgw (by rw [hx]; simpa using hhg)]
          exact HCw.out k hk⟩
        go_roundw
        case rel => exact ⟨j + 1, a.size, _, h3, by omega, by go_num, by go_num, hx3, hh3, hown3, hb3, by omega, HC3, HN'⟩
        case measure => simp [intOf]; omega
      · have HN' : Box (linesW n.data.toList ((ss.map lst).take (j + 1)) = (o ++ a.data.toList, gl + a.size, decide (0 < j + 1))) := ⟨by
          rw [HN.out, if_neg, hd]
          intro hq
          simp at hq
          exact hbr hq⟩
        have hz : ¬ (0 : Int) < (j : Int) ∨ ((0 : Int) < (j : Int) ∧ ¬ (76 : Int) < (gl : Int) + (a.size : Int)) := by omega
        clear HN hbr hd
        rcases hz with z1 | ⟨z1, z2⟩
        all_goals
          go_wp2_with (at_builtin; refine wp_appG _ w rfl (.tmp 33) _ rfl w.heap.size u3 _ rfl hown a rfl (by omega) hsz hb ?_; intro v3 w3 hown3 hb3 hg3 ho3)
          have hs3 : wr.heap.size ≤ w3.heap.size := hg3.size
          have hx3 : ∃ h3, v3.ownBlock = some h3 ∧ h3 ≠ g := by
            rcases ho3 with q | q
            · exact ⟨h, q.trans hx, hhg⟩
            · exact ⟨_, q, by omega⟩
          obtain ⟨h3, hx3, hh3⟩ := hx3
          have HC3 : Box (∀ k (hk : k < ss.length), w3.cell? ⟨g, k, none⟩ = some (.string ss[k])) := ⟨fun k hk => by
            rw [grown_cell hg3 ⟨g, k, none⟩ hgw (by rw [hx]; simpa using hhg)]
            exact HCw.out k hk⟩
          go_roundw
          case rel => exact ⟨j + 1, gl + a.size, _, h3, by omega, by go_num, by go_num, hx3, hh3, hown3, hb3, by omega, HC3, HN'⟩
          case measure => simp [intOf]; omega
    · have HE : Box (R = o ++ [13, 10]) := ⟨by
        have := HW.out
        rw [List.take_of_length_le (by rw [List.length_map]; omega)] at this
        rw [HR'.out, this]⟩
      clear HW HCw HL HM HR'
      go_wp2_with (at_builtin; refine wp_appG _ w rfl (.tmp 41) _ rfl w.heap.size _ _ rfl hown ⟨#[13, 10]⟩ rfl (by simp [ByteArray.size_mk']; omega) hsz hb ?_; intro v3 w3 hown3 hb3 hg3 ho3)
      go_ret
      exact ⟨_, rfl, by rw [HE.out]; exact hown3, hb3⟩

end Go.Proofs.YtnjjjkhhoaadfabGreatDoor

namespace Go.Proofs.YtnjjjkhhoaadfabGreatDoor
open Go.RowKit

def Mid (L : List Fl) : Prop := L.length ≤ 8000 ∧ ∀ f ∈ L, f.1.size ≤ 24300 ∧ f.2.size ≤ 24300
theorem Mid.tiny {L : List Fl} (h : Mid L) : Tiny L := ⟨Nat.le_trans h.1 (by decide), fun f hf => ⟨Nat.le_trans (h.2 f hf).1 (by decide), Nat.le_trans (h.2 f hf).2 (by decide)⟩⟩
def fieldB (f : Fl) : List UInt8 := fieldS f.1.data.toList f.2.data.toList
/-- A head's lines, but for the last one. -/
def fieldsB (L : List Fl) : List UInt8 := (L.map fieldB).flatten
theorem fieldsB_snoc (L : List Fl) (k : Nat) (f : Fl) (h : L[k]? = some f) : fieldsB (L.take (k + 1)) = fieldsB (L.take k) ++ fieldB f := by
  unfold fieldsB
  rw [take_snocF L k f h]; simp
theorem fieldB_len (f : Fl) (h : f.1.size ≤ 24300 ∧ f.2.size ≤ 24300) : (fieldB f).length ≤ 97206 := by
  have := fieldS_len f.1.data.toList f.2.data.toList
  rw [size_list, size_list] at this
  unfold fieldB
  omega
theorem fieldsB_len (L : List Fl) (h : ∀ f ∈ L, f.1.size ≤ 24300 ∧ f.2.size ≤ 24300) : (fieldsB L).length ≤ L.length * 97206 := by
  induction L with
  | nil => exact Nat.le_refl _
  | cons f L ih =>
    have h1 := fieldB_len f (h f List.mem_cons_self)
    have h2 := ih fun g hg => h g (List.mem_cons_of_mem _ hg)
    have : fieldsB (f :: L) = fieldB f ++ fieldsB L := rfl
    rw [this, List.length_append, List.length_cons]
    omega

/-- An error with its place. -/
def ErrAt (w : World) (E : Value) (n p : Int) : Prop := ∃ b, E = .iface 129 (.pointer (some ⟨b, 0, none⟩)) ∧ w.cell? ⟨b, 0, none⟩ = some (.int .i64 n) ∧ w.cell? ⟨b, 1, none⟩ = some (.int .i64 p)
theorem ErrAt.below {w w' : World} {C : Nat} {E : Value} {n p : Int} (h : ErrAt w E n p) (hb : Below C w w') (hC : w.heap.size ≤ C) : ErrAt w' E n p := by
  obtain ⟨b, rfl, h1, h2⟩ := h
  have hlt : b < w.heap.size := World.block_lt_of_cell? w _ h1
  exact ⟨b, rfl, (hb.cell (p := ⟨b, 0, none⟩) (by show b < C; omega)).trans h1, (hb.cell (p := ⟨b, 1, none⟩) (by show b < C; omega)).trans h2⟩

set_option maxHeartbeats 1600000 in
set_option maxRecDepth 100000 in
theorem write_bad (v : Value) (L : List Fl) (w : World) (hM : Mid L) (hF : FL w v L) (hW : firstW L < L.length) :
    Calls Tryz.prog 51 #[v] w fun e w' => ∃ E, e = .returned (.tuple #[.string ⟨#[]⟩, E]) ∧ ErrAt w' E 1 (firstW L) ∧ Below w.heap.size w w' := by
  have hlen := hM.1
  have HF := Box.mk hF
  obtain ⟨A, cap, rfl, hcap, _⟩ := hF
  have hi : (firstW L : Int) < (L.length : Int) := by omega
  go_enter Tryz.func51, Tryz.ntmps51
  go_wp2_with fail
  refine (firstWrong_any _ L _ hM.tiny HF.out).mono ?_
  rintro e w1 ⟨rfl, hb⟩
  go_wp2
  go_ret2
  exact ⟨_, rfl, ⟨_, rfl, by simp, by simp⟩, hb.alloc hb.size _⟩

set_option maxHeartbeats 1600000 in
set_option maxRecDepth 100000 in
theorem write_good (v : Value) (L : List Fl) (w : World) (hM : Mid L) (hF : FL w v L) (hW : firstW L = L.length) :
    Calls Tryz.prog 51 #[v] w fun e w' => ∃ S : ByteArray, e = .returned (.tuple #[.string S, .nilIface]) ∧ S.data.toList = fieldsB L ++ [13, 10] ∧ Below w.heap.size w w' := by
  have hlen := hM.1
  have HM := Box.mk hM
  have HF := Box.mk hF
  have HW := Box.mk hW
  obtain ⟨A, cap, rfl, hcap, hcells⟩ := hF
  have HC := Box.mk hcells
  clear hcells hM hW
  go_enter Tryz.func51, Tryz.ntmps51
  go_wp2_with fail
  refine (firstWrong_any _ L _ HM.out.tiny HF.out).mono ?_
  rw [HW.out]
  rintro e w1 ⟨rfl, hb0⟩
  clear HF HW
  go_wp2
  go_loopw [5, 20] (fun x i wr => ∃ k : Nat, k ≤ L.length ∧ i = .int .i64 k ∧ Own wr w.heap.size x (fieldsB (L.take k)) ∧ Below w.heap.size w wr) (fun _ i _ => L.length - (intOf i).toNat)
  case atStart => exact ⟨0, Nat.zero_le _, rfl, Own.nil _ _, hb0⟩
  case round =>
    obtain ⟨k, hk, rfl, hown, hb⟩ := hrel
    have hsz := hb.size
    have hol : (fieldsB (L.take k)).length ≤ 777648000 := by
      have := fieldsB_len (L.take k) fun f hf => HM.out.2 f (List.mem_of_mem_take hf)
      have h2 : (L.take k).length ≤ L.length := List.length_take_le' _ _
      exact Nat.le_trans this (Nat.mul_le_mul_right _ (Nat.le_trans h2 HM.out.1))
    by_cases hlt : k < L.length
    · have hs := HM.out.2 L[k] (List.getElem_mem hlt)
      obtain ⟨b, off, n, v, rfl, HN, hn, hv, hbl, d0, d1⟩ := HC.out.elem HM.out.tiny hb k hlt
      have hnv : L[k] = (n, v) := by
        have := HN.out
        rw [List.getElem?_eq_getElem hlt] at this
        exact Option.some.inj this
      rw [hnv] at hs
      have HS : Box (fieldsB (L.take (k + 1)) = fieldsB (L.take k) ++ fieldS n.data.toList v.data.toList) := ⟨fieldsB_snoc L k _ HN.out⟩
      have hfl := fieldB_len (n, v) hs
      have hfl' : (fieldS n.data.toList v.data.toList).length ≤ 97206 := hfl
      have hs1 : n.size ≤ 24300 := hs.1
      have hs2 : v.size ≤ 24300 := hs.2
      have hb2 := hb.alloc hsz (.cells #[.string n, .string v] 40)
      have hownA : Own (wr.alloc (.cells #[.string n, .string v] 40)) w.heap.size u5 (fieldsB (L.take k)) := World.ownsRow.alloc hown _
      clear HC HM HN hnv hs hfl hn hv hown
      go_wp2_with fail
      refine (written_any n v _ (by omega) (by omega)).mono ?_
      rintro e w2 ⟨x, rfl, hx, hb3⟩
      have hown2 := hownA.below hb3 (Nat.le_refl _)
      have hb4 := hb2.trans (hb3.mono hb2.size)
      clear hownA hb2 hb3
      generalize fieldS n.data.toList v.data.toList = fl at hx HS hfl'
      have hxc := hx
      obtain ⟨g, c, cur, fz, rfl, hgB, _⟩ := hx
      go_wp2_with (at_builtin; refine wp_app _ w rfl (.tmp 24) (.tmp 26) rfl w.heap.size _ _ rfl hown2 ⟨g, 0, none⟩ _ c fl rfl rfl (fun j hj => by rw [Addr.add_lit, Nat.zero_add]; exact (hxc.cell j hj).1) (by omega) hb4.size hb4 ?_; intro v' w3 hown3 hb5 _)
      go_roundw
      case rel => exact ⟨k + 1, by omega, by go_num, by rw [HS.out]; exact hown3, hb5⟩
      case measure => simp [intOf]; omega
    · have HE : Box (fieldsB (L.take k) = fieldsB L) := ⟨by rw [List.take_of_length_le (by omega)]⟩
      rw [HE.out] at hown hol
      clear HC HM HE
      go_wp2_with (at_builtin; refine wp_appS _ w rfl (.tmp 29) _ rfl w.heap.size u5 _ rfl hown ⟨#[13, 10]⟩ rfl (by simp [ByteArray.size_mk']; omega) hsz hb ?_; intro v2 w2 hown2 hb2; have hcv := hown2.string)
      go_ret2
      exact ⟨_, rfl, rfl, hb2⟩

/- What the document's own way keeps. -/
def Phase (vl : List UInt8) (k : Nat) (ws : List (List UInt8)) (wd : List UInt8) : Prop :=
  (k ≤ vl.length ∧ ∃ f, wordsTo vl k = (ws, f) ∧ wd = (vl.drop f).take (k - f)) ∨ (k = vl.length + 1 ∧ ws = wordsS vl ∧ wd = [])
theorem Phase.start (vl : List UInt8) : Phase vl 0 [] [] := .inl ⟨Nat.zero_le _, 0, rfl, by simp⟩
theorem Phase.on {vl : List UInt8} {k : Nat} {ws : List (List UInt8)} {wd : List UInt8} (h : Phase vl k ws wd) (c : UInt8) (hc : vl[k]? = some c) (hcut : cutP vl k = false) : Phase vl (k + 1) ws (wd ++ [c]) := by
  have hk := (List.getElem?_eq_some_iff.1 hc).1
  rcases h with ⟨_, f, h1, rfl⟩ | ⟨h, _⟩
  · have hf := wordsTo_le vl k
    rw [h1] at hf
    refine .inl ⟨hk, f, by rw [wordsTo_succ _ _ h1, hcut]; rfl, ?_⟩
    have e : k + 1 - f = k - f + 1 := by simp only at hf; omega
    rw [e, List.take_add_one, List.getElem?_drop]
    have e2 : f + (k - f) = k := by simp only at hf; omega
    rw [e2, hc]; rfl
  · omega
theorem Phase.cut {vl : List UInt8} {k : Nat} {ws : List (List UInt8)} {wd : List UInt8} (h : Phase vl k ws wd) (c : UInt8) (hc : vl[k]? = some c) (hcut : cutP vl k = true) : Phase vl (k + 1) (ws ++ [wd]) [c] := by
  have hk := (List.getElem?_eq_some_iff.1 hc).1
  rcases h with ⟨_, f, h1, rfl⟩ | ⟨h, _⟩
  · refine .inl ⟨hk, k, by rw [wordsTo_succ _ _ h1, hcut]; rfl, ?_⟩
    have e : k + 1 - k = 0 + 1 := by omega
    rw [e, List.take_add_one, List.getElem?_drop, Nat.add_zero, hc]; rfl
  · omega
theorem Phase.last {vl : List UInt8} {ws : List (List UInt8)} {wd : List UInt8} (h : Phase vl vl.length ws wd) : Phase vl (vl.length + 1) (ws ++ [wd]) [] := by
  rcases h with ⟨_, f, h1, rfl⟩ | ⟨h, _⟩
  · refine .inr ⟨rfl, ?_, rfl⟩
    unfold wordsS
    rw [h1, List.take_of_length_le (by rw [List.length_drop]; exact Nat.le_refl _)]
  · omega
theorem Phase.len {vl : List UInt8} {k : Nat} {ws : List (List UInt8)} {wd : List UInt8} (h : Phase vl k ws wd) : ws.flatten.length ≤ vl.length ∧ ws.length ≤ vl.length + 1 ∧ wd.length ≤ vl.length := by
  rcases h with ⟨hk, f, h1, rfl⟩ | ⟨_, rfl, rfl⟩
  · have a := wordsTo_flat vl k
    have b := wordsTo_count vl k
    rw [h1] at a b
    simp only at a b
    refine ⟨by rw [a]; exact List.length_take_le' _ _, by omega, ?_⟩
    rw [List.length_take, List.length_drop]; omega
  · exact ⟨by rw [wordsS_flat]; exact Nat.le_refl _, wordsS_count vl, Nat.zero_le _⟩
theorem wordsTo_cut (v : List UInt8) (i : Nat) : (wordsTo v i).1 = [] ∨ (wordsTo v i).2 < i := by
  induction i with
  | zero => exact .inl rfl
  | succ i ih =>
    unfold wordsTo
    split
    · exact .inr (Nat.lt_succ_self _)
    · rcases ih with h | h
      · exact .inl h
      · exact .inr (by omega)
theorem Phase.word {vl : List UInt8} {k : Nat} {ws : List (List UInt8)} {wd : List UInt8} (h : Phase vl k ws wd) (hk : k ≤ vl.length) (hne : ws ≠ []) : 0 < wd.length := by
  rcases h with ⟨_, f, h1, rfl⟩ | ⟨h, _⟩
  · have a := wordsTo_cut vl k
    rw [h1] at a
    rcases a with a | a
    · exact absurd a hne
    · simp only at a
      rw [List.length_take, List.length_drop]; omega
  · omega
theorem Phase.end {vl : List UInt8} {k : Nat} {ws : List (List UInt8)} {wd : List UInt8} (h : Phase vl k ws wd) (hk : ¬ k ≤ vl.length) : ws = wordsS vl := by
  rcases h with ⟨h, _⟩ | ⟨_, h, _⟩
  · exact absurd h hk
  · exact h

def LineP (S0 nl : List UInt8) (ws : List (List UInt8)) (S line : List UInt8) : Prop := ∃ o, linesW nl ws = (o, line.length, !ws.isEmpty) ∧ S ++ line = S0 ++ o
theorem LineP.start (S0 nl : List UInt8) : LineP S0 nl [] S0 (nl ++ [58, 32]) := ⟨nl ++ [58, 32], by simp [linesW, begin], rfl⟩
theorem LineP.first {S0 nl S line : List UInt8} (h : LineP S0 nl [] S line) (wd : List UInt8) : LineP S0 nl ([] ++ [wd]) S (line ++ wd) := by
  obtain ⟨o, h1, h2⟩ := h
  refine ⟨o ++ wd, ?_, by rw [← List.append_assoc, h2, List.append_assoc]⟩
  rw [linesW_snoc, h1]
  simp [stepW]
theorem LineP.keep {S0 nl S line : List UInt8} {ws : List (List UInt8)} (h : LineP S0 nl ws S line) (wd : List UInt8) (hk : ¬ 76 < line.length + wd.length) : LineP S0 nl (ws ++ [wd]) S (line ++ wd) := by
  obtain ⟨o, h1, h2⟩ := h
  refine ⟨o ++ wd, ?_, by rw [← List.append_assoc, h2, List.append_assoc]⟩
  rw [linesW_snoc, h1]
  simp [stepW, hk]
theorem LineP.brk {S0 nl S line : List UInt8} {ws : List (List UInt8)} (h : LineP S0 nl ws S line) (wd : List UInt8) (hne : ws ≠ []) (hk : 76 < line.length + wd.length) : LineP S0 nl (ws ++ [wd]) (S ++ (line ++ [13, 10])) wd := by
  obtain ⟨o, h1, h2⟩ := h
  refine ⟨o ++ [13, 10] ++ wd, ?_, by rw [← List.append_assoc, h2]; simp⟩
  have : ws.isEmpty = false := by cases ws <;> simp_all
  rw [linesW_snoc, h1]
  simp [stepW, hk, this]
theorem LineP.len {S0 nl S line : List UInt8} {ws : List (List UInt8)} (h : LineP S0 nl ws S line) : S.length + line.length ≤ S0.length + (nl.length + 2 + ws.flatten.length + 2 * ws.length) := by
  obtain ⟨o, h1, h2⟩ := h
  have a := (linesW_len nl ws).1
  rw [h1] at a
  simp only at a
  have b := congrArg List.length h2
  rw [List.length_append, List.length_append] at b
  omega
theorem LineP.end {S0 nl S line vl : List UInt8} (h : LineP S0 nl (wordsS vl) S line) : S ++ (line ++ [13, 10]) = S0 ++ fieldS nl vl := by
  obtain ⟨o, h1, h2⟩ := h
  unfold fieldS
  rw [h1, ← List.append_assoc, h2, List.append_assoc]

end Go.Proofs.YtnjjjkhhoaadfabGreatDoor

