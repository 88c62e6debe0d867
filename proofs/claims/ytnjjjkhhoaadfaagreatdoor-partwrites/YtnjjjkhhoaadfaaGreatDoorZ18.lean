import Derived.Test.YtnjjjkhhoaadfaaGreatDoorZ17
import Derived.Test.YtnjjjkhhoaadfaaGreatDoorZShelfK
import Derived.Lib.CountLaws
import Derived.Lib.SplitLaws
import Derived.OneCell
namespace Go.Proofs.YtnjjjkhhoaadfaaGreatDoor
open Go.RowKit

theorem tok_slash (l : List UInt8) (h : 47 ∈ l) : tokS l = false := by
  refine tokS_false l ?_
  rw [List.all_eq_false]
  exact ⟨47, h, by decide⟩
def slash : ByteArray := ⟨#[47]⟩
theorem main_cases (s : ByteArray) : (Lib.countB s slash = 0 ∧ Lib.splitB slash 0 0 s = [s] ∧ isMainS s.data.toList = tokS s.data.toList) ∨
    (∃ a b : ByteArray, Lib.countB s slash = 1 ∧ Lib.splitB slash 0 1 s = [a, b] ∧ isMainS s.data.toList = (tokS a.data.toList && tokS b.data.toList) ∧ a.size ≤ s.size ∧ b.size ≤ s.size) ∨
    (2 ≤ Lib.countB s slash ∧ isMainS s.data.toList = false) := by
  have hix : Lib.indexB s slash = Lib.indexByte s.data.toList 47 := index_one s.data.toList 47
  rcases byte_while s.data.toList 47 with ⟨h1, h2, h3⟩ | ⟨h1, r, h2⟩
  · refine .inl ⟨Lib.countB_miss s slash (hix.trans h1), rfl, ?_⟩
    unfold isMainS
    rw [h2, h3]
    simp
  · right
    have hc := Lib.countB_hit s slash (s.data.toList.takeWhile (· != 47)).length (by decide) (hix.trans h1)
    have hw := while_take (p := (· != 47)) s
    have e := List.takeWhile_append_dropWhile (p := (· != 47)) (l := s.data.toList)
    have hrest : (s.extract ((s.data.toList.takeWhile (· != 47)).length + 1) s.size).data.toList = r := by
      have h3 := hw.2
      rw [extract_list, List.take_of_length_le (by rw [List.length_drop, size_list]; exact Nat.le_refl _)] at h3 ⊢
      rw [← List.drop_drop, h3, h2]; rfl
    have hM : isMainS s.data.toList = (tokS (s.data.toList.takeWhile (· != 47)) && tokS r) := by
      unfold isMainS
      rw [h2]; simp
    have hs1 : slash.size = 1 := rfl
    rw [hs1] at hc
    by_cases h0 : Lib.countB (s.extract ((s.data.toList.takeWhile (· != 47)).length + 1) s.size) slash = 0
    · rw [h0] at hc
      refine .inl ⟨s.extract 0 (s.data.toList.takeWhile (· != 47)).length, s.extract ((s.data.toList.takeWhile (· != 47)).length + 1) s.size, hc, ?_, ?_, ?_, ?_⟩
      · rw [Lib.splitB_hit slash 0 0 s (s.data.toList.takeWhile (· != 47)).length (hix.trans h1), Lib.splitB_zero, hs1]
        rfl
      · rw [hw.1, hrest, hM]
      · rw [ByteArray.size_extract]; omega
      · rw [ByteArray.size_extract]; omega
    · refine .inr ⟨by omega, ?_⟩
      have hin : 47 ∈ r := by
        have hix2 : Lib.indexB (s.extract ((s.data.toList.takeWhile (· != 47)).length + 1) s.size) slash = Lib.indexByte (s.extract ((s.data.toList.takeWhile (· != 47)).length + 1) s.size).data.toList 47 := index_one _ 47
        rw [hrest] at hix2
        rcases byte_while r 47 with ⟨g1, _, _⟩ | ⟨_, r', g2⟩
        · exact absurd (Lib.countB_miss _ slash (hix2.trans g1)) h0
        · have := List.takeWhile_append_dropWhile (p := (· != 47)) (l := r)
          rw [g2] at this
          rw [← this]
          simp
      rw [hM, tok_slash r hin, Bool.and_false]

set_option maxHeartbeats 800000 in
set_option maxRecDepth 100000 in
theorem rmain_any (s : ByteArray) (w : World) (hs : s.size ≤ 1000000) (hm : Max w) :
    Calls Tryz.prog 110 #[.string s] w fun e w' => e = .returned (.bool (isMainS s.data.toList)) ∧ Below w.heap.size w w' := by
  obtain ⟨R, HR⟩ : ∃ R, Box (R = isMainS s.data.toList) := ⟨_, ⟨rfl⟩⟩
  rw [← HR.out]
  obtain ⟨_, x, hx⟩ := hm
  have hsp := Tryz.strings_Split s slash x w (by omega) hx (by decide)
  have hcnt := Lib.countB_le slash (by decide) _ s (Nat.le_refl _)
  rcases main_cases s with ⟨h1, h2, h3⟩ | ⟨a, b, h1, h2, h3, h4, h5⟩ | ⟨h1, h3⟩
  · rw [h1, h2] at hsp
    have HE : Box (R = tokS s.data.toList) := ⟨by rw [HR.out, h3]⟩
    clear HR h1 h2 h3 hcnt
    cases ht : tokS s.data.toList
    · have HT : Calls Tryz.prog 115 #[.string s] (w.alloc (.cells #[.string s] 9)) fun e w' => e = .returned (.bool false) ∧ w' = (w.alloc (.cells #[.string s] 9)) := by
        rw [← ht]; exact rToken_any s _ hs
      rw [ht] at HE
      clear ht
      go_enter Tryz.func110, Tryz.ntmps110
      go_wp2_with fail
      refine hsp.mono ?_
      rintro e w1 ⟨rfl, rfl⟩
      go_wp2_with fail
      refine HT.mono ?_
      rintro e w1 ⟨rfl, rfl⟩
      go_wp2
      go_ret
      exact ⟨ret_bool HE.out.symm, (Below.refl _ _).alloc (Nat.le_refl _) _⟩
    · have HT : Calls Tryz.prog 115 #[.string s] (w.alloc (.cells #[.string s] 9)) fun e w' => e = .returned (.bool true) ∧ w' = (w.alloc (.cells #[.string s] 9)) := by
        rw [← ht]; exact rToken_any s _ hs
      rw [ht] at HE
      clear ht
      go_enter Tryz.func110, Tryz.ntmps110
      go_wp2_with fail
      refine hsp.mono ?_
      rintro e w1 ⟨rfl, rfl⟩
      go_wp2_with fail
      refine HT.mono ?_
      rintro e w1 ⟨rfl, rfl⟩
      go_wp2_with fail
      refine HT.mono ?_
      rintro e w1 ⟨rfl, rfl⟩
      go_wp2
      go_ret
      exact ⟨ret_bool HE.out.symm, (Below.refl _ _).alloc (Nat.le_refl _) _⟩
  · rw [h1, h2] at hsp
    have HE : Box (R = (tokS a.data.toList && tokS b.data.toList)) := ⟨by rw [HR.out, h3]⟩
    clear HR h1 h2 h3 hcnt
    cases ht : tokS a.data.toList
    · have HT : Calls Tryz.prog 115 #[.string a] (w.alloc (.cells #[.string a, .string b] 9)) fun e w' => e = .returned (.bool false) ∧ w' = (w.alloc (.cells #[.string a, .string b] 9)) := by
        rw [← ht]; exact rToken_any a _ (by omega)
      have HE' : Box (R = false) := ⟨by rw [HE.out, ht]; rfl⟩
      clear ht HE
      go_enter Tryz.func110, Tryz.ntmps110
      go_wp2_with fail
      refine hsp.mono ?_
      rintro e w1 ⟨rfl, rfl⟩
      go_wp2_with fail
      refine HT.mono ?_
      rintro e w1 ⟨rfl, rfl⟩
      go_wp2
      go_ret
      exact ⟨ret_bool HE'.out.symm, (Below.refl _ _).alloc (Nat.le_refl _) _⟩
    · have HT : Calls Tryz.prog 115 #[.string a] (w.alloc (.cells #[.string a, .string b] 9)) fun e w' => e = .returned (.bool true) ∧ w' = (w.alloc (.cells #[.string a, .string b] 9)) := by
        rw [← ht]; exact rToken_any a _ (by omega)
      have HE' : Box (R = tokS b.data.toList) := ⟨by rw [HE.out, ht]; rfl⟩
      clear ht HE
      go_enter Tryz.func110, Tryz.ntmps110
      go_wp2_with fail
      refine hsp.mono ?_
      rintro e w1 ⟨rfl, rfl⟩
      go_wp2_with fail
      refine HT.mono ?_
      rintro e w1 ⟨rfl, rfl⟩
      go_wp2_with fail
      refine (rToken_any b _ (by omega)).mono ?_
      rintro e w1 ⟨rfl, rfl⟩
      go_wp2
      go_ret
      exact ⟨ret_bool HE'.out.symm, (Below.refl _ _).alloc (Nat.le_refl _) _⟩
  · have HE : Box (R = false) := ⟨by rw [HR.out, h3]⟩
    have h2 : ¬ ((Lib.countB s slash : Int) + 1 ≤ 2) := by omega
    clear HR h3
    generalize Lib.countB s slash = c at hsp h1 h2 hcnt
    go_enter Tryz.func110, Tryz.ntmps110
    go_wp2_with fail
    refine hsp.mono ?_
    rintro e w1 ⟨rfl, rfl⟩
    go_wp2
    go_ret
    exact ⟨ret_bool HE.out.symm, (Below.refl _ _).alloc (Nat.le_refl _) _⟩

end Go.Proofs.YtnjjjkhhoaadfaaGreatDoor

namespace Go.Proofs.YtnjjjkhhoaadfaaGreatDoor
open Go.RowKit

/- The reference's ReadKind: its reader in block b, its list behind it. -/
structure KS (w : World) (B b : Nat) (v : Value) (acc : List Fl) (w' : World) (t : ByteArray) (ok : Bool) : Prop where
  rs : RS w' b t ok
  own : OwnQ w' (b + 1) v acc
  bel : Below B w w'
  le : B ≤ b
theorem KS.lt {w : World} {B b : Nat} {v : Value} {acc : List Fl} {w' : World} {t : ByteArray} {ok : Bool} (h : KS w B b v acc w' t ok) : b < w'.heap.size := h.rs.cells.2.2.2.2
theorem KS.kept {w : World} {B b : Nat} {v : Value} {acc : List Fl} {w' w2 : World} {t t2 : ByteArray} {ok ok2 : Bool} (h : KS w B b v acc w' t ok) (hr : RS w2 b t2 ok2) (hg : w'.grownBy w2 (some b)) : KS w B b v acc w2 t2 ok2 :=
  ⟨hr, h.own.kept hg (by omega), h.bel.grown hg (Nat.le_trans h.le (Nat.le_of_lt h.lt)) (fun k hk => by cases hk; exact h.le), h.le⟩
theorem KS.below {w : World} {B b : Nat} {v : Value} {acc : List Fl} {w' w2 : World} {t : ByteArray} {ok : Bool} (h : KS w B b v acc w' t ok) (hb : Below w'.heap.size w' w2) : KS w B b v acc w2 t ok :=
  ⟨h.rs.below hb h.lt, h.own.below hb (Nat.le_refl _), h.bel.trans (hb.mono (Nat.le_trans h.le (Nat.le_of_lt h.lt))), h.le⟩
theorem KS.setP {w : World} {B b P : Nat} {v : Value} {acc : List Fl} {w' : World} {t : ByteArray} {ok : Bool} (h : KS w B b v acc w' t ok) (hv : v.ownBlock ≠ some P) (hP : b < P) (x : Value) : KS w B b v acc (w'.setCell ⟨P, 1, none⟩ x) t ok :=
  ⟨(heap_setCell_other w' ⟨P, 1, none⟩ b x (fun e => by have : b = P := e; omega)).trans h.rs, ownsRow_setCell_other h.own hv x, h.bel.setCell (p := ⟨P, 1, none⟩) (by have := h.le; show B ≤ P; omega) x, h.le⟩
theorem KS.apart {w : World} {B b : Nat} {v : Value} {acc : List Fl} {w' : World} {t : ByteArray} {ok : Bool} (h : KS w B b v acc w' t ok) : v.ownBlock ≠ some w'.heap.size := fun e => by
  have := (World.ownsRow.lt h.own _ e).2
  omega
/-- A parameter in a block of its own. -/
def PS (w : World) (P : Nat) (n v : ByteArray) : Prop := w.heap[P]? = some (.cells #[.string n, .string v] 114 (0, 0))
theorem PS.cells {w : World} {P : Nat} {n v : ByteArray} (h : PS w P n v) : w.cell? ⟨P, 0, none⟩ = some (.string n) ∧ w.cell? ⟨P, 1, none⟩ = some (.string v) ∧ w.frozen? ⟨P, 0, none⟩ = false ∧ w.frozen? ⟨P, 1, none⟩ = false ∧ P < w.heap.size := by
  have h' : w.heap[P]? = _ := h
  refine ⟨by simp [World.cell?, h'], by simp [World.cell?, h'], by simp [World.frozen?, h'], by simp [World.frozen?, h'], (Array.getElem?_eq_some_iff.1 h').1⟩
theorem PS.kept {w w' : World} {P b : Nat} {n v : ByteArray} (h : PS w P n v) (hg : w.grownBy w' (some b)) (hP : b < P) : PS w' P n v := (hg.block P h.cells.2.2.2.2 (by simp; omega)).trans h
theorem PS.setV {w : World} {P : Nat} {n v : ByteArray} (h : PS w P n v) (x : ByteArray) : PS (w.setCell ⟨P, 1, none⟩ (.string x)) P n x := by
  unfold PS
  rw [setCell_eq_setRow w P 1 _ _ _ _ h]
  exact setRow_heap w P _ _ _ _ h
theorem cell_new (W : World) (n v : ByteArray) (N : Nat) (hN : N = W.heap.size) : (W.alloc (.cells #[.string n, .string v] 114)).cell? ⟨N, 0, none⟩ = some (.string n) ∧ (W.alloc (.cells #[.string n, .string v] 114)).cell? ⟨N, 1, none⟩ = some (.string v) := by
  subst hN
  constructor <;> simp
theorem grow_on {w w' : World} (h : Below w.heap.size w w') : Below w.heap.size w w' := h

theorem one_eq (r : List UInt8) : oneP r = if (dropB r).takeWhile tokC = [] then none else if (dropB ((dropB r).dropWhile tokC)).head? = some 61 then (saidS (dropB ((dropB ((dropB r).dropWhile tokC)).drop 1))).map (fun q => ((smallS ((dropB r).takeWhile tokC), q.1), dropB q.2)) else none := by
  unfold oneP
  split
  · rfl
  · split
    · rw [valueP_said]
    · rfl
theorem cons_of (l : List UInt8) (c : UInt8) (h : l.head? = some c) : ∃ r, l = c :: r := by
  cases l with
  | nil => cases h
  | cons d r => exact ⟨r, by simp at h; rw [h]⟩
theorem isEmpty_ne (l : List UInt8) (h : (true && !l.isEmpty) = true) : l ≠ [] := by
  intro e
  rw [e] at h
  cases h
theorem isEmpty_eq (l : List UInt8) (h : (true && !l.isEmpty) = false) : l = [] := by
  cases l with
  | nil => rfl
  | cons c l => cases h

def RKPost (O : Option (List UInt8 × List PB)) (n B : Nat) (e : Ending) (w' : World) : Prop :=
  match O with
  | some q => ∃ (m : ByteArray) (v : Value) (L : List Fl), e = .returned (.tuple #[.string m, v, .int .i64 0]) ∧ m.data.toList = q.1 ∧ OwnQ w' B v L ∧ L.map pb2 = q.2 ∧ m.size ≤ n ∧ L.length ≤ n ∧ ∀ f ∈ L, f.1.size ≤ n ∧ f.2.size ≤ n
  | none => e = .returned (.tuple #[.string ⟨#[]⟩, .slice none 0 0, .int .i64 3])
theorem RKPost_none {O : Option (List UInt8 × List PB)} {n B : Nat} {e : Ending} {w' : World} (hO : O = none) (he : e = .returned (.tuple #[.string ⟨#[]⟩, .slice none 0 0, .int .i64 3])) : RKPost O n B e w' := by
  subst hO
  exact he

set_option maxHeartbeats 1600000 in
set_option maxRecDepth 100000 in
/-- A text without a ;. -/
theorem rkind_short (s : ByteArray) (w : World) (hs : s.size ≤ 100000) (hm : Max w) (h1 : Lib.indexByte s.data.toList 59 = -1) (h2 : s.data.toList.dropWhile (· != 59) = []) (h3 : s.data.toList.takeWhile (· != 59) = s.data.toList) :
    Calls Tryz.prog 69 #[.string s] w fun e w' => RKPost (readK s.data.toList) s.size w.heap.size e w' ∧ Below w.heap.size w w' := by
  obtain ⟨O, HO⟩ : ∃ O, Box (O = if isMainS (smallS (trimS s.data.toList)) then some (smallS (trimS s.data.toList), []) else none) := ⟨_, ⟨rfl⟩⟩
  have HO' : Box (readK s.data.toList = O) := ⟨by
    rw [HO.out, readK, h2, h3, params_nil]; rfl⟩
  rw [HO'.out]
  have hI := Tryz.strings_Index_one s 59 w
  rw [h1] at hI
  have HMx := Box.mk hm
  have hw0 := hm.1
  clear h2 h3 HO' hm
  go_enter Tryz.func69, Tryz.ntmps69
  go_wp2_with fail
  refine hI.mono ?_
  rintro e w1 ⟨rfl, hww⟩
  obtain rfl := hww.symm
  clear hI h1
  go_wp2_with fail
  refine (rTrim_any s _ (by omega)).mono ?_
  rintro e w2 ⟨b, rfl, hb, hww⟩
  obtain rfl := hww.symm
  have hbl := trimS_len s.data.toList
  rw [← hb, size_list, size_list] at hbl
  go_wp2_with fail
  refine (low_any b _ (by omega)).mono ?_
  rintro e w3 ⟨m, rfl, hmn, hb3⟩
  have hml : m.size = b.size := by rw [← size_list, hmn]; simp [smallS]
  have hsz3 := hb3.size
  rw [← hb, ← hmn] at HO
  clear hb hmn
  go_wp2_with fail
  refine (rmain_any m _ (by omega) (HMx.out.below hb3 hw0)).mono ?_
  rintro e w4 ⟨rfl, hb4⟩
  have b4 := hb3.trans (hb4.mono hsz3)
  have hsz4 := b4.size
  clear hb3 hb4 hsz3 HMx
  cases him : isMainS m.data.toList
  · have HN : Box (O = none) := ⟨by rw [HO.out, him]; rfl⟩
    clear HO him
    go_wp2
    go_ret3
    exact ⟨RKPost_none HN.out rfl, b4⟩
  · have HF : Box (O = some (m.data.toList, [])) := ⟨by rw [HO.out, him]; rfl⟩
    clear HO him
    go_wp2
    go_loopg [8] 0 (fun gf v wr => v = .slice none 0 0 ∧ RS wr w4.heap.size ⟨#[]⟩ true ∧ Below w.heap.size w wr)
    case atStart => exact ⟨rfl, heap_alloc_new w4 _, b4.alloc hsz4 _⟩
    case round =>
      obtain ⟨rfl, hrs, hbw⟩ := hrel
      obtain ⟨c0, c1, f0, f1, hbl2⟩ := hrs.cells
      go_wp2
      go_ret3
      refine ⟨?_, hbw⟩
      rw [HF.out]
      exact ⟨m, _, [], rfl, rfl, OwnQ.nil _ _, rfl, by omega, Nat.zero_le _, fun f hf => absurd hf (by simp)⟩

set_option maxHeartbeats 16000000 in
set_option maxRecDepth 100000 in
theorem rkind_long (s : ByteArray) (w : World) (hs : s.size ≤ 100000) (hm : Max w) (n : Nat) (hn : n = (s.data.toList.takeWhile (· != 59)).length) (h1 : Lib.indexByte s.data.toList 59 = (n : Int)) (r0 : List UInt8) (h2 : s.data.toList.dropWhile (· != 59) = 59 :: r0) :
    Calls Tryz.prog 69 #[.string s] w fun e w' => RKPost (readK s.data.toList) s.size w.heap.size e w' ∧ Below w.heap.size w w' := by
  have hw := while_take (p := (· != 59)) s
  have hnl := while_len (p := (· != 59)) s
  rw [← hn] at hw hnl
  obtain ⟨O, HO⟩ : ∃ O, Box (O = if isMainS (smallS (trimS (s.extract 0 n).data.toList)) then (paramsF s.size (s.extract n s.size).data.toList).map (fun k => (smallS (trimS (s.extract 0 n).data.toList), k)) else none) := ⟨_, ⟨rfl⟩⟩
  have HO' : Box (readK s.data.toList = O) := ⟨by
    rw [HO.out, readK, hw.1, hw.2, size_list]⟩
  rw [HO'.out]
  have HD : Box ((s.extract n s.size).data.toList.head? = some 59) := ⟨by rw [hw.2, h2]; rfl⟩
  have hse : (s.extract n s.size).size = s.size - n := by simp [ByteArray.size_extract]
  have hse0 : (s.extract 0 n).size = n := by rw [ByteArray.size_extract]; omega
  have hI := Tryz.strings_Index_one s 59 w
  rw [h1] at hI
  have HMx := Box.mk hm
  have hw0 := hm.1
  clear h2 h1 hw hn HO' hm
  go_enter Tryz.func69, Tryz.ntmps69
  go_wp2_with fail
  refine hI.mono ?_
  rintro e w1 ⟨rfl, hww⟩
  obtain rfl := hww.symm
  clear hI
  go_wp2_with fail
  refine (rTrim_any (s.extract 0 n) _ (by omega)).mono ?_
  rintro e w2 ⟨tr, rfl, hb, hww⟩
  obtain rfl := hww.symm
  have hbl := trimS_len (s.extract 0 n).data.toList
  rw [← hb, size_list, size_list] at hbl
  go_wp2_with fail
  refine (low_any tr _ (by omega)).mono ?_
  rintro e w3 ⟨m, rfl, hmn, hb3⟩
  have hml : m.size = tr.size := by rw [← size_list, hmn]; simp [smallS]
  have hsz3 := hb3.size
  rw [← hb, ← hmn] at HO
  clear hb hmn
  go_wp2_with fail
  refine (rmain_any m _ (by omega) (HMx.out.below hb3 hw0)).mono ?_
  rintro e w4 ⟨rfl, hb4⟩
  have b4 := hb3.trans (hb4.mono hsz3)
  have hsz4 := b4.size
  clear hb3 hb4 hsz3 HMx
  cases him : isMainS m.data.toList
  · have HN : Box (O = none) := ⟨by rw [HO.out, him]; rfl⟩
    clear HO him HD
    go_wp2
    go_ret3
    exact ⟨RKPost_none HN.out rfl, b4⟩
  · have HF : Box (O = (paramsF s.size (s.extract n s.size).data.toList).map (fun k => (m.data.toList, k))) := ⟨by rw [HO.out, him]; rfl⟩
    clear HO him
    obtain ⟨tx, Htx⟩ : ∃ tx, Box (tx = s.extract n s.size) := ⟨_, ⟨rfl⟩⟩
    have hk0 : KS w w.heap.size w4.heap.size (.slice none 0 0) [] (w4.alloc (.cells #[.string (s.extract n s.size), .bool true] 153)) (s.extract n s.size) true := ⟨heap_alloc_new w4 _, OwnQ.nil _ _, b4.alloc hsz4 _, hsz4⟩
    rw [← Htx.out] at HF HD hse
    have HK0 : Box (KS w w.heap.size w4.heap.size (.slice none 0 0) [] (w4.alloc (.cells #[.string (s.extract n s.size), .bool true] 153)) tx true) := ⟨by rw [Htx.out]; exact hk0⟩
    clear hk0 Htx
    obtain ⟨b, hbw4⟩ : ∃ b, b = w4.heap.size := ⟨_, rfl⟩
    rw [← hbw4] at HK0
    go_wp2
    rw [← hbw4]
    clear hbw4
    go_loopg [8] (s.size + 1) (fun gf v wr => ∃ (t : ByteArray) (ok : Bool) (acc : List Fl) (k : Nat), KS w w.heap.size b v acc wr t ok ∧ acc.length ≤ s.size + 1 ∧ (ok = true → t.size ≤ gf ∧ t.size ≤ k ∧ t.size + acc.length ≤ s.size ∧ 1 ≤ gf) ∧ Box (ok = true → (t.size = 0 ∨ t.data.toList.head? = some 59) ∧ (∀ f ∈ acc, f.1.size ≤ s.size ∧ f.2.size ≤ s.size) ∧ O = (paramsF k t.data.toList).map (fun x => (m.data.toList, acc.map pb2 ++ x))) ∧ Box (ok = false → O = none))
    case atStart => exact ⟨tx, true, [], s.size, HK0.out, by simp, fun _ => ⟨by omega, by omega, by simp; omega, by omega⟩, ⟨fun _ => ⟨.inr HD.out, fun f hf => absurd hf (by simp), by rw [HF.out]; simp⟩⟩, ⟨fun h => by cases h⟩⟩
    case round =>
      obtain ⟨t, ok, acc, k, hks, hacl, hbd, HT, HN0⟩ := hrel
      obtain ⟨c0, c1, f0, f1, hbl0⟩ := hks.rs.cells
      have HKS := Box.mk hks
      clear HK0 HF HD
      cases ok
      · have HN : Box (O = none) := ⟨HN0.out rfl⟩
        clear HN0 HT hks
        go_wp2
        go_ret3
        exact ⟨RKPost_none HN.out rfl, HKS.out.bel⟩
      · obtain ⟨d1, d2, d3, d4⟩ := hbd rfl
        have HT1 := Box.mk (HT.out rfl)
        clear HN0 HT hbd
        by_cases ht0 : t.size = 0
        · have he := empty_of t ht0
          have HF : Box (O = some (m.data.toList, acc.map pb2)) := ⟨by rw [HT1.out.2.2, data_nil t ht0, params_nil]; simp⟩
          have HA := Box.mk HT1.out.2.1
          clear HT1 hks ht0
          go_wp2
          go_ret3
          refine ⟨?_, HKS.out.bel⟩
          rw [HF.out]
          exact ⟨m, _, acc, rfl, rfl, HKS.out.own.mono (by have := HKS.out.le; omega), rfl, by omega, by omega, HA.out⟩
        · have he := nonempty_of t ht0
          obtain ⟨r, hr⟩ := cons_of _ 59 (HT1.out.1.resolve_left ht0)
          have hrl : r.length + 1 = t.size := by rw [← size_list t, hr]; simp
          obtain ⟨k', hk'⟩ : ∃ k', k = k' + 1 := ⟨k - 1, by omega⟩
          have HO2 : Box (O = (paramsF (k' + 1) (59 :: r)).map (fun x => (m.data.toList, acc.map pb2 ++ x))) := ⟨by rw [HT1.out.2.2, hr, hk']⟩
          have HA := Box.mk HT1.out.2.1
          have HTr := Box.mk hr
          have hdl := dropB_len r
          have hwl := while_lens (dropB r)
          have hone := one_eq r
          clear HT1 hr
          go_wp2_with fail
          refine (take_yesZ b t true 59 59 rfl r _ hks.rs HTr.out).mono ?_
          rintro e w5 ⟨rfl, t1, hr5, ht1, hg5⟩
          have k5 := hks.kept hr5 hg5
          clear hks hr5 hg5 HKS
          obtain ⟨c50, c51, f50, f51, hbl5⟩ := k5.rs.cells
          go_wp2_with fail
          have k6 := k5.kept (k5.rs.setO true) (grown_set _ _ _ _)
          clear k5 c50 c51 f50 f51 hbl5
          refine (blanks_any b t1 true _ k6.rs).mono ?_
          rintro e w6 ⟨rfl, t2, hr6, ht2, hg6⟩
          have k7 := k6.kept hr6 hg6
          clear k6 hr6 hg6
          rw [ht1] at ht2
          have hs2 : t2.size ≤ t.size := by rw [← size_list t2, ht2]; omega
          go_wp2_with fail
          refine (rtoken_any b t2 true _ k7.rs (by omega)).mono ?_
          rintro e w7 ⟨nm, t3, rfl, hnm, hr7, ht3, hg7⟩
          rw [ht2] at hnm ht3 hr7
          have k8 := k7.kept hr7 hg7
          clear k7 hr7 hg7
          obtain ⟨ok2, hok2⟩ : ∃ ok2, ok2 = (true && !((dropB r).takeWhile tokC).isEmpty) := ⟨_, rfl⟩
          rw [← hok2] at k8
          have hnml : nm.size ≤ t.size := by rw [← size_list nm, hnm]; omega
          go_wp2_with fail
          refine (low_any nm _ (by omega)).mono ?_
          rintro e w8 ⟨nm2, rfl, hn2, hb8⟩
          rw [hnm] at hn2
          have k9 := k8.below hb8
          clear k8 hb8
          have hvP := k9.apart
          have hPb := k9.lt
          have k10 := k9.below ((Below.refl _ _).alloc (Nat.le_refl _) (.cells #[.string nm2, .string ⟨#[]⟩] 114))
          have hps10 : PS (w8.alloc (.cells #[.string nm2, .string ⟨#[]⟩] 114)) w8.heap.size nm2 ⟨#[]⟩ := heap_alloc_new w8 _
          clear k9
          go_wp2_with fail
          refine (blanks_any b t3 ok2 _ k10.rs).mono ?_
          rintro e w9 ⟨rfl, t4, hr9, ht4, hg9⟩
          have k11 := k10.kept hr9 hg9
          have hps11 := hps10.kept hg9 hPb
          clear k10 hps10 hr9 hg9
          generalize w8.heap.size = P at hvP hPb hps11
          rw [ht3] at ht4
          rw [← ht4] at hone
          have hs4 : t4.size ≤ t.size := by
            have h5 := dropB_len ((dropB r).dropWhile tokC)
            rw [← size_list t4, ht4]; omega
          by_cases h61 : t4.data.toList.head? = some 61
          · obtain ⟨l5, hl5⟩ := cons_of _ 61 h61
            go_wp2_with fail
            refine (take_yesZ b t4 ok2 61 61 rfl l5 _ k11.rs hl5).mono ?_
            rintro e w9b ⟨rfl, t5, hr9, ht5, hg9⟩
            have k11b := k11.kept hr9 hg9
            have hps11b := hps11.kept hg9 hPb
            have hs5 : t5.size ≤ t.size := by
              have h6 := congrArg List.length hl5
              rw [List.length_cons, ← ht5, size_list, size_list] at h6; omega
            obtain ⟨ok3, hok3⟩ : ∃ ok3, ok3 = ok2 := ⟨_, rfl⟩
            have HO3 : Box ((ok3 = true → oneP r = (saidS (dropB t5.data.toList)).map (fun q => ((nm2.data.toList, q.1), dropB q.2))) ∧ (ok3 = false → oneP r = none)) := ⟨by
              rw [hok3, hone, h61, hl5, List.drop_succ_cons, List.drop_zero, ht5, hn2]
              constructor
              · intro h
                rw [if_neg (isEmpty_ne _ (hok2.symm.trans h)), if_pos rfl]
              · intro h
                rw [if_pos (isEmpty_eq _ (hok2.symm.trans h))]⟩
            rw [← hok3] at k11b
            clear hone hn2 hnm ht1 ht2 ht3 ht4 hok2 hok3 h61 k11 hps11 hr9 hg9 hl5 ht5
            obtain ⟨c50, c51, f50, f51, hbl5⟩ := k11b.rs.cells
            go_wp2_with fail
            have k12 := k11b.kept (k11b.rs.setO ok3) (grown_set _ _ _ _)
            have hps12 := hps11b.kept (grown_set w9b b 1 (.bool ok3)) hPb
            clear c50 c51 f50 f51 hbl5 k11b hps11b
            refine (blanks_any b t5 ok3 _ k12.rs).mono ?_
            rintro e w10 ⟨rfl, t6, hr10, ht6, hg10⟩
            have k13 := k12.kept hr10 hg10
            have hps13 := hps12.kept hg10 hPb
            clear k12 hps12 hr10 hg10
            have hs6 : t6.size ≤ t.size := by
              have h5 := dropB_len t5.data.toList
              rw [← ht6, size_list, size_list] at h5; omega
            rw [← ht6] at HO3
            clear ht6
            by_cases h34 : t6.data.toList.head? = some 34
            · obtain ⟨l7, hl7⟩ := cons_of _ 34 h34
              have hl7l : l7.length + 1 = t6.size := by rw [← size_list t6, hl7]; simp
              have hsd : saidS t6.data.toList = quotedS l7 := by unfold saidS; rw [if_pos h34, hl7]; rfl
              rw [hsd] at HO3
              clear hsd h34
              go_wp2_with fail
              refine (take_yesZ b t6 ok3 34 34 rfl l7 _ k13.rs hl7).mono ?_
              rintro e w11 ⟨rfl, t7, hr11, ht7, hg11⟩
              have k13b := k13.kept hr11 hg11
              have hps13b := hps13.kept hg11 hPb
              clear k13 hps13 hr11 hg11 hl7
              rw [← ht7] at HO3
              have hs7 : t7.size + 1 = t6.size := by rw [← size_list t7, ht7]; exact hl7l
              go_wp2_with fail
              refine (rquoted_any b t7 ok3 _ k13b.rs (by omega)).mono ?_
              rintro e w12 ⟨hq, hg12⟩
              obtain ⟨val, t8, ok4, rfl, hr12, hV⟩ : ∃ val t8 ok4, e = .returned (.string val) ∧ RS w12 b t8 ok4 ∧ ((ok4 = true → oneP r = some ((nm2.data.toList, val.data.toList), dropB t8.data.toList)) ∧ (ok4 = false → oneP r = none)) := by
                cases hQ : quotedS t7.data.toList with
                | none =>
                  rw [hQ] at hq HO3
                  obtain ⟨rfl, u, hu, _⟩ := hq
                  refine ⟨_, u, false, rfl, hu, fun h => (by cases h), fun _ => ?_⟩
                  cases ok3
                  · exact HO3.out.2 rfl
                  · rw [HO3.out.1 rfl]; rfl
                | some q =>
                  rw [hQ] at hq HO3
                  obtain ⟨a, u, rfl, ha, hu, hu2⟩ := hq
                  refine ⟨a, u, ok3, rfl, hu, fun h => ?_, fun h => HO3.out.2 h⟩
                  rw [HO3.out.1 h, ha, hu2]; rfl
              have HV := Box.mk hV
              have k14 := k13b.kept hr12 hg12
              have hps14 := hps13b.kept hg12 hPb
              clear hV hq HO3 k13b hps13b hr12 hg12
              obtain ⟨p0, p1, pf0, pf1, hPl⟩ := hps14.cells
              go_wp2_with fail
              have k15 := k14.setP hvP hPb (.string val)
              have hps15 := hps14.setV val
              clear k14 hps14 p0 p1 pf0 pf1 hPl
              refine (blanks_any b t8 ok4 _ k15.rs).mono ?_
              rintro e w13 ⟨rfl, t9, hr13, ht9, hg13⟩
              have k16 := k15.kept hr13 hg13
              have hps16 := hps15.kept hg13 hPb
              clear k15 hps15 hr13 hg13
              have HV9 : Box ((ok4 = true → oneP r = some (pb2 (nm2, val), t9.data.toList)) ∧ (ok4 = false → oneP r = none)) := ⟨by rw [ht9]; exact HV.out⟩
              clear HV ht9
              obtain ⟨c60, c61, f60, f61, hbl6⟩ := k16.rs.cells
              cases ok4
              · have HNo : Box (O = none) := ⟨by rw [HO2.out, params_none _ _ (HV9.out.2 rfl)]; rfl⟩
                clear HV9 HO2 HA
                have k17 : KS w w.heap.size b _ acc (w13.setCell ⟨b, 1, none⟩ (.bool false)) t9 false := k16.kept (k16.rs.setO false) (grown_set _ _ _ _)
                have hps17 : PS (w13.setCell ⟨b, 1, none⟩ (.bool false)) P nm2 val := hps16.kept (grown_set _ _ _ _) hPb
                obtain ⟨e0, e1, ef0, ef1, hPl7⟩ := hps17.cells
                have hnew := Box.mk (cell_new (w13.setCell ⟨b, 1, none⟩ (.bool false)) nm2 val w13.heap.size (by simp))
                have hbl7 : b < w13.heap.size := hbl6
                clear k16 hps16
                go_wp2_with (at_builtin; refine wp_appQ ((w13.setCell ⟨b, 1, none⟩ (.bool false)).alloc (.cells #[.string nm2, .string val] 114)) ((w13.setCell ⟨b, 1, none⟩ (.bool false)).alloc (.cells #[.string nm2, .string val] 114)) rfl (.tmp 98) (.tmp 100) rfl (b + 1) _ acc rfl (World.ownsRow.alloc k17.own _) w13.heap.size 1 (nm2, val) rfl hnew.out.1 hnew.out.2 (by omega) (by simp; omega) (Below.refl _ _) ?_; intro v18 w18 hown18 hb18)
                have k18 : KS w w.heap.size b v18 (acc ++ [(nm2, val)]) w18 t9 false := ⟨(k17.rs.below ((Below.refl _ _).alloc (Nat.le_refl _) _) k17.lt).below hb18 (by omega), hown18, (k17.bel.alloc (by have := k17.le; omega) _).trans (hb18.mono (by have := k17.le; omega)), k17.le⟩
                go_roundg 0
                case measure => omega
                case rel => exact ⟨t9, false, _, 0, k18, by rw [List.length_append]; simp; omega, fun h => (by cases h), ⟨fun h => by cases h⟩, ⟨fun _ => HNo.out⟩⟩
              · have HX := Box.mk (HV9.out.1 rfl)
                clear HV9
                by_cases h90 : t9.size = 0
                · have he9 := empty_of t9 h90
                  have HH : Box (t9.size = 0 ∨ t9.data.toList.head? = some 59) := ⟨.inl h90⟩
                  clear h90
                  have k17 : KS w w.heap.size b _ acc (w13.setCell ⟨b, 1, none⟩ (.bool true)) t9 true := k16.kept (k16.rs.setO true) (grown_set _ _ _ _)
                  have hps17 : PS (w13.setCell ⟨b, 1, none⟩ (.bool true)) P nm2 val := hps16.kept (grown_set _ _ _ _) hPb
                  obtain ⟨e0, e1, ef0, ef1, hPl7⟩ := hps17.cells
                  have hnew := Box.mk (cell_new (w13.setCell ⟨b, 1, none⟩ (.bool true)) nm2 val w13.heap.size (by simp))
                  have hbl7 : b < w13.heap.size := hbl6
                  clear k16 hps16
                  go_wp2_with (at_builtin; refine wp_appQ ((w13.setCell ⟨b, 1, none⟩ (.bool true)).alloc (.cells #[.string nm2, .string val] 114)) ((w13.setCell ⟨b, 1, none⟩ (.bool true)).alloc (.cells #[.string nm2, .string val] 114)) rfl (.tmp 98) (.tmp 100) rfl (b + 1) _ acc rfl (World.ownsRow.alloc k17.own _) w13.heap.size 1 (nm2, val) rfl hnew.out.1 hnew.out.2 (by omega) (by simp; omega) (Below.refl _ _) ?_; intro v18 w18 hown18 hb18)
                  have k18 : KS w w.heap.size b v18 (acc ++ [(nm2, val)]) w18 t9 true := ⟨(k17.rs.below ((Below.refl _ _).alloc (Nat.le_refl _) _) k17.lt).below hb18 (by omega), hown18, (k17.bel.alloc (by have := k17.le; omega) _).trans (hb18.mono (by have := k17.le; omega)), k17.le⟩
                  have hlen := one_len _ _ _ HX.out
                  simp only [pb2, size_list] at hlen
                  have HO3 : Box (O = (paramsF k' t9.data.toList).map (fun x => (m.data.toList, (acc ++ [(nm2, val)]).map pb2 ++ x))) := ⟨by
                    rw [HO2.out, params_step _ _ _ _ HX.out, Option.map_map]
                    congr 1
                    funext x
                    simp⟩
                  have HA2 : Box (∀ f ∈ acc ++ [(nm2, val)], f.1.size ≤ s.size ∧ f.2.size ≤ s.size) := ⟨fun f hf => by
                    rcases List.mem_append.1 hf with h | h
                    · exact HA.out f h
                    · rw [List.mem_singleton.1 h]
                      simp only
                      omega⟩
                  go_roundg (t9.size + 1)
                  case measure => omega
                  case rel => exact ⟨t9, true, _, k', k18, by rw [List.length_append]; simp; omega, fun _ => ⟨by omega, by omega, by rw [List.length_append]; simp; omega, by omega⟩, ⟨fun _ => ⟨HH.out, HA2.out, HO3.out⟩⟩, ⟨fun h => by cases h⟩⟩
                · have he9 := nonempty_of t9 h90
                  have hp9 : 0 < t9.size := by omega
                  by_cases h59 : t9.data.toList.head? = some 59
                  · have HH : Box (t9.size = 0 ∨ t9.data.toList.head? = some 59) := ⟨.inr h59⟩
                    have x9 : ((t9[0].toNat : Int) == 59) = true := by
                      have e9 := head_split t9 hp9
                      rw [e9] at h59
                      have e10 : t9[0] = 59 := by simpa using h59
                      rw [e10]; rfl
                    clear h59 h90
                    have k17 : KS w w.heap.size b _ acc (w13.setCell ⟨b, 1, none⟩ (.bool true)) t9 true := k16.kept (k16.rs.setO true) (grown_set _ _ _ _)
                    have hps17 : PS (w13.setCell ⟨b, 1, none⟩ (.bool true)) P nm2 val := hps16.kept (grown_set _ _ _ _) hPb
                    obtain ⟨e0, e1, ef0, ef1, hPl7⟩ := hps17.cells
                    have hnew := Box.mk (cell_new (w13.setCell ⟨b, 1, none⟩ (.bool true)) nm2 val w13.heap.size (by simp))
                    have hbl7 : b < w13.heap.size := hbl6
                    clear k16 hps16
                    go_wp2_with (at_builtin; refine wp_appQ ((w13.setCell ⟨b, 1, none⟩ (.bool true)).alloc (.cells #[.string nm2, .string val] 114)) ((w13.setCell ⟨b, 1, none⟩ (.bool true)).alloc (.cells #[.string nm2, .string val] 114)) rfl (.tmp 98) (.tmp 100) rfl (b + 1) _ acc rfl (World.ownsRow.alloc k17.own _) w13.heap.size 1 (nm2, val) rfl hnew.out.1 hnew.out.2 (by omega) (by simp; omega) (Below.refl _ _) ?_; intro v18 w18 hown18 hb18)
                    have k18 : KS w w.heap.size b v18 (acc ++ [(nm2, val)]) w18 t9 true := ⟨(k17.rs.below ((Below.refl _ _).alloc (Nat.le_refl _) _) k17.lt).below hb18 (by omega), hown18, (k17.bel.alloc (by have := k17.le; omega) _).trans (hb18.mono (by have := k17.le; omega)), k17.le⟩
                    have hlen := one_len _ _ _ HX.out
                    simp only [pb2, size_list] at hlen
                    have HO3 : Box (O = (paramsF k' t9.data.toList).map (fun x => (m.data.toList, (acc ++ [(nm2, val)]).map pb2 ++ x))) := ⟨by
                      rw [HO2.out, params_step _ _ _ _ HX.out, Option.map_map]
                      congr 1
                      funext x
                      simp⟩
                    have HA2 : Box (∀ f ∈ acc ++ [(nm2, val)], f.1.size ≤ s.size ∧ f.2.size ≤ s.size) := ⟨fun f hf => by
                      rcases List.mem_append.1 hf with h | h
                      · exact HA.out f h
                      · rw [List.mem_singleton.1 h]
                        simp only
                        omega⟩
                    go_roundg (t9.size + 1)
                    case measure => omega
                    case rel => exact ⟨t9, true, _, k', k18, by rw [List.length_append]; simp; omega, fun _ => ⟨by omega, by omega, by rw [List.length_append]; simp; omega, by omega⟩, ⟨fun _ => ⟨HH.out, HA2.out, HO3.out⟩⟩, ⟨fun h => by cases h⟩⟩
                  · have HNo : Box (O = none) := ⟨by
                      have hne : t9.data.toList ≠ [] := fun h => h90 (by rw [← size_list, h]; rfl)
                      rw [HO2.out, params_step _ _ _ _ HX.out, params_bad _ _ hne h59]; rfl⟩
                    have x9 : ((t9[0].toNat : Int) == 59) = false := by
                      have e9 := head_split t9 hp9
                      rw [e9] at h59
                      have e10 : t9[0] ≠ 59 := by simpa using h59
                      exact (u8eq t9[0] 59).trans (by simpa using e10)
                    clear h59 h90 HO2 HA HX
                    have k17 : KS w w.heap.size b _ acc (w13.setCell ⟨b, 1, none⟩ (.bool false)) t9 false := k16.kept (k16.rs.setO false) (grown_set _ _ _ _)
                    have hps17 : PS (w13.setCell ⟨b, 1, none⟩ (.bool false)) P nm2 val := hps16.kept (grown_set _ _ _ _) hPb
                    obtain ⟨e0, e1, ef0, ef1, hPl7⟩ := hps17.cells
                    have hnew := Box.mk (cell_new (w13.setCell ⟨b, 1, none⟩ (.bool false)) nm2 val w13.heap.size (by simp))
                    have hbl7 : b < w13.heap.size := hbl6
                    clear k16 hps16
                    go_wp2_with (at_builtin; refine wp_appQ ((w13.setCell ⟨b, 1, none⟩ (.bool false)).alloc (.cells #[.string nm2, .string val] 114)) ((w13.setCell ⟨b, 1, none⟩ (.bool false)).alloc (.cells #[.string nm2, .string val] 114)) rfl (.tmp 98) (.tmp 100) rfl (b + 1) _ acc rfl (World.ownsRow.alloc k17.own _) w13.heap.size 1 (nm2, val) rfl hnew.out.1 hnew.out.2 (by omega) (by simp; omega) (Below.refl _ _) ?_; intro v18 w18 hown18 hb18)
                    have k18 : KS w w.heap.size b v18 (acc ++ [(nm2, val)]) w18 t9 false := ⟨(k17.rs.below ((Below.refl _ _).alloc (Nat.le_refl _) _) k17.lt).below hb18 (by omega), hown18, (k17.bel.alloc (by have := k17.le; omega) _).trans (hb18.mono (by have := k17.le; omega)), k17.le⟩
                    go_roundg 0
                    case measure => omega
                    case rel => exact ⟨t9, false, _, 0, k18, by rw [List.length_append]; simp; omega, fun h => (by cases h), ⟨fun h => by cases h⟩, ⟨fun _ => HNo.out⟩⟩
            · have hsd : saidS t6.data.toList = if t6.data.toList.takeWhile tokC = [] then none else some (t6.data.toList.takeWhile tokC, t6.data.toList.dropWhile tokC) := by unfold saidS; rw [if_neg h34]
              rw [hsd] at HO3
              clear hsd
              go_wp2_with fail
              refine (take_noZ b t6 ok3 34 34 rfl _ k13.rs h34).mono ?_
              rintro e w11 ⟨rfl, rfl⟩
              clear h34
              go_wp2_with fail
              refine (rtoken_any b t6 ok3 _ k13.rs (by omega)).mono ?_
              rintro e w12 ⟨val, t8, rfl, hval, hr12, ht8, hg12⟩
              have k14 := k13.kept hr12 hg12
              have hps14 := hps13.kept hg12 hPb
              obtain ⟨ok4, hok4⟩ : ∃ ok4, ok4 = (ok3 && !(t6.data.toList.takeWhile tokC).isEmpty) := ⟨_, rfl⟩
              rw [← hok4] at k14
              have HV : Box ((ok4 = true → oneP r = some ((nm2.data.toList, val.data.toList), dropB t8.data.toList)) ∧ (ok4 = false → oneP r = none)) := ⟨by
                rw [← hval, ← ht8] at HO3
                rw [← hval] at hok4
                cases ok3
                · rw [hok4]
                  exact ⟨fun h => (by cases h), fun _ => HO3.out.2 rfl⟩
                · constructor
                  · intro h
                    rw [HO3.out.1 rfl, if_neg (isEmpty_ne _ (hok4.symm.trans h))]; rfl
                  · intro h
                    rw [HO3.out.1 rfl, if_pos (isEmpty_eq _ (hok4.symm.trans h))]; rfl⟩
              clear hok4 hval ht8 HO3 k13 hps13 hr12 hg12
              obtain ⟨p0, p1, pf0, pf1, hPl⟩ := hps14.cells
              go_wp2_with fail
              have k15 := k14.setP hvP hPb (.string val)
              have hps15 := hps14.setV val
              clear k14 hps14 p0 p1 pf0 pf1 hPl
              refine (blanks_any b t8 ok4 _ k15.rs).mono ?_
              rintro e w13 ⟨rfl, t9, hr13, ht9, hg13⟩
              have k16 := k15.kept hr13 hg13
              have hps16 := hps15.kept hg13 hPb
              clear k15 hps15 hr13 hg13
              have HV9 : Box ((ok4 = true → oneP r = some (pb2 (nm2, val), t9.data.toList)) ∧ (ok4 = false → oneP r = none)) := ⟨by rw [ht9]; exact HV.out⟩
              clear HV ht9
              obtain ⟨c60, c61, f60, f61, hbl6⟩ := k16.rs.cells
              cases ok4
              · have HNo : Box (O = none) := ⟨by rw [HO2.out, params_none _ _ (HV9.out.2 rfl)]; rfl⟩
                clear HV9 HO2 HA
                have k17 : KS w w.heap.size b _ acc (w13.setCell ⟨b, 1, none⟩ (.bool false)) t9 false := k16.kept (k16.rs.setO false) (grown_set _ _ _ _)
                have hps17 : PS (w13.setCell ⟨b, 1, none⟩ (.bool false)) P nm2 val := hps16.kept (grown_set _ _ _ _) hPb
                obtain ⟨e0, e1, ef0, ef1, hPl7⟩ := hps17.cells
                have hnew := Box.mk (cell_new (w13.setCell ⟨b, 1, none⟩ (.bool false)) nm2 val w13.heap.size (by simp))
                have hbl7 : b < w13.heap.size := hbl6
                clear k16 hps16
                go_wp2_with (at_builtin; refine wp_appQ ((w13.setCell ⟨b, 1, none⟩ (.bool false)).alloc (.cells #[.string nm2, .string val] 114)) ((w13.setCell ⟨b, 1, none⟩ (.bool false)).alloc (.cells #[.string nm2, .string val] 114)) rfl (.tmp 98) (.tmp 100) rfl (b + 1) _ acc rfl (World.ownsRow.alloc k17.own _) w13.heap.size 1 (nm2, val) rfl hnew.out.1 hnew.out.2 (by omega) (by simp; omega) (Below.refl _ _) ?_; intro v18 w18 hown18 hb18)
                have k18 : KS w w.heap.size b v18 (acc ++ [(nm2, val)]) w18 t9 false := ⟨(k17.rs.below ((Below.refl _ _).alloc (Nat.le_refl _) _) k17.lt).below hb18 (by omega), hown18, (k17.bel.alloc (by have := k17.le; omega) _).trans (hb18.mono (by have := k17.le; omega)), k17.le⟩
                go_roundg 0
                case measure => omega
                case rel => exact ⟨t9, false, _, 0, k18, by rw [List.length_append]; simp; omega, fun h => (by cases h), ⟨fun h => by cases h⟩, ⟨fun _ => HNo.out⟩⟩
              · have HX := Box.mk (HV9.out.1 rfl)
                clear HV9
                by_cases h90 : t9.size = 0
                · have he9 := empty_of t9 h90
                  have HH : Box (t9.size = 0 ∨ t9.data.toList.head? = some 59) := ⟨.inl h90⟩
                  clear h90
                  have k17 : KS w w.heap.size b _ acc (w13.setCell ⟨b, 1, none⟩ (.bool true)) t9 true := k16.kept (k16.rs.setO true) (grown_set _ _ _ _)
                  have hps17 : PS (w13.setCell ⟨b, 1, none⟩ (.bool true)) P nm2 val := hps16.kept (grown_set _ _ _ _) hPb
                  obtain ⟨e0, e1, ef0, ef1, hPl7⟩ := hps17.cells
                  have hnew := Box.mk (cell_new (w13.setCell ⟨b, 1, none⟩ (.bool true)) nm2 val w13.heap.size (by simp))
                  have hbl7 : b < w13.heap.size := hbl6
                  clear k16 hps16
                  go_wp2_with (at_builtin; refine wp_appQ ((w13.setCell ⟨b, 1, none⟩ (.bool true)).alloc (.cells #[.string nm2, .string val] 114)) ((w13.setCell ⟨b, 1, none⟩ (.bool true)).alloc (.cells #[.string nm2, .string val] 114)) rfl (.tmp 98) (.tmp 100) rfl (b + 1) _ acc rfl (World.ownsRow.alloc k17.own _) w13.heap.size 1 (nm2, val) rfl hnew.out.1 hnew.out.2 (by omega) (by simp; omega) (Below.refl _ _) ?_; intro v18 w18 hown18 hb18)
                  have k18 : KS w w.heap.size b v18 (acc ++ [(nm2, val)]) w18 t9 true := ⟨(k17.rs.below ((Below.refl _ _).alloc (Nat.le_refl _) _) k17.lt).below hb18 (by omega), hown18, (k17.bel.alloc (by have := k17.le; omega) _).trans (hb18.mono (by have := k17.le; omega)), k17.le⟩
                  have hlen := one_len _ _ _ HX.out
                  simp only [pb2, size_list] at hlen
                  have HO3 : Box (O = (paramsF k' t9.data.toList).map (fun x => (m.data.toList, (acc ++ [(nm2, val)]).map pb2 ++ x))) := ⟨by
                    rw [HO2.out, params_step _ _ _ _ HX.out, Option.map_map]
                    congr 1
                    funext x
                    simp⟩
                  have HA2 : Box (∀ f ∈ acc ++ [(nm2, val)], f.1.size ≤ s.size ∧ f.2.size ≤ s.size) := ⟨fun f hf => by
                    rcases List.mem_append.1 hf with h | h
                    · exact HA.out f h
                    · rw [List.mem_singleton.1 h]
                      simp only
                      omega⟩
                  go_roundg (t9.size + 1)
                  case measure => omega
                  case rel => exact ⟨t9, true, _, k', k18, by rw [List.length_append]; simp; omega, fun _ => ⟨by omega, by omega, by rw [List.length_append]; simp; omega, by omega⟩, ⟨fun _ => ⟨HH.out, HA2.out, HO3.out⟩⟩, ⟨fun h => by cases h⟩⟩
                · have he9 := nonempty_of t9 h90
                  have hp9 : 0 < t9.size := by omega
                  by_cases h59 : t9.data.toList.head? = some 59
                  · have HH : Box (t9.size = 0 ∨ t9.data.toList.head? = some 59) := ⟨.inr h59⟩
                    have x9 : ((t9[0].toNat : Int) == 59) = true := by
                      have e9 := head_split t9 hp9
                      rw [e9] at h59
                      have e10 : t9[0] = 59 := by simpa using h59
                      rw [e10]; rfl
                    clear h59 h90
                    have k17 : KS w w.heap.size b _ acc (w13.setCell ⟨b, 1, none⟩ (.bool true)) t9 true := k16.kept (k16.rs.setO true) (grown_set _ _ _ _)
                    have hps17 : PS (w13.setCell ⟨b, 1, none⟩ (.bool true)) P nm2 val := hps16.kept (grown_set _ _ _ _) hPb
                    obtain ⟨e0, e1, ef0, ef1, hPl7⟩ := hps17.cells
                    have hnew := Box.mk (cell_new (w13.setCell ⟨b, 1, none⟩ (.bool true)) nm2 val w13.heap.size (by simp))
                    have hbl7 : b < w13.heap.size := hbl6
                    clear k16 hps16
                    go_wp2_with (at_builtin; refine wp_appQ ((w13.setCell ⟨b, 1, none⟩ (.bool true)).alloc (.cells #[.string nm2, .string val] 114)) ((w13.setCell ⟨b, 1, none⟩ (.bool true)).alloc (.cells #[.string nm2, .string val] 114)) rfl (.tmp 98) (.tmp 100) rfl (b + 1) _ acc rfl (World.ownsRow.alloc k17.own _) w13.heap.size 1 (nm2, val) rfl hnew.out.1 hnew.out.2 (by omega) (by simp; omega) (Below.refl _ _) ?_; intro v18 w18 hown18 hb18)
                    have k18 : KS w w.heap.size b v18 (acc ++ [(nm2, val)]) w18 t9 true := ⟨(k17.rs.below ((Below.refl _ _).alloc (Nat.le_refl _) _) k17.lt).below hb18 (by omega), hown18, (k17.bel.alloc (by have := k17.le; omega) _).trans (hb18.mono (by have := k17.le; omega)), k17.le⟩
                    have hlen := one_len _ _ _ HX.out
                    simp only [pb2, size_list] at hlen
                    have HO3 : Box (O = (paramsF k' t9.data.toList).map (fun x => (m.data.toList, (acc ++ [(nm2, val)]).map pb2 ++ x))) := ⟨by
                      rw [HO2.out, params_step _ _ _ _ HX.out, Option.map_map]
                      congr 1
                      funext x
                      simp⟩
                    have HA2 : Box (∀ f ∈ acc ++ [(nm2, val)], f.1.size ≤ s.size ∧ f.2.size ≤ s.size) := ⟨fun f hf => by
                      rcases List.mem_append.1 hf with h | h
                      · exact HA.out f h
                      · rw [List.mem_singleton.1 h]
                        simp only
                        omega⟩
                    go_roundg (t9.size + 1)
                    case measure => omega
                    case rel => exact ⟨t9, true, _, k', k18, by rw [List.length_append]; simp; omega, fun _ => ⟨by omega, by omega, by rw [List.length_append]; simp; omega, by omega⟩, ⟨fun _ => ⟨HH.out, HA2.out, HO3.out⟩⟩, ⟨fun h => by cases h⟩⟩
                  · have HNo : Box (O = none) := ⟨by
                      have hne : t9.data.toList ≠ [] := fun h => h90 (by rw [← size_list, h]; rfl)
                      rw [HO2.out, params_step _ _ _ _ HX.out, params_bad _ _ hne h59]; rfl⟩
                    have x9 : ((t9[0].toNat : Int) == 59) = false := by
                      have e9 := head_split t9 hp9
                      rw [e9] at h59
                      have e10 : t9[0] ≠ 59 := by simpa using h59
                      exact (u8eq t9[0] 59).trans (by simpa using e10)
                    clear h59 h90 HO2 HA HX
                    have k17 : KS w w.heap.size b _ acc (w13.setCell ⟨b, 1, none⟩ (.bool false)) t9 false := k16.kept (k16.rs.setO false) (grown_set _ _ _ _)
                    have hps17 : PS (w13.setCell ⟨b, 1, none⟩ (.bool false)) P nm2 val := hps16.kept (grown_set _ _ _ _) hPb
                    obtain ⟨e0, e1, ef0, ef1, hPl7⟩ := hps17.cells
                    have hnew := Box.mk (cell_new (w13.setCell ⟨b, 1, none⟩ (.bool false)) nm2 val w13.heap.size (by simp))
                    have hbl7 : b < w13.heap.size := hbl6
                    clear k16 hps16
                    go_wp2_with (at_builtin; refine wp_appQ ((w13.setCell ⟨b, 1, none⟩ (.bool false)).alloc (.cells #[.string nm2, .string val] 114)) ((w13.setCell ⟨b, 1, none⟩ (.bool false)).alloc (.cells #[.string nm2, .string val] 114)) rfl (.tmp 98) (.tmp 100) rfl (b + 1) _ acc rfl (World.ownsRow.alloc k17.own _) w13.heap.size 1 (nm2, val) rfl hnew.out.1 hnew.out.2 (by omega) (by simp; omega) (Below.refl _ _) ?_; intro v18 w18 hown18 hb18)
                    have k18 : KS w w.heap.size b v18 (acc ++ [(nm2, val)]) w18 t9 false := ⟨(k17.rs.below ((Below.refl _ _).alloc (Nat.le_refl _) _) k17.lt).below hb18 (by omega), hown18, (k17.bel.alloc (by have := k17.le; omega) _).trans (hb18.mono (by have := k17.le; omega)), k17.le⟩
                    go_roundg 0
                    case measure => omega
                    case rel => exact ⟨t9, false, _, 0, k18, by rw [List.length_append]; simp; omega, fun h => (by cases h), ⟨fun h => by cases h⟩, ⟨fun _ => HNo.out⟩⟩
          · go_wp2_with fail
            refine (take_noZ b t4 ok2 61 61 rfl _ k11.rs h61).mono ?_
            rintro e w9b ⟨rfl, rfl⟩
            obtain ⟨t5, ht5⟩ : ∃ t5, t5 = t4 := ⟨_, rfl⟩
            have hs5 : t5.size ≤ t.size := by rw [ht5]; exact hs4
            have HO3 : Box (oneP r = none) := ⟨by
              rw [hone, if_neg h61]
              split <;> rfl⟩
            obtain ⟨c50, c51, f50, f51, hbl5⟩ := k11.rs.cells
            clear hone hn2 hnm ht1 ht2 ht3 ht4 hok2 h61
            go_wp2_with fail
            have k12 := k11.kept (k11.rs.setO false) (grown_set _ _ _ _)
            have hps12 := hps11.kept (grown_set w9b b 1 (.bool false)) hPb
            rw [← ht5] at k12
            clear c50 c51 f50 f51 hbl5 k11 hps11 ht5
            refine (blanks_any b t5 false _ k12.rs).mono ?_
            rintro e w10 ⟨rfl, t6, hr10, ht6, hg10⟩
            have k13 := k12.kept hr10 hg10
            have hps13 := hps12.kept hg10 hPb
            clear k12 hps12 hr10 hg10
            have hs6 : t6.size ≤ t.size := by
              have h5 := dropB_len t5.data.toList
              rw [← ht6, size_list, size_list] at h5; omega
            clear ht6
            by_cases h34 : t6.data.toList.head? = some 34
            · obtain ⟨l7, hl7⟩ := cons_of _ 34 h34
              have hl7l : l7.length + 1 = t6.size := by rw [← size_list t6, hl7]; simp
              clear h34
              go_wp2_with fail
              refine (take_yesZ b t6 false 34 34 rfl l7 _ k13.rs hl7).mono ?_
              rintro e w11 ⟨rfl, t7, hr11, ht7, hg11⟩
              have k13b := k13.kept hr11 hg11
              have hps13b := hps13.kept hg11 hPb
              have hs7 : t7.size + 1 = t6.size := by rw [← size_list t7, ht7]; exact hl7l
              clear k13 hps13 hr11 hg11 hl7 ht7
              go_wp2_with fail
              refine (rquoted_any b t7 false _ k13b.rs (by omega)).mono ?_
              rintro e w12 ⟨hq, hg12⟩
              obtain ⟨val, t8, rfl, hr12⟩ : ∃ val t8, e = .returned (.string val) ∧ RS w12 b t8 false := by
                cases hQ : quotedS t7.data.toList with
                | none =>
                  rw [hQ] at hq
                  obtain ⟨rfl, u, hu, _⟩ := hq
                  exact ⟨_, u, rfl, hu⟩
                | some q =>
                  rw [hQ] at hq
                  obtain ⟨a, u, rfl, ha, hu, hu2⟩ := hq
                  exact ⟨a, u, rfl, hu⟩
              have k14 := k13b.kept hr12 hg12
              have hps14 := hps13b.kept hg12 hPb
              clear hq k13b hps13b hr12 hg12
              obtain ⟨p0, p1, pf0, pf1, hPl⟩ := hps14.cells
              go_wp2_with fail
              have k15 := k14.setP hvP hPb (.string val)
              have hps15 := hps14.setV val
              clear k14 hps14 p0 p1 pf0 pf1 hPl
              refine (blanks_any b t8 false _ k15.rs).mono ?_
              rintro e w13 ⟨rfl, t9, hr13, ht9, hg13⟩
              have k16 := k15.kept hr13 hg13
              have hps16 := hps15.kept hg13 hPb
              clear k15 hps15 hr13 hg13 ht9
              obtain ⟨c60, c61, f60, f61, hbl6⟩ := k16.rs.cells
              have HNo : Box (O = none) := ⟨by rw [HO2.out, params_none _ _ HO3.out]; rfl⟩
              clear HO2 HA HO3
              have k17 : KS w w.heap.size b _ acc (w13.setCell ⟨b, 1, none⟩ (.bool false)) t9 false := k16.kept (k16.rs.setO false) (grown_set _ _ _ _)
              have hps17 : PS (w13.setCell ⟨b, 1, none⟩ (.bool false)) P nm2 val := hps16.kept (grown_set _ _ _ _) hPb
              obtain ⟨e0, e1, ef0, ef1, hPl7⟩ := hps17.cells
              have hnew := Box.mk (cell_new (w13.setCell ⟨b, 1, none⟩ (.bool false)) nm2 val w13.heap.size (by simp))
              have hbl7 : b < w13.heap.size := hbl6
              clear k16 hps16
              go_wp2_with (at_builtin; refine wp_appQ ((w13.setCell ⟨b, 1, none⟩ (.bool false)).alloc (.cells #[.string nm2, .string val] 114)) ((w13.setCell ⟨b, 1, none⟩ (.bool false)).alloc (.cells #[.string nm2, .string val] 114)) rfl (.tmp 98) (.tmp 100) rfl (b + 1) _ acc rfl (World.ownsRow.alloc k17.own _) w13.heap.size 1 (nm2, val) rfl hnew.out.1 hnew.out.2 (by omega) (by simp; omega) (Below.refl _ _) ?_; intro v18 w18 hown18 hb18)
              have k18 : KS w w.heap.size b v18 (acc ++ [(nm2, val)]) w18 t9 false := ⟨(k17.rs.below ((Below.refl _ _).alloc (Nat.le_refl _) _) k17.lt).below hb18 (by omega), hown18, (k17.bel.alloc (by have := k17.le; omega) _).trans (hb18.mono (by have := k17.le; omega)), k17.le⟩
              go_roundg 0
              case measure => omega
              case rel => exact ⟨t9, false, _, 0, k18, by rw [List.length_append]; simp; omega, fun h => (by cases h), ⟨fun h => by cases h⟩, ⟨fun _ => HNo.out⟩⟩
            · go_wp2_with fail
              refine (take_noZ b t6 false 34 34 rfl _ k13.rs h34).mono ?_
              rintro e w11 ⟨rfl, rfl⟩
              clear h34
              go_wp2_with fail
              refine (rtoken_any b t6 false _ k13.rs (by omega)).mono ?_
              rintro e w12 ⟨val, t8, rfl, hval, hr12, ht8, hg12⟩
              rw [Bool.false_and] at hr12
              have k14 := k13.kept hr12 hg12
              have hps14 := hps13.kept hg12 hPb
              clear hval ht8 k13 hps13 hr12 hg12
              obtain ⟨p0, p1, pf0, pf1, hPl⟩ := hps14.cells
              go_wp2_with fail
              have k15 := k14.setP hvP hPb (.string val)
              have hps15 := hps14.setV val
              clear k14 hps14 p0 p1 pf0 pf1 hPl
              refine (blanks_any b t8 false _ k15.rs).mono ?_
              rintro e w13 ⟨rfl, t9, hr13, ht9, hg13⟩
              have k16 := k15.kept hr13 hg13
              have hps16 := hps15.kept hg13 hPb
              clear k15 hps15 hr13 hg13 ht9
              obtain ⟨c60, c61, f60, f61, hbl6⟩ := k16.rs.cells
              have HNo : Box (O = none) := ⟨by rw [HO2.out, params_none _ _ HO3.out]; rfl⟩
              clear HO2 HA HO3
              have k17 : KS w w.heap.size b _ acc (w13.setCell ⟨b, 1, none⟩ (.bool false)) t9 false := k16.kept (k16.rs.setO false) (grown_set _ _ _ _)
              have hps17 : PS (w13.setCell ⟨b, 1, none⟩ (.bool false)) P nm2 val := hps16.kept (grown_set _ _ _ _) hPb
              obtain ⟨e0, e1, ef0, ef1, hPl7⟩ := hps17.cells
              have hnew := Box.mk (cell_new (w13.setCell ⟨b, 1, none⟩ (.bool false)) nm2 val w13.heap.size (by simp))
              have hbl7 : b < w13.heap.size := hbl6
              clear k16 hps16
              go_wp2_with (at_builtin; refine wp_appQ ((w13.setCell ⟨b, 1, none⟩ (.bool false)).alloc (.cells #[.string nm2, .string val] 114)) ((w13.setCell ⟨b, 1, none⟩ (.bool false)).alloc (.cells #[.string nm2, .string val] 114)) rfl (.tmp 98) (.tmp 100) rfl (b + 1) _ acc rfl (World.ownsRow.alloc k17.own _) w13.heap.size 1 (nm2, val) rfl hnew.out.1 hnew.out.2 (by omega) (by simp; omega) (Below.refl _ _) ?_; intro v18 w18 hown18 hb18)
              have k18 : KS w w.heap.size b v18 (acc ++ [(nm2, val)]) w18 t9 false := ⟨(k17.rs.below ((Below.refl _ _).alloc (Nat.le_refl _) _) k17.lt).below hb18 (by omega), hown18, (k17.bel.alloc (by have := k17.le; omega) _).trans (hb18.mono (by have := k17.le; omega)), k17.le⟩
              go_roundg 0
              case measure => omega
              case rel => exact ⟨t9, false, _, 0, k18, by rw [List.length_append]; simp; omega, fun h => (by cases h), ⟨fun h => by cases h⟩, ⟨fun _ => HNo.out⟩⟩

end Go.Proofs.YtnjjjkhhoaadfaaGreatDoor

