import Derived.Test.YtpdfghmfhljfiaaDoorH4
import Derived.Deep.RegionWith
namespace Go.Proofs.YtpdfghmfhljfiaaDoor
open Go.RowKit

def rightF (f : Fl) : Bool := nameS f.1.data.toList && saysS f.2.data.toList
/-- Which field is the first that may not be. -/
def firstW (L : List Fl) : Nat := (L.takeWhile rightF).length

theorem firstW_stop (L : List Fl) (k : Nat) (f : Fl) (hk : L[k]? = some f) (h : (L.take k).all rightF = true) (h' : rightF f = false) : firstW L = k := by
  induction L generalizing k with
  | nil => exact absurd hk (by simp)
  | cons g L ih =>
    unfold firstW
    cases k with
    | zero =>
      simp at hk
      subst hk
      rw [List.takeWhile_cons, h']; rfl
    | succ k =>
      simp only [List.take_succ_cons, List.all_cons, Bool.and_eq_true] at h
      rw [List.takeWhile_cons, h.1]
      have := ih k (by simpa using hk) h.2
      unfold firstW at this
      show (L.takeWhile rightF).length + 1 = k + 1
      rw [this]
theorem firstW_all (L : List Fl) (h : L.all rightF = true) : firstW L = L.length := by
  induction L with
  | nil => rfl
  | cons g L ih =>
    simp only [List.all_cons, Bool.and_eq_true] at h
    have := ih h.2
    unfold firstW at this ⊢
    rw [List.takeWhile_cons, h.1]
    show (L.takeWhile rightF).length + 1 = L.length + 1
    rw [this]
theorem firstW_lt (L : List Fl) (k : Nat) (f : Fl) (hk : L[k]? = some f) (h : (L.take k).all rightF = true) (h' : rightF f = false) : firstW L ≠ L.length := by
  rw [firstW_stop L k f hk h h']
  have := (List.getElem?_eq_some_iff.1 hk).1
  omega
theorem all_onF (L : List Fl) (k : Nat) (f : Fl) (hk : L[k]? = some f) (h : (L.take k).all rightF = true) (h' : rightF f = true) : (L.take (k + 1)).all rightF = true := by
  rw [take_snocF L k f hk, List.all_append, h]; simp [h']

set_option maxHeartbeats 1600000 in
set_option maxRecDepth 100000 in
theorem firstWrong_any (v : Value) (L : List Fl) (w : World) (hT : Tiny L) (hF : FL w v L) :
    Calls Tryd.prog 84 #[v] w fun e w' => e = .returned (.int .i64 (firstW L)) ∧ Below w.heap.size w w' := by
  obtain ⟨A, cap, rfl, hcap, hcells⟩ := hF
  have HC := Box.mk hcells
  have hlen := hT.1
  have HT := Box.mk hT
  clear hcells hT
  go_enter Tryd.func84, Tryd.ntmps84
  go_wp2
  go_loopw [7] (fun i wr => ∃ k : Nat, k ≤ L.length ∧ i = .int .i64 k ∧ Below w.heap.size w wr ∧ Box ((L.take k).all rightF = true)) (fun i _ => L.length - (intOf i).toNat)
  case atStart => exact ⟨0, Nat.zero_le _, rfl, Below.refl _ _, ⟨rfl⟩⟩
  case round =>
    obtain ⟨k, hk, rfl, hb, HA⟩ := hrel
    have hsz := hb.size
    by_cases hlt : k < L.length
    · obtain ⟨b, off, n, v, rfl, HN, hn, hv, hbl, d0, d1⟩ := HC.out.elem HT.out hb k hlt
      have hb2 := hb.alloc hsz (.cells #[.string n, .string v] 54)
      clear HC HT
      cases h1 : nameS n.data.toList
      · have HF : Box (firstW L = k) := ⟨firstW_stop L k _ HN.out HA.out (by unfold rightF; rw [h1]; rfl)⟩
        clear HN HA
        go_wp2_with (go_at_call 74; refine (isName_any _ _ hn).mono ?_; rintro e w' ⟨rfl, rfl⟩)
        go_ret
        exact ⟨ret_int (by rw [HF.out]), hb2⟩
      · cases h2 : saysS v.data.toList
        · have HF : Box (firstW L = k) := ⟨firstW_stop L k _ HN.out HA.out (by unfold rightF; rw [h2, Bool.and_false])⟩
          clear HN HA
          go_wp2_with (first | (go_at_call 74; refine (isName_any _ _ hn).mono ?_; rintro e w' ⟨rfl, rfl⟩) | (go_at_call 81; refine (maySay_any _ _ hv).mono ?_; rintro e w' ⟨rfl, rfl⟩))
          go_ret
          exact ⟨ret_int (by rw [HF.out]), hb2⟩
        · have HA' : Box ((L.take (k + 1)).all rightF = true) := ⟨all_onF L k _ HN.out HA.out (by unfold rightF; rw [h1, h2]; rfl)⟩
          clear HN HA
          go_wp2_with (first | (go_at_call 74; refine (isName_any _ _ hn).mono ?_; rintro e w' ⟨rfl, rfl⟩) | (go_at_call 81; refine (maySay_any _ _ hv).mono ?_; rintro e w' ⟨rfl, rfl⟩))
          go_roundw
          case rel => exact ⟨k + 1, by omega, by go_num, hb2, HA'⟩
          case measure => simp [intOf]; omega
    · have HF : Box (firstW L = L.length) := ⟨firstW_all L (by rw [← HA.out, List.take_of_length_le (by omega)])⟩
      clear HA HC HT
      go_wp2
      go_ret
      exact ⟨ret_int (by rw [HF.out]), hb⟩

set_option maxHeartbeats 400000 in
theorem right_any (v : Value) (L : List Fl) (w : World) (hT : Tiny L) (hF : FL w v L) :
    Calls Tryd.prog 30 #[v] w fun e w' => e = .returned (.bool (decide (firstW L = L.length))) ∧ Below w.heap.size w w' := by
  have HF := Box.mk hF
  have hlen := hT.1
  obtain ⟨A, cap, rfl, hcap, _⟩ := hF
  go_enter Tryd.func30, Tryd.ntmps30
  go_wp2_with fail
  refine (firstWrong_any _ L _ hT HF.out).mono ?_
  rintro e w1 ⟨rfl, hb⟩
  go_wp2
  go_ret
  refine ⟨ret_bool ?_, hb⟩
  rw [Bool.eq_iff_iff, decide_eq_true_iff, beq_iff_eq]
  omega

set_option maxHeartbeats 1600000 in
set_option maxRecDepth 100000 in
theorem rHead_any (v : Value) (L : List Fl) (w : World) (hT : Tiny L) (hF : FL w v L) :
    Calls Tryd.prog 31 #[v] w fun e w' => e = .returned (.bool (decide (firstW L = L.length))) ∧ Below w.heap.size w w' := by
  obtain ⟨A, cap, rfl, hcap, hcells⟩ := hF
  have HC := Box.mk hcells
  have hlen := hT.1
  have HT := Box.mk hT
  clear hcells hT
  go_enter Tryd.func31, Tryd.ntmps31
  go_wp2
  go_loopw [7] (fun i wr => ∃ k : Nat, k ≤ L.length ∧ i = .int .i64 k ∧ Below w.heap.size w wr ∧ Box ((L.take k).all rightF = true)) (fun i _ => L.length - (intOf i).toNat)
  case atStart => exact ⟨0, Nat.zero_le _, rfl, Below.refl _ _, ⟨rfl⟩⟩
  case round =>
    obtain ⟨k, hk, rfl, hb, HA⟩ := hrel
    have hsz := hb.size
    by_cases hlt : k < L.length
    · obtain ⟨b, off, n, v, rfl, HN, hn, hv, hbl, d0, d1⟩ := HC.out.elem HT.out hb k hlt
      have hb2 := hb.alloc hsz (.cells #[.string n, .string v] 54)
      clear HC HT
      cases h1 : nameS n.data.toList
      · have HF : Box (decide (firstW L = L.length) = false) := ⟨decide_eq_false (firstW_lt L k _ HN.out HA.out (by unfold rightF; rw [h1]; rfl))⟩
        clear HN HA
        go_wp2_with (go_at_call 72; refine (rName_any _ _ hn).mono ?_; rintro e w' ⟨rfl, rfl⟩)
        go_ret
        exact ⟨ret_bool HF.out.symm, hb2⟩
      · cases h2 : saysS v.data.toList
        · have HF : Box (decide (firstW L = L.length) = false) := ⟨decide_eq_false (firstW_lt L k _ HN.out HA.out (by unfold rightF; rw [h2, Bool.and_false]))⟩
          clear HN HA
          go_wp2_with (first | (go_at_call 72; refine (rName_any _ _ hn).mono ?_; rintro e w' ⟨rfl, rfl⟩) | (go_at_call 78; refine (rSays_any _ _ hv).mono ?_; rintro e w' ⟨rfl, rfl⟩))
          go_ret
          exact ⟨ret_bool HF.out.symm, hb2⟩
        · have HA' : Box ((L.take (k + 1)).all rightF = true) := ⟨all_onF L k _ HN.out HA.out (by unfold rightF; rw [h1, h2]; rfl)⟩
          clear HN HA
          go_wp2_with (first | (go_at_call 72; refine (rName_any _ _ hn).mono ?_; rintro e w' ⟨rfl, rfl⟩) | (go_at_call 78; refine (rSays_any _ _ hv).mono ?_; rintro e w' ⟨rfl, rfl⟩))
          go_roundw
          case rel => exact ⟨k + 1, by omega, by go_num, hb2, HA'⟩
          case measure => simp [intOf]; omega
    · have HF : Box (decide (firstW L = L.length) = true) := ⟨decide_eq_true (firstW_all L (by rw [← HA.out, List.take_of_length_le (by omega)]))⟩
      clear HA HC HT
      go_wp2
      go_ret
      exact ⟨ret_bool HF.out.symm, hb⟩

/-- The first field of a name. -/
def getS (L : List Fl) (s : List UInt8) : Option Fl := L.find? fun f => decide (smallS f.1.data.toList = smallS s)
def getV : Option Fl → Value
  | some f => .tuple #[.string f.2, .bool true]
  | none => .tuple #[.string ⟨#[]⟩, .bool false]
theorem getS_hit (L : List Fl) (s : List UInt8) (k : Nat) (f : Fl) (hk : L[k]? = some f) (h : ∀ g ∈ L.take k, smallS g.1.data.toList ≠ smallS s) (h' : smallS f.1.data.toList = smallS s) : getS L s = some f := by
  unfold getS
  rw [← List.take_append_drop k L, List.find?_append, List.find?_eq_none.2 (fun g hg => by simpa using h g hg)]
  have hl := (List.getElem?_eq_some_iff.1 hk).1
  rw [List.drop_eq_getElem_cons hl, (List.getElem?_eq_some_iff.1 hk).2]
  simp [h']
theorem getS_none (L : List Fl) (s : List UInt8) (h : ∀ g ∈ L, smallS g.1.data.toList ≠ smallS s) : getS L s = none := by
  unfold getS
  rw [List.find?_eq_none]
  exact fun g hg => by simpa using h g hg
theorem str_eq {a b : ByteArray} (h : a.data.toList = b.data.toList) : (a.toList == b.toList) = true := by rw [ByteArray.toList_eq, ByteArray.toList_eq, h]; simp
theorem str_ne {a b : ByteArray} (h : a.data.toList ≠ b.data.toList) : (a.toList == b.toList) = false := by rw [ByteArray.toList_eq, ByteArray.toList_eq]; simpa using h

set_option maxHeartbeats 1600000 in
set_option maxRecDepth 100000 in
theorem get_any (v : Value) (L : List Fl) (s : ByteArray) (w : World) (hs : s.size ≤ 1000000) (hT : Tiny L) (hF : FL w v L) :
    Calls Tryd.prog 26 #[v, .string s] w fun e w' => e = .returned (getV (getS L s.data.toList)) ∧ Below w.heap.size w w' := by
  obtain ⟨G, HG⟩ : ∃ G, Box (G = getS L s.data.toList) := ⟨_, ⟨rfl⟩⟩
  rw [← HG.out]
  obtain ⟨A, cap, rfl, hcap, hcells⟩ := hF
  have HC := Box.mk hcells
  have hlen := hT.1
  have HT := Box.mk hT
  clear hcells hT
  go_enter Tryd.func26, Tryd.ntmps26
  go_wp2_with fail
  refine (small_str s _ hs).mono ?_
  rintro e w1 ⟨t1, rfl, ht1, hb1⟩
  have H1 := Box.mk ht1
  clear ht1
  go_wp2
  go_loopw [13] (fun i wr => ∃ k : Nat, k ≤ L.length ∧ i = .int .i64 k ∧ Below w.heap.size w wr ∧ Box (∀ g ∈ L.take k, smallS g.1.data.toList ≠ smallS s.data.toList)) (fun i _ => L.length - (intOf i).toNat)
  case atStart => exact ⟨0, Nat.zero_le _, rfl, hb1, ⟨fun g hg => absurd hg (by simp)⟩⟩
  case round =>
    obtain ⟨k, hk, rfl, hb, HA⟩ := hrel
    have hsz := hb.size
    by_cases hlt : k < L.length
    · obtain ⟨b, off, n, v, rfl, HN, hn, hv, hbl, d0, d1⟩ := HC.out.elem HT.out hb k hlt
      have hb2 := hb.alloc hsz (.cells #[.string n, .string v] 54)
      clear HC HT
      go_wp2_with fail
      refine (small_str n _ hn).mono ?_
      rintro e w2 ⟨t2, rfl, ht2, hb3⟩
      have hb4 := hb2.trans (hb3.mono hb2.size)
      have e1 : w2.cell? ⟨wr.heap.size, 1, none⟩ = some (.string v) := (hb3.cell (p := ⟨wr.heap.size, 1, none⟩) (by simp)).trans (by simp)
      by_cases hm : smallS n.data.toList = smallS s.data.toList
      · have hq : (t2.toList == t1.toList) = true := str_eq (by rw [ht2, H1.out, hm])
        have HF : Box (G = some (n, v)) := ⟨by rw [HG.out]; exact getS_hit L _ k _ HN.out HA.out hm⟩
        clear HN HA HG H1 ht2 hm
        go_wp2
        go_ret2
        exact ⟨by rw [HF.out]; rfl, hb4⟩
      · have hq : (t2.toList == t1.toList) = false := str_ne (by rw [ht2, H1.out]; exact hm)
        have HA' : Box (∀ g ∈ L.take (k + 1), smallS g.1.data.toList ≠ smallS s.data.toList) := ⟨fun g hg => by
          rw [take_snocF L k _ HN.out] at hg
          rcases List.mem_append.1 hg with h | h
          · exact HA.out g h
          · obtain rfl := List.mem_singleton.1 h
            exact hm⟩
        clear HN HA HG H1 ht2 hm
        go_wp2
        go_roundw
        case rel => exact ⟨k + 1, by omega, by go_num, hb4, HA'⟩
        case measure => simp [intOf]; omega
    · have HF : Box (G = none) := ⟨by rw [HG.out]; exact getS_none L _ (by have := HA.out; rw [List.take_of_length_le (by omega)] at this; exact this)⟩
      clear HA HC HT HG
      go_wp2
      go_ret2
      exact ⟨by rw [HF.out]; rfl, hb⟩

set_option maxHeartbeats 1600000 in
set_option maxRecDepth 100000 in
theorem getField_any (v : Value) (L : List Fl) (s : ByteArray) (w : World) (hs : s.size ≤ 1000000) (hT : Tiny L) (hF : FL w v L) :
    Calls Tryd.prog 25 #[v, .string s] w fun e w' => e = .returned (getV (getS L s.data.toList)) ∧ Below w.heap.size w w' := by
  obtain ⟨G, HG⟩ : ∃ G, Box (G = getS L s.data.toList) := ⟨_, ⟨rfl⟩⟩
  rw [← HG.out]
  obtain ⟨A, cap, rfl, hcap, hcells⟩ := hF
  have HC := Box.mk hcells
  have hlen := hT.1
  have HT := Box.mk hT
  clear hcells hT
  go_enter Tryd.func25, Tryd.ntmps25
  go_wp2
  go_loopw [10] (fun i wr => ∃ k : Nat, k ≤ L.length ∧ i = .int .i64 k ∧ Below w.heap.size w wr ∧ Box (∀ g ∈ L.take k, smallS g.1.data.toList ≠ smallS s.data.toList)) (fun i _ => L.length - (intOf i).toNat)
  case atStart => exact ⟨0, Nat.zero_le _, rfl, Below.refl _ _, ⟨fun g hg => absurd hg (by simp)⟩⟩
  case round =>
    obtain ⟨k, hk, rfl, hb, HA⟩ := hrel
    have hsz := hb.size
    by_cases hlt : k < L.length
    · obtain ⟨b, off, n, v, rfl, HN, hn, hv, hbl, d0, d1⟩ := HC.out.elem HT.out hb k hlt
      have hb2 := hb.alloc hsz (.cells #[.string n, .string v] 54)
      clear HC HT
      go_wp2_with fail
      refine (low_any n _ hn).mono ?_
      rintro e w2 ⟨t2, rfl, ht2, hb3⟩
      go_wp2_with fail
      refine (low_any s _ hs).mono ?_
      rintro e w3 ⟨t1, rfl, ht1, hb5⟩
      have hb6 := hb3.trans (hb5.mono hb3.size)
      have hb4 := hb2.trans (hb6.mono hb2.size)
      have e1 : w3.cell? ⟨wr.heap.size, 1, none⟩ = some (.string v) := (hb6.cell (p := ⟨wr.heap.size, 1, none⟩) (by simp)).trans (by simp)
      by_cases hm : smallS n.data.toList = smallS s.data.toList
      · have hq : (t2.toList == t1.toList) = true := str_eq (by rw [ht2, ht1, hm])
        have HF : Box (G = some (n, v)) := ⟨by rw [HG.out]; exact getS_hit L _ k _ HN.out HA.out hm⟩
        clear HN HA HG ht2 ht1 hm
        go_wp2
        go_ret2
        exact ⟨by rw [HF.out]; rfl, hb4⟩
      · have hq : (t2.toList == t1.toList) = false := str_ne (by rw [ht2, ht1]; exact hm)
        have HA' : Box (∀ g ∈ L.take (k + 1), smallS g.1.data.toList ≠ smallS s.data.toList) := ⟨fun g hg => by
          rw [take_snocF L k _ HN.out] at hg
          rcases List.mem_append.1 hg with h | h
          · exact HA.out g h
          · obtain rfl := List.mem_singleton.1 h
            exact hm⟩
        clear HN HA HG ht2 ht1 hm
        go_wp2
        go_roundw
        case rel => exact ⟨k + 1, by omega, by go_num, hb4, HA'⟩
        case measure => simp [intOf]; omega
    · have HF : Box (G = none) := ⟨by rw [HG.out]; exact getS_none L _ (by have := HA.out; rw [List.take_of_length_le (by omega)] at this; exact this)⟩
      clear HA HC HT HG
      go_wp2
      go_ret2
      exact ⟨by rw [HF.out]; rfl, hb⟩

end Go.Proofs.YtpdfghmfhljfiaaDoor
