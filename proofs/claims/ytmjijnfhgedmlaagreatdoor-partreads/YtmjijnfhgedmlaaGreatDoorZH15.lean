import Derived.Test.YtmjijnfhgedmlaaGreatDoorZH13
import Derived.Test.YtmjijnfhgedmlaaGreatDoorZ6

namespace Go.Proofs.YtmjijnfhgedmlaaGreatDoor
open Go.RowKit

def okC (f : Fl) : Bool := saysS (trimS f.2.data.toList)
def clF (f : Fl) : FB := (f.1.data.toList, trimS f.2.data.toList)
def firstP (p : Fl → Bool) (L : List Fl) : Nat := (L.takeWhile p).length
theorem firstP_stop (p : Fl → Bool) (L : List Fl) (k : Nat) (f : Fl) (hk : L[k]? = some f) (h : (L.take k).all p = true) (h' : p f = false) : firstP p L = k := by
  induction L generalizing k with
  | nil => exact absurd hk (by simp)
  | cons g L ih =>
    unfold firstP
    cases k with
    | zero =>
      simp at hk
      subst hk
      rw [List.takeWhile_cons, h']; rfl
    | succ k =>
      simp only [List.take_succ_cons, List.all_cons, Bool.and_eq_true] at h
      rw [List.takeWhile_cons, h.1]
      have := ih k (by simpa using hk) h.2
      unfold firstP at this
      show (L.takeWhile p).length + 1 = k + 1
      rw [this]
theorem firstP_all (p : Fl → Bool) (L : List Fl) (h : L.all p = true) : firstP p L = L.length := by
  induction L with
  | nil => rfl
  | cons g L ih =>
    simp only [List.all_cons, Bool.and_eq_true] at h
    have := ih h.2
    unfold firstP at this ⊢
    rw [List.takeWhile_cons, h.1]
    show (L.takeWhile p).length + 1 = L.length + 1
    rw [this]
theorem all_onP (p : Fl → Bool) (L : List Fl) (k : Nat) (f : Fl) (hk : L[k]? = some f) (h : (L.take k).all p = true) (h' : p f = true) : (L.take (k + 1)).all p = true := by
  rw [take_snocF L k f hk, List.all_append, h]; simp [h']

theorem rSays_is (x : ByteArray) (w : World) (hl : x.size ≤ 1000000) (q : Bool) (hq : saysS x.data.toList = q) :
    Calls Tryz.prog 96 #[.string x] w fun e w' => e = .returned (.bool q) ∧ w' = w := by
  subst hq
  exact rSays_any x w hl
theorem maySay_is (x : ByteArray) (w : World) (hl : x.size ≤ 1000000) (q : Bool) (hq : saysS x.data.toList = q) :
    Calls Tryz.prog 147 #[.string x] w fun e w' => e = .returned (.bool q) ∧ w' = w := by
  subst hq
  exact maySay_any x w hl
theorem own_two {w : World} {B : Nat} {v : Value} {L : List Fl} (h : OwnF w (B + 1) v L) (x y : Int) : OwnF ((w.setCell ⟨B, 0, none⟩ (.int .i64 x)).setCell ⟨B, 1, none⟩ (.int .i64 y)) B v L := by
  have h1 : OwnF (w.setCell ⟨B, 0, none⟩ (.int .i64 x)) (B + 1) v L := ownsRow_setCell_below h (Nat.lt_succ_self B) _
  exact OwnF.mono (B := B + 1) (ownsRow_setCell_below h1 (Nat.lt_succ_self B) _) (Nat.le_succ B)
theorem new_cell (W : World) (cs : Array Value) (T : TypeId) (b k : Nat) (hb : b = W.heap.size) : (W.alloc (.cells cs T)).cell? ⟨b, k, none⟩ = cs[k]? := by
  subst hb
  simp
theorem trim_size {t v : ByteArray} (h : t.data.toList = trimS v.data.toList) : t.size ≤ v.size := by
  have := trimS_len v.data.toList
  rw [← h, size_list, size_list] at this
  exact this

set_option maxHeartbeats 3200000 in
set_option maxRecDepth 100000 in
theorem hClean_any (v : Value) (L : List Fl) (w : World) (hT : Tiny L) (hF : FL w v L) :
    Calls Tryz.prog 102 #[v] w fun e w' => ((∃ E, firstP okC L < L.length ∧ e = .returned (.tuple #[.slice none 0 0, E]) ∧ ErrAt w' E 1 (firstP okC L)) ∨
      (∃ v' M, firstP okC L = L.length ∧ e = .returned (.tuple #[v', .nilIface]) ∧ OwnF w' w.heap.size v' M ∧ M.map fl2 = L.map clF ∧ Tiny M)) ∧ Below w.heap.size w w' := by
  obtain ⟨A, cap, rfl, hcap, hcells⟩ := hF
  have HC := Box.mk hcells
  have hlen := hT.1
  have HT := Box.mk hT
  clear hcells hT
  go_enter Tryz.func102, Tryz.ntmps102
  go_wp2
  go_loopw [4, 9] (fun x i wr => ∃ (k : Nat) (M : List Fl), k ≤ L.length ∧ i = .int .i64 k ∧ M.length = k ∧ OwnF wr w.heap.size x M ∧ Below w.heap.size w wr ∧ Box ((L.take k).all okC = true) ∧ Box (M.map fl2 = (L.take k).map clF) ∧ Box (∀ f ∈ M, f.1.size ≤ 1000000 ∧ f.2.size ≤ 1000000)) (fun _ i _ => L.length - (intOf i).toNat)
  case atStart => exact ⟨0, [], Nat.zero_le _, rfl, rfl, OwnF.nil _ _, Below.refl _ _, ⟨rfl⟩, ⟨rfl⟩, ⟨fun f hf => absurd hf (by simp)⟩⟩
  case round =>
    obtain ⟨k, M, hk, rfl, hMl, hown, hb, HA, HM, HS⟩ := hrel
    have HMl := Box.mk hMl
    clear hMl
    have hsz := hb.size
    by_cases hlt : k < L.length
    · obtain ⟨b, off, n, v, rfl, HN, hn, hv, hbl, d0, d1⟩ := HC.out.elem HT.out hb k hlt
      clear HC HT
      go_wp2_with fail
      refine (hTrim_any v _ hv).mono ?_
      rintro e w2 ⟨t, rfl, ht, hb2⟩
      have hts := trim_size ht
      have HTr := Box.mk ht
      have e0 : w2.cell? ⟨wr.heap.size, 0, none⟩ = some (.string n) := (hb2.cell (p := ⟨wr.heap.size, 0, none⟩) (by simp)).trans (by simp)
      have e1 : w2.cell? ⟨wr.heap.size, 1, none⟩ = some (.string v) := (hb2.cell (p := ⟨wr.heap.size, 1, none⟩) (by simp)).trans (by simp)
      have e2 : w2.frozen? ⟨wr.heap.size, 1, none⟩ = false := (hb2.frozen (p := ⟨wr.heap.size, 1, none⟩) (by simp)).trans (by simp)
      have hbr : Below wr.heap.size wr (w2.setCell ⟨wr.heap.size, 1, none⟩ (.string t)) := (((Below.refl _ _).alloc (Nat.le_refl _) _).trans (hb2.mono (by simp))).setCell (Nat.le_refl _) _
      have hb3 := hb.trans (hbr.mono hsz)
      have hown3 := hown.below hbr (Nat.le_refl _)
      have hsz3 := hb3.size
      have hsz4 : w.heap.size ≤ w2.heap.size := by simpa using hsz3
      clear ht hown hb2 d0 d1
      cases hq : saysS t.data.toList
      · have HE : Box (firstP okC L = k) := ⟨firstP_stop okC L k _ HN.out HA.out (by unfold okC; rw [← HTr.out]; exact hq)⟩
        clear HN HA HM HS HTr
        go_wp2_with (go_at_call 147; refine (maySay_is _ _ (by omega) _ hq).mono ?_; rintro e wz ⟨rfl, rfl⟩)
        go_ret2
        exact ⟨.inl ⟨_, by rw [HE.out]; exact hlt, rfl, ⟨w2.heap.size, rfl, (new_cell _ _ _ _ 0 (by simp)).trans rfl, (new_cell _ _ _ _ 1 (by simp)).trans (by rw [HE.out]; rfl)⟩⟩, hb3.alloc hsz3 _⟩
      · have HA' : Box ((L.take (k + 1)).all okC = true) := ⟨all_onP okC L k _ HN.out HA.out (by unfold okC; rw [← HTr.out]; exact hq)⟩
        have HM' : Box ((M ++ [(n, t)]).map fl2 = (L.take (k + 1)).map clF) := ⟨by
          rw [take_snocF L k _ HN.out, List.map_append, List.map_append, HM.out]
          simp [fl2, clF, HTr.out]⟩
        have HS' : Box (∀ f ∈ M ++ [(n, t)], f.1.size ≤ 1000000 ∧ f.2.size ≤ 1000000) := ⟨fun f hf => by
          rcases List.mem_append.1 hf with h | h
          · exact HS.out f h
          · obtain rfl := List.mem_singleton.1 h
            exact ⟨hn, by show t.size ≤ _; omega⟩⟩
        have hMk : M.length + 1 ≤ 1000000 := by have := HMl.out; omega
        clear HN HA HM HS HTr
        go_wp2_with (first | (go_at_call 147; refine (maySay_is _ _ (by omega) _ hq).mono ?_; rintro e wz ⟨rfl, rfl⟩) | (at_builtin; refine wp_appF ((w2.setCell ⟨wr.heap.size, 1, none⟩ (.string t)).alloc (.cells #[.string n, .string t] 75)) w rfl (.tmp 26) (.tmp 28) rfl w.heap.size u4 M rfl (World.ownsRow.alloc hown3 _) w2.heap.size 1 (n, t) rfl ((new_cell _ _ _ _ 0 (by simp)).trans rfl) ((new_cell _ _ _ _ 1 (by simp)).trans rfl) hMk (by simp; omega) (hb3.alloc hsz3 _) ?_; intro v' w6 hown6 hb6))
        go_roundw
        case rel => exact ⟨k + 1, M ++ [(n, t)], by omega, by go_num, by rw [List.length_append, HMl.out]; rfl, hown6, hb6, HA', HM', HS'⟩
        case measure => simp [intOf]; omega
    · have HE : Box (firstP okC L = L.length) := ⟨firstP_all okC L (by rw [← HA.out, List.take_of_length_le (by omega)])⟩
      have HM' : Box (M.map fl2 = L.map clF) := ⟨by rw [HM.out, List.take_of_length_le (by omega)]⟩
      have hMk : M.length ≤ 100000 := by have := HMl.out; omega
      clear HA HM HC HT
      go_wp2
      go_ret2
      exact ⟨.inr ⟨_, M, HE.out, rfl, hown, HM'.out, ⟨hMk, HS.out⟩⟩, hb⟩

set_option maxHeartbeats 3200000 in
set_option maxRecDepth 100000 in
theorem rClean_any (v : Value) (L : List Fl) (w : World) (hT : Tiny L) (hF : FL w v L) :
    Calls Tryz.prog 56 #[v] w fun e w' => ((firstP okC L < L.length ∧ e = .returned (.tuple #[.slice none 0 0, .agg #[.int .i64 1, .int .i64 (firstP okC L)]])) ∨
      (∃ v' M, firstP okC L = L.length ∧ e = .returned (.tuple #[v', .agg #[.int .i64 0, .int .i64 (-1)]]) ∧ OwnF w' w.heap.size v' M ∧ M.map fl2 = L.map clF ∧ Tiny M)) ∧ Below w.heap.size w w' := by
  obtain ⟨A, cap, rfl, hcap, hcells⟩ := hF
  have HC := Box.mk hcells
  have hlen := hT.1
  have HT := Box.mk hT
  clear hcells hT
  go_enter Tryz.func56, Tryz.ntmps56
  go_wp2
  go_loopw [4, 9] (fun x i wr => ∃ (k : Nat) (M : List Fl), k ≤ L.length ∧ i = .int .i64 k ∧ M.length = k ∧ OwnF wr (w.heap.size + 1) x M ∧ Below (w.heap.size + 1) (w.alloc (.cells #[.int .i64 0, .int .i64 0] 55)) wr ∧ Box ((L.take k).all okC = true) ∧ Box (M.map fl2 = (L.take k).map clF) ∧ Box (∀ f ∈ M, f.1.size ≤ 1000000 ∧ f.2.size ≤ 1000000)) (fun _ i _ => L.length - (intOf i).toNat)
  case atStart => exact ⟨0, [], Nat.zero_le _, rfl, rfl, OwnF.nil _ _, Below.refl _ _, ⟨rfl⟩, ⟨rfl⟩, ⟨fun f hf => absurd hf (by simp)⟩⟩
  case round =>
    obtain ⟨k, M, hk, rfl, hMl, hown, hbf, HA, HM, HS⟩ := hrel
    have HMl := Box.mk hMl
    clear hMl
    have hb : Below w.heap.size w wr := ((Below.refl _ _).alloc (Nat.le_refl _) _).trans (hbf.mono (by omega))
    have hsz : w.heap.size + 1 ≤ wr.heap.size := by have := hbf.size; simp at this; omega
    by_cases hlt : k < L.length
    · obtain ⟨b, off, n, v, rfl, HN, hn, hv, hbl, d0, d1⟩ := HC.out.elem HT.out hb k hlt
      have hb2 := hbf.alloc hsz (.cells #[.string n, .string v] 75)
      have hown2 : OwnF (wr.alloc (.cells #[.string n, .string v] 75)) (w.heap.size + 1) u4 M := World.ownsRow.alloc hown _
      have hsz2 : w.heap.size + 1 ≤ (wr.alloc (.cells #[.string n, .string v] 75)).heap.size := by simp; omega
      clear HC HT
      go_wp2_with fail
      refine (rTrim_any v _ hv).mono ?_
      rintro e w2 ⟨t, rfl, ht, rfl⟩
      have hts := trim_size ht
      have HTr := Box.mk ht
      clear ht
      cases hq : saysS t.data.toList
      · have HE : Box (firstP okC L = k) := ⟨firstP_stop okC L k _ HN.out HA.out (by unfold okC; rw [← HTr.out]; exact hq)⟩
        have q0 : wr.cell? ⟨w.heap.size, 0, none⟩ = some (.int .i64 0) := (hbf.cell (p := ⟨w.heap.size, 0, none⟩) (by simp)).trans (by simp)
        have q1 : wr.cell? ⟨w.heap.size, 1, none⟩ = some (.int .i64 0) := (hbf.cell (p := ⟨w.heap.size, 1, none⟩) (by simp)).trans (by simp)
        have f0 : wr.frozen? ⟨w.heap.size, 0, none⟩ = false := (hbf.frozen (p := ⟨w.heap.size, 0, none⟩) (by simp)).trans (by simp)
        have f1 : wr.frozen? ⟨w.heap.size, 1, none⟩ = false := (hbf.frozen (p := ⟨w.heap.size, 1, none⟩) (by simp)).trans (by simp)
        have p0 : (wr.alloc (.cells #[.string n, .string v] 75)).cell? ⟨w.heap.size, 0, none⟩ = some (.int .i64 0) := (World.cell?_alloc_lt _ _ ⟨w.heap.size, 0, none⟩ (by show w.heap.size < _; omega)).trans q0
        have p1 : (wr.alloc (.cells #[.string n, .string v] 75)).cell? ⟨w.heap.size, 1, none⟩ = some (.int .i64 0) := (World.cell?_alloc_lt _ _ ⟨w.heap.size, 1, none⟩ (by show w.heap.size < _; omega)).trans q1
        have g0 : (wr.alloc (.cells #[.string n, .string v] 75)).frozen? ⟨w.heap.size, 0, none⟩ = false := (World.frozen?_alloc_old _ _ ⟨w.heap.size, 0, none⟩ (by show w.heap.size ≠ _; omega)).trans f0
        have g1 : (wr.alloc (.cells #[.string n, .string v] 75)).frozen? ⟨w.heap.size, 1, none⟩ = false := (World.frozen?_alloc_old _ _ ⟨w.heap.size, 1, none⟩ (by show w.heap.size ≠ _; omega)).trans f1
        clear HN HA HM HS HTr
        go_wp2_with (go_at_call 96; refine (rSays_is _ _ (by omega) _ hq).mono ?_; rintro e wz ⟨rfl, rfl⟩)
        exact bodyPost_ret (v := .tuple #[.slice none 0 0, .agg #[.int .i64 1, .int .i64 k]]) (by simp [results, Tryz.results56, go_sem, p0, p1]) rfl ⟨.inl ⟨by rw [HE.out]; exact hlt, by rw [HE.out]⟩, ((((Below.refl _ _).alloc (Nat.le_refl _) _).trans (hb2.mono (by omega))).setCell (Nat.le_refl _) _).setCell (Nat.le_refl _) _⟩
      · have HA' : Box ((L.take (k + 1)).all okC = true) := ⟨all_onP okC L k _ HN.out HA.out (by unfold okC; rw [← HTr.out]; exact hq)⟩
        have HM' : Box (∀ t2 : ByteArray, t2.data.toList = trimS v.data.toList → (M ++ [(n, t2)]).map fl2 = (L.take (k + 1)).map clF) := ⟨fun t2 h2 => by
          rw [take_snocF L k _ HN.out, List.map_append, List.map_append, HM.out]
          simp [fl2, clF, h2]⟩
        have HS' : Box (∀ t2 : ByteArray, t2.size ≤ v.size → ∀ f ∈ M ++ [(n, t2)], f.1.size ≤ 1000000 ∧ f.2.size ≤ 1000000) := ⟨fun t2 h2 f hf => by
          rcases List.mem_append.1 hf with h | h
          · exact HS.out f h
          · obtain rfl := List.mem_singleton.1 h
            exact ⟨hn, by show t2.size ≤ _; omega⟩⟩
        have hMk : M.length + 1 ≤ 1000000 := by have := HMl.out; omega
        clear HN HA HM HS HTr
        go_wp2_with (go_at_call 96; refine (rSays_is _ _ (by omega) _ hq).mono ?_; rintro e wz ⟨rfl, rfl⟩)
        have hownd := hown2.drew
        have hbd := hb2.drew
        go_region_law (first | (refine step_appF _ (w.alloc (.cells #[.int .i64 0, .int .i64 0] 55)) rfl (.tmp 21) (.tmp 28) rfl (w.heap.size + 1) u4 M (by simp [Act.eval]) (by exact World.ownsRow.alloc hown2 _) (wr.heap.size + 1) 1 (n, t2) (by simp [Act.eval]) (by simp) (by simp) hMk (by simp; omega) (by exact (hb2.alloc hsz2 _).drew) ?_; intro v' w6 hown6 hb6) | (refine step_call1 rfl 97 trim_calls (.tmp 25) 9 rfl (.string v) (by simp [Act.eval]) (fun r w' => ∃ t2 : ByteArray, r = .string t2 ∧ t2.data.toList = trimS v.data.toList ∧ w' = (wr.alloc (.cells #[.string n, .string v] 75)).drew) ((rTrim_any v _ hv).mono (by rintro e w' ⟨t2, rfl, h1, rfl⟩; exact ⟨_, rfl, t2, rfl, h1, rfl⟩)) ?_; rintro r w' ⟨t2, rfl, ht2, rfl⟩))
        all_goals
          have HM2 := Box.mk (HM'.out t2 ht2)
          have HS2 := Box.mk (HS'.out t2 (trim_size ht2))
          clear HM' HS' ht2
          go_wp2
          go_roundw
          case rel => exact ⟨k + 1, M ++ [(n, t2)], by omega, by go_num, by rw [List.length_append, HMl.out]; rfl, hown6, hb6, HA', HM2, HS2⟩
          case measure => simp [intOf]; omega
    · have HE : Box (firstP okC L = L.length) := ⟨firstP_all okC L (by rw [← HA.out, List.take_of_length_le (by omega)])⟩
      have HM' : Box (M.map fl2 = L.map clF) := ⟨by rw [HM.out, List.take_of_length_le (by omega)]⟩
      have hMk : M.length ≤ 100000 := by have := HMl.out; omega
      clear HA HM HC HT
      go_wp2_with fail
      refine (fault_any 0 _).mono ?_
      rintro e w2 ⟨rfl, hb4⟩
      have hb5 := hbf.trans (hb4.mono hsz)
      have q0 : w2.cell? ⟨w.heap.size, 0, none⟩ = some (.int .i64 0) := (hb5.cell (p := ⟨w.heap.size, 0, none⟩) (by simp)).trans (by simp)
      have q1 : w2.cell? ⟨w.heap.size, 1, none⟩ = some (.int .i64 0) := (hb5.cell (p := ⟨w.heap.size, 1, none⟩) (by simp)).trans (by simp)
      have f0 : w2.frozen? ⟨w.heap.size, 0, none⟩ = false := (hb5.frozen (p := ⟨w.heap.size, 0, none⟩) (by simp)).trans (by simp)
      have f1 : w2.frozen? ⟨w.heap.size, 1, none⟩ = false := (hb5.frozen (p := ⟨w.heap.size, 1, none⟩) (by simp)).trans (by simp)
      have hbw : Below w.heap.size w w2 := ((Below.refl _ _).alloc (Nat.le_refl _) _).trans (hb5.mono (by omega))
      have hown2 := own_two (hown.below hb4 (Nat.le_refl _)) 0 (-1)
      go_wp2
      exact bodyPost_ret (v := .tuple #[u4, .agg #[.int .i64 0, .int .i64 (-1)]]) (by simp [results, Tryz.results56, go_sem, q0, q1]) rfl ⟨.inr ⟨_, M, HE.out, rfl, hown2, HM'.out, ⟨hMk, HS.out⟩⟩, (hbw.setCell (Nat.le_refl _) _).setCell (Nat.le_refl _) _⟩

theorem fl2_inj : ∀ {L M : List Fl}, L.map fl2 = M.map fl2 → L = M
  | [], [], _ => rfl
  | [], _ :: _, h => by simp at h
  | _ :: _, [], h => by simp at h
  | f :: L, g :: M, h => by
    simp only [List.map_cons, List.cons.injEq] at h
    have e : f = g := by
      have h1 : f.1 = g.1 := bytes_eq (congrArg Prod.fst h.1)
      have h2 : f.2 = g.2 := bytes_eq (congrArg Prod.snd h.1)
      cases f; cases g; simp_all
    rw [e, fl2_inj h.2]

end Go.Proofs.YtmjijnfhgedmlaaGreatDoor
