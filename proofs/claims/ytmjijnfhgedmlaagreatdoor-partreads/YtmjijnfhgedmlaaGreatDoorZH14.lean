import Derived.Test.YtmjijnfhgedmlaaGreatDoorZH15
namespace Go.Proofs.YtmjijnfhgedmlaaGreatDoor
open Go.RowKit

theorem cut_at (l sep : List UInt8) (k : Nat) (h : Lib.index l sep = k) : Lib.cut l sep = (l.take k, l.drop (k + sep.length), true) := by
  unfold Lib.cut
  rw [h, if_pos (by omega)]; simp
theorem cut_not (l sep : List UInt8) (h : ¬ 0 ≤ Lib.index l sep) : Lib.cut l sep = (l, [], false) := by
  unfold Lib.cut
  rw [if_neg h]
theorem ext_head (t : ByteArray) (k : Nat) : (t.extract 0 k).data.toList = t.data.toList.take k := by rw [extract_list]; simp
theorem ext_tail (t : ByteArray) (k : Nat) : (t.extract k t.size).data.toList = t.data.toList.drop k := by
  rw [extract_list, List.take_of_length_le (by rw [List.length_drop, size_list]; exact Nat.le_refl _)]
theorem index_neg (l sep : List UInt8) (h : ¬ 0 ≤ Lib.index l sep) : Lib.index l sep = -1 := by
  have := Lib.index_ge l sep
  omega

theorem idx_crlf (t : ByteArray) (w : World) (hs : t.size ≤ 100000) (hm : Max w) :
    Calls Tryz.prog 82 #[.string t, .string ⟨#[13, 10]⟩] w fun e w' => ((∃ k : Nat, e = .returned (.int .i64 k) ∧ k + 2 ≤ t.size ∧ Lib.cut t.data.toList crlfL = ((t.extract 0 k).data.toList, (t.extract (k + 2) t.size).data.toList, true)) ∨ (e = .returned (.int .i64 (-1)) ∧ Lib.cut t.data.toList crlfL = (t.data.toList, (⟨#[]⟩ : ByteArray).data.toList, false))) ∧ w' = w := by
  obtain ⟨_, m, hm⟩ := hm
  refine (Tryz.strings_Index t ⟨#[13, 10]⟩ m w (by omega) hm).mono ?_
  rintro e w' ⟨rfl, rfl⟩
  refine ⟨?_, rfl⟩
  by_cases h : 0 ≤ Lib.index t.data.toList crlfL
  · left
    have hr := Lib.index_room t.data.toList crlfL h
    rw [size_list] at hr
    have h2 : crlfL.length = 2 := rfl
    obtain ⟨k, hk⟩ : ∃ k : Nat, Lib.index t.data.toList crlfL = k := ⟨(Lib.index t.data.toList crlfL).toNat, by omega⟩
    refine ⟨k, ret_int hk, by omega, ?_⟩
    rw [cut_at _ _ k hk, ext_head, ext_tail]; rfl
  · right
    exact ⟨ret_int (index_neg _ _ h), cut_not _ _ h⟩

theorem idx_colon (a : ByteArray) (w : World) :
    Calls Tryz.prog 82 #[.string a, .string ⟨#[58]⟩] w fun e w' => ((∃ k : Nat, e = .returned (.int .i64 k) ∧ k + 1 ≤ a.size ∧ Lib.cut a.data.toList [58] = ((a.extract 0 k).data.toList, (a.extract (k + 1) a.size).data.toList, true)) ∨ (e = .returned (.int .i64 (-1)) ∧ Lib.cut a.data.toList [58] = (a.data.toList, [], false))) ∧ w' = w := by
  refine (Tryz.strings_Index_one a 58 w).mono ?_
  rintro e w' ⟨rfl, rfl⟩
  refine ⟨?_, rfl⟩
  rw [← index_one]
  by_cases h : 0 ≤ Lib.index a.data.toList [58]
  · left
    have hr := Lib.index_room a.data.toList [58] h
    rw [size_list] at hr
    have h2 : ([58] : List UInt8).length = 1 := rfl
    obtain ⟨k, hk⟩ : ∃ k : Nat, Lib.index a.data.toList [58] = k := ⟨(Lib.index a.data.toList [58]).toNat, by omega⟩
    refine ⟨k, ret_int hk, by omega, ?_⟩
    rw [cut_at _ _ k hk, ext_head, ext_tail]; rfl
  · right
    exact ⟨ret_int (index_neg _ _ h), cut_not _ _ h⟩

theorem OwnF.len {w : World} {B : Nat} {v : Value} {L : List Fl} (h : OwnF w B v L) : ∃ A cap, v = .slice A L.length cap ∧ L.length ≤ cap ∧ (L ≠ [] → ∃ g, A = some ⟨g, 0, none⟩) := by
  rcases h.shape with ⟨rfl, rfl⟩ | ⟨g, cap, rfl, _, _, hc⟩
  · exact ⟨none, 0, rfl, Nat.le_refl _, fun h => absurd rfl h⟩
  · exact ⟨_, cap, rfl, hc, fun _ => ⟨g, rfl⟩⟩
theorem set_last (acc : List Fl) (h : 0 < acc.length) (x : ByteArray) : (acc.set (acc.length - 1) ((acc[acc.length - 1]'(by omega)).1, (acc[acc.length - 1]'(by omega)).2 ++ x)).map fl2 = addLast (acc.map fl2) x.data.toList := by
  obtain ⟨M, f, rfl⟩ : ∃ M f, acc = M ++ [f] := by
    have := List.eq_nil_or_concat acc
    rcases this with rfl | ⟨M, f, rfl⟩
    · simp at h
    · exact ⟨M, f, by simp⟩
  have e : (M ++ [f]).length - 1 = M.length := by simp
  simp only [e]
  rw [List.map_append]
  show _ = addLast (M.map fl2 ++ [fl2 f]) _
  rw [addLast_snoc, List.set_append_right _ _ (Nat.le_refl _)]
  simp [fl2]
theorem rName_is (x : ByteArray) (w : World) (hl : x.size ≤ 1000000) (q : Bool) (hq : nameS x.data.toList = q) :
    Calls Tryz.prog 95 #[.string x] w fun e w' => e = .returned (.bool q) ∧ w' = w := by
  subst hq
  exact rName_any x w hl
theorem goes_name (a : List UInt8) (h : goes a = true) : fieldOf a = none := by
  unfold fieldOf
  cases a with
  | nil => cases h
  | cons c l =>
    have hc : blk c = true := h
    rcases cut_parts (c :: l) [58] with ⟨h1, _⟩ | ⟨h1, _⟩
    · have hn : nameS (Lib.cut (c :: l) [58]).1 = false := by
        unfold Lib.cut
        by_cases h0 : 0 ≤ Lib.index (c :: l) [58]
        · rw [if_pos h0]
          show nameS ((c :: l).take _) = false
          cases hk : (Lib.index (c :: l) [58]).toNat with
          | zero => rfl
          | succ k =>
            rw [List.take_succ_cons]
            unfold nameS
            have : nameC c = false := by
              unfold blk at hc
              simp only [Bool.or_eq_true, beq_iff_eq] at hc
              rcases hc with rfl | rfl <;> rfl
            simp [this]
        · rw [if_neg h0]
          unfold nameS
          have : nameC c = false := by
            unfold blk at hc
            simp only [Bool.or_eq_true, beq_iff_eq] at hc
            rcases hc with rfl | rfl <;> rfl
          simp [this]
      rw [hn]; simp
    · rw [h1]; simp

set_option maxHeartbeats 6400000 in
set_option maxRecDepth 100000 in
theorem readHead_any (s : ByteArray) (w : World) (hs : s.size ≤ 100000) (hm : Max w) :
    Calls Tryz.prog 55 #[.string s] w fun e w' => ((∃ n : Nat, refRun (hl s.data.toList).1 0 [] = .error n ∧ e = .returned (.tuple #[.slice none 0 0, .string ⟨#[]⟩, .agg #[.int .i64 3, .int .i64 n]])) ∨
      (∃ v r L, e = .returned (.tuple #[v, .string r, .agg #[.int .i64 0, .int .i64 (-1)]]) ∧ Good s.data.toList w' w.heap.size v r L)) ∧ Below w.heap.size w w' := by
  have hw0 := hm.1
  have HMx := Box.mk hm
  clear hm
  go_enter Tryz.func55, Tryz.ntmps55
  go_wp2
  go_loopw [0, 5, 6] (fun x v i wr => ∃ (n : Nat) (t : ByteArray) (acc : List Fl), x = .string t ∧ i = .int .i64 n ∧ n + t.size ≤ s.size ∧ acc.length ≤ n ∧ OwnF wr (w.heap.size + 1) v acc ∧ Below (w.heap.size + 1) (w.alloc (.cells #[.int .i64 0, .int .i64 0] 55)) wr ∧ Box (∀ f ∈ acc, f.1.size ≤ s.size ∧ f.2.size + t.size ≤ s.size) ∧ Box (refRun (hl t.data.toList).1 n (acc.map fl2) = refRun (hl s.data.toList).1 0 [] ∧ (hl t.data.toList).2 = (hl s.data.toList).2)) (fun x _ _ _ => strSize x)
  case atStart => exact ⟨0, s, [], rfl, rfl, by omega, Nat.le_refl _, OwnF.nil _ _, Below.refl _ _, ⟨fun f hf => absurd hf (by simp)⟩, ⟨rfl, rfl⟩⟩
  case round =>
    obtain ⟨n, t, acc, rfl, rfl, hnt, hacc, hown, hbf, HT, HH⟩ := hrel
    obtain ⟨A, cap, rfl, hcap, hA⟩ := hown.len
    have HAs := Box.mk hA
    clear hA
    have hb : Below w.heap.size w wr := ((Below.refl _ _).alloc (Nat.le_refl _) _).trans (hbf.mono (by omega))
    have hsz : w.heap.size + 1 ≤ wr.heap.size := by have := hbf.size; simp at this; omega
    have HMr := Box.mk (HMx.out.below hb hw0)
    clear HMx
    by_cases h0 : t.size = 0
    · have he := empty_of t h0
      have HE : Box (refRun (hl s.data.toList).1 0 [] = .ok (acc.map fl2) ∧ (⟨#[]⟩ : ByteArray).data.toList = (hl s.data.toList).2) := ⟨by
        have := HH.out
        rw [data_nil t h0, hl_nil] at this
        exact ⟨this.1.symm, this.2⟩⟩
      have HTy : Box (Tiny acc) := ⟨by omega, fun f hf => by have := HT.out f hf; omega⟩
      clear HH HMr HT
      go_wp2_with fail
      refine (fault_any 0 _).mono ?_
      rintro e w2 ⟨rfl, hb4⟩
      have hb5 := hbf.trans (hb4.mono hsz)
      have q0 : w2.cell? ⟨w.heap.size, 0, none⟩ = some (.int .i64 0) := (hb5.cell (p := ⟨w.heap.size, 0, none⟩) (by simp)).trans (by simp)
      have q1 : w2.cell? ⟨w.heap.size, 1, none⟩ = some (.int .i64 0) := (hb5.cell (p := ⟨w.heap.size, 1, none⟩) (by simp)).trans (by simp)
      have f0 : w2.frozen? ⟨w.heap.size, 0, none⟩ = false := (hb5.frozen (p := ⟨w.heap.size, 0, none⟩) (by simp)).trans (by simp)
      have f1 : w2.frozen? ⟨w.heap.size, 1, none⟩ = false := (hb5.frozen (p := ⟨w.heap.size, 1, none⟩) (by simp)).trans (by simp)
      have hbw : Below w.heap.size w w2 := ((Below.refl _ _).alloc (Nat.le_refl _) _).trans (hb5.mono (by omega))
      have hown2 := own_two (hown.below hb4 (Nat.le_refl _)) 0 (-1)
      go_wp2
      exact bodyPost_ret (v := .tuple #[.slice A acc.length cap, .string ⟨#[]⟩, .agg #[.int .i64 0, .int .i64 (-1)]]) (by simp [results, Tryz.results55, go_sem, q0, q1]) rfl ⟨.inr ⟨_, _, acc, rfl, HE.out.1, hown2, HTy.out, HE.out.2⟩, (hbw.setCell (Nat.le_refl _) _).setCell (Nat.le_refl _) _⟩
    · have he := nonempty_of t h0
      have HN := Box.mk (list_ne t h0)
      go_wp2_with fail
      refine (idx_crlf t _ (by omega) HMr.out).mono ?_
      rintro e wr ⟨hcase, rfl⟩
      rcases hcase with ⟨k, rfl, hk, hc⟩ | ⟨rfl, hc⟩
      · have HCu := Box.mk hc
        have hkk : (k : Int) + 2 ≤ (t.size : Int) := by omega
        clear hc
        go_wp2_with fail
        go_region
        have hlt := cut_lt t.data.toList HN.out
        have hle := cut_le t.data.toList
        rw [HCu.out] at hlt hle
        simp only [size_list] at hlt hle
        generalize t.extract 0 k = a at HCu hle
        generalize t.extract (k + 2) t.size = b at HCu hle hlt
        have hbd : Below (w.heap.size + 1) (w.alloc (.cells #[.int .i64 0, .int .i64 0] 55)) (wr.drew) := hbf.drew
        have hownd : OwnF (wr.drew) (w.heap.size + 1) (.slice A acc.length cap) acc := hown.drew
        have hszd : w.heap.size + 1 ≤ (wr.drew).heap.size := hsz
        by_cases ha0 : a.size = 0
        · have hea := empty_of a ha0
          have HE : Box (refRun (hl s.data.toList).1 0 [] = .ok (acc.map fl2) ∧ b.data.toList = (hl s.data.toList).2) := ⟨by
            have := HH.out
            rw [hl_stop _ HN.out (by rw [HCu.out]; exact data_nil a ha0), HCu.out] at this
            exact ⟨this.1.symm, this.2⟩⟩
          have HTy : Box (Tiny acc) := ⟨by omega, fun f hf => by have := HT.out f hf; omega⟩
          clear HH HMr HT HN HCu
          go_wp2_with fail
          refine (fault_any 0 _).mono ?_
          rintro e w2 ⟨rfl, hb4⟩
          have hb5 := hbd.trans (hb4.mono hszd)
          have q0 : w2.cell? ⟨w.heap.size, 0, none⟩ = some (.int .i64 0) := (hb5.cell (p := ⟨w.heap.size, 0, none⟩) (by simp)).trans (by simp)
          have q1 : w2.cell? ⟨w.heap.size, 1, none⟩ = some (.int .i64 0) := (hb5.cell (p := ⟨w.heap.size, 1, none⟩) (by simp)).trans (by simp)
          have f0 : w2.frozen? ⟨w.heap.size, 0, none⟩ = false := (hb5.frozen (p := ⟨w.heap.size, 0, none⟩) (by simp)).trans (by simp)
          have f1 : w2.frozen? ⟨w.heap.size, 1, none⟩ = false := (hb5.frozen (p := ⟨w.heap.size, 1, none⟩) (by simp)).trans (by simp)
          have hbw : Below w.heap.size w w2 := ((Below.refl _ _).alloc (Nat.le_refl _) _).trans (hb5.mono (by omega))
          have hown2 := own_two (hownd.below hb4 (Nat.le_refl _)) 0 (-1)
          go_wp2
          exact bodyPost_ret (v := .tuple #[.slice A acc.length cap, .string b, .agg #[.int .i64 0, .int .i64 (-1)]]) (by simp [results, Tryz.results55, go_sem, q0, q1]) rfl ⟨.inr ⟨_, _, acc, rfl, HE.out.1, hown2, HTy.out, HE.out.2⟩, (hbw.setCell (Nat.le_refl _) _).setCell (Nat.le_refl _) _⟩
        · have hea := nonempty_of a ha0
          have hap : 0 < a.size := by omega
          have HHn : Box (refRun (a.data.toList :: (hl b.data.toList).1) n (acc.map fl2) = refRun (hl s.data.toList).1 0 [] ∧ (hl b.data.toList).2 = (hl s.data.toList).2) := ⟨by
            have := HH.out
            rw [hl_on _ HN.out (by rw [HCu.out]; exact list_ne a ha0), HCu.out] at this
            exact this⟩
          have HGo := Box.mk (goes_of a hap)
          have HTb : Box (∀ f ∈ acc, f.1.size ≤ s.size ∧ f.2.size + a.size + b.size ≤ s.size) := ⟨fun f hf => by have := HT.out f hf; omega⟩
          clear HH HN HCu HT
          by_cases hgo : blk a[0] = true ∧ 0 < acc.length
          · obtain ⟨hb0, hl0⟩ := hgo
            obtain ⟨g, rfl⟩ := HAs.out (fun e => by rw [e] at hl0; simp at hl0)
            have hcl := hownd.cell (acc.length - 1) (by omega)
            have HV := Box.mk (HTb.out (acc[acc.length - 1]'(by omega)) (List.getElem_mem _))
            have HR2 : Box (refRun (hl b.data.toList).1 (n + 1) ((acc.set (acc.length - 1) ((acc[acc.length - 1]'(by omega)).1, (acc[acc.length - 1]'(by omega)).2 ++ a)).map fl2) = refRun (hl s.data.toList).1 0 []) := ⟨by
              rw [set_last acc hl0 a, ← HHn.out.1]
              have e1 : goes a.data.toList = true := by rw [HGo.out]; exact hb0
              have e2 : (acc.map fl2).isEmpty = false := by
                cases acc with
                | nil => simp at hl0
                | cons _ _ => rfl
              conv => rhs; rw [refRun, e1, e2]
              rfl⟩
            have HOs := Box.mk (hownd.set (acc.length - 1) (by omega) ((acc[acc.length - 1]'(by omega)).2 ++ a))
            have HTs : Box (∀ f ∈ acc.set (acc.length - 1) ((acc[acc.length - 1]'(by omega)).1, (acc[acc.length - 1]'(by omega)).2 ++ a), f.1.size ≤ s.size ∧ f.2.size + b.size ≤ s.size) := ⟨fun f hf => by
              rcases List.mem_or_eq_of_mem_set hf with h | h
              · have := HTb.out f h; omega
              · subst h
                have := HV.out
                refine ⟨this.1, ?_⟩
                show (_ ++ _ : ByteArray).size + _ ≤ _
                rw [ByteArray.size_append]
                omega⟩
            have hl1 : (acc.set (acc.length - 1) ((acc[acc.length - 1]'(by omega)).1, (acc[acc.length - 1]'(by omega)).2 ++ a)).length = acc.length := List.length_set
            have HL1 := Box.mk hl1
            have hgb : w.heap.size + 1 ≤ g := by
              rcases hownd.shape with ⟨h, _⟩ | ⟨g', cap', h, h1, _⟩
              · cases h
              · simp only [Value.slice.injEq, Option.some.injEq, Addr.mk.injEq] at h
                omega
            have hvs := HV.out.2
            clear hl1 HTb HGo HMr HAs HV
            obtain ⟨V, hV⟩ : ∃ V, V = (acc[acc.length - 1]'(by omega)).2 := ⟨_, rfl⟩
            rw [← hV] at hcl hvs
            obtain ⟨hc0, hc1, hc2⟩ := hcl
            have HVv := Box.mk hV
            have hkm : ((acc.length : Int) - 1).toNat = acc.length - 1 := by omega
            have hli : (0 : Int) < (acc.length : Int) := by omega
            clear hc0 hV
            go_wp2_with (go_at_call 94; refine (rBlank_any _ _).mono ?_; rintro e wr ⟨rfl, rfl⟩)
            go_roundw
            case rel => exact ⟨n + 1, b, _, rfl, by go_num, by omega, by rw [HL1.out]; omega, by have h := HOs.out; rw [← HVv.out] at h ⊢; exact h, hbd.setCell hgb _, HTs, ⟨HR2.out, HHn.out.2⟩⟩
            case measure => simp [strSize]; omega
          · have HGf : Box ((goes a.data.toList && !(acc.map fl2).isEmpty) = false) := ⟨by
              rw [HGo.out]
              cases hq : blk a[0]
              · rfl
              · have : ¬ 0 < acc.length := fun h => hgo ⟨hq, h⟩
                have e : acc = [] := List.eq_nil_of_length_eq_zero (by omega)
                rw [e]; rfl⟩
            have hgx : blk a[0] = false ∨ (blk a[0] = true ∧ ¬ (0 : Int) < (acc.length : Int)) := by
              cases hq : blk a[0]
              · exact .inl rfl
              · right
                refine ⟨rfl, fun h => hgo ⟨hq, by omega⟩⟩
            clear hgo HGo HAs HMr
            rcases hgx with hg1 | ⟨hg1, hg2⟩
            all_goals
              go_wp2_with (go_at_call 94; refine (rBlank_any _ _).mono ?_; rintro e wr ⟨rfl, rfl⟩)
              refine (idx_colon a _).mono ?_
              rintro e wr ⟨hcase, rfl⟩
              have q0 : wr.cell? ⟨w.heap.size, 0, none⟩ = some (.int .i64 0) := (hbf.cell (p := ⟨w.heap.size, 0, none⟩) (by simp)).trans (by simp)
              have q1 : wr.cell? ⟨w.heap.size, 1, none⟩ = some (.int .i64 0) := (hbf.cell (p := ⟨w.heap.size, 1, none⟩) (by simp)).trans (by simp)
              have f0 : wr.frozen? ⟨w.heap.size, 0, none⟩ = false := (hbf.frozen (p := ⟨w.heap.size, 0, none⟩) (by simp)).trans (by simp)
              have f1 : wr.frozen? ⟨w.heap.size, 1, none⟩ = false := (hbf.frozen (p := ⟨w.heap.size, 1, none⟩) (by simp)).trans (by simp)
              rcases hcase with ⟨c, rfl, hca, hcc⟩ | ⟨rfl, hcc⟩
              · have HCc := Box.mk hcc
                have hci : (c : Int) + 1 ≤ (a.size : Int) := by omega
                have hxs : (a.extract 0 c).size ≤ a.size := by simp [ByteArray.size_extract]; omega
                have hys : (a.extract (c + 1) a.size).size ≤ a.size := by simp [ByteArray.size_extract]
                clear hcc
                cases hnn : nameS (a.extract 0 c).data.toList
                · have HE : Box (refRun (hl s.data.toList).1 0 [] = .error n) := ⟨by rw [← HHn.out.1, refRun_none (fieldOf_bad HCc.out hnn) HGf.out]⟩
                  clear HHn HGf HTb HCc
                  go_wp2_with (go_at_call 95; refine (rName_is _ _ (by omega) _ hnn).mono ?_; rintro e wr ⟨rfl, rfl⟩)
                  exact bodyPost_ret (v := .tuple #[.slice none 0 0, .string ⟨#[]⟩, .agg #[.int .i64 3, .int .i64 n]]) (by simp [results, Tryz.results55, go_sem, q0, q1]) rfl ⟨.inl ⟨n, HE.out, rfl⟩, ((((Below.refl _ _).alloc (Nat.le_refl _) _).trans (hbd.mono (by omega))).setCell (Nat.le_refl _) _).setCell (Nat.le_refl _) _⟩
                · have HS : Box (refRun (hl b.data.toList).1 (n + 1) ((acc ++ [(a.extract 0 c, a.extract (c + 1) a.size)]).map fl2) = refRun (hl s.data.toList).1 0 []) := ⟨by
                    rw [← HHn.out.1, refRun_field (fieldOf_some HCc.out hnn) HGf.out, List.map_append]; rfl⟩
                  have HTs : Box (∀ f ∈ acc ++ [(a.extract 0 c, a.extract (c + 1) a.size)], f.1.size ≤ s.size ∧ f.2.size + b.size ≤ s.size) := ⟨fun f hf => by
                    rcases List.mem_append.1 hf with h | h
                    · have := HTb.out f h; omega
                    · obtain rfl := List.mem_singleton.1 h
                      refine ⟨by show (a.extract 0 c).size ≤ _; omega, ?_⟩
                      show (a.extract (c + 1) a.size).size + _ ≤ _
                      omega⟩
                  clear HGf HTb HCc q0 q1 f0 f1
                  go_wp2_with (go_at_call 95; refine (rName_is _ _ (by omega) _ hnn).mono ?_; rintro e wr ⟨rfl, rfl⟩)
                  have hw1 : IntKind.i64.wrap ((c : Int) + 1) = (c : Int) + 1 := by simp [IntKind.wrap, IntKind.bits, IntKind.signed]; omega
                  have hw2 : (0 : Int) ≤ (c : Int) + 1 := by omega
                  have hw3 : ((c : Int) + 1).toNat = c + 1 := by omega
                  go_region_law (refine step_appF _ (w.alloc (.cells #[.int .i64 0, .int .i64 0] 55)) rfl (.tmp 67) (.tmp 76) rfl (w.heap.size + 1) (.slice A acc.length cap) acc (by simp [Act.eval]) (by exact World.ownsRow.alloc hownd _) wr.heap.size 1 (a.extract 0 c, a.extract (c + 1) a.size) (by simp [Act.eval]) (by simp) (by simp) (by omega) (by simp; omega) (by first | exact hbd.alloc hszd _ | exact (hbd.drew).alloc hszd _ | exact (hbd.alloc hszd _).drew | exact ((hbd.alloc hszd _).drew).drew) ?_; intro v' w6 hown6 hb6)
                  go_wp2
                  go_roundw
                  case rel => exact ⟨n + 1, b, _, rfl, by go_num, by omega, by simp; omega, hown6, hb6, HTs, ⟨HS.out, HHn.out.2⟩⟩
                  case measure => simp [strSize]; omega
              · have HE : Box (refRun (hl s.data.toList).1 0 [] = .error n) := ⟨by rw [← HHn.out.1, refRun_none (fieldOf_no hcc) HGf.out]⟩
                clear HHn HGf HTb hcc
                go_wp2
                exact bodyPost_ret (v := .tuple #[.slice none 0 0, .string ⟨#[]⟩, .agg #[.int .i64 3, .int .i64 n]]) (by simp [results, Tryz.results55, go_sem, q0, q1]) rfl ⟨.inl ⟨n, HE.out, rfl⟩, ((((Below.refl _ _).alloc (Nat.le_refl _) _).trans (hbd.mono (by omega))).setCell (Nat.le_refl _) _).setCell (Nat.le_refl _) _⟩
      · have HCu := Box.mk hc
        clear hc
        have hlt : (⟨#[]⟩ : ByteArray).size < t.size := by show 0 < t.size; omega
        have hle : t.size + (⟨#[]⟩ : ByteArray).size ≤ t.size := by show t.size + 0 ≤ t.size; omega
        have hbd : Below (w.heap.size + 1) (w.alloc (.cells #[.int .i64 0, .int .i64 0] 55)) (wr) := hbf
        have hownd : OwnF (wr) (w.heap.size + 1) (.slice A acc.length cap) acc := hown
        have hszd : w.heap.size + 1 ≤ (wr).heap.size := hsz
        by_cases ha0 : t.size = 0
        · exact absurd ha0 h0
        · have hea := nonempty_of t ha0
          have hap : 0 < t.size := by omega
          have HHn : Box (refRun (t.data.toList :: (hl (⟨#[]⟩ : ByteArray).data.toList).1) n (acc.map fl2) = refRun (hl s.data.toList).1 0 [] ∧ (hl (⟨#[]⟩ : ByteArray).data.toList).2 = (hl s.data.toList).2) := ⟨by
            have := HH.out
            rw [hl_on _ HN.out (by rw [HCu.out]; exact list_ne t ha0), HCu.out] at this
            exact this⟩
          have HGo := Box.mk (goes_of t hap)
          have HTb : Box (∀ f ∈ acc, f.1.size ≤ s.size ∧ f.2.size + t.size + (⟨#[]⟩ : ByteArray).size ≤ s.size) := ⟨fun f hf => by have := HT.out f hf; omega⟩
          clear HH HN HCu HT
          by_cases hgo : blk t[0] = true ∧ 0 < acc.length
          · obtain ⟨hb0, hl0⟩ := hgo
            obtain ⟨g, rfl⟩ := HAs.out (fun e => by rw [e] at hl0; simp at hl0)
            have hcl := hownd.cell (acc.length - 1) (by omega)
            have HV := Box.mk (HTb.out (acc[acc.length - 1]'(by omega)) (List.getElem_mem _))
            have HR2 : Box (refRun (hl (⟨#[]⟩ : ByteArray).data.toList).1 (n + 1) ((acc.set (acc.length - 1) ((acc[acc.length - 1]'(by omega)).1, (acc[acc.length - 1]'(by omega)).2 ++ t)).map fl2) = refRun (hl s.data.toList).1 0 []) := ⟨by
              rw [set_last acc hl0 t, ← HHn.out.1]
              have e1 : goes t.data.toList = true := by rw [HGo.out]; exact hb0
              have e2 : (acc.map fl2).isEmpty = false := by
                cases acc with
                | nil => simp at hl0
                | cons _ _ => rfl
              conv => rhs; rw [refRun, e1, e2]
              rfl⟩
            have HOs := Box.mk (hownd.set (acc.length - 1) (by omega) ((acc[acc.length - 1]'(by omega)).2 ++ t))
            have HTs : Box (∀ f ∈ acc.set (acc.length - 1) ((acc[acc.length - 1]'(by omega)).1, (acc[acc.length - 1]'(by omega)).2 ++ t), f.1.size ≤ s.size ∧ f.2.size + (⟨#[]⟩ : ByteArray).size ≤ s.size) := ⟨fun f hf => by
              rcases List.mem_or_eq_of_mem_set hf with h | h
              · have := HTb.out f h; omega
              · subst h
                have := HV.out
                refine ⟨this.1, ?_⟩
                show (_ ++ _ : ByteArray).size + _ ≤ _
                rw [ByteArray.size_append]
                omega⟩
            have hl1 : (acc.set (acc.length - 1) ((acc[acc.length - 1]'(by omega)).1, (acc[acc.length - 1]'(by omega)).2 ++ t)).length = acc.length := List.length_set
            have HL1 := Box.mk hl1
            have hgb : w.heap.size + 1 ≤ g := by
              rcases hownd.shape with ⟨h, _⟩ | ⟨g', cap', h, h1, _⟩
              · cases h
              · simp only [Value.slice.injEq, Option.some.injEq, Addr.mk.injEq] at h
                omega
            have hvs := HV.out.2
            clear hl1 HTb HGo HMr HAs HV
            obtain ⟨V, hV⟩ : ∃ V, V = (acc[acc.length - 1]'(by omega)).2 := ⟨_, rfl⟩
            rw [← hV] at hcl hvs
            obtain ⟨hc0, hc1, hc2⟩ := hcl
            have HVv := Box.mk hV
            have hkm : ((acc.length : Int) - 1).toNat = acc.length - 1 := by omega
            have hli : (0 : Int) < (acc.length : Int) := by omega
            clear hc0 hV
            go_wp2_with (go_at_call 94; refine (rBlank_any _ _).mono ?_; rintro e wr ⟨rfl, rfl⟩)
            go_roundw
            case rel => exact ⟨n + 1, (⟨#[]⟩ : ByteArray), _, rfl, by go_num, by omega, by rw [HL1.out]; omega, by have h := HOs.out; rw [← HVv.out] at h ⊢; exact h, hbd.setCell hgb _, HTs, ⟨HR2.out, HHn.out.2⟩⟩
            case measure => simp [strSize]; omega
          · have HGf : Box ((goes t.data.toList && !(acc.map fl2).isEmpty) = false) := ⟨by
              rw [HGo.out]
              cases hq : blk t[0]
              · rfl
              · have : ¬ 0 < acc.length := fun h => hgo ⟨hq, h⟩
                have e : acc = [] := List.eq_nil_of_length_eq_zero (by omega)
                rw [e]; rfl⟩
            have hgx : blk t[0] = false ∨ (blk t[0] = true ∧ ¬ (0 : Int) < (acc.length : Int)) := by
              cases hq : blk t[0]
              · exact .inl rfl
              · right
                refine ⟨rfl, fun h => hgo ⟨hq, by omega⟩⟩
            clear hgo HGo HAs HMr
            rcases hgx with hg1 | ⟨hg1, hg2⟩
            all_goals
              go_wp2_with (go_at_call 94; refine (rBlank_any _ _).mono ?_; rintro e wr ⟨rfl, rfl⟩)
              refine (idx_colon t _).mono ?_
              rintro e wr ⟨hcase, rfl⟩
              have q0 : wr.cell? ⟨w.heap.size, 0, none⟩ = some (.int .i64 0) := (hbf.cell (p := ⟨w.heap.size, 0, none⟩) (by simp)).trans (by simp)
              have q1 : wr.cell? ⟨w.heap.size, 1, none⟩ = some (.int .i64 0) := (hbf.cell (p := ⟨w.heap.size, 1, none⟩) (by simp)).trans (by simp)
              have f0 : wr.frozen? ⟨w.heap.size, 0, none⟩ = false := (hbf.frozen (p := ⟨w.heap.size, 0, none⟩) (by simp)).trans (by simp)
              have f1 : wr.frozen? ⟨w.heap.size, 1, none⟩ = false := (hbf.frozen (p := ⟨w.heap.size, 1, none⟩) (by simp)).trans (by simp)
              rcases hcase with ⟨c, rfl, hca, hcc⟩ | ⟨rfl, hcc⟩
              · have HCc := Box.mk hcc
                have hci : (c : Int) + 1 ≤ (t.size : Int) := by omega
                have hxs : (t.extract 0 c).size ≤ t.size := by simp [ByteArray.size_extract]; omega
                have hys : (t.extract (c + 1) t.size).size ≤ t.size := by simp [ByteArray.size_extract]
                clear hcc
                cases hnn : nameS (t.extract 0 c).data.toList
                · have HE : Box (refRun (hl s.data.toList).1 0 [] = .error n) := ⟨by rw [← HHn.out.1, refRun_none (fieldOf_bad HCc.out hnn) HGf.out]⟩
                  clear HHn HGf HTb HCc
                  go_wp2_with (go_at_call 95; refine (rName_is _ _ (by omega) _ hnn).mono ?_; rintro e wr ⟨rfl, rfl⟩)
                  exact bodyPost_ret (v := .tuple #[.slice none 0 0, .string ⟨#[]⟩, .agg #[.int .i64 3, .int .i64 n]]) (by simp [results, Tryz.results55, go_sem, q0, q1]) rfl ⟨.inl ⟨n, HE.out, rfl⟩, ((((Below.refl _ _).alloc (Nat.le_refl _) _).trans (hbd.mono (by omega))).setCell (Nat.le_refl _) _).setCell (Nat.le_refl _) _⟩
                · have HS : Box (refRun (hl (⟨#[]⟩ : ByteArray).data.toList).1 (n + 1) ((acc ++ [(t.extract 0 c, t.extract (c + 1) t.size)]).map fl2) = refRun (hl s.data.toList).1 0 []) := ⟨by
                    rw [← HHn.out.1, refRun_field (fieldOf_some HCc.out hnn) HGf.out, List.map_append]; rfl⟩
                  have HTs : Box (∀ f ∈ acc ++ [(t.extract 0 c, t.extract (c + 1) t.size)], f.1.size ≤ s.size ∧ f.2.size + (⟨#[]⟩ : ByteArray).size ≤ s.size) := ⟨fun f hf => by
                    rcases List.mem_append.1 hf with h | h
                    · have := HTb.out f h; omega
                    · obtain rfl := List.mem_singleton.1 h
                      refine ⟨by show (t.extract 0 c).size ≤ _; omega, ?_⟩
                      show (t.extract (c + 1) t.size).size + _ ≤ _
                      omega⟩
                  clear HGf HTb HCc q0 q1 f0 f1
                  go_wp2_with (go_at_call 95; refine (rName_is _ _ (by omega) _ hnn).mono ?_; rintro e wr ⟨rfl, rfl⟩)
                  have hw1 : IntKind.i64.wrap ((c : Int) + 1) = (c : Int) + 1 := by simp [IntKind.wrap, IntKind.bits, IntKind.signed]; omega
                  have hw2 : (0 : Int) ≤ (c : Int) + 1 := by omega
                  have hw3 : ((c : Int) + 1).toNat = c + 1 := by omega
                  go_region_law (refine step_appF _ (w.alloc (.cells #[.int .i64 0, .int .i64 0] 55)) rfl (.tmp 67) (.tmp 76) rfl (w.heap.size + 1) (.slice A acc.length cap) acc (by simp [Act.eval]) (by exact World.ownsRow.alloc hownd _) wr.heap.size 1 (t.extract 0 c, t.extract (c + 1) t.size) (by simp [Act.eval]) (by simp) (by simp) (by omega) (by simp; omega) (by first | exact hbd.alloc hszd _ | exact (hbd.drew).alloc hszd _ | exact (hbd.alloc hszd _).drew | exact ((hbd.alloc hszd _).drew).drew) ?_; intro v' w6 hown6 hb6)
                  go_wp2
                  go_roundw
                  case rel => exact ⟨n + 1, (⟨#[]⟩ : ByteArray), _, rfl, by go_num, by omega, by simp; omega, hown6, hb6, HTs, ⟨HS.out, HHn.out.2⟩⟩
                  case measure => simp [strSize]; omega
              · have HE : Box (refRun (hl s.data.toList).1 0 [] = .error n) := ⟨by rw [← HHn.out.1, refRun_none (fieldOf_no hcc) HGf.out]⟩
                clear HHn HGf HTb hcc
                go_wp2
                exact bodyPost_ret (v := .tuple #[.slice none 0 0, .string ⟨#[]⟩, .agg #[.int .i64 3, .int .i64 n]]) (by simp [results, Tryz.results55, go_sem, q0, q1]) rfl ⟨.inl ⟨n, HE.out, rfl⟩, ((((Below.refl _ _).alloc (Nat.le_refl _) _).trans (hbd.mono (by omega))).setCell (Nat.le_refl _) _).setCell (Nat.le_refl _) _⟩

end Go.Proofs.YtmjijnfhgedmlaaGreatDoor
