import Derived.Test.YtpdfghmfhljfiaaDoorA3
import Derived.Test.YtpdfghmfhljfiaaDoorH11
import Derived.Test.YtpdfghmfhljfiaaDoorShelfJ
namespace Go.Proofs.YtpdfghmfhljfiaaDoor
open Go.RowKit

theorem while_none (l : List UInt8) (h : ∀ d ∈ l, d ≠ 47) : l.takeWhile (· != 47) = l ∧ l.dropWhile (· != 47) = [] := by
  induction l with
  | nil => exact ⟨rfl, rfl⟩
  | cons c l ih =>
    have hc : (c != 47) = true := by simpa using h c List.mem_cons_self
    obtain ⟨i1, i2⟩ := ih fun d hd => h d (List.mem_cons_of_mem _ hd)
    rw [List.takeWhile_cons, List.dropWhile_cons, if_pos hc, if_pos hc, i1, i2]
    exact ⟨rfl, rfl⟩
theorem while_some (x y : List UInt8) (h : ∀ d ∈ x, d ≠ 47) : (x ++ 47 :: y).takeWhile (· != 47) = x ∧ (x ++ 47 :: y).dropWhile (· != 47) = 47 :: y := by
  induction x with
  | nil => exact ⟨rfl, rfl⟩
  | cons c l ih =>
    have hc : (c != 47) = true := by simpa using h c List.mem_cons_self
    obtain ⟨i1, i2⟩ := ih fun d hd => h d (List.mem_cons_of_mem _ hd)
    rw [List.cons_append, List.takeWhile_cons, List.dropWhile_cons, if_pos hc, if_pos hc, i1, i2]
    exact ⟨rfl, rfl⟩

set_option maxHeartbeats 800000 in
theorem authority_any (s : ByteArray) (w : World) :
    Calls Tryd.prog 109 #[.string s] w fun e w' => ∃ x y : ByteArray, e = .returned (.tuple #[.string x, .string y]) ∧ x.data.toList = s.data.toList.takeWhile (· != 47) ∧ y.data.toList = s.data.toList.dropWhile (· != 47) ∧ x.size ≤ s.size ∧ y.size ≤ s.size ∧ w' = w.drew := by
  rcases find_byte s.data.toList 47 with ⟨h1, h2⟩ | ⟨x, y, h1, h2, h3⟩
  · obtain ⟨t1, t2⟩ := while_none _ h2
    have T1 := Box.mk t1
    have T2 := Box.mk t2
    clear t1 t2 h2
    go_enter Tryd.func109, Tryd.ntmps109
    go_wp2_with fail
    refine (Tryd.strings_IndexByte s 47 _).mono ?_
    rintro e w1 ⟨rfl, rfl⟩
    rw [show ((47 : Int).toNat.toUInt8) = 47 from rfl, h1]
    go_wp2
    go_region
    go_wp2
    go_ret2
    refine ⟨_, _, rfl, ?_, ?_, ?_, ?_, rfl⟩
    · exact T1.out.symm
    · exact T2.out.symm
    · simp
    · simp
  · obtain ⟨t1, t2⟩ := while_some x y h2
    rw [← h1] at t1 t2
    have hsz : s.size = x.length + (y.length + 1) := by rw [← size_list, h1]; simp
    obtain ⟨n, hn⟩ : ∃ n, n = x.length := ⟨_, rfl⟩
    rw [← hn] at h3 hsz
    have hln : n ≤ s.size := by omega
    have T1 : Box ((s.extract 0 n).data.toList = s.data.toList.takeWhile (· != 47)) := ⟨by rw [t1, extract_list, h1, hn]; simp⟩
    have T2 : Box ((s.extract n s.size).data.toList = s.data.toList.dropWhile (· != 47)) := ⟨by
      rw [t2, extract_list, h1, hn, List.drop_left, List.take_of_length_le (by simp; omega)]⟩
    clear t1 t2 h2 hsz h1
    go_enter Tryd.func109, Tryd.ntmps109
    go_wp2_with fail
    refine (Tryd.strings_IndexByte s 47 _).mono ?_
    rintro e w1 ⟨rfl, rfl⟩
    rw [show ((47 : Int).toNat.toUInt8) = 47 from rfl, h3]
    clear h3 hn
    go_wp2
    go_region
    go_wp2
    go_ret2
    refine ⟨_, _, rfl, T1.out, T2.out, ?_, ?_, rfl⟩
    · simp; omega
    · simp

/-- strings.Cut at one sign. -/
theorem acut_any (s : ByteArray) (c : UInt8) (w : World) (hs : s.size ≤ 1000000) (hm : Max w) :
    Calls Tryd.prog 65 #[.string s, .string ⟨#[c]⟩] w fun e w' => ∃ a b f, e = .returned (.tuple #[.string a, .string b, .bool f]) ∧ Lib.cut s.data.toList [c] = (a.data.toList, b.data.toList, f) ∧ a.size ≤ s.size ∧ b.size ≤ s.size ∧ ∃ n, w' = w.drewN n := by
  obtain ⟨_, m, hm⟩ := hm
  refine (Tryd.strings_Cut s ⟨#[c]⟩ m w (by omega) hm).mono ?_
  rintro e w' ⟨rfl, n, rfl⟩
  have hsz := size_list s
  refine ⟨_, _, _, rfl, rfl, ?_, ?_, n, rfl⟩
  · rw [size_mk]
    rcases cut_parts s.data.toList [c] with ⟨_, h⟩ | ⟨_, h, _⟩
    · show (Lib.cut s.data.toList [c]).1.length ≤ _; omega
    · show (Lib.cut s.data.toList [c]).1.length ≤ _; rw [h]; omega
  · rw [size_mk]
    rcases cut_parts s.data.toList [c] with ⟨_, h⟩ | ⟨_, _, h⟩
    · show (Lib.cut s.data.toList [c]).2.1.length ≤ _; omega
    · show (Lib.cut s.data.toList [c]).2.1.length ≤ _; rw [h]; simp
theorem two_slash (t : List UInt8) : Lib.hasPrefix t [47, 47] = decide (t.take 2 = [47, 47]) := by
  unfold Lib.hasPrefix
  cases t with
  | nil => rfl
  | cons a t =>
    cases t with
    | nil => simp [List.isPrefixOf]
    | cons b t =>
      rw [Bool.eq_iff_iff]
      simp only [List.isPrefixOf, Bool.and_eq_true, beq_iff_eq, decide_eq_true_eq, List.take_succ_cons, List.take_zero, List.cons.injEq, and_true]
      constructor
      · rintro ⟨rfl, rfl⟩; exact ⟨rfl, rfl⟩
      · rintro ⟨rfl, rfl⟩; exact ⟨rfl, rfl⟩
/-- strings.CutPrefix at two slashes. -/
theorem aslash_any (s : ByteArray) (w : World) :
    Calls Tryd.prog 99 #[.string s, .string ⟨#[47, 47]⟩] w fun e w' => ∃ (r : ByteArray) (q : Bool), e = .returned (.tuple #[.string r, .bool q]) ∧ q = decide (s.data.toList.take 2 = [47, 47]) ∧ (q = true → r.data.toList = s.data.toList.drop 2) ∧ r.size ≤ s.size ∧ w' = w := by
  refine (Tryd.strings_CutPrefix s ⟨#[47, 47]⟩ w).mono ?_
  rintro e w' ⟨rfl, rfl⟩
  have hsz := size_list s
  refine ⟨_, _, rfl, two_slash _, fun hq => ?_, ?_, rfl⟩
  · show Lib.trimPrefix s.data.toList [47, 47] = _
    unfold Lib.trimPrefix
    have hq' : Lib.hasPrefix s.data.toList [47, 47] = true := hq
    rw [if_pos hq']
    rfl
  · rw [size_mk]
    show (Lib.trimPrefix s.data.toList [47, 47]).length ≤ _
    unfold Lib.trimPrefix
    split
    · rw [List.length_drop]; omega
    · omega

abbrev avZero : AV := ⟨⟨#[]⟩, false, ⟨#[]⟩, ⟨#[]⟩, false, ⟨#[]⟩, false, ⟨#[]⟩⟩
abbrev avObj : Obj := .cells #[.string ⟨#[]⟩, .bool false, .string ⟨#[]⟩, .string ⟨#[]⟩, .bool false, .string ⟨#[]⟩, .bool false, .string ⟨#[]⟩] 73
/- A new address ahead of another new block, behind draws. -/
theorem two_heap (w : World) (N : Nat) (cs : Array Value) (B : Obj) : (((w.drewN N).alloc (.cells cs 73)).alloc B).heap[w.heap.size]? = some (.cells cs 73) := by
  rw [Below.heap_alloc _ _ _ (by simp)]
  show (w.heap.push _)[w.heap.size]? = _
  simp
theorem two_frozen (w : World) : ∀ (N : Nat) (cs : Array Value) (B : Obj) (i : Nat), (((w.drewN N).alloc (.cells cs 73)).alloc B).frozen? ⟨w.heap.size, i, none⟩ = false := by
  intro N cs B i
  simp [World.frozen?, two_heap w N cs B]
theorem two_cell (w : World) : ∀ (N : Nat) (cs : Array Value) (B : Obj) (i : Nat), (((w.drewN N).alloc (.cells cs 73)).alloc B).cell? ⟨w.heap.size, i, none⟩ = cs[i]? := by
  intro N cs B i
  simp [World.cell?, two_heap w N cs B]
theorem two_set (w : World) : ∀ (N : Nat) (cs : Array Value) (i : Nat) (v : Value), ((w.drewN N).alloc (.cells cs 73)).setCell ⟨w.heap.size, i, none⟩ v = (w.drewN N).alloc (.cells (cs.setIfInBounds i v) 73) := by
  intro N cs i v
  exact World.setCell_alloc_at cs _ _ i v rfl
theorem one_cell (w : World) (N : Nat) (cs : Array Value) (i : Nat) : ((w.drewN N).alloc (.cells cs 73)).cell? ⟨w.heap.size, i, none⟩ = cs[i]? := by
  have h : ((w.drewN N).alloc (.cells cs 73)).heap[w.heap.size]? = some (.cells cs 73 (0, 0)) := by
    show (w.heap.push _)[w.heap.size]? = _
    simp
  simp only [World.cell?, h]
  rfl
/-- What Read answers. -/
def RAPost (l : List UInt8) (n : Nat) (e : Ending) : Prop := (readA l = none ∧ e = .returned (.tuple #[avZero.val, .iface 32 (.int .i64 3)])) ∨ ∃ v : AV, readA l = some v.ab ∧ v.Small n ∧ e = .returned (.tuple #[v.val, .nilIface])

theorem max_two {w : World} (hm : Max w) (A B : Obj) : Max ((w.alloc A).alloc B) := hm.below (((Below.refl w.heap.size w).alloc (Nat.le_refl _) _).alloc (by simp) _) hm.1
theorem acut_two (s : ByteArray) (c : UInt8) (w : World) (A B : Obj) (hs : s.size ≤ 1000000) (hm : Max w) :
    Calls Tryd.prog 65 #[.string s, .string ⟨#[c]⟩] ((w.alloc A).alloc B) fun e w' => ∃ a b f, e = .returned (.tuple #[.string a, .string b, .bool f]) ∧ Lib.cut s.data.toList [c] = (a.data.toList, b.data.toList, f) ∧ a.size ≤ s.size ∧ b.size ≤ s.size ∧ ∃ n, w' = ((w.drewN n).alloc A).alloc B := by
  refine (acut_any s c _ hs (max_two hm A B)).mono ?_
  rintro e w' ⟨a, b, f, h1, h2, h3, h4, n, rfl⟩
  exact ⟨a, b, f, h1, h2, h3, h4, n, rfl⟩
theorem authority_two (s : ByteArray) (w : World) (A B : Obj) :
    Calls Tryd.prog 109 #[.string s] ((w.alloc A).alloc B) fun e w' => ∃ x y : ByteArray, e = .returned (.tuple #[.string x, .string y]) ∧ x.data.toList = s.data.toList.takeWhile (· != 47) ∧ y.data.toList = s.data.toList.dropWhile (· != 47) ∧ x.size ≤ s.size ∧ y.size ≤ s.size ∧ w' = ((w.drewN 1).alloc A).alloc B := by
  refine (authority_any s _).mono ?_
  rintro e w' ⟨x, y, h1, h2, h3, h4, h5, rfl⟩
  exact ⟨x, y, h1, h2, h3, h4, h5, rfl⟩

/-- The parts of a text that may stand. -/
theorem readA_parts {s s1 fr s2 qu sc re s3 : ByteArray} {hF hQ ok : Bool} (h0 : s.data.toList.all in33 = true) (h1 : Lib.cut s.data.toList [35] = (s1.data.toList, fr.data.toList, hF)) (h2 : Lib.cut s1.data.toList [63] = (s2.data.toList, qu.data.toList, hQ))
    (h3 : Lib.cut s2.data.toList [58] = (sc.data.toList, re.data.toList, ok)) (S : ByteArray) (h4 : (ok = true ∧ schS sc.data.toList = true ∧ S = sc ∧ s3 = re) ∨ ((ok = false ∨ (ok = true ∧ schS sc.data.toList = false)) ∧ S = ⟨#[]⟩ ∧ s3 = s2))
    (q : Bool) (au pa : ByteArray) (h5 : q = decide (s3.data.toList.take 2 = [47, 47])) (h6 : (q = false ∧ au = ⟨#[]⟩ ∧ pa = s3) ∨ (q = true ∧ au.data.toList = (s3.data.toList.drop 2).takeWhile (· != 47) ∧ pa.data.toList = (s3.data.toList.drop 2).dropWhile (· != 47))) :
    readA s.data.toList = some (AV.ab ⟨S, q, au, pa, hQ, qu, hF, fr⟩) := by
  have hs : schOf s2.data.toList = (S.data.toList, s3.data.toList) := by
    unfold schOf
    rw [h3]
    rcases h4 with ⟨rfl, h, rfl, rfl⟩ | ⟨rfl | ⟨rfl, h⟩, rfl, rfl⟩
    · simp [h]
    · simp
    · simp [h]
  have ha : authOf s3.data.toList = (q, au.data.toList, pa.data.toList) := by
    unfold authOf
    rcases h6 with ⟨rfl, rfl, rfl⟩ | ⟨rfl, e1, e2⟩
    · have : ¬ pa.data.toList.take 2 = [47, 47] := by simpa using h5.symm
      rw [if_neg this]
    · have : s3.data.toList.take 2 = [47, 47] := by simpa using h5.symm
      rw [if_pos this, e1, e2]
  unfold readA
  rw [if_pos h0]
  simp only [h1, h2, hs, ha, AV.ab]

set_option maxHeartbeats 4000000 in
set_option maxRecDepth 100000 in
theorem aread_any (s : ByteArray) (w : World) (hs : s.size ≤ 1000000) (hm : Max w) :
    Calls Tryd.prog 48 #[.string s] w fun e w' => RAPost s.data.toList s.size e ∧ Below w.heap.size w w' := by
  have HMx := Box.mk hm
  have hw0 := hm.1
  clear hm
  cases h0 : s.data.toList.all in33
  · have HE : Box (readA s.data.toList = none) := ⟨by unfold readA; rw [h0]; rfl⟩
    go_enter Tryd.func48, Tryd.ntmps48
    go_wp2_with fail
    refine (mayStand_any s _ hs false h0).mono ?_
    rintro e w1 ⟨rfl, rfl⟩
    clear h0
    go_wp2
    exact bodyPost_ret (v := .tuple #[avZero.val, .iface 32 (.int .i64 3)]) (by simp [results, Tryd.results48, go_sem]) rfl ⟨.inl ⟨HE.out, rfl⟩, (Below.refl _ _).alloc (Nat.le_refl _) _⟩
  · have H0 := Box.mk h0
    go_enter Tryd.func48, Tryd.ntmps48
    go_wp2_with fail
    refine (mayStand_any s _ hs true h0).mono ?_
    rintro e w1 ⟨rfl, rfl⟩
    clear h0
    go_wp2_with fail
    refine (acut_two s 35 w _ _ hs HMx.out).mono ?_
    rintro e w1 ⟨s1, fr, hF, rfl, h1, z1, z2, n1, rfl⟩
    have H1 := Box.mk h1
    clear h1
    go_wp2_with fail
    refine (acut_two s1 63 (w.drewN n1) _ _ (by omega) HMx.out).mono ?_
    rintro e w1 ⟨s2, qu, hQ, rfl, h2, z3, z4, n2, rfl⟩
    have H2 := Box.mk h2
    clear h2
    go_wp2_with fail
    refine (acut_two s2 58 (w.drewN (n1 + n2)) _ _ (by omega) HMx.out).mono ?_
    rintro e w1 ⟨sc, re, ok, rfl, h3, z5, z6, n3, rfl⟩
    have H3 := Box.mk h3
    clear h3
    cases ok
    · go_wp2_with fail
      refine (aslash_any s2 _).mono ?_
      rintro e w1 ⟨r, q, rfl, h5, h6, z7, rfl⟩
      cases q
      · have HE : Box (readA s.data.toList = some (AV.ab ⟨⟨#[]⟩, false, ⟨#[]⟩, s2, hQ, qu, hF, fr⟩)) := ⟨readA_parts H0.out H1.out H2.out H3.out ⟨#[]⟩ (.inr ⟨.inl rfl, rfl, rfl⟩) false ⟨#[]⟩ s2 h5 (.inl ⟨rfl, rfl, rfl⟩)⟩
        have HZ : Box (AV.Small ⟨⟨#[]⟩, false, ⟨#[]⟩, s2, hQ, qu, hF, fr⟩ s.size) := ⟨av_small (by first | omega | exact Nat.zero_le _) (Nat.zero_le _) (by omega) (by omega) (by omega)⟩
        clear h5 h6 H0 H1 H2 H3
        have hfz := two_frozen w
        have hcl := two_cell w
        have hst := two_set w
        go_wp2
        refine bodyPost_ret (v := .tuple #[.agg #[.string ⟨#[]⟩, .bool false, .string ⟨#[]⟩, .string s2, .bool hQ, .string qu, .bool hF, .string fr], .nilIface]) (by simp [results, Tryd.results48, go_sem, one_cell w]) rfl ⟨.inr ⟨_, HE.out, HZ.out, rfl⟩, ?_⟩
        repeat first | exact Below.refl _ _ | apply below_drewN | (refine Below.setCell ?_ (by simp) _) | (refine Below.alloc ?_ (by simp) _)
      · have H5 := Box.mk h5
        have H6 := Box.mk (h6 rfl)
        clear h5 h6
        go_wp2_with fail
        refine (authority_two r _ _ _).mono ?_
        rintro e w1 ⟨au, pa, rfl, h7, h8, z8, z9, rfl⟩
        have HE : Box (readA s.data.toList = some (AV.ab ⟨⟨#[]⟩, true, au, pa, hQ, qu, hF, fr⟩)) := ⟨readA_parts H0.out H1.out H2.out H3.out ⟨#[]⟩ (.inr ⟨.inl rfl, rfl, rfl⟩) true au pa H5.out (.inr ⟨rfl, by rw [h7, H6.out], by rw [h8, H6.out]⟩)⟩
        have HZ : Box (AV.Small ⟨⟨#[]⟩, true, au, pa, hQ, qu, hF, fr⟩ s.size) := ⟨av_small (by first | omega | exact Nat.zero_le _) (by omega) (by omega) (by omega) (by omega)⟩
        clear h7 h8 H0 H1 H2 H3 H5 H6
        have hfz := two_frozen w
        have hcl := two_cell w
        have hst := two_set w
        go_wp2
        refine bodyPost_ret (v := .tuple #[.agg #[.string ⟨#[]⟩, .bool true, .string au, .string pa, .bool hQ, .string qu, .bool hF, .string fr], .nilIface]) (by simp [results, Tryd.results48, go_sem, one_cell w]) rfl ⟨.inr ⟨_, HE.out, HZ.out, rfl⟩, ?_⟩
        repeat first | exact Below.refl _ _ | apply below_drewN | (refine Below.setCell ?_ (by simp) _) | (refine Below.alloc ?_ (by simp) _)
    · cases hsc : schS sc.data.toList
      · have HS := Box.mk hsc
        go_wp2_with fail
        refine (isScheme_any sc _ (by omega) false hsc).mono ?_
        rintro e w1 ⟨rfl, rfl⟩
        clear hsc
        go_wp2_with fail
        refine (aslash_any s2 _).mono ?_
        rintro e w1 ⟨r, q, rfl, h5, h6, z7, rfl⟩
        cases q
        · have HE : Box (readA s.data.toList = some (AV.ab ⟨⟨#[]⟩, false, ⟨#[]⟩, s2, hQ, qu, hF, fr⟩)) := ⟨readA_parts H0.out H1.out H2.out H3.out ⟨#[]⟩ (.inr ⟨.inr ⟨rfl, HS.out⟩, rfl, rfl⟩) false ⟨#[]⟩ s2 h5 (.inl ⟨rfl, rfl, rfl⟩)⟩
          have HZ : Box (AV.Small ⟨⟨#[]⟩, false, ⟨#[]⟩, s2, hQ, qu, hF, fr⟩ s.size) := ⟨av_small (by first | omega | exact Nat.zero_le _) (Nat.zero_le _) (by omega) (by omega) (by omega)⟩
          clear h5 h6 H0 H1 H2 H3
          have hfz := two_frozen w
          have hcl := two_cell w
          have hst := two_set w
          go_wp2
          refine bodyPost_ret (v := .tuple #[.agg #[.string ⟨#[]⟩, .bool false, .string ⟨#[]⟩, .string s2, .bool hQ, .string qu, .bool hF, .string fr], .nilIface]) (by simp [results, Tryd.results48, go_sem, one_cell w]) rfl ⟨.inr ⟨_, HE.out, HZ.out, rfl⟩, ?_⟩
          repeat first | exact Below.refl _ _ | apply below_drewN | (refine Below.setCell ?_ (by simp) _) | (refine Below.alloc ?_ (by simp) _)
        · have H5 := Box.mk h5
          have H6 := Box.mk (h6 rfl)
          clear h5 h6
          go_wp2_with fail
          refine (authority_two r _ _ _).mono ?_
          rintro e w1 ⟨au, pa, rfl, h7, h8, z8, z9, rfl⟩
          have HE : Box (readA s.data.toList = some (AV.ab ⟨⟨#[]⟩, true, au, pa, hQ, qu, hF, fr⟩)) := ⟨readA_parts H0.out H1.out H2.out H3.out ⟨#[]⟩ (.inr ⟨.inr ⟨rfl, HS.out⟩, rfl, rfl⟩) true au pa H5.out (.inr ⟨rfl, by rw [h7, H6.out], by rw [h8, H6.out]⟩)⟩
          have HZ : Box (AV.Small ⟨⟨#[]⟩, true, au, pa, hQ, qu, hF, fr⟩ s.size) := ⟨av_small (by first | omega | exact Nat.zero_le _) (by omega) (by omega) (by omega) (by omega)⟩
          clear h7 h8 H0 H1 H2 H3 H5 H6
          have hfz := two_frozen w
          have hcl := two_cell w
          have hst := two_set w
          go_wp2
          refine bodyPost_ret (v := .tuple #[.agg #[.string ⟨#[]⟩, .bool true, .string au, .string pa, .bool hQ, .string qu, .bool hF, .string fr], .nilIface]) (by simp [results, Tryd.results48, go_sem, one_cell w]) rfl ⟨.inr ⟨_, HE.out, HZ.out, rfl⟩, ?_⟩
          repeat first | exact Below.refl _ _ | apply below_drewN | (refine Below.setCell ?_ (by simp) _) | (refine Below.alloc ?_ (by simp) _)
      · have HS := Box.mk hsc
        go_wp2_with fail
        refine (isScheme_any sc _ (by omega) true hsc).mono ?_
        rintro e w1 ⟨rfl, rfl⟩
        clear hsc
        go_wp2_with fail
        refine (aslash_any re _).mono ?_
        rintro e w1 ⟨r, q, rfl, h5, h6, z7, rfl⟩
        cases q
        · have HE : Box (readA s.data.toList = some (AV.ab ⟨sc, false, ⟨#[]⟩, re, hQ, qu, hF, fr⟩)) := ⟨readA_parts H0.out H1.out H2.out H3.out sc (.inl ⟨rfl, HS.out, rfl, rfl⟩) false ⟨#[]⟩ re h5 (.inl ⟨rfl, rfl, rfl⟩)⟩
          have HZ : Box (AV.Small ⟨sc, false, ⟨#[]⟩, re, hQ, qu, hF, fr⟩ s.size) := ⟨av_small (by first | omega | exact Nat.zero_le _) (Nat.zero_le _) (by omega) (by omega) (by omega)⟩
          clear h5 h6 H0 H1 H2 H3
          have hfz := two_frozen w
          have hcl := two_cell w
          have hst := two_set w
          go_wp2
          refine bodyPost_ret (v := .tuple #[.agg #[.string sc, .bool false, .string ⟨#[]⟩, .string re, .bool hQ, .string qu, .bool hF, .string fr], .nilIface]) (by simp [results, Tryd.results48, go_sem, one_cell w]) rfl ⟨.inr ⟨_, HE.out, HZ.out, rfl⟩, ?_⟩
          repeat first | exact Below.refl _ _ | apply below_drewN | (refine Below.setCell ?_ (by simp) _) | (refine Below.alloc ?_ (by simp) _)
        · have H5 := Box.mk h5
          have H6 := Box.mk (h6 rfl)
          clear h5 h6
          go_wp2_with fail
          refine (authority_two r _ _ _).mono ?_
          rintro e w1 ⟨au, pa, rfl, h7, h8, z8, z9, rfl⟩
          have HE : Box (readA s.data.toList = some (AV.ab ⟨sc, true, au, pa, hQ, qu, hF, fr⟩)) := ⟨readA_parts H0.out H1.out H2.out H3.out sc (.inl ⟨rfl, HS.out, rfl, rfl⟩) true au pa H5.out (.inr ⟨rfl, by rw [h7, H6.out], by rw [h8, H6.out]⟩)⟩
          have HZ : Box (AV.Small ⟨sc, true, au, pa, hQ, qu, hF, fr⟩ s.size) := ⟨av_small (by first | omega | exact Nat.zero_le _) (by omega) (by omega) (by omega) (by omega)⟩
          clear h7 h8 H0 H1 H2 H3 H5 H6
          have hfz := two_frozen w
          have hcl := two_cell w
          have hst := two_set w
          go_wp2
          refine bodyPost_ret (v := .tuple #[.agg #[.string sc, .bool true, .string au, .string pa, .bool hQ, .string qu, .bool hF, .string fr], .nilIface]) (by simp [results, Tryd.results48, go_sem, one_cell w]) rfl ⟨.inr ⟨_, HE.out, HZ.out, rfl⟩, ?_⟩
          repeat first | exact Below.refl _ _ | apply below_drewN | (refine Below.setCell ?_ (by simp) _) | (refine Below.alloc ?_ (by simp) _)

end Go.Proofs.YtpdfghmfhljfiaaDoor
