import Derived.Test.YtpdfghmfhljfiaaDoorA9
import Derived.Laws.StructEq
namespace Go.Proofs.YtpdfghmfhljfiaaDoor
open Go.RowKit

/- Addresses as values: each function by one answer. -/
def writeB (a : AV) : ByteArray := ⟨(writeA a.ab).toArray⟩
theorem writeB_list (a : AV) : (writeB a).data.toList = writeA a.ab := by simp [writeB]
theorem writeA_length (a : AB) : (writeA a).length ≤ a.sch.length + a.auth.length + a.path.length + a.query.length + a.frag.length + 5 := by
  unfold writeA
  simp only [List.length_append]
  split <;> split <;> split <;> split <;> simp only [List.length_append, List.length_cons, List.length_nil] <;> omega
theorem writeB_size (a : AV) (n : Nat) (h : a.Small n) : (writeB a).size ≤ 5 * n + 5 := by
  have h1 := writeA_length a.ab
  have e : ∀ b : ByteArray, b.data.toList.length = b.size := size_list
  rw [← size_list, writeB_list]
  simp only [AV.ab, e] at h1
  obtain ⟨h2, h3, h4, h5, h6⟩ := h
  simp only [AV.ab]
  omega
theorem awrite_any (a : AV) (w : World) (h : a.Small 1000000) : Calls Tryd.prog 52 #[a.val] w fun e w' => e = .returned (.string (writeB a)) ∧ Below w.heap.size w w' := by
  refine (awrite_raw a.sc a.au a.pa a.qu a.fr a.hA a.hQ a.hF w h.sc h.au h.pa h.qu h.fr).mono ?_
  rintro e w' ⟨S, rfl, hS, hb⟩
  exact ⟨ret_str (bytes_eq (hS.trans (writeB_list a).symm)), hb⟩
def wholeV (a : AV) : AV := ⟨smallB a.sc, a.hA, smallB a.au, a.pa, a.hQ, a.qu, false, ⟨#[]⟩⟩
theorem wholeV_ab (a : AV) : (wholeV a).ab = wholeA a.ab := by simp [wholeV, AV.ab, wholeA, smallB_list]
theorem awhole_any (a : AV) (w : World) (h : a.Small 1000000) : Calls Tryd.prog 53 #[a.val] w fun e w' => e = .returned (wholeV a).val ∧ Below w.heap.size w w' :=
  awhole_raw a.sc a.au a.pa a.qu a.fr a.hA a.hQ a.hF w h.sc h.au
theorem smallB_size (s : ByteArray) : (smallB s).size = s.size := by rw [← size_list, smallB_list, smallS, List.length_map, size_list]
theorem wholeV_small {a : AV} {n : Nat} (h : a.Small n) : (wholeV a).Small n := ⟨by show (smallB a.sc).size ≤ n; rw [smallB_size]; exact h.sc, by show (smallB a.au).size ≤ n; rw [smallB_size]; exact h.au, h.pa, h.qu, Nat.zero_le _⟩

/-- Where an address leads. -/
def resV (b a : AV) : AV := AV.of (resA b.ab a.ab)
theorem resV_ab (b a : AV) : (resV b a).ab = resA b.ab a.ab := ab_of _
theorem resV_is {b a v : AV} (h : v.ab = resA b.ab a.ab) : v = resV b a := ab_inj (h.trans (resV_ab b a).symm)
theorem resV_small {b a : AV} {n : Nat} (hb : b.Small n) (ha : a.Small n) : (resV b a).Small (2 * n + 1) := by
  have e : ∀ x : ByteArray, x.data.toList.length = x.size := size_list
  have key : ∀ x : AV, x.ab = resA b.ab a.ab → x.Small (2 * n + 1) := by
    intro x hx
    obtain ⟨b0, b1, b2, b3, b4⟩ := hb
    obtain ⟨a0, a1, a2, a3, a4⟩ := ha
    have hd : ∀ p : List UInt8, p.length ≤ 2 * n + 1 → (dotsS p).length ≤ 2 * n + 1 := fun p hp => Nat.le_trans (dotsS_length p) hp
    have hdir : (dirA b.ab).length ≤ n + 1 := by
      unfold dirA
      split
      · simp
      · have : (dirS b.ab.path).length ≤ b.ab.path.length := by
          unfold dirS
          rw [List.length_reverse]
          exact Nat.le_trans (List.dropWhile_suffix _).length_le (by simp)
        have hp : b.ab.path.length = b.pa.size := e _
        omega
    have l0 : a.ab.sch.length = a.sc.size := e _
    have l1 : a.ab.auth.length = a.au.size := e _
    have l2 : a.ab.path.length = a.pa.size := e _
    have l3 : a.ab.query.length = a.qu.size := e _
    have l4 : a.ab.frag.length = a.fr.size := e _
    have m0 : b.ab.sch.length = b.sc.size := e _
    have m1 : b.ab.auth.length = b.au.size := e _
    have m2 : b.ab.path.length = b.pa.size := e _
    have m3 : b.ab.query.length = b.qu.size := e _
    have hk : (resA b.ab a.ab).sch.length ≤ 2 * n + 1 ∧ (resA b.ab a.ab).auth.length ≤ 2 * n + 1 ∧ (resA b.ab a.ab).path.length ≤ 2 * n + 1 ∧ (resA b.ab a.ab).query.length ≤ 2 * n + 1 ∧ (resA b.ab a.ab).frag.length ≤ 2 * n + 1 := by
      unfold resA
      split
      · refine ⟨?_, by simp only; omega, hd _ (by omega), by simp only; omega, by simp only; omega⟩
        simp only
        split <;> omega
      · split
        · split
          · exact ⟨by simp only; omega, by simp only; omega, by simp only; omega, by simp only; omega, by simp only; omega⟩
          · exact ⟨by simp only; omega, by simp only; omega, by simp only; omega, by simp only; omega, by simp only; omega⟩
        · refine ⟨by simp only; omega, by simp only; omega, hd _ ?_, by simp only; omega, by simp only; omega⟩
          split
          · omega
          · rw [List.length_append]; omega
    rw [← hx] at hk
    obtain ⟨k0, k1, k2, k3, k4⟩ := hk
    exact ⟨by rw [← e]; exact k0, by rw [← e]; exact k1, by rw [← e]; exact k2, by rw [← e]; exact k3, by rw [← e]; exact k4⟩
  exact key _ (resV_ab b a)
theorem nil_iff (s : ByteArray) : s.data.toList = [] ↔ s.size = 0 := ⟨fun h => by rw [← size_list, h]; rfl, data_nil s⟩

theorem ares_any (b a : AV) (w : World) (hb : b.pa.size ≤ 400000) (ha : a.pa.size ≤ 400000) (hm : Max w) : Calls Tryd.prog 49 #[b.val, a.val] w fun e w' => e = .returned (resV b a).val ∧ Below w.heap.size w w' := by
  obtain ⟨sc0, hA0, au0, pa0, hQ0, qu0, hF0, fr0⟩ := b
  obtain ⟨sc, hA, au, pa, hQ, qu, hF, fr⟩ := a
  by_cases h0 : sc.size = 0
  · have n0 := (nil_iff sc).2 h0
    cases hA
    · by_cases h1 : pa.size = 0
      · have n1 := (nil_iff pa).2 h1
        cases hQ
        · refine (ares_same sc0 au0 pa0 qu0 fr0 sc au pa qu fr hA0 hQ0 hF0 hF w h0 h1).mono ?_
          rintro e w' ⟨rfl, hbw⟩
          refine ⟨?_, hbw⟩
          rw [← resV_is (v := ⟨sc0, hA0, au0, pa0, hQ0, qu0, hF, fr⟩) (by simp [resA, AV.ab, n0, n1])]
        · refine (ares_query sc0 au0 pa0 qu0 fr0 sc au pa qu fr hA0 hQ0 hF0 hF w h0 h1).mono ?_
          rintro e w' ⟨rfl, hbw⟩
          refine ⟨?_, hbw⟩
          rw [← resV_is (v := ⟨sc0, hA0, au0, pa0, true, qu, hF, fr⟩) (by simp [resA, AV.ab, n0, n1])]
      · have n1 : ¬ pa.data.toList = [] := fun h => h1 ((nil_iff pa).1 h)
        refine (ares_path sc0 au0 pa0 qu0 fr0 sc au pa qu fr hA0 hQ0 hF0 hQ hF w hb ha hm h0 h1).mono ?_
        rintro e w' ⟨⟨S, rfl, hS⟩, hbw⟩
        refine ⟨?_, hbw⟩
        rw [← resV_is (v := ⟨sc0, hA0, au0, S, hQ, qu, hF, fr⟩) (by simp [resA, AV.ab, n0, n1, hS, besideA])]
    · refine (ares_auth sc0 au0 pa0 qu0 fr0 sc au pa qu fr hA0 hQ0 hF0 hQ hF w (Nat.le_trans ha (by omega)) hm h0).mono ?_
      rintro e w' ⟨⟨S, rfl, hS⟩, hbw⟩
      refine ⟨?_, hbw⟩
      rw [← resV_is (v := ⟨sc0, true, au, S, hQ, qu, hF, fr⟩) (by simp [resA, AV.ab, n0, hS])]
  · have n0 : ¬ sc.data.toList = [] := fun h => h0 ((nil_iff sc).1 h)
    refine (ares_scheme sc0 au0 pa0 qu0 fr0 sc au pa qu fr hA0 hQ0 hF0 hA hQ hF w (Nat.le_trans ha (by omega)) hm h0).mono ?_
    rintro e w' ⟨⟨S, rfl, hS⟩, hbw⟩
    refine ⟨?_, hbw⟩
    rw [← resV_is (v := ⟨sc, hA, au, S, hQ, qu, hF, fr⟩) (by simp [resA, AV.ab, n0, hS])]

/-- What Read tells, in one form: an address and an error. -/
def readV (l : List UInt8) : AV := match readA l with | some a => AV.of a | none => avZero
def errV (l : List UInt8) : Value := match readA l with | some _ => .nilIface | none => .iface 32 (.int .i64 3)
theorem readV_some {l : List UInt8} {v : AV} (h : readA l = some v.ab) : readV l = v ∧ errV l = .nilIface := by
  unfold readV errV
  rw [h]
  exact ⟨of_ab v, rfl⟩
theorem readV_none {l : List UInt8} (h : readA l = none) : readV l = avZero ∧ errV l = .iface 32 (.int .i64 3) := by
  unfold readV errV
  rw [h]
  exact ⟨rfl, rfl⟩
theorem aread_is (s : ByteArray) (w : World) (hs : s.size ≤ 1000000) (hm : Max w) : Calls Tryd.prog 48 #[.string s] w fun e w' => e = .returned (.tuple #[(readV s.data.toList).val, errV s.data.toList]) ∧ (readV s.data.toList).Small s.size ∧ Below w.heap.size w w' := by
  refine (aread_any s w hs hm).mono ?_
  rintro e w' ⟨⟨h, rfl⟩ | ⟨v, h, hz, rfl⟩, hb⟩
  · obtain ⟨h1, h2⟩ := readV_none h
    rw [h1, h2]
    exact ⟨rfl, av_small (Nat.zero_le _) (Nat.zero_le _) (Nat.zero_le _) (Nat.zero_le _) (Nat.zero_le _), hb⟩
  · obtain ⟨h1, h2⟩ := readV_some h
    rw [h1, h2]
    exact ⟨rfl, hz, hb⟩

/- Two addresses held against each other. -/
theorem eq8_run (a b : AV) (q : Bool) (hq : q = true ↔ a = b) (w : World) : (Op.equalIn 10000 73 a.val b.val).run Tryd.prog w = .ok q w := by
  have e : ∀ x y : ByteArray, x.toList = y.toList → x = y := fun x y h => bytes_eq (by rw [← ByteArray.toList_eq, ← ByteArray.toList_eq]; exact h)
  have hx : q = decide (a.sc.toList = b.sc.toList ∧ a.hA = b.hA ∧ a.au.toList = b.au.toList ∧ a.pa.toList = b.pa.toList ∧ a.hQ = b.hQ ∧ a.qu.toList = b.qu.toList ∧ a.hF = b.hF ∧ a.fr.toList = b.fr.toList) := by
    rw [Bool.eq_iff_iff, hq, decide_eq_true_eq]
    constructor
    · rintro rfl
      exact ⟨rfl, rfl, rfl, rfl, rfl, rfl, rfl, rfl⟩
    · rintro ⟨h0, h1, h2, h3, h4, h5, h6, h7⟩
      obtain ⟨a0, a1, a2, a3, a4, a5, a6, a7⟩ := a
      obtain ⟨b0, b1, b2, b3, b4, b5, b6, b7⟩ := b
      rw [e a0 b0 h0, e a2 b2 h2, e a3 b3 h3, e a5 b5 h5, e a7 b7 h7]
      simp only at h1 h4 h6
      rw [h1, h4, h6]
  subst hx
  simp [go_sem]
  by_cases h0 : a.sc.toList = b.sc.toList
  · by_cases h1 : a.hA = b.hA
    · by_cases h2 : a.au.toList = b.au.toList
      · by_cases h3 : a.pa.toList = b.pa.toList
        · by_cases h4 : a.hQ = b.hQ
          · by_cases h5 : a.qu.toList = b.qu.toList
            · by_cases h6 : a.hF = b.hF
              · by_cases h7 : a.fr.toList = b.fr.toList
                · simp [h0, h1, h2, h3, h4, h5, h6, h7]
                · simp [h0, h1, h2, h3, h4, h5, h6, h7]
              · simp [h0, h1, h2, h3, h4, h5, h6]
            · simp [h0, h1, h2, h3, h4, h5]
          · simp [h0, h1, h2, h3, h4]
        · simp [h0, h1, h2, h3]
      · simp [h0, h1, h2]
    · simp [h0, h1]
  · simp [h0]

theorem right_iff (a : AV) : readA (writeA a.ab) = some a.ab ↔ a = readV (writeA a.ab) := by
  cases h : readA (writeA a.ab) with
  | none =>
    obtain ⟨h1, _⟩ := readV_none h
    rw [h1]
    constructor
    · intro e; cases e
    · intro e
      rw [e] at h
      have : readA (writeA avZero.ab) = some avZero.ab := rfl
      rw [this] at h
      cases h
  | some b =>
    have h1 : readV (writeA a.ab) = AV.of b := by unfold readV; rw [h]
    rw [h1]
    constructor
    · intro e
      exact ab_inj (by rw [ab_of]; exact (Option.some.inj e).symm)
    · intro e
      rw [e, ab_of]

set_option maxHeartbeats 1000000 in
set_option maxRecDepth 100000 in
theorem right_raw (sc au pa qu fr : ByteArray) (hA hQ hF : Bool) (w : World) (hz : AV.Small ⟨sc, hA, au, pa, hQ, qu, hF, fr⟩ 100000) (hm : Max w) (q : Bool) (hq : q = true ↔ readA (writeA (AV.ab ⟨sc, hA, au, pa, hQ, qu, hF, fr⟩)) = some (AV.ab ⟨sc, hA, au, pa, hQ, qu, hF, fr⟩)) :
    Calls Tryd.prog 57 #[agg8 sc hA au pa hQ qu hF fr] w fun e w' => e = .returned (.bool q) ∧ Below w.heap.size w w' := by
  have HQ0 := Box.mk hq
  clear hq
  have hw0 := hm.1
  have HMx := Box.mk hm
  have HZ := Box.mk hz
  clear hm hz
  go_enter Tryd.func57, Tryd.ntmps57
  go_wp2_with fail
  refine (awrite_any ⟨sc, hA, au, pa, hQ, qu, hF, fr⟩ _ ⟨Nat.le_trans HZ.out.sc (by omega), Nat.le_trans HZ.out.au (by omega), Nat.le_trans HZ.out.pa (by omega), Nat.le_trans HZ.out.qu (by omega), Nat.le_trans HZ.out.fr (by omega)⟩).mono ?_
  rintro e w1 ⟨rfl, hb1⟩
  have b1 := ((Below.refl w.heap.size w).alloc (Nat.le_refl _) (obj8 sc hA au pa hQ qu hF fr)).trans (hb1.mono (by simp))
  obtain ⟨S, HS⟩ : ∃ S, Box (S = writeB ⟨sc, hA, au, pa, hQ, qu, hF, fr⟩) := ⟨_, ⟨rfl⟩⟩
  rw [← HS.out]
  have hSz : S.size ≤ 500005 := by rw [HS.out]; exact writeB_size _ 100000 HZ.out
  go_wp2_with fail
  refine (aread_is S _ (by omega) (HMx.out.below b1 hw0)).mono ?_
  rintro e w2 ⟨rfl, hv, hb2⟩
  have b2 := b1.trans (hb2.mono b1.size)
  obtain ⟨V, HV⟩ : ∃ V, Box (V = readV S.data.toList) := ⟨_, ⟨rfl⟩⟩
  obtain ⟨E, HE⟩ : ∃ E, Box (E = errV S.data.toList) := ⟨_, ⟨rfl⟩⟩
  rw [← HV.out, ← HE.out]
  obtain ⟨sc1, hA1, au1, pa1, hQ1, qu1, hF1, fr1⟩ := V
  have k1 : w2.heap[w.heap.size]? = some (obj8 sc hA au pa hQ qu hF fr) := ((hb1.trans (hb2.mono hb1.size)).block w.heap.size (by simp)).trans (by show (w.heap.push _)[w.heap.size]? = _; simp)
  obtain ⟨x0, x1, x2, x3, x4, x5, x6, x7, xf⟩ := blk_of k1
  have hlt : w.heap.size < w2.heap.size := (Array.getElem?_eq_some_iff.1 k1).1
  have heq := eq8_run ⟨sc, hA, au, pa, hQ, qu, hF, fr⟩ ⟨sc1, hA1, au1, pa1, hQ1, qu1, hF1, fr1⟩ q (by rw [HQ0.out, HV.out, HS.out, writeB_list]; exact right_iff _)
  clear HQ0
  clear hb1 hb2 hv b1 k1
  go_wp2
  go_ret
  exact ⟨rfl, b2.alloc (by omega) _⟩
theorem aright_any (a : AV) (w : World) (hz : a.Small 100000) (hm : Max w) (q : Bool) (hq : q = true ↔ readA (writeA a.ab) = some a.ab) : Calls Tryd.prog 57 #[a.val] w fun e w' => e = .returned (.bool q) ∧ Below w.heap.size w w' :=
  right_raw a.sc a.au a.pa a.qu a.fr a.hA a.hQ a.hF w hz hm q hq

end Go.Proofs.YtpdfghmfhljfiaaDoor
