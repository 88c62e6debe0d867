import Derived.Test.YtiecpbhikkcmjaaDoorJ9
import Derived.Test.YtiecpbhikkcmjaaDoorJG
namespace Go.Proofs.YtiecpbhikkcmjaaDoor
open Go.RowKit

theorem pb2_inj : ∀ {L M : List Fl}, L.map pb2 = M.map pb2 → L = M
  | [], [], _ => rfl
  | [], _ :: _, h => by simp at h
  | _ :: _, [], h => by simp at h
  | f :: L, g :: M, h => by
    simp only [List.map_cons, List.cons.injEq] at h
    have e : f = g := by
      have h1 : f.1 = g.1 := bytes_eq (congrArg Prod.fst h.1)
      have h2 : f.2 = g.2 := bytes_eq (congrArg Prod.snd h.1)
      cases f; cases g; simp_all
    rw [e, pb2_inj h.2]

theorem rkind_any (s : ByteArray) (w : World) (hs : s.size ≤ 100000) (hm : Max w) :
    Calls Tryd.prog 35 #[.string s] w fun e w' => RKPost (readK s.data.toList) s.size w.heap.size e w' ∧ Below w.heap.size w w' := by
  rcases byte_while s.data.toList 59 with ⟨h1, h2, h3⟩ | ⟨h1, r, h2⟩
  · exact rkind_short s w hs hm h1 h2 h3
  · exact rkind_long s w hs hm _ rfl h1 r h2

theorem tiny_nil : Tiny [] := ⟨Nat.zero_le _, fun f hf => absurd hf (by simp)⟩

/-- Both answers at one text: the same, whatever world the second begins in. -/
theorem kread_pair (s : ByteArray) (w : World) (hs : s.size ≤ 100000) (hm : Max w) :
    Calls Tryd.prog 35 #[.string s] w fun e w1 => ∃ (m : ByteArray) (v : Value) (L : List Fl) (z : Int), e = .returned (.tuple #[.string m, v, .int .i64 z]) ∧ Below w.heap.size w w1 ∧ FL w1 v L ∧ Tiny L ∧
      ∀ w2, Max w2 → Calls Tryd.prog 36 #[.string s] w2 fun e w3 => ∃ (v2 E : Value), e = .returned (.tuple #[.string m, v2, E]) ∧ Below w2.heap.size w2 w3 ∧ FL w3 v2 L ∧
        ∀ w4, ErrT w4 → Calls Tryd.prog 39 #[E, .int .i64 z] w4 fun e w5 => e = .returned (.bool true) ∧ Below w4.heap.size w4 w5 := by
  refine (rkind_any s w hs hm).mono ?_
  rintro e w1 ⟨hp, hb1⟩
  cases hO : readK s.data.toList with
  | none =>
    rw [hO] at hp
    refine ⟨_, _, [], 3, hp, hb1, FL.nil _, tiny_nil, fun w2 hm2 => (kread_any s w2 hs hm2).mono ?_⟩
    rintro e w3 ⟨hp3, hb3⟩
    rw [hO] at hp3
    exact ⟨_, _, hp3, hb3, FL.nil _, fun w4 hE => bare_errno 3 w4 hE⟩
  | some q =>
    rw [hO] at hp
    obtain ⟨m, v, L, rfl, hmq, hown, hL, h1, h2, h3⟩ := hp
    refine ⟨m, v, L, 0, rfl, hb1, hown.fl, ⟨by omega, fun f hf => ⟨by have := (h3 f hf).1; omega, by have := (h3 f hf).2; omega⟩⟩, fun w2 hm2 => (kread_any s w2 hs hm2).mono ?_⟩
    rintro e w3 ⟨hp3, hb3⟩
    rw [hO] at hp3
    obtain ⟨m2, v2, L2, rfl, hmq2, hown2, hL2, _⟩ := hp3
    obtain rfl : m = m2 := bytes_eq (hmq.trans hmq2.symm)
    obtain rfl : L = L2 := pb2_inj (hL.trans hL2.symm)
    exact ⟨v2, _, rfl, hb3, hown2.fl, fun w4 _ => bare_nil w4⟩

theorem getV_two (o : Option Fl) : ∃ (S : ByteArray) (q : Bool), getV o = .tuple #[.string S, .bool q] := by
  cases o with
  | none => exact ⟨_, _, rfl⟩
  | some f => exact ⟨_, _, rfl⟩

set_option maxHeartbeats 400000 in
theorem kreads_big (s t : ByteArray) (w : World) (h : (500 : Int) < (s.size : Int) ∨ (¬ (500 : Int) < (s.size : Int) ∧ (100 : Int) < (t.size : Int))) :
    Calls Tryd.prog 7 #[.string s, .string t] w fun e w' => e = .returned (.bool true) ∧ Below w.heap.size w w' := by
  rcases h with h1 | ⟨h1, h2⟩
  all_goals
    go_enter Tryd.func7, Tryd.ntmps7
    go_wp2
    go_ret
    exact ⟨rfl, Below.refl _ _⟩

set_option maxHeartbeats 4000000 in
set_option maxRecDepth 100000 in
theorem kreads_small (s t : ByteArray) (w : World) (h1 : ¬ (500 : Int) < (s.size : Int)) (h2 : ¬ (100 : Int) < (t.size : Int)) (hm : Max w) (hE : ErrT w) :
    Calls Tryd.prog 7 #[.string s, .string t] w fun e w' => e = .returned (.bool true) ∧ Below w.heap.size w w' := by
  have HMx := Box.mk hm
  have HEr := Box.mk hE
  have hw0 := hm.1
  have hEl := hE.lt
  clear hm hE
  go_enter Tryd.func7, Tryd.ntmps7
  go_wp2_with fail
  refine (kread_pair s w (by omega) HMx.out).mono ?_
  rintro e w1 ⟨m, v, L, z, rfl, hb1, hFl, hT, hk⟩
  have HK := Box.mk hk
  have HFl := Box.mk hFl
  have HT := Box.mk hT
  have hsz1 := hb1.size
  obtain ⟨A, cap, rfl, hcap, _⟩ := hFl
  clear hk hT
  go_wp2_with fail
  refine (HK.out w1 (HMx.out.below hb1 hw0)).mono ?_
  rintro e w2 ⟨v2, E, rfl, hb2, hF2, hk⟩
  have HK2 := Box.mk hk
  have HF2 := Box.mk hF2
  have b2 := hb1.trans (hb2.mono hsz1)
  have HFl2 := Box.mk (HFl.out.below hb2 (Nat.le_refl _))
  clear hk HK hF2
  go_wp2_with fail
  refine (rget_any _ L t w2 HT.out HFl2.out).mono ?_
  rintro e w3 ⟨rfl, hb3⟩
  have b3 := b2.trans (hb3.mono b2.size)
  have HFl3 := Box.mk (HFl2.out.below hb3 (Nat.le_refl _))
  have HF3 := Box.mk (HF2.out.below hb3 (Nat.le_refl _))
  obtain ⟨S, q, hg⟩ := getV_two (getP L t.data.toList)
  rw [hg]
  go_wp2_with fail
  refine (kget_any _ L t w3 HT.out HFl3.out).mono ?_
  rintro e w4 ⟨he, hb4⟩
  rw [hg] at he
  subst he
  have b4 := b3.trans (hb4.mono b3.size)
  have HFl4 := Box.mk (HFl3.out.below hb4 (Nat.le_refl _))
  have HF4 := Box.mk (HF3.out.below hb4 (Nat.le_refl _))
  clear hg
  go_wp2_with fail
  refine (HK2.out w4 (HEr.out.below b4 hEl)).mono ?_
  rintro e w5 ⟨rfl, hb5⟩
  have b5 := b4.trans (hb5.mono b4.size)
  have HFl5 := Box.mk (HFl4.out.below hb5 (Nat.le_refl _))
  have HF5 := Box.mk (HF4.out.below hb5 (Nat.le_refl _))
  have hmm : (m.toList == m.toList) = true := by simp
  have hSS : (S.toList == S.toList) = true := by simp
  obtain ⟨A2, cap2, rfl, hcap2, _⟩ := HF2.out
  clear HFl HFl2 HFl3 HFl4 HF2 HF3 HF4 HK2
  go_wp2_with fail
  refine (sameParams_any _ _ L w5 HT.out HF5.out HFl5.out).mono ?_
  rintro e w6 ⟨rfl, hb6⟩
  have b6 := b5.trans (hb6.mono b5.size)
  go_wp2
  go_ret
  exact ⟨rfl, b6⟩

end Go.Proofs.YtiecpbhikkcmjaaDoor
