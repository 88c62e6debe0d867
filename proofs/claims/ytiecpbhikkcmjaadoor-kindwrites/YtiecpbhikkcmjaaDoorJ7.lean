import Derived.Test.YtiecpbhikkcmjaaDoorJ6
namespace Go.Proofs.YtiecpbhikkcmjaaDoor
open Go.RowKit

theorem params_nil (k : Nat) : paramsF k [] = some [] := by
  cases k <;> simp [paramsF]
theorem params_bad (k : Nat) (l : List UInt8) (h0 : l ≠ []) (h : l.head? ≠ some 59) : paramsF k l = none := by
  cases k with
  | zero => unfold paramsF; rw [if_neg h0]
  | succ k => unfold paramsF; rw [if_neg h0, if_neg h]
theorem params_none (k : Nat) (r : List UInt8) (h : oneP r = none) : paramsF k (59 :: r) = none := by
  cases k with
  | zero => unfold paramsF; rw [if_neg (by simp)]
  | succ k =>
    unfold paramsF
    rw [if_neg (by simp), List.head?_cons, if_pos rfl, List.drop_succ_cons, List.drop_zero, h]; rfl
theorem params_step (k : Nat) (r : List UInt8) (p : PB) (u : List UInt8) (h : oneP r = some (p, u)) : paramsF (k + 1) (59 :: r) = (paramsF k u).map fun x => p :: x := by
  conv => lhs; unfold paramsF
  rw [if_neg (by simp), List.head?_cons, if_pos rfl, List.drop_succ_cons, List.drop_zero, h]; rfl

def RPost (O : Option (List UInt8 × List PB)) (n B : Nat) (e : Ending) (w' : World) : Prop :=
  match O with
  | some q => ∃ (m : ByteArray) (v : Value) (L : List Fl), e = .returned (.tuple #[.string m, v, .nilIface]) ∧ m.data.toList = q.1 ∧ OwnQ w' B v L ∧ L.map pb2 = q.2 ∧ m.size ≤ n ∧ L.length ≤ n ∧ ∀ f ∈ L, f.1.size ≤ n ∧ f.2.size ≤ n
  | none => e = .returned (.tuple #[.string ⟨#[]⟩, .slice none 0 0, .iface 32 (.int .i64 3)])
theorem RPost_none {O : Option (List UInt8 × List PB)} {n B : Nat} {e : Ending} {w' : World} (hO : O = none) (he : e = .returned (.tuple #[.string ⟨#[]⟩, .slice none 0 0, .iface 32 (.int .i64 3)])) : RPost O n B e w' := by
  subst hO
  exact he

set_option maxHeartbeats 4000000 in
set_option maxRecDepth 100000 in
theorem kread_any (s : ByteArray) (w : World) (hs : s.size ≤ 100000) (hm : Max w) :
    Calls Tryd.prog 36 #[.string s] w fun e w' => RPost (readK s.data.toList) s.size w.heap.size e w' ∧ Below w.heap.size w w' := by
  obtain ⟨O, HO⟩ : ∃ O, Box (O = readK s.data.toList) := ⟨_, ⟨rfl⟩⟩
  rw [← HO.out]
  have HMx := Box.mk hm
  have hw0 := hm.1
  clear hm
  go_enter Tryd.func36, Tryd.ntmps36
  go_wp2_with fail
  refine (cut_any s ⟨#[59]⟩ _ hs HMx.out).mono ?_
  rintro e w1 ⟨a, r0, f, rfl, hc, hal, hrl, hb1⟩
  have hc' := cut_while s.data.toList 59
  rw [show (⟨#[59]⟩ : ByteArray).data.toList = [59] from rfl, hc'] at hc
  simp only [Prod.mk.injEq] at hc
  obtain ⟨c1, c2, c3⟩ := hc
  have hrem : s.data.toList.dropWhile (· != 59) = if f then 59 :: r0.data.toList else [] := by
    rw [← c2, ← c3]
    rcases byte_while s.data.toList 59 with ⟨_, h2, _⟩ | ⟨_, r, h2⟩
    · rw [h2]; rfl
    · rw [h2]; rfl
  have hfr : f = true → r0.size + 1 ≤ s.size := by
    intro hf
    have h1 := List.takeWhile_append_dropWhile (p := (· != 59)) (l := s.data.toList)
    have h2 := congrArg List.length h1
    rw [List.length_append, hrem, hf, size_list] at h2
    simp only [if_true, List.length_cons, size_list] at h2
    omega
  clear hc' c2 c3
  go_wp2_with fail
  refine (hTrim_any a _ (by omega)).mono ?_
  rintro e w2 ⟨b, rfl, hb, hb2⟩
  have hbl := trimS_len a.data.toList
  rw [← hb, size_list, size_list] at hbl
  go_wp2_with fail
  refine (small_str b _ (by omega)).mono ?_
  rintro e w3 ⟨m, rfl, hmn, hb3⟩
  have hml : m.size = b.size := by rw [← size_list, hmn]; simp [smallS]
  have hb13 := (hb1.trans (hb2.mono hb1.size)).trans (hb3.mono (hb1.trans (hb2.mono hb1.size)).size)
  clear hb1 hb2 hb3
  have hsz3 := hb13.size
  go_wp2_with fail
  refine (kmain_any m _ (by omega) (HMx.out.below hb13 hw0)).mono ?_
  rintro e w4 ⟨rfl, hb4⟩
  have b4 := hb13.trans (hb4.mono hsz3)
  clear hb13 hb4 hsz3
  have hsz4 := b4.size
  have HE : Box (O = if isMainS m.data.toList then (paramsF s.size (if f then 59 :: r0.data.toList else [])).map (fun k => (m.data.toList, k)) else none) := ⟨by
    rw [HO.out, readK, ← hrem, size_list, c1, ← hb, ← hmn]⟩
  clear HO hb hmn c1 hrem
  cases him : isMainS m.data.toList
  · have HN : Box (O = none) := ⟨by rw [HE.out, him]; rfl⟩
    clear HE him
    go_wp2
    go_ret3
    exact ⟨RPost_none HN.out rfl, b4⟩
  · have HE' : Box (O = (paramsF s.size (if f then 59 :: r0.data.toList else [])).map (fun k => (m.data.toList, k))) := ⟨by rw [HE.out, him]; rfl⟩
    clear HE him
    go_wp2
    go_loopg [6, 7, 9] (s.size + 1) (fun gf x y v wr => ∃ (r : ByteArray) (g : Bool) (acc : List Fl) (k : Nat), x = .string r ∧ y = .bool g ∧ OwnQ wr w.heap.size v acc ∧ Below w.heap.size w wr ∧ (g = true → r.size + 1 ≤ gf ∧ r.size + 1 ≤ k ∧ r.size + 1 + acc.length ≤ s.size) ∧ acc.length ≤ s.size ∧ r.size ≤ s.size ∧ Box (∀ f ∈ acc, f.1.size ≤ s.size ∧ f.2.size ≤ s.size) ∧ Box (O = (paramsF k (if g then 59 :: r.data.toList else [])).map (fun x => (m.data.toList, acc.map pb2 ++ x))))
    case atStart => exact ⟨r0, f, [], s.size, rfl, rfl, OwnQ.nil _ _, b4, fun h => ⟨by have := hfr h; omega, hfr h, hfr h⟩, Nat.zero_le _, hrl, ⟨fun f hf => absurd hf (by simp)⟩, ⟨by rw [HE'.out]; simp⟩⟩
    case round =>
      obtain ⟨r, g, acc, k, rfl, rfl, hown, hbw, hbd, hacl, hrs, HA, HR⟩ := hrel
      have hsz := hbw.size
      cases g
      · have HF : Box (O = some (m.data.toList, acc.map pb2)) := ⟨by rw [HR.out]; simp [params_nil]⟩
        clear HR HE'
        go_wp2
        go_ret3
        refine ⟨?_, hbw⟩
        rw [HF.out]
        exact ⟨m, _, acc, rfl, rfl, hown, rfl, by omega, hacl, HA.out⟩
      · obtain ⟨d1, d2, d3⟩ := hbd rfl
        have HR' : Box (O = (paramsF k (59 :: r.data.toList)).map (fun x => (m.data.toList, acc.map pb2 ++ x))) := ⟨by rw [HR.out]; simp⟩
        clear HR HE' hbd
        obtain ⟨k', hk⟩ : ∃ k', k = k' + 1 := ⟨k - 1, by omega⟩
        go_wp2_with fail
        refine (kparam_any r _ (by omega)).mono ?_
        rintro e w5 ⟨hp, hb5⟩
        have b5 := hbw.trans (hb5.mono hsz)
        have hown5 := hown.below hb5 (Nat.le_refl _)
        have hsz5 := b5.size
        clear hown hb5
        cases hone : oneP r.data.toList with
        | none =>
          rw [hone] at hp
          obtain ⟨n1, v1, u1, rfl⟩ := hp
          have HN : Box (O = none) := ⟨by rw [HR'.out, params_none _ _ hone]; rfl⟩
          clear HR' hone
          go_wp2
          go_ret3
          exact ⟨RPost_none HN.out rfl, b5.alloc hsz5 _⟩
        | some q =>
          obtain ⟨p, u⟩ := q
          rw [hone] at hp
          obtain ⟨n1, v1, u1, rfl, hpq, hu⟩ := hp
          simp only at hpq hu
          have hlen := one_len _ _ _ hone
          rw [← hpq, ← hu, size_list] at hlen
          simp only [size_list] at hlen
          have HR2 : Box (O = (paramsF k' u1.data.toList).map (fun x => (m.data.toList, acc.map pb2 ++ ([pb2 (n1, v1)] ++ x)))) := ⟨by
            rw [HR'.out, hk, params_step _ _ _ _ hone, ← hu, ← hpq, Option.map_map]
            rfl⟩
          have HA2 : Box (∀ f ∈ acc ++ [(n1, v1)], f.1.size ≤ s.size ∧ f.2.size ≤ s.size) := ⟨fun f hf => by
            rcases List.mem_append.1 hf with h | h
            · exact HA.out f h
            · rw [List.mem_singleton.1 h]
              simp only
              omega⟩
          clear HR' hone hpq hu HA
          go_wp2_with (at_builtin; refine wp_appQ ((w5.alloc (.cells #[.string n1, .string v1] 67)).alloc (.cells #[.string n1, .string v1] 67)) w rfl (.tmp 36) (.tmp 38) rfl w.heap.size _ acc rfl (World.ownsRow.alloc (World.ownsRow.alloc hown5 _) _) (w5.heap.size + 1) 1 (n1, v1) rfl (by simp) (by simp) (by omega) (by simp; omega) ((b5.alloc hsz5 _).alloc (by simp; omega) _) ?_; intro v6 w6 hown6 hb6)
          refine (cutp_any u1 59 _).mono ?_
          rintro e w7 ⟨t, q, rfl, hq, rfl⟩
          rcases hq with ⟨rfl, hq⟩ | ⟨rfl, hq, rfl⟩
          · have hts : t.size + 1 = u1.size := by
              have := congrArg List.length hq
              rw [List.length_cons, size_list, size_list] at this
              omega
            have HR3 : Box (O = (paramsF k' (if true then 59 :: t.data.toList else [])).map (fun x => (m.data.toList, (acc ++ [(n1, v1)]).map pb2 ++ x))) := ⟨by
              rw [HR2.out, hq]
              simp⟩
            clear HR2 hq
            go_wp2
            go_roundg (t.size + 1)
            case measure => omega
            case rel => exact ⟨t, true, _, k', rfl, rfl, hown6, hb6, fun _ => ⟨Nat.le_refl _, by omega, by rw [List.length_append]; simp; omega⟩, by rw [List.length_append]; simp; omega, by omega, HA2, HR3⟩
          · by_cases ht0 : t.size = 0
            · have he := empty_of t ht0
              have HR3 : Box (O = (paramsF k' (if false then 59 :: t.data.toList else [])).map (fun x => (m.data.toList, (acc ++ [(n1, v1)]).map pb2 ++ x))) := ⟨by
                rw [HR2.out, data_nil t ht0]
                simp⟩
              clear HR2 hq ht0
              go_wp2
              go_roundg 0
              case measure => omega
              case rel => exact ⟨t, false, _, k', rfl, rfl, hown6, hb6, fun h => (by cases h), by rw [List.length_append]; simp; omega, by omega, HA2, HR3⟩
            · have he := nonempty_of t ht0
              have HN : Box (O = none) := ⟨by
                rw [HR2.out, params_bad _ _ (fun h => ht0 (by rw [← size_list, h]; rfl)) hq]; rfl⟩
              clear HR2 hq ht0
              go_wp2
              go_ret3
              exact ⟨RPost_none HN.out rfl, hb6⟩

end Go.Proofs.YtiecpbhikkcmjaaDoor
