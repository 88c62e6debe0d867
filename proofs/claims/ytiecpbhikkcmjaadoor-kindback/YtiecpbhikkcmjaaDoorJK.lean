import Derived.Test.YtiecpbhikkcmjaaDoorJB
namespace Go.Proofs.YtiecpbhikkcmjaaDoor
open Go.RowKit

def tot : List PB → Nat
  | [] => 0
  | p :: l => p.1.length + p.2.length + tot l
theorem paramW_tot (p : PB) : (paramW p).length ≤ 5 + 2 * (p.1.length + p.2.length) := by
  have := valW_len p.2
  unfold paramW
  simp only [List.length_append, List.length_cons, List.length_nil]
  omega
theorem writeK_tot (m : List UInt8) (l : List PB) : (writeK m l).length ≤ m.length + 5 * l.length + 2 * tot l := by
  unfold writeK
  rw [List.length_append]
  have : (l.flatMap paramW).length ≤ 5 * l.length + 2 * tot l := by
    induction l with
    | nil => exact Nat.le_refl _
    | cons p l ih =>
      have h1 := paramW_tot p
      rw [List.flatMap_cons, List.length_append, List.length_cons, tot]
      omega
  omega
theorem params_tot : ∀ (k : Nat) (l : List UInt8) (x : List PB), paramsF k l = some x → tot x + x.length ≤ l.length := by
  intro k
  induction k with
  | zero =>
    intro l x h
    unfold paramsF at h
    split at h
    · cases h; exact Nat.zero_le _
    · cases h
  | succ k ih =>
    intro l x h
    by_cases h0 : l = []
    · rw [h0, params_nil] at h
      cases h
      exact Nat.zero_le _
    · by_cases h1 : l.head? = some 59
      · cases l with
        | nil => exact absurd rfl h0
        | cons c r =>
          simp only [List.head?_cons, Option.some.injEq] at h1
          subst h1
          cases hq : oneP r with
          | none => rw [params_none _ _ hq] at h; cases h
          | some q =>
            obtain ⟨p, u⟩ := q
            rw [params_step _ _ _ _ hq] at h
            cases hx : paramsF k u with
            | none => rw [hx] at h; cases h
            | some y =>
              rw [hx] at h
              simp only [Option.map_some, Option.some.injEq] at h
              subst h
              have h2 := ih u y hx
              have h3 := one_len _ _ _ hq
              simp only [tot, List.length_cons]
              omega
      · rw [params_bad _ _ h0 h1] at h
        cases h
theorem read_tot (s m : List UInt8) (x : List PB) (h : readK s = some (m, x)) : m.length ≤ s.length ∧ tot x + x.length ≤ s.length := by
  unfold readK at h
  split at h
  · cases hp : paramsF s.length (s.dropWhile (· != 59)) with
    | none => rw [hp] at h; cases h
    | some y =>
      rw [hp] at h
      simp only [Option.map_some, Option.some.injEq, Prod.mk.injEq] at h
      obtain ⟨rfl, rfl⟩ := h
      have h1 := params_tot _ _ _ hp
      have h2 : (s.takeWhile (· != 59)).length + (s.dropWhile (· != 59)).length = s.length := by
        conv => rhs; rw [← List.takeWhile_append_dropWhile (p := (· != 59)) (l := s), List.length_append]
      have h3 := trimS_len (s.takeWhile (· != 59))
      have h4 : (smallS (trimS (s.takeWhile (· != 59)))).length = (trimS (s.takeWhile (· != 59))).length := by simp [smallS]
      omega
  · cases h
theorem tot_small (L : List Fl) (h : ∀ f ∈ L, f.1.size + f.2.size ≤ 200) : tot (L.map pb2) ≤ 200 * L.length := by
  induction L with
  | nil => exact Nat.le_refl _
  | cons f L ih =>
    have h1 := h f List.mem_cons_self
    have h2 := ih fun g hg => h g (List.mem_cons_of_mem _ hg)
    simp only [List.map_cons, tot, pb2, size_list, List.length_cons]
    omega

/-- A write that fails: an error of some kind. -/
theorem kw_cases {m : List UInt8} {L : List Fl} {e : Ending} {w : World} (h : KWPost m L e w) : (∃ ty x, e = .returned (.tuple #[.string ⟨#[]⟩, .iface ty x])) ∨ (goodM m = true ∧ L.all goodF = true ∧ ∃ t : ByteArray, e = .returned (.tuple #[.string t, .nilIface]) ∧ t.data.toList = writeK m (L.map pb2)) := by
  rcases h with ⟨_, rfl⟩ | ⟨_, _, E, rfl, b, rfl, _⟩ | h
  · exact .inl ⟨_, _, rfl⟩
  · exact .inl ⟨_, _, rfl⟩
  · exact .inr h
/-- Where all may be, a write does not fail. -/
theorem kw_good {m : List UInt8} {L : List Fl} {e : Ending} {w : World} (h : KWPost m L e w) (h1 : goodM m = true) (h2 : L.all goodF = true) : ∃ t : ByteArray, e = .returned (.tuple #[.string t, .nilIface]) ∧ t.data.toList = writeK m (L.map pb2) := by
  rcases h with ⟨h, _⟩ | ⟨_, h, _⟩ | ⟨_, _, h⟩
  · rw [h1] at h; cases h
  · rw [firstQ_all L h2] at h; omega
  · exact h

/-- What a text says: the answer, with its sizes, and that it may be written. -/
theorem kread_ok (s : ByteArray) (w : World) (hs : s.size ≤ 500) (hm : Max w) :
    Calls Tryd.prog 36 #[.string s] w fun e w' => ((∃ ty x, e = .returned (.tuple #[.string ⟨#[]⟩, .slice none 0 0, .iface ty x])) ∨ ∃ (m : ByteArray) (v : Value) (L : List Fl), e = .returned (.tuple #[.string m, v, .nilIface]) ∧ FL w' v L ∧ Mid L ∧ m.size ≤ 500 ∧ goodM m.data.toList = true ∧ L.all goodF = true ∧ (writeK m.data.toList (L.map pb2)).length ≤ 100000) ∧ Below w.heap.size w w' := by
  refine (kread_any s w (by omega) hm).mono ?_
  rintro e w' ⟨hp, hb⟩
  refine ⟨?_, hb⟩
  cases hO : readK s.data.toList with
  | none =>
    rw [hO] at hp
    exact .inl ⟨_, _, hp⟩
  | some q =>
    obtain ⟨qm, ql⟩ := q
    rw [hO] at hp
    obtain ⟨m, v, L, rfl, hmq, hown, hL, h1, h2, h3⟩ := hp
    simp only at hmq hL
    have hg := kind_good _ _ _ hO
    have ht := read_tot _ _ _ hO
    rw [← hmq, ← hL] at hg ht
    unfold goodK at hg
    simp only [Bool.and_eq_true] at hg
    have hw := writeK_tot m.data.toList (L.map pb2)
    rw [List.length_map] at hw ht
    rw [size_list] at hw
    rw [size_list, size_list] at ht
    exact .inr ⟨m, v, L, rfl, hown.fl, ⟨by omega, fun f hf => ⟨by have := (h3 f hf).1; omega, by have := (h3 f hf).2; omega⟩⟩, by omega, hg.1, good_all L hg.2, by omega⟩

set_option maxHeartbeats 400000 in
theorem kback_big (m : ByteArray) (v : Value) (L : List Fl) (s : ByteArray) (w : World) (hF : FL w v L) (h : (100 : Int) < (m.size : Int) ∨ (¬ (100 : Int) < (m.size : Int) ∧ (20 : Int) < (L.length : Int)) ∨ (¬ (100 : Int) < (m.size : Int) ∧ ¬ (20 : Int) < (L.length : Int) ∧ (500 : Int) < (s.size : Int))) :
    Calls Tryd.prog 9 #[.string m, v, .string s] w fun e w' => e = .returned (.bool true) ∧ Below w.heap.size w w' := by
  obtain ⟨A, cap, rfl, hcap, _⟩ := hF
  rcases h with h1 | ⟨h1, h2⟩ | ⟨h1, h2, h3⟩
  all_goals
    go_enter Tryd.func9, Tryd.ntmps9
    go_wp2
    go_ret
    exact ⟨rfl, Below.refl _ _⟩

theorem two_elems {w wr : World} {A B : Option Addr} {L : List Fl} (h1 : FLA w A L) (h2 : FLA w B L) (hT : Tiny L) (hb : Below w.heap.size w wr) (k : Nat) (hk : k < L.length) :
    ∃ b off b2 off2 n v, A = some ⟨b, off, none⟩ ∧ B = some ⟨b2, off2, none⟩ ∧ wr.cell? ⟨b, off + k * 2, none⟩ = some (.string n) ∧ wr.cell? ⟨b, off + k * 2 + 1, none⟩ = some (.string v) ∧ wr.cell? ⟨b2, off2 + k * 2, none⟩ = some (.string n) ∧ wr.cell? ⟨b2, off2 + k * 2 + 1, none⟩ = some (.string v) := by
  obtain ⟨b, off, n, v, rfl, HN, _, _, _, d0, d1⟩ := h1.elem hT hb k hk
  obtain ⟨b2, off2, n2, v2, rfl, HN2, _, _, _, d2, d3⟩ := h2.elem hT hb k hk
  have hnv : n = n2 ∧ v = v2 := by
    have := HN.out.symm.trans HN2.out
    simpa using this
  obtain ⟨rfl, rfl⟩ := hnv
  exact ⟨b, off, b2, off2, n, v, rfl, rfl, d0, d1, d2, d3⟩

set_option maxHeartbeats 16000000 in
set_option maxRecDepth 100000 in
theorem kback_small (m : ByteArray) (v : Value) (L : List Fl) (s : ByteArray) (w : World) (hF : FL w v L) (hB : ∀ f ∈ L, f.1.size ≤ 1000000000000000 ∧ f.2.size ≤ 1000000000000000) (h1 : ¬ (100 : Int) < (m.size : Int)) (h2 : ¬ (20 : Int) < (L.length : Int)) (h3 : ¬ (500 : Int) < (s.size : Int)) (hx : Max w) :
    Calls Tryd.prog 9 #[.string m, v, .string s] w fun e w' => e = .returned (.bool true) ∧ Below w.heap.size w w' := by
  obtain ⟨A, cap, rfl, hcap, hcells⟩ := hF
  have HC := Box.mk hcells
  have HB := Box.mk hB
  have HMx := Box.mk hx
  have hw0 := hx.1
  clear hcells hB hx
  go_enter Tryd.func9, Tryd.ntmps9
  go_wp2
  go_loopw [7] (fun i wr => ∃ k : Nat, k ≤ L.length ∧ i = .int .i64 k ∧ Below w.heap.size w wr ∧ Box (∀ f ∈ L.take k, f.1.size + f.2.size ≤ 200)) (fun i _ => L.length - (intOf i).toNat)
  case atStart => exact ⟨0, Nat.zero_le _, rfl, Below.refl _ _, ⟨fun f hf => absurd hf (by simp)⟩⟩
  case round =>
    obtain ⟨k, hk, rfl, hb, HA⟩ := hrel
    have hsz := hb.size
    by_cases hlt : k < L.length
    · obtain ⟨b, off, rfl, d0', d1'⟩ := HC.out k hlt
      have hbl : b < w.heap.size := World.block_lt_of_cell? w _ d0'
      obtain ⟨n, hn⟩ : ∃ n, n = L[k].1 := ⟨_, rfl⟩
      obtain ⟨x, hxx⟩ : ∃ x, x = L[k].2 := ⟨_, rfl⟩
      have hsn := HB.out L[k] (List.getElem_mem hlt)
      have d0 : wr.cell? ⟨b, off + k * 2, none⟩ = some (.string n) := by rw [hn]; exact (hb.cell (p := ⟨b, off + k * 2, none⟩) hbl).trans d0'
      have d1 : wr.cell? ⟨b, off + k * 2 + 1, none⟩ = some (.string x) := by rw [hxx]; exact (hb.cell (p := ⟨b, off + k * 2 + 1, none⟩) hbl).trans d1'
      rw [← hn, ← hxx] at hsn
      have HA' : Box (n.size + x.size ≤ 200 → ∀ f ∈ L.take (k + 1), f.1.size + f.2.size ≤ 200) := ⟨fun h f hf => by
        rw [take_snocF L k L[k] (by rw [List.getElem?_eq_getElem hlt])] at hf
        rcases List.mem_append.1 hf with hf | hf
        · exact HA.out f hf
        · rw [List.mem_singleton.1 hf, ← hn, ← hxx]; exact h⟩
      clear hn hxx d0' d1' HA
      by_cases h4 : n.size + x.size ≤ 200
      · have HA2 := Box.mk (HA'.out h4)
        have h4' : ¬ (200 : Int) < (n.size : Int) + (x.size : Int) := by omega
        clear HA'
        go_wp2
        go_region
        go_wp2
        go_roundw
        case rel => exact ⟨k + 1, by omega, by go_num, hb.drew, HA2⟩
        case measure => simp [intOf]; omega
      · have h4' : (200 : Int) < (n.size : Int) + (x.size : Int) := by omega
        clear HA'
        go_wp2
        go_region
        go_wp2
        go_ret
        exact ⟨rfl, hb.drew⟩
    · have HA2 : Box (∀ f ∈ L, f.1.size + f.2.size ≤ 200) := ⟨by have := HA.out; rw [List.take_of_length_le (by omega)] at this; exact this⟩
      have HM : Box (Mid L) := ⟨⟨by omega, fun f hf => ⟨by have := HA2.out f hf; omega, by have := HA2.out f hf; omega⟩⟩⟩
      have HW : Box ((writeK m.data.toList (L.map pb2)).length ≤ 100000) := ⟨by
        have e1 := writeK_tot m.data.toList (L.map pb2)
        have e2 := tot_small L HA2.out
        rw [List.length_map, size_list] at e1
        omega⟩
      clear HA HA2 HB
      go_wp2_with fail
      refine (told_any wr (HMx.out.below hb hw0)).mono ?_
      rintro e w1 ⟨rfl, hb1⟩
      have b1 := hb.trans (hb1.mono hsz)
      have HC1 := Box.mk (HC.out.below b1 (Nat.le_refl _))
      clear hb hb1 HC
      go_wp2_with fail
      refine (kwrite_any m _ L w1 (by omega) HM.out ⟨A, cap, rfl, hcap, HC1.out⟩ (HMx.out.below b1 hw0)).mono ?_
      rintro e w2 ⟨hp, hb2⟩
      have b2 := b1.trans (hb2.mono b1.size)
      have HC2 := Box.mk (HC1.out.below hb2 (Nat.le_refl _))
      clear HC1 hb2
      rcases kw_cases hp with ⟨ty, x, rfl⟩ | ⟨hgm, hgl, t, rfl, ht⟩
      · have bS := b2
        clear hp b2 HC2
        go_wp2_with fail
        refine (kread_ok s _ (by omega) (HMx.out.below bS hw0)).mono ?_
        rintro e w6 ⟨hp6, hb6⟩
        have b6 := bS.trans (hb6.mono bS.size)
        clear hb6
        rcases hp6 with ⟨ty6, x6, rfl⟩ | ⟨m6, v6, L6, rfl, hF6, hM6, hs6, hg6, ha6, hw6⟩
        · go_wp2
          go_ret
          exact ⟨rfl, b6⟩
        · have HM6 := Box.mk hM6
          have HG6 := Box.mk hg6
          have HA6 := Box.mk ha6
          have HW6 := Box.mk hw6
          have hl6 := hM6.1
          obtain ⟨A6, cap6, rfl, hcap6, hcells6⟩ := hF6
          have HC6 := Box.mk hcells6
          clear hM6 hg6 ha6 hw6 hcells6
          go_wp2_with fail
          refine (kwrite_any m6 _ L6 w6 (by omega) HM6.out ⟨A6, cap6, rfl, hcap6, HC6.out⟩ (HMx.out.below b6 hw0)).mono ?_
          rintro e w7 ⟨hp7, hb7⟩
          obtain ⟨t7, rfl, ht7⟩ := kw_good hp7 HG6.out HA6.out
          have HT7 := Box.mk ht7
          have b7 := b6.trans (hb7.mono b6.size)
          have HC7 := Box.mk (HC6.out.below hb7 (Nat.le_refl _))
          have hs7 : t7.size ≤ 100000 := by rw [← size_list, ht7]; exact HW6.out
          clear hp7 ht7 HC6 hb7
          go_wp2_with fail
          refine (read_written t7 m6 L6 w7 hs7 (HMx.out.below b7 hw0) HT7.out HG6.out HA6.out).mono ?_
          rintro e w8 ⟨v8, rfl, ⟨A8, cap8, rfl, hcap8, hcells8⟩, hb8⟩
          have HC8 := Box.mk hcells8
          have HC9 := Box.mk (HC7.out.below hb8 (Nat.le_refl _))
          have b8 := b7.trans (hb8.mono b7.size)
          have hmm6 : (m6.toList != m6.toList) = false := by simp
          clear hcells8 HC7 hb8 HT7
          go_wp2
          go_loopw [20] (fun i wr => ∃ k : Nat, k ≤ L6.length ∧ i = .int .i64 k ∧ Below w8.heap.size w8 wr) (fun i _ => L6.length - (intOf i).toNat)
          case atStart => exact ⟨0, Nat.zero_le _, rfl, Below.refl _ _⟩
          case round =>
            obtain ⟨k9, hk9, rfl, hb9⟩ := hrel
            by_cases hlt9 : k9 < L6.length
            · obtain ⟨c1, o1, c2, o2, n9, x9, rfl, rfl, y0, y1, y2, y3⟩ := two_elems HC8.out HC9.out HM6.out.tiny hb9 k9 hlt9
              clear HC8 HC9
              go_wp2
              go_region
              go_wp2
              go_roundw
              case rel => exact ⟨k9 + 1, by omega, by go_num, hb9.drew⟩
              case measure => simp [intOf]; omega
            · clear HC8 HC9
              go_wp2
              go_ret
              exact ⟨rfl, b8.trans (hb9.mono b8.size)⟩
      · have HG := Box.mk hgm
        have HL := Box.mk hgl
        have HT := Box.mk ht
        have hts : t.size ≤ 100000 := by rw [← size_list, ht]; exact HW.out
        clear hp hgm hgl ht
        go_wp2_with fail
        refine (read_written t m L w2 hts (HMx.out.below b2 hw0) HT.out HG.out HL.out).mono ?_
        rintro e w3 ⟨v3, rfl, ⟨A3, cap3, rfl, hcap3, hcells3⟩, hb3⟩
        have HC3 := Box.mk hcells3
        have HC4 := Box.mk (HC2.out.below hb3 (Nat.le_refl _))
        have b3 := b2.trans (hb3.mono b2.size)
        have hmm : (m.toList != m.toList) = false := by simp
        clear hcells3 HC2 hb3 HT
        go_wp2
        go_loopw [13] (fun i wr => ∃ k : Nat, k ≤ L.length ∧ i = .int .i64 k ∧ Below w3.heap.size w3 wr) (fun i _ => L.length - (intOf i).toNat)
        case atStart => exact ⟨0, Nat.zero_le _, rfl, Below.refl _ _⟩
        case round =>
          obtain ⟨k5, hk5, rfl, hb5⟩ := hrel
          by_cases hlt5 : k5 < L.length
          · obtain ⟨c1, o1, c2, o2, n9, x9, rfl, rfl, y0, y1, y2, y3⟩ := two_elems HC3.out HC4.out HM.out.tiny hb5 k5 hlt5
            clear HC3 HC4
            go_wp2
            go_region
            go_wp2
            go_roundw
            case rel => exact ⟨k5 + 1, by omega, by go_num, hb5.drew⟩
            case measure => simp [intOf]; omega
          · have bS := b3.trans (hb5.mono b3.size)
            clear HC3 HC4 hb5 b3 b2
            go_wp2_with fail
            refine (kread_ok s _ (by omega) (HMx.out.below bS hw0)).mono ?_
            rintro e w6 ⟨hp6, hb6⟩
            have b6 := bS.trans (hb6.mono bS.size)
            clear hb6
            rcases hp6 with ⟨ty6, x6, rfl⟩ | ⟨m6, v6, L6, rfl, hF6, hM6, hs6, hg6, ha6, hw6⟩
            · go_wp2
              go_ret
              exact ⟨rfl, b6⟩
            · have HM6 := Box.mk hM6
              have HG6 := Box.mk hg6
              have HA6 := Box.mk ha6
              have HW6 := Box.mk hw6
              have hl6 := hM6.1
              obtain ⟨A6, cap6, rfl, hcap6, hcells6⟩ := hF6
              have HC6 := Box.mk hcells6
              clear hM6 hg6 ha6 hw6 hcells6
              go_wp2_with fail
              refine (kwrite_any m6 _ L6 w6 (by omega) HM6.out ⟨A6, cap6, rfl, hcap6, HC6.out⟩ (HMx.out.below b6 hw0)).mono ?_
              rintro e w7 ⟨hp7, hb7⟩
              obtain ⟨t7, rfl, ht7⟩ := kw_good hp7 HG6.out HA6.out
              have HT7 := Box.mk ht7
              have b7 := b6.trans (hb7.mono b6.size)
              have HC7 := Box.mk (HC6.out.below hb7 (Nat.le_refl _))
              have hs7 : t7.size ≤ 100000 := by rw [← size_list, ht7]; exact HW6.out
              clear hp7 ht7 HC6 hb7
              go_wp2_with fail
              refine (read_written t7 m6 L6 w7 hs7 (HMx.out.below b7 hw0) HT7.out HG6.out HA6.out).mono ?_
              rintro e w8 ⟨v8, rfl, ⟨A8, cap8, rfl, hcap8, hcells8⟩, hb8⟩
              have HC8 := Box.mk hcells8
              have HC9 := Box.mk (HC7.out.below hb8 (Nat.le_refl _))
              have b8 := b7.trans (hb8.mono b7.size)
              have hmm6 : (m6.toList != m6.toList) = false := by simp
              clear hcells8 HC7 hb8 HT7
              go_wp2
              go_loopw [20] (fun i wr => ∃ k : Nat, k ≤ L6.length ∧ i = .int .i64 k ∧ Below w8.heap.size w8 wr) (fun i _ => L6.length - (intOf i).toNat)
              case atStart => exact ⟨0, Nat.zero_le _, rfl, Below.refl _ _⟩
              case round =>
                obtain ⟨k9, hk9, rfl, hb9⟩ := hrel
                by_cases hlt9 : k9 < L6.length
                · obtain ⟨c1, o1, c2, o2, n9, x9, rfl, rfl, y0, y1, y2, y3⟩ := two_elems HC8.out HC9.out HM6.out.tiny hb9 k9 hlt9
                  clear HC8 HC9
                  go_wp2
                  go_region
                  go_wp2
                  go_roundw
                  case rel => exact ⟨k9 + 1, by omega, by go_num, hb9.drew⟩
                  case measure => simp [intOf]; omega
                · clear HC8 HC9
                  go_wp2
                  go_ret
                  exact ⟨rfl, b8.trans (hb9.mono b8.size)⟩

end Go.Proofs.YtiecpbhikkcmjaaDoor
