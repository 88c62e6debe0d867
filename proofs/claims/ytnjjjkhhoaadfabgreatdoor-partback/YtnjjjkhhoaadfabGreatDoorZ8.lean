import Derived.Test.YtnjjjkhhoaadfabGreatDoorZ7
import Derived.Test.YtnjjjkhhoaadfabGreatDoorZ5
import Derived.Test.YtnjjjkhhoaadfabGreatDoorZ6
namespace Go.Proofs.YtnjjjkhhoaadfabGreatDoor
open Go.RowKit

theorem fieldOf_some {x : List UInt8} {a b : List UInt8} (hc : Lib.cut x [58] = (a, b, true)) (hn : nameS a = true) : fieldOf x = some (a, b) := by unfold fieldOf; rw [hc]; simp [hn]
theorem fieldOf_no {x : List UInt8} {a b : List UInt8} (hc : Lib.cut x [58] = (a, b, false)) : fieldOf x = none := by unfold fieldOf; rw [hc]; simp
theorem fieldOf_bad {x : List UInt8} {a b : List UInt8} {f : Bool} (hc : Lib.cut x [58] = (a, b, f)) (hn : nameS a = false) : fieldOf x = none := by unfold fieldOf; rw [hc]; simp [hn]
theorem OwnF.mono {w : World} {B B' : Nat} {v : Value} {L : List Fl} (h : OwnF w B v L) (hB : B' ≤ B) : OwnF w B' v L := by
  obtain ⟨h1, h2⟩ := h
  refine ⟨h1, ?_⟩
  rcases h2 with h2 | ⟨g, cap, cur, a, b, c⟩
  · exact .inl h2
  · exact .inr ⟨g, cap, cur, a, Nat.le_trans hB b, c⟩

/-- What a reader hands back. -/
def Good (s : List UInt8) (w' : World) (B : Nat) (v : Value) (r : ByteArray) (L : List Fl) : Prop := refRun (hl s).1 0 [] = .ok (L.map fl2) ∧ OwnF w' B v L ∧ Tiny L ∧ r.data.toList = (hl s).2

theorem join_any (A : Option Addr) (g n m cap c : Nat) (ss : List ByteArray) (w : World) (hA : n + 1 < m → A = some ⟨g, n + 1, none⟩ ∧ c = cap - (n + 1)) (hc : ∀ k (hk : k < ss.length), w.cell? ⟨g, k, none⟩ = some (.string ss[k])) (hg : g < w.heap.size) (h1 : n + 1 ≤ m) (h2 : m ≤ ss.length) (hcap : ss.length ≤ cap) (hl : (ss.map lst).flatten.length ≤ 1000000) (hn : ss.length ≤ 1000000) :
    Calls Tryz.prog 70 #[.slice A (m - (n + 1)) c, .string ⟨#[]⟩] w fun e w' => ∃ t : ByteArray, e = .returned (.string t) ∧ t.data.toList = (((ss.map lst).drop (n + 1)).take (m - (n + 1))).flatten ∧ Below w.heap.size w w' := by
  by_cases h0 : m = n + 1
  · subst h0
    rw [Nat.sub_self]
    refine (Tryz.strings_Join_none A c ⟨#[]⟩ w).mono ?_
    rintro e w' ⟨rfl, rfl⟩
    exact ⟨_, rfl, by simp, Below.refl _ _⟩
  · obtain ⟨rfl, rfl⟩ := hA (by omega)
    have hlen : ((ss.drop (n + 1)).take (m - (n + 1))).length = m - (n + 1) := by rw [List.length_take, List.length_drop]; omega
    have hfl : Lib.join (((ss.drop (n + 1)).take (m - (n + 1))).map (·.data.toList)) [] = (((ss.map lst).drop (n + 1)).take (m - (n + 1))).flatten := by
      rw [join_empty, List.map_take, List.map_drop]; rfl
    have hle : (((ss.map lst).drop (n + 1)).take (m - (n + 1))).flatten.length ≤ (ss.map lst).flatten.length := by
      have h1 := List.take_append_drop (n + 1) (ss.map lst)
      have h2 := List.take_append_drop (m - (n + 1)) ((ss.map lst).drop (n + 1))
      rw [← h2] at h1
      have h3 := congrArg (fun z => z.flatten.length) h1
      simp only [List.flatten_append, List.length_append] at h3
      omega
    have := Tryz.strings_Join g (n + 1) (cap - (n + 1)) ((ss.drop (n + 1)).take (m - (n + 1))) ⟨#[]⟩ w (fun j x hj => by
      have hj1 : j < m - (n + 1) := by
        have := (List.getElem?_eq_some_iff.1 hj).1
        rw [hlen] at this; exact this
      rw [List.getElem?_take, if_pos hj1, List.getElem?_drop] at hj
      have hj2 : n + 1 + j < ss.length := by omega
      rw [List.getElem?_eq_getElem hj2] at hj
      rw [hc _ hj2, Option.some.inj hj]) hg (by omega) (by omega) (by
        show (Lib.join _ []).length ≤ _
        rw [hfl]; omega)
    rw [hlen] at this
    refine this.mono ?_
    rintro e w' ⟨rfl, hb⟩
    exact ⟨_, rfl, hfl, hb⟩

set_option maxHeartbeats 3200000 in
set_option maxRecDepth 100000 in
theorem read_any (s : ByteArray) (w : World) (hs : s.size ≤ 100000) (hm : Max w) :
    Calls Tryz.prog 35 #[.string s] w fun e w' => ((∃ (n : Nat) (E : Value), refRun (hl s.data.toList).1 0 [] = .error n ∧ e = .returned (.tuple #[.slice none 0 0, .string ⟨#[]⟩, E]) ∧ ErrAt w' E 3 n) ∨
      (∃ v r L, e = .returned (.tuple #[v, .string r, .nilIface]) ∧ Good s.data.toList w' w.heap.size v r L)) ∧ Below w.heap.size w w' := by
  have hw0 := hm.1
  have HMx := Box.mk hm
  have hf1 := hl_flat _ s.data.toList (Nat.le_refl _)
  have hf2 := hl_some _ s.data.toList (Nat.le_refl _)
  clear hm
  go_enter Tryz.func35, Tryz.ntmps35
  go_wp2_with fail
  refine (headLines_any s _ hs HMx.out).mono ?_
  rintro e w1 ⟨x, ss, r, rfl, hownS, hss, hr, hb1⟩
  have HSS := Box.mk hss
  have HRr := Box.mk hr
  rw [← hss] at hf1 hf2
  rw [size_list] at hf1
  have hcnt := count_flat _ hf2
  rw [List.length_map] at hcnt
  have hfl : (ss.map lst).flatten.length ≤ s.size := by omega
  have HF2 : Box (∀ a ∈ ss, 0 < a.size ∧ a.size ≤ s.size) := ⟨fun a ha => by
    have h1 : lst a ∈ ss.map lst := List.mem_map.2 ⟨a, ha, rfl⟩
    have h2 := hf2 _ h1
    have h3 : ∀ (ws : List (List UInt8)) (x : List UInt8), x ∈ ws → x.length ≤ ws.flatten.length := by
      intro ws x h
      induction ws with
      | nil => exact absurd h (by simp)
      | cons y ws ih =>
        rw [List.flatten_cons, List.length_append]
        rcases List.mem_cons.1 h with rfl | h
        · omega
        · have := ih h; omega
    have h4 := h3 _ _ h1
    have h5 := List.length_pos_iff.2 h2
    rw [lst, size_list] at h4 h5
    omega⟩
  clear hss hr hf1 hf2
  obtain ⟨A, cap, hx, hcap, HCl⟩ : ∃ A cap, x = .slice A ss.length cap ∧ ss.length ≤ cap ∧ Box (∀ k (hk : k < ss.length), ∃ g, A = some ⟨g, 0, none⟩ ∧ g < w1.heap.size ∧ ∀ j (hj : j < ss.length), w1.cell? ⟨g, j, none⟩ = some (.string ss[j])) := by
    rcases hownS.shape with ⟨rfl, rfl⟩ | ⟨g, cap, rfl, _, hgs, hcap, _, hc⟩
    · exact ⟨none, 0, rfl, Nat.le_refl _, ⟨fun k hk => absurd hk (by simp)⟩⟩
    · exact ⟨_, cap, rfl, hcap, ⟨fun k hk => ⟨g, rfl, hgs, hc⟩⟩⟩
  subst hx
  obtain ⟨R, HR⟩ : ∃ R, Box (R = refRun (ss.map lst) 0 []) := ⟨_, ⟨rfl⟩⟩
  have HRf : Box (refRun (hl s.data.toList).1 0 [] = R) := ⟨by rw [HR.out, HSS.out]⟩
  have hM1 := HMx.out.below hb1 hw0
  have HM1 := Box.mk hM1
  have hw1 := hM1.1
  clear hownS HMx hM1
  go_wp2
  go_loopw [7, 8] (fun v i wr => ∃ (n : Nat) (acc : List Fl), n ≤ ss.length ∧ i = .int .i64 n ∧ OwnF wr w1.heap.size v acc ∧ Below w1.heap.size w1 wr ∧ acc.length ≤ n ∧ Box (∀ f ∈ acc, f.1.size ≤ 1000000 ∧ f.2.size ≤ 1000000) ∧ Box (refRun ((ss.map lst).drop n) n (acc.map fl2) = R) ∧ Box (acc ≠ [] → ∀ x, (ss.map lst)[n]? = some x → goes x = false)) (fun _ i _ => ss.length - (intOf i).toNat)
  case atStart => exact ⟨0, [], Nat.zero_le _, rfl, OwnF.nil _ _, Below.refl _ _, Nat.le_refl _, ⟨fun f hf => absurd hf (by simp)⟩, ⟨HR.out.symm⟩, ⟨fun h => absurd rfl h⟩⟩
  case round =>
    obtain ⟨n, acc, hn, rfl, hown, hb, hacc, HT, HRun, HG⟩ := hrel
    have hsz := hb.size
    by_cases hlt : n < ss.length
    · obtain ⟨g, rfl, hgs, hcl⟩ := HCl.out n hlt
      have HCw : Box (∀ j (hj : j < ss.length), wr.cell? ⟨g, j, none⟩ = some (.string ss[j])) := ⟨fun j hj => (hb.cell (p := ⟨g, j, none⟩) hgs).trans (hcl j hj)⟩
      have hcx := HCw.out n hlt
      obtain ⟨a, ha⟩ : ∃ a, a = ss[n] := ⟨_, rfl⟩
      rw [← ha] at hcx
      have has := HF2.out ss[n] (List.getElem_mem hlt)
      rw [← ha] at has
      have HD : Box ((ss.map lst).drop n = a.data.toList :: (ss.map lst).drop (n + 1)) := ⟨by
        have hl' : n < (ss.map lst).length := by rw [List.length_map]; exact hlt
        rw [List.drop_eq_getElem_cons hl', List.getElem_map, ← ha]; rfl⟩
      have HGf : Box ((goes a.data.toList && !(acc.map fl2).isEmpty) = false) := ⟨by
        cases acc with
        | nil => simp
        | cons f acc =>
          have := HG.out (by simp) a.data.toList (by rw [List.getElem?_map, List.getElem?_eq_getElem hlt, ← ha]; rfl)
          rw [this]; rfl⟩
      clear hcl ha HG HCl
      go_wp2_with fail
      refine (cut_any a ⟨#[58]⟩ _ (by omega) (HM1.out.below hb hw1)).mono ?_
      rintro e w2 ⟨nm, vl, f, rfl, hc, hnm, hvl, hb2⟩
      have HCu : Box (Lib.cut a.data.toList [58] = (nm.data.toList, vl.data.toList, f)) := ⟨hc⟩
      have hb3 := hb.trans (hb2.mono hsz)
      have hown2 := hown.below hb2 (Nat.le_refl _)
      have HC2 : Box (∀ j (hj : j < ss.length), w2.cell? ⟨g, j, none⟩ = some (.string ss[j])) := ⟨fun j hj => (hb2.cell (p := ⟨g, j, none⟩) (by show g < _; omega)).trans (HCw.out j hj)⟩
      have hsz3 := hb3.size
      clear hc hown HCw hcx
      cases f
      · have HE : Box (R = .error n) := ⟨by rw [← HRun.out, HD.out, refRun_none (fieldOf_no HCu.out) HGf.out]⟩
        clear HRun HD HGf HCu HC2 HF2 HT HSS HRr
        go_wp2
        exact bodyPost_ret (v := .tuple #[.slice none 0 0, .string ⟨#[]⟩, .iface 129 (.pointer (some ⟨w2.heap.size, 0, none⟩))]) (by simp [results, Tryz.results35, go_sem]) rfl ⟨.inl ⟨n, _, by rw [HRf.out, HE.out], rfl, ⟨_, rfl, by simp, by simp⟩⟩, hb1.trans ((hb3.alloc hsz3 _).mono hb1.size)⟩
      · cases hnn : nameS nm.data.toList
        · have HE : Box (R = .error n) := ⟨by rw [← HRun.out, HD.out, refRun_none (fieldOf_bad HCu.out hnn) HGf.out]⟩
          clear HRun HD HGf HCu HC2 HF2 HT HSS HRr
          go_wp2_with (go_at_call 68; refine (isName_any _ _ (by omega)).mono ?_; rintro e w2 ⟨rfl, rfl⟩)
          exact bodyPost_ret (v := .tuple #[.slice none 0 0, .string ⟨#[]⟩, .iface 129 (.pointer (some ⟨w2.heap.size, 0, none⟩))]) (by simp [results, Tryz.results35, go_sem]) rfl ⟨.inl ⟨n, _, by rw [HRf.out, HE.out], rfl, ⟨_, rfl, by simp, by simp⟩⟩, hb1.trans ((hb3.alloc hsz3 _).mono hb1.size)⟩
        · have HS1 : Box (refRun ((ss.map lst).drop (n + 1)) (n + 1) (acc.map fl2 ++ [(nm.data.toList, vl.data.toList)]) = R) := ⟨by rw [← HRun.out, HD.out, refRun_field (fieldOf_some HCu.out hnn) HGf.out]⟩
          clear HRun HD HGf HCu
          go_wp2_with (go_at_call 68; refine (isName_any _ _ (by omega)).mono ?_; rintro e w2 ⟨rfl, rfl⟩)
          go_loop [12] (fun i => ∃ m : Nat, n + 1 ≤ m ∧ m ≤ ss.length ∧ i = .int .i64 m ∧ Box (∀ j (hj : j < ss.length), n + 1 ≤ j → j < m → goes (lst ss[j]) = true)) (fun i => ss.length - (intOf i).toNat)
          case atStart => exact ⟨n + 1, Nat.le_refl _, by omega, by go_num, ⟨fun j _ h1 h2 => absurd h1 (by omega)⟩⟩
          case round =>
            obtain ⟨m, hm1, hm2, rfl, HGo⟩ := hrel
            by_cases hgo : ∃ h : m < ss.length, goes (lst ss[m]) = true
            · obtain ⟨hml, hgm⟩ := hgo
              have hcm := HC2.out m hml
              have hsm := HF2.out ss[m] (List.getElem_mem hml)
              have HGo' : Box (∀ j (hj : j < ss.length), n + 1 ≤ j → j < m + 1 → goes (lst ss[j]) = true) := ⟨fun j hj h1 h2 => by
                by_cases hjm : j = m
                · subst hjm; exact hgm
                · exact HGo.out j hj h1 (by omega)⟩
              obtain ⟨z, hz⟩ : ∃ z, z = ss[m] := ⟨_, rfl⟩
              rw [← hz] at hcm hsm hgm
              have hgm' : goes z.data.toList = true := hgm
              clear hz hgm HGo
              go_wp2_with (go_at_call 69; refine (goesOn_any _ _ hsm.1).mono ?_; rintro e w2 ⟨rfl, rfl⟩)
              go_round
              case rel => exact ⟨m + 1, by omega, by omega, by go_num, HGo'⟩
              case measure => simp [intOf]; omega
            · have HEnd : Box (∀ x, (ss.map lst)[m]? = some x → goes x = false) := ⟨fun x hx => by
                rw [List.getElem?_map] at hx
                by_cases hml : m < ss.length
                · rw [List.getElem?_eq_getElem hml] at hx
                  have hx' : lst ss[m] = x := by simpa using hx
                  rw [← hx']
                  cases hq : goes (lst ss[m])
                  · rfl
                  · exact absurd ⟨hml, hq⟩ hgo
                · rw [List.getElem?_eq_none (by omega)] at hx
                  simp at hx⟩
              have hx : ¬ m < ss.length ∨ ∃ h : m < ss.length, goes (lst ss[m]) = false := by
                by_cases hml : m < ss.length
                · right
                  refine ⟨hml, ?_⟩
                  cases hq : goes (lst ss[m])
                  · rfl
                  · exact absurd ⟨hml, hq⟩ hgo
                · exact .inl hml
              clear hgo
              have HS2 : Box (refRun ((ss.map lst).drop m) m (acc.map fl2 ++ [(nm.data.toList, vl.data.toList ++ (((ss.map lst).drop (n + 1)).take (m - (n + 1))).flatten)]) = R) := ⟨by
                have e1 : (ss.map lst).drop (n + 1) = ((ss.map lst).drop (n + 1)).take (m - (n + 1)) ++ (ss.map lst).drop m := by
                  have := List.take_append_drop (m - (n + 1)) ((ss.map lst).drop (n + 1))
                  rw [List.drop_drop] at this
                  have e2 : n + 1 + (m - (n + 1)) = m := by omega
                  rw [e2] at this
                  exact this.symm
                have e3 : (((ss.map lst).drop (n + 1)).take (m - (n + 1))).length = m - (n + 1) := by rw [List.length_take, List.length_drop, List.length_map]; omega
                have := refRun_goes (((ss.map lst).drop (n + 1)).take (m - (n + 1))) ((ss.map lst).drop m) (n + 1) (acc.map fl2) (nm.data.toList, vl.data.toList) (fun z hz => by
                  obtain ⟨j, hj⟩ := List.getElem?_of_mem hz
                  have hj1 : j < m - (n + 1) := by
                    have := (List.getElem?_eq_some_iff.1 hj).1
                    rw [e3] at this; exact this
                  rw [List.getElem?_take, if_pos hj1, List.getElem?_drop, List.getElem?_map, List.getElem?_eq_getElem (by omega)] at hj
                  have hj' : lst (ss[n + 1 + j]'(by omega)) = z := by simpa using hj
                  rw [← hj']
                  exact HGo.out _ (by omega) (by omega) (by omega))
                rw [← e1, e3] at this
                have e4 : n + 1 + (m - (n + 1)) = m := by omega
                rw [e4] at this
                rw [← this, HS1.out]⟩
              clear HS1 HGo
              have hmn : n + 1 ≤ m := hm1
              have hcapm : m ≤ cap := by omega
              have hjn := fun A c hA => join_any A g n m cap c ss w2 hA HC2.out (by omega) hm1 hm2 hcap (by omega) (by omega)
              have HJn := Box.mk hjn
              have HFl : Box ((((ss.map lst).drop (n + 1)).take (m - (n + 1))).flatten.length ≤ s.size) := ⟨by
                have h1 := List.take_append_drop (n + 1) (ss.map lst)
                have h2 := List.take_append_drop (m - (n + 1)) ((ss.map lst).drop (n + 1))
                rw [← h2] at h1
                have h3 := congrArg (fun z => z.flatten.length) h1
                simp only [List.flatten_append, List.length_append] at h3
                omega⟩
              clear hjn
              obtain ⟨Ad, hAd, HAd⟩ : ∃ Ad : Addr, (if cap = n + 1 then some (⟨g, 0, none⟩ : Addr) else some ⟨g, n + 1, none⟩) = some Ad ∧ Box (n + 1 < m → Ad = ⟨g, n + 1, none⟩) := by
                by_cases h : cap = n + 1
                · exact ⟨_, if_pos h, ⟨fun h' => by omega⟩⟩
                · exact ⟨_, if_neg h, ⟨fun _ => rfl⟩⟩
              have HX : Box (¬ m < ss.length ∨ ∃ h : m < ss.length, goes (lst ss[m]) = false) := ⟨hx⟩
              have fin : Box (∀ t : ByteArray, t.data.toList = (((ss.map lst).drop (n + 1)).take (m - (n + 1))).flatten → t.size ≤ s.size ∧ (∀ f ∈ acc ++ [(nm, vl ++ t)], f.1.size ≤ 1000000 ∧ f.2.size ≤ 1000000) ∧ refRun ((ss.map lst).drop m) m ((acc ++ [(nm, vl ++ t)]).map fl2) = R) := ⟨fun t ht => by
                have h1 : t.size ≤ s.size := by rw [← size_list, ht]; exact HFl.out
                refine ⟨h1, fun f hf => ?_, ?_⟩
                · rcases List.mem_append.1 hf with h | h
                  · exact HT.out f h
                  · obtain rfl := List.mem_singleton.1 h
                    refine ⟨by show nm.size ≤ _; omega, ?_⟩
                    show (vl ++ t).size ≤ _
                    rw [ByteArray.size_append]; omega
                · rw [← HS2.out, ← ht]
                  simp [fl2]⟩
              have hx' : ¬ m < ss.length ∨ ∃ z : ByteArray, m < ss.length ∧ 0 < z.size ∧ goes z.data.toList = false ∧ w2.cell? ⟨g, m, none⟩ = some (.string z) := by
                rcases hx with h | ⟨h, h'⟩
                · exact .inl h
                · exact .inr ⟨ss[m], h, (HF2.out _ (List.getElem_mem h)).1, h', HC2.out m h⟩
              clear HS2 HFl HT hx HX HC2 HF2
              rcases hx' with hx1 | ⟨z, hx1, hz2, hz3, hz4⟩
              all_goals
                  go_wp2_with (go_at_call 69; refine (goesOn_any _ _ hz2).mono ?_; rintro e w2 ⟨rfl, rfl⟩)
                  all_goals
                    refine (HJn.out _ _ (fun h => ?_)).mono ?_
                    · exact ⟨by rw [HAd.out h], rfl⟩
                    rintro e w5 ⟨t, rfl, ht, hb5⟩
                    obtain ⟨f1, f2, f3⟩ := fin.out t ht
                    have HF2' := Box.mk f2
                    have HF3' := Box.mk f3
                    have hb6 := hb3.trans (hb5.mono hsz3)
                    have hown5 := hown2.below hb5 (Nat.le_refl _)
                    have hsz6 := hb6.size
                    clear fin ht f2 f3 HJn
                    go_wp2_with (at_builtin; refine wp_appF (w5.alloc (.cells #[.string nm, .string (vl ++ t)] 40)) w1 rfl (.tmp 65) (.tmp 69) rfl w1.heap.size u7 acc rfl (World.ownsRow.alloc hown5 _) w5.heap.size 1 (nm, vl ++ t) rfl (by simp) (by simp) (by omega) (by simp; omega) (hb6.alloc hsz6 _) ?_; intro v' w6 hown6 hb7)
                    go_roundw
                    case rel => exact ⟨m, acc ++ [(nm, vl ++ t)], hm2, rfl, hown6, hb7, by simp; omega, HF2', HF3', ⟨fun _ => HEnd.out⟩⟩
                    case measure => simp [intOf]; omega
    · have HE : Box (R = .ok (acc.map fl2)) := ⟨by rw [← HRun.out, List.drop_of_length_le (by rw [List.length_map]; omega)]; rfl⟩
      clear HRun HG HCl HF2
      go_wp2
      exact bodyPost_ret (v := .tuple #[u7, .string r, .nilIface]) (by simp [results, Tryz.results35, go_sem]) rfl ⟨.inr ⟨_, _, acc, rfl, by rw [HRf.out, HE.out], hown.mono hb1.size, ⟨by omega, HT.out⟩, HRr.out⟩, hb1.trans (hb.mono hb1.size)⟩

end Go.Proofs.YtnjjjkhhoaadfabGreatDoor

namespace Go.Proofs.YtnjjjkhhoaadfabGreatDoor
open Go.RowKit

def okC (f : Fl) : Bool := saysS (trimS f.2.data.toList)
def clF (f : Fl) : FB := (f.1.data.toList, trimS f.2.data.toList)
def firstP (p : Fl → Bool) (L : List Fl) : Nat := (L.takeWhile p).length
theorem firstP_stop (p : Fl → Bool) (L : List Fl) (k : Nat) (f : Fl) (hk : L[k]? = some f) (h : (L.take k).all p = true) (h' : p f = false) : firstP p L = k := by
  induction L generalizing k with
  | nil => exact absurd hk (by simp)
  | cons g L ih =>
    unfold firstP
    cases k with
    | zero =>
      simp at hk
      subst hk
      rw [List.takeWhile_cons, h']; rfl
    | succ k =>
      simp only [List.take_succ_cons, List.all_cons, Bool.and_eq_true] at h
      rw [List.takeWhile_cons, h.1]
      have := ih k (by simpa using hk) h.2
      unfold firstP at this
      show (L.takeWhile p).length + 1 = k + 1
      rw [this]
theorem firstP_all (p : Fl → Bool) (L : List Fl) (h : L.all p = true) : firstP p L = L.length := by
  induction L with
  | nil => rfl
  | cons g L ih =>
    simp only [List.all_cons, Bool.and_eq_true] at h
    have := ih h.2
    unfold firstP at this ⊢
    rw [List.takeWhile_cons, h.1]
    show (L.takeWhile p).length + 1 = L.length + 1
    rw [this]
theorem all_onP (p : Fl → Bool) (L : List Fl) (k : Nat) (f : Fl) (hk : L[k]? = some f) (h : (L.take k).all p = true) (h' : p f = true) : (L.take (k + 1)).all p = true := by
  rw [take_snocF L k f hk, List.all_append, h]; simp [h']

theorem maySay_is (x : ByteArray) (w : World) (hl : x.size ≤ 1000000) (q : Bool) (hq : saysS x.data.toList = q) :
    Calls Tryz.prog 72 #[.string x] w fun e w' => e = .returned (.bool q) ∧ w' = w := by
  subst hq
  exact maySay_any x w hl
theorem own_two {w : World} {B : Nat} {v : Value} {L : List Fl} (h : OwnF w (B + 1) v L) (x y : Int) : OwnF ((w.setCell ⟨B, 0, none⟩ (.int .i64 x)).setCell ⟨B, 1, none⟩ (.int .i64 y)) B v L := by
  have h1 : OwnF (w.setCell ⟨B, 0, none⟩ (.int .i64 x)) (B + 1) v L := ownsRow_setCell_below h (Nat.lt_succ_self B) _
  exact OwnF.mono (B := B + 1) (ownsRow_setCell_below h1 (Nat.lt_succ_self B) _) (Nat.le_succ B)
theorem new_cell (W : World) (cs : Array Value) (T : TypeId) (b k : Nat) (hb : b = W.heap.size) : (W.alloc (.cells cs T)).cell? ⟨b, k, none⟩ = cs[k]? := by
  subst hb
  simp
theorem trim_size {t v : ByteArray} (h : t.data.toList = trimS v.data.toList) : t.size ≤ v.size := by
  have := trimS_len v.data.toList
  rw [← h, size_list, size_list] at this
  exact this

set_option maxHeartbeats 3200000 in
set_option maxRecDepth 100000 in
theorem hClean_any (v : Value) (L : List Fl) (w : World) (hT : Tiny L) (hF : FL w v L) :
    Calls Tryz.prog 36 #[v] w fun e w' => ((∃ E, firstP okC L < L.length ∧ e = .returned (.tuple #[.slice none 0 0, E]) ∧ ErrAt w' E 1 (firstP okC L)) ∨
      (∃ v' M, firstP okC L = L.length ∧ e = .returned (.tuple #[v', .nilIface]) ∧ OwnF w' w.heap.size v' M ∧ M.map fl2 = L.map clF ∧ Tiny M)) ∧ Below w.heap.size w w' := by
  obtain ⟨A, cap, rfl, hcap, hcells⟩ := hF
  have HC := Box.mk hcells
  have hlen := hT.1
  have HT := Box.mk hT
  clear hcells hT
  go_enter Tryz.func36, Tryz.ntmps36
  go_wp2
  go_loopw [4, 9] (fun x i wr => ∃ (k : Nat) (M : List Fl), k ≤ L.length ∧ i = .int .i64 k ∧ M.length = k ∧ OwnF wr w.heap.size x M ∧ Below w.heap.size w wr ∧ Box ((L.take k).all okC = true) ∧ Box (M.map fl2 = (L.take k).map clF) ∧ Box (∀ f ∈ M, f.1.size ≤ 1000000 ∧ f.2.size ≤ 1000000)) (fun _ i _ => L.length - (intOf i).toNat)
  case atStart => exact ⟨0, [], Nat.zero_le _, rfl, rfl, OwnF.nil _ _, Below.refl _ _, ⟨rfl⟩, ⟨rfl⟩, ⟨fun f hf => absurd hf (by simp)⟩⟩
  case round =>
    obtain ⟨k, M, hk, rfl, hMl, hown, hb, HA, HM, HS⟩ := hrel
    have HMl := Box.mk hMl
    clear hMl
    have hsz := hb.size
    by_cases hlt : k < L.length
    · obtain ⟨b, off, n, v, rfl, HN, hn, hv, hbl, d0, d1⟩ := HC.out.elem HT.out hb k hlt
      clear HC HT
      go_wp2_with fail
      refine (hTrim_any v _ hv).mono ?_
      rintro e w2 ⟨t, rfl, ht, hb2⟩
      have hts := trim_size ht
      have HTr := Box.mk ht
      have e0 : w2.cell? ⟨wr.heap.size, 0, none⟩ = some (.string n) := (hb2.cell (p := ⟨wr.heap.size, 0, none⟩) (by simp)).trans (by simp)
      have e1 : w2.cell? ⟨wr.heap.size, 1, none⟩ = some (.string v) := (hb2.cell (p := ⟨wr.heap.size, 1, none⟩) (by simp)).trans (by simp)
      have e2 : w2.frozen? ⟨wr.heap.size, 1, none⟩ = false := (hb2.frozen (p := ⟨wr.heap.size, 1, none⟩) (by simp)).trans (by simp)
      have hbr : Below wr.heap.size wr (w2.setCell ⟨wr.heap.size, 1, none⟩ (.string t)) := (((Below.refl _ _).alloc (Nat.le_refl _) _).trans (hb2.mono (by simp))).setCell (Nat.le_refl _) _
      have hb3 := hb.trans (hbr.mono hsz)
      have hown3 := hown.below hbr (Nat.le_refl _)
      have hsz3 := hb3.size
      have hsz4 : w.heap.size ≤ w2.heap.size := by simpa using hsz3
      clear ht hown hb2 d0 d1
      cases hq : saysS t.data.toList
      · have HE : Box (firstP okC L = k) := ⟨firstP_stop okC L k _ HN.out HA.out (by unfold okC; rw [← HTr.out]; exact hq)⟩
        clear HN HA HM HS HTr
        go_wp2_with (go_at_call 72; refine (maySay_is _ _ (by omega) _ hq).mono ?_; rintro e wz ⟨rfl, rfl⟩)
        go_ret2
        exact ⟨.inl ⟨_, by rw [HE.out]; exact hlt, rfl, ⟨w2.heap.size, rfl, (new_cell _ _ _ _ 0 (by simp)).trans rfl, (new_cell _ _ _ _ 1 (by simp)).trans (by rw [HE.out]; rfl)⟩⟩, hb3.alloc hsz3 _⟩
      · have HA' : Box ((L.take (k + 1)).all okC = true) := ⟨all_onP okC L k _ HN.out HA.out (by unfold okC; rw [← HTr.out]; exact hq)⟩
        have HM' : Box ((M ++ [(n, t)]).map fl2 = (L.take (k + 1)).map clF) := ⟨by
          rw [take_snocF L k _ HN.out, List.map_append, List.map_append, HM.out]
          simp [fl2, clF, HTr.out]⟩
        have HS' : Box (∀ f ∈ M ++ [(n, t)], f.1.size ≤ 1000000 ∧ f.2.size ≤ 1000000) := ⟨fun f hf => by
          rcases List.mem_append.1 hf with h | h
          · exact HS.out f h
          · obtain rfl := List.mem_singleton.1 h
            exact ⟨hn, by show t.size ≤ _; omega⟩⟩
        have hMk : M.length + 1 ≤ 1000000 := by have := HMl.out; omega
        clear HN HA HM HS HTr
        go_wp2_with (first | (go_at_call 72; refine (maySay_is _ _ (by omega) _ hq).mono ?_; rintro e wz ⟨rfl, rfl⟩) | (at_builtin; refine wp_appF ((w2.setCell ⟨wr.heap.size, 1, none⟩ (.string t)).alloc (.cells #[.string n, .string t] 40)) w rfl (.tmp 26) (.tmp 28) rfl w.heap.size u4 M rfl (World.ownsRow.alloc hown3 _) w2.heap.size 1 (n, t) rfl ((new_cell _ _ _ _ 0 (by simp)).trans rfl) ((new_cell _ _ _ _ 1 (by simp)).trans rfl) hMk (by simp; omega) (hb3.alloc hsz3 _) ?_; intro v' w6 hown6 hb6))
        go_roundw
        case rel => exact ⟨k + 1, M ++ [(n, t)], by omega, by go_num, by rw [List.length_append, HMl.out]; rfl, hown6, hb6, HA', HM', HS'⟩
        case measure => simp [intOf]; omega
    · have HE : Box (firstP okC L = L.length) := ⟨firstP_all okC L (by rw [← HA.out, List.take_of_length_le (by omega)])⟩
      have HM' : Box (M.map fl2 = L.map clF) := ⟨by rw [HM.out, List.take_of_length_le (by omega)]⟩
      have hMk : M.length ≤ 100000 := by have := HMl.out; omega
      clear HA HM HC HT
      go_wp2
      go_ret2
      exact ⟨.inr ⟨_, M, HE.out, rfl, hown, HM'.out, ⟨hMk, HS.out⟩⟩, hb⟩

theorem fl2_inj : ∀ {L M : List Fl}, L.map fl2 = M.map fl2 → L = M
  | [], [], _ => rfl
  | [], _ :: _, h => by simp at h
  | _ :: _, [], h => by simp at h
  | f :: L, g :: M, h => by
    simp only [List.map_cons, List.cons.injEq] at h
    have e : f = g := by
      have h1 : f.1 = g.1 := bytes_eq (congrArg Prod.fst h.1)
      have h2 : f.2 = g.2 := bytes_eq (congrArg Prod.snd h.1)
      cases f; cases g; simp_all
    rw [e, fl2_inj h.2]

end Go.Proofs.YtnjjjkhhoaadfabGreatDoor

