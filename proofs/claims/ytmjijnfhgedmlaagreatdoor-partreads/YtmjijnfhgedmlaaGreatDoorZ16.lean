import Derived.Test.YtmjijnfhgedmlaaGreatDoorZ14
import Derived.Test.YtmjijnfhgedmlaaGreatDoorZH14
import Derived.Test.YtmjijnfhgedmlaaGreatDoorZJ9
import Derived.Test.YtmjijnfhgedmlaaGreatDoorZR9
namespace Go.Proofs.YtmjijnfhgedmlaaGreatDoor
open Go.RowKit

/- Parts, read: the reference's. -/
def MPostR (O : Except Nat (Option (List UInt8))) (e : Ending) : Prop :=
  match O with
  | .error c => e = .returned (.tuple #[.string ⟨#[]⟩, .bool false, .int .i64 c])
  | .ok none => e = .returned (.tuple #[.string ⟨#[]⟩, .bool false, .int .i64 0])
  | .ok (some b) => ∃ bb : ByteArray, e = .returned (.tuple #[.string bb, .bool true, .int .i64 0]) ∧ bb.data.toList = b ∧ bb.size ≤ 70

theorem last_at (t : ByteArray) (h : 0 < t.size) : t.data.toList.getLast? = some t[t.size - 1] := by
  rw [last_split t h]; simp

theorem rkind_all (s : ByteArray) (w : World) (hs : s.size ≤ 100000) (hm : Max w) :
    Calls Tryz.prog 69 #[.string s] w fun e w' => RKPost (readK s.data.toList) s.size w.heap.size e w' ∧ Below w.heap.size w w' := by
  rcases byte_while s.data.toList 59 with ⟨h1, h2, h3⟩ | ⟨h1, r, h2⟩
  · exact rkind_short s w hs hm h1 h2 h3
  · exact rkind_long s w hs hm _ rfl h1 r h2

set_option maxHeartbeats 1000000 in
set_option maxRecDepth 100000 in
theorem rmanies_any (v : Value) (lh : List Fl) (w : World) (hT : Half lh) (hF : FL w v lh) (hm : Max w) :
    Calls Tryz.prog 57 #[v] w fun e w' => MPostR (maniesS (lh.map fl2)) e ∧ Below w.heap.size w w' := by
  obtain ⟨O, HO⟩ : ∃ O, Box (O = maniesS (lh.map fl2)) := ⟨_, ⟨rfl⟩⟩
  rw [← HO.out]
  have hg := getS_getB lh ctN
  rw [show smallS ctN = ctN by decide] at hg
  have HMx := Box.mk hm
  have HT := Box.mk hT
  have HF := Box.mk hF
  have hlt := hm.1
  clear hm hT hF
  go_enter Tryz.func57, Tryz.ntmps57
  go_wp2_with fail
  refine (getField_any v lh ⟨#[99, 111, 110, 116, 101, 110, 116, 45, 116, 121, 112, 101]⟩ _ (by decide) HT.out.tiny HF.out).mono ?_
  rintro e w1 ⟨rfl, hb1⟩
  rw [show (⟨#[99, 111, 110, 116, 101, 110, 116, 45, 116, 121, 112, 101]⟩ : ByteArray).data.toList = ctN from rfl]
  cases hgs : getS lh ctN with
  | none =>
    rw [hgs] at hg
    have HO' : Box (O = .ok none) := ⟨by rw [HO.out, maniesS, hg]; rfl⟩
    clear hg hgs HO
    rw [show getV none = .tuple #[.string ⟨#[]⟩, .bool false] from rfl]
    go_wp2
    go_ret3
    refine ⟨?_, hb1⟩
    rw [HO'.out]; rfl
  | some f =>
    rw [hgs] at hg
    have hfs := (HT.out.2 f (getS_mem _ _ _ hgs)).2
    have HO' : Box (O = match readK f.2.data.toList with
      | none => .error 3
      | some q => if multiN.isPrefixOf q.1 then (if 1 ≤ (getPB q.2).length ∧ (getPB q.2).length ≤ 70 ∧ (getPB q.2).getLast? ≠ some 32 then .ok (some (getPB q.2)) else .error 3) else .ok none) := ⟨by rw [HO.out, maniesS, hg]; rfl⟩
    have HM1 := Box.mk (HMx.out.below hb1 hlt)
    clear hg hgs HO HMx
    obtain ⟨fn, fv⟩ := f
    rw [show getV (some (fn, fv)) = .tuple #[.string fv, .bool true] from rfl]
    go_wp2_with fail
    refine (rkind_all fv _ hfs HM1.out).mono ?_
    rintro e w2 ⟨hR, hb2⟩
    have hb02 := hb1.trans (hb2.mono hb1.size)
    unfold RKPost at hR
    cases hk : readK fv.data.toList with
    | none =>
      rw [hk] at hR
      obtain rfl := hR
      have HO2 : Box (O = .error 3) := ⟨by rw [HO'.out]; simp only [hk]⟩
      clear HO' hk
      go_wp2
      go_ret3
      refine ⟨?_, hb02⟩
      rw [HO2.out]; rfl
    | some q =>
      rw [hk] at hR
      obtain ⟨m, vq, L, rfl, hm, hown, hL, hms, hLs, hfsz⟩ := hR
      have HO2 : Box (O = if multiN.isPrefixOf q.1 then (if 1 ≤ (getPB q.2).length ∧ (getPB q.2).length ≤ 70 ∧ (getPB q.2).getLast? ≠ some 32 then .ok (some (getPB q.2)) else .error 3) else .ok none) := ⟨by rw [HO'.out]; simp only [hk]⟩
      have HFL := Box.mk hown.fl
      have HTL : Box (Tiny L) := ⟨⟨by omega, fun g hg => by have := hfsz g hg; omega⟩⟩
      rw [← hm, ← hL] at HO2
      clear HO' hk hm hL hown hfsz
      go_wp2_with fail
      refine (Tryz.strings_HasPrefix m ⟨#[109, 117, 108, 116, 105, 112, 97, 114, 116, 47]⟩ _).mono ?_
      rintro e w3 ⟨rfl, hw3⟩
      obtain rfl := hw3.symm
      have hpe : Lib.hasPrefix m.data.toList (⟨#[109, 117, 108, 116, 105, 112, 97, 114, 116, 47]⟩ : ByteArray).data.toList = multiN.isPrefixOf m.data.toList := rfl
      rw [hpe]
      clear hpe
      cases hp : multiN.isPrefixOf m.data.toList with
      | false =>
        have HO3 : Box (O = .ok none) := ⟨by rw [HO2.out, hp]; rfl⟩
        clear HO2 hp
        go_wp2
        go_ret3
        refine ⟨?_, hb02⟩
        rw [HO3.out]; rfl
      | true =>
        obtain ⟨bb, qq, hV, hbb⟩ := getP_getPB L
        have HO3 : Box (O = if 1 ≤ bb.data.toList.length ∧ bb.data.toList.length ≤ 70 ∧ bb.data.toList.getLast? ≠ some 32 then .ok (some bb.data.toList) else .error 3) := ⟨by rw [HO2.out, hp, hbb]; rfl⟩
        have HV := Box.mk hV
        rw [size_list] at HO3
        clear HO2 hp hV hbb
        go_wp2_with fail
        refine (rget_any vq L ⟨#[98, 111, 117, 110, 100, 97, 114, 121]⟩ _ HTL.out HFL.out).mono ?_
        rintro e w4 ⟨rfl, hb4⟩
        have hb04 := hb02.trans (hb4.mono hb02.size)
        rw [show (⟨#[98, 111, 117, 110, 100, 97, 114, 121]⟩ : ByteArray).data.toList = bdN from rfl, HV.out]
        clear HV HTL HFL
        go_wp2_with fail
        refine (in_any _ _ _ _).mono ?_
        rintro e w5 ⟨rfl, hw5⟩
        obtain rfl := hw5.symm
        by_cases h1 : 1 ≤ bb.size ∧ bb.size ≤ 70
        · have e1 : (decide ((1 : Int) ≤ (bb.size : Int)) && decide ((bb.size : Int) ≤ 70)) = true := by
            rw [decide_eq_true (by omega), decide_eq_true (by omega)]; rfl
          rw [e1]
          have hla := last_at bb (by omega)
          have hbyte : (bb[bb.size - 1].toNat : Int) < 256 := by have := bb[bb.size - 1].toNat_lt; omega
          have hidx : ((bb.size : Int) - 1).toNat = bb.size - 1 := by omega
          obtain ⟨h1, h1'⟩ := h1
          cases h2 : ((bb[bb.size - 1].toNat : Int) == 32)
          · have hne : bb.data.toList.getLast? ≠ some 32 := by
              intro h
              rw [hla, Option.some.injEq] at h
              rw [beq_eq_false_iff_ne] at h2
              apply h2
              rw [h]; rfl
            have HO4 : Box (O = .ok (some bb.data.toList)) := ⟨by rw [HO3.out, if_pos ⟨h1, h1', hne⟩]⟩
            clear hne
            clear HO3 hla e1
            go_wp2
            go_ret3
            refine ⟨?_, hb04⟩
            rw [HO4.out]
            exact ⟨bb, rfl, rfl, h1'⟩
          · have hne : bb.data.toList.getLast? = some 32 := by
              rw [hla]
              congr 1
              rw [beq_iff_eq] at h2
              apply UInt8.toNat_inj.1
              show _ = 32
              omega
            have HO4 : Box (O = .error 3) := ⟨by rw [HO3.out, if_neg (fun h => h.2.2 hne)]⟩
            clear hne
            clear HO3 hla e1
            go_wp2
            go_ret3
            refine ⟨?_, hb04⟩
            rw [HO4.out]; rfl
        · have e1 : (decide ((1 : Int) ≤ (bb.size : Int)) && decide ((bb.size : Int) ≤ 70)) = false := by
            rw [Bool.and_eq_false_iff]
            by_cases h : 1 ≤ bb.size
            · right; rw [decide_eq_false_iff_not]; omega
            · left; rw [decide_eq_false_iff_not]; omega
          rw [e1]
          have HO4 : Box (O = .error 3) := ⟨by rw [HO3.out, if_neg (fun h => h1 ⟨h.1, h.2.1⟩)]⟩
          clear HO3 e1
          go_wp2
          go_ret3
          refine ⟨?_, hb04⟩
          rw [HO4.out]; rfl

end Go.Proofs.YtmjijnfhgedmlaaGreatDoor

namespace Go.Proofs.YtmjijnfhgedmlaaGreatDoor
open Go.RowKit

/- What stands between the lines that part it: the reference's. -/
/-- 'append(v, t)', t a text, with where the row lies then. -/
theorem wp_appT2 {ops : Array Oper} {rest : List Oper} {o : Oper} {a : Act} {Q : Exit → Act → World → Prop} (W : World) (hgd : o.guard = none) (s x : Operand) (ho : o.op = .call { callee := .builtin .append, args := #[s, x], argTypes := #[57, 57] })
    (B : Nat) (v : Value) (L : List ByteArray) (hs : a.eval s = v) (hown : OwnS W B v L) (b c : Nat) (t : ByteArray) (hx : a.eval x = .slice (some ⟨b, 0, none⟩) 1 c) (h0 : W.cell? ⟨b, 0, none⟩ = some (.string t)) (hl : L.length + 1 ≤ 1000000) (hB : B ≤ W.heap.size)
    (h : ∀ v' w', OwnS w' B v' (L ++ [t]) → W.grownBy w' v.ownBlock → (v'.ownBlock = v.ownBlock ∨ v'.ownBlock = some W.heap.size) → wpList Tryz.prog ops Q rest (a.put o.dst v') w') : wpList Tryz.prog ops Q (o :: rest) a W := by
  refine wpList_plain hgd fun _ hK => ?_
  obtain ⟨i0, hi, hz0, hz1, hz2⟩ := info_parts Tryz.infoStr
  have hne : ∀ j u, [Value.string t][j]? = some u → W.cell? ((⟨b, 0, none⟩ : Addr).add j) = some u := by
    intro j u hj
    have hjl : j < 1 := (List.getElem?_eq_some_iff.1 hj).1
    rw [Addr.add_lit, Nat.zero_add]
    match j, hjl, hj with
    | 0, _, hj => rw [h0]; exact hj
  have hone : ∀ u ∈ [Value.string t], u.oneCell' = true := by
    intro u hu
    rw [List.mem_singleton.1 hu]; rfl
  obtain ⟨v', w', hr, k2, k3, _⟩ := run_append_own (P := Tryz.prog) W B 57 o.type 9 i0 (.string ⟨#[]⟩) 1 16 Tryz.underlying57 hi hz0 hz1 hz2 rfl (by decide) v L.length (L.map Value.string) hown ⟨b, 0, none⟩ 1 c [.string t] rfl hne hone (by unfold maxLen; omega) (by omega) hB
  have hblk := append_block W B 57 o.type 9 i0 (.string ⟨#[]⟩) 1 16 Tryz.underlying57 hi hz0 hz1 hz2 v L.length (L.map Value.string) hown ⟨b, 0, none⟩ 1 c [.string t] rfl hne hone (by decide) (by unfold maxLen; omega) (by omega) v' w' hr
  unfold Oper.wp execOp
  simp only [ho, resolve, invoke, builtin, Sem.run_bind, Sem.run_pure, Result.andThen_ok, List.map_toArray, List.map_cons, List.map_nil, hs, hx, hr]
  refine hK _ _ (h v' w' ?_ k3 hblk)
  unfold OwnS
  rw [List.length_append, List.map_append]
  exact k2
/-- Two rows lie apart. -/
def Dis (a b : Value) : Prop := ∀ i, a.ownBlock = some i → b.ownBlock ≠ some i
theorem own_other {w w' : World} {B : Nat} {v : Value} {l : List ByteArray} {r : Option Nat} (h : OwnS w B v l) (hg : w.grownBy w' r) (hd : ∀ i, v.ownBlock = some i → r ≠ some i) : OwnS w' B v l := by
  refine World.ownsRow.kept h hg ?_
  cases hv : v.ownBlock with
  | none => exact .inl rfl
  | some i => exact .inr fun e => hd i hv e.symm
theorem joinOwn (v : Value) (cs : List ByteArray) (B : Nat) (w : World) (h : OwnS w B v cs) (hl : ∀ x ∈ cs, x.size ≤ 100000) (hn : cs.length ≤ 100001) :
    Calls Tryz.prog 100 #[v, .string ⟨#[13, 10]⟩] w fun e w' => ∃ t : ByteArray, e = .returned (.string t) ∧ t.data.toList = joinC (cs.map lst) ∧ Below w.heap.size w w' := by
  rcases h.shape with ⟨rfl, rfl⟩ | ⟨g, cap, rfl, _, hg, hc, _, hcell⟩
  · refine (Tryz.strings_Join_none none 0 ⟨#[13, 10]⟩ w).mono ?_
    rintro e w' ⟨rfl, rfl⟩
    exact ⟨_, rfl, rfl, Below.refl _ _⟩
  · have := join_crlf (some ⟨g, 0, none⟩) g 0 cs.length cap cs w (fun _ => ⟨rfl, by omega⟩) hcell hg (Nat.zero_le _) (Nat.le_refl _) hl hn
    rw [Nat.sub_zero, List.take_of_length_le (by simp), List.drop_zero] at this
    exact this
def BetI (b : List UInt8) (LL : List (List UInt8)) (T : Option (List (List UInt8))) (k : Nat) (begun : Bool) (cur out : List (List UInt8)) : Prop := T = (betS b (LL.drop k) begun cur).map (out ++ ·)
theorem beti_none {b : List UInt8} {LL : List (List UInt8)} {T : Option (List (List UInt8))} {k : Nat} {q : Bool} {cur out : List (List UInt8)} (h : BetI b LL T k q cur out) (x : List UInt8) (hx : LL[k]? = some x) (hm : markOf b x = none) : BetI b LL T (k + 1) q (cur ++ [x]) out := by
  unfold BetI at h ⊢
  rw [h, drop_at LL k x hx, betS, hm]
theorem beti_begin {b : List UInt8} {LL : List (List UInt8)} {T : Option (List (List UInt8))} {k : Nat} {q : Bool} {cur out : List (List UInt8)} (h : BetI b LL T k q cur out) (x : List UInt8) (hx : LL[k]? = some x) (hm : markOf b x = some false) : BetI b LL T (k + 1) true [] (if q then out ++ [joinC cur] else out) := by
  unfold BetI at h ⊢
  rw [h, drop_at LL k x hx, betS, hm, Option.map_map]
  congr 1
  funext o
  cases q <;> simp
theorem beti_end {b : List UInt8} {LL : List (List UInt8)} {T : Option (List (List UInt8))} {k : Nat} {q : Bool} {cur out : List (List UInt8)} (h : BetI b LL T k q cur out) (x : List UInt8) (hx : LL[k]? = some x) (hm : markOf b x = some true) : T = some (if q then out ++ [joinC cur] else out) := by
  unfold BetI at h
  rw [h, drop_at LL k x hx, betS, hm]
  cases q <;> simp
theorem beti_out {b : List UInt8} {LL : List (List UInt8)} {T : Option (List (List UInt8))} {k : Nat} {q : Bool} {cur out : List (List UInt8)} (h : BetI b LL T k q cur out) (hk : LL.length ≤ k) : T = none := by
  unfold BetI at h
  rw [h, List.drop_of_length_le hk]; rfl
structure BW (w1 wr : World) (v6 v7 : Value) (out cur : List ByteArray) : Prop where
  o : OwnS wr w1.heap.size v6 out
  c : OwnS wr w1.heap.size v7 cur
  d : Dis v6 v7
  b : Below w1.heap.size w1 wr
theorem BW.below {w1 wr w' : World} {v6 v7 : Value} {out cur : List ByteArray} (h : BW w1 wr v6 v7 out cur) (hb : Below wr.heap.size wr w') : BW w1 w' v6 v7 out cur := ⟨h.o.below hb (Nat.le_refl _), h.c.below hb (Nat.le_refl _), h.d, h.b.trans (hb.mono h.b.size)⟩
theorem BW.app7 {w1 wr W w' : World} {v6 v7 v' : Value} {out cur cur' : List ByteArray} (h : BW w1 wr v6 v7 out cur) (hb : Below wr.heap.size wr W) (ho : OwnS w' w1.heap.size v' cur') (hg : W.grownBy w' v7.ownBlock) (hv : v'.ownBlock = v7.ownBlock ∨ v'.ownBlock = some W.heap.size) : BW w1 w' v6 v' out cur' := by
  have h2 := h.below hb
  refine ⟨own_other h2.o hg (fun i hi => h.d i hi), ho, fun i hi => ?_, h2.b.grown hg h2.b.size (fun k hk => (h.c.lt k hk).1)⟩
  rcases hv with hv | hv
  · rw [hv]; exact h.d i hi
  · rw [hv]; intro e; have := (h2.o.lt i hi).2; simp at e; omega
theorem BW.app6 {w1 wr W w' : World} {v6 v7 v' : Value} {out cur out' : List ByteArray} (h : BW w1 wr v6 v7 out cur) (hb : Below wr.heap.size wr W) (ho : OwnS w' w1.heap.size v' out') (hg : W.grownBy w' v6.ownBlock) : BW w1 w' v' (.slice none 0 0) out' [] := by
  have h2 := h.below hb
  exact ⟨ho, OwnS.nil _ _, fun i _ e => by simp [Value.ownBlock] at e, h2.b.grown hg h2.b.size (fun k hk => (h.o.lt k hk).1)⟩

set_option maxHeartbeats 2000000 in
set_option maxRecDepth 100000 in
theorem rbetween_any (s b : ByteArray) (w : World) (hs : s.size ≤ 100000) (hbs : b.size ≤ 100000) (hm : Max w) :
    Calls Tryz.prog 60 #[.string s, .string b] w fun e w' => CPost (betweenS b.data.toList s.data.toList) w.heap.size e w' ∧ Below w.heap.size w w' := by
  obtain ⟨T, HT⟩ : ∃ T, Box (T = betweenS b.data.toList s.data.toList) := ⟨_, ⟨rfl⟩⟩
  rw [← HT.out]
  have HMx := Box.mk hm
  have hsum : ¬ 9223372036854775807 < 2 + b.size := by omega
  clear hm
  go_enter Tryz.func60, Tryz.ntmps60
  go_wp2_with fail
  refine (split_any s _ hs HMx.out).mono ?_
  rintro e w1 ⟨n, L, rfl, hL, hn, hc, hx, hsp, hlt1, hb1⟩
  have HC := Box.mk hc
  have HX := Box.mk hx
  have hLn : L.length ≤ n := Nat.le_of_eq hL
  have hLn' : n ≤ L.length := Nat.le_of_eq hL.symm
  have H0 : Box (BetI b.data.toList (L.map lst) T 0 false [] []) := ⟨by unfold BetI; rw [HT.out, betweenS, ← hsp]; simp⟩
  clear hc hx hL hsp HT HMx
  go_wp2
  go_loopw [6, 7, 8, 15] (fun v6 v7 q8 i wr => ∃ (k : Nat) (q : Bool) (out cur : List ByteArray), k ≤ n ∧ i = .int .i64 k ∧ q8 = .bool q ∧ out.length ≤ k ∧ cur.length ≤ k ∧ Box (∀ x ∈ cur, x.size ≤ 100000) ∧ Box (BW w1 wr v6 v7 out cur) ∧ Box (BetI b.data.toList (L.map lst) T k q (cur.map lst) (out.map lst))) (fun _ _ _ i _ => n - (intOf i).toNat)
  case atStart => exact ⟨0, false, [], [], Nat.zero_le _, rfl, rfl, Nat.le_refl _, Nat.le_refl _, ⟨fun x hx => absurd hx (by simp)⟩, ⟨OwnS.nil _ _, OwnS.nil _ _, fun i e => by simp [Value.ownBlock] at e, Below.refl _ _⟩, H0⟩
  case round =>
    obtain ⟨k, q, out, cur, hk, rfl, rfl, hout, hcur, HS, HW, HI⟩ := hrel
    have hsz := HW.out.b.size
    by_cases hlt : k < n
    · have hkL : k < L.length := by omega
      obtain ⟨x, HXk⟩ : ∃ x, Box (L[k]? = some x) := ⟨_, ⟨List.getElem?_eq_getElem hkL⟩⟩
      have hcell : wr.cell? ⟨w.heap.size, k, none⟩ = some (.string x) := by
        rw [HW.out.b.cell (p := ⟨w.heap.size, k, none⟩) hlt1, HC.out k hkL]
        have := HXk.out
        rw [List.getElem?_eq_getElem hkL] at this
        rw [Option.some.inj this]
      have HXl : Box ((L.map lst)[k]? = some x.data.toList) := ⟨by rw [List.getElem?_map, HXk.out]; rfl⟩
      have hxs : x.size ≤ 100000 := by
        have := HX.out x (List.mem_of_getElem? HXk.out)
        omega
      clear HXk hkL HC HX
      have HS' : Box (∀ y ∈ cur ++ [x], y.size ≤ 100000) := ⟨fun y hy => by
        rcases List.mem_append.1 hy with hy | hy
        · exact HS.out y hy
        · rw [List.mem_singleton.1 hy]; exact hxs⟩
      cases hp : Lib.hasPrefix x.data.toList (lead b.data.toList)
      · have hm : markOf b.data.toList x.data.toList = none := by unfold markOf; rw [if_neg (by rw [show (lead b.data.toList).isPrefixOf x.data.toList = Lib.hasPrefix x.data.toList (lead b.data.toList) from rfl, hp]; decide)]
        have HI' := Box.mk (beti_none HI.out _ HXl.out hm)
        have HE : Box ((cur ++ [x]).map lst = cur.map lst ++ [x.data.toList]) := ⟨by rw [List.map_append]; rfl⟩
        rw [← HE.out] at HI'
        have hp' := Box.mk hp
        clear HI hm hp HXl HE
        go_wp2_with fail
        refine (Tryz.strings_HasPrefix x _ _).mono ?_
        rintro e w2 ⟨rfl, hw2⟩
        obtain rfl := hw2.symm
        rw [lead_list, hp'.out]
        clear hp'
        go_wp2_with (at_builtin; refine wp_appT2 _ rfl (.tmp 35) (.tmp 37) rfl w1.heap.size _ cur rfl (OwnS.below HW.out.c (below_oneP _ _) (Nat.le_refl _)) _ _ x rfl (by simp) (by omega) (by simp; omega) ?_; intro v3 w3 hown3 hg3 hv3)
        go_roundw
        case rel => exact ⟨k + 1, q, out, cur ++ [x], by omega, by go_num, rfl, by omega, by simp; omega, HS', ⟨HW.out.app7 (below_oneP _ _) hown3 hg3 hv3⟩, HI'⟩
        case measure => simp [intOf]; omega
      · have HM : Box (markOf b.data.toList x.data.toList = if trimS (x.data.toList.drop (lead b.data.toList).length) = [] then some false else if trimS (x.data.toList.drop (lead b.data.toList).length) = [45, 45] then some true else none) := ⟨by unfold markOf; rw [if_pos (by rw [show (lead b.data.toList).isPrefixOf x.data.toList = Lib.hasPrefix x.data.toList (lead b.data.toList) from rfl, hp])]⟩
        have hpl : 2 + b.size ≤ x.size := by
          have h1 : lead b.data.toList <+: x.data.toList := List.isPrefixOf_iff_prefix.1 hp
          have h2 := h1.length_le
          have h3 : (lead b.data.toList).length = b.size + 2 := by rw [lead]; simp
          rw [size_list] at h2
          omega
        obtain ⟨r, HR⟩ : ∃ r : ByteArray, Box (r = x.extract (2 + b.size) x.size) := ⟨_, ⟨rfl⟩⟩
        have HRl : Box (r.data.toList = x.data.toList.drop (lead b.data.toList).length) := ⟨by
          rw [HR.out, extract_list, show (lead b.data.toList).length = 2 + b.size by rw [lead]; simp; omega, List.take_of_length_le (by rw [List.length_drop, size_list]; omega)]⟩
        have hrs : r.size ≤ 100000 := by rw [HR.out, ByteArray.size_extract]; omega
        have hp' := Box.mk hp
        clear hp
        go_wp2_with fail
        refine (Tryz.strings_HasPrefix x _ _).mono ?_
        rintro e w2 ⟨rfl, hw2⟩
        obtain rfl := hw2.symm
        rw [lead_list, hp'.out]
        clear hp'
        go_wp2_with fail
        rw [← HR.out]
        refine (rTrim_any r _ (by omega)).mono ?_
        rintro e w3 ⟨t, rfl, ht, hw3⟩
        obtain rfl := hw3.symm
        rw [← HRl.out, ← ht] at HM
        clear ht HRl HR
        by_cases e1 : t.data.toList = []
        · have hm := HM.out
          rw [if_pos e1] at hm
          have HI' := Box.mk (beti_begin HI.out _ HXl.out hm)
          have f1 : t.toList.isEmpty = true := by rw [ByteArray.toList_eq, e1]; rfl
          have f2 := tne_of t [45, 45] (by rw [e1]; decide)
          clear HM hm HI HXl e1
          cases q
          · go_wp2
            go_roundw
            case rel => exact ⟨k + 1, true, out, [], by omega, by go_num, rfl, by omega, by simp, ⟨fun x hx => absurd hx (by simp)⟩, ⟨HW.out.o, OwnS.nil _ _, fun i _ e => by simp [Value.ownBlock] at e, HW.out.b⟩, HI'⟩
            case measure => simp [intOf]; omega
          · go_wp2_with fail
            refine (joinOwn _ cur _ _ HW.out.c HS.out (by omega)).mono ?_
            rintro e w4 ⟨j, rfl, hj, hb4⟩
            have HE : Box ((out ++ [j]).map lst = out.map lst ++ [joinC (cur.map lst)]) := ⟨by rw [List.map_append, ← hj]; rfl⟩
            have HI2 : Box (BetI b.data.toList (L.map lst) T (k + 1) true [] ((out ++ [j]).map lst)) := ⟨by rw [HE.out]; exact HI'.out⟩
            clear hj HE HI'
            have hsz4 := hb4.size
            go_wp2_with (at_builtin; refine wp_appT2 _ rfl (.tmp 40) (.tmp 43) rfl w1.heap.size _ out rfl (OwnS.below (HW.out.below hb4).o (below_oneP _ _) (Nat.le_refl _)) _ _ j rfl (by simp) (by omega) (by simp; omega) ?_; intro v5 w5 hown5 hg5 hv5)
            go_roundw
            case rel => exact ⟨k + 1, true, out ++ [j], [], by omega, by go_num, rfl, by simp; omega, by simp, ⟨fun x hx => absurd hx (by simp)⟩, ⟨(HW.out.below hb4).app6 (below_oneP _ _) hown5 hg5⟩, HI2⟩
            case measure => simp [intOf]; omega
        · have f1 : t.toList.isEmpty = false := by rw [ByteArray.toList_eq, ← Bool.not_eq_true, List.isEmpty_iff]; exact e1
          by_cases e2 : t.data.toList = [45, 45]
          · have hm := HM.out
            rw [if_neg e1, if_pos e2] at hm
            have HI' := Box.mk (beti_end HI.out _ HXl.out hm)
            have f2 := teq_of t [45, 45] e2
            clear HM hm HI HXl e1 e2
            cases q
            · go_wp2
              go_ret2
              refine ⟨?_, hb1.trans (HW.out.b.mono hb1.size)⟩
              rw [HI'.out]
              exact ⟨_, out, rfl, HW.out.o.mono hb1.size, rfl, by omega⟩
            · go_wp2_with fail
              refine (joinOwn _ cur _ _ HW.out.c HS.out (by omega)).mono ?_
              rintro e w4 ⟨j, rfl, hj, hb4⟩
              have HE : Box ((out ++ [j]).map lst = out.map lst ++ [joinC (cur.map lst)]) := ⟨by rw [List.map_append, ← hj]; rfl⟩
              have HI2 : Box (T = some ((out ++ [j]).map lst)) := ⟨by rw [HE.out]; exact HI'.out⟩
              clear hj HE HI'
              have hsz4 := hb4.size
              go_wp2_with (at_builtin; refine wp_appT2 _ rfl (.tmp 40) (.tmp 43) rfl w1.heap.size _ out rfl (OwnS.below (HW.out.below hb4).o (below_oneP _ _) (Nat.le_refl _)) _ _ j rfl (by simp) (by omega) (by simp; omega) ?_; intro v5 w5 hown5 hg5 hv5)
              go_ret2
              refine ⟨?_, hb1.trans (((HW.out.below hb4).app6 (below_oneP _ _) hown5 hg5).b.mono hb1.size)⟩
              rw [HI2.out]
              exact ⟨_, _, rfl, hown5.mono hb1.size, rfl, by simp; omega⟩
          · have hm := HM.out
            rw [if_neg e1, if_neg e2] at hm
            have HI' := Box.mk (beti_none HI.out _ HXl.out hm)
            have HE : Box ((cur ++ [x]).map lst = cur.map lst ++ [x.data.toList]) := ⟨by rw [List.map_append]; rfl⟩
            rw [← HE.out] at HI'
            have f2 := tne_of t [45, 45] e2
            clear HM hm HI HXl e1 e2 HE
            go_wp2_with (at_builtin; refine wp_appT2 _ rfl (.tmp 35) (.tmp 37) rfl w1.heap.size _ cur rfl (OwnS.below HW.out.c (below_oneP _ _) (Nat.le_refl _)) _ _ x rfl (by simp) (by omega) (by simp; omega) ?_; intro v3 w3 hown3 hg3 hv3)
            go_roundw
            case rel => exact ⟨k + 1, q, out, cur ++ [x], by omega, by go_num, rfl, by omega, by simp; omega, HS', ⟨HW.out.app7 (below_oneP _ _) hown3 hg3 hv3⟩, HI'⟩
            case measure => simp [intOf]; omega
    · have HE := Box.mk (beti_out HI.out (by rw [List.length_map]; omega))
      clear HI HC HX
      go_wp2
      go_ret2
      refine ⟨?_, hb1.trans (HW.out.b.mono hb1.size)⟩
      rw [HE.out]; rfl

end Go.Proofs.YtmjijnfhgedmlaaGreatDoor

namespace Go.Proofs.YtmjijnfhgedmlaaGreatDoor
open Go.RowKit

/- The reference's reader of parts. -/
def RrPost (O : Except Nat (PT × Nat)) (d bc B : Nat) (e : Ending) (w' : World) : Prop :=
  match O with
  | .error c => ∃ A1 n1 c1 bb mm A2 n2 c2, e = .returned (.tuple #[.agg #[.slice A1 n1 c1, .string bb, .bool mm, .slice A2 n2 c2], .int .i64 c])
  | .ok q => ∃ v : P4, e = .returned (.tuple #[v.v, .int .i64 0]) ∧ PV w' (fun i => B ≤ i) d v q.1 ∧ CI w' bc q.2
theorem maniesS_err (L : List PB) (c : Nat) (h : maniesS L = .error c) : c = 3 := by
  unfold maniesS at h
  split at h
  · cases h
  · split at h
    · cases h; rfl
    · split at h
      · split at h
        · cases h
        · cases h; rfl
      · cases h
theorem decodeU_err (L : List PB) (b : List UInt8) (c : Nat) (h : decodeU L b = .error c) : c = 3 ∨ c = 5 := by
  have hs : ∀ o : Option (List UInt8), someOr 3 o = .error c → c = 3 := by
    intro o h; cases o with
    | none => cases h; rfl
    | some _ => cases h
  unfold decodeU at h
  split at h
  · cases h
  · split at h
    · cases h
    · split at h
      · exact .inl (hs _ h)
      · split at h
        · exact .inl (hs _ h)
        · cases h; exact .inr rfl
theorem headR_err (s : List UInt8) (c : Nat) (h : headR s = .error c) : c = 3 ∨ c = 1 := by
  unfold headR at h
  split at h
  · cases h; exact .inl rfl
  · split at h
    · cases h
    · cases h; exact .inr rfl
theorem readU_err : ∀ (d n : Nat) (s : List UInt8) (c : Nat), readU d n s = .error c → 1 ≤ c ∧ c ≤ 5 := by
  intro d
  induction d with
  | zero => intro n s c h; cases h; decide
  | succ d ih =>
    intro n s c h
    unfold readU at h
    split at h
    · cases h; decide
    · have hall : ∀ (xs : List (List UInt8)) (n : Nat), allG (readU d) xs n = .error c → 1 ≤ c ∧ c ≤ 5 := by
        intro xs
        induction xs with
        | nil => intro n h; cases h
        | cons x xs ihx =>
          intro n h
          unfold allG at h
          cases h1 : readU d n x with
          | error c1 => rw [h1] at h; cases h; exact ih _ _ _ h1
          | ok q1 =>
            rw [h1] at h
            simp only at h
            cases h2 : allG (readU d) xs q1.2 with
            | error c2 => rw [h2] at h; cases h; exact ihx _ h2
            | ok q2 => rw [h2] at h; cases h
      cases h1 : headR s with
      | error c1 => rw [h1] at h; cases h; have := headR_err _ _ h1; omega
      | ok hh =>
        rw [h1] at h
        simp only at h
        cases h2 : maniesS hh.1 with
        | error c2 => rw [h2] at h; cases h; have := maniesS_err _ _ h2; omega
        | ok o =>
          rw [h2] at h
          cases o with
          | none =>
            simp only at h
            cases h3 : decodeU hh.1 hh.2 with
            | error c3 => rw [h3] at h; cases h; have := decodeU_err _ _ _ h3; omega
            | ok b => rw [h3] at h; cases h
          | some b =>
            simp only at h
            cases h3 : betweenS b hh.2 with
            | none => rw [h3] at h; cases h; decide
            | some xs =>
              rw [h3] at h
              simp only at h
              cases h4 : allG (readU d) xs (n + 1) with
              | error c4 => rw [h4] at h; cases h; exact hall _ _ h4
              | ok r => rw [h4] at h; cases h
abbrev obj4 (v0 v1 v2 v3 : Value) : Obj := .cells #[v0, v1, v2, v3] 35
theorem set4_heap (w : World) (b : Nat) (o0 o1 o2 o3 v0 v1 v2 v3 : Value) (h : w.heap[b]? = some (obj4 o0 o1 o2 o3)) : ((((w.setCell ⟨b, 0, none⟩ v0).setCell ⟨b, 1, none⟩ v1).setCell ⟨b, 2, none⟩ v2).setCell ⟨b, 3, none⟩ v3).heap[b]? = some (obj4 v0 v1 v2 v3) := by
  have h1 : (w.setCell ⟨b, 0, none⟩ v0).heap[b]? = some (obj4 v0 o1 o2 o3) := by
    rw [setCell_eq_setRow w b 0 _ _ _ _ h]; exact setRow_heap w b _ _ _ _ h
  have h2 : ((w.setCell ⟨b, 0, none⟩ v0).setCell ⟨b, 1, none⟩ v1).heap[b]? = some (obj4 v0 v1 o2 o3) := by
    rw [setCell_eq_setRow _ b 1 _ _ _ _ h1]; exact setRow_heap _ b _ _ _ _ h1
  have h3 : (((w.setCell ⟨b, 0, none⟩ v0).setCell ⟨b, 1, none⟩ v1).setCell ⟨b, 2, none⟩ v2).heap[b]? = some (obj4 v0 v1 v2 o3) := by
    rw [setCell_eq_setRow _ b 2 _ _ _ _ h2]; exact setRow_heap _ b _ _ _ _ h2
  rw [setCell_eq_setRow _ b 3 _ _ _ _ h3]; exact setRow_heap _ b _ _ _ _ h3
theorem set_heap1 (w : World) (b : Nat) (o0 o1 o2 o3 v : Value) (h : w.heap[b]? = some (obj4 o0 o1 o2 o3)) : (w.setCell ⟨b, 1, none⟩ v).heap[b]? = some (obj4 o0 v o2 o3) := by
  rw [setCell_eq_setRow w b 1 _ _ _ _ h]; exact setRow_heap w b _ _ _ _ h
theorem set_heap3 (w : World) (b : Nat) (o0 o1 o2 o3 v : Value) (h : w.heap[b]? = some (obj4 o0 o1 o2 o3)) : (w.setCell ⟨b, 3, none⟩ v).heap[b]? = some (obj4 o0 o1 o2 v) := by
  rw [setCell_eq_setRow w b 3 _ _ _ _ h]; exact setRow_heap w b _ _ _ _ h
theorem gr_set4 (w : World) (b : Nat) (v0 v1 v2 v3 : Value) : w.grownBy ((((w.setCell ⟨b, 0, none⟩ v0).setCell ⟨b, 1, none⟩ v1).setCell ⟨b, 2, none⟩ v2).setCell ⟨b, 3, none⟩ v3) (some b) :=
  gr_trans (gr_trans (gr_trans (gr_set _ _ _ _) (gr_set _ _ _ _)) (gr_set _ _ _ _)) (gr_set _ _ _ _)

theorem gr_drew {w a : World} {r : Option Nat} (h : w.grownBy a r) : w.grownBy a.drew r := ⟨h.os, h.tape, h.output, h.size, h.block⟩
/-- What stands while a part is read: the count, and the part's own block. -/
structure Cx (w W : World) (bc n : Nat) (o : Obj) : Prop where
  g : w.grownBy W (some bc)
  c : CI W bc n
  m : Max W
  k : W.heap[w.heap.size]? = some o
  lb : 1 < bc
  lw : bc < w.heap.size
theorem Cx.lt {w W : World} {bc n : Nat} {o : Obj} (h : Cx w W bc n o) : w.heap.size < W.heap.size := (Array.getElem?_eq_some_iff.1 h.k).1
theorem Cx.below {w W W' : World} {bc n : Nat} {o : Obj} (h : Cx w W bc n o) (hb : Below W.heap.size W W') : Cx w W' bc n o :=
  ⟨gr_trans h.g (gr_below hb _), h.c.below hb h.c.lt, h.m.below hb h.m.1, (hb.block _ h.lt).trans h.k, h.lb, h.lw⟩
theorem Cx.other {w W W' : World} {bc n b : Nat} {o : Obj} (h : Cx w W bc n o) (hg : W.grownBy W' (some b)) (hb : w.heap.size < b) : Cx w W' bc n o := by
  have h1 := h.lw
  have h2 := h.lt
  have h3 := h.lb
  refine ⟨gr_own h.g hg (fun k e => by cases e; omega), h.c.own hg (by simp; omega), ?_, (hg.block _ h2 (by simp; omega)).trans h.k, h.lb, h.lw⟩
  obtain ⟨m1, m, hm⟩ := h.m
  exact ⟨Nat.lt_of_lt_of_le m1 hg.size, m, (World.cell?_of_block (a := ⟨1, 0, none⟩) (hg.block _ m1 (by simp; omega))).trans hm⟩
theorem Cx.own6 {w W W' : World} {bc n : Nat} {o o' : Obj} (h : Cx w W bc n o) (hg : W.grownBy W' (some w.heap.size)) (hk : W'.heap[w.heap.size]? = some o') : Cx w W' bc n o' := by
  have h1 := h.lw
  have h2 := h.lt
  have h3 := h.lb
  refine ⟨gr_own h.g hg (fun k e => by cases e; omega), h.c.own hg (by simp; omega), ?_, hk, h.lb, h.lw⟩
  obtain ⟨m1, m, hm⟩ := h.m
  exact ⟨Nat.lt_of_lt_of_le m1 hg.size, m, (World.cell?_of_block (a := ⟨1, 0, none⟩) (hg.block _ m1 (by simp; omega))).trans hm⟩
theorem Cx.deep {w W W' : World} {bc n n' : Nat} {o : Obj} (h : Cx w W bc n o) (hg : W.grownBy W' (some bc)) (hc : CI W' bc n') : Cx w W' bc n' o :=
  ⟨gr_trans h.g hg, hc, h.m.below (below_gr hg (Nat.le_refl _) h.c.lt) h.lb, (hg.block _ h.lt (by have := h.lw; simp; omega)).trans h.k, h.lb, h.lw⟩
theorem Cx.drew {w W : World} {bc n : Nat} {o : Obj} (h : Cx w W bc n o) : Cx w W.drew bc n o := h.below ((Below.refl _ _).drew)
theorem ret_at {P : Program} {f : Func} {Q : Ending → World → Prop} {a : Act} {W : World} (h : ∀ W', W' = W → bodyPost P f Q Exit.ret a W') : bodyPost P f Q Exit.ret a W := h W rfl
/-- A fault's block. -/
theorem b2_of {w : World} {b : Nat} {v0 v1 : Value} {t : TypeId} (h : w.heap[b]? = some (.cells #[v0, v1] t (0, 0))) : w.cell? ⟨b, 0, none⟩ = some v0 ∧ w.cell? ⟨b, 1, none⟩ = some v1 ∧ ∀ i, w.frozen? ⟨b, i, none⟩ = false :=
  ⟨by simp [World.cell?, h], by simp [World.cell?, h], fun i => by simp [World.frozen?, h]⟩
def manyR (L : List PB) (R : Except Nat (List PT × Nat)) : Except Nat (PT × Nat) :=
  match R with
  | .error e => .error e
  | .ok r => .ok (.mk L [] true r.1, r.2)
/-- What is asked of the reference's reader at a depth. -/
def RrAt (d : Nat) : Prop := ∀ (s : ByteArray) (n bc k : Nat) (w : World), s.size ≤ 3000 → n ≤ 40 → k + d = 4 → CI w bc n → Max w → 1 < bc →
    Calls Tryz.prog 37 #[.string s, .int .i64 k, .pointer (some ⟨bc, 0, none⟩)] w fun e w' => RrPost (readU d n s.data.toList) d bc w.heap.size e w' ∧ w.grownBy w' (some bc)

set_option maxHeartbeats 2000000 in
set_option maxRecDepth 100000 in
theorem rread_no (d : Nat) (s : ByteArray) (n bc k : Nat) (w : World) (hn : n ≤ 1000000) (hk : k ≤ 1000000) (hx : 40 ≤ n ∨ 4 ≤ k) (hc : CI w bc n) :
    Calls Tryz.prog 37 #[.string s, .int .i64 k, .pointer (some ⟨bc, 0, none⟩)] w fun e w' => RrPost (.error 4) d bc w.heap.size e w' ∧ w.grownBy w' (some bc) := by
  have hb0 := below_oneP w zeroO
  obtain ⟨c, f, lt⟩ := hc.below hb0 hc.lt
  obtain ⟨x0, x1, x2, x3, xf⟩ := b4_of (heap_oneP w zeroO)
  clear hc
  by_cases h1 : 40 ≤ n
  · clear hx
    go_enter Tryz.func37, Tryz.ntmps37
    go_wp2
    refine bodyPost_ret (v := .tuple #[zeroP, .int .i64 4]) (by simp [results, Tryz.results37, go_sem, x0, x1, x2, x3]) rfl ⟨⟨_, _, _, _, _, _, _, _, rfl⟩, ?_⟩
    exact gr_below hb0 _
  · have h2 : 4 ≤ k := by omega
    clear hx
    go_enter Tryz.func37, Tryz.ntmps37
    go_wp2
    refine bodyPost_ret (v := .tuple #[zeroP, .int .i64 4]) (by simp [results, Tryz.results37, go_sem, x0, x1, x2, x3]) rfl ⟨⟨_, _, _, _, _, _, _, _, rfl⟩, ?_⟩
    exact gr_below hb0 _

end Go.Proofs.YtmjijnfhgedmlaaGreatDoor

