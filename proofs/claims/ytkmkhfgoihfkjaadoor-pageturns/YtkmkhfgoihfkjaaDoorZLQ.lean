import Derived.Test.YtkmkhfgoihfkjaaDoorZLO
import Derived.Test.YtkmkhfgoihfkjaaDoorZ2
namespace Go.Proofs.YtkmkhfgoihfkjaaDoor
open Go.RowKit

/- Lists of texts that lie somewhere. -/
def TL (w : World) (v : Value) (xs : List ByteArray) : Prop := ∃ A cap, v = .slice A xs.length cap ∧ xs.length ≤ cap ∧ ∀ k (hk : k < xs.length), ∃ b off, A = some ⟨b, off, none⟩ ∧ w.cell? ⟨b, off + k, none⟩ = some (.string xs[k])
theorem TL.below {w w' : World} {v : Value} {xs : List ByteArray} (h : TL w v xs) (hb : Below w.heap.size w w') : TL w' v xs := by
  obtain ⟨A, cap, h1, h2, h3⟩ := h
  refine ⟨A, cap, h1, h2, fun k hk => ?_⟩
  obtain ⟨b, off, h4, h5⟩ := h3 k hk
  exact ⟨b, off, h4, (hb.cell (p := ⟨b, off + k, none⟩) (World.block_lt_of_cell? w _ h5)).trans h5⟩
theorem OwnS.tl {w : World} {B : Nat} {v : Value} {xs : List ByteArray} (h : OwnS w B v xs) : TL w v xs := by
  rcases h.shape with ⟨rfl, rfl⟩ | ⟨g, cap, rfl, _, _, hc, _, hk⟩
  · exact ⟨_, _, rfl, Nat.le_refl _, fun k hk => absurd hk (by simp)⟩
  · exact ⟨_, _, rfl, hc, fun k h => ⟨g, 0, rfl, by rw [Nat.zero_add]; exact hk k h⟩⟩
def tls (xs : List ByteArray) : List (List UInt8) := xs.map fun x => x.data.toList
theorem rep_len {s tl T : List UInt8} {lks : List (Nat × Nat × List UInt8)} {xs : List (List UInt8)} {d : Nat} {O : List UInt8} (h : RepAt s tl T lks xs d O) : O.length ≤ T.length := by
  obtain ⟨its, pend, _, _, _, h3, _⟩ := h.ex
  have := congrArg List.length h3
  rw [List.length_append] at this
  omega
theorem drop_atP {α β : Type} (f : α → β) (l : List α) (k : Nat) (h : k < l.length) : (l.drop k).map f = f l[k] :: (l.drop (k + 1)).map f := by
  rw [List.drop_eq_getElem_cons h, List.map_cons]

set_option maxHeartbeats 4000000 in
set_option maxRecDepth 100000 in
theorem replace_any (pg : ByteArray) (A : Option Addr) (cap : Nat) (xs : List ByteArray) (w : World) (hG : PGB w w.heap.size) (hl : pg.size ≤ 100000000) (its : List PItem) (tl : List UInt8) (hR : Run none pg.data.toList its tl) (hX : TL w (.slice A xs.length cap) xs) (hxs : ∀ x ∈ xs, x.size ≤ 100000000) (hn : xs.length = countP its) (hT : (outP its ((tls xs).map escS) tl).length ≤ 1000000000) :
    Calls Tryd.prog 6 #[.string pg, .slice A xs.length cap] w fun e w' => ∃ S : ByteArray, e = .returned (.tuple #[.string S, .nilIface]) ∧ S.data.toList = outP its ((tls xs).map escS) tl ∧ Below w.heap.size w w' := by
  obtain ⟨T, HT⟩ : ∃ T, Box (outP its ((tls xs).map escS) tl = T) := ⟨_, ⟨rfl⟩⟩
  have HB0 : Box (RepAt pg.data.toList tl T (linksP 0 its) (tls xs) 0 []) := ⟨by rw [← HT.out]; exact rep_begin _ its tl hR (tls xs)⟩
  rw [HT.out] at hT ⊢
  have hnl : (linksP 0 its).length = xs.length := by rw [links_len, hn]
  have hxl : xs.length ≤ 100000000 := by have := run_count none _ its tl hR; rw [size_list] at this; omega
  have HG := Box.mk hG
  have HX := Box.mk hX
  have HXS := Box.mk hxs
  have HLK := Box.mk (links_any pg w hG hl its tl hR)
  clear hG hX hxs hn hR HT
  go_enter Tryd.func6, Tryd.ntmps6
  go_wp2_with fail
  refine HLK.out.mono ?_
  rintro e w1 ⟨v, ls, rfl, hO, hls, hb1⟩
  have hll : xs.length = ls.length := by rw [← hnl, ← hls, List.length_map]
  rw [← hls] at HB0
  obtain ⟨AL, capL, hv, hcL⟩ := hO.len
  subst hv
  have HO := Box.mk hO
  have hq : ((ls.length : Int) != (ls.length : Int)) = false := by simp
  have hq1 : (ls.length : Int) = (ls.length : Int) := rfl
  clear hO hls hnl HLK
  rw [hll] at HX ⊢
  have HLL := Box.mk hll
  have hlsl : ls.length ≤ 100000000 := by omega
  clear hll hxl
  go_wp2
  have HBd : Box (Lib.IsBuilderF 42 5 w1.heap.size w1.heap.size (Lib.byteCells []) (w1.alloc (.cells #[.pointer none, .slice none 0 0] 42))) := ⟨Lib.IsBuilderF.of (.inl ⟨Nat.le_refl _, _, alloc_new w1 _, World.ownsRow_nil _ _ _ _, by simp [Value.ownBlock]⟩)⟩
  have hb2 : Below w1.heap.size w1 (w1.alloc (.cells #[.pointer none, .slice none 0 0] 42)) := (Below.refl _ _).alloc (Nat.le_refl _) _
  have hsw := hb1.size
  clear hq
  go_loopg [8, 21] ls.length (fun gf dv iv wx => ∃ (k d : Nat) (O : List UInt8), k ≤ ls.length ∧ dv = .int .i64 d ∧ iv = .int .i64 k ∧ Below w1.heap.size w1 wx ∧ Box (Lib.IsBuilderF 42 5 w1.heap.size w1.heap.size (Lib.byteCells O) wx) ∧ Box (RepAt pg.data.toList tl T ((ls.drop k).map lk2) ((tls xs).drop k) d O) ∧ ls.length - k ≤ gf)
  case atStart => exact ⟨0, 0, [], Nat.zero_le _, rfl, rfl, hb2, HBd, HB0, by omega⟩
  case round =>
    clear HBd hb2 HB0
    obtain ⟨k, d, O, hk, rfl, rfl, hbw, HB, HR, hgf⟩ := hrel
    have hsz := hbw.size
    have hOl := rep_len HR.out
    by_cases hlt : k < ls.length
    · have hlx : k < xs.length := by rw [HLL.out]; exact hlt
      have HLT := Box.mk hlt
      obtain ⟨x, hx⟩ : ∃ x, xs[k] = x := ⟨_, rfl⟩
      have hxs : x.size ≤ 100000000 := by rw [← hx]; exact HXS.out _ (List.getElem_mem hlx)
      obtain ⟨bv, off, hA, hcv⟩ : ∃ bv off, A = some ⟨bv, off, none⟩ ∧ w.cell? ⟨bv, off + k, none⟩ = some (.string x) := by
        obtain ⟨A', cap', h1, _, h3⟩ := HX.out
        obtain ⟨bv, off, h4, h5⟩ := h3 k hlx
        simp only [Value.slice.injEq] at h1
        exact ⟨bv, off, h1.1.trans h4, by rw [← hx]; exact h5⟩
      have hbvl := World.block_lt_of_cell? w _ hcv
      subst hA
      rcases HO.out.shape with ⟨_, h0⟩ | ⟨g, cg, hg, hg1, hg2, _⟩
      · rw [h0] at hlt; exact absurd hlt (by simp)
      · simp only [Value.slice.injEq] at hg
        obtain ⟨rfl, _, rfl⟩ := hg
        obtain ⟨c0, c1, c2⟩ := (HO.out.below hbw (Nat.le_refl _)).cell k hlt
        obtain ⟨⟨a, n, V⟩, hlk⟩ : ∃ q, ls[k] = q := ⟨_, rfl⟩
        rw [hlk] at c0 c1 c2
        have HR1 : Box (RepAt pg.data.toList tl T ((a, n, V.data.toList) :: (ls.drop (k + 1)).map lk2) (x.data.toList :: (tls xs).drop (k + 1)) d O) := ⟨by
          have h := HR.out
          rw [drop_atP lk2 ls k hlt, hlk] at h
          have e : (tls xs).drop k = x.data.toList :: (tls xs).drop (k + 1) := by
            unfold tls
            rw [← List.map_drop, drop_atP _ xs k hlx, hx, List.map_drop]
          rw [e] at h
          exact h⟩
        clear HR hlk
        obtain ⟨r1, r2, r3, r4⟩ := rep_step HR1.out
        rw [size_list] at r3
        obtain ⟨a', rfl⟩ : ∃ a', a = a' + 1 := ⟨a - 1, by omega⟩
        have ha' : a' < pg.size := by omega
        have HR2 := Box.mk (r4 pg[a'] (by rw [Nat.add_sub_cancel]; exact getL pg a' ha'))
        clear r4 HR1
        have k1 : (0 : Int) ≤ (d : Int) := by omega
        have k2 : (d : Int) ≤ ((a' + 1 : Nat) : Int) := by omega
        have k3 : ((a' + 1 : Nat) : Int) ≤ (pg.size : Int) := by omega
        have HO2 : Box ((Lib.byteCells O).length ≤ 1000000000) := ⟨by simp only [Lib.byteCells, List.length_map]; omega⟩
        go_wp2_with fail
        obtain ⟨ob, hob⟩ : ∃ ob, ob = Obj.cells #[Value.int IntKind.i64 ((a' : Int) + 1), Value.int IntKind.i64 (n : Int), Value.string V] 27 := ⟨_, rfl⟩
        rw [← hob]
        have hbA : Below wr.heap.size wr (wr.alloc ob) := (Below.refl _ _).alloc (Nat.le_refl _) _
        have hnew : (wr.alloc ob).heap[wr.heap.size]? = some (.cells #[Value.int IntKind.i64 ((a' : Int) + 1), Value.int IntKind.i64 (n : Int), Value.string V] 27 (0, 0)) := by rw [hob]; exact alloc_new wr _
        have HB2 := Box.mk (ib_below HB.out hbA)
        have hsA : (wr.alloc ob).heap.size = wr.heap.size + 1 := by simp
        refine (Tryd.Builder_WriteString w1.heap.size w1.heap.size _ (pg.extract d (a' + 1)) _ HB2.out (by have := HO2.out; rw [← size_list, extract_list, List.length_take, List.length_drop, size_list]; omega) (by omega)).mono ?_
        rintro e w4 ⟨rfl, hA4, hb4, ho4⟩
        have hne := ib_ne HB2.out hnew (by decide)
        have h4 := kept_heap ho4 hnew hne (by decide)
        have p0 : w4.cell? ⟨wr.heap.size, 0, none⟩ = some (.int .i64 ((a' : Int) + 1)) := by simp [World.cell?, h4]
        have p1 : w4.cell? ⟨wr.heap.size, 1, none⟩ = some (.int .i64 (n : Int)) := by simp [World.cell?, h4]
        have hbw4 : Below w1.heap.size w1 w4 := (hbw.trans (hbA.mono hsz)).trans hb4
        have hb04 : Below w.heap.size w w4 := hb1.trans (hbw4.mono hsw)
        have p2 : w4.cell? ⟨bv, off + k, none⟩ = some (.string x) := (hb04.cell (p := ⟨bv, off + k, none⟩) hbvl).trans hcv
        have HW4 := Box.mk ((HG.out.below hb04).gp.words)
        have HB4 : Box (Lib.IsBuilderF 42 5 w1.heap.size w1.heap.size (Lib.byteCells (O ++ (pg.extract d (a' + 1)).data.toList)) w4) := ⟨by rw [← bcells_snoc]; exact .inr hA4⟩
        have hs4 := hbw4.size
        have HK : Box (∀ w', Below w4.heap.size w4 w' → (w'.cell? ⟨bv, off + k, none⟩ = some (.string x) ∧ w'.cell? ⟨wr.heap.size, 0, none⟩ = some (.int .i64 ((a' : Int) + 1)) ∧ w'.cell? ⟨wr.heap.size, 1, none⟩ = some (.int .i64 (n : Int)) ∧ Below w1.heap.size w1 w')) := ⟨fun w' hb' => ⟨(hb'.cell (p := ⟨bv, off + k, none⟩) (World.block_lt_of_cell? w4 _ p2)).trans p2, (hb'.cell (p := ⟨wr.heap.size, 0, none⟩) (World.block_lt_of_cell? w4 _ p0)).trans p0, (hb'.cell (p := ⟨wr.heap.size, 1, none⟩) (World.block_lt_of_cell? w4 _ p1)).trans p1, hbw4.trans (hb'.mono hs4)⟩⟩
        have HK2 : Box (∀ w5 w6, Below w4.heap.size w4 w5 → Below w1.heap.size w5 w6 → Lib.OthersKept 5 (some w1.heap.size) w5 w6 → (w6.cell? ⟨bv, off + k, none⟩ = some (.string x) ∧ w6.cell? ⟨wr.heap.size, 0, none⟩ = some (.int .i64 ((a' : Int) + 1)) ∧ w6.cell? ⟨wr.heap.size, 1, none⟩ = some (.int .i64 (n : Int)) ∧ Below w1.heap.size w1 w6)) := ⟨fun w5 w6 h5 h6 ho => by
          have e5 := (h5.block wr.heap.size (Array.getElem?_eq_some_iff.1 h4).1).trans h4
          have e6 := kept_heap ho e5 hne (by decide)
          have hb16 : Below w1.heap.size w1 w6 := (hbw4.trans (h5.mono hs4)).trans h6
          have hb06 : Below w.heap.size w w6 := hb1.trans (hb16.mono hsw)
          exact ⟨(hb06.cell (p := ⟨bv, off + k, none⟩) hbvl).trans hcv, by simp [World.cell?, e6], by simp [World.cell?, e6], hb16⟩⟩
        have HW5 : Box (∀ w', Below w4.heap.size w4 w' → Words w') := ⟨fun w' hb' => HW4.out.below hb' HW4.out.lt⟩
        have HB5 : Box (∀ w', Below w4.heap.size w4 w' → Lib.IsBuilderF 42 5 w1.heap.size w1.heap.size (Lib.byteCells (O ++ (pg.extract d (a' + 1)).data.toList)) w') := ⟨fun w' hb' => ib_below HB4.out hb'⟩
        have HL5 : Box ((Lib.byteCells (O ++ (pg.extract d (a' + 1)).data.toList)).length ≤ 2000000000) := ⟨by
          simp only [Lib.byteCells, List.length_map, List.length_append]
          rw [extract_list, List.length_take, List.length_drop, size_list]
          omega⟩
        have hwr : IntKind.i64.wrap (a' : Int) = (a' : Int) := by simp [IntKind.wrap, IntKind.bits, IntKind.signed]; omega
        have hwr2 : IntKind.i64.wrap ((a' : Int) + 1 - 1) = (a' : Int) := by rw [Int.add_sub_cancel]; exact hwr
        have k5 : (0 : Int) ≤ (a' : Int) := by omega
        have k6 : (a' : Int) < (pg.size : Int) := by omega
        have k7 : (k : Int) < (ls.length : Int) := by omega
        have k8 : (0 : Int) ≤ (k : Int) := by omega
        clear hA4 hob HB4 HB2 HW4 h4 hnew ho4 hb4 c0 c1 c2 HB
        go_wp2_with fail
        go_region_held3 (fun w' => w'.cell? ⟨bv, off + k, none⟩ = some (.string x) ∧ w'.cell? ⟨wr.heap.size, 0, none⟩ = some (.int .i64 ((a' : Int) + 1)) ∧ w'.cell? ⟨wr.heap.size, 1, none⟩ = some (.int .i64 (n : Int)) ∧ Below w1.heap.size w1 w')
          ((go_split_ands; first | exact HK.out _ ((Below.refl _ _).drew) | exact HK.out _ ((Below.refl _ _).drew.trans hb5) | exact HK2.out _ _ ((Below.refl _ _).drew.trans hb5) hb6 ho6))
          (first
            | (go_at_call 12; refine (pwritten_any x pg[a'] _ (HW5.out _ (Below.refl _ _).drew) hxs).mono ?_; rintro e w5 ⟨S5, rfl, hS5, hl5, hb5⟩)
            | (go_at_call 11; refine (Tryd.Builder_WriteString w1.heap.size w1.heap.size _ S5 _ (HB5.out _ ((Below.refl _ _).drew.trans hb5)) (by have := HL5.out; omega) (by have := hb5.size; have := hs4; simp at *; omega)).mono ?_; rintro e w6 ⟨rfl, hA6, hb6, ho6⟩))
        have hk6 := HK2.out _ _ ((Below.refl _ _).drew.trans hb5) hb6 ho6
        obtain ⟨_, q0, q1, hbw6⟩ := hk6
        have HB6 : Box (Lib.IsBuilderF 42 5 w1.heap.size w1.heap.size (Lib.byteCells (O ++ (pg.data.toList.drop d).take (a' + 1 - d) ++ wrS x.data.toList pg[a'])) w6) := ⟨by
          rw [← hS5, ← bcells_snoc]
          rw [extract_list] at hA6
          exact .inr hA6⟩
        clear hA6 hS5 HK HK2 HW5 HB5 HL5
        go_wp2
        go_roundg (ls.length - (k + 1))
        case measure => have := HLT.out; omega
        case rel => exact ⟨k + 1, a' + 1 + n, _, HLT.out, by go_num, by go_num, hbw6, HB6, HR2, by have := HLT.out; omega⟩
    · have hkl : k = ls.length := by omega
      have HE : Box (O ++ (pg.extract d pg.size).data.toList = T) := ⟨by
        have h := HR.out
        rw [hkl, List.drop_of_length_le (Nat.le_refl _)] at h
        rw [extract_list, List.take_of_length_le (by rw [List.length_drop, size_list]; exact Nat.le_refl _)]
        exact rep_end h⟩
      have hdl : d ≤ pg.size := by
        obtain ⟨_, _, _, _, _, _, h⟩ := HR.out.ex
        rw [size_list] at h
        exact h
      have k1 : (0 : Int) ≤ (d : Int) := by omega
      have k2 : (d : Int) ≤ (pg.size : Int) := by omega
      have HO2 : Box ((Lib.byteCells O).length ≤ 1000000000) := ⟨by simp only [Lib.byteCells, List.length_map]; omega⟩
      clear HR
      go_wp2_with fail
      refine (Tryd.Builder_WriteString w1.heap.size w1.heap.size _ (pg.extract d pg.size) _ HB.out (by have := HO2.out; rw [← size_list, extract_list, List.length_take, List.length_drop, size_list]; omega) hsz).mono ?_
      rintro e w4 ⟨rfl, hA4, hb4, ho4⟩
      have HB4 : Box (Lib.IsBuilderF 42 5 w1.heap.size w1.heap.size (Lib.byteCells T) w4) := ⟨by rw [← HE.out, ← bcells_snoc]; exact .inr hA4⟩
      have hbw4 := hbw.trans hb4
      clear hA4 ho4 HE
      go_wp2_with fail
      refine (Tryd.Builder_String w1.heap.size w1.heap.size _ _ HB4.out hbw4.size).mono ?_
      rintro e w5 ⟨rfl, hA5, hb5, ho5⟩
      have hbw5 := hbw4.trans hb5
      clear hA5 ho5
      go_wp2
      go_ret2
      exact ⟨_, rfl, rfl, hb1.trans (hbw5.mono hsw)⟩

end Go.Proofs.YtkmkhfgoihfkjaaDoor
